/- Contracts of Compare: the program's, and the document's answer. -/
import Derived.Test.YtpmfkmolbioomaaDoorBase
import Derived.Test.YtpmfkmolbioomaaDoorShelf
import Derived.Laws.Strings3
namespace Go.Proofs.YtpmfkmolbioomaaDoor
open Go.RowKit
open Go.Lib (compareBytes)

theorem cmp_self : ∀ a : List UInt8, compareBytes a a = 0
  | [] => rfl
  | x :: l => by
    unfold compareBytes
    rw [if_neg (by simp), if_neg (by simp)]
    exact cmp_self l

theorem cmp_turn : ∀ a b : List UInt8, compareBytes b a = -compareBytes a b
  | [], [] => rfl
  | [], _ :: _ => rfl
  | _ :: _, [] => rfl
  | x :: l, y :: m => by
    unfold compareBytes
    by_cases h1 : x < y
    · have h2 : ¬ y < x := by rw [UInt8.lt_iff_toNat_lt] at *; omega
      rw [if_pos h1, if_neg h2, if_pos h1]
      rfl
    · by_cases h2 : y < x
      · rw [if_pos h2, if_neg h1, if_pos h2]
      · rw [if_neg h1, if_neg h2, if_neg h2, if_neg h1]
        exact cmp_turn l m

theorem cmp_cases (a b : List UInt8) : compareBytes a b = -1 ∨ compareBytes a b = 0 ∨ compareBytes a b = 1 := by
  induction a generalizing b with
  | nil => cases b with
    | nil => exact Or.inr (Or.inl rfl)
    | cons y m => exact Or.inl rfl
  | cons x l ih => cases b with
    | nil => exact Or.inr (Or.inr rfl)
    | cons y m =>
      unfold compareBytes
      by_cases h1 : x < y
      · rw [if_pos h1]; exact Or.inl rfl
      · by_cases h2 : y < x
        · rw [if_neg h1, if_pos h2]; exact Or.inr (Or.inr rfl)
        · rw [if_neg h1, if_neg h2]; exact ih m

theorem drop_cons (s : ByteArray) (k : Nat) (h : k < s.size) : s.data.toList.drop k = s[k] :: s.data.toList.drop (k + 1) := by
  rw [List.drop_eq_getElem_cons (by rw [← Lib.size_eq]; exact h)]
  rfl

/-- The rest decides, from place k on. -/
theorem cmp_eqs {a b : ByteArray} {k : Nat} (ha : k < a.size) (hb : k < b.size) (h : a[k].toNat = b[k].toNat) :
    compareBytes (a.data.toList.drop k) (b.data.toList.drop k) = compareBytes (a.data.toList.drop (k + 1)) (b.data.toList.drop (k + 1)) := by
  rw [drop_cons a k ha, drop_cons b k hb]
  conv => lhs; unfold compareBytes
  rw [if_neg (by rw [UInt8.lt_iff_toNat_lt]; omega), if_neg (by rw [UInt8.lt_iff_toNat_lt]; omega)]
theorem cmp_lt {a b : ByteArray} {k : Nat} (ha : k < a.size) (hb : k < b.size) (h : a[k].toNat < b[k].toNat) :
    compareBytes (a.data.toList.drop k) (b.data.toList.drop k) = -1 := by
  rw [drop_cons a k ha, drop_cons b k hb]
  unfold compareBytes
  rw [if_pos (by rw [UInt8.lt_iff_toNat_lt]; omega)]
theorem cmp_gt {a b : ByteArray} {k : Nat} (ha : k < a.size) (hb : k < b.size) (h : b[k].toNat < a[k].toNat) :
    compareBytes (a.data.toList.drop k) (b.data.toList.drop k) = 1 := by
  rw [drop_cons a k ha, drop_cons b k hb]
  unfold compareBytes
  rw [if_neg (by rw [UInt8.lt_iff_toNat_lt]; omega), if_pos (by rw [UInt8.lt_iff_toNat_lt]; omega)]
theorem cmp_end {a b : ByteArray} {k : Nat} (ha : k ≤ a.size) (hb : k ≤ b.size) (h : ¬ (k < a.size ∧ k < b.size)) :
    compareBytes (a.data.toList.drop k) (b.data.toList.drop k) = if a.size = b.size then 0 else if a.size < b.size then -1 else 1 := by
  have nil : ∀ s : ByteArray, s.size ≤ k → s.data.toList.drop k = [] := fun s hs => List.drop_of_length_le (by rw [← Lib.size_eq]; exact hs)
  rcases Nat.lt_or_ge k a.size with h1 | h1
  · rw [drop_cons a k h1, nil b (by omega), if_neg (by omega), if_neg (by omega)]
    rfl
  · rw [nil a h1]
    rcases Nat.lt_or_ge k b.size with h2 | h2
    · rw [drop_cons b k h2, if_neg (by omega), if_pos (by omega)]
      rfl
    · rw [nil b h2, if_pos (by omega)]
      rfl

theorem compare_any (a b : ByteArray) (w : World) :
    Calls Tryd.prog 27 #[.string a, .string b] w fun e w' => e = .returned (.int .i64 (compareBytes a.data.toList b.data.toList)) ∧ w = w' := by
  go_enter Tryd.func27, Tryd.ntmps27
  go_wp2_with fail
  refine (Tryd.strings_Compare a b _).mono ?_
  rintro e w1 ⟨rfl, rfl⟩
  go_wp2_with fail
  go_ret
  exact ⟨rfl, rfl⟩

set_option maxRecDepth 100000 in
set_option maxHeartbeats 1000000 in
theorem refCompare_any (a b : ByteArray) (ha : a.size ≤ maxLen) (hb : b.size ≤ maxLen) (w : World) :
    Calls Tryd.prog 30 #[.string a, .string b] w fun e w' => e = .returned (.int .i64 (compareBytes a.data.toList b.data.toList)) ∧ Below w.heap.size w w' := by
  unfold maxLen at ha hb
  obtain ⟨C, hC⟩ : ∃ C, C = compareBytes a.data.toList b.data.toList := ⟨_, rfl⟩
  rw [← hC]
  have HC := Lib.hid hC; clear hC
  go_enter Tryd.func30, Tryd.ntmps30
  go_wp2_with fail
  go_loopw [5] (fun x wr => ∃ k r : Nat, x = .int .i64 k ∧ k ≤ a.size ∧ k ≤ b.size ∧ wr = w.drewN r ∧ Hid (C = compareBytes (a.data.toList.drop k) (b.data.toList.drop k))) (fun x _ => a.size - (intOf x).toNat)
  case atStart => exact ⟨0, 0, rfl, by omega, by omega, rfl, Lib.hid HC.out⟩
  case round =>
    obtain ⟨k, r, rfl, hka, hkb, rfl, hc⟩ := hrel
    by_cases hlt : k < a.size ∧ k < b.size
    · obtain ⟨h1, h2⟩ := hlt
      have hi0 : (0 : Int) ≤ k := by omega
      have hi1 : (k : Int) < a.size := by omega
      have hi2 : (k : Int) < b.size := by omega
      rcases Nat.lt_trichotomy a[k].toNat b[k].toNat with h | h | h
      · have HA := Lib.hid (hc.out.trans (cmp_lt h1 h2 h))
        have g1 : ((a[k].toNat : Int) == (b[k].toNat : Int)) = false := by rw [beq_eq_false_iff_ne]; omega
        have g2 : ((a[k].toNat : Int) != (b[k].toNat : Int)) = true := by rw [bne_iff_ne]; omega
        go_wp2_with fail
        go_quiet (fail)
        go_wp2_with fail
        go_quiet (fail)
        go_wp2_with fail
        go_ret
        exact ⟨ret_i64 HA.out.symm, Below.drewN' (Below.drewN' (Below.drewN' (Below.refl _ _) _) _) _⟩
      · have HA := Lib.hid (hc.out.trans (cmp_eqs h1 h2 h))
        have g1 : ((a[k].toNat : Int) == (b[k].toNat : Int)) = true := by rw [beq_iff_eq]; omega
        have g2 : ((a[k].toNat : Int) != (b[k].toNat : Int)) = false := by rw [bne, g1]; rfl
        clear h
        go_wp2_with fail
        go_quiet (fail)
        go_wp2_with fail
        go_roundw
        case rel => exact ⟨k + 1, _, by go_num, by omega, by omega, rfl, HA⟩
        case measure => simp [intOf]; omega
      · have HA := Lib.hid (hc.out.trans (cmp_gt h1 h2 h))
        have g1 : ((a[k].toNat : Int) == (b[k].toNat : Int)) = false := by rw [beq_eq_false_iff_ne]; omega
        have g2 : ((a[k].toNat : Int) != (b[k].toNat : Int)) = true := by rw [bne_iff_ne]; omega
        have g3 : ¬ a[k].toNat < b[k].toNat := by omega
        go_wp2_with fail
        go_quiet (fail)
        go_wp2_with fail
        go_quiet (fail)
        go_wp2_with fail
        go_ret
        exact ⟨ret_i64 HA.out.symm, Below.drewN' (Below.drewN' (Below.drewN' (Below.refl _ _) _) _) _⟩
    · have HA := Lib.hid (hc.out.trans (cmp_end hka hkb hlt))
      rcases Nat.lt_trichotomy a.size b.size with h | h | h
      · have HR := Lib.hid (show C = -1 from by rw [HA.out, if_neg (by omega), if_pos h])
        have g1 : ((a.size : Int) == (b.size : Int)) = false := by rw [beq_eq_false_iff_ne]; omega
        have hk : ¬ k < a.size := by omega
        clear hlt
        go_wp2_with fail
        go_ret
        exact ⟨ret_i64 HR.out.symm, Below.drewN' (Below.refl _ _) _⟩
      · have HR := Lib.hid (show C = 0 from by rw [HA.out, if_pos h])
        have g1 : ((a.size : Int) == (b.size : Int)) = true := by rw [beq_iff_eq]; omega
        have hk : ¬ k < a.size := by omega
        clear hlt h
        go_wp2_with fail
        go_ret
        exact ⟨ret_i64 HR.out.symm, Below.drewN' (Below.refl _ _) _⟩
      · have HR := Lib.hid (show C = 1 from by rw [HA.out, if_neg (by omega), if_neg (by omega)])
        have g1 : ((a.size : Int) == (b.size : Int)) = false := by rw [beq_eq_false_iff_ne]; omega
        have hk : ¬ k < b.size := by omega
        have hk2 : k < a.size := by omega
        clear hlt
        go_wp2_with fail
        go_ret
        exact ⟨ret_i64 HR.out.symm, Below.drewN' (Below.refl _ _) _⟩
end Go.Proofs.YtpmfkmolbioomaaDoor
