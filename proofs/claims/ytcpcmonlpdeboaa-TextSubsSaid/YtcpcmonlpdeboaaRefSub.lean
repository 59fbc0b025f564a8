/- Contracts of the document's far, Sub. -/
import Derived.Test.YtcpcmonlpdeboaaChars
namespace Go.Proofs.Ytcpcmonlpdeboaa
open Go.RowKit

def lo (f : Int) : Nat := (f - 1).toNat
def hi (f m : Int) : Nat := (f - 1 + m).toNat

/-- What is joined behind i characters. -/
def outK (s : ByteArray) (a b i : Nat) : ByteArray := s.extract (adv s 0 (min a i)) (adv s 0 (min (max a b) i))

theorem out_zero (s : ByteArray) (a b : Nat) : outK s a b 0 = ⟨#[]⟩ := by
  unfold outK
  rw [show min a 0 = 0 from by omega, show min (max a b) 0 = 0 from by omega]
  exact part_none s _ _ (Nat.le_refl _)

theorem out_in {s : ByteArray} {a b i : Nat} (h1 : a ≤ i) (h2 : i < b) {x : ByteArray} (hx : (chs s 0)[i]? = some x) (hi : i < cnt s 0) : outK s a b i ++ x = outK s a b (i + 1) := by
  rw [chs_get s 0 i hi] at hx
  injection hx with hx
  subst hx
  unfold outK
  rw [show min a i = a from by omega, show min a (i + 1) = a from by omega, show min (max a b) i = i from by omega, show min (max a b) (i + 1) = i + 1 from by omega]
  exact part_join s _ _ _ (adv_mono s 0 h1) (adv_mono s 0 (by omega))

theorem out_off {s : ByteArray} {a b i : Nat} (h : i < a ∨ b ≤ i) : outK s a b i = outK s a b (i + 1) := by
  unfold outK
  by_cases h1 : i < a
  · rw [show min a i = i from by omega, show min (max a b) i = i from by omega, show min a (i + 1) = i + 1 from by omega, show min (max a b) (i + 1) = i + 1 from by omega]
    rw [part_none s _ _ (Nat.le_refl _), part_none s _ _ (Nat.le_refl _)]
  · rw [show min a i = a from by omega, show min a (i + 1) = a from by omega, show min (max a b) i = max a b from by omega, show min (max a b) (i + 1) = max a b from by omega]

theorem adv_min (s : ByteArray) (x : Nat) : adv s 0 (min x (cnt s 0)) = adv s 0 x := by
  rcases Nat.lt_or_ge x (cnt s 0) with h | h
  · rw [show min x (cnt s 0) = x from by omega]
  · rw [show min x (cnt s 0) = cnt s 0 from by omega, adv_cnt s 0 _ (Nat.zero_le _) (Nat.le_refl _), adv_cnt s 0 x (Nat.zero_le _) h]

theorem out_end (s : ByteArray) (f m : Int) : outK s (lo f) (hi f m) (cnt s 0) = subB s f m := by
  unfold outK subB subN lo hi
  rw [adv_min, adv_min]
  by_cases h1 : m < 1
  · rw [if_pos h1, show max (f - 1).toNat (f - 1 + m).toNat = (f - 1).toNat from by omega]
    exact part_none s _ _ (Nat.le_refl _)
  · rw [if_neg h1]
    by_cases h2 : f < 1
    · rw [if_pos h2, show (f - 1).toNat = 0 from by omega]
      by_cases h3 : m - 1 + f < 1
      · rw [if_pos h3, show (f - 1 + m).toNat = 0 from by omega]
        exact part_none s _ _ (Nat.le_refl _)
      · rw [if_neg h3, show max 0 (f - 1 + m).toNat = 0 + (m - 1 + f).toNat from by omega]
    · rw [if_neg h2, show max (f - 1).toNat (f - 1 + m).toNat = (f - 1).toNat + m.toNat from by omega]

theorem out_size (s : ByteArray) (a b i : Nat) : (outK s a b i).size ≤ s.size := by
  unfold outK; rw [ByteArray.size_extract]; omega

set_option maxRecDepth 100000 in
theorem far_yes (p f m : Int) (hp : 0 ≤ p ∧ p ≤ 9223372036854775807) (hm : 0 ≤ m ∧ m ≤ 9223372036854775807) (w : World) (h : p - m < f) :
    Calls Try.prog 24 #[.int .i64 p, .int .i64 f, .int .i64 m] w fun e w' => e = .returned (.bool true) ∧ w = w' := by
  obtain ⟨p1, p2⟩ := hp
  obtain ⟨m1, m2⟩ := hm
  go_enter Try.func24, Try.ntmps24
  go_wp2_with fail
  go_ret
  exact ⟨rfl, rfl⟩

set_option maxRecDepth 100000 in
theorem far_no (p f m : Int) (hp : 0 ≤ p ∧ p ≤ 9223372036854775807) (hm : 0 ≤ m ∧ m ≤ 9223372036854775807) (w : World) (h : ¬ p - m < f) :
    Calls Try.prog 24 #[.int .i64 p, .int .i64 f, .int .i64 m] w fun e w' => e = .returned (.bool false) ∧ w = w' := by
  obtain ⟨p1, p2⟩ := hp
  obtain ⟨m1, m2⟩ := hm
  go_enter Try.func24, Try.ntmps24
  go_wp2_with fail
  go_ret
  exact ⟨rfl, rfl⟩

set_option maxRecDepth 100000 in
set_option maxHeartbeats 4000000 in
theorem refSub_any (s : ByteArray) (f m : Int) (hs : s.size ≤ 1048576) (hf : -9223372036854775808 ≤ f ∧ f ≤ 9223372036854775807) (hm : -9223372036854775808 ≤ m ∧ m ≤ 9223372036854775807) (w : World) :
    Calls Try.prog 15 #[.string s, .int .i64 f, .int .i64 m] w fun e w' => e = .returned (.string (subB s f m)) ∧ Below w.heap.size w w' := by
  obtain ⟨f1, f2⟩ := hf
  obtain ⟨m1, m2⟩ := hm
  have RC := Lib.hid (fun w => refChars_any s hs w)
  have OE := Lib.hid (out_end s f m)
  have OS := Lib.hid (fun i => out_size s (lo f) (hi f m) i)
  have O0 := Lib.hid (out_zero s (lo f) (hi f m))
  have OI := Lib.hid (fun i h1 h2 x hx hic => @out_in s (lo f) (hi f m) i h1 h2 x hx hic)
  have OF := Lib.hid (fun i h => @out_off s (lo f) (hi f m) i h)
  have hL : (f < 1 ∧ lo f = 0) ∨ (1 ≤ f ∧ (lo f : Int) = f - 1) := by unfold lo; omega
  have hH : (f - 1 + m < 0 ∧ hi f m = 0) ∨ (hi f m : Int) = f - 1 + m := by unfold hi; omega
  generalize lo f = L at *
  generalize hi f m = H at *
  have HL := Lib.hid hL; clear hL
  have HH := Lib.hid hH; clear hH
  go_enter Try.func15, Try.ntmps15
  go_wp2_with fail
  refine (RC.out _).mono ?_
  rintro e w1 ⟨p, n, c, rfl, hr, hn, hb⟩
  have HR := Lib.hid hr; clear hr
  have HB := Lib.hid hb; clear hb
  have hn1 := cnt_le s _ 0 (Nat.le_refl _)
  have hnb : n ≤ 1048576 := by omega
  have HN := Lib.hid hn; clear hn hn1
  have hc1 := HR.out.cap
  have hc2 := HR.out.big
  go_wp2_with fail
  go_loop [8, 9] (fun x y => ∃ k : Nat, y = .int .i64 k ∧ k ≤ n ∧ x = .string (outK s L H k)) (fun _ y => n - (intOf y).toNat)
  case atStart => exact ⟨0, rfl, by omega, str_ext O0.out.symm⟩
  case round =>
    obtain ⟨k, rfl, hk, rfl⟩ := hrel
    by_cases hlt : k < n
    · obtain ⟨b1, o1, x, rfl, hx, hcell⟩ := HR.out.at_ hlt
      have HX := Lib.hid hx; clear hx
      have hsz := OS.out k
      have hcs : (1 ≤ f ∧ ((k : Int) + 1 < f ∨ (f ≤ (k : Int) + 1 ∧ m ≤ 0) ∨ (f ≤ (k : Int) + 1 ∧ 0 < m ∧ (k : Int) + 1 - f < m) ∨ (f ≤ (k : Int) + 1 ∧ 0 < m ∧ ¬ (k : Int) + 1 - f < m))) ∨
          (f < 1 ∧ (m ≤ 0 ∨ (0 < m ∧ (k : Int) + 1 - m < f) ∨ (0 < m ∧ ¬ (k : Int) + 1 - m < f))) := by omega
      rcases hcs with ⟨h1, h2 | ⟨h2, h3⟩ | ⟨h2, h3, h4⟩ | ⟨h2, h3, h4⟩⟩ | ⟨h1, h2 | ⟨h2, h3⟩ | ⟨h2, h3⟩⟩
      · have HT := Lib.hid (OF.out k (by have := HL.out; have := HH.out; omega))
        go_wp2_with fail
        go_round
        case rel => exact ⟨k + 1, by go_num, by omega, str_ext HT.out⟩
        case measure => simp [intOf]; omega
      · have HT := Lib.hid (OF.out k (by have := HL.out; have := HH.out; omega))
        go_wp2_with fail
        go_round
        case rel => exact ⟨k + 1, by go_num, by omega, str_ext HT.out⟩
        case measure => simp [intOf]; omega
      · have HT := Lib.hid (OI.out k (by have := HL.out; omega) (by have := HH.out; omega) x HX.out (by have := HN.out; omega))
        have hxs : (outK s L H k).size + x.size ≤ s.size := by
          have h := congrArg ByteArray.size HT.out
          rw [ByteArray.size_append] at h
          have := OS.out (k + 1)
          omega
        go_wp2_with fail
        go_round
        case rel => exact ⟨k + 1, by go_num, by omega, str_ext HT.out⟩
        case measure => simp [intOf]; omega
      · have HT := Lib.hid (OF.out k (by have := HL.out; have := HH.out; omega))
        go_wp2_with fail
        go_round
        case rel => exact ⟨k + 1, by go_num, by omega, str_ext HT.out⟩
        case measure => simp [intOf]; omega
      · have HT := Lib.hid (OF.out k (by have := HL.out; have := HH.out; omega))
        go_wp2_with fail
        go_round
        case rel => exact ⟨k + 1, by go_num, by omega, str_ext HT.out⟩
        case measure => simp [intOf]; omega
      · have HT := Lib.hid (OI.out k (by have := HL.out; omega) (by have := HH.out; omega) x HX.out (by have := HN.out; omega))
        have hxs : (outK s L H k).size + x.size ≤ s.size := by
          have h := congrArg ByteArray.size HT.out
          rw [ByteArray.size_append] at h
          have := OS.out (k + 1)
          omega
        go_wp2_with fail
        refine (far_yes ((k : Int) + 1) f m (by omega) (by omega) _ (by omega)).mono ?_
        rintro e w2 ⟨rfl, rfl⟩
        go_wp2_with fail
        go_round
        case rel => exact ⟨k + 1, by go_num, by omega, str_ext HT.out⟩
        case measure => simp [intOf]; omega
      · have HT := Lib.hid (OF.out k (by have := HL.out; have := HH.out; omega))
        go_wp2_with fail
        refine (far_no ((k : Int) + 1) f m (by omega) (by omega) _ (by omega)).mono ?_
        rintro e w2 ⟨rfl, rfl⟩
        go_wp2_with fail
        go_round
        case rel => exact ⟨k + 1, by go_num, by omega, str_ext HT.out⟩
        case measure => simp [intOf]; omega
    · obtain rfl : k = n := by omega
      go_wp2_with fail
      go_ret
      exact ⟨ret_str (by rw [HN.out]; exact OE.out), HB.out⟩

end Go.Proofs.Ytcpcmonlpdeboaa
