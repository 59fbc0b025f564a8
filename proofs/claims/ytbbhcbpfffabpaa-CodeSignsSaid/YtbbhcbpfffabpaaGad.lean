/- Merged by program: T3Words, T3Trim, T3Compare. -/
import Derived.Shelf.Strings.SlTrimAscii
import Derived.Laws.Strings3
import Derived.Test.YtbbhcbpfffabpaaGaa
import Derived.Test.YtbbhcbpfffabpaaGac
/- Words and blanks, byte by byte; the document's Blank, Words, Trim. -/
namespace Go.Proofs.Ytbbhcbpfffabpaa.T3
open Go.Proofs.Ytbbhcbpfffabpaa Go.Proofs
open Go.RowKit

def blankB (c : UInt8) : Bool := c.toNat == 32 || c.toNat == 9 || c.toNat == 10
def byteAt (s : ByteArray) (i : Nat) : UInt8 := s.get! i

theorem byteAt_eq (s : ByteArray) (i : Nat) (h : i < s.size) : byteAt s i = s[i] := by
  have := get_at s i h
  rw [Nat.add_zero] at this
  exact this

set_option maxRecDepth 100000 in
theorem blank_any (c : UInt8) (w : World) :
    Calls Try.prog 84 #[.int .u8 (c.toNat : Int)] w fun e w' => e = .returned (.bool (blankB c)) ∧ w = w' := by
  have hc : c.toNat < 256 := c.toNat_lt
  generalize hn : c.toNat = n at *
  have h : blankB c = (n == 32 || n == 9 || n == 10) := by unfold blankB; rw [hn]
  rw [h]; clear h hn
  by_cases h1 : n = 32
  · subst h1
    go_enter Try.func84, Try.ntmps84
    go_wp2_with fail
    go_ret
    exact ⟨rfl, rfl⟩
  · by_cases h2 : n = 9
    · subst h2
      go_enter Try.func84, Try.ntmps84
      go_wp2_with fail
      go_ret
      exact ⟨rfl, rfl⟩
    · by_cases h3 : n = 10
      · subst h3
        go_enter Try.func84, Try.ntmps84
        go_wp2_with fail
        go_ret
        exact ⟨rfl, rfl⟩
      · have e : (n == 32 || n == 9 || n == 10) = false := by simp only [Bool.or_eq_false_iff, beq_eq_false_iff_ne]; omega
        rw [e]
        have g1 : ((n : Int) == 32) = false := by rw [beq_eq_false_iff_ne]; omega
        have g2 : ((n : Int) == 9) = false := by rw [beq_eq_false_iff_ne]; omega
        have g3 : ((n : Int) == 10) = false := by rw [beq_eq_false_iff_ne]; omega
        clear e h1 h2 h3
        go_enter Try.func84, Try.ntmps84
        go_wp2_with fail
        go_ret
        exact ⟨rfl, rfl⟩

end Go.Proofs.Ytbbhcbpfffabpaa.T3

/- Trim: the program's, and the document's answer. -/
namespace Go.Proofs.Ytbbhcbpfffabpaa.T3
open Go.Proofs.Ytbbhcbpfffabpaa Go.Proofs
open Go.RowKit
open Go.Lib (trimS trimLeftS trimRightS)

def trimB (s : ByteArray) : ByteArray := ⟨(trimS s.data.toList [32, 9, 10]).toArray⟩

theorem blank_mem (c : UInt8) : ([32, 9, 10] : List UInt8).contains c = blankB c := by
  unfold blankB
  simp only [List.contains, List.elem]
  have e : ∀ k : UInt8, (c == k) = (c.toNat == k.toNat) := fun k => by
    rw [Bool.eq_iff_iff, beq_iff_eq, beq_iff_eq]
    exact ⟨fun h => by rw [h], fun h => UInt8.toNat_inj.1 h⟩
  rw [e 32, e 9, e 10]
  show (match c.toNat == 32 with | true => true | false => match c.toNat == 9 with | true => true | false => match c.toNat == 10 with | true => true | false => false) = (c.toNat == 32 || c.toNat == 9 || c.toNat == 10)
  cases c.toNat == 32 <;> cases c.toNat == 9 <;> cases c.toNat == 10 <;> rfl

theorem at_byte {s : ByteArray} {j : Nat} {b : UInt8} (h : s.data.toList[j]? = some b) : j < s.size ∧ byteAt s j = b := by
  have hj : j < s.data.toList.length := by
    rcases Nat.lt_or_ge j s.data.toList.length with h' | h'
    · exact h'
    · rw [List.getElem?_eq_none h'] at h; cases h
  have hs : j < s.size := by rw [Lib.size_eq]; exact hj
  refine ⟨hs, ?_⟩
  rw [byteAt_eq s j hs]
  rw [List.getElem?_eq_getElem hj] at h
  injection h

/-- The text without blanks at both ends, from where they end to where they begin. -/
theorem trim_is (s : ByteArray) (a b : Nat) (hab : a ≤ b) (hb : b ≤ s.size) (h1 : ∀ j, j < a → blankB (byteAt s j) = true) (h2 : ∀ j, b ≤ j → j < s.size → blankB (byteAt s j) = true)
    (h3 : a < b → blankB (byteAt s a) = false) (h4 : a < b → blankB (byteAt s (b - 1)) = false) (h5 : a < s.size → blankB (byteAt s a) = false) : s.extract a b = trimB s := by
  unfold trimB trimS
  apply bytes_ext
  rw [Lib.extract_data]
  rcases Nat.lt_or_ge a b with h | h
  · rw [Lib.trimRightS_take s.data.toList [32, 9, 10] b (by rw [← Lib.size_eq]; exact hb) (fun j c hj hc => by
        obtain ⟨hjs, e⟩ := at_byte hc
        rw [blank_mem, ← e]; exact h2 j hj hjs) (fun c _ hc => by
        obtain ⟨_, e⟩ := at_byte hc
        rw [blank_mem, ← e]; exact h4 h)]
    rw [Lib.trimLeftS_drop (s.data.toList.take b) [32, 9, 10] a (by rw [List.length_take, ← Lib.size_eq]; omega) (fun j c hj hc => by
        rw [List.getElem?_take_of_lt (by omega)] at hc
        obtain ⟨_, e⟩ := at_byte hc
        rw [blank_mem, ← e]; exact h1 j hj) (fun c hc => by
        rw [List.getElem?_take_of_lt h] at hc
        obtain ⟨_, e⟩ := at_byte hc
        rw [blank_mem, ← e]; exact h3 h)]
    rw [List.drop_take]
  · obtain rfl : a = b := by omega
    have ha : ¬ a < s.size := fun hlt => by
      have e1 := h5 hlt
      rw [h2 a (Nat.le_refl _) hlt] at e1
      cases e1
    rw [Lib.trimRightS_take s.data.toList [32, 9, 10] 0 (Nat.zero_le _) (fun j c _ hc => by
        obtain ⟨hjs, e⟩ := at_byte hc
        rw [blank_mem, ← e]; exact h1 j (by omega)) (fun c h0 _ => absurd h0 (Nat.lt_irrefl _))]
    rw [Nat.sub_self]
    simp [trimLeftS]

theorem part_byte (s : ByteArray) (a b i : Nat) (hb : b ≤ s.size) (h : i < (s.extract a b).size) : (s.extract a b)[i] = byteAt s (a + i) := by
  have hi : i < b - a := by rw [part_size s a b hb] at h; exact h
  have h1 : (s.extract a b).data.toList[i]? = some (s.extract a b)[i] := by
    rw [List.getElem?_eq_getElem (by rw [← Lib.size_eq]; exact h)]; rfl
  rw [Lib.extract_data, List.getElem?_take_of_lt hi, List.getElem?_drop] at h1
  exact (at_byte h1).2.symm

theorem part_byte_of {s v : ByteArray} {a b : Nat} (hv : v = s.extract a b) (hb : b ≤ s.size) (i : Nat) (h : i < v.size) : v[i] = byteAt s (a + i) := by
  subst hv
  exact part_byte s a b i hb h

set_option maxRecDepth 100000 in
set_option maxHeartbeats 1000000 in
theorem refTrim_any (s : ByteArray) (hs : s.size ≤ maxLen) (w : World) :
    Calls Try.prog 68 #[.string s] w fun e w' => e = .returned (.string (trimB s)) ∧ w = w' := by
  unfold maxLen at hs
  have HA := Lib.hid (part_all s)
  go_enter Try.func68, Try.ntmps68
  go_wp2_with fail
  go_loop [0] (fun x => ∃ (a : Nat) (u : ByteArray), x = .string u ∧ Hid (u = s.extract a s.size) ∧ a ≤ s.size ∧ u.size ≤ s.size - a ∧ s.size - a ≤ u.size ∧ Hid (∀ j, j < a → blankB (byteAt s j) = true)) (fun x => match x with | .string t => t.size | _ => 0)
  case atStart => exact ⟨0, s, rfl, Lib.hid HA.out.symm, by omega, by omega, by omega, Lib.hid (fun j h => absurd h (Nat.not_lt_zero _))⟩
  case round =>
    obtain ⟨a, u, rfl, hu, ha, hz1, hz2, hbl⟩ := hrel
    by_cases hlt : 0 < u.size
    · have BL := Lib.hid (fun w => blank_any u[0] w)
      have HBY := Lib.hid (show u[0] = byteAt s a from part_byte_of hu.out (Nat.le_refl _) 0 hlt)
      cases hb : blankB u[0]
      · rw [hb] at BL
        have HF := Lib.hid (hb.symm.trans (by rw [HBY.out]) : false = blankB (byteAt s a))
        clear hb
        go_wp2_with fail
        refine (BL.out _).mono ?_
        rintro e w1 ⟨rfl, rfl⟩
        have HC := Lib.hid (show a < s.size → blankB (byteAt s a) = false from fun _ => HF.out.symm)
        go_wp2_with fail
        go_loop [0] (fun x => ∃ (b : Nat) (v : ByteArray), x = .string v ∧ Hid (v = s.extract a b) ∧ a ≤ b ∧ b ≤ s.size ∧ v.size ≤ b - a ∧ b - a ≤ v.size ∧ Hid (∀ j, b ≤ j → j < s.size → blankB (byteAt s j) = true)) (fun x => match x with | .string t => t.size | _ => 0)
        case atStart => exact ⟨s.size, u, rfl, hu, ha, by omega, by omega, by omega, Lib.hid (fun j h1 h2 => by omega)⟩
        case round =>
          obtain ⟨b, v, rfl, hv, hab, hbs, hy1, hy2, hbr⟩ := hrel
          by_cases hlt2 : 0 < v.size
          · have hi : v.size - 1 < v.size := by omega
            have BL2 := Lib.hid (fun w => blank_any (v[v.size - 1]'hi) w)
            have HBY2 := Lib.hid (show v[v.size - 1]'hi = byteAt s (b - 1) from by
              rw [part_byte_of hv.out hbs (v.size - 1) hi, show a + (v.size - 1) = b - 1 from by omega])
            cases hb2 : blankB (v[v.size - 1]'hi)
            · rw [hb2] at BL2
              have HF2 := Lib.hid (hb2.symm.trans (by rw [HBY2.out]) : false = blankB (byteAt s (b - 1)))
              clear hb2
              go_wp2_with fail
              refine (BL2.out _).mono ?_
              rintro e w1 ⟨rfl, rfl⟩
              go_wp2_with fail
              go_ret
              exact ⟨ret_str (by rw [hv.out]; exact trim_is s a b hab hbs hbl.out hbr.out (fun h => HC.out (by omega)) (fun _ => HF2.out.symm) HC.out), rfl⟩
            · rw [hb2] at BL2
              have HF2 := Lib.hid (hb2.symm.trans (by rw [HBY2.out]) : true = blankB (byteAt s (b - 1)))
              clear hb2
              go_wp2_with fail
              refine (BL2.out _).mono ?_
              rintro e w1 ⟨rfl, rfl⟩
              go_wp2_with fail
              go_round
              case rel =>
                refine ⟨b - 1, _, rfl, Lib.hid ?_, by omega, by omega, ?_, ?_, Lib.hid (fun j h1 h2 => ?_)⟩
                · rw [hv.out, part_part s a b _ _ (by have := part_size s a b hbs; omega)]
                  rw [part_size s a b hbs, Nat.add_zero, show a + (b - a - 1) = b - 1 from by omega]
                · rw [ByteArray.size_extract]; omega
                · rw [ByteArray.size_extract]; omega
                · rcases Nat.lt_or_ge j b with h | h
                  · obtain rfl : j = b - 1 := by omega
                    exact HF2.out.symm
                  · exact hbr.out j h h2
              case measure => simp only [ByteArray.size_extract]; omega
          · obtain rfl : a = b := by omega
            go_wp2_with fail
            go_ret
            exact ⟨ret_str (by rw [hv.out]; exact trim_is s a a hab hbs hbl.out hbr.out (fun h => absurd h (Nat.lt_irrefl _)) (fun h => absurd h (Nat.lt_irrefl _)) HC.out), rfl⟩
      · rw [hb] at BL
        have HF := Lib.hid (hb.symm.trans (by rw [HBY.out]) : true = blankB (byteAt s a))
        clear hb
        go_wp2_with fail
        refine (BL.out _).mono ?_
        rintro e w1 ⟨rfl, rfl⟩
        go_wp2_with fail
        go_round
        case rel =>
          refine ⟨a + 1, _, rfl, Lib.hid ?_, by omega, ?_, ?_, Lib.hid (fun j hj => ?_)⟩
          · rw [hu.out, part_part s a s.size _ _ (by rw [part_size s a s.size (Nat.le_refl _)]; omega)]
            rw [part_size s a s.size (Nat.le_refl _), show a + (s.size - a) = s.size from by omega]
          · rw [ByteArray.size_extract]; omega
          · rw [ByteArray.size_extract]; omega
          · rcases Nat.lt_or_ge j a with h | h
            · exact hbl.out j h
            · obtain rfl : j = a := by omega
              exact HF.out.symm
        case measure => simp only [ByteArray.size_extract]; omega
    · have HC := Lib.hid (show a < s.size → blankB (byteAt s a) = false from fun h => by omega)
      go_wp2_with fail
      go_loop [0] (fun x => ∃ (b : Nat) (v : ByteArray), x = .string v ∧ Hid (v = s.extract a b) ∧ a ≤ b ∧ b ≤ s.size ∧ v.size ≤ b - a ∧ b - a ≤ v.size ∧ Hid (∀ j, b ≤ j → j < s.size → blankB (byteAt s j) = true)) (fun x => match x with | .string t => t.size | _ => 0)
      case atStart => exact ⟨s.size, u, rfl, hu, ha, by omega, by omega, by omega, Lib.hid (fun j h1 h2 => by omega)⟩
      case round =>
        obtain ⟨b, v, rfl, hv, hab, hbs, hy1, hy2, hbr⟩ := hrel
        by_cases hlt2 : 0 < v.size
        · exfalso; omega
        · obtain rfl : a = b := by omega
          go_wp2_with fail
          go_ret
          exact ⟨ret_str (by rw [hv.out]; exact trim_is s a a hab hbs hbl.out hbr.out (fun h => absurd h (Nat.lt_irrefl _)) (fun h => absurd h (Nat.lt_irrefl _)) HC.out), rfl⟩

end Go.Proofs.Ytbbhcbpfffabpaa.T3

/- Contracts of Compare: the program's, and the document's answer. -/
namespace Go.Proofs.Ytbbhcbpfffabpaa.T3
open Go.Proofs.Ytbbhcbpfffabpaa Go.Proofs
open Go.RowKit
open Go.Lib (compareBytes)

theorem cmp_self : ∀ a : List UInt8, compareBytes a a = 0
  | [] => rfl
  | x :: l => by
    unfold compareBytes
    rw [if_neg (by simp), if_neg (by simp)]
    exact cmp_self l

theorem cmp_turn : ∀ a b : List UInt8, compareBytes b a = -compareBytes a b
  | [], [] => rfl
  | [], _ :: _ => rfl
  | _ :: _, [] => rfl
  | x :: l, y :: m => by
    unfold compareBytes
    by_cases h1 : x < y
    · have h2 : ¬ y < x := by rw [UInt8.lt_iff_toNat_lt] at *; omega
      rw [if_pos h1, if_neg h2, if_pos h1]
      rfl
    · by_cases h2 : y < x
      · rw [if_pos h2, if_neg h1, if_pos h2]
      · rw [if_neg h1, if_neg h2, if_neg h2, if_neg h1]
        exact cmp_turn l m

theorem cmp_cases (a b : List UInt8) : compareBytes a b = -1 ∨ compareBytes a b = 0 ∨ compareBytes a b = 1 := by
  induction a generalizing b with
  | nil => cases b with
    | nil => exact Or.inr (Or.inl rfl)
    | cons y m => exact Or.inl rfl
  | cons x l ih => cases b with
    | nil => exact Or.inr (Or.inr rfl)
    | cons y m =>
      unfold compareBytes
      by_cases h1 : x < y
      · rw [if_pos h1]; exact Or.inl rfl
      · by_cases h2 : y < x
        · rw [if_neg h1, if_pos h2]; exact Or.inr (Or.inr rfl)
        · rw [if_neg h1, if_neg h2]; exact ih m

theorem drop_cons (s : ByteArray) (k : Nat) (h : k < s.size) : s.data.toList.drop k = s[k] :: s.data.toList.drop (k + 1) := by
  rw [List.drop_eq_getElem_cons (by rw [← Lib.size_eq]; exact h)]
  rfl

/-- The rest decides, from place k on. -/
theorem cmp_eqs {a b : ByteArray} {k : Nat} (ha : k < a.size) (hb : k < b.size) (h : a[k].toNat = b[k].toNat) :
    compareBytes (a.data.toList.drop k) (b.data.toList.drop k) = compareBytes (a.data.toList.drop (k + 1)) (b.data.toList.drop (k + 1)) := by
  rw [drop_cons a k ha, drop_cons b k hb]
  conv => lhs; unfold compareBytes
  rw [if_neg (by rw [UInt8.lt_iff_toNat_lt]; omega), if_neg (by rw [UInt8.lt_iff_toNat_lt]; omega)]
theorem cmp_lt {a b : ByteArray} {k : Nat} (ha : k < a.size) (hb : k < b.size) (h : a[k].toNat < b[k].toNat) :
    compareBytes (a.data.toList.drop k) (b.data.toList.drop k) = -1 := by
  rw [drop_cons a k ha, drop_cons b k hb]
  unfold compareBytes
  rw [if_pos (by rw [UInt8.lt_iff_toNat_lt]; omega)]
theorem cmp_gt {a b : ByteArray} {k : Nat} (ha : k < a.size) (hb : k < b.size) (h : b[k].toNat < a[k].toNat) :
    compareBytes (a.data.toList.drop k) (b.data.toList.drop k) = 1 := by
  rw [drop_cons a k ha, drop_cons b k hb]
  unfold compareBytes
  rw [if_neg (by rw [UInt8.lt_iff_toNat_lt]; omega), if_pos (by rw [UInt8.lt_iff_toNat_lt]; omega)]
theorem cmp_end {a b : ByteArray} {k : Nat} (ha : k ≤ a.size) (hb : k ≤ b.size) (h : ¬ (k < a.size ∧ k < b.size)) :
    compareBytes (a.data.toList.drop k) (b.data.toList.drop k) = if a.size = b.size then 0 else if a.size < b.size then -1 else 1 := by
  have nil : ∀ s : ByteArray, s.size ≤ k → s.data.toList.drop k = [] := fun s hs => List.drop_of_length_le (by rw [← Lib.size_eq]; exact hs)
  rcases Nat.lt_or_ge k a.size with h1 | h1
  · rw [drop_cons a k h1, nil b (by omega), if_neg (by omega), if_neg (by omega)]
    rfl
  · rw [nil a h1]
    rcases Nat.lt_or_ge k b.size with h2 | h2
    · rw [drop_cons b k h2, if_neg (by omega), if_pos (by omega)]
      rfl
    · rw [nil b h2, if_pos (by omega)]
      rfl

theorem compare_any (a b : ByteArray) (w : World) :
    Calls Try.prog 56 #[.string a, .string b] w fun e w' => e = .returned (.int .i64 (compareBytes a.data.toList b.data.toList)) ∧ w = w' := by
  go_enter Try.func56, Try.ntmps56
  go_wp2_with fail
  refine (Try.strings_Compare a b _).mono ?_
  rintro e w1 ⟨rfl, rfl⟩
  go_wp2_with fail
  go_ret
  exact ⟨rfl, rfl⟩

set_option maxRecDepth 100000 in
set_option maxHeartbeats 1000000 in
theorem refCompare_any (a b : ByteArray) (ha : a.size ≤ maxLen) (hb : b.size ≤ maxLen) (w : World) :
    Calls Try.prog 58 #[.string a, .string b] w fun e w' => e = .returned (.int .i64 (compareBytes a.data.toList b.data.toList)) ∧ Below w.heap.size w w' := by
  unfold maxLen at ha hb
  obtain ⟨C, hC⟩ : ∃ C, C = compareBytes a.data.toList b.data.toList := ⟨_, rfl⟩
  rw [← hC]
  have HC := Lib.hid hC; clear hC
  go_enter Try.func58, Try.ntmps58
  go_wp2_with fail
  go_loopw [5] (fun x wr => ∃ k r : Nat, x = .int .i64 k ∧ k ≤ a.size ∧ k ≤ b.size ∧ wr = w.drewN r ∧ Hid (C = compareBytes (a.data.toList.drop k) (b.data.toList.drop k))) (fun x _ => a.size - (intOf x).toNat)
  case atStart => exact ⟨0, 0, rfl, by omega, by omega, rfl, Lib.hid HC.out⟩
  case round =>
    obtain ⟨k, r, rfl, hka, hkb, rfl, hc⟩ := hrel
    by_cases hlt : k < a.size ∧ k < b.size
    · obtain ⟨h1, h2⟩ := hlt
      have hi0 : (0 : Int) ≤ k := by omega
      have hi1 : (k : Int) < a.size := by omega
      have hi2 : (k : Int) < b.size := by omega
      rcases Nat.lt_trichotomy a[k].toNat b[k].toNat with h | h | h
      · have HA := Lib.hid (hc.out.trans (cmp_lt h1 h2 h))
        have g1 : ((a[k].toNat : Int) == (b[k].toNat : Int)) = false := by rw [beq_eq_false_iff_ne]; omega
        have g2 : ((a[k].toNat : Int) != (b[k].toNat : Int)) = true := by rw [bne_iff_ne]; omega
        go_wp2_with fail
        go_quiet (fail)
        go_wp2_with fail
        go_quiet (fail)
        go_wp2_with fail
        go_ret
        exact ⟨ret_i64 HA.out.symm, Below.drewN' (Below.drewN' (Below.drewN' (Below.refl _ _) _) _) _⟩
      · have HA := Lib.hid (hc.out.trans (cmp_eqs h1 h2 h))
        have g1 : ((a[k].toNat : Int) == (b[k].toNat : Int)) = true := by rw [beq_iff_eq]; omega
        have g2 : ((a[k].toNat : Int) != (b[k].toNat : Int)) = false := by rw [bne, g1]; rfl
        clear h
        go_wp2_with fail
        go_quiet (fail)
        go_wp2_with fail
        go_roundw
        case rel => exact ⟨k + 1, _, by go_num, by omega, by omega, rfl, HA⟩
        case measure => simp [intOf]; omega
      · have HA := Lib.hid (hc.out.trans (cmp_gt h1 h2 h))
        have g1 : ((a[k].toNat : Int) == (b[k].toNat : Int)) = false := by rw [beq_eq_false_iff_ne]; omega
        have g2 : ((a[k].toNat : Int) != (b[k].toNat : Int)) = true := by rw [bne_iff_ne]; omega
        have g3 : ¬ a[k].toNat < b[k].toNat := by omega
        go_wp2_with fail
        go_quiet (fail)
        go_wp2_with fail
        go_quiet (fail)
        go_wp2_with fail
        go_ret
        exact ⟨ret_i64 HA.out.symm, Below.drewN' (Below.drewN' (Below.drewN' (Below.refl _ _) _) _) _⟩
    · have HA := Lib.hid (hc.out.trans (cmp_end hka hkb hlt))
      rcases Nat.lt_trichotomy a.size b.size with h | h | h
      · have HR := Lib.hid (show C = -1 from by rw [HA.out, if_neg (by omega), if_pos h])
        have g1 : ((a.size : Int) == (b.size : Int)) = false := by rw [beq_eq_false_iff_ne]; omega
        have hk : ¬ k < a.size := by omega
        clear hlt
        go_wp2_with fail
        go_ret
        exact ⟨ret_i64 HR.out.symm, Below.drewN' (Below.refl _ _) _⟩
      · have HR := Lib.hid (show C = 0 from by rw [HA.out, if_pos h])
        have g1 : ((a.size : Int) == (b.size : Int)) = true := by rw [beq_iff_eq]; omega
        have hk : ¬ k < a.size := by omega
        clear hlt h
        go_wp2_with fail
        go_ret
        exact ⟨ret_i64 HR.out.symm, Below.drewN' (Below.refl _ _) _⟩
      · have HR := Lib.hid (show C = 1 from by rw [HA.out, if_neg (by omega), if_neg (by omega)])
        have g1 : ((a.size : Int) == (b.size : Int)) = false := by rw [beq_eq_false_iff_ne]; omega
        have hk : ¬ k < b.size := by omega
        have hk2 : k < a.size := by omega
        clear hlt
        go_wp2_with fail
        go_ret
        exact ⟨ret_i64 HR.out.symm, Below.drewN' (Below.refl _ _) _⟩
end Go.Proofs.Ytbbhcbpfffabpaa.T3
