/- Merged by program: T3Words, T3Trim, T3Compare, T3CellA, T3Tri. -/
import Derived.Shelf.Strings.SlTrimAscii
import Derived.Laws.Strings3
import Derived.Laws.StructEq
import Derived.Deep.RegionHeld3
import Derived.Test.YtbbhcbpfffabpaaGreatDoorGah
import Derived.Test.YtbbhcbpfffabpaaGreatDoorGai
import Derived.Test.YtbbhcbpfffabpaaGreatDoorGab
/- Words and blanks, byte by byte; the document's Blank, Words, Trim. -/
namespace Go.Proofs.YtbbhcbpfffabpaaGreatDoor.T3
open Go.Proofs.YtbbhcbpfffabpaaGreatDoor Go.Proofs
open Go.RowKit

def blankB (c : UInt8) : Bool := c.toNat == 32 || c.toNat == 9 || c.toNat == 10
def byteAt (s : ByteArray) (i : Nat) : UInt8 := s.get! i

theorem byteAt_eq (s : ByteArray) (i : Nat) (h : i < s.size) : byteAt s i = s[i] := by
  have := get_at s i h
  rw [Nat.add_zero] at this
  exact this

set_option maxRecDepth 100000 in
theorem blank_any (c : UInt8) (w : World) :
    Calls Tryz.prog 90 #[.int .u8 (c.toNat : Int)] w fun e w' => e = .returned (.bool (blankB c)) ∧ w = w' := by
  have hc : c.toNat < 256 := c.toNat_lt
  generalize hn : c.toNat = n at *
  have h : blankB c = (n == 32 || n == 9 || n == 10) := by unfold blankB; rw [hn]
  rw [h]; clear h hn
  by_cases h1 : n = 32
  · subst h1
    go_enter Tryz.func90, Tryz.ntmps90
    go_wp2_with fail
    go_ret
    exact ⟨rfl, rfl⟩
  · by_cases h2 : n = 9
    · subst h2
      go_enter Tryz.func90, Tryz.ntmps90
      go_wp2_with fail
      go_ret
      exact ⟨rfl, rfl⟩
    · by_cases h3 : n = 10
      · subst h3
        go_enter Tryz.func90, Tryz.ntmps90
        go_wp2_with fail
        go_ret
        exact ⟨rfl, rfl⟩
      · have e : (n == 32 || n == 9 || n == 10) = false := by simp only [Bool.or_eq_false_iff, beq_eq_false_iff_ne]; omega
        rw [e]
        have g1 : ((n : Int) == 32) = false := by rw [beq_eq_false_iff_ne]; omega
        have g2 : ((n : Int) == 9) = false := by rw [beq_eq_false_iff_ne]; omega
        have g3 : ((n : Int) == 10) = false := by rw [beq_eq_false_iff_ne]; omega
        clear e h1 h2 h3
        go_enter Tryz.func90, Tryz.ntmps90
        go_wp2_with fail
        go_ret
        exact ⟨rfl, rfl⟩

end Go.Proofs.YtbbhcbpfffabpaaGreatDoor.T3

/- Trim: the program's, and the document's answer. -/
namespace Go.Proofs.YtbbhcbpfffabpaaGreatDoor.T3
open Go.Proofs.YtbbhcbpfffabpaaGreatDoor Go.Proofs
open Go.RowKit
open Go.Lib (trimS trimLeftS trimRightS)

def trimB (s : ByteArray) : ByteArray := ⟨(trimS s.data.toList [32, 9, 10]).toArray⟩

theorem blank_mem (c : UInt8) : ([32, 9, 10] : List UInt8).contains c = blankB c := by
  unfold blankB
  simp only [List.contains, List.elem]
  have e : ∀ k : UInt8, (c == k) = (c.toNat == k.toNat) := fun k => by
    rw [Bool.eq_iff_iff, beq_iff_eq, beq_iff_eq]
    exact ⟨fun h => by rw [h], fun h => UInt8.toNat_inj.1 h⟩
  rw [e 32, e 9, e 10]
  show (match c.toNat == 32 with | true => true | false => match c.toNat == 9 with | true => true | false => match c.toNat == 10 with | true => true | false => false) = (c.toNat == 32 || c.toNat == 9 || c.toNat == 10)
  cases c.toNat == 32 <;> cases c.toNat == 9 <;> cases c.toNat == 10 <;> rfl

theorem at_byte {s : ByteArray} {j : Nat} {b : UInt8} (h : s.data.toList[j]? = some b) : j < s.size ∧ byteAt s j = b := by
  have hj : j < s.data.toList.length := by
    rcases Nat.lt_or_ge j s.data.toList.length with h' | h'
    · exact h'
    · rw [List.getElem?_eq_none h'] at h; cases h
  have hs : j < s.size := by rw [Lib.size_eq]; exact hj
  refine ⟨hs, ?_⟩
  rw [byteAt_eq s j hs]
  rw [List.getElem?_eq_getElem hj] at h
  injection h

/-- The text without blanks at both ends, from where they end to where they begin. -/
theorem trim_is (s : ByteArray) (a b : Nat) (hab : a ≤ b) (hb : b ≤ s.size) (h1 : ∀ j, j < a → blankB (byteAt s j) = true) (h2 : ∀ j, b ≤ j → j < s.size → blankB (byteAt s j) = true)
    (h3 : a < b → blankB (byteAt s a) = false) (h4 : a < b → blankB (byteAt s (b - 1)) = false) (h5 : a < s.size → blankB (byteAt s a) = false) : s.extract a b = trimB s := by
  unfold trimB trimS
  apply bytes_ext
  rw [Lib.extract_data]
  rcases Nat.lt_or_ge a b with h | h
  · rw [Lib.trimRightS_take s.data.toList [32, 9, 10] b (by rw [← Lib.size_eq]; exact hb) (fun j c hj hc => by
        obtain ⟨hjs, e⟩ := at_byte hc
        rw [blank_mem, ← e]; exact h2 j hj hjs) (fun c _ hc => by
        obtain ⟨_, e⟩ := at_byte hc
        rw [blank_mem, ← e]; exact h4 h)]
    rw [Lib.trimLeftS_drop (s.data.toList.take b) [32, 9, 10] a (by rw [List.length_take, ← Lib.size_eq]; omega) (fun j c hj hc => by
        rw [List.getElem?_take_of_lt (by omega)] at hc
        obtain ⟨_, e⟩ := at_byte hc
        rw [blank_mem, ← e]; exact h1 j hj) (fun c hc => by
        rw [List.getElem?_take_of_lt h] at hc
        obtain ⟨_, e⟩ := at_byte hc
        rw [blank_mem, ← e]; exact h3 h)]
    rw [List.drop_take]
  · obtain rfl : a = b := by omega
    have ha : ¬ a < s.size := fun hlt => by
      have e1 := h5 hlt
      rw [h2 a (Nat.le_refl _) hlt] at e1
      cases e1
    rw [Lib.trimRightS_take s.data.toList [32, 9, 10] 0 (Nat.zero_le _) (fun j c _ hc => by
        obtain ⟨hjs, e⟩ := at_byte hc
        rw [blank_mem, ← e]; exact h1 j (by omega)) (fun c h0 _ => absurd h0 (Nat.lt_irrefl _))]
    rw [Nat.sub_self]
    simp [trimLeftS]

theorem part_byte (s : ByteArray) (a b i : Nat) (hb : b ≤ s.size) (h : i < (s.extract a b).size) : (s.extract a b)[i] = byteAt s (a + i) := by
  have hi : i < b - a := by rw [part_size s a b hb] at h; exact h
  have h1 : (s.extract a b).data.toList[i]? = some (s.extract a b)[i] := by
    rw [List.getElem?_eq_getElem (by rw [← Lib.size_eq]; exact h)]; rfl
  rw [Lib.extract_data, List.getElem?_take_of_lt hi, List.getElem?_drop] at h1
  exact (at_byte h1).2.symm

theorem part_byte_of {s v : ByteArray} {a b : Nat} (hv : v = s.extract a b) (hb : b ≤ s.size) (i : Nat) (h : i < v.size) : v[i] = byteAt s (a + i) := by
  subst hv
  exact part_byte s a b i hb h

set_option maxRecDepth 100000 in
set_option maxHeartbeats 1000000 in
theorem refTrim_any (s : ByteArray) (hs : s.size ≤ maxLen) (w : World) :
    Calls Tryz.prog 60 #[.string s] w fun e w' => e = .returned (.string (trimB s)) ∧ w = w' := by
  unfold maxLen at hs
  have HA := Lib.hid (part_all s)
  go_enter Tryz.func60, Tryz.ntmps60
  go_wp2_with fail
  go_loop [0] (fun x => ∃ (a : Nat) (u : ByteArray), x = .string u ∧ Hid (u = s.extract a s.size) ∧ a ≤ s.size ∧ u.size ≤ s.size - a ∧ s.size - a ≤ u.size ∧ Hid (∀ j, j < a → blankB (byteAt s j) = true)) (fun x => match x with | .string t => t.size | _ => 0)
  case atStart => exact ⟨0, s, rfl, Lib.hid HA.out.symm, by omega, by omega, by omega, Lib.hid (fun j h => absurd h (Nat.not_lt_zero _))⟩
  case round =>
    obtain ⟨a, u, rfl, hu, ha, hz1, hz2, hbl⟩ := hrel
    by_cases hlt : 0 < u.size
    · have BL := Lib.hid (fun w => blank_any u[0] w)
      have HBY := Lib.hid (show u[0] = byteAt s a from part_byte_of hu.out (Nat.le_refl _) 0 hlt)
      cases hb : blankB u[0]
      · rw [hb] at BL
        have HF := Lib.hid (hb.symm.trans (by rw [HBY.out]) : false = blankB (byteAt s a))
        clear hb
        go_wp2_with fail
        refine (BL.out _).mono ?_
        rintro e w1 ⟨rfl, rfl⟩
        have HC := Lib.hid (show a < s.size → blankB (byteAt s a) = false from fun _ => HF.out.symm)
        go_wp2_with fail
        go_loop [0] (fun x => ∃ (b : Nat) (v : ByteArray), x = .string v ∧ Hid (v = s.extract a b) ∧ a ≤ b ∧ b ≤ s.size ∧ v.size ≤ b - a ∧ b - a ≤ v.size ∧ Hid (∀ j, b ≤ j → j < s.size → blankB (byteAt s j) = true)) (fun x => match x with | .string t => t.size | _ => 0)
        case atStart => exact ⟨s.size, u, rfl, hu, ha, by omega, by omega, by omega, Lib.hid (fun j h1 h2 => by omega)⟩
        case round =>
          obtain ⟨b, v, rfl, hv, hab, hbs, hy1, hy2, hbr⟩ := hrel
          by_cases hlt2 : 0 < v.size
          · have hi : v.size - 1 < v.size := by omega
            have BL2 := Lib.hid (fun w => blank_any (v[v.size - 1]'hi) w)
            have HBY2 := Lib.hid (show v[v.size - 1]'hi = byteAt s (b - 1) from by
              rw [part_byte_of hv.out hbs (v.size - 1) hi, show a + (v.size - 1) = b - 1 from by omega])
            cases hb2 : blankB (v[v.size - 1]'hi)
            · rw [hb2] at BL2
              have HF2 := Lib.hid (hb2.symm.trans (by rw [HBY2.out]) : false = blankB (byteAt s (b - 1)))
              clear hb2
              go_wp2_with fail
              refine (BL2.out _).mono ?_
              rintro e w1 ⟨rfl, rfl⟩
              go_wp2_with fail
              go_ret
              exact ⟨ret_str (by rw [hv.out]; exact trim_is s a b hab hbs hbl.out hbr.out (fun h => HC.out (by omega)) (fun _ => HF2.out.symm) HC.out), rfl⟩
            · rw [hb2] at BL2
              have HF2 := Lib.hid (hb2.symm.trans (by rw [HBY2.out]) : true = blankB (byteAt s (b - 1)))
              clear hb2
              go_wp2_with fail
              refine (BL2.out _).mono ?_
              rintro e w1 ⟨rfl, rfl⟩
              go_wp2_with fail
              go_round
              case rel =>
                refine ⟨b - 1, _, rfl, Lib.hid ?_, by omega, by omega, ?_, ?_, Lib.hid (fun j h1 h2 => ?_)⟩
                · rw [hv.out, part_part s a b _ _ (by have := part_size s a b hbs; omega)]
                  rw [part_size s a b hbs, Nat.add_zero, show a + (b - a - 1) = b - 1 from by omega]
                · rw [ByteArray.size_extract]; omega
                · rw [ByteArray.size_extract]; omega
                · rcases Nat.lt_or_ge j b with h | h
                  · obtain rfl : j = b - 1 := by omega
                    exact HF2.out.symm
                  · exact hbr.out j h h2
              case measure => simp only [ByteArray.size_extract]; omega
          · obtain rfl : a = b := by omega
            go_wp2_with fail
            go_ret
            exact ⟨ret_str (by rw [hv.out]; exact trim_is s a a hab hbs hbl.out hbr.out (fun h => absurd h (Nat.lt_irrefl _)) (fun h => absurd h (Nat.lt_irrefl _)) HC.out), rfl⟩
      · rw [hb] at BL
        have HF := Lib.hid (hb.symm.trans (by rw [HBY.out]) : true = blankB (byteAt s a))
        clear hb
        go_wp2_with fail
        refine (BL.out _).mono ?_
        rintro e w1 ⟨rfl, rfl⟩
        go_wp2_with fail
        go_round
        case rel =>
          refine ⟨a + 1, _, rfl, Lib.hid ?_, by omega, ?_, ?_, Lib.hid (fun j hj => ?_)⟩
          · rw [hu.out, part_part s a s.size _ _ (by rw [part_size s a s.size (Nat.le_refl _)]; omega)]
            rw [part_size s a s.size (Nat.le_refl _), show a + (s.size - a) = s.size from by omega]
          · rw [ByteArray.size_extract]; omega
          · rw [ByteArray.size_extract]; omega
          · rcases Nat.lt_or_ge j a with h | h
            · exact hbl.out j h
            · obtain rfl : j = a := by omega
              exact HF.out.symm
        case measure => simp only [ByteArray.size_extract]; omega
    · have HC := Lib.hid (show a < s.size → blankB (byteAt s a) = false from fun h => by omega)
      go_wp2_with fail
      go_loop [0] (fun x => ∃ (b : Nat) (v : ByteArray), x = .string v ∧ Hid (v = s.extract a b) ∧ a ≤ b ∧ b ≤ s.size ∧ v.size ≤ b - a ∧ b - a ≤ v.size ∧ Hid (∀ j, b ≤ j → j < s.size → blankB (byteAt s j) = true)) (fun x => match x with | .string t => t.size | _ => 0)
      case atStart => exact ⟨s.size, u, rfl, hu, ha, by omega, by omega, by omega, Lib.hid (fun j h1 h2 => by omega)⟩
      case round =>
        obtain ⟨b, v, rfl, hv, hab, hbs, hy1, hy2, hbr⟩ := hrel
        by_cases hlt2 : 0 < v.size
        · exfalso; omega
        · obtain rfl : a = b := by omega
          go_wp2_with fail
          go_ret
          exact ⟨ret_str (by rw [hv.out]; exact trim_is s a a hab hbs hbl.out hbr.out (fun h => absurd h (Nat.lt_irrefl _)) (fun h => absurd h (Nat.lt_irrefl _)) HC.out), rfl⟩

end Go.Proofs.YtbbhcbpfffabpaaGreatDoor.T3

/- Contracts of Compare: the program's, and the document's answer. -/
namespace Go.Proofs.YtbbhcbpfffabpaaGreatDoor.T3
open Go.Proofs.YtbbhcbpfffabpaaGreatDoor Go.Proofs
open Go.RowKit
open Go.Lib (compareBytes)

theorem cmp_self : ∀ a : List UInt8, compareBytes a a = 0
  | [] => rfl
  | x :: l => by
    unfold compareBytes
    rw [if_neg (by simp), if_neg (by simp)]
    exact cmp_self l

theorem cmp_turn : ∀ a b : List UInt8, compareBytes b a = -compareBytes a b
  | [], [] => rfl
  | [], _ :: _ => rfl
  | _ :: _, [] => rfl
  | x :: l, y :: m => by
    unfold compareBytes
    by_cases h1 : x < y
    · have h2 : ¬ y < x := by rw [UInt8.lt_iff_toNat_lt] at *; omega
      rw [if_pos h1, if_neg h2, if_pos h1]
      rfl
    · by_cases h2 : y < x
      · rw [if_pos h2, if_neg h1, if_pos h2]
      · rw [if_neg h1, if_neg h2, if_neg h2, if_neg h1]
        exact cmp_turn l m

theorem cmp_cases (a b : List UInt8) : compareBytes a b = -1 ∨ compareBytes a b = 0 ∨ compareBytes a b = 1 := by
  induction a generalizing b with
  | nil => cases b with
    | nil => exact Or.inr (Or.inl rfl)
    | cons y m => exact Or.inl rfl
  | cons x l ih => cases b with
    | nil => exact Or.inr (Or.inr rfl)
    | cons y m =>
      unfold compareBytes
      by_cases h1 : x < y
      · rw [if_pos h1]; exact Or.inl rfl
      · by_cases h2 : y < x
        · rw [if_neg h1, if_pos h2]; exact Or.inr (Or.inr rfl)
        · rw [if_neg h1, if_neg h2]; exact ih m

theorem drop_cons (s : ByteArray) (k : Nat) (h : k < s.size) : s.data.toList.drop k = s[k] :: s.data.toList.drop (k + 1) := by
  rw [List.drop_eq_getElem_cons (by rw [← Lib.size_eq]; exact h)]
  rfl

/-- The rest decides, from place k on. -/
theorem cmp_eqs {a b : ByteArray} {k : Nat} (ha : k < a.size) (hb : k < b.size) (h : a[k].toNat = b[k].toNat) :
    compareBytes (a.data.toList.drop k) (b.data.toList.drop k) = compareBytes (a.data.toList.drop (k + 1)) (b.data.toList.drop (k + 1)) := by
  rw [drop_cons a k ha, drop_cons b k hb]
  conv => lhs; unfold compareBytes
  rw [if_neg (by rw [UInt8.lt_iff_toNat_lt]; omega), if_neg (by rw [UInt8.lt_iff_toNat_lt]; omega)]
theorem cmp_lt {a b : ByteArray} {k : Nat} (ha : k < a.size) (hb : k < b.size) (h : a[k].toNat < b[k].toNat) :
    compareBytes (a.data.toList.drop k) (b.data.toList.drop k) = -1 := by
  rw [drop_cons a k ha, drop_cons b k hb]
  unfold compareBytes
  rw [if_pos (by rw [UInt8.lt_iff_toNat_lt]; omega)]
theorem cmp_gt {a b : ByteArray} {k : Nat} (ha : k < a.size) (hb : k < b.size) (h : b[k].toNat < a[k].toNat) :
    compareBytes (a.data.toList.drop k) (b.data.toList.drop k) = 1 := by
  rw [drop_cons a k ha, drop_cons b k hb]
  unfold compareBytes
  rw [if_neg (by rw [UInt8.lt_iff_toNat_lt]; omega), if_pos (by rw [UInt8.lt_iff_toNat_lt]; omega)]
theorem cmp_end {a b : ByteArray} {k : Nat} (ha : k ≤ a.size) (hb : k ≤ b.size) (h : ¬ (k < a.size ∧ k < b.size)) :
    compareBytes (a.data.toList.drop k) (b.data.toList.drop k) = if a.size = b.size then 0 else if a.size < b.size then -1 else 1 := by
  have nil : ∀ s : ByteArray, s.size ≤ k → s.data.toList.drop k = [] := fun s hs => List.drop_of_length_le (by rw [← Lib.size_eq]; exact hs)
  rcases Nat.lt_or_ge k a.size with h1 | h1
  · rw [drop_cons a k h1, nil b (by omega), if_neg (by omega), if_neg (by omega)]
    rfl
  · rw [nil a h1]
    rcases Nat.lt_or_ge k b.size with h2 | h2
    · rw [drop_cons b k h2, if_neg (by omega), if_pos (by omega)]
      rfl
    · rw [nil b h2, if_pos (by omega)]
      rfl

end Go.Proofs.YtbbhcbpfffabpaaGreatDoor.T3

/- Contracts of the small functions of package cell, and of the document's answers: no drawn region. -/
namespace Go.Proofs.YtbbhcbpfffabpaaGreatDoor.T3
open Go.Proofs.YtbbhcbpfffabpaaGreatDoor Go.Proofs
open Go.RowKit

/-! ### What a text is, as a number -/
def pN (l : List UInt8) : Int := if parseNone l then 0 else (back (parseVal l)).1
def pE (l : List UInt8) : Nat := if parseNone l then 0 else parseEnd l
def pR (l : List UInt8) : Int := if parseNone l then 0 else (back (parseVal l)).2
theorem parse_three (l : List UInt8) : parseAns l = .tuple #[.int .i64 (pN l), .int .i64 (pE l : Int), .int .i64 (pR l)] := by
  unfold parseAns num3 pN pE pR
  split <;> rfl

/-- All of a text is a number. -/
def wholeB (t : ByteArray) : Bool := decide (pR t.data.toList = 0) && decide (pE t.data.toList ≠ 0) && decide (pE t.data.toList = t.size)
theorem whole_cases (t : ByteArray) :
    (wholeB t = true ∧ pR t.data.toList = 0 ∧ pE t.data.toList = t.size ∧ 0 < t.size) ∨
    (wholeB t = false ∧ (pR t.data.toList != 0) = true) ∨
    (wholeB t = false ∧ pR t.data.toList = 0 ∧ pE t.data.toList = 0) ∨
    (wholeB t = false ∧ pR t.data.toList = 0 ∧ ((pE t.data.toList : Int) == 0) = false ∧ ((pE t.data.toList : Int) != (t.size : Int)) = true) := by
  unfold wholeB
  by_cases h1 : pR t.data.toList = 0
  · by_cases h2 : pE t.data.toList = 0
    · exact Or.inr (Or.inr (Or.inl ⟨by simp [h2], h1, h2⟩))
    · by_cases h3 : pE t.data.toList = t.size
      · exact Or.inl ⟨by rw [h1, h3, decide_eq_true (show t.size ≠ 0 by omega)]; simp, h1, h3, by omega⟩
      · refine Or.inr (Or.inr (Or.inr ⟨by simp [h3], h1, ?_, ?_⟩))
        · rw [beq_eq_false_iff_ne]; omega
        · rw [bne_iff_ne]; omega
  · exact Or.inr (Or.inl ⟨by simp [h1], by rw [bne_iff_ne]; exact h1⟩)

def showT (n : Int) : ByteArray := ⟨(showText n).toArray⟩
theorem showT_of {t : ByteArray} {n : Int} (h : t.data.toList = showText n) : t = showT n := by
  apply ByteArray.ext
  apply Array.toList_inj.1
  rw [h]; rfl

theorem show_is (n : Int) (w : World) (hn : Fits n) :
    Calls Tryz.prog 36 #[.int .i64 n] w fun e w' => e = .returned (.string (showT n)) ∧ Below w.heap.size w w' :=
  (show_any n w hn).mono fun _ _ ⟨_, ht, he, hb⟩ => ⟨by rw [he, showT_of ht], hb⟩
def cmpI (m n : Int) : Int := if m < n then -1 else if n < m then 1 else 0

theorem kind_cases (k : Int) : k = 0 ∨ k = 1 ∨ k = 2 ∨ k = 3 ∨ ((k == 0) = false ∧ (k == 1) = false ∧ (k == 2) = false ∧ (k == 3) = false) := by
  by_cases h0 : k = 0
  · exact Or.inl h0
  · by_cases h1 : k = 1
    · exact Or.inr (Or.inl h1)
    · by_cases h2 : k = 2
      · exact Or.inr (Or.inr (Or.inl h2))
      · by_cases h3 : k = 3
        · exact Or.inr (Or.inr (Or.inr (Or.inl h3)))
        · exact Or.inr (Or.inr (Or.inr (Or.inr ⟨beq_eq_false_iff_ne.2 h0, beq_eq_false_iff_ne.2 h1, beq_eq_false_iff_ne.2 h2, beq_eq_false_iff_ne.2 h3⟩)))

/-- A cell's text. -/
def strC (k n : Int) (s : ByteArray) : ByteArray := if k = 1 then showT n else if k = 2 ∨ k = 3 then s else ⟨#[]⟩
/-- A cell's number, if it is no text. -/
def numC (k n : Int) : Int := if k = 1 ∨ k = 3 then n else 0

theorem str_any (k n : Int) (s : ByteArray) (hn : Fits n) (w : World) :
    Calls Tryz.prog 11 #[.agg #[.int .i64 k, .int .i64 n, .string s]] w fun e w' => e = .returned (.string (strC k n s)) ∧ Below w.heap.size w w' := by
  have S := Lib.hid (fun w => show_is n w hn)
  have B0 := Lib.hid ((Below.refl w.heap.size w).alloc (Nat.le_refl _) (.cells #[.int .i64 k, .int .i64 n, .string s] 25))
  rcases kind_cases k with rfl | rfl | rfl | rfl | ⟨g0, g1, g2, g3⟩
  · go_enter Tryz.func11, Tryz.ntmps11
    go_wp2_with fail
    go_ret
    exact ⟨rfl, B0.out⟩
  · go_enter Tryz.func11, Tryz.ntmps11
    go_wp2_with fail
    refine (S.out _).mono ?_
    rintro e w1 ⟨rfl, b1⟩
    have B1 := Lib.hid (Below.step B0.out b1); clear b1
    go_wp2_with fail
    go_ret
    exact ⟨rfl, B1.out⟩
  · go_enter Tryz.func11, Tryz.ntmps11
    go_wp2_with fail
    go_ret
    exact ⟨rfl, B0.out⟩
  · go_enter Tryz.func11, Tryz.ntmps11
    go_wp2_with fail
    go_ret
    exact ⟨rfl, B0.out⟩
  · have e : strC k n s = ⟨#[]⟩ := by
      rw [beq_eq_false_iff_ne] at g1 g2 g3
      unfold strC
      rw [if_neg g1, if_neg (by simp [g2, g3])]
    rw [e]; clear e
    go_enter Tryz.func11, Tryz.ntmps11
    go_wp2_with fail
    go_ret
    exact ⟨rfl, B0.out⟩

theorem num_cell (k n : Int) (s : ByteArray) (hk : k ≠ 2) (w : World) :
    Calls Tryz.prog 42 #[.agg #[.int .i64 k, .int .i64 n, .string s]] w fun e w' => e = .returned (.tuple #[.int .i64 (numC k n), .int .i64 0]) ∧ Below w.heap.size w w' := by
  have B0 := Lib.hid ((Below.refl w.heap.size w).alloc (Nat.le_refl _) (.cells #[.int .i64 k, .int .i64 n, .string s] 25))
  rcases kind_cases k with rfl | rfl | rfl | rfl | ⟨g0, g1, g2, g3⟩
  · go_enter Tryz.func42, Tryz.ntmps42
    go_wp2_with fail
    go_ret2
    exact ⟨rfl, B0.out⟩
  · go_enter Tryz.func42, Tryz.ntmps42
    go_wp2_with fail
    go_ret2
    exact ⟨rfl, B0.out⟩
  · exact absurd rfl hk
  · go_enter Tryz.func42, Tryz.ntmps42
    go_wp2_with fail
    go_ret2
    exact ⟨rfl, B0.out⟩
  · have e : numC k n = 0 := by
      rw [beq_eq_false_iff_ne] at g1 g3
      unfold numC
      rw [if_neg (by simp [g1, g3])]
    rw [e]; clear e hk
    go_enter Tryz.func42, Tryz.ntmps42
    go_wp2_with fail
    go_ret2
    exact ⟨rfl, B0.out⟩
end Go.Proofs.YtbbhcbpfffabpaaGreatDoor.T3

/- A cell's three parts in memory: kept by calls; what a region that draws its order needs. -/
namespace Go.Proofs.YtbbhcbpfffabpaaGreatDoor.T3
open Go.Proofs.YtbbhcbpfffabpaaGreatDoor Go.Proofs
open Go.RowKit

theorem cell_lt {W : World} {a : Addr} {v : Value} (h : W.cell? a = some v) : a.block < W.heap.size := by
  rcases Nat.lt_or_ge a.block W.heap.size with h' | h'
  · exact h'
  · exfalso
    have e : W.heap[a.block]? = none := Array.getElem?_eq_none h'
    simp [World.cell?, e] at h

structure Tri (w : World) (b : Nat) (x y z : Value) : Prop where
  c0 : w.cell? ⟨b, 0, none⟩ = some x
  c1 : w.cell? ⟨b, 1, none⟩ = some y
  c2 : w.cell? ⟨b, 2, none⟩ = some z
  f0 : w.frozen? ⟨b, 0, none⟩ = false
  f1 : w.frozen? ⟨b, 1, none⟩ = false
  f2 : w.frozen? ⟨b, 2, none⟩ = false

theorem Tri.lt {w : World} {b : Nat} {x y z : Value} (h : Tri w b x y z) : b < w.heap.size := cell_lt h.c0
theorem Tri.below {w w' : World} {b : Nat} {x y z : Value} (h : Tri w b x y z) (hb : Below w.heap.size w w') : Tri w' b x y z := by
  have hlt := h.lt
  exact ⟨by rw [hb.cell (p := ⟨b, 0, none⟩) hlt]; exact h.c0, by rw [hb.cell (p := ⟨b, 1, none⟩) hlt]; exact h.c1, by rw [hb.cell (p := ⟨b, 2, none⟩) hlt]; exact h.c2,
    by rw [hb.frozen (p := ⟨b, 0, none⟩) hlt]; exact h.f0, by rw [hb.frozen (p := ⟨b, 1, none⟩) hlt]; exact h.f1, by rw [hb.frozen (p := ⟨b, 2, none⟩) hlt]; exact h.f2⟩
theorem tri_new (w : World) (x y z : Value) (t : TypeId) : Tri (w.alloc (.cells #[x, y, z] t)) w.heap.size x y z := by
  refine ⟨?_, ?_, ?_, ?_, ?_, ?_⟩ <;> simp [go_sem]
theorem below_new (w : World) (o : Obj) : Below w.heap.size w (w.alloc o) := (Below.refl _ _).alloc (Nat.le_refl _) o
theorem below_drew (w : World) : Below w.heap.size w w.drew := (Below.refl _ _).drew

theorem Tri.after {w w' : World} {b : Nat} {x y z : Value} (h : Tri w b x y z) (hb : Below w.drew.heap.size w.drew w') : Tri w' b x y z := (h.below (below_drew w)).below hb
theorem Below.after {w0 w w' : World} (h : Below w0.heap.size w0 w) (hb : Below w.drew.heap.size w.drew w') : Below w0.heap.size w0 w' := Below.step (Below.step h (below_drew w)) hb
/-- The result's cell, stored to. -/
theorem tri_end {w W : World} {x y z : Value} (T : Tri W w.heap.size x y z) (hb : Below w.heap.size w W) (k n s : Value) :
    (((W.setCell ⟨w.heap.size, 0, none⟩ k).setCell ⟨w.heap.size, 1, none⟩ n).setCell ⟨w.heap.size, 2, none⟩ s).cell? ⟨w.heap.size, 0, none⟩ = some k ∧
    (((W.setCell ⟨w.heap.size, 0, none⟩ k).setCell ⟨w.heap.size, 1, none⟩ n).setCell ⟨w.heap.size, 2, none⟩ s).cell? ⟨w.heap.size, 1, none⟩ = some n ∧
    (((W.setCell ⟨w.heap.size, 0, none⟩ k).setCell ⟨w.heap.size, 1, none⟩ n).setCell ⟨w.heap.size, 2, none⟩ s).cell? ⟨w.heap.size, 2, none⟩ = some s ∧
    Below w.heap.size w (((W.setCell ⟨w.heap.size, 0, none⟩ k).setCell ⟨w.heap.size, 1, none⟩ n).setCell ⟨w.heap.size, 2, none⟩ s) := by
  have n01 : (⟨w.heap.size, 0, none⟩ : Addr) ≠ ⟨w.heap.size, 1, none⟩ := by intro e; injection e with e1 e2; omega
  have n02 : (⟨w.heap.size, 0, none⟩ : Addr) ≠ ⟨w.heap.size, 2, none⟩ := by intro e; injection e with e1 e2; omega
  have n12 : (⟨w.heap.size, 1, none⟩ : Addr) ≠ ⟨w.heap.size, 2, none⟩ := by intro e; injection e with e1 e2; omega
  refine ⟨?_, ?_, ?_, ((hb.setCell (by simp) _).setCell (by simp) _).setCell (by simp) _⟩
  · rw [cell_other (Ne.symm n02), cell_other (Ne.symm n01)]; exact cell_same T.c0
  · rw [cell_other (Ne.symm n12)]; exact cell_same (u := y) (by rw [cell_other n01]; exact T.c1)
  · exact cell_same (u := z) (by rw [cell_other n12, cell_other n02]; exact T.c2)

/-! ### What a region that draws its order holds: one, two, three cells -/
theorem keep1 {w0 W W' : World} {b : Nat} {x y z : Value} (h : Hid (Below w0.heap.size w0 W) ∧ W.cell? ⟨b, 0, none⟩ = some x ∧ W.cell? ⟨b, 1, none⟩ = some y ∧ W.cell? ⟨b, 2, none⟩ = some z) (hb : Below W.heap.size W W') :
    Hid (Below w0.heap.size w0 W') ∧ W'.cell? ⟨b, 0, none⟩ = some x ∧ W'.cell? ⟨b, 1, none⟩ = some y ∧ W'.cell? ⟨b, 2, none⟩ = some z := by
  obtain ⟨h0, h1, h2, h3⟩ := h
  have hlt := cell_lt h1
  exact ⟨Lib.hid (Below.step h0.out hb), by rw [hb.cell (p := ⟨b, 0, none⟩) hlt]; exact h1, by rw [hb.cell (p := ⟨b, 1, none⟩) hlt]; exact h2, by rw [hb.cell (p := ⟨b, 2, none⟩) hlt]; exact h3⟩
theorem keep2 {w0 W W' : World} {b c : Nat} {x y z x' y' z' : Value} (h : Hid (Below w0.heap.size w0 W) ∧ W.cell? ⟨b, 0, none⟩ = some x ∧ W.cell? ⟨b, 1, none⟩ = some y ∧ W.cell? ⟨b, 2, none⟩ = some z ∧ W.cell? ⟨c, 0, none⟩ = some x' ∧ W.cell? ⟨c, 1, none⟩ = some y' ∧ W.cell? ⟨c, 2, none⟩ = some z') (hb : Below W.heap.size W W') :
    Hid (Below w0.heap.size w0 W') ∧ W'.cell? ⟨b, 0, none⟩ = some x ∧ W'.cell? ⟨b, 1, none⟩ = some y ∧ W'.cell? ⟨b, 2, none⟩ = some z ∧ W'.cell? ⟨c, 0, none⟩ = some x' ∧ W'.cell? ⟨c, 1, none⟩ = some y' ∧ W'.cell? ⟨c, 2, none⟩ = some z' := by
  obtain ⟨h0, h1, h2, h3, h4⟩ := h
  obtain ⟨k0, k1, k2, k3⟩ := keep1 ⟨h0, h1, h2, h3⟩ hb
  exact ⟨k0, k1, k2, k3, (keep1 ⟨h0, h4⟩ hb).2⟩
theorem keep3 {w0 W W' : World} {b c d : Nat} {x y z x' y' z' x2 y2 z2 : Value} (h : Hid (Below w0.heap.size w0 W) ∧ W.cell? ⟨b, 0, none⟩ = some x ∧ W.cell? ⟨b, 1, none⟩ = some y ∧ W.cell? ⟨b, 2, none⟩ = some z ∧ W.cell? ⟨c, 0, none⟩ = some x' ∧ W.cell? ⟨c, 1, none⟩ = some y' ∧ W.cell? ⟨c, 2, none⟩ = some z' ∧ W.cell? ⟨d, 0, none⟩ = some x2 ∧ W.cell? ⟨d, 1, none⟩ = some y2 ∧ W.cell? ⟨d, 2, none⟩ = some z2) (hb : Below W.heap.size W W') :
    Hid (Below w0.heap.size w0 W') ∧ W'.cell? ⟨b, 0, none⟩ = some x ∧ W'.cell? ⟨b, 1, none⟩ = some y ∧ W'.cell? ⟨b, 2, none⟩ = some z ∧ W'.cell? ⟨c, 0, none⟩ = some x' ∧ W'.cell? ⟨c, 1, none⟩ = some y' ∧ W'.cell? ⟨c, 2, none⟩ = some z' ∧ W'.cell? ⟨d, 0, none⟩ = some x2 ∧ W'.cell? ⟨d, 1, none⟩ = some y2 ∧ W'.cell? ⟨d, 2, none⟩ = some z2 := by
  obtain ⟨h0, h1, h2, h3, h4⟩ := h
  obtain ⟨k0, k1, k2, k3⟩ := keep1 ⟨h0, h1, h2, h3⟩ hb
  exact ⟨k0, k1, k2, k3, (keep2 ⟨h0, h4⟩ hb).2⟩
theorem held1 {w0 W : World} {b : Nat} {x y z : Value} (hb : Below w0.heap.size w0 W) (T : Tri W b x y z) :
    Hid (Below w0.heap.size w0 W) ∧ W.cell? ⟨b, 0, none⟩ = some x ∧ W.cell? ⟨b, 1, none⟩ = some y ∧ W.cell? ⟨b, 2, none⟩ = some z := ⟨Lib.hid hb, T.c0, T.c1, T.c2⟩
theorem held2 {w0 W : World} {b c : Nat} {x y z x' y' z' : Value} (hb : Below w0.heap.size w0 W) (T : Tri W b x y z) (T' : Tri W c x' y' z') :
    Hid (Below w0.heap.size w0 W) ∧ W.cell? ⟨b, 0, none⟩ = some x ∧ W.cell? ⟨b, 1, none⟩ = some y ∧ W.cell? ⟨b, 2, none⟩ = some z ∧ W.cell? ⟨c, 0, none⟩ = some x' ∧ W.cell? ⟨c, 1, none⟩ = some y' ∧ W.cell? ⟨c, 2, none⟩ = some z' := ⟨Lib.hid hb, T.c0, T.c1, T.c2, T'.c0, T'.c1, T'.c2⟩
theorem held3 {w0 W : World} {b c d : Nat} {x y z x' y' z' x2 y2 z2 : Value} (hb : Below w0.heap.size w0 W) (T : Tri W b x y z) (T' : Tri W c x' y' z') (T2 : Tri W d x2 y2 z2) :
    Hid (Below w0.heap.size w0 W) ∧ W.cell? ⟨b, 0, none⟩ = some x ∧ W.cell? ⟨b, 1, none⟩ = some y ∧ W.cell? ⟨b, 2, none⟩ = some z ∧ W.cell? ⟨c, 0, none⟩ = some x' ∧ W.cell? ⟨c, 1, none⟩ = some y' ∧ W.cell? ⟨c, 2, none⟩ = some z' ∧ W.cell? ⟨d, 0, none⟩ = some x2 ∧ W.cell? ⟨d, 1, none⟩ = some y2 ∧ W.cell? ⟨d, 2, none⟩ = some z2 :=
  ⟨Lib.hid hb, T.c0, T.c1, T.c2, T'.c0, T'.c1, T'.c2, T2.c0, T2.c1, T2.c2⟩
theorem boxed3 (w : World) (x y z x' y' z' x2 y2 z2 : Value) (t : TypeId) :
    Hid (Below w.heap.size w (((w.alloc (.cells #[x, y, z] t)).alloc (.cells #[x', y', z'] t)).alloc (.cells #[x2, y2, z2] t))) ∧ Tri (((w.alloc (.cells #[x, y, z] t)).alloc (.cells #[x', y', z'] t)).alloc (.cells #[x2, y2, z2] t)) w.heap.size x y z ∧
    Tri (((w.alloc (.cells #[x, y, z] t)).alloc (.cells #[x', y', z'] t)).alloc (.cells #[x2, y2, z2] t)) (w.heap.size + 1) x' y' z' ∧ Tri (((w.alloc (.cells #[x, y, z] t)).alloc (.cells #[x', y', z'] t)).alloc (.cells #[x2, y2, z2] t)) (w.heap.size + 1 + 1) x2 y2 z2 := by
  have h1 := tri_new (w.alloc (.cells #[x, y, z] t)) x' y' z' t
  have h2 := tri_new ((w.alloc (.cells #[x, y, z] t)).alloc (.cells #[x', y', z'] t)) x2 y2 z2 t
  rw [World.size_alloc] at h1
  rw [World.size_alloc, World.size_alloc] at h2
  exact ⟨Lib.hid (Below.step (Below.step (below_new _ _) (below_new _ _)) (below_new _ _)), ((tri_new w x y z t).below (below_new _ _)).below (below_new _ _), h1.below (below_new _ _), h2⟩
end Go.Proofs.YtbbhcbpfffabpaaGreatDoor.T3
