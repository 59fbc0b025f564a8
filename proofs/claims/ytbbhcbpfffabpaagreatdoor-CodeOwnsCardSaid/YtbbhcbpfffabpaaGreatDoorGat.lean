/- Merged by program: SizeP, ReadM, CountM, Build. -/
import Derived.Lib.IndexBytes
import Derived.Lib.IndexLaws
import Derived.Lib.IndexMore
import Derived.Laws.Externs
import Derived.Lib.FrozenHead2
import Derived.Test.YtbbhcbpfffabpaaGreatDoorGas
import Derived.Test.YtbbhcbpfffabpaaGreatDoorGac
import Derived.Test.YtbbhcbpfffabpaaGreatDoorGab
import Derived.Test.YtbbhcbpfffabpaaGreatDoorGaa
/- format's size: a walk. -/
namespace Go.Proofs.YtbbhcbpfffabpaaGreatDoor
open Go.RowKit

/-- A width that is read: -2 a star, -1 none. -/
def sizeP (l : List UInt8) : Int × Nat := match l with
  | [] => (-1, 0)
  | b :: r => if b.toNat = 42 then (-2, 1) else if (digs (b :: r) 0).2 = 0 then (-1, 0) else (((digs (b :: r) 0).1 : Int), (digs (b :: r) 0).2)
theorem digs_dig (b : UInt8) (l : List UInt8) (n : Nat) (h : 48 ≤ b.toNat ∧ b.toNat ≤ 57) (m : Nat) (hm : m = min (n * 10 + (b.toNat - 48)) 201) : digs (b :: l) n = ((digs l m).1, (digs l m).2 + 1) := by
  show (if _ then _ else _) = _
  rw [if_pos h]
  have e : (if 200 < n * 10 + (b.toNat - 48) then 201 else n * 10 + (b.toNat - 48)) = m := by
    rw [hm]; split <;> omega
  rw [e]
theorem digs_stop (b : UInt8) (l : List UInt8) (n : Nat) (h : ¬ (48 ≤ b.toNat ∧ b.toNat ≤ 57)) : digs (b :: l) n = (n, 0) := by
  show (if _ then _ else _) = _
  rw [if_neg h]

theorem pre_one (b c : UInt8) (l : List UInt8) (h : b = c) : Lib.hasPrefix (b :: l) [c] = true ∧ Lib.trimPrefix (b :: l) [c] = l := by
  subst h
  simp [Lib.trimPrefix, Lib.hasPrefix, List.isPrefixOf]
theorem pre_not (b c : UInt8) (l : List UInt8) (h : b ≠ c) : Lib.hasPrefix (b :: l) [c] = false := by
  have e : (c == b) = false := beq_eq_false_iff_ne.2 (fun e => h e.symm)
  simp [Lib.hasPrefix, List.isPrefixOf, e]
theorem ofL_drop (s : ByteArray) (k : Nat) : ofL (s.data.toList.drop k) = s.extract k s.size := T2.bytes_ext (by rw [ofL_list, Lib.extract_to_end])

/-- strings.CutPrefix at one byte. -/
theorem cutOne_yes (s : ByteArray) (c : UInt8) (h : ∃ r, s.data.toList = c :: r) (w : World) :
    Calls Tryz.prog 103 #[.string s, .string ⟨#[c]⟩] w fun e w' => e = .returned (.tuple #[.string (s.extract 1 s.size), .bool true]) ∧ w = w' := by
  obtain ⟨r, hr⟩ := h
  refine (Tryz.strings_CutPrefix s ⟨#[c]⟩ w).mono ?_
  rintro e w' ⟨rfl, rfl⟩
  refine ⟨?_, rfl⟩
  have h1 := pre_one c c r rfl
  rw [show (⟨#[c]⟩ : ByteArray).data.toList = [c] from rfl, hr, h1.1, h1.2]
  have e : (⟨r.toArray⟩ : ByteArray) = s.extract 1 s.size := by
    rw [← ofL_drop, hr]; rfl
  rw [e]
theorem cutOne_no (s : ByteArray) (c : UInt8) (h : ∀ r, s.data.toList ≠ c :: r) (w : World) :
    Calls Tryz.prog 103 #[.string s, .string ⟨#[c]⟩] w fun e w' => (∃ t : ByteArray, e = .returned (.tuple #[.string t, .bool false])) ∧ w = w' := by
  refine (Tryz.strings_CutPrefix s ⟨#[c]⟩ w).mono ?_
  rintro e w' ⟨rfl, rfl⟩
  have h1 : Lib.hasPrefix s.data.toList [c] = false := by
    cases hl : s.data.toList with
    | nil => rfl
    | cons b r => exact pre_not b c r (fun e => h r (by rw [hl, e]))
  rw [show (⟨#[c]⟩ : ByteArray).data.toList = [c] from rfl, h1]
  exact ⟨⟨_, rfl⟩, rfl⟩

/-- What size tells. -/
def SizeOut (s : ByteArray) (r : Int × Nat) (w : World) (e : Ending) (w' : World) : Prop :=
  e = .returned (.tuple #[.int .i64 r.1, .string (s.extract r.2 s.size)]) ∧ Below w.heap.size w w'

set_option maxRecDepth 100000 in
set_option maxHeartbeats 2000000 in
theorem size_any (s : ByteArray) (hs : s.size ≤ 1000000) (w : World) :
    Calls Tryz.prog 102 #[.string s] w (SizeOut s (sizeP s.data.toList) w) := by
  obtain ⟨R, hR⟩ : ∃ R, R = sizeP s.data.toList := ⟨_, rfl⟩
  rw [← hR]
  have fin : ∀ (v : Int) (t : ByteArray) (k : Nat) w', R = (v, k) → t = s.extract k s.size → Below w.heap.size w w' → SizeOut s R w (.returned (.tuple #[.int .i64 v, .string t])) w' := fun v t k w' h1 h2 h3 => by
    rw [h1]; exact ⟨by rw [h2], h3⟩
  have FIN := Lib.hid fin
  clear fin
  by_cases hst : ∃ r, s.data.toList = 42 :: r
  · have HC := Lib.hid (fun w => cutOne_yes s 42 hst w)
    have HX : Hid (R = (-2, 1)) := Lib.hid (by
      obtain ⟨r, hr⟩ := hst
      rw [hR, hr]; rfl)
    clear hR hst
    go_enter Tryz.func102, Tryz.ntmps102
    go_wp2_with fail
    refine (HC.out _).mono ?_
    rintro e w1 ⟨rfl, rfl⟩
    go_wp2_with fail
    go_ret2
    exact FIN.out _ _ _ _ HX.out rfl (Below.refl _ _)
  · have HC := Lib.hid (fun w => cutOne_no s 42 (fun r h => hst ⟨r, h⟩) w)
    have HX : Hid (R = if (digs s.data.toList 0).2 = 0 then (-1, 0) else (((digs s.data.toList 0).1 : Int), (digs s.data.toList 0).2)) := Lib.hid (by
      rw [hR]
      cases hl : s.data.toList with
      | nil => rfl
      | cons b r =>
        show (if b.toNat = 42 then _ else _) = _
        rw [if_neg (fun h => hst ⟨r, by rw [hl]; exact congrArg (· :: r) (UInt8.toNat_inj.1 (by rw [h]; rfl))⟩)])
    clear hR hst
    obtain ⟨T, hT⟩ : ∃ T, T = digs s.data.toList 0 := ⟨_, rfl⟩
    rw [← hT] at HX
    have HT := Lib.hid hT
    clear hT
    go_enter Tryz.func102, Tryz.ntmps102
    go_wp2_with fail
    refine (HC.out _).mono ?_
    rintro e w1 ⟨⟨t, rfl⟩, rfl⟩
    go_wp2_with fail
    go_loop [6, 7] (fun x y => ∃ n i : Nat, x = .int .i64 n ∧ y = .int .i64 i ∧ i ≤ s.size ∧ n ≤ 201 ∧ Hid (T = ((digs (s.data.toList.drop i) n).1, i + (digs (s.data.toList.drop i) n).2))) (fun _ y => s.size - (intOf y).toNat)
    case atStart => exact ⟨0, 0, rfl, rfl, by omega, by omega, Lib.hid (by rw [HT.out]; simp)⟩
    case round =>
      obtain ⟨n, i, rfl, rfl, hi, hn, HA⟩ := hrel
      by_cases hd : ∃ h : i < s.size, 48 ≤ s[i].toNat ∧ s[i].toNat ≤ 57
      · obtain ⟨hlt, h1, h2⟩ := hd
        have dt : decide (i < s.size) = true := decide_eq_true hlt
        have d1 : decide ((48 : Int) ≤ (s[i].toNat : Int)) = true := decide_eq_true (by omega)
        have d2 : decide ((s[i].toNat : Int) ≤ 57) = true := decide_eq_true (by omega)
        obtain ⟨m, hm⟩ : ∃ m, m = min (n * 10 + (s[i].toNat - 48)) 201 := ⟨_, rfl⟩
        have HX2 : Hid (T = ((digs (s.data.toList.drop (i + 1)) m).1, i + 1 + (digs (s.data.toList.drop (i + 1)) m).2)) := Lib.hid (by
          rw [HA.out, drop_get hlt, digs_dig _ _ _ ⟨h1, h2⟩ m hm]
          exact congrArg (Prod.mk _) (by dsimp only; omega))
        have hmin : min (10 * (n : Int) + ((s[i].toNat : Int) - 48)) 201 = (m : Int) := by rw [hm]; omega
        have hm201 : m ≤ 201 := by omega
        clear hm HA
        go_wp2_with fail
        go_round
        case rel => exact ⟨m, i + 1, by go_num, by go_num, by omega, hm201, HX2⟩
        case measure => simp [intOf]; omega
      · have HX2 : Hid (T = (n, i)) := Lib.hid (by
          rw [HA.out]
          by_cases hlt : i < s.size
          · rw [drop_get hlt, digs_stop _ _ _ (fun h => hd ⟨hlt, h⟩)]; rfl
          · rw [List.drop_eq_nil_of_le (by rw [← Lib.size_eq]; omega)]; rfl)
        by_cases hlt : i < s.size
        · have dt : decide (i < s.size) = true := decide_eq_true hlt
          by_cases h1 : 48 ≤ s[i].toNat
          · have d1 : decide ((48 : Int) ≤ (s[i].toNat : Int)) = true := decide_eq_true (by omega)
            have d2 : decide ((s[i].toNat : Int) ≤ 57) = false := decide_eq_false (fun h => hd ⟨hlt, h1, by omega⟩)
            clear hd
            by_cases h0 : i = 0
            · subst h0
              have HF : Hid (R = (-1, 0)) := Lib.hid (by rw [HX.out, HX2.out, if_pos rfl])
              clear HA
              go_wp2_with fail
              go_ret2
              exact FIN.out _ _ _ _ HF.out (T2.part_all s).symm (Below.refl _ _)
            · have e0 : ((i : Int) == 0) = false := beq_eq_false_iff_ne.2 (by omega)
              have HF : Hid (R = ((n : Int), i)) := Lib.hid (by rw [HX.out, HX2.out, if_neg h0])
              clear HA h0
              go_wp2_with fail
              go_quiet (fail)
              go_wp2_with fail
              go_ret2
              exact FIN.out _ _ _ _ HF.out rfl (Below.drewN' (Below.refl _ _) _)
          · have d1 : decide ((48 : Int) ≤ (s[i].toNat : Int)) = false := decide_eq_false (by omega)
            clear hd
            by_cases h0 : i = 0
            · subst h0
              have HF : Hid (R = (-1, 0)) := Lib.hid (by rw [HX.out, HX2.out, if_pos rfl])
              clear HA
              go_wp2_with fail
              go_ret2
              exact FIN.out _ _ _ _ HF.out (T2.part_all s).symm (Below.refl _ _)
            · have e0 : ((i : Int) == 0) = false := beq_eq_false_iff_ne.2 (by omega)
              have HF : Hid (R = ((n : Int), i)) := Lib.hid (by rw [HX.out, HX2.out, if_neg h0])
              clear HA h0
              go_wp2_with fail
              go_quiet (fail)
              go_wp2_with fail
              go_ret2
              exact FIN.out _ _ _ _ HF.out rfl (Below.drewN' (Below.refl _ _) _)
        · have dt : decide (i < s.size) = false := decide_eq_false hlt
          clear hd
          by_cases h0 : i = 0
          · subst h0
            have HF : Hid (R = (-1, 0)) := Lib.hid (by rw [HX.out, HX2.out, if_pos rfl])
            clear HA
            go_wp2_with fail
            go_ret2
            exact FIN.out _ _ _ _ HF.out (T2.part_all s).symm (Below.refl _ _)
          · have e0 : ((i : Int) == 0) = false := beq_eq_false_iff_ne.2 (by omega)
            have HF : Hid (R = ((n : Int), i)) := Lib.hid (by rw [HX.out, HX2.out, if_neg h0])
            clear HA h0
            go_wp2_with fail
            go_quiet (fail)
            go_wp2_with fail
            go_ret2
            exact FIN.out _ _ _ _ HF.out rfl (Below.drewN' (Below.refl _ _) _)
end Go.Proofs.YtbbhcbpfffabpaaGreatDoor

/- A directive that is read, plain: how the program's reading stands to the document's. -/
namespace Go.Proofs.YtbbhcbpfffabpaaGreatDoor
open Go.RowKit

def zeroD : Dir := ⟨false, false, false, false, 0, 0, 0⟩
/-- A point and what is behind it, as the program reads it. -/
def pointP (l : List UInt8) : Int × Nat := match l with
  | [] => (-1, 0)
  | b :: r => if b.toNat = 46 then (if (sizeP r).1 = -1 then 0 else (sizeP r).1, (sizeP r).2 + 1) else (-1, 0)
def headP (l : List UInt8) : Dir × Nat :=
  let a := flagsR l zeroD
  let w := sizeP (l.drop a.2)
  let p := pointP (l.drop (a.2 + w.2))
  ({ a.1 with wide := w.1, prec := p.1 }, a.2 + w.2 + p.2)
def readP (l : List UInt8) : Option (Dir × Nat) := match l.drop (headP l).2 with
  | [] => none
  | b :: _ => if 200 < (headP l).1.wide ∨ 200 < (headP l).1.prec ∨ isLetter b.toNat = false then none else some ({ (headP l).1 with letter := b.toNat }, (headP l).2 + 1)

/-- The program's directive is the document's, but that no width stands as -1. -/
def Alike (d d' : Dir) : Prop := ∃ x : Int, (x = d'.wide ∨ (x = -1 ∧ d'.wide = 0)) ∧ d = { d' with wide := x }

theorem size_num (l : List UInt8) : (numR l).2 = (sizeP l).2 ∧ (((sizeP l).1 = -1 ∧ (numR l).1 = 0) ∨ ((sizeP l).1 ≠ -1 ∧ (numR l).1 = (sizeP l).1)) := by
  cases l with
  | nil => exact ⟨rfl, Or.inl ⟨rfl, rfl⟩⟩
  | cons b r =>
    have e1 : numR (b :: r) = if b.toNat = 42 then (-2, 1) else (((digs (b :: r) 0).1 : Int), (digs (b :: r) 0).2) := rfl
    have e2 : sizeP (b :: r) = if b.toNat = 42 then (-2, 1) else if (digs (b :: r) 0).2 = 0 then (-1, 0) else (((digs (b :: r) 0).1 : Int), (digs (b :: r) 0).2) := rfl
    by_cases h : b.toNat = 42
    · rw [if_pos h] at e1 e2
      rw [e1, e2]
      exact ⟨rfl, Or.inr ⟨by decide, rfl⟩⟩
    · rw [if_neg h] at e1 e2
      by_cases h0 : (digs (b :: r) 0).2 = 0
      · rw [if_pos h0] at e2
        have hb : ¬ (48 ≤ b.toNat ∧ b.toNat ≤ 57) := fun hb => by
          rw [digs_dig b r 0 hb _ rfl] at h0
          omega
        rw [digs_stop b r 0 hb] at e1
        rw [e1, e2]
        exact ⟨rfl, Or.inl ⟨rfl, rfl⟩⟩
      · rw [if_neg h0] at e2
        rw [e1, e2]
        exact ⟨rfl, Or.inr ⟨by dsimp only; omega, rfl⟩⟩
theorem point_same (l : List UInt8) : pointP l = pointR l := by
  cases l with
  | nil => rfl
  | cons b r =>
    show (if b.toNat = 46 then _ else _) = (if b.toNat = 46 then _ else _)
    by_cases h : b.toNat = 46
    · rw [if_pos h, if_pos h]
      obtain ⟨h1, h2⟩ := size_num r
      rcases h2 with ⟨h2, h3⟩ | ⟨h2, h3⟩
      · rw [if_pos h2, h1, h3]
      · rw [if_neg h2, h1, h3]
    · rw [if_neg h, if_neg h]
/-- Flags hang on the flags alone. -/
theorem flags_frame (wd pr : Int) (lt : Nat) : ∀ (l : List UInt8) (d : Dir), flagsR l { d with wide := wd, prec := pr, letter := lt } = ({ (flagsR l d).1 with wide := wd, prec := pr, letter := lt }, (flagsR l d).2)
  | [], d => rfl
  | b :: l, d => by
    by_cases h : b.toNat = 45 ∨ b.toNat = 43 ∨ b.toNat = 32 ∨ b.toNat = 48
    · rw [flagsR_cons b l _ h, flagsR_cons b l _ h]
      have e : flag1 b { d with wide := wd, prec := pr, letter := lt } = { flag1 b d with wide := wd, prec := pr, letter := lt } := rfl
      rw [e, flags_frame wd pr lt l (flag1 b d)]
    · rw [flagsR_stop b l _ h, flagsR_stop b l _ h]
theorem flags_keep : ∀ (l : List UInt8) (d : Dir), (flagsR l d).1.wide = d.wide ∧ (flagsR l d).1.prec = d.prec ∧ (flagsR l d).1.letter = d.letter
  | [], d => ⟨rfl, rfl, rfl⟩
  | b :: l, d => by
    by_cases h : b.toNat = 45 ∨ b.toNat = 43 ∨ b.toNat = 32 ∨ b.toNat = 48
    · rw [flagsR_cons b l _ h]; exact flags_keep l (flag1 b d)
    · rw [flagsR_stop b l _ h]; exact ⟨rfl, rfl, rfl⟩
theorem head_same (l : List UInt8) : (headP l).2 = (headR l).2 ∧ Alike (headP l).1 (headR l).1 := by
  have h := flags_frame 0 (-1) 0 l zeroD
  have e0 : ({ zeroD with wide := 0, prec := -1, letter := 0 } : Dir) = ⟨false, false, false, false, 0, -1, 0⟩ := rfl
  rw [e0] at h
  unfold headP headR
  dsimp only
  rw [h]
  dsimp only
  obtain ⟨h1, h2⟩ := size_num (l.drop (flagsR l zeroD).2)
  rw [h1, point_same]
  refine ⟨rfl, (sizeP (l.drop (flagsR l zeroD).2)).1, ?_, ?_⟩
  · rcases h2 with ⟨h2, h3⟩ | ⟨h2, h3⟩
    · exact Or.inr ⟨h2, h3⟩
    · exact Or.inl h3.symm
  · have hk : (flagsR l zeroD).1.letter = 0 := (flags_keep l zeroD).2.2
    generalize (flagsR l zeroD).1 = F at hk ⊢
    obtain ⟨a, b, c, e, f, g, i⟩ := F
    dsimp only at hk ⊢
    rw [hk]
theorem Alike.wide {d d' : Dir} (h : Alike d d') : (200 < d.wide ↔ 200 < d'.wide) := by
  obtain ⟨x, hx, rfl⟩ := h
  dsimp only
  omega
theorem read_same (l : List UInt8) : (readP l = none ∧ readS l = none) ∨ ∃ d d' k, readP l = some (d, k) ∧ readS l = some (d', k) ∧ Alike d d' := by
  obtain ⟨h1, h2⟩ := head_same l
  unfold readP readS
  rw [h1]
  cases hl : l.drop (headR l).2 with
  | nil => exact Or.inl ⟨rfl, rfl⟩
  | cons b r =>
    dsimp only
    have hw := h2.wide
    obtain ⟨x, hx, he⟩ := h2
    have hp : (headP l).1.prec = (headR l).1.prec := by rw [he]
    rw [hp]
    by_cases hc : 200 < (headR l).1.wide ∨ 200 < (headR l).1.prec ∨ isLetter b.toNat = false
    · rw [if_pos hc, if_pos (by rw [hw]; exact hc)]
      exact Or.inl ⟨rfl, rfl⟩
    · rw [if_neg hc, if_neg (by rw [hw]; exact hc)]
      exact Or.inr ⟨_, _, _, rfl, rfl, x, hx, by rw [he]⟩

theorem pad_alike {x y : Int} (h : x = y ∨ (x = -1 ∧ y = 0)) : clampN x = clampN y := by
  rcases h with h | ⟨h, h'⟩
  · rw [h]
  · rw [h, h']; rfl
/-- Alike directives tell the same. -/
theorem alike_same {d d' : Dir} (h : Alike d d') (cs : List Cel) : dirT d cs = dirT d' cs ∧ dirC d cs = dirC d' cs ∧ takesD d = takesD d' ∧ d.letter = d'.letter ∧ d.prec = d'.prec ∧ (d.wide = -2 ↔ d'.wide = -2) := by
  obtain ⟨x, hx, rfl⟩ := h
  rcases hx with hx | ⟨hx, h0⟩
  · subst hx
    exact ⟨rfl, rfl, rfl, rfl, rfl, Iff.rfl⟩
  · subst hx
    obtain ⟨a, b, c, e, f, g, i⟩ := d'
    dsimp only at h0
    subst h0
    refine ⟨?_, rfl, rfl, rfl, rfl, by dsimp only; omega⟩
    unfold dirT
    have e1 : ∀ cs, fillE (-1) cs = fillE 0 cs := fun _ => rfl
    have e2 : ∀ cs, fillC (-1) cs = fillC 0 cs := fun _ => rfl
    dsimp only
    rw [e1, e2]
    split
    · rfl
    split
    · rfl
    split
    · rfl
    · unfold makeS toldD leftC
      have e3 : ∀ s l z, padS s (fillV (-1) cs) l z = padS s (fillV 0 cs) l z := fun s l z => padS_wide s rfl l z
      have e4 : ∀ q y, bodyS { left := a, plus := b, blank := c, zero := e, wide := fillV (-1) cs, prec := q, letter := i } y = bodyS { left := a, plus := b, blank := c, zero := e, wide := fillV 0 cs, prec := q, letter := i } y := fun _ _ => rfl
      dsimp only
      rw [e2, e4]
      split
      · rfl
      · rw [e3]; rfl
theorem letter_index (b : UInt8) : decide (Lib.indexByte [100, 105, 111, 120, 88, 99, 115, 102, 37] b < 0) = !isLetter b.toNat := by
  have h : ∀ k : Fin 256, decide (Lib.indexByte [100, 105, 111, 120, 88, 99, 115, 102, 37] (UInt8.ofNat k.val) < 0) = !isLetter (UInt8.ofNat k.val).toNat := by decide +kernel
  have e : UInt8.ofNat b.toNat = b := by simp
  have := h ⟨b.toNat, b.toNat_lt⟩
  rw [e] at this
  exact this
theorem head_le (l : List UInt8) : (headP l).2 ≤ l.length := by rw [(head_same l).1]; exact headR_le l
theorem readP_le {l : List UInt8} {d : Dir} {k : Nat} (h : readP l = some (d, k)) : k ≤ l.length ∧ -2 ≤ d.prec ∧ d.prec ≤ 200 ∧ d.letter < 256 := by
  have hh := head_le l
  have hb := (pointR_le (l.drop ((flagsR l zeroD).2 + (sizeP (l.drop (flagsR l zeroD).2)).2))).2
  have hp : (headP l).1.prec = (pointR (l.drop ((flagsR l zeroD).2 + (sizeP (l.drop (flagsR l zeroD).2)).2))).1 := by
    rw [← point_same]; rfl
  unfold readP at h
  cases hl : l.drop (headP l).2 with
  | nil => rw [hl] at h; exact absurd h (by simp)
  | cons b r =>
    rw [hl] at h
    dsimp only at h
    split at h
    · exact absurd h (by simp)
    · rename_i hc
      injection h with h
      injection h with h1 h2
      subst h1 h2
      have hlen := congrArg List.length hl
      rw [List.length_drop, List.length_cons] at hlen
      refine ⟨by omega, ?_, ?_, b.toNat_lt⟩
      · show -2 ≤ (headP l).1.prec
        rw [hp]; exact hb.1
      · show (headP l).1.prec ≤ 200
        omega
end Go.Proofs.YtbbhcbpfffabpaaGreatDoor

/- Formats, plain: what stands ahead of a percent sign; what is counted. -/
namespace Go.Proofs.YtbbhcbpfffabpaaGreatDoor
open Go.RowKit

def NoPct (l : List UInt8) : Prop := ∀ x ∈ l, x.toNat ≠ 37
theorem pct_of {x : UInt8} (h : x.toNat = 37) : x = 37 := UInt8.toNat_inj.1 (by rw [h]; rfl)
theorem pct_split (l : List UInt8) : (∃ P R, l = P ++ 37 :: R ∧ NoPct P ∧ Lib.cut l [37] = (P, R, true)) ∨ (NoPct l ∧ Lib.cut l [37] = (l, [], false)) := by
  unfold Lib.cut
  rw [Lib.index_one]
  have hge := Lib.indexByte_ge l 37
  by_cases h : Lib.indexByte l 37 = -1
  · rw [h, if_neg (by decide)]
    refine Or.inr ⟨fun x hx hp => ?_, rfl⟩
    obtain ⟨k, hk, he⟩ := List.getElem_of_mem hx
    exact Lib.indexByte_none h k (by rw [List.getElem?_eq_getElem hk, he, pct_of hp])
  · obtain ⟨o, ho⟩ : ∃ o : Nat, Lib.indexByte l 37 = o := ⟨(Lib.indexByte l 37).toNat, by omega⟩
    obtain ⟨h1, h2⟩ := Lib.indexByte_some ho
    rw [ho, if_pos (by omega)]
    have hol : o < l.length := (List.getElem?_eq_some_iff.1 h1).1
    have hog : l[o] = 37 := (List.getElem?_eq_some_iff.1 h1).2
    refine Or.inl ⟨l.take o, l.drop (o + 1), ?_, fun x hx hp => ?_, by simp⟩
    · rw [← hog, ← List.drop_eq_getElem_cons hol, List.take_append_drop]
    · obtain ⟨k, hk, he⟩ := List.getElem_of_mem hx
      rw [List.length_take] at hk
      rw [List.getElem_take] at he
      exact h2 k (by omega) (by rw [List.getElem?_eq_getElem (by omega), he, pct_of hp])
theorem doL_err (l : List UInt8) : ∀ cs, (doL l cs).2 ≠ 0 → (doL l cs).1 = noTxt := by
  suffices h : ∀ n (l : List UInt8) cs, (doS n l cs).2 ≠ 0 → (doS n l cs).1 = noTxt from h _ _
  intro n
  induction n with
  | zero => intro l cs h; exact absurd rfl h
  | succ n ih =>
    intro l cs
    cases l with
    | nil => intro h; exact absurd rfl h
    | cons b r =>
      unfold doS
      have hc : ∀ (o : ByteArray) (r : ByteArray × Int), (catS o r).2 ≠ 0 → (catS o r).1 = noTxt := fun o r h => by
        unfold catS at h ⊢
        split at h
        · exact absurd rfl h
        · rename_i h0; rw [if_neg h0]
      split
      · split
        · intro _; rfl
        · split
          · intro _; rfl
          · exact hc _ _
      · exact hc _ _
theorem doL_plain : ∀ (P rest : List UInt8) (cs : List Cel), NoPct P → doL (P ++ rest) cs = catS (ofL P) (doL rest cs)
  | [], rest, cs, _ => by
    rw [List.nil_append]
    exact (catS_nil _ (doL_err rest cs)).symm
  | b :: P, rest, cs, h => by
    rw [List.cons_append, doL_other (h b (by simp)), doL_plain P rest cs (fun x hx => h x (by simp [hx])), catS_cat, ofL_append]
    rfl
theorem doL_all (P : List UInt8) (cs : List Cel) (h : NoPct P) : doL P cs = (ofL P, 0) := by
  have h1 := doL_plain P [] cs h
  rw [List.append_nil, doL_nil] at h1
  rw [h1]
  unfold catS
  rw [if_pos rfl]
  exact congrArg (·, (0 : Int)) (T2.bytes_ext (by simp [noTxt]))
theorem countL_plain : ∀ (P rest : List UInt8), NoPct P → countL (P ++ rest) = countL rest
  | [], _, _ => rfl
  | b :: P, rest, h => by
    rw [List.cons_append, countL_other (h b (by simp)), countL_plain P rest (fun x hx => h x (by simp [hx]))]
theorem countL_all (P : List UInt8) (h : NoPct P) : countL P = some 0 := by
  have h1 := countL_plain P [] h
  rw [List.append_nil, countL_nil] at h1
  exact h1

theorem cut_of (l : List UInt8) (hl : l.length ≤ 100000) (w : World) (hE : Env w) :
    Calls Tryz.prog 73 #[.string (ofL l), .string ⟨#[37]⟩] w fun e w' =>
      ((∃ P R, l = P ++ 37 :: R ∧ NoPct P ∧ e = .returned (.tuple #[.string (ofL P), .string (ofL R), .bool true])) ∨ (NoPct l ∧ e = .returned (.tuple #[.string (ofL l), .string (ofL []), .bool false]))) ∧ Below w.heap.size w w' := by
  obtain ⟨m, hm⟩ := hE.ml
  refine (Tryz.strings_Cut (ofL l) ⟨#[37]⟩ m w (by rw [ofL_size]; omega) hm).mono ?_
  rintro e w' ⟨rfl, n, rfl⟩
  refine ⟨?_, Below.drewN' (Below.refl _ _) n⟩
  rw [ofL_list, show (⟨#[37]⟩ : ByteArray).data.toList = [37] from rfl]
  rcases pct_split l with ⟨P, R, h1, h2, h3⟩ | ⟨h1, h2⟩
  · rw [h3]; exact Or.inl ⟨P, R, h1, h2, rfl⟩
  · rw [h2]; exact Or.inr ⟨h1, rfl⟩
def lenOf : Value → Nat
  | .string s => s.size
  | _ => 0
end Go.Proofs.YtbbhcbpfffabpaaGreatDoor

/- strings.Builder's copyCheck and WriteByte: walks (the dump's copyCheck has no panic's text: the shelf's laying does not fit). -/
namespace Go.Proofs.YtbbhcbpfffabpaaGreatDoor
open Go.RowKit

theorem info_builder : (Tryz.prog.info? 87).map (·.size) = some 2 := by kernel_rfl
theorem lies_builder : liesAt Tryz.prog Tryz.prog.depth 87 (2 / Tryz.prog.cellsOf 87) 0 87 1 = true := by kernel_rfl
theorem info_byte : (Tryz.prog.info? 5).map (fun i => (i.zero, i.size, i.bytes)) = some (some (.int .u8 0), 1, 1) := by kernel_rfl

set_option maxHeartbeats 1000000 in
set_option maxRecDepth 100000 in
theorem copy_used (b : Nat) (w : World) (h0 : w.cell? ⟨b, 0, none⟩ = some (.pointer (some ⟨b, 0, none⟩))) :
    Calls Tryz.prog 100 #[.pointer (some ⟨b, 0, none⟩)] w fun e w' => e = .returned (.tuple #[]) ∧ w' = w := by
  obtain ⟨j, hj, _⟩ := Option.map_eq_some_iff.1 info_builder
  go_enter Tryz.func100, Tryz.ntmps100
  go_wp2
  rw [Lib.run_neq_ptr_same w _ Tryz.underlying85 hj]
  go_wp2
  go_end0
  exact ⟨rfl, rfl⟩

set_option maxHeartbeats 1000000 in
set_option maxRecDepth 100000 in
theorem copy_fresh (b : Nat) (w : World) (h0 : w.cell? ⟨b, 0, none⟩ = some (.pointer none)) (hsh : w.shape? b = some (87, 2)) (hfz : w.frozen? ⟨b, 0, none⟩ = false) :
    Calls Tryz.prog 100 #[.pointer (some ⟨b, 0, none⟩)] w fun e w' => e = .returned (.tuple #[]) ∧ w' = w.setCell ⟨b, 0, none⟩ (.pointer (some ⟨b, 0, none⟩)) := by
  obtain ⟨j, hj, hjs⟩ := Option.map_eq_some_iff.1 info_builder
  go_enter Tryz.func100, Tryz.ntmps100
  go_wp2
  rw [Lib.run_to_unsafe w ⟨b, 0, none⟩ Tryz.underlying85 Tryz.underlying137 hj (by rw [hjs]; decide) hsh (Nat.zero_lt_succ 1)]
  simp only [Result.andThen]
  rw [Oper.upon_value]
  go_wp2
  rw [run_callFunc_extern Tryz.func122 (by kernel_rfl) (by kernel_rfl) (by kernel_rfl) (e := Extern.AbiNoEscape.same) (by kernel_rfl)]
  rw [Lib.run_noEscape]
  simp only [Result.andThen]
  rw [Oper.upon_value]
  go_wp2
  rw [Lib.run_from_unsafe w ⟨b, 0, none⟩ Tryz.underlying137 Tryz.underlying85 hj hsh lies_builder]
  simp only [Result.andThen]
  rw [Oper.upon_value]
  go_wp2
  go_end0
  exact ⟨rfl, rfl⟩

theorem copyCheck_k (B b : Nat) (bs : List Value) (w : World) (h : Lib.IsBuilderF 87 5 B b bs w) :
    Calls Tryz.prog 100 #[.pointer (some ⟨b, 0, none⟩)] w fun e w' => e = .returned (.tuple #[]) ∧ (Lib.BuilderAtF 87 5 B b (.pointer (some ⟨b, 0, none⟩)) bs w' ∧ Below B w w' ∧ Lib.OthersKept 5 (some b) w w') := by
  rcases h with h | h
  · refine (copy_fresh b w h.cell0 h.shape h.frozen0).mono ?_
    rintro e w' ⟨rfl, rfl⟩
    exact ⟨rfl, h.used _, (Below.refl B w).setCell (p := ⟨b, 0, none⟩) h.1 _, (Lib.OthersKept.refl _ _ w).setCell ⟨b, 0, none⟩ rfl _⟩
  · refine (copy_used b w h.cell0).mono ?_
    rintro e w' ⟨rfl, rfl⟩
    exact ⟨rfl, h, Below.refl B _, Lib.OthersKept.refl _ _ _⟩

end Go.Proofs.YtbbhcbpfffabpaaGreatDoor
