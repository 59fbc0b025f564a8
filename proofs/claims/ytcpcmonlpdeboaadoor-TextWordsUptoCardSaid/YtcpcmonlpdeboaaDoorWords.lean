/- Words and blanks, byte by byte; the document's Blank, Words, Trim. -/
import Derived.Test.YtcpcmonlpdeboaaDoorRune
import Derived.Lib.SlTrimSet
namespace Go.Proofs.YtcpcmonlpdeboaaDoor
open Go.RowKit
open Go.Lib (spansFromP closeSpans goFieldsP spansOfP)

def blankB (c : UInt8) : Bool := c.toNat == 32 || c.toNat == 9 || c.toNat == 10
def byteAt (s : ByteArray) (i : Nat) : UInt8 := s.get! i

/-- One byte on: what is open, and what is closed. -/
def stp (s : ByteArray) (i : Nat) (x : Option Nat × List (Nat × Nat)) : Option Nat × List (Nat × Nat) :=
  if blankB (byteAt s i) then (match x.1 with
    | some a => (none, x.2 ++ [(a, i)])
    | none => (none, x.2))
  else (some (x.1.getD i), x.2)

def bs (s : ByteArray) : Nat → Nat → Option Nat × List (Nat × Nat) → Option Nat × List (Nat × Nat)
  | 0, _, x => x
  | n + 1, i, x => bs s n (i + 1) (stp s i x)

theorem bs_add (s : ByteArray) : ∀ (m n i : Nat) (x : Option Nat × List (Nat × Nat)), bs s (m + n) i x = bs s n (i + m) (bs s m i x)
  | 0, n, i, x => by rw [Nat.zero_add, Nat.add_zero]; rfl
  | m + 1, n, i, x => by
    rw [show m + 1 + n = (m + n) + 1 from by omega]
    show bs s (m + n) (i + 1) (stp s i x) = _
    rw [bs_add s m n (i + 1), show i + 1 + m = i + (m + 1) from by omega]
    rfl

theorem bs_snoc (s : ByteArray) (i : Nat) (x : Option Nat × List (Nat × Nat)) : bs s (i + 1) 0 x = stp s i (bs s i 0 x) := by
  rw [bs_add, Nat.zero_add]; rfl

theorem bs_run (s : ByteArray) : ∀ (n i : Nat) (st : Option Nat) (acc : List (Nat × Nat)), (∀ j, i ≤ j → j < i + n → blankB (byteAt s j) = false) → 0 < n → bs s n i (st, acc) = (some (st.getD i), acc)
  | 0, _, _, _, _, h => absurd h (Nat.not_lt_zero _)
  | n + 1, i, st, acc, hb, _ => by
    show bs s n (i + 1) (stp s i (st, acc)) = _
    have h0 : stp s i (st, acc) = (some (st.getD i), acc) := by
      unfold stp; rw [hb i (Nat.le_refl _) (by omega)]; rfl
    rw [h0]
    cases n with
    | zero => rfl
    | succ n =>
      rw [bs_run s (n + 1) (i + 1) _ acc (fun j h1 h2 => hb j (by omega) (by omega)) (by omega)]
      rfl

theorem blank_high {c : UInt8} (h : 128 ≤ c.toNat) : blankB c = false := by
  unfold blankB
  simp only [Bool.or_eq_false_iff, beq_eq_false_iff_ne]
  omega

/-- A character is a blank just if its first byte is. -/
theorem blank_one (s : ByteArray) (p : Nat) : blankR (Utf8.decode s p).1 = blankB (byteAt s p) := by
  rw [Lib.decode_at]
  unfold byteAt blankR blankB
  by_cases hb : (s.get! p).toNat < 128
  · unfold Lib.decodeN
    rw [if_pos hb]
  · have hr : 128 ≤ (Lib.decodeN (s.size - p) (s.get! p).toNat (s.get! (p + 1)).toNat (s.get! (p + 2)).toNat (s.get! (p + 3)).toNat).1 := by
      unfold Lib.decodeN
      repeat' split
      all_goals simp
      all_goals omega
    have e : ∀ n : Nat, 128 ≤ n → (n == 32 || n == 9 || n == 10) = false := fun n hn => by
      simp only [Bool.or_eq_false_iff, beq_eq_false_iff_ne]; omega
    rw [e _ hr, e _ (by omega)]

theorem rune_many (s : ByteArray) (p : Nat) (h : 1 < cw s p) : blankR (Utf8.decode s p).1 = false := by
  unfold cw at h
  rw [Lib.decode_at] at h ⊢
  have hr : 128 ≤ (Lib.decodeN (s.size - p) (s.get! p).toNat (s.get! (p + 1)).toNat (s.get! (p + 2)).toNat (s.get! (p + 3)).toNat).1 := by
    unfold Lib.decodeN at h ⊢
    repeat' split at h
    all_goals simp at h
    all_goals (repeat' split)
    all_goals first | (exfalso; omega) | (simp; omega) | simp_all
  unfold blankR
  simp only [Bool.or_eq_false_iff, beq_eq_false_iff_ne]
  omega

theorem spans_bytes (s : ByteArray) : ∀ (f pos : Nat) (st : Option Nat) (acc : List (Nat × Nat)), s.size - pos ≤ f → pos ≤ s.size →
    spansFromP blankR s f pos st acc = ((bs s (s.size - pos) pos (st, acc)).2, (bs s (s.size - pos) pos (st, acc)).1)
  | 0, pos, st, acc, hf, hp => by
    rw [show s.size - pos = 0 from by omega]; rfl
  | f + 1, pos, st, acc, hf, hp => by
    unfold spansFromP
    by_cases h : pos < s.size
    · rw [if_pos h]
      have hw1 := cw_pos s pos
      have hw2 := cw_le h
      have hrest : bs s (s.size - pos) pos (st, acc) = bs s (s.size - (pos + cw s pos)) (pos + cw s pos) (bs s (cw s pos) pos (st, acc)) := by
        rw [← bs_add]; congr 1; omega
      rw [hrest]
      have hw : (Utf8.decode s pos).2 = cw s pos := rfl
      rw [hw]
      rcases Nat.lt_or_ge 1 (cw s pos) with hmany | hone
      · have hb : ∀ j, pos ≤ j → j < pos + cw s pos → blankB (byteAt s j) = false := fun j h1 h2 => by
          apply blank_high
          unfold byteAt
          by_cases hj : j = pos
          · subst hj; have := cw_lead hmany; omega
          · have := cw_cont (p := pos) (j := j - pos) h (by omega) (by omega)
            rw [show pos + (j - pos) = j from by omega] at this
            omega
        rw [rune_many s pos hmany, bs_run s (cw s pos) pos st acc hb (by omega)]
        cases st with
        | none => exact spans_bytes s f _ _ _ (by omega) hw2
        | some a => exact spans_bytes s f _ _ _ (by omega) hw2
      · have h1 : cw s pos = 1 := by omega
        rw [blank_one s pos]
        rw [h1] at hw2 ⊢
        have hstp : bs s 1 pos (st, acc) = stp s pos (st, acc) := rfl
        rw [hstp]
        unfold stp
        cases hb : blankB (byteAt s pos) <;> cases st <;> exact spans_bytes s f _ _ _ (by omega) hw2
    · rw [if_neg h, show s.size - pos = 0 from by omega]; rfl

/-- The state behind i bytes. -/
def bst (s : ByteArray) (i : Nat) : Option Nat × List (Nat × Nat) := bs s i 0 (none, [])

theorem fields_bytes (s : ByteArray) : goFieldsP blankR s = (closeSpans s ((bst s s.size).2, (bst s s.size).1)).map fun x => s.extract x.1 x.2 := by
  unfold goFieldsP spansOfP
  rw [spans_bytes s s.size 0 none [] (by omega) (Nat.zero_le _), Nat.sub_zero]
  rfl

theorem bst_zero (s : ByteArray) : bst s 0 = (none, []) := rfl
theorem bst_succ (s : ByteArray) (i : Nat) : bst s (i + 1) = stp s i (bst s i) := bs_snoc s i _

theorem bst_open {s : ByteArray} {i : Nat} {st : Option Nat} (h : (bst s i).1 = st) (hb : blankB (byteAt s i) = false) : bst s (i + 1) = (some (st.getD i), (bst s i).2) := by
  rw [bst_succ]; unfold stp; rw [hb, h]; rfl
theorem bst_none {s : ByteArray} {i : Nat} (h : (bst s i).1 = none) (hb : blankB (byteAt s i) = true) : bst s (i + 1) = (none, (bst s i).2) := by
  rw [bst_succ]; unfold stp; rw [hb, h]; rfl
theorem bst_some {s : ByteArray} {i a : Nat} (h : (bst s i).1 = some a) (hb : blankB (byteAt s i) = true) : bst s (i + 1) = (none, (bst s i).2 ++ [(a, i)]) := by
  rw [bst_succ]; unfold stp; rw [hb, h]; rfl

/-- Not too many, and what is open began ahead. -/
theorem bst_bd (s : ByteArray) : ∀ i, (bst s i).2.length ≤ i ∧ ∀ a, (bst s i).1 = some a → a < i
  | 0 => by rw [bst_zero]; exact ⟨Nat.le_refl _, fun a h => by cases h⟩
  | i + 1 => by
    obtain ⟨h1, h2⟩ := bst_bd s i
    rw [bst_succ]
    unfold stp
    split
    · cases hst : (bst s i).1 with
      | none => exact ⟨by simp; omega, fun a h => by cases h⟩
      | some a => exact ⟨by simp; omega, fun a h => by cases h⟩
    · refine ⟨by simp; omega, fun a h => ?_⟩
      injection h with h
      cases hst : (bst s i).1 with
      | none => rw [hst] at h; simp at h; omega
      | some b => rw [hst] at h; simp at h; have := h2 b hst; omega

theorem byteAt_eq (s : ByteArray) (i : Nat) (h : i < s.size) : byteAt s i = s[i] := by
  have := get_at s i h
  rw [Nat.add_zero] at this
  exact this

/-- The texts of places. -/
def cutsB (s : ByteArray) (l : List (Nat × Nat)) : List ByteArray := l.map fun x => s.extract x.1 x.2
theorem cuts_snoc (s : ByteArray) (l : List (Nat × Nat)) (a b : Nat) : cutsB s (l ++ [(a, b)]) = cutsB s l ++ [s.extract a b] := by simp [cutsB]
theorem cuts_len (s : ByteArray) (l : List (Nat × Nat)) : (cutsB s l).length = l.length := by simp [cutsB]

set_option maxRecDepth 100000 in
theorem blank_any (c : UInt8) (w : World) :
    Calls Tryd.prog 13 #[.int .u8 (c.toNat : Int)] w fun e w' => e = .returned (.bool (blankB c)) ∧ w = w' := by
  have hc : c.toNat < 256 := c.toNat_lt
  generalize hn : c.toNat = n at *
  have h : blankB c = (n == 32 || n == 9 || n == 10) := by unfold blankB; rw [hn]
  rw [h]; clear h hn
  by_cases h1 : n = 32
  · subst h1
    go_enter Tryd.func13, Tryd.ntmps13
    go_wp2_with fail
    go_ret
    exact ⟨rfl, rfl⟩
  · by_cases h2 : n = 9
    · subst h2
      go_enter Tryd.func13, Tryd.ntmps13
      go_wp2_with fail
      go_ret
      exact ⟨rfl, rfl⟩
    · by_cases h3 : n = 10
      · subst h3
        go_enter Tryd.func13, Tryd.ntmps13
        go_wp2_with fail
        go_ret
        exact ⟨rfl, rfl⟩
      · have e : (n == 32 || n == 9 || n == 10) = false := by simp only [Bool.or_eq_false_iff, beq_eq_false_iff_ne]; omega
        rw [e]
        have g1 : ((n : Int) == 32) = false := by rw [beq_eq_false_iff_ne]; omega
        have g2 : ((n : Int) == 9) = false := by rw [beq_eq_false_iff_ne]; omega
        have g3 : ((n : Int) == 10) = false := by rw [beq_eq_false_iff_ne]; omega
        clear e h1 h2 h3
        go_enter Tryd.func13, Tryd.ntmps13
        go_wp2_with fail
        go_ret
        exact ⟨rfl, rfl⟩

/-- What is open, as a number. -/
def opn : Option Nat → Int
  | none => -1
  | some a => a

structure WInv (s : ByteArray) (B : Nat) (W wr : World) (i : Nat) (fr : Int) (p : Option Addr) (k c : Nat) : Prop where
  row : ∃ l, wr.ownsRow B 9 1 (.slice p k c) k (strs (cutsB s l)) ∧ ((i ≤ s.size ∧ l = (bst s i).2 ∧ fr = opn (bst s i).1) ∨ (s.size < i ∧ l = closeSpans s ((bst s s.size).2, (bst s s.size).1)))
  few : k ≤ i
  below : Below W.heap.size W wr

theorem close_none {s : ByteArray} {acc : List (Nat × Nat)} : closeSpans s (acc, none) = acc := rfl
theorem close_some {s : ByteArray} {acc : List (Nat × Nat)} {a : Nat} : closeSpans s (acc, some a) = acc ++ [(a, s.size)] := rfl

set_option maxRecDepth 100000 in
set_option maxHeartbeats 2000000 in
theorem refWords_any (s : ByteArray) (hs : s.size ≤ 1048576) (w : World) :
    Calls Tryd.prog 6 #[.string s] w fun e w' => ∃ p n c, e = .returned (.slice p n c) ∧ RdS w' p n c (goFieldsP blankR s) ∧ Below w.heap.size w w' := by
  have HF := Lib.hid (fields_bytes s)
  have EM : Hid (strs (cutsB s (bst s 0).2) = []) := Lib.hid rfl
  go_enter Tryd.func6, Tryd.ntmps6
  go_wp2_with fail
  go_loopw [3, 4, 5] (fun y z x wr => ∃ (i : Nat) (fr : Int) (p : Option Addr) (k c : Nat), x = .int .i64 i ∧ i ≤ s.size + 1 ∧ z = .int .i64 fr ∧ y = .slice p k c ∧ Hid (WInv s w.heap.size w wr i fr p k c)) (fun _ _ x _ => s.size + 1 - (intOf x).toNat)
  case atStart =>
    refine ⟨0, -1, _, _, _, rfl, by omega, rfl, rfl, Lib.hid ⟨⟨(bst s 0).2, ?_, Or.inl ⟨Nat.zero_le _, rfl, rfl⟩⟩, Nat.le_refl _, (Below.refl _ _).alloc (Nat.le_refl _) _⟩⟩
    have h := World.ownsRow_lit (base := w.heap.size) (e := 9) (size := 1) w #[] 0 (Nat.le_refl _) (by simp) (by simp)
    rw [EM.out]
    exact h
  case round =>
    obtain ⟨i, fr, p, k, c, rfl, hi, rfl, rfl, hinv⟩ := hrel
    by_cases hle : i ≤ s.size
    · obtain ⟨⟨l, hown, hl⟩, hfew, hb⟩ := hinv.out
      obtain ⟨rfl, rfl⟩ : l = (bst s i).2 ∧ fr = opn (bst s i).1 := by
        rcases hl with ⟨_, h1, h2⟩ | ⟨h, _⟩
        · exact ⟨h1, h2⟩
        · omega
      have HO := Lib.hid hown; clear hown
      have HB := Lib.hid hb; clear hb hl hinv
      have hbd := (bst_bd s i).2
      obtain ⟨st, hst⟩ : ∃ st, st = (bst s i).1 := ⟨_, rfl⟩
      rw [← hst] at hbd
      rw [← hst]
      have HST := Lib.hid hst; clear hst
      by_cases hlt : i < s.size
      · have hne : ((i : Int) == (s.size : Int)) = false := by rw [beq_eq_false_iff_ne]; omega
        have BL := Lib.hid (fun w => blank_any s[i] w)
        have HBY := Lib.hid (byteAt_eq s i hlt)
        cases hbl : blankB s[i]
        · rw [hbl] at BL
          rw [← HBY.out] at hbl
          cases st with
          | none =>
            have HSN := Lib.hid (show bst s (i + 1) = (some i, (bst s i).2) from bst_open HST.out.symm hbl)
            clear hbd hbl
            simp only [opn]
            go_wp2_with fail
            refine (BL.out _).mono ?_
            rintro e w1 ⟨rfl, rfl⟩
            go_wp2_with fail
            go_roundw
            case rel => exact ⟨i + 1, i, p, k, c, by go_num, by omega, rfl, rfl, Lib.hid ⟨⟨(bst s i).2, HO.out, Or.inl ⟨by omega, by rw [HSN.out], by rw [HSN.out]; rfl⟩⟩, by omega, HB.out⟩⟩
            case measure => simp [intOf]; omega
          | some a =>
            have HSN := Lib.hid (show bst s (i + 1) = (some a, (bst s i).2) from bst_open HST.out.symm hbl)
            have ha := hbd a rfl
            clear hbd hbl
            simp only [opn]
            go_wp2_with fail
            refine (BL.out _).mono ?_
            rintro e w1 ⟨rfl, rfl⟩
            go_wp2_with fail
            go_roundw
            case rel => exact ⟨i + 1, a, p, k, c, by go_num, by omega, rfl, rfl, Lib.hid ⟨⟨(bst s i).2, HO.out, Or.inl ⟨by omega, by rw [HSN.out], by rw [HSN.out]; rfl⟩⟩, by omega, HB.out⟩⟩
            case measure => simp [intOf]; omega
        · rw [hbl] at BL
          rw [← HBY.out] at hbl
          cases st with
          | none =>
            have HSN := Lib.hid (bst_none HST.out.symm hbl)
            clear hbd hbl
            simp only [opn]
            go_wp2_with fail
            refine (BL.out _).mono ?_
            rintro e w1 ⟨rfl, rfl⟩
            go_wp2_with fail
            go_roundw
            case rel => exact ⟨i + 1, -1, p, k, c, by go_num, by omega, rfl, rfl, Lib.hid ⟨⟨(bst s i).2, HO.out, Or.inl ⟨by omega, by rw [HSN.out], by rw [HSN.out]; rfl⟩⟩, by omega, HB.out⟩⟩
            case measure => simp [intOf]; omega
          | some a =>
            have HSN := Lib.hid (bst_some HST.out.symm hbl)
            have ha := hbd a rfl
            clear hbd hbl
            simp only [opn]
            go_wp2_with fail
            refine (BL.out _).mono ?_
            rintro e w1 ⟨rfl, rfl⟩
            go_wp2_with (at_builtin; refine wp_append_str rfl _ _ rfl w.heap.size wr (.slice p k c) k (cutsB s (bst s i).2) (s.extract a i) rfl HO.out rfl (by omega) HB.out.size ?_; intro vp vc w4 hown4 hg4)
            have HB4 := Lib.hid (own_grown HO.out hg4.out HB.out (Nat.le_refl _))
            have HO4 := Lib.hid (show w4.ownsRow w.heap.size 9 1 (.slice vp (k + 1) vc) (k + 1) (strs (cutsB s ((bst s i).2 ++ [(a, i)]))) from by rw [cuts_snoc]; exact hown4.out)
            clear hg4 hown4
            go_roundw
            case rel => exact ⟨i + 1, -1, vp, k + 1, vc, by go_num, by omega, rfl, rfl, Lib.hid ⟨⟨_, HO4.out, Or.inl ⟨by omega, by rw [HSN.out], by rw [HSN.out]; rfl⟩⟩, by omega, HB4.out⟩⟩
            case measure => simp [intOf]; omega
      · obtain rfl : i = s.size := by omega
        clear hlt
        cases st with
        | none =>
          have HL := Lib.hid (show (bst s s.size).2 = closeSpans s ((bst s s.size).2, (bst s s.size).1) from by rw [← HST.out]; rfl)
          clear hbd
          simp only [opn]
          go_wp2_with fail
          go_roundw
          case rel => exact ⟨s.size + 1, -1, p, k, c, by go_num, by omega, rfl, rfl, Lib.hid ⟨⟨_, HO.out, Or.inr ⟨by omega, HL.out⟩⟩, by omega, HB.out⟩⟩
          case measure => simp [intOf]
        | some a =>
          have HL := Lib.hid (show (bst s s.size).2 ++ [(a, s.size)] = closeSpans s ((bst s s.size).2, (bst s s.size).1) from by rw [← HST.out]; rfl)
          have ha := hbd a rfl
          clear hbd
          simp only [opn]
          go_wp2_with (at_builtin; refine wp_append_str rfl _ _ rfl w.heap.size wr (.slice p k c) k (cutsB s (bst s s.size).2) (s.extract a s.size) rfl HO.out rfl (by omega) HB.out.size ?_; intro vp vc w4 hown4 hg4)
          have HB4 := Lib.hid (own_grown HO.out hg4.out HB.out (Nat.le_refl _))
          have HO4 := Lib.hid (show w4.ownsRow w.heap.size 9 1 (.slice vp (k + 1) vc) (k + 1) (strs (cutsB s ((bst s s.size).2 ++ [(a, s.size)]))) from by rw [cuts_snoc]; exact hown4.out)
          clear hg4 hown4
          go_roundw
          case rel => exact ⟨s.size + 1, -1, vp, k + 1, vc, by go_num, by omega, rfl, rfl, Lib.hid ⟨⟨_, HO4.out, Or.inr ⟨by omega, HL.out⟩⟩, by omega, HB4.out⟩⟩
          case measure => simp [intOf]
    · obtain rfl : i = s.size + 1 := by omega
      obtain ⟨⟨l, hown, hl⟩, _, hb⟩ := hinv.out
      have hl2 : l = closeSpans s ((bst s s.size).2, (bst s s.size).1) := by
        rcases hl with ⟨h, _⟩ | ⟨_, h⟩
        · omega
        · exact h
      have hk : k = (cutsB s l).length := by have := hown.1; simp [strs] at this; exact this.symm
      have HR := Lib.hid (own_slice hown hk)
      have HB := Lib.hid hb
      have HL := Lib.hid hl2
      clear hown hl hb hl2 hk
      go_wp2_with fail
      go_ret
      exact ⟨_, _, _, rfl, by rw [HF.out, ← HL.out]; exact HR.out, HB.out⟩

end Go.Proofs.YtcpcmonlpdeboaaDoor
