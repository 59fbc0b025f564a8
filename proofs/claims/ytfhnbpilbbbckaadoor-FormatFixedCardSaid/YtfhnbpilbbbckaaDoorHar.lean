/- Merged by program: T3RefN, T3RefShow, T3RefP, T3RefG, T3RefQ. -/
import Derived.Test.YtfhnbpilbbbckaaDoorHaq
import Derived.Test.YtfhnbpilbbbckaaDoorHam
/- The document's text of a number is dec's: plain mathematics. -/
namespace Go.Proofs.YtfhnbpilbbbckaaDoor.T3
open Go.Proofs.YtfhnbpilbbbckaaDoor Go.Proofs
open Go.RowKit

theorem dg_getD : ∀ (j n k : Nat), n < 10 ^ j → (dg j n).getD k 0 = n / 10 ^ k % 10
  | 0, n, k, h => by
    simp at h; subst h; simp [dg]
  | j + 1, n, k, h => by
    unfold dg
    split
    · rename_i h0; subst h0; simp
    · cases k with
      | zero => simp
      | succ k =>
        rw [Nat.pow_succ] at h
        have := dg_getD j (n / 10) k (by omega)
        rw [List.getD_cons_succ, this, Nat.div_div_eq_div_mul, ← Nat.pow_succ']

theorem dg_drop : ∀ (k j n : Nat), (dg (j + k) n).drop k = dg j (n / 10 ^ k)
  | 0, j, n => by simp
  | k + 1, j, n => by
    rw [show j + (k + 1) = j + k + 1 from rfl]
    rw [show dg (j + k + 1) n = if n = 0 then [] else n % 10 :: dg (j + k) (n / 10) from rfl]
    split
    · rename_i h0; subst h0; rw [Nat.zero_div, dg_zero]; simp
    · rw [List.drop_succ_cons, dg_drop k j (n / 10), Nat.div_div_eq_div_mul, ← Nat.pow_succ']

theorem dg_more : ∀ (k n : Nat), n < 10 ^ k → dg (k + 1) n = dg k n
  | 0, n, h => by simp at h; subst h; simp [dg]
  | k + 1, n, h => by
    rw [Nat.pow_succ] at h
    rw [dg, show dg (k + 1) n = if n = 0 then [] else n % 10 :: dg k (n / 10) from rfl, dg_more k (n / 10) (by omega)]

theorem decZ_dg : ∀ (k n : Nat), decZ k n = ((dg k n).map ddig).reverse
  | 0, n => by simp [decZ, dg]
  | k + 1, n => by
    unfold decZ dg
    split
    · simp
    · rw [decZ_dg k (n / 10)]; simp [ddig_mod]

theorem padded_getD (N k : Nat) (h : N < 10 ^ 20) : (padded N).getD k 0 = N / 10 ^ k % 10 := by
  have h1 := dg_getD 20 N k h
  unfold padded
  rw [← h1]
  simp only [List.getD_eq_getElem?_getD]
  rcases Nat.lt_or_ge k (dg 20 N).length with h2 | h2
  · rw [List.getElem?_append_left h2]
  · rw [List.getElem?_append_right h2, List.getElem?_eq_none h2, List.getElem?_replicate]
    split <;> rfl

theorem padded_len (N : Nat) : 7 ≤ (padded N).length := by
  unfold padded; simp; omega

theorem padded_drop (N : Nat) : (padded N).drop 7 = dg 13 (N / 10 ^ 7) := by
  have h := dg_drop 7 13 N
  rw [← h]
  unfold padded
  rw [List.drop_append]
  rcases Nat.lt_or_ge (dg 20 N).length 7 with h2 | h2
  · rw [List.drop_of_length_le (by omega)]; simp
  · rw [show 7 - (dg 20 N).length = 0 from by omega]; simp

theorem grow_frac (N : Nat) (h : N < 10 ^ 20) : ∀ k, k ≤ 6 → growS 0 ((padded N).take k) [] = stripZ k (N % 10 ^ k)
  | 0, _ => by simp [growS, stripZ, Nat.mod_one]
  | k + 1, hk => by
    have hl := padded_len N
    rw [grow_next _ _ (by omega), grow_frac N h k (by omega), padded_getD N k h]
    have hp : N % 10 ^ (k + 1) < 10 ^ (k + 1) := Nat.mod_lt _ (Nat.pow_pos (by decide))
    rw [stripZ_top k _ hp]
    have e1 : N % 10 ^ (k + 1) % 10 ^ k = N % 10 ^ k := by
      rw [Nat.pow_succ, Nat.mod_mul_right_mod]
    have e2 : N % 10 ^ (k + 1) / 10 ^ k = N / 10 ^ k % 10 := by
      rw [Nat.pow_succ, Nat.mod_mul_right_div_self]
    rw [e1, e2]
    generalize N / 10 ^ k % 10 = d
    generalize stripZ k (N % 10 ^ k) = s
    unfold stepS
    simp only [show ¬ k = 6 from by omega, show ¬ 6 ≤ k from by omega, false_and, if_false, false_or]
    split
    · rfl
    · rename_i hn
      simp at hn
      exact hn.1

theorem grow_high : ∀ (l : List Nat) (i : Nat) (s : List UInt8), 6 < i → growS i l s = (l.map ddig).reverse ++ s
  | [], i, s, _ => by simp [growS]
  | d :: l, i, s, h => by
    rw [growS, grow_high l (i + 1) _ (by omega)]
    unfold stepS
    simp [show ¬ i = 6 from by omega, show 6 ≤ i from by omega]

theorem grow_plain (N : Nat) (h : N ≤ 9223372036854775808) : growS 0 (padded N) [] = showPlain N := by
  have h20 : N < 10 ^ 20 := by omega
  have hl := padded_len N
  have hg7 : growS 0 ((padded N).take 7) [] = ddig (N / 1000000) :: showFrac (N % 1000000) := by
    rw [grow_next _ 6 (by omega), grow_frac N h20 6 (by omega), padded_getD N 6 h20]
    rw [show (10 : Nat) ^ 6 = 1000000 from rfl]
    have hp : N % 1000000 < 10 ^ 6 := by have := Nat.mod_lt N (show 0 < 1000000 by decide); simpa using this
    have e : ddig (N / 1000000 % 10) = ddig (N / 1000000) := ddig_mod _
    unfold stepS showFrac
    by_cases h0 : N % 1000000 = 0
    · simp [h0, stripZ, e]
    · have hne := stripZ_ne h0 hp
      rw [if_neg h0]
      have e2 : stripZ 6 (N % 1000000) = strip 6 (N % 1000000) := by unfold stripZ; rw [if_neg h0]
      rw [e2] at hne ⊢
      simp [hne, e]
  have hs := growS_append ((padded N).take 7) ((padded N).drop 7) 0 []
  rw [List.take_append_drop] at hs
  rw [hs, hg7, List.length_take, Nat.min_eq_left hl, grow_high _ _ _ (by omega), padded_drop]
  unfold showPlain
  have h12 : N / 10 ^ 7 < 10 ^ 12 := by
    rw [Nat.div_lt_iff_lt_mul (by decide)]
    omega
  rw [dg_more 12 _ h12, decZ_dg, Nat.div_div_eq_div_mul]
  simp
end Go.Proofs.YtfhnbpilbbbckaaDoor.T3

/- The document's text of a number is dec's; its length. -/
namespace Go.Proofs.YtfhnbpilbbbckaaDoor.T3
open Go.Proofs.YtfhnbpilbbbckaaDoor Go.Proofs
open Go.RowKit
theorem decZ_len : ∀ k n, (decZ k n).length ≤ k
  | 0, _ => by simp [decZ]
  | k + 1, n => by
    unfold decZ
    split
    · simp
    · have := decZ_len k (n / 10); simp; omega
theorem showText_len (a : Int) : (showText a).length ≤ 21 := by
  have h : ∀ n, (showPlain n).length ≤ 20 := by
    intro n
    have h1 := decZ_len 12 (n / 1000000 / 10)
    have h2 := frac_len (n % 1000000)
    unfold showPlain
    simp only [List.length_append, List.length_singleton]
    omega
  have := h a.natAbs
  unfold showText
  split <;> simp <;> omega

theorem clean_nil : Clean [] := ⟨fun c h => by simp at h⟩

theorem bytes_eq {t u : ByteArray} (h : t.data.toList = u.data.toList) : t = u := by
  apply ByteArray.ext
  exact Array.toList_inj.1 h

end Go.Proofs.YtfhnbpilbbbckaaDoor.T3

/- Contract of the document's Parse: what it reads, byte by byte. -/
namespace Go.Proofs.YtfhnbpilbbbckaaDoor.T3
open Go.Proofs.YtfhnbpilbbbckaaDoor Go.Proofs
open Go.RowKit

def dn (c : UInt8) : Nat := c.toNat - 48
/-- The digits of a text, the lowest first. -/
def low (l : List UInt8) : List Nat := (l.map dn).reverse

theorem low_snoc (l : List UInt8) (c : UInt8) : low (l ++ [c]) = dn c :: low l := by simp [low]
theorem low_len (l : List UInt8) : (low l).length = l.length := by simp [low]
theorem val_low (l : List UInt8) : val (low l) = dval l := by
  have h : ∀ n (l : List UInt8), l.length = n → val (low l) = dval l := by
    intro n
    induction n with
    | zero => intro l hl; rw [List.length_eq_zero_iff.1 hl]; rfl
    | succ n ih =>
      intro l hl
      have hne : l ≠ [] := by intro e; rw [e] at hl; simp at hl
      have e := List.dropLast_concat_getLast hne
      rw [← e, low_snoc, dval_snoc, val, ih _ (by simp [hl])]
      unfold dn
      omega
  exact h _ l rfl
theorem low_dl (l : List UInt8) (h : ∀ c ∈ l, isDig c = true) : Dl (low l) := by
  intro d hd
  unfold low at hd
  rw [List.mem_reverse, List.mem_map] at hd
  obtain ⟨c, hc, rfl⟩ := hd
  have := isDig_yes (h c hc)
  unfold dn
  omega

theorem blank_cases (c : UInt8) : (isBl c = true ∧ (((c.toNat : Int) == 32) = true ∨ (((c.toNat : Int) == 32) = false ∧ ((c.toNat : Int) == 9) = true) ∨ (((c.toNat : Int) == 32) = false ∧ ((c.toNat : Int) == 9) = false ∧ ((c.toNat : Int) == 10) = true))) ∨
    (isBl c = false ∧ ((c.toNat : Int) == 32) = false ∧ ((c.toNat : Int) == 9) = false ∧ ((c.toNat : Int) == 10) = false) := by
  unfold isBl
  by_cases h1 : c.toNat = 32
  · rw [h1]; decide
  by_cases h2 : c.toNat = 9
  · rw [h2]; decide
  by_cases h3 : c.toNat = 10
  · rw [h3]; decide
  refine Or.inr ⟨by simp [h1, h2, h3], ?_, ?_, ?_⟩ <;> (rw [beq_eq_false_iff_ne]; omega)
theorem sign_cases (s : ByteArray) (D : Nat) : (∃ h : D < s.size, ((s[D].toNat : Int) == 45) = true ∧ signOf (s.data.toList.drop D) = (true, 1)) ∨
    (∃ h : D < s.size, ((s[D].toNat : Int) == 45) = false ∧ ((s[D].toNat : Int) == 43) = true ∧ signOf (s.data.toList.drop D) = (false, 1)) ∨
    (∃ h : D < s.size, ((s[D].toNat : Int) == 45) = false ∧ ((s[D].toNat : Int) == 43) = false ∧ signOf (s.data.toList.drop D) = (false, 0)) ∨ (¬ D < s.size ∧ signOf (s.data.toList.drop D) = (false, 0)) := by
  rw [signOf_drop]
  by_cases h : D < s.size
  · rw [at_some s D h]
    by_cases h45 : s[D].toNat = 45
    · exact Or.inl ⟨h, by rw [h45]; rfl, by rw [if_pos (toNat_eq rfl h45)]⟩
    by_cases h43 : s[D].toNat = 43
    · exact Or.inr (Or.inl ⟨h, by rw [beq_eq_false_iff_ne]; omega, by rw [h43]; rfl, by rw [if_neg (toNat_ne rfl h45), if_pos (toNat_eq rfl h43)]⟩)
    · exact Or.inr (Or.inr (Or.inl ⟨h, by rw [beq_eq_false_iff_ne]; omega, by rw [beq_eq_false_iff_ne]; omega, by rw [if_neg (toNat_ne rfl h45), if_neg (toNat_ne rfl h43)]⟩))
  · rw [at_none s D h]
    exact Or.inr (Or.inr (Or.inr ⟨h, rfl⟩))

/-- The bytes of a run of digits that begins at B. -/
theorem run_at (s : ByteArray) (B : Nat) (W : List UInt8) (hW : W = (s.data.toList.drop B).takeWhile isDig) : ∀ j, ∀ hj : j < W.length, ∃ h : B + j < s.size, isDig s[B + j] = true ∧ W[j] = s[B + j] := by
  intro j hj
  have h1 := tw_le (p := isDig) (s.data.toList.drop B)
  rw [← hW] at h1
  have hlen : (s.data.toList.drop B).length = s.size - B := by simp
  have hlt : B + j < s.size := by omega
  have e1 : W[j] = (s.data.toList.drop B)[j]'(by omega) := by
    subst hW
    have := tw_take (p := isDig) (s.data.toList.drop B)
    have h2 : ((s.data.toList.drop B).takeWhile isDig)[j]? = ((s.data.toList.drop B).take ((s.data.toList.drop B).takeWhile isDig).length)[j]? := by rw [this]
    rw [List.getElem?_take_of_lt hj, List.getElem?_eq_getElem hj, List.getElem?_eq_getElem (by omega)] at h2
    exact Option.some.inj h2
  have e2 : (s.data.toList.drop B)[j]'(by omega) = s[B + j] := by
    rw [List.getElem_drop]; rfl
  refine ⟨hlt, ?_, e1.trans e2⟩
  have h3 := tw_lt (p := isDig) (l := s.data.toList.drop B) (k := j) (by rw [← hW]; exact hj) (by omega)
  rw [e2] at h3
  exact h3

theorem run_end (s : ByteArray) (B : Nat) (W : List UInt8) (hW : W = (s.data.toList.drop B).takeWhile isDig) : ∀ h : B + W.length < s.size, isDig s[B + W.length] = false := by
  intro h
  subst hW
  have hlen : (s.data.toList.drop B).length = s.size - B := by simp
  have h3 := tw_end (p := isDig) (l := s.data.toList.drop B) (by omega)
  rw [List.getElem_drop] at h3
  exact h3

theorem dot_cases (s : ByteArray) (C : Nat) : (∃ h : C < s.size, ((s[C].toNat : Int) == 46) = true ∧ dotOf s.data.toList C = ((s.data.toList.drop (C + 1)).takeWhile isDig, 1)) ∨
    (∃ h : C < s.size, ((s[C].toNat : Int) == 46) = false ∧ dotOf s.data.toList C = ([], 0)) ∨ (¬ C < s.size ∧ dotOf s.data.toList C = ([], 0)) := by
  by_cases h : C < s.size
  · by_cases h46 : s[C].toNat = 46
    · exact Or.inl ⟨h, by rw [h46]; rfl, by unfold dotOf; rw [at_some s C h, if_pos (toNat_eq rfl h46)]⟩
    · exact Or.inr (Or.inl ⟨h, by rw [beq_eq_false_iff_ne]; omega, by unfold dotOf; rw [at_some s C h, if_neg (toNat_ne rfl h46)]⟩)
  · exact Or.inr (Or.inr ⟨h, by unfold dotOf; rw [at_none s C h]; rfl⟩)

theorem parse_parts {l : List UInt8} {D B C : Nat} {sg : Bool × Nat} {W : List UInt8} {dt : List UInt8 × Nat}
    (hD : D = parseAt l) (hsg : sg = signOf (l.drop D)) (hB : B = D + sg.2) (hW : W = (l.drop B).takeWhile isDig) (hC : C = B + W.length) (hdt : dt = dotOf l C) :
    (W.length + dt.1.length = 0 → parseAns l = num3 (0, 0) 0) ∧ (¬ W.length + dt.1.length = 0 → parseAns l = num3 (back (sgn sg.1 (mval W dt.1))) (C + (dt.2 + dt.1.length))) := by
  subst hD hsg
  have eB : parseB l = B := by rw [hB]; rfl
  have eW : parseWhole l = W := by unfold parseWhole; rw [eB, hW]
  have eC : parseC l = C := by unfold parseC; rw [eB, eW, hC]
  have eP : parsePart l = dt := by unfold parsePart; rw [eC, hdt]
  have eN : parseNone l = (W.length + dt.1.length == 0) := by unfold parseNone; rw [eW, eP]
  constructor
  · intro h
    unfold parseAns
    rw [eN, h]
    rfl
  · intro h
    unfold parseAns
    rw [eN, if_neg (by simpa using h)]
    unfold parseVal parseEnd
    rw [eC, eP, eW]

end Go.Proofs.YtfhnbpilbbbckaaDoor.T3

/- Contracts of the document's answers for numbers: back to an int64. -/
namespace Go.Proofs.YtfhnbpilbbbckaaDoor.T3
open Go.Proofs.YtfhnbpilbbbckaaDoor Go.Proofs
open Go.RowKit

theorem suf_le (l : List Nat) : ∀ k, suf l k ≤ val l := by
  intro k
  induction k with
  | zero => exact Nat.le_refl _
  | succ k ih => have := suf_step l k; omega

def BackPost (z : Int) (W : World) (e : Ending) (w' : World) : Prop := e = .returned (ans (back z)) ∧ Below W.heap.size W w'

theorem fits_minus {l : List Nat} : Fits (sv true l) ↔ val l ≤ 9223372036854775808 := by
  unfold Fits sv; simp; omega
theorem fits_plus {l : List Nat} : Fits (sv false l) ↔ val l ≤ 9223372036854775807 := by
  unfold Fits sv; simp; omega

end Go.Proofs.YtfhnbpilbbbckaaDoor.T3

/- Contract of the document's Parse: the walk. -/
namespace Go.Proofs.YtfhnbpilbbbckaaDoor.T3
open Go.Proofs.YtfhnbpilbbbckaaDoor Go.Proofs
open Go.RowKit

structure PMem (w0 wr : World) (B1 : Nat) (m : Bool) (r : Option Addr) (sz t : Nat) (lw : List UInt8) : Prop where
  two : Two wr B1 (.bool m) (.slice none 0 0)
  below : Below w0.heap.size w0 wr
  rd : Rd wr r sz t (low lw)
  lt : B1 < wr.heap.size
  fresh : ∀ x, r = some x → B1 + 1 ≤ x.block

theorem pmem_start {w0 w : World} {B1 : Nat} {m : Bool} (h : Two w B1 (.bool m) (.slice none 0 0)) (hb : Below w0.heap.size w0 w) :
    PMem w0 (w.alloc (.cells #[] 3)) B1 m (some ⟨w.heap.size, 0, none⟩) 0 0 [] := by
  have hlt := World.block_lt_of_cell? w _ h.c0
  have b1 := (Below.refl w.heap.size w).alloc (Nat.le_refl _) (.cells #[] 3)
  exact ⟨h.below b1 hlt, Below.step hb b1, ⟨rfl, by omega, by omega, Dl.nil, fun h => by simp at h, Or.inl rfl⟩, by simp at hlt ⊢; omega, fun x hx => by injection hx with hx; subst hx; exact hlt⟩

theorem pmem_next {w0 wr w' : World} {B1 : Nat} {m : Bool} {r : Option Addr} {sz t : Nat} {lw : List UInt8} {p : Option Addr} {c : Nat} {u : UInt8} (h : PMem w0 wr B1 m r sz t lw)
    (hown : w'.ownsRow wr.heap.size 3 1 (.slice p (sz + 1) c) (sz + 1) (ints (dn u :: low lw))) (hb : Below wr.heap.size wr w') (hd : isDig u = true) (hs : sz ≤ 900) : PMem w0 w' B1 m p (sz + 1) c (lw ++ [u]) := by
  have hu := isDig_yes hd
  have hlt := h.lt
  obtain ⟨p', c', e, hr, hf⟩ := own_rd hown (by rw [List.length_cons, ← h.rd.len]) (Dl.append (Dl.one (by unfold dn; omega)) h.rd.digs) (by omega)
  injection e with e1 _ e2
  subst e1; subst e2
  refine ⟨h.two.below hb h.lt, Below.step h.below hb, ?_, Nat.lt_of_lt_of_le h.lt hb.size, fun x hx => by have := hf x hx; omega⟩
  rw [low_snoc]
  exact hr

theorem take_over {F : List UInt8} {q : Nat} (h : 6 ≤ q) : (F.take 6).take q = (F.take 6).take (q + 1) := by
  have hl : (F.take 6).length ≤ 6 := by rw [List.length_take]; omega
  exact (List.take_of_length_le (by omega)).trans (List.take_of_length_le (by omega)).symm

theorem pad_end {F : List UInt8} {p : Nat} (h1 : F.length ≤ p) (h2 : p ≤ 6 ∨ p = F.length) (h3 : 6 ≤ p) : F.take 6 ++ List.replicate (p - F.length) 48 = pad6 F := by
  unfold pad6
  rw [show p - F.length = 6 - F.length from by omega]

theorem take_six {F : List UInt8} {q : Nat} (h : q < F.length) (h6 : q < 6) : (F.take 6).take q ++ [F[q]] = (F.take 6).take (q + 1) := by
  have hl : q < (F.take 6).length := by simp; omega
  rw [List.take_succ_eq_append_getElem hl]
  congr 2
  rw [List.getElem_take]

structure PPad (w0 wr : World) (B1 : Nat) (m : Bool) (W F : List UInt8) (x7 x8 : Value) : Prop where
  ex : ∃ (r : Option Addr) (sz t : Nat) (lw : List UInt8) (pp : Int), x7 = .slice r sz t ∧ x8 = .int .i64 pp ∧ -1 ≤ pp ∧ pp ≤ 300 ∧ Hid (PMem w0 wr B1 m r sz t lw) ∧
    Hid ((pp = -1 ∧ F = [] ∧ lw = W) ∨ ∃ p : Nat, pp = p ∧ F.length ≤ p ∧ (p ≤ 6 ∨ p = F.length) ∧ lw = W ++ (F.take 6 ++ List.replicate (p - F.length) 48))

def PExit (w0 wx : World) (B1 : Nat) (m : Bool) (C : Nat) (W F : List UInt8) (dots : Nat) (x5 x7 x8 x9 : Value) : Prop :=
  ∃ (r : Option Addr) (sz t : Nat) (lw : List UInt8), x7 = .slice r sz t ∧ PMem w0 wx B1 m r sz t lw ∧
    ((x5 = .int .i64 C ∧ x8 = .int .i64 (-1) ∧ x9 = .int .i64 W.length ∧ lw = W ∧ F = [] ∧ dots = 0) ∨
     (x5 = .int .i64 ((C + 1 + F.length : Nat) : Int) ∧ x8 = .int .i64 F.length ∧ x9 = .int .i64 ((W.length + F.length : Nat) : Int) ∧ dots = 1 ∧ ¬ W.length + F.length = 0 ∧ lw = W ++ F.take 6))

def PPost (l : List UInt8) (W : World) (e : Ending) (w' : World) : Prop := e = .returned (parseAns l) ∧ Below W.heap.size W w'

end Go.Proofs.YtfhnbpilbbbckaaDoor.T3
