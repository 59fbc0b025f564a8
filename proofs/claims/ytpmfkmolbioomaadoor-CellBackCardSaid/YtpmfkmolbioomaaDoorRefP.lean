/- Contract of the document's Parse: what it reads, byte by byte. -/
import Derived.Test.YtpmfkmolbioomaaDoorRefJ
namespace Go.Proofs.YtpmfkmolbioomaaDoor
open Go.RowKit

def dn (c : UInt8) : Nat := c.toNat - 48
/-- The digits of a text, the lowest first. -/
def low (l : List UInt8) : List Nat := (l.map dn).reverse

theorem low_snoc (l : List UInt8) (c : UInt8) : low (l ++ [c]) = dn c :: low l := by simp [low]
theorem low_len (l : List UInt8) : (low l).length = l.length := by simp [low]
theorem val_low (l : List UInt8) : val (low l) = dval l := by
  have h : ∀ n (l : List UInt8), l.length = n → val (low l) = dval l := by
    intro n
    induction n with
    | zero => intro l hl; rw [List.length_eq_zero_iff.1 hl]; rfl
    | succ n ih =>
      intro l hl
      have hne : l ≠ [] := by intro e; rw [e] at hl; simp at hl
      have e := List.dropLast_concat_getLast hne
      rw [← e, low_snoc, dval_snoc, val, ih _ (by simp [hl])]
      unfold dn
      omega
  exact h _ l rfl
theorem low_dl (l : List UInt8) (h : ∀ c ∈ l, isDig c = true) : Dl (low l) := by
  intro d hd
  unfold low at hd
  rw [List.mem_reverse, List.mem_map] at hd
  obtain ⟨c, hc, rfl⟩ := hd
  have := isDig_yes (h c hc)
  unfold dn
  omega

set_option maxHeartbeats 400000 in
theorem num_any (c : UInt8) (w : World) :
    Calls Tryd.prog 37 #[.int .u8 (c.toNat : Int)] w fun e w' => e = .returned (.bool (isDig c)) ∧ w = w' := by
  have hc : c.toNat < 256 := c.toNat_lt
  have h : isDig c = (decide (48 ≤ c.toNat) && decide (c.toNat ≤ 57)) := rfl
  rw [h]; clear h
  generalize c.toNat = n at *
  rcases (show n < 48 ∨ (48 ≤ n ∧ n ≤ 57) ∨ (48 ≤ n ∧ 57 < n) from by omega) with h | ⟨h, h'⟩ | ⟨h, h'⟩
  · rw [show (decide (48 ≤ n) && decide (n ≤ 57)) = false from by simp; omega]
    have g : decide ((48 : Int) ≤ (n : Int)) = false := by simp; omega
    go_enter Tryd.func37, Tryd.ntmps37
    go_wp2
    go_ret
    exact ⟨rfl, rfl⟩
  · rw [show (decide (48 ≤ n) && decide (n ≤ 57)) = true from by simp; omega]
    have g : decide ((48 : Int) ≤ (n : Int)) = true := by simp; omega
    have g' : decide ((n : Int) ≤ 57) = true := by simp; omega
    go_enter Tryd.func37, Tryd.ntmps37
    go_wp2
    go_ret
    exact ⟨rfl, rfl⟩
  · rw [show (decide (48 ≤ n) && decide (n ≤ 57)) = false from by simp; omega]
    have g : decide ((48 : Int) ≤ (n : Int)) = true := by simp; omega
    have g' : decide ((n : Int) ≤ 57) = false := by simp; omega
    go_enter Tryd.func37, Tryd.ntmps37
    go_wp2
    go_ret
    exact ⟨rfl, rfl⟩

theorem blank_cases (c : UInt8) : (isBl c = true ∧ (((c.toNat : Int) == 32) = true ∨ (((c.toNat : Int) == 32) = false ∧ ((c.toNat : Int) == 9) = true) ∨ (((c.toNat : Int) == 32) = false ∧ ((c.toNat : Int) == 9) = false ∧ ((c.toNat : Int) == 10) = true))) ∨
    (isBl c = false ∧ ((c.toNat : Int) == 32) = false ∧ ((c.toNat : Int) == 9) = false ∧ ((c.toNat : Int) == 10) = false) := by
  unfold isBl
  by_cases h1 : c.toNat = 32
  · rw [h1]; decide
  by_cases h2 : c.toNat = 9
  · rw [h2]; decide
  by_cases h3 : c.toNat = 10
  · rw [h3]; decide
  refine Or.inr ⟨by simp [h1, h2, h3], ?_, ?_, ?_⟩ <;> (rw [beq_eq_false_iff_ne]; omega)
theorem sign_cases (s : ByteArray) (D : Nat) : (∃ h : D < s.size, ((s[D].toNat : Int) == 45) = true ∧ signOf (s.data.toList.drop D) = (true, 1)) ∨
    (∃ h : D < s.size, ((s[D].toNat : Int) == 45) = false ∧ ((s[D].toNat : Int) == 43) = true ∧ signOf (s.data.toList.drop D) = (false, 1)) ∨
    (∃ h : D < s.size, ((s[D].toNat : Int) == 45) = false ∧ ((s[D].toNat : Int) == 43) = false ∧ signOf (s.data.toList.drop D) = (false, 0)) ∨ (¬ D < s.size ∧ signOf (s.data.toList.drop D) = (false, 0)) := by
  rw [signOf_drop]
  by_cases h : D < s.size
  · rw [at_some s D h]
    by_cases h45 : s[D].toNat = 45
    · exact Or.inl ⟨h, by rw [h45]; rfl, by rw [if_pos (toNat_eq rfl h45)]⟩
    by_cases h43 : s[D].toNat = 43
    · exact Or.inr (Or.inl ⟨h, by rw [beq_eq_false_iff_ne]; omega, by rw [h43]; rfl, by rw [if_neg (toNat_ne rfl h45), if_pos (toNat_eq rfl h43)]⟩)
    · exact Or.inr (Or.inr (Or.inl ⟨h, by rw [beq_eq_false_iff_ne]; omega, by rw [beq_eq_false_iff_ne]; omega, by rw [if_neg (toNat_ne rfl h45), if_neg (toNat_ne rfl h43)]⟩))
  · rw [at_none s D h]
    exact Or.inr (Or.inr (Or.inr ⟨h, rfl⟩))

/-- The bytes of a run of digits that begins at B. -/
theorem run_at (s : ByteArray) (B : Nat) (W : List UInt8) (hW : W = (s.data.toList.drop B).takeWhile isDig) : ∀ j, ∀ hj : j < W.length, ∃ h : B + j < s.size, isDig s[B + j] = true ∧ W[j] = s[B + j] := by
  intro j hj
  have h1 := tw_le (p := isDig) (s.data.toList.drop B)
  rw [← hW] at h1
  have hlen : (s.data.toList.drop B).length = s.size - B := by simp
  have hlt : B + j < s.size := by omega
  have e1 : W[j] = (s.data.toList.drop B)[j]'(by omega) := by
    subst hW
    have := tw_take (p := isDig) (s.data.toList.drop B)
    have h2 : ((s.data.toList.drop B).takeWhile isDig)[j]? = ((s.data.toList.drop B).take ((s.data.toList.drop B).takeWhile isDig).length)[j]? := by rw [this]
    rw [List.getElem?_take_of_lt hj, List.getElem?_eq_getElem hj, List.getElem?_eq_getElem (by omega)] at h2
    exact Option.some.inj h2
  have e2 : (s.data.toList.drop B)[j]'(by omega) = s[B + j] := by
    rw [List.getElem_drop]; rfl
  refine ⟨hlt, ?_, e1.trans e2⟩
  have h3 := tw_lt (p := isDig) (l := s.data.toList.drop B) (k := j) (by rw [← hW]; exact hj) (by omega)
  rw [e2] at h3
  exact h3

theorem run_end (s : ByteArray) (B : Nat) (W : List UInt8) (hW : W = (s.data.toList.drop B).takeWhile isDig) : ∀ h : B + W.length < s.size, isDig s[B + W.length] = false := by
  intro h
  subst hW
  have hlen : (s.data.toList.drop B).length = s.size - B := by simp
  have h3 := tw_end (p := isDig) (l := s.data.toList.drop B) (by omega)
  rw [List.getElem_drop] at h3
  exact h3

theorem dot_cases (s : ByteArray) (C : Nat) : (∃ h : C < s.size, ((s[C].toNat : Int) == 46) = true ∧ dotOf s.data.toList C = ((s.data.toList.drop (C + 1)).takeWhile isDig, 1)) ∨
    (∃ h : C < s.size, ((s[C].toNat : Int) == 46) = false ∧ dotOf s.data.toList C = ([], 0)) ∨ (¬ C < s.size ∧ dotOf s.data.toList C = ([], 0)) := by
  by_cases h : C < s.size
  · by_cases h46 : s[C].toNat = 46
    · exact Or.inl ⟨h, by rw [h46]; rfl, by unfold dotOf; rw [at_some s C h, if_pos (toNat_eq rfl h46)]⟩
    · exact Or.inr (Or.inl ⟨h, by rw [beq_eq_false_iff_ne]; omega, by unfold dotOf; rw [at_some s C h, if_neg (toNat_ne rfl h46)]⟩)
  · exact Or.inr (Or.inr ⟨h, by unfold dotOf; rw [at_none s C h]; rfl⟩)

theorem parse_parts {l : List UInt8} {D B C : Nat} {sg : Bool × Nat} {W : List UInt8} {dt : List UInt8 × Nat}
    (hD : D = parseAt l) (hsg : sg = signOf (l.drop D)) (hB : B = D + sg.2) (hW : W = (l.drop B).takeWhile isDig) (hC : C = B + W.length) (hdt : dt = dotOf l C) :
    (W.length + dt.1.length = 0 → parseAns l = num3 (0, 0) 0) ∧ (¬ W.length + dt.1.length = 0 → parseAns l = num3 (back (sgn sg.1 (mval W dt.1))) (C + (dt.2 + dt.1.length))) := by
  subst hD hsg
  have eB : parseB l = B := by rw [hB]; rfl
  have eW : parseWhole l = W := by unfold parseWhole; rw [eB, hW]
  have eC : parseC l = C := by unfold parseC; rw [eB, eW, hC]
  have eP : parsePart l = dt := by unfold parsePart; rw [eC, hdt]
  have eN : parseNone l = (W.length + dt.1.length == 0) := by unfold parseNone; rw [eW, eP]
  constructor
  · intro h
    unfold parseAns
    rw [eN, h]
    rfl
  · intro h
    unfold parseAns
    rw [eN, if_neg (by simpa using h)]
    unfold parseVal parseEnd
    rw [eC, eP, eW]

end Go.Proofs.YtpmfkmolbioomaaDoor
