/- How a quoted text is read: plain Lean. -/
import Derived.Test.YtejofdhpegcmjaaLexQu
import Derived.Test.YtejofdhpegcmjaaLexLv
namespace Go.Proofs.Ytejofdhpegcmjaa
open Go.RowKit

theorem quote_cases (c : UInt8) : (quoteB c = [92, c] ∧ meantN c = [c] ∧ c.toNat ≠ 10) ∨ (quoteB c = [92, 110] ∧ c = 10) ∨ (quoteB c = [92, 116] ∧ c = 9) ∨ (quoteB c = [c] ∧ c.toNat ≠ 10 ∧ c.toNat ≠ 34 ∧ c.toNat ≠ 92) := by
  unfold quoteB
  by_cases h1 : c.toNat = 92 ∨ c.toNat = 34
  · rw [if_pos h1]
    refine Or.inl ⟨rfl, ?_, by omega⟩
    unfold meantN
    rw [if_neg (by omega), if_neg (by omega), if_pos (by omega)]
  · rw [if_neg h1]
    by_cases h2 : c.toNat = 10
    · rw [if_pos h2]
      exact Or.inr (Or.inl ⟨rfl, u8_eq 10 h2 rfl⟩)
    · rw [if_neg h2]
      by_cases h3 : c.toNat = 9
      · rw [if_pos h3]
        exact Or.inr (Or.inr (Or.inl ⟨rfl, u8_eq 9 h3 rfl⟩))
      · rw [if_neg h3]
        exact Or.inr (Or.inr (Or.inr ⟨rfl, h2, by omega, by omega⟩))
theorem text_quote : ∀ l : List UInt8, textN (l.flatMap quoteB ++ [34]) = some (l, (l.flatMap quoteB).length + 1)
  | [] => tx_end rfl
  | c :: t => by
    have ih := text_quote t
    have e : (c :: t).flatMap quoteB ++ [34] = quoteB c ++ (t.flatMap quoteB ++ [34]) := by simp
    have e2 : ((c :: t).flatMap quoteB).length = (quoteB c).length + (t.flatMap quoteB).length := by simp
    rw [e, e2]
    rcases quote_cases c with ⟨h1, h2, h3⟩ | ⟨h1, h2⟩ | ⟨h1, h2⟩ | ⟨h1, h2, h3, h4⟩
    · rw [h1]
      show textN (92 :: c :: (t.flatMap quoteB ++ [34])) = _
      rw [tx_esc rfl h3, ih, h2]
      simp
      omega
    · rw [h1, h2]
      show textN (92 :: 110 :: (t.flatMap quoteB ++ [34])) = _
      rw [tx_esc rfl (by decide), ih]
      simp [meantN]
      omega
    · rw [h1, h2]
      show textN (92 :: 116 :: (t.flatMap quoteB ++ [34])) = _
      rw [tx_esc rfl (by decide), ih]
      simp [meantN]
      omega
    · rw [h1]
      show textN (c :: (t.flatMap quoteB ++ [34])) = _
      rw [tx_on h2 h3 h4, ih]
      simp
      omega
theorem passA_34 (r : List UInt8) : passA (34 :: r) = 0 := by
  rw [passA_cons, if_neg (by decide), if_neg (by decide), if_neg (by simp), if_neg (by decide)]
theorem quoteL_eq (l : List UInt8) : quoteL l = 34 :: (l.flatMap quoteB ++ [34]) := by simp [quoteL, quoteTo]
theorem quoteL_len (l : List UInt8) : (quoteL l).length = (l.flatMap quoteB).length + 2 := by rw [quoteL_eq]; simp
theorem quoteL_le (l : List UInt8) : (quoteL l).length ≤ 2 * l.length + 2 := by
  have := quoteTo_len l
  unfold quoteL
  rw [List.length_append]
  simp
  omega
theorem words_quote (l : List UInt8) (hl : l.length ≤ 3000) : wordsTop (quoteL l) = .ok [(3, l, 0), (0, [], (quoteL l).length)] := by
  have hle := quoteL_le l
  unfold wordsTop
  rw [if_neg (by omega)]
  have h1 : readN ((quoteL l).drop (0 + passA ((quoteL l).drop 0))) false = .got 3 l ((quoteL l).length) := by
    rw [List.drop_zero, quoteL_eq, passA_34, List.drop_zero, rd_str (by decide) (by decide) rfl, text_quote]
    show Rd1.got 3 l _ = _
    congr 1
    simp
  have h1p : passA ((quoteL l).drop 0) = 0 := by rw [List.drop_zero, quoteL_eq, passA_34]
  have h2 : readN ((quoteL l).drop (0 + 0 + (quoteL l).length + passA ((quoteL l).drop (0 + 0 + (quoteL l).length)))) (opN 3 l) = .got 0 [] 0 := by
    rw [Nat.zero_add, List.drop_eq_nil_of_le (Nat.le_refl _), List.drop_eq_nil_of_le (Nat.le_add_right _ _)]
    rfl
  have e2 : passA ((quoteL l).drop (0 + 0 + (quoteL l).length)) = 0 := by
    rw [Nat.zero_add, List.drop_eq_nil_of_le (Nat.le_refl _)]; rfl
  rw [show (3000 : Nat) = 2999 + 1 from rfl, ws_on h1 (by decide), h1p, show (2999 : Nat) = 2998 + 1 from rfl, ws_end h2, e2]
  simp [preW]
end Go.Proofs.Ytejofdhpegcmjaa
