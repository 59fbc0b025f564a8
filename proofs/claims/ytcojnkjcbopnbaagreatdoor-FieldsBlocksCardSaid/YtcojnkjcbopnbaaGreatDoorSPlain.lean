/- What takes a part's place: plain. -/
import Derived.Test.YtcojnkjcbopnbaaGreatDoorBase
namespace Go.Proofs.YtcojnkjcbopnbaaGreatDoor

/-- The texts that 'by' puts ahead of, between and behind the parts; whether the first byte stands for itself; what was read of the text that is under way. -/
def sPiece : List UInt8 → Bool → List UInt8 → List (List UInt8)
  | [], _, cur => [cur]
  | c :: r, true, cur => sPiece r false (cur ++ [c])
  | c :: r, false, cur => if c = 38 then cur :: sPiece r false [] else if c = 92 ∧ (r.head? = some 38 ∨ r.head? = some 92) then sPiece r true cur else sPiece r false (cur ++ [c])
/-- By, with the part in its place. -/
def sPut (part : List UInt8) : List UInt8 → Bool → List UInt8
  | [], _ => []
  | c :: r, true => c :: sPut part r false
  | c :: r, false => if c = 38 then part ++ sPut part r false else if c = 92 ∧ (r.head? = some 38 ∨ r.head? = some 92) then sPut part r true else c :: sPut part r false
/-- Texts, joined. -/
def sJoin (sep : List UInt8) : List (List UInt8) → List UInt8
  | [] => []
  | x :: r => x ++ r.flatMap fun y => sep ++ y
theorem sJoin_snoc (sep : List UInt8) (l : List (List UInt8)) (x : List UInt8) : sJoin sep (l ++ [x]) = sJoin sep l ++ (if l = [] then x else sep ++ x) := by
  cases l with
  | nil => simp [sJoin]
  | cons y r => simp [sJoin, List.flatMap_append]
theorem sJoin_cons (sep x : List UInt8) (l : List (List UInt8)) (h : l ≠ []) : sJoin sep (x :: l) = x ++ (sep ++ sJoin sep l) := by
  cases l with
  | nil => exact absurd rfl h
  | cons y r => simp [sJoin]
theorem sPiece_ne (l : List UInt8) : ∀ b cur, sPiece l b cur ≠ [] := by
  induction l with
  | nil => intro b cur; simp [sPiece]
  | cons c r ih =>
    intro b cur
    cases b with
    | true => exact ih _ _
    | false =>
      unfold sPiece
      split
      · simp
      · split
        · exact ih _ _
        · exact ih _ _
theorem sJoin_piece (part : List UInt8) (l : List UInt8) : ∀ b cur, sJoin part (sPiece l b cur) = cur ++ sPut part l b := by
  induction l with
  | nil => intro b cur; simp [sPiece, sPut, sJoin]
  | cons c r ih =>
    intro b cur
    cases b with
    | true =>
      show sJoin part (sPiece r false (cur ++ [c])) = cur ++ (c :: sPut part r false)
      rw [ih]
      simp
    | false =>
      unfold sPiece sPut
      by_cases h1 : c = 38
      · rw [if_pos h1, if_pos h1, sJoin_cons _ _ _ (sPiece_ne _ _ _), ih]
        simp
      · rw [if_neg h1, if_neg h1]
        by_cases h2 : c = 92 ∧ (r.head? = some 38 ∨ r.head? = some 92)
        · rw [if_pos h2, if_pos h2, ih]
        · rw [if_neg h2, if_neg h2, ih]
          simp
/-- How long what is put can be. -/
theorem sPut_len (part : List UInt8) (l : List UInt8) : ∀ b, (sPut part l b).length ≤ l.length * (part.length + 1) := by
  have hm : ∀ k : Nat, (k + 1) * (part.length + 1) = k * (part.length + 1) + (part.length + 1) := fun k => Nat.succ_mul _ _
  induction l with
  | nil => intro b; simp [sPut]
  | cons c r ih =>
    intro b
    rw [List.length_cons, hm]
    cases b with
    | true => have := ih false; simp only [sPut, List.length_cons]; omega
    | false =>
      unfold sPut
      split
      · have := ih false; rw [List.length_append]; omega
      · split
        · have := ih true; omega
        · have := ih false; rw [List.length_cons]; omega
/-- What the pieces have, all in all, and how many they are. -/
theorem sPiece_len (l : List UInt8) : ∀ b cur, (sPiece l b cur).length ≤ l.length + 1 := by
  induction l with
  | nil => intro b cur; simp [sPiece]
  | cons c r ih =>
    intro b cur
    cases b with
    | true => have := ih false (cur ++ [c]); simp only [sPiece, List.length_cons]; omega
    | false =>
      unfold sPiece
      split
      · have := ih false []; simp only [List.length_cons]; omega
      · split
        · have := ih true cur; simp only [List.length_cons]; omega
        · have := ih false (cur ++ [c]); simp only [List.length_cons]; omega
theorem sPiece_all (l : List UInt8) : ∀ b cur, (sPiece l b cur).flatten.length ≤ cur.length + l.length := by
  induction l with
  | nil => intro b cur; simp [sPiece]
  | cons c r ih =>
    intro b cur
    cases b with
    | true => have := ih false (cur ++ [c]); rw [List.length_append, List.length_singleton] at this; simp only [sPiece, List.length_cons]; omega
    | false =>
      unfold sPiece
      split
      · have := ih false []; rw [List.flatten_cons, List.length_append]; simp only [List.length_cons, List.length_nil] at *; omega
      · split
        · have := ih true cur; simp only [List.length_cons]; omega
        · have := ih false (cur ++ [c]); rw [List.length_append, List.length_singleton] at this; simp only [List.length_cons]; omega
end Go.Proofs.YtcojnkjcbopnbaaGreatDoor
