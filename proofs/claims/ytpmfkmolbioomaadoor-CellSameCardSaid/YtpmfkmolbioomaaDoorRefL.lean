/- How the document's text of a number grows, digit by digit: plain mathematics. -/
import Derived.Test.YtpmfkmolbioomaaDoorRefD
namespace Go.Proofs.YtpmfkmolbioomaaDoor
open Go.RowKit

def stepS (i d : Nat) (s : List UInt8) : List UInt8 :=
  let s1 := if i = 6 ∧ s ≠ [] then 46 :: s else s
  if 6 ≤ i ∨ s1 ≠ [] ∨ 0 < d then ddig d :: s1 else s1
/-- The text behind the digits i to i + the list's length - 1. -/
def growS : Nat → List Nat → List UInt8 → List UInt8
  | _, [], s => s
  | i, d :: l, s => growS (i + 1) l (stepS i d s)

theorem growS_snoc : ∀ (l : List Nat) (i d : Nat) (s : List UInt8), growS i (l ++ [d]) s = stepS (i + l.length) d (growS i l s)
  | [], i, d, s => by simp [growS]
  | e :: l, i, d, s => by
    simp only [List.cons_append, growS, List.length_cons]
    rw [growS_snoc l (i + 1) d]
    congr 1
    omega

theorem growS_append : ∀ (a b : List Nat) (i : Nat) (s : List UInt8), growS i (a ++ b) s = growS (i + a.length) b (growS i a s)
  | [], b, i, s => by simp [growS]
  | d :: a, b, i, s => by
    simp only [List.cons_append, growS, List.length_cons]
    rw [growS_append a b]
    congr 1
    omega

theorem ddig_mod (n : Nat) : ddig (n % 10) = ddig n := by unfold ddig; rw [Nat.mod_mod]

theorem fixD_top : ∀ (k p : Nat), fixD (k + 1) p = ddig (p / 10 ^ k) :: fixD k (p % 10 ^ k)
  | 0, p => by simp [fixD]
  | k + 1, p => by
    rw [fixD, fixD_top k (p / 10), Nat.div_div_eq_div_mul, ← Nat.pow_succ']
    rw [show fixD (k + 1) (p % 10 ^ (k + 1)) = fixD k (p % 10 ^ (k + 1) / 10) ++ [ddig (p % 10 ^ (k + 1))] from rfl]
    have h1 : p / 10 % 10 ^ k = p % 10 ^ (k + 1) / 10 := by
      rw [Nat.pow_succ', Nat.mod_mul_right_div_self]
    have h2 : ddig (p % 10 ^ (k + 1)) = ddig p := by
      unfold ddig
      rw [Nat.pow_succ', Nat.mod_mul_right_mod]
    rw [h1, h2]
    rfl

def stripZ (k p : Nat) : List UInt8 := if p = 0 then [] else strip k p

theorem stripZ_ne {k p : Nat} (hp : p ≠ 0) (h : p < 10 ^ k) : stripZ k p ≠ [] := by
  induction k generalizing p with
  | zero => simp at h; omega
  | succ k ih =>
    unfold stripZ
    rw [if_neg hp]
    unfold strip
    split
    · rename_i h0
      have h2 : p / 10 ≠ 0 := by omega
      have := ih h2 (by rw [Nat.pow_succ] at h; omega)
      unfold stripZ at this
      rw [if_neg h2] at this
      exact this
    · simp [fixD]

/-- One more digit ahead of a fraction's. -/
theorem stripZ_top : ∀ (k p : Nat), p < 10 ^ (k + 1) → stripZ (k + 1) p = if stripZ k (p % 10 ^ k) ≠ [] ∨ 0 < p / 10 ^ k then ddig (p / 10 ^ k) :: stripZ k (p % 10 ^ k) else []
  | 0, p, h => by
    simp at h
    have hs : stripZ 0 (p % 10 ^ 0) = [] := by unfold stripZ; simp [strip]
    rw [hs]
    rcases Nat.eq_zero_or_pos p with h0 | h0
    · subst h0; simp [stripZ]
    · have : p % 10 ≠ 0 := by omega
      simp [stripZ, strip, fixD, this, show p ≠ 0 from by omega, h0]
  | k + 1, p, h => by
    rcases Nat.eq_zero_or_pos p with h0 | h0
    · subst h0; simp [stripZ]
    have hpow : (10 : Nat) ^ (k + 1) = 10 * 10 ^ k := Nat.pow_succ'
    have hpos : 0 < 10 ^ k := Nat.pow_pos (by decide)
    by_cases hm : p % 10 = 0
    · have e1 : stripZ (k + 1 + 1) p = stripZ (k + 1) (p / 10) := by
        unfold stripZ
        rw [if_neg (by omega), if_neg (by omega)]
        simp [strip, hm]
      have h1 : p % 10 ^ (k + 1) / 10 = p / 10 % 10 ^ k := by rw [hpow, Nat.mod_mul_right_div_self]
      have h2 : p % 10 ^ (k + 1) % 10 = 0 := by rw [hpow, Nat.mod_mul_right_mod]; exact hm
      have e2 : stripZ (k + 1) (p % 10 ^ (k + 1)) = stripZ k (p / 10 % 10 ^ k) := by
        unfold stripZ
        rw [← h1]
        rcases Nat.eq_zero_or_pos (p % 10 ^ (k + 1)) with h3 | h3
        · rw [h3]; simp
        · rw [if_neg (by omega), if_neg (by omega)]
          simp [strip, h2]
      have e3 : p / 10 ^ (k + 1) = p / 10 / 10 ^ k := by rw [hpow, Nat.div_div_eq_div_mul]
      rw [e1, e2, e3]
      exact stripZ_top k (p / 10) (by rw [Nat.pow_succ] at h; omega)
    · have e1 : stripZ (k + 1 + 1) p = fixD (k + 1 + 1) p := by
        unfold stripZ
        rw [if_neg (by omega)]
        simp [strip, hm]
      have h2 : p % 10 ^ (k + 1) % 10 ≠ 0 := by rw [hpow, Nat.mod_mul_right_mod]; exact hm
      have h3 : p % 10 ^ (k + 1) ≠ 0 := by intro e; rw [e] at h2; simp at h2
      have e2 : stripZ (k + 1) (p % 10 ^ (k + 1)) = fixD (k + 1) (p % 10 ^ (k + 1)) := by
        unfold stripZ
        rw [if_neg h3]
        simp [strip, h2]
      have e3 : stripZ (k + 1) (p % 10 ^ (k + 1)) ≠ [] := stripZ_ne h3 (Nat.mod_lt _ (Nat.pow_pos (by decide)))
      rw [if_pos (Or.inl e3), e1, e2, fixD_top]
end Go.Proofs.YtpmfkmolbioomaaDoor
