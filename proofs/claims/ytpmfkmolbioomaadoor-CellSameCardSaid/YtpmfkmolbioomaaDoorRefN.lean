/- The document's text of a number is dec's: plain mathematics. -/
import Derived.Test.YtpmfkmolbioomaaDoorRefM
namespace Go.Proofs.YtpmfkmolbioomaaDoor
open Go.RowKit

theorem dg_getD : ∀ (j n k : Nat), n < 10 ^ j → (dg j n).getD k 0 = n / 10 ^ k % 10
  | 0, n, k, h => by
    simp at h; subst h; simp [dg]
  | j + 1, n, k, h => by
    unfold dg
    split
    · rename_i h0; subst h0; simp
    · cases k with
      | zero => simp
      | succ k =>
        rw [Nat.pow_succ] at h
        have := dg_getD j (n / 10) k (by omega)
        rw [List.getD_cons_succ, this, Nat.div_div_eq_div_mul, ← Nat.pow_succ']

theorem dg_drop : ∀ (k j n : Nat), (dg (j + k) n).drop k = dg j (n / 10 ^ k)
  | 0, j, n => by simp
  | k + 1, j, n => by
    rw [show j + (k + 1) = j + k + 1 from rfl]
    rw [show dg (j + k + 1) n = if n = 0 then [] else n % 10 :: dg (j + k) (n / 10) from rfl]
    split
    · rename_i h0; subst h0; rw [Nat.zero_div, dg_zero]; simp
    · rw [List.drop_succ_cons, dg_drop k j (n / 10), Nat.div_div_eq_div_mul, ← Nat.pow_succ']

theorem dg_more : ∀ (k n : Nat), n < 10 ^ k → dg (k + 1) n = dg k n
  | 0, n, h => by simp at h; subst h; simp [dg]
  | k + 1, n, h => by
    rw [Nat.pow_succ] at h
    rw [dg, show dg (k + 1) n = if n = 0 then [] else n % 10 :: dg k (n / 10) from rfl, dg_more k (n / 10) (by omega)]

theorem decZ_dg : ∀ (k n : Nat), decZ k n = ((dg k n).map ddig).reverse
  | 0, n => by simp [decZ, dg]
  | k + 1, n => by
    unfold decZ dg
    split
    · simp
    · rw [decZ_dg k (n / 10)]; simp [ddig_mod]

theorem padded_getD (N k : Nat) (h : N < 10 ^ 20) : (padded N).getD k 0 = N / 10 ^ k % 10 := by
  have h1 := dg_getD 20 N k h
  unfold padded
  rw [← h1]
  simp only [List.getD_eq_getElem?_getD]
  rcases Nat.lt_or_ge k (dg 20 N).length with h2 | h2
  · rw [List.getElem?_append_left h2]
  · rw [List.getElem?_append_right h2, List.getElem?_eq_none h2, List.getElem?_replicate]
    split <;> rfl

theorem padded_len (N : Nat) : 7 ≤ (padded N).length := by
  unfold padded; simp; omega

theorem padded_drop (N : Nat) : (padded N).drop 7 = dg 13 (N / 10 ^ 7) := by
  have h := dg_drop 7 13 N
  rw [← h]
  unfold padded
  rw [List.drop_append]
  rcases Nat.lt_or_ge (dg 20 N).length 7 with h2 | h2
  · rw [List.drop_of_length_le (by omega)]; simp
  · rw [show 7 - (dg 20 N).length = 0 from by omega]; simp

theorem grow_frac (N : Nat) (h : N < 10 ^ 20) : ∀ k, k ≤ 6 → growS 0 ((padded N).take k) [] = stripZ k (N % 10 ^ k)
  | 0, _ => by simp [growS, stripZ, Nat.mod_one]
  | k + 1, hk => by
    have hl := padded_len N
    rw [grow_next _ _ (by omega), grow_frac N h k (by omega), padded_getD N k h]
    have hp : N % 10 ^ (k + 1) < 10 ^ (k + 1) := Nat.mod_lt _ (Nat.pow_pos (by decide))
    rw [stripZ_top k _ hp]
    have e1 : N % 10 ^ (k + 1) % 10 ^ k = N % 10 ^ k := by
      rw [Nat.pow_succ, Nat.mod_mul_right_mod]
    have e2 : N % 10 ^ (k + 1) / 10 ^ k = N / 10 ^ k % 10 := by
      rw [Nat.pow_succ, Nat.mod_mul_right_div_self]
    rw [e1, e2]
    generalize N / 10 ^ k % 10 = d
    generalize stripZ k (N % 10 ^ k) = s
    unfold stepS
    simp only [show ¬ k = 6 from by omega, show ¬ 6 ≤ k from by omega, false_and, if_false, false_or]
    split
    · rfl
    · rename_i hn
      simp at hn
      exact hn.1

theorem grow_high : ∀ (l : List Nat) (i : Nat) (s : List UInt8), 6 < i → growS i l s = (l.map ddig).reverse ++ s
  | [], i, s, _ => by simp [growS]
  | d :: l, i, s, h => by
    rw [growS, grow_high l (i + 1) _ (by omega)]
    unfold stepS
    simp [show ¬ i = 6 from by omega, show 6 ≤ i from by omega]

theorem grow_plain (N : Nat) (h : N ≤ 9223372036854775808) : growS 0 (padded N) [] = showPlain N := by
  have h20 : N < 10 ^ 20 := by omega
  have hl := padded_len N
  have hg7 : growS 0 ((padded N).take 7) [] = ddig (N / 1000000) :: showFrac (N % 1000000) := by
    rw [grow_next _ 6 (by omega), grow_frac N h20 6 (by omega), padded_getD N 6 h20]
    rw [show (10 : Nat) ^ 6 = 1000000 from rfl]
    have hp : N % 1000000 < 10 ^ 6 := by have := Nat.mod_lt N (show 0 < 1000000 by decide); simpa using this
    have e : ddig (N / 1000000 % 10) = ddig (N / 1000000) := ddig_mod _
    unfold stepS showFrac
    by_cases h0 : N % 1000000 = 0
    · simp [h0, stripZ, e]
    · have hne := stripZ_ne h0 hp
      rw [if_neg h0]
      have e2 : stripZ 6 (N % 1000000) = strip 6 (N % 1000000) := by unfold stripZ; rw [if_neg h0]
      rw [e2] at hne ⊢
      simp [hne, e]
  have hs := growS_append ((padded N).take 7) ((padded N).drop 7) 0 []
  rw [List.take_append_drop] at hs
  rw [hs, hg7, List.length_take, Nat.min_eq_left hl, grow_high _ _ _ (by omega), padded_drop]
  unfold showPlain
  have h12 : N / 10 ^ 7 < 10 ^ 12 := by
    rw [Nat.div_lt_iff_lt_mul (by decide)]
    omega
  rw [dg_more 12 _ h12, decZ_dg, Nat.div_div_eq_div_mul]
  simp
end Go.Proofs.YtpmfkmolbioomaaDoor
