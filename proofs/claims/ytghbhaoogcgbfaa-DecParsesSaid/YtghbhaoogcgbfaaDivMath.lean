/- Plain mathematics of long division by two digits of 32 bits: no program. -/
namespace Go.Proofs.Ytghbhaoogcgbfaa

theorem kn_more {B U d y v1 v0 q r : Nat} (hy : y = v1 * B + v0) (hU : U < y) (hd : d < B) (hq : q * v1 + r = U) (h : B ≤ q ∨ B * r + d < q * v0) :
    (U * B + d) / y < q := by
  have hy0 : 0 < y := by omega
  rw [Nat.div_lt_iff_lt_mul hy0]
  rcases h with h | h
  · have h1 : (U + 1) * B ≤ y * B := Nat.mul_le_mul_right _ hU
    have h2 : B * y ≤ q * y := Nat.mul_le_mul_right _ h
    rw [Nat.add_mul] at h1
    rw [Nat.mul_comm B y] at h2
    omega
  · have h1 : q * y = q * v1 * B + q * v0 := by rw [hy, Nat.mul_add, Nat.mul_assoc]
    have h2 : U * B = q * v1 * B + B * r := by rw [← hq, Nat.add_mul, Nat.mul_comm r B]
    omega

theorem kn_less {B U d y v1 v0 q r : Nat} (hy : y = v1 * B + v0) (hy0 : 0 < y) (hq : q * v1 + r = U) (h : q * v0 ≤ B * r + d) :
    q ≤ (U * B + d) / y := by
  rw [Nat.le_div_iff_mul_le hy0]
  have h1 : q * y = q * v1 * B + q * v0 := by rw [hy, Nat.mul_add, Nat.mul_assoc]
  have h2 : U * B = q * v1 * B + B * r := by rw [← hq, Nat.add_mul, Nat.mul_comm r B]
  omega

theorem kn_small {B U y v1 v0 q r : Nat} (hy : y = v1 * B + v0) (hv0 : v0 < B) (hU : U < y) (hq : q * v1 + r = U) (hr : B ≤ r) : q < B := by
  have h1 : q * v1 < B * v1 := by rw [Nat.mul_comm B v1]; omega
  exact Nat.lt_of_mul_lt_mul_right h1

theorem kn_out {B U d y v1 v0 q r : Nat} (hy : y = v1 * B + v0) (hv0 : v0 < B) (hU : U < y) (hq : q * v1 + r = U) (hr : B ≤ r) :
    q ≤ (U * B + d) / y := by
  have hqB := kn_small hy hv0 hU hq hr
  refine kn_less hy (by omega) hq ?_
  have h1 : q * v0 ≤ B * B := Nat.mul_le_mul (by omega) (by omega)
  have h2 : B * B ≤ B * r := Nat.mul_le_mul_left _ hr
  omega

theorem kn_first {B U d y v1 v0 : Nat} (hy : y = v1 * B + v0) (hv1 : 0 < v1) (hd : d < B) : (U * B + d) / y ≤ U / v1 := by
  rw [Nat.le_div_iff_mul_le hv1]
  rcases Nat.eq_zero_or_pos y with h0 | h0
  · subst h0; simp
  have h1 : (U * B + d) / y * y ≤ U * B + d := Nat.div_mul_le_self _ _
  generalize (U * B + d) / y = q at h1 ⊢
  have h2 : q * y = q * v1 * B + q * v0 := by rw [hy, Nat.mul_add, Nat.mul_assoc]
  have h3 : q * v1 * B < (U + 1) * B := by rw [Nat.add_mul]; omega
  have := Nat.lt_of_mul_lt_mul_right h3
  omega

theorem kn_digit {B U d y : Nat} (hU : U < y) (hd : d < B) : (U * B + d) / y < B := by
  rw [Nat.div_lt_iff_lt_mul (by omega)]
  have h1 : (U + 1) * B ≤ y * B := Nat.mul_le_mul_right _ hU
  rw [Nat.add_mul] at h1
  rw [Nat.mul_comm B y]
  omega

theorem kn_two {B U d1 d0 y : Nat} (hy : 0 < y) :
    ((U * B + d1) * B + d0) / y = (U * B + d1) / y * B + ((U * B + d1) % y * B + d0) / y := by
  have h := Nat.div_add_mod (U * B + d1) y
  have h' : (U * B + d1) * B = y * ((U * B + d1) / y * B) + (U * B + d1) % y * B := by
    rw [← Nat.mul_assoc, ← Nat.add_mul, h]
  rw [h', Nat.add_assoc, Nat.mul_add_div hy]

/-- A shift of the two words. -/
theorem kn_shift {hi lo s : Nat} (hs : s ≤ 63) :
    (hi * 2 ^ s + lo / 2 ^ (64 - s)) * 2 ^ 64 + lo * 2 ^ s % 2 ^ 64 = (hi * 2 ^ 64 + lo) * 2 ^ s := by
  have e : 2 ^ 64 = 2 ^ (64 - s) * 2 ^ s := by rw [← Nat.pow_add]; congr 1; omega
  have h1 : lo * 2 ^ s / 2 ^ 64 = lo / 2 ^ (64 - s) := by
    rw [e, Nat.mul_div_mul_right _ _ (Nat.two_pow_pos s)]
  have h2 := Nat.div_add_mod (lo * 2 ^ s) (2 ^ 64)
  rw [h1] at h2
  rw [Nat.add_mul, Nat.add_mul, Nat.mul_assoc, Nat.mul_assoc, Nat.mul_comm (2 ^ s) (2 ^ 64), Nat.add_assoc, Nat.mul_comm (lo / 2 ^ (64 - s)) (2 ^ 64), h2]

end Go.Proofs.Ytghbhaoogcgbfaa
