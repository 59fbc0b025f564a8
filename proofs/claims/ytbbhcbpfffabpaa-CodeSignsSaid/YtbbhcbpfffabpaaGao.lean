/- Merged by program: T1DecB, T1ParseMath. -/
import Derived.Test.YtbbhcbpfffabpaaGan
/- Contracts of dec's products and quotients. -/
namespace Go.Proofs.Ytbbhcbpfffabpaa.T1
open Go.Proofs.Ytbbhcbpfffabpaa Go.Proofs
open Go.RowKit

def Drew (w w' : World) : Prop := ∃ n, w' = w.drewN n

theorem Drew.refl (w : World) : Drew w w := ⟨0, rfl⟩

def sgn (b : Bool) (n : Nat) : Int := if b then -(n : Int) else n

theorem sgn_mul (a b : Int) (c : Nat) : sgn (decide (a < 0) != decide (b < 0)) (a.natAbs * b.natAbs / c) = (a * b).tdiv c := by
  rcases Int.lt_or_le a 0 with h | h <;> rcases Int.lt_or_le b 0 with h' | h'
  · obtain ⟨n, hn⟩ := Int.eq_ofNat_of_zero_le (show 0 ≤ -a from by omega)
    obtain ⟨m, hm⟩ := Int.eq_ofNat_of_zero_le (show 0 ≤ -b from by omega)
    rw [show a = -(n : Int) from by omega, show b = -(m : Int) from by omega]
    rw [Int.neg_mul_neg, ← Int.natCast_mul, ← Int.ofNat_tdiv]
    simp [sgn, show 0 < n from by omega, show 0 < m from by omega]
  · obtain ⟨n, hn⟩ := Int.eq_ofNat_of_zero_le (show 0 ≤ -a from by omega)
    obtain ⟨m, hm⟩ := Int.eq_ofNat_of_zero_le h'
    rw [show a = -(n : Int) from by omega, hm]
    rw [Int.neg_mul, Int.neg_tdiv, ← Int.natCast_mul, ← Int.ofNat_tdiv]
    simp [sgn, show 0 < n from by omega]
  · obtain ⟨n, hn⟩ := Int.eq_ofNat_of_zero_le h
    obtain ⟨m, hm⟩ := Int.eq_ofNat_of_zero_le (show 0 ≤ -b from by omega)
    rw [show b = -(m : Int) from by omega, hn]
    rw [Int.mul_neg, Int.neg_tdiv, ← Int.natCast_mul, ← Int.ofNat_tdiv]
    simp [sgn, show 0 < m from by omega]
  · obtain ⟨n, hn⟩ := Int.eq_ofNat_of_zero_le h
    obtain ⟨m, hm⟩ := Int.eq_ofNat_of_zero_le h'
    rw [hn, hm]
    rw [← Int.natCast_mul, ← Int.ofNat_tdiv]
    simp [sgn, show ¬ (n : Int) < 0 from by omega, show ¬ (m : Int) < 0 from by omega]

theorem sgn_div (a b : Int) (c : Nat) : sgn (decide (a < 0) != decide (b < 0)) (a.natAbs * c / b.natAbs) = (a * c).tdiv b := by
  rcases Int.lt_or_le a 0 with h | h <;> rcases Int.lt_or_le b 0 with h' | h'
  · obtain ⟨n, hn⟩ := Int.eq_ofNat_of_zero_le (show 0 ≤ -a from by omega)
    obtain ⟨m, hm⟩ := Int.eq_ofNat_of_zero_le (show 0 ≤ -b from by omega)
    rw [show a = -(n : Int) from by omega, show b = -(m : Int) from by omega]
    rw [Int.neg_mul, Int.neg_tdiv, Int.tdiv_neg, Int.neg_neg, ← Int.natCast_mul, ← Int.ofNat_tdiv]
    simp [sgn, show 0 < n from by omega, show 0 < m from by omega]
  · obtain ⟨n, hn⟩ := Int.eq_ofNat_of_zero_le (show 0 ≤ -a from by omega)
    obtain ⟨m, hm⟩ := Int.eq_ofNat_of_zero_le h'
    rw [show a = -(n : Int) from by omega, hm]
    rw [Int.neg_mul, Int.neg_tdiv, ← Int.natCast_mul, ← Int.ofNat_tdiv]
    simp [sgn, show 0 < n from by omega]
  · obtain ⟨n, hn⟩ := Int.eq_ofNat_of_zero_le h
    obtain ⟨m, hm⟩ := Int.eq_ofNat_of_zero_le (show 0 ≤ -b from by omega)
    rw [show b = -(m : Int) from by omega, hn]
    rw [Int.tdiv_neg, ← Int.natCast_mul, ← Int.ofNat_tdiv]
    simp [sgn, show 0 < m from by omega]
  · obtain ⟨n, hn⟩ := Int.eq_ofNat_of_zero_le h
    obtain ⟨m, hm⟩ := Int.eq_ofNat_of_zero_le h'
    rw [hn, hm]
    rw [← Int.natCast_mul, ← Int.ofNat_tdiv]
    simp [sgn, show ¬ (n : Int) < 0 from by omega, show ¬ (m : Int) < 0 from by omega]

theorem signed_sgn (n : Nat) (b : Bool) (w : World) (hn : n ≤ 18446744073709551615) :
    Calls Try.prog 74 #[.int .u64 n, .bool b] w fun e w' => e = .returned (ans (back (sgn b n))) ∧ w = w' := signed_any n b w hn

set_option maxHeartbeats 400000 in
theorem scale_any (x y z : Nat) (b : Bool) (w : World) (hx : x < 18446744073709551616) (hy : y < 18446744073709551616) (hz : z < 18446744073709551616) (hz0 : 1 ≤ z) :
    Calls Try.prog 54 #[.int .u64 x, .int .u64 y, .int .u64 z, .bool b] w fun e w' => e = .returned (ans (back (sgn b (x * y / z)))) ∧ Drew w w' := by
  obtain ⟨p, hp⟩ : ∃ p, p = x * y := ⟨_, rfl⟩
  obtain ⟨hi, hhi⟩ : ∃ hi, hi = p / 18446744073709551616 := ⟨_, rfl⟩
  obtain ⟨lo, hlo⟩ : ∃ lo, lo = p % 18446744073709551616 := ⟨_, rfl⟩
  have hp2 : hi * 18446744073709551616 + lo = p := by omega
  have hlo2 : lo ≤ 18446744073709551615 := by omega
  have hmul := fun w => Try.bits_Mul64 x y hx hy w
  rw [← hp, ← hhi, ← hlo] at hmul
  rw [← hp]
  clear hp hhi hlo
  by_cases h : z ≤ hi
  · have hno : ¬ Fits (sgn b (p / z)) := by
      have : 18446744073709551616 ≤ p / z := by
        rw [Nat.le_div_iff_mul_le (by omega)]
        have : 18446744073709551616 * z ≤ 18446744073709551616 * hi := Nat.mul_le_mul_left _ h
        omega
      unfold Fits sgn
      split <;> omega
    rw [ans_no hno]
    have HM := Lib.hid hmul; clear hmul hp2 hno
    go_enter Try.func54, Try.ntmps54
    go_wp2_with (go_at_call 72; refine (HM.out _).mono ?_; rintro e w1 ⟨rfl, rfl⟩)
    go_ret2
    exact ⟨rfl, Drew.refl _⟩
  · have hdiv := fun w => div64_any hi lo z w hlo2 (by omega) (by omega)
    rw [hp2] at hdiv
    obtain ⟨q, hq⟩ : ∃ q, q = p / z := ⟨_, rfl⟩
    have hq64 : q ≤ 18446744073709551615 := by
      have : q < 18446744073709551616 := by
        rw [hq, Nat.div_lt_iff_lt_mul (by omega)]
        have : 18446744073709551616 * (hi + 1) ≤ 18446744073709551616 * z := Nat.mul_le_mul_left _ (by omega)
        omega
      omega
    rw [← hq] at hdiv ⊢
    have HM := Lib.hid hmul; clear hmul hp2 hq
    have HD := Lib.hid hdiv; clear hdiv
    go_enter Try.func54, Try.ntmps54
    go_wp2_with (first
      | (go_at_call 72; refine (HM.out _).mono ?_; rintro e w1 ⟨rfl, rfl⟩)
      | (go_at_call 73; refine (HD.out _).mono ?_; rintro e w2 ⟨r, rfl, nd, hwd⟩; have HWD := Lib.hid hwd; clear hwd)
      | (go_at_call 74; refine (signed_sgn _ _ _ hq64).mono ?_; rintro e w3 ⟨rfl, rfl⟩; unfold ans))
    go_ret2
    exact ⟨rfl, nd, HWD.out⟩

def mulAns (a b : Int) : Int × Int := back ((a * b).tdiv 1000000)
def divAns (a b : Int) : Int × Int := if b = 0 then (0, 11) else back ((a * 1000000).tdiv b)

theorem natAbs_lt {a : Int} (h : Fits a) : a.natAbs < 18446744073709551616 := by unfold Fits at h; omega

set_option maxHeartbeats 400000 in
theorem mul_any (a b : Int) (w : World) (ha : Fits a) (hb : Fits b) :
    Calls Try.prog 26 #[.int .i64 a, .int .i64 b] w fun e w' => e = .returned (ans (mulAns a b)) ∧ Drew w w' := by
  have hs := fun w => scale_any a.natAbs b.natAbs 1000000 (decide (a < 0) != decide (b < 0)) w (natAbs_lt ha) (natAbs_lt hb) (by omega) (by omega)
  rw [sgn_mul] at hs
  change ∀ w, Calls _ _ _ w fun e w' => e = .returned (ans (mulAns a b)) ∧ Drew w w' at hs
  have HA := Lib.hid (size_any a · ha)
  have HB := Lib.hid (size_any b · hb)
  have HS := Lib.hid hs; clear hs
  go_enter Try.func26, Try.ntmps26
  go_wp2_with fail
  refine (HA.out _).mono ?_
  rintro e w1 ⟨rfl, rfl⟩
  go_wp2_with fail
  refine (HB.out _).mono ?_
  rintro e w2 ⟨rfl, rfl⟩
  go_wp2_with fail
  refine (HS.out _).mono ?_
  rintro e w3 ⟨rfl, hd⟩
  unfold ans
  go_wp2_with fail
  go_ret2
  exact ⟨rfl, hd⟩

set_option maxHeartbeats 400000 in
theorem div_any (a b : Int) (w : World) (ha : Fits a) (hb : Fits b) :
    Calls Try.prog 27 #[.int .i64 a, .int .i64 b] w fun e w' => e = .returned (ans (divAns a b)) ∧ Drew w w' := by
  by_cases h0 : b = 0
  · subst h0
    rw [show ans (divAns a 0) = .tuple #[.int .i64 0, .int .i64 11] from rfl]
    go_enter Try.func27, Try.ntmps27
    go_wp2
    go_ret2
    exact ⟨rfl, Drew.refl _⟩
  · have hs := fun w => scale_any a.natAbs 1000000 b.natAbs (decide (a < 0) != decide (b < 0)) w (natAbs_lt ha) (by omega) (natAbs_lt hb) (by omega)
    rw [sgn_div, show back ((a * (1000000 : Nat)).tdiv b) = divAns a b from by simp [divAns, h0]] at hs
    have HA := Lib.hid (size_any a · ha)
    have HB := Lib.hid (size_any b · hb)
    have HS := Lib.hid hs; clear hs
    have hb0 : (b == 0) = false := by simpa using h0
    go_enter Try.func27, Try.ntmps27
    go_wp2_with fail
    refine (HA.out _).mono ?_
    rintro e w1 ⟨rfl, rfl⟩
    go_wp2_with fail
    refine (HB.out _).mono ?_
    rintro e w2 ⟨rfl, rfl⟩
    go_wp2_with fail
    refine (HS.out _).mono ?_
    rintro e w3 ⟨rfl, hd⟩
    unfold ans
    go_wp2_with fail
    go_ret2
    exact ⟨rfl, hd⟩
end Go.Proofs.Ytbbhcbpfffabpaa.T1

/- Plain mathematics of texts of numbers: no program. -/
namespace Go.Proofs.Ytbbhcbpfffabpaa.T1
open Go.Proofs.Ytbbhcbpfffabpaa Go.Proofs

def isDig (c : UInt8) : Bool := decide (48 ≤ c.toNat) && decide (c.toNat ≤ 57)
def isBl (c : UInt8) : Bool := decide (c.toNat = 32) || decide (c.toNat = 9) || decide (c.toNat = 10)

theorem isDig_yes {c : UInt8} (h : isDig c = true) : 48 ≤ c.toNat ∧ c.toNat ≤ 57 := by
  simpa [isDig] using h
theorem isDig_no {c : UInt8} (h : isDig c = false) : c.toNat < 48 ∨ 57 < c.toNat := by
  simp [isDig] at h; omega

theorem tw_lt {p : UInt8 → Bool} : ∀ {l : List UInt8} {k : Nat}, k < (l.takeWhile p).length → ∀ hk : k < l.length, p l[k] = true
  | [], k, h, _ => by simp at h
  | a :: l, k, h, hk => by
    rw [List.takeWhile_cons] at h
    split at h
    · rename_i ha
      cases k with
      | zero => simpa using ha
      | succ k =>
        have := tw_lt (p := p) (l := l) (k := k) (by simpa using h) (by simpa using hk)
        simpa using this
    · simp at h

theorem tw_end {p : UInt8 → Bool} : ∀ {l : List UInt8} (hk : (l.takeWhile p).length < l.length), p l[(l.takeWhile p).length] = false
  | [], h => by simp at h
  | a :: l, h => by
    by_cases ha : p a = true
    · have h2 : (List.takeWhile p (a :: l)).length = (List.takeWhile p l).length + 1 := by simp [ha]
      have := tw_end (p := p) (l := l) (by rw [h2] at h; simpa using h)
      simp only [h2, List.getElem_cons_succ]
      exact this
    · have h2 : (List.takeWhile p (a :: l)).length = 0 := by simp [ha]
      simp only [h2, List.getElem_cons_zero]
      simpa using ha

theorem tw_le {p : UInt8 → Bool} (l : List UInt8) : (l.takeWhile p).length ≤ l.length := (List.takeWhile_sublist p).length_le

theorem tw_take {p : UInt8 → Bool} (l : List UInt8) : l.take (l.takeWhile p).length = l.takeWhile p := by
  induction l with
  | nil => rfl
  | cons a l ih =>
    rw [List.takeWhile_cons]
    split
    · simp [ih]
    · simp

def dstep (n : Nat) (c : UInt8) : Nat := n * 10 + (c.toNat - 48)
def dval (l : List UInt8) : Nat := l.foldl dstep 0

theorem dval_snoc (l : List UInt8) (c : UInt8) : dval (l ++ [c]) = dval l * 10 + (c.toNat - 48) := by
  simp [dval, dstep]

/-- A number that is counted up to a greatest one. -/
def Sat (r v : Nat) : Prop := (r = v ∧ v ≤ 18446744073709551615) ∨ (r = 18446744073709551615 ∧ 9223372036854775808 < v)

def pushN (n : Nat) (c : Nat) : Nat := if 1844674407370955160 < n then 18446744073709551615 else n * 10 + (c - 48)

theorem Sat.le {r v : Nat} (h : Sat r v) : r ≤ 18446744073709551615 := by unfold Sat at h; omega

theorem Sat.push {r v c : Nat} (h : Sat r v) (hc : c ≤ 57) : Sat (pushN r c) (v * 10 + (c - 48)) := by
  unfold Sat pushN at *
  split <;> omega

def pad6 (p : List UInt8) : List UInt8 := p.take 6 ++ List.replicate (6 - p.length) 48
def mval (whole part : List UInt8) : Nat := dval (whole ++ pad6 part)

theorem pad6_len (p : List UInt8) : (pad6 p).length = 6 := by
  simp [pad6]; omega

theorem pad6_lt {p : List UInt8} {k : Nat} (h : k < p.length) (hk : k < 6) : (pad6 p)[k]'(by rw [pad6_len]; exact hk) = p[k] := by
  unfold pad6
  rw [List.getElem_append_left (by simp; omega)]
  simp

theorem pad6_ge {p : List UInt8} {k : Nat} (h : p.length ≤ k) (hk : k < 6) : (pad6 p)[k]'(by rw [pad6_len]; exact hk) = 48 := by
  unfold pad6
  rw [List.getElem_append_right (by simp; omega)]
  simp

end Go.Proofs.Ytbbhcbpfffabpaa.T1
