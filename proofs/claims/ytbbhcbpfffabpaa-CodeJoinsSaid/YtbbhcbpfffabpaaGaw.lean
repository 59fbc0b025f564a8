/- Merged by program: T1RefK. -/
import Derived.Test.YtbbhcbpfffabpaaGau
import Derived.Test.YtbbhcbpfffabpaaGav
/- Contracts of the document's answers for numbers: products, quotients, rests, wholes. -/
namespace Go.Proofs.Ytbbhcbpfffabpaa.T1
open Go.Proofs.Ytbbhcbpfffabpaa Go.Proofs
open Go.RowKit

theorem sv_pos {m : Bool} {l : List Nat} (h : sv m l ≠ 0) : 0 < val l := by
  cases m <;> simp [sv] at h <;> omega

theorem fits_one : Fits 1000000 := by decide
theorem fits_int (a : Int) (ha : Fits a) : Fits (a.tdiv 1000000 * 1000000) := by
  have h : a.tdiv 1000000 * 1000000 = a - a.tmod 1000000 := by have := Int.tmod_add_mul_tdiv a 1000000; omega
  rw [h]; exact tmod_near a ha

set_option maxRecDepth 100000 in
set_option maxHeartbeats 1000000 in
theorem refMul_any (a b : Int) (w : World) (ha : Fits a) (hb : Fits b) :
    Calls Try.prog 36 #[.int .i64 a, .int .i64 b] w (BackPost ((a * b).tdiv 1000000) w) := by
  go_enter Try.func36, Try.ntmps36
  go_wp2_with fail
  refine (of_sv a _ ha).mono ?_
  rintro e w1 ⟨m1, p1, n1, c1, l1, rfl, r1, v1, k1, b1⟩
  have R1 := Lib.hid r1; clear r1
  have V1 := Lib.hid v1; clear v1
  have B1 := Lib.hid (b1); clear b1
  go_wp2_with fail
  refine (of_sv b _ hb).mono ?_
  rintro e w2 ⟨m2, p2, n2, c2, l2, rfl, r2, v2, k2, b2⟩
  have R2 := Lib.hid r2; clear r2
  have V2 := Lib.hid v2; clear v2
  have R1 := Lib.hid (R1.out.below b2)
  have B2 := Lib.hid (Below.step B1.out b2); clear b2
  go_wp2_with fail
  refine (times_loop m1 m2 p1 p2 n1 n2 c1 c2 l1 l2 _ R1.out R2.out (by omega) (by omega)).mono ?_
  rintro e w3 ⟨m3, p3, n3, c3, l3, rfl, r3, v3, k3, b3⟩
  have R3 := Lib.hid r3; clear r3
  have V3 := Lib.hid v3; clear v3
  have R1 := Lib.hid (R1.out.below b3)
  have R2 := Lib.hid (R2.out.below b3)
  have B3 := Lib.hid (Below.step B2.out b3); clear b3
  go_wp2_with fail
  refine (of_sv 1000000 _ fits_one).mono ?_
  rintro e w4 ⟨m4, p4, n4, c4, l4, rfl, r4, v4, k4, b4⟩
  have R4 := Lib.hid r4; clear r4
  have V4 := Lib.hid v4; clear v4
  have R1 := Lib.hid (R1.out.below b4)
  have R2 := Lib.hid (R2.out.below b4)
  have R3 := Lib.hid (R3.out.below b4)
  have B4 := Lib.hid (Below.step B3.out b4); clear b4
  have P4 := Lib.hid (sv_pos (m := m4) (l := l4) (by rw [V4.out]; decide))
  go_wp2_with fail
  refine (over_any m3 m4 p3 p4 n3 n4 c3 c4 l3 l4 _ R3.out R4.out (by omega) P4.out).mono ?_
  rintro e w5 ⟨m5, p5, n5, c5, l5, rfl, r5, v5, k5, b5⟩
  have R5 := Lib.hid r5; clear r5
  have V5 := Lib.hid v5; clear v5
  have R1 := Lib.hid (R1.out.below b5)
  have R2 := Lib.hid (R2.out.below b5)
  have R3 := Lib.hid (R3.out.below b5)
  have R4 := Lib.hid (R4.out.below b5)
  have B5 := Lib.hid (Below.step B4.out b5); clear b5
  go_wp2_with fail
  refine (back_any m5 p5 n5 c5 l5 _ R5.out).mono ?_
  rintro e wz ⟨rfl, bz⟩
  have BZ := Lib.hid (Below.step B5.out bz); clear bz
  have hz : sv m5 l5 = (a * b).tdiv 1000000 := by rw [V5.out, V4.out, V3.out, V1.out, V2.out]
  rw [hz]
  clear hz
  unfold ans
  go_wp2_with fail
  go_ret2
  exact ⟨rfl, BZ.out⟩

set_option maxRecDepth 100000 in
set_option maxHeartbeats 1000000 in
theorem refDiv_go (a b : Int) (w : World) (ha : Fits a) (hb : Fits b) (h0 : b ≠ 0) :
    Calls Try.prog 37 #[.int .i64 a, .int .i64 b] w (BackPost ((a * 1000000).tdiv b) w) := by
  have HB0 := Lib.hid h0
  have hbz : (b == 0) = false := by simpa using h0
  clear h0
  go_enter Try.func37, Try.ntmps37
  go_wp2_with fail
  refine (of_sv a _ ha).mono ?_
  rintro e w1 ⟨m1, p1, n1, c1, l1, rfl, r1, v1, k1, b1⟩
  have R1 := Lib.hid r1; clear r1
  have V1 := Lib.hid v1; clear v1
  have B1 := Lib.hid (b1); clear b1
  go_wp2_with fail
  refine (of_sv 1000000 _ fits_one).mono ?_
  rintro e w2 ⟨m2, p2, n2, c2, l2, rfl, r2, v2, k2, b2⟩
  have R2 := Lib.hid r2; clear r2
  have V2 := Lib.hid v2; clear v2
  have R1 := Lib.hid (R1.out.below b2)
  have B2 := Lib.hid (Below.step B1.out b2); clear b2
  have P2 := Lib.hid (sv_pos (m := m2) (l := l2) (by rw [V2.out]; decide))
  go_wp2_with fail
  refine (times_loop m1 m2 p1 p2 n1 n2 c1 c2 l1 l2 _ R1.out R2.out (by omega) (by omega)).mono ?_
  rintro e w3 ⟨m3, p3, n3, c3, l3, rfl, r3, v3, k3, b3⟩
  have R3 := Lib.hid r3; clear r3
  have V3 := Lib.hid v3; clear v3
  have R1 := Lib.hid (R1.out.below b3)
  have R2 := Lib.hid (R2.out.below b3)
  have B3 := Lib.hid (Below.step B2.out b3); clear b3
  go_wp2_with fail
  refine (of_sv b _ hb).mono ?_
  rintro e w4 ⟨m4, p4, n4, c4, l4, rfl, r4, v4, k4, b4⟩
  have R4 := Lib.hid r4; clear r4
  have V4 := Lib.hid v4; clear v4
  have R1 := Lib.hid (R1.out.below b4)
  have R2 := Lib.hid (R2.out.below b4)
  have R3 := Lib.hid (R3.out.below b4)
  have B4 := Lib.hid (Below.step B3.out b4); clear b4
  have P4 := Lib.hid (sv_pos (m := m4) (l := l4) (by rw [V4.out]; exact HB0.out))
  go_wp2_with fail
  refine (over_any m3 m4 p3 p4 n3 n4 c3 c4 l3 l4 _ R3.out R4.out (by omega) P4.out).mono ?_
  rintro e w5 ⟨m5, p5, n5, c5, l5, rfl, r5, v5, k5, b5⟩
  have R5 := Lib.hid r5; clear r5
  have V5 := Lib.hid v5; clear v5
  have R1 := Lib.hid (R1.out.below b5)
  have R2 := Lib.hid (R2.out.below b5)
  have R3 := Lib.hid (R3.out.below b5)
  have R4 := Lib.hid (R4.out.below b5)
  have B5 := Lib.hid (Below.step B4.out b5); clear b5
  go_wp2_with fail
  refine (back_any m5 p5 n5 c5 l5 _ R5.out).mono ?_
  rintro e wz ⟨rfl, bz⟩
  have BZ := Lib.hid (Below.step B5.out bz); clear bz
  have hz : sv m5 l5 = (a * 1000000).tdiv b := by rw [V5.out, V4.out, V3.out, V1.out, V2.out]
  rw [hz]
  clear hz
  unfold ans
  go_wp2_with fail
  go_ret2
  exact ⟨rfl, BZ.out⟩

set_option maxRecDepth 100000 in
set_option maxHeartbeats 1000000 in
theorem refMod_go (a b : Int) (w : World) (ha : Fits a) (hb : Fits b) (h0 : b ≠ 0) :
    Calls Try.prog 38 #[.int .i64 a, .int .i64 b] w (BackPost (a.tmod b) w) := by
  have HB0 := Lib.hid h0
  have hbz : (b == 0) = false := by simpa using h0
  clear h0
  go_enter Try.func38, Try.ntmps38
  go_wp2_with fail
  refine (of_sv a _ ha).mono ?_
  rintro e w1 ⟨m1, p1, n1, c1, l1, rfl, r1, v1, k1, b1⟩
  have R1 := Lib.hid r1; clear r1
  have V1 := Lib.hid v1; clear v1
  have B1 := Lib.hid (b1); clear b1
  go_wp2_with fail
  refine (of_sv b _ hb).mono ?_
  rintro e w2 ⟨m2, p2, n2, c2, l2, rfl, r2, v2, k2, b2⟩
  have R2 := Lib.hid r2; clear r2
  have V2 := Lib.hid v2; clear v2
  have R1 := Lib.hid (R1.out.below b2)
  have B2 := Lib.hid (Below.step B1.out b2); clear b2
  have P2 := Lib.hid (sv_pos (m := m2) (l := l2) (by rw [V2.out]; exact HB0.out))
  go_wp2_with fail
  refine (of_sv a _ ha).mono ?_
  rintro e w3 ⟨m3, p3, n3, c3, l3, rfl, r3, v3, k3, b3⟩
  have R3 := Lib.hid r3; clear r3
  have V3 := Lib.hid v3; clear v3
  have R1 := Lib.hid (R1.out.below b3)
  have R2 := Lib.hid (R2.out.below b3)
  have B3 := Lib.hid (Below.step B2.out b3); clear b3
  go_wp2_with fail
  refine (of_sv b _ hb).mono ?_
  rintro e w4 ⟨m4, p4, n4, c4, l4, rfl, r4, v4, k4, b4⟩
  have R4 := Lib.hid r4; clear r4
  have V4 := Lib.hid v4; clear v4
  have R1 := Lib.hid (R1.out.below b4)
  have R2 := Lib.hid (R2.out.below b4)
  have R3 := Lib.hid (R3.out.below b4)
  have B4 := Lib.hid (Below.step B3.out b4); clear b4
  have P4 := Lib.hid (sv_pos (m := m4) (l := l4) (by rw [V4.out]; exact HB0.out))
  go_wp2_with fail
  refine (over_any m3 m4 p3 p4 n3 n4 c3 c4 l3 l4 _ R3.out R4.out (by omega) P4.out).mono ?_
  rintro e w5 ⟨m5, p5, n5, c5, l5, rfl, r5, v5, k5, b5⟩
  have R5 := Lib.hid r5; clear r5
  have V5 := Lib.hid v5; clear v5
  have R1 := Lib.hid (R1.out.below b5)
  have R2 := Lib.hid (R2.out.below b5)
  have R3 := Lib.hid (R3.out.below b5)
  have R4 := Lib.hid (R4.out.below b5)
  have B5 := Lib.hid (Below.step B4.out b5); clear b5
  go_wp2_with fail
  refine (times_loop m2 m5 p2 p5 n2 n5 c2 c5 l2 l5 _ R2.out R5.out (by omega) (by omega)).mono ?_
  rintro e w6 ⟨m6, p6, n6, c6, l6, rfl, r6, v6, k6, b6⟩
  have R6 := Lib.hid r6; clear r6
  have V6 := Lib.hid v6; clear v6
  have R1 := Lib.hid (R1.out.below b6)
  have R2 := Lib.hid (R2.out.below b6)
  have R3 := Lib.hid (R3.out.below b6)
  have R4 := Lib.hid (R4.out.below b6)
  have R5 := Lib.hid (R5.out.below b6)
  have B6 := Lib.hid (Below.step B5.out b6); clear b6
  go_wp2_with fail
  refine (not_any m6 p6 n6 c6 l6 _ R6.out).mono ?_
  rintro e w7 ⟨m7, p7, n7, c7, l7, rfl, r7, v7, k7, b7⟩
  have R7 := Lib.hid r7; clear r7
  have V7 := Lib.hid v7; clear v7
  have R1 := Lib.hid (R1.out.below b7)
  have R2 := Lib.hid (R2.out.below b7)
  have R3 := Lib.hid (R3.out.below b7)
  have R4 := Lib.hid (R4.out.below b7)
  have R5 := Lib.hid (R5.out.below b7)
  have R6 := Lib.hid (R6.out.below b7)
  have B7 := Lib.hid (Below.step B6.out b7); clear b7
  go_wp2_with fail
  refine (Plus_any m1 m7 p1 p7 n1 n7 c1 c7 l1 l7 _ R1.out R7.out (by omega) (by omega)).mono ?_
  rintro e w8 ⟨m8, p8, n8, c8, l8, rfl, r8, v8, k8, b8⟩
  have R8 := Lib.hid r8; clear r8
  have V8 := Lib.hid v8; clear v8
  have R1 := Lib.hid (R1.out.below b8)
  have R2 := Lib.hid (R2.out.below b8)
  have R3 := Lib.hid (R3.out.below b8)
  have R4 := Lib.hid (R4.out.below b8)
  have R5 := Lib.hid (R5.out.below b8)
  have R6 := Lib.hid (R6.out.below b8)
  have R7 := Lib.hid (R7.out.below b8)
  have B8 := Lib.hid (Below.step B7.out b8); clear b8
  go_wp2_with fail
  refine (back_any m8 p8 n8 c8 l8 _ R8.out).mono ?_
  rintro e wz ⟨rfl, bz⟩
  have BZ := Lib.hid (Below.step B8.out bz); clear bz
  have hz : sv m8 l8 = a.tmod b := by rw [V8.out, V7.out, V6.out, V5.out, V4.out, V3.out, V1.out, V2.out]; have := Int.tmod_add_mul_tdiv a b; omega
  rw [hz]
  clear hz
  unfold ans
  go_wp2_with fail
  go_ret2
  exact ⟨rfl, BZ.out⟩

theorem refMul_ans (a b : Int) (w : World) (ha : Fits a) (hb : Fits b) :
    Calls Try.prog 36 #[.int .i64 a, .int .i64 b] w fun e w' => e = .returned (ans (mulAns a b)) ∧ Below w.heap.size w w' := refMul_any a b w ha hb

theorem zero_two (a : Int) (w : World) :
    Calls Try.prog 37 #[.int .i64 a, .int .i64 0] w fun e w' => e = .returned (ans (0, 11)) ∧ w = w' := by
  unfold ans
  go_enter Try.func37, Try.ntmps37
  go_wp2
  go_ret2
  exact ⟨rfl, rfl⟩
theorem zero_three (a : Int) (w : World) :
    Calls Try.prog 38 #[.int .i64 a, .int .i64 0] w fun e w' => e = .returned (ans (0, 11)) ∧ w = w' := by
  unfold ans
  go_enter Try.func38, Try.ntmps38
  go_wp2
  go_ret2
  exact ⟨rfl, rfl⟩

theorem refDiv_any (a b : Int) (w : World) (ha : Fits a) (hb : Fits b) :
    Calls Try.prog 37 #[.int .i64 a, .int .i64 b] w fun e w' => e = .returned (ans (divAns a b)) ∧ Below w.heap.size w w' := by
  unfold divAns
  by_cases h : b = 0
  · subst h
    rw [if_pos rfl]
    refine (zero_two a w).mono ?_
    rintro e w' ⟨he, rfl⟩
    exact ⟨he, Below.refl _ _⟩
  · rw [if_neg h]; exact refDiv_go a b w ha hb h

theorem mod_fits (a b : Int) (hb : Fits b) (h : b ≠ 0) : Fits (a.tmod b) := by
  have h5 : (a.tmod b).natAbs < b.natAbs := by
    rw [Int.natAbs_tmod]; exact Nat.mod_lt _ (by omega)
  unfold Fits at *
  omega

theorem refMod_any (a b : Int) (w : World) (ha : Fits a) (hb : Fits b) :
    Calls Try.prog 38 #[.int .i64 a, .int .i64 b] w fun e w' => e = .returned (ans (modAns a b)) ∧ Below w.heap.size w w' := by
  unfold modAns
  by_cases h : b = 0
  · subst h
    rw [if_pos rfl]
    refine (zero_three a w).mono ?_
    rintro e w' ⟨he, rfl⟩
    exact ⟨he, Below.refl _ _⟩
  · rw [if_neg h]
    refine (refMod_go a b w ha hb h).mono ?_
    rintro e w' ⟨he, hw⟩
    refine ⟨?_, hw⟩
    rw [he]
    unfold back
    rw [if_pos (mod_fits a b hb h)]
end Go.Proofs.Ytbbhcbpfffabpaa.T1
