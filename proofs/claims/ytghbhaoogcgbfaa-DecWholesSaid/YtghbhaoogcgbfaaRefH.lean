/- Contracts of the document's answers for numbers: sums and differences. -/
import Derived.Test.YtghbhaoogcgbfaaRefF
import Derived.Test.YtghbhaoogcgbfaaRefG
namespace Go.Proofs.Ytghbhaoogcgbfaa
open Go.RowKit

theorem sv_dg (a : Int) (ha : Fits a) : sv (decide (a < 0)) (dg 20 a.natAbs) = a := by
  have h : a.natAbs < 10 ^ 20 := by unfold Fits at ha; omega
  unfold sv
  rw [dg_val 20 _ h]
  split <;> simp_all <;> omega

theorem of_sv (a : Int) (w : World) (ha : Fits a) : Calls Try.prog 34 #[.int .i64 a] w (NPost a 20 w) :=
  (of_any a w ha).mono fun e w' ⟨p, n, c, he, hr, hb⟩ => ⟨_, p, n, c, _, he, hr, sv_dg a ha, by rw [hr.len]; exact dg_len _ _, hb⟩

set_option maxHeartbeats 400000 in
theorem refAdd_any (a b : Int) (w : World) (ha : Fits a) (hb : Fits b) :
    Calls Try.prog 12 #[.int .i64 a, .int .i64 b] w (BackPost (a + b) w) := by
  go_enter Try.func12, Try.ntmps12
  go_wp2_with fail
  refine (of_sv a _ ha).mono ?_
  rintro e w1 ⟨m1, p1, n1, c1, l1, rfl, r1, v1, k1, b1⟩
  have R1 := Lib.hid r1; clear r1
  have V1 := Lib.hid v1; clear v1
  have B1 := Lib.hid b1; clear b1
  go_wp2_with fail
  refine (of_sv b _ hb).mono ?_
  rintro e w2 ⟨m2, p2, n2, c2, l2, rfl, r2, v2, k2, b2⟩
  have R2 := Lib.hid r2; clear r2
  have V2 := Lib.hid v2; clear v2
  have B2 := Lib.hid (Below.step B1.out b2)
  have R12 := Lib.hid (R1.out.below b2); clear b2
  go_wp2_with fail
  refine (Plus_any m1 m2 p1 p2 n1 n2 c1 c2 l1 l2 _ R12.out R2.out (by omega) (by omega)).mono ?_
  rintro e w3 ⟨m3, p3, n3, c3, l3, rfl, r3, v3, k3, b3⟩
  have R3 := Lib.hid r3; clear r3
  have V3 := Lib.hid v3; clear v3
  have B3 := Lib.hid (Below.step B2.out b3); clear b3
  go_wp2_with fail
  refine (back_any m3 p3 n3 c3 l3 _ R3.out).mono ?_
  rintro e w4 ⟨rfl, b4⟩
  have B4 := Lib.hid (Below.step B3.out b4); clear b4
  have hz : sv m3 l3 = a + b := by rw [V3.out, V1.out, V2.out]
  rw [hz]
  clear hz
  unfold ans
  go_wp2_with fail
  go_ret2
  exact ⟨rfl, B4.out⟩

set_option maxHeartbeats 400000 in
theorem refSub_any (a b : Int) (w : World) (ha : Fits a) (hb : Fits b) :
    Calls Try.prog 14 #[.int .i64 a, .int .i64 b] w (BackPost (a - b) w) := by
  go_enter Try.func14, Try.ntmps14
  go_wp2_with fail
  refine (of_sv a _ ha).mono ?_
  rintro e w1 ⟨m1, p1, n1, c1, l1, rfl, r1, v1, k1, b1⟩
  have R1 := Lib.hid r1; clear r1
  have V1 := Lib.hid v1; clear v1
  have B1 := Lib.hid b1; clear b1
  go_wp2_with fail
  refine (of_sv b _ hb).mono ?_
  rintro e w2 ⟨m2, p2, n2, c2, l2, rfl, r2, v2, k2, b2⟩
  have V2 := Lib.hid v2; clear v2
  have B2 := Lib.hid (Below.step B1.out b2)
  have R12 := Lib.hid (R1.out.below b2); clear b2
  go_wp2_with fail
  refine (not_any m2 p2 n2 c2 l2 _ r2).mono ?_
  rintro e w3 ⟨m3, p3, n3, c3, l3, rfl, r3, v3, k3, b3⟩
  have R3 := Lib.hid r3; clear r3
  have V3 := Lib.hid v3; clear v3
  have B3 := Lib.hid (Below.step B2.out b3)
  have R13 := Lib.hid (R12.out.below b3); clear b3
  go_wp2_with fail
  refine (Plus_any m1 m3 p1 p3 n1 n3 c1 c3 l1 l3 _ R13.out R3.out (by omega) (by omega)).mono ?_
  rintro e w4 ⟨m4, p4, n4, c4, l4, rfl, r4, v4, k4, b4⟩
  have V4 := Lib.hid v4; clear v4
  have B4 := Lib.hid (Below.step B3.out b4); clear b4
  go_wp2_with fail
  refine (back_any m4 p4 n4 c4 l4 _ r4).mono ?_
  rintro e w5 ⟨rfl, b5⟩
  have B5 := Lib.hid (Below.step B4.out b5); clear b5
  have hz : sv m4 l4 = a - b := by rw [V4.out, V1.out, V3.out, V2.out]; omega
  rw [hz]
  clear hz
  unfold ans
  go_wp2_with fail
  go_ret2
  exact ⟨rfl, B5.out⟩

set_option maxHeartbeats 400000 in
theorem refNeg_any (a : Int) (w : World) (ha : Fits a) :
    Calls Try.prog 16 #[.int .i64 a] w (BackPost (-a) w) := by
  go_enter Try.func16, Try.ntmps16
  go_wp2_with fail
  refine (of_sv a _ ha).mono ?_
  rintro e w1 ⟨m1, p1, n1, c1, l1, rfl, r1, v1, k1, b1⟩
  have V1 := Lib.hid v1; clear v1
  have B1 := Lib.hid b1; clear b1
  go_wp2_with fail
  refine (not_any m1 p1 n1 c1 l1 _ r1).mono ?_
  rintro e w3 ⟨m3, p3, n3, c3, l3, rfl, r3, v3, k3, b3⟩
  have V3 := Lib.hid v3; clear v3
  have B3 := Lib.hid (Below.step B1.out b3); clear b3
  go_wp2_with fail
  refine (back_any m3 p3 n3 c3 l3 _ r3).mono ?_
  rintro e w5 ⟨rfl, b5⟩
  have B5 := Lib.hid (Below.step B3.out b5); clear b5
  have hz : sv m3 l3 = -a := by rw [V3.out, V1.out]
  rw [hz]
  clear hz
  unfold ans
  go_wp2_with fail
  go_ret2
  exact ⟨rfl, B5.out⟩
end Go.Proofs.Ytghbhaoogcgbfaa
