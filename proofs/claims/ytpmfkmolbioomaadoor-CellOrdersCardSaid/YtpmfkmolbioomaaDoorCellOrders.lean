/- CellOrders: for any three cells the law returns true, and its arguments read as before. The condition: unicode/utf8's two tables as the program's text lays them (the card ties them). -/
import Derived.Test.YtpmfkmolbioomaaDoorCards
import Derived.Test.YtpmfkmolbioomaaDoorTie
import Derived.Test.YtpmfkmolbioomaaDoorPost
import Derived.Test.YtpmfkmolbioomaaDoorCellE
import Derived.Test.YtpmfkmolbioomaaDoorCellF
import Derived.Test.YtpmfkmolbioomaaDoorCellM
namespace Go.Proofs.YtpmfkmolbioomaaDoor.cellOrders
open Go.ChangeShapes Go.WideShapes Go.ChangeAt Go.RowKit Go.ChangeMaps

set_option maxRecDepth 100000 in
set_option maxHeartbeats 16000000 in
theorem walk (k0 n0 : Int) (s0 : ByteArray) (k1 n1 : Int) (s1 : ByteArray) (k2 n2 : Int) (s2 : ByteArray) (hn0 : Fits n0) (hn1 : Fits n1) (hn2 : Fits n2) (w : World) :
    Calls Tryd.prog 5 #[.agg #[.int .i64 k0, .int .i64 n0, .string s0], .agg #[.int .i64 k1, .int .i64 n1, .string s1], .agg #[.int .i64 k2, .int .i64 n2, .string s2]] w fun e w' => e = .returned (.bool true) ∧ Below w.heap.size w w' := by
  have LV := Lib.hid lives_any
  have X := boxed3 w (.int .i64 k0) (.int .i64 n0) (.string s0) (.int .i64 k1) (.int .i64 n1) (.string s1) (.int .i64 k2) (.int .i64 n2) (.string s2) 24
  have B0 := Lib.hid X.1.out
  have T0_0 := Lib.hid X.2.1
  have T1_0 := Lib.hid X.2.2.1
  have T2_0 := Lib.hid X.2.2.2
  clear X
  by_cases hs0 : s0.size ≤ 300
  case neg =>
    have SM0 := fun w => small_any k0 n0 s0 w
    rw [decide_eq_false (show ¬ (s0.size : Int) ≤ 300 by omega)] at SM0
    have SM0 := Lib.hid SM0
    clear hs0
    go_enter Tryd.func5, Tryd.ntmps5
    go_wp2_with fail
    refine (SM0.out _).mono ?_
    rintro e w1 ⟨rfl, b1⟩
    have T0_1 := Lib.hid (T0_0.out.below b1)
    have c00 := T0_1.out.c0
    have c01 := T0_1.out.c1
    have c02 := T0_1.out.c2
    have T1_1 := Lib.hid (T1_0.out.below b1)
    have c10 := T1_1.out.c0
    have c11 := T1_1.out.c1
    have c12 := T1_1.out.c2
    have T2_1 := Lib.hid (T2_0.out.below b1)
    have c20 := T2_1.out.c0
    have c21 := T2_1.out.c1
    have c22 := T2_1.out.c2
    have B1 := Lib.hid (Below.step B0.out b1); clear b1
    go_wp2_with fail
    refine (LV.out _).mono ?_
    rintro e w2 ⟨rfl, b2⟩
    clear c00 c01 c02 c10 c11 c12 c20 c21 c22
    have B2 := Lib.hid (Below.step B1.out b2); clear b2
    go_wp2_with fail
    go_ret
    exact ⟨rfl, B2.out⟩
  have SM0 := fun w => small_any k0 n0 s0 w
  rw [decide_eq_true (show (s0.size : Int) ≤ 300 by omega)] at SM0
  have SM0 := Lib.hid SM0
  by_cases hs1 : s1.size ≤ 300
  case neg =>
    have SM1 := fun w => small_any k1 n1 s1 w
    rw [decide_eq_false (show ¬ (s1.size : Int) ≤ 300 by omega)] at SM1
    have SM1 := Lib.hid SM1
    clear hs0 hs1
    go_enter Tryd.func5, Tryd.ntmps5
    go_wp2_with fail
    refine (SM0.out _).mono ?_
    rintro e w1 ⟨rfl, b1⟩
    have T0_1 := Lib.hid (T0_0.out.below b1)
    have c00 := T0_1.out.c0
    have c01 := T0_1.out.c1
    have c02 := T0_1.out.c2
    have T1_1 := Lib.hid (T1_0.out.below b1)
    have c10 := T1_1.out.c0
    have c11 := T1_1.out.c1
    have c12 := T1_1.out.c2
    have T2_1 := Lib.hid (T2_0.out.below b1)
    have c20 := T2_1.out.c0
    have c21 := T2_1.out.c1
    have c22 := T2_1.out.c2
    have B1 := Lib.hid (Below.step B0.out b1); clear b1
    go_wp2_with fail
    refine (SM1.out _).mono ?_
    rintro e w2 ⟨rfl, b2⟩
    clear c00 c01 c02 c10 c11 c12 c20 c21 c22
    have T0_2 := Lib.hid (T0_1.out.below b2)
    have c00 := T0_2.out.c0
    have c01 := T0_2.out.c1
    have c02 := T0_2.out.c2
    have T1_2 := Lib.hid (T1_1.out.below b2)
    have c10 := T1_2.out.c0
    have c11 := T1_2.out.c1
    have c12 := T1_2.out.c2
    have T2_2 := Lib.hid (T2_1.out.below b2)
    have c20 := T2_2.out.c0
    have c21 := T2_2.out.c1
    have c22 := T2_2.out.c2
    have B2 := Lib.hid (Below.step B1.out b2); clear b2
    go_wp2_with fail
    refine (LV.out _).mono ?_
    rintro e w3 ⟨rfl, b3⟩
    clear c00 c01 c02 c10 c11 c12 c20 c21 c22
    have B3 := Lib.hid (Below.step B2.out b3); clear b3
    go_wp2_with fail
    go_ret
    exact ⟨rfl, B3.out⟩
  have SM1 := fun w => small_any k1 n1 s1 w
  rw [decide_eq_true (show (s1.size : Int) ≤ 300 by omega)] at SM1
  have SM1 := Lib.hid SM1
  by_cases hs2 : s2.size ≤ 300
  case neg =>
    have SM2 := fun w => small_any k2 n2 s2 w
    rw [decide_eq_false (show ¬ (s2.size : Int) ≤ 300 by omega)] at SM2
    have SM2 := Lib.hid SM2
    clear hs0 hs1 hs2
    go_enter Tryd.func5, Tryd.ntmps5
    go_wp2_with fail
    refine (SM0.out _).mono ?_
    rintro e w1 ⟨rfl, b1⟩
    have T0_1 := Lib.hid (T0_0.out.below b1)
    have c00 := T0_1.out.c0
    have c01 := T0_1.out.c1
    have c02 := T0_1.out.c2
    have T1_1 := Lib.hid (T1_0.out.below b1)
    have c10 := T1_1.out.c0
    have c11 := T1_1.out.c1
    have c12 := T1_1.out.c2
    have T2_1 := Lib.hid (T2_0.out.below b1)
    have c20 := T2_1.out.c0
    have c21 := T2_1.out.c1
    have c22 := T2_1.out.c2
    have B1 := Lib.hid (Below.step B0.out b1); clear b1
    go_wp2_with fail
    refine (SM1.out _).mono ?_
    rintro e w2 ⟨rfl, b2⟩
    clear c00 c01 c02 c10 c11 c12 c20 c21 c22
    have T0_2 := Lib.hid (T0_1.out.below b2)
    have c00 := T0_2.out.c0
    have c01 := T0_2.out.c1
    have c02 := T0_2.out.c2
    have T1_2 := Lib.hid (T1_1.out.below b2)
    have c10 := T1_2.out.c0
    have c11 := T1_2.out.c1
    have c12 := T1_2.out.c2
    have T2_2 := Lib.hid (T2_1.out.below b2)
    have c20 := T2_2.out.c0
    have c21 := T2_2.out.c1
    have c22 := T2_2.out.c2
    have B2 := Lib.hid (Below.step B1.out b2); clear b2
    go_wp2_with fail
    refine (SM2.out _).mono ?_
    rintro e w3 ⟨rfl, b3⟩
    clear c00 c01 c02 c10 c11 c12 c20 c21 c22
    have T0_3 := Lib.hid (T0_2.out.below b3)
    have c00 := T0_3.out.c0
    have c01 := T0_3.out.c1
    have c02 := T0_3.out.c2
    have T1_3 := Lib.hid (T1_2.out.below b3)
    have c10 := T1_3.out.c0
    have c11 := T1_3.out.c1
    have c12 := T1_3.out.c2
    have T2_3 := Lib.hid (T2_2.out.below b3)
    have c20 := T2_3.out.c0
    have c21 := T2_3.out.c1
    have c22 := T2_3.out.c2
    have B3 := Lib.hid (Below.step B2.out b3); clear b3
    go_wp2_with fail
    refine (LV.out _).mono ?_
    rintro e w4 ⟨rfl, b4⟩
    clear c00 c01 c02 c10 c11 c12 c20 c21 c22
    have B4 := Lib.hid (Below.step B3.out b4); clear b4
    go_wp2_with fail
    go_ret
    exact ⟨rfl, B4.out⟩
  have SM2 := fun w => small_any k2 n2 s2 w
  rw [decide_eq_true (show (s2.size : Int) ≤ 300 by omega)] at SM2
  have SM2 := Lib.hid SM2
  cases hc0 : canB k0 n0 s0
  case false =>
    have CN0 := fun w => refCan_any k0 n0 s0 (by omega) w
    rw [hc0] at CN0
    have CN0 := Lib.hid CN0
    clear hs0 hs1 hs2 hc0
    go_enter Tryd.func5, Tryd.ntmps5
    go_wp2_with fail
    refine (SM0.out _).mono ?_
    rintro e w1 ⟨rfl, b1⟩
    have T0_1 := Lib.hid (T0_0.out.below b1)
    have c00 := T0_1.out.c0
    have c01 := T0_1.out.c1
    have c02 := T0_1.out.c2
    have T1_1 := Lib.hid (T1_0.out.below b1)
    have c10 := T1_1.out.c0
    have c11 := T1_1.out.c1
    have c12 := T1_1.out.c2
    have T2_1 := Lib.hid (T2_0.out.below b1)
    have c20 := T2_1.out.c0
    have c21 := T2_1.out.c1
    have c22 := T2_1.out.c2
    have B1 := Lib.hid (Below.step B0.out b1); clear b1
    go_wp2_with fail
    refine (SM1.out _).mono ?_
    rintro e w2 ⟨rfl, b2⟩
    clear c00 c01 c02 c10 c11 c12 c20 c21 c22
    have T0_2 := Lib.hid (T0_1.out.below b2)
    have c00 := T0_2.out.c0
    have c01 := T0_2.out.c1
    have c02 := T0_2.out.c2
    have T1_2 := Lib.hid (T1_1.out.below b2)
    have c10 := T1_2.out.c0
    have c11 := T1_2.out.c1
    have c12 := T1_2.out.c2
    have T2_2 := Lib.hid (T2_1.out.below b2)
    have c20 := T2_2.out.c0
    have c21 := T2_2.out.c1
    have c22 := T2_2.out.c2
    have B2 := Lib.hid (Below.step B1.out b2); clear b2
    go_wp2_with fail
    refine (SM2.out _).mono ?_
    rintro e w3 ⟨rfl, b3⟩
    clear c00 c01 c02 c10 c11 c12 c20 c21 c22
    have T0_3 := Lib.hid (T0_2.out.below b3)
    have c00 := T0_3.out.c0
    have c01 := T0_3.out.c1
    have c02 := T0_3.out.c2
    have T1_3 := Lib.hid (T1_2.out.below b3)
    have c10 := T1_3.out.c0
    have c11 := T1_3.out.c1
    have c12 := T1_3.out.c2
    have T2_3 := Lib.hid (T2_2.out.below b3)
    have c20 := T2_3.out.c0
    have c21 := T2_3.out.c1
    have c22 := T2_3.out.c2
    have B3 := Lib.hid (Below.step B2.out b3); clear b3
    go_wp2_with fail
    refine (CN0.out _).mono ?_
    rintro e w4 ⟨rfl, b4⟩
    clear c00 c01 c02 c10 c11 c12 c20 c21 c22
    have T0_4 := Lib.hid (T0_3.out.below b4)
    have c00 := T0_4.out.c0
    have c01 := T0_4.out.c1
    have c02 := T0_4.out.c2
    have T1_4 := Lib.hid (T1_3.out.below b4)
    have c10 := T1_4.out.c0
    have c11 := T1_4.out.c1
    have c12 := T1_4.out.c2
    have T2_4 := Lib.hid (T2_3.out.below b4)
    have c20 := T2_4.out.c0
    have c21 := T2_4.out.c1
    have c22 := T2_4.out.c2
    have B4 := Lib.hid (Below.step B3.out b4); clear b4
    go_wp2_with fail
    refine (LV.out _).mono ?_
    rintro e w5 ⟨rfl, b5⟩
    clear c00 c01 c02 c10 c11 c12 c20 c21 c22
    have B5 := Lib.hid (Below.step B4.out b5); clear b5
    go_wp2_with fail
    go_ret
    exact ⟨rfl, B5.out⟩
  have CN0 := fun w => refCan_any k0 n0 s0 (by omega) w
  rw [hc0] at CN0
  have CN0 := Lib.hid CN0
  cases hc1 : canB k1 n1 s1
  case false =>
    have CN1 := fun w => refCan_any k1 n1 s1 (by omega) w
    rw [hc1] at CN1
    have CN1 := Lib.hid CN1
    clear hs0 hs1 hs2 hc0 hc1
    go_enter Tryd.func5, Tryd.ntmps5
    go_wp2_with fail
    refine (SM0.out _).mono ?_
    rintro e w1 ⟨rfl, b1⟩
    have T0_1 := Lib.hid (T0_0.out.below b1)
    have c00 := T0_1.out.c0
    have c01 := T0_1.out.c1
    have c02 := T0_1.out.c2
    have T1_1 := Lib.hid (T1_0.out.below b1)
    have c10 := T1_1.out.c0
    have c11 := T1_1.out.c1
    have c12 := T1_1.out.c2
    have T2_1 := Lib.hid (T2_0.out.below b1)
    have c20 := T2_1.out.c0
    have c21 := T2_1.out.c1
    have c22 := T2_1.out.c2
    have B1 := Lib.hid (Below.step B0.out b1); clear b1
    go_wp2_with fail
    refine (SM1.out _).mono ?_
    rintro e w2 ⟨rfl, b2⟩
    clear c00 c01 c02 c10 c11 c12 c20 c21 c22
    have T0_2 := Lib.hid (T0_1.out.below b2)
    have c00 := T0_2.out.c0
    have c01 := T0_2.out.c1
    have c02 := T0_2.out.c2
    have T1_2 := Lib.hid (T1_1.out.below b2)
    have c10 := T1_2.out.c0
    have c11 := T1_2.out.c1
    have c12 := T1_2.out.c2
    have T2_2 := Lib.hid (T2_1.out.below b2)
    have c20 := T2_2.out.c0
    have c21 := T2_2.out.c1
    have c22 := T2_2.out.c2
    have B2 := Lib.hid (Below.step B1.out b2); clear b2
    go_wp2_with fail
    refine (SM2.out _).mono ?_
    rintro e w3 ⟨rfl, b3⟩
    clear c00 c01 c02 c10 c11 c12 c20 c21 c22
    have T0_3 := Lib.hid (T0_2.out.below b3)
    have c00 := T0_3.out.c0
    have c01 := T0_3.out.c1
    have c02 := T0_3.out.c2
    have T1_3 := Lib.hid (T1_2.out.below b3)
    have c10 := T1_3.out.c0
    have c11 := T1_3.out.c1
    have c12 := T1_3.out.c2
    have T2_3 := Lib.hid (T2_2.out.below b3)
    have c20 := T2_3.out.c0
    have c21 := T2_3.out.c1
    have c22 := T2_3.out.c2
    have B3 := Lib.hid (Below.step B2.out b3); clear b3
    go_wp2_with fail
    refine (CN0.out _).mono ?_
    rintro e w4 ⟨rfl, b4⟩
    clear c00 c01 c02 c10 c11 c12 c20 c21 c22
    have T0_4 := Lib.hid (T0_3.out.below b4)
    have c00 := T0_4.out.c0
    have c01 := T0_4.out.c1
    have c02 := T0_4.out.c2
    have T1_4 := Lib.hid (T1_3.out.below b4)
    have c10 := T1_4.out.c0
    have c11 := T1_4.out.c1
    have c12 := T1_4.out.c2
    have T2_4 := Lib.hid (T2_3.out.below b4)
    have c20 := T2_4.out.c0
    have c21 := T2_4.out.c1
    have c22 := T2_4.out.c2
    have B4 := Lib.hid (Below.step B3.out b4); clear b4
    go_wp2_with fail
    refine (CN1.out _).mono ?_
    rintro e w5 ⟨rfl, b5⟩
    clear c00 c01 c02 c10 c11 c12 c20 c21 c22
    have T0_5 := Lib.hid (T0_4.out.below b5)
    have c00 := T0_5.out.c0
    have c01 := T0_5.out.c1
    have c02 := T0_5.out.c2
    have T1_5 := Lib.hid (T1_4.out.below b5)
    have c10 := T1_5.out.c0
    have c11 := T1_5.out.c1
    have c12 := T1_5.out.c2
    have T2_5 := Lib.hid (T2_4.out.below b5)
    have c20 := T2_5.out.c0
    have c21 := T2_5.out.c1
    have c22 := T2_5.out.c2
    have B5 := Lib.hid (Below.step B4.out b5); clear b5
    go_wp2_with fail
    refine (LV.out _).mono ?_
    rintro e w6 ⟨rfl, b6⟩
    clear c00 c01 c02 c10 c11 c12 c20 c21 c22
    have B6 := Lib.hid (Below.step B5.out b6); clear b6
    go_wp2_with fail
    go_ret
    exact ⟨rfl, B6.out⟩
  have CN1 := fun w => refCan_any k1 n1 s1 (by omega) w
  rw [hc1] at CN1
  have CN1 := Lib.hid CN1
  cases hc2 : canB k2 n2 s2
  case false =>
    have CN2 := fun w => refCan_any k2 n2 s2 (by omega) w
    rw [hc2] at CN2
    have CN2 := Lib.hid CN2
    clear hs0 hs1 hs2 hc0 hc1 hc2
    go_enter Tryd.func5, Tryd.ntmps5
    go_wp2_with fail
    refine (SM0.out _).mono ?_
    rintro e w1 ⟨rfl, b1⟩
    have T0_1 := Lib.hid (T0_0.out.below b1)
    have c00 := T0_1.out.c0
    have c01 := T0_1.out.c1
    have c02 := T0_1.out.c2
    have T1_1 := Lib.hid (T1_0.out.below b1)
    have c10 := T1_1.out.c0
    have c11 := T1_1.out.c1
    have c12 := T1_1.out.c2
    have T2_1 := Lib.hid (T2_0.out.below b1)
    have c20 := T2_1.out.c0
    have c21 := T2_1.out.c1
    have c22 := T2_1.out.c2
    have B1 := Lib.hid (Below.step B0.out b1); clear b1
    go_wp2_with fail
    refine (SM1.out _).mono ?_
    rintro e w2 ⟨rfl, b2⟩
    clear c00 c01 c02 c10 c11 c12 c20 c21 c22
    have T0_2 := Lib.hid (T0_1.out.below b2)
    have c00 := T0_2.out.c0
    have c01 := T0_2.out.c1
    have c02 := T0_2.out.c2
    have T1_2 := Lib.hid (T1_1.out.below b2)
    have c10 := T1_2.out.c0
    have c11 := T1_2.out.c1
    have c12 := T1_2.out.c2
    have T2_2 := Lib.hid (T2_1.out.below b2)
    have c20 := T2_2.out.c0
    have c21 := T2_2.out.c1
    have c22 := T2_2.out.c2
    have B2 := Lib.hid (Below.step B1.out b2); clear b2
    go_wp2_with fail
    refine (SM2.out _).mono ?_
    rintro e w3 ⟨rfl, b3⟩
    clear c00 c01 c02 c10 c11 c12 c20 c21 c22
    have T0_3 := Lib.hid (T0_2.out.below b3)
    have c00 := T0_3.out.c0
    have c01 := T0_3.out.c1
    have c02 := T0_3.out.c2
    have T1_3 := Lib.hid (T1_2.out.below b3)
    have c10 := T1_3.out.c0
    have c11 := T1_3.out.c1
    have c12 := T1_3.out.c2
    have T2_3 := Lib.hid (T2_2.out.below b3)
    have c20 := T2_3.out.c0
    have c21 := T2_3.out.c1
    have c22 := T2_3.out.c2
    have B3 := Lib.hid (Below.step B2.out b3); clear b3
    go_wp2_with fail
    refine (CN0.out _).mono ?_
    rintro e w4 ⟨rfl, b4⟩
    clear c00 c01 c02 c10 c11 c12 c20 c21 c22
    have T0_4 := Lib.hid (T0_3.out.below b4)
    have c00 := T0_4.out.c0
    have c01 := T0_4.out.c1
    have c02 := T0_4.out.c2
    have T1_4 := Lib.hid (T1_3.out.below b4)
    have c10 := T1_4.out.c0
    have c11 := T1_4.out.c1
    have c12 := T1_4.out.c2
    have T2_4 := Lib.hid (T2_3.out.below b4)
    have c20 := T2_4.out.c0
    have c21 := T2_4.out.c1
    have c22 := T2_4.out.c2
    have B4 := Lib.hid (Below.step B3.out b4); clear b4
    go_wp2_with fail
    refine (CN1.out _).mono ?_
    rintro e w5 ⟨rfl, b5⟩
    clear c00 c01 c02 c10 c11 c12 c20 c21 c22
    have T0_5 := Lib.hid (T0_4.out.below b5)
    have c00 := T0_5.out.c0
    have c01 := T0_5.out.c1
    have c02 := T0_5.out.c2
    have T1_5 := Lib.hid (T1_4.out.below b5)
    have c10 := T1_5.out.c0
    have c11 := T1_5.out.c1
    have c12 := T1_5.out.c2
    have T2_5 := Lib.hid (T2_4.out.below b5)
    have c20 := T2_5.out.c0
    have c21 := T2_5.out.c1
    have c22 := T2_5.out.c2
    have B5 := Lib.hid (Below.step B4.out b5); clear b5
    go_wp2_with fail
    refine (CN2.out _).mono ?_
    rintro e w6 ⟨rfl, b6⟩
    clear c00 c01 c02 c10 c11 c12 c20 c21 c22
    have T0_6 := Lib.hid (T0_5.out.below b6)
    have c00 := T0_6.out.c0
    have c01 := T0_6.out.c1
    have c02 := T0_6.out.c2
    have T1_6 := Lib.hid (T1_5.out.below b6)
    have c10 := T1_6.out.c0
    have c11 := T1_6.out.c1
    have c12 := T1_6.out.c2
    have T2_6 := Lib.hid (T2_5.out.below b6)
    have c20 := T2_6.out.c0
    have c21 := T2_6.out.c1
    have c22 := T2_6.out.c2
    have B6 := Lib.hid (Below.step B5.out b6); clear b6
    go_wp2_with fail
    refine (LV.out _).mono ?_
    rintro e w7 ⟨rfl, b7⟩
    clear c00 c01 c02 c10 c11 c12 c20 c21 c22
    have B7 := Lib.hid (Below.step B6.out b7); clear b7
    go_wp2_with fail
    go_ret
    exact ⟨rfl, B7.out⟩
  have CN2 := fun w => refCan_any k2 n2 s2 (by omega) w
  rw [hc2] at CN2
  have CN2 := Lib.hid CN2
  clear hs0 hs1 hs2 hc0 hc1 hc2
  have hkind : (∃ x : Bool, (k0 == 2) = x ∧ (k1 == 2) = x ∧ (k2 == 2) = x) ∨ ((k0 == 2) = true ∧ (k1 == 2) = false) ∨ ((k0 == 2) = false ∧ (k1 == 2) = true) ∨ ((k0 == 2) = true ∧ (k1 == 2) = true ∧ (k2 == 2) = false) ∨ ((k0 == 2) = false ∧ (k1 == 2) = false ∧ (k2 == 2) = true) := by
    cases h0 : (k0 == 2) <;> cases h1 : (k1 == 2) <;> cases h2 : (k2 == 2) <;> simp
  rcases hkind with ⟨x, e0, e1, e2⟩ | ⟨e0, e1⟩ | ⟨e0, e1⟩ | ⟨e0, e1, e2⟩ | ⟨e0, e1, e2⟩
  case inr.inl =>
    go_enter Tryd.func5, Tryd.ntmps5
    go_wp2_with fail
    refine (SM0.out _).mono ?_
    rintro e w1 ⟨rfl, b1⟩
    have T0_1 := Lib.hid (T0_0.out.below b1)
    have c00 := T0_1.out.c0
    have c01 := T0_1.out.c1
    have c02 := T0_1.out.c2
    have T1_1 := Lib.hid (T1_0.out.below b1)
    have c10 := T1_1.out.c0
    have c11 := T1_1.out.c1
    have c12 := T1_1.out.c2
    have T2_1 := Lib.hid (T2_0.out.below b1)
    have c20 := T2_1.out.c0
    have c21 := T2_1.out.c1
    have c22 := T2_1.out.c2
    have B1 := Lib.hid (Below.step B0.out b1); clear b1
    go_wp2_with fail
    refine (SM1.out _).mono ?_
    rintro e w2 ⟨rfl, b2⟩
    clear c00 c01 c02 c10 c11 c12 c20 c21 c22
    have T0_2 := Lib.hid (T0_1.out.below b2)
    have c00 := T0_2.out.c0
    have c01 := T0_2.out.c1
    have c02 := T0_2.out.c2
    have T1_2 := Lib.hid (T1_1.out.below b2)
    have c10 := T1_2.out.c0
    have c11 := T1_2.out.c1
    have c12 := T1_2.out.c2
    have T2_2 := Lib.hid (T2_1.out.below b2)
    have c20 := T2_2.out.c0
    have c21 := T2_2.out.c1
    have c22 := T2_2.out.c2
    have B2 := Lib.hid (Below.step B1.out b2); clear b2
    go_wp2_with fail
    refine (SM2.out _).mono ?_
    rintro e w3 ⟨rfl, b3⟩
    clear c00 c01 c02 c10 c11 c12 c20 c21 c22
    have T0_3 := Lib.hid (T0_2.out.below b3)
    have c00 := T0_3.out.c0
    have c01 := T0_3.out.c1
    have c02 := T0_3.out.c2
    have T1_3 := Lib.hid (T1_2.out.below b3)
    have c10 := T1_3.out.c0
    have c11 := T1_3.out.c1
    have c12 := T1_3.out.c2
    have T2_3 := Lib.hid (T2_2.out.below b3)
    have c20 := T2_3.out.c0
    have c21 := T2_3.out.c1
    have c22 := T2_3.out.c2
    have B3 := Lib.hid (Below.step B2.out b3); clear b3
    go_wp2_with fail
    refine (CN0.out _).mono ?_
    rintro e w4 ⟨rfl, b4⟩
    clear c00 c01 c02 c10 c11 c12 c20 c21 c22
    have T0_4 := Lib.hid (T0_3.out.below b4)
    have c00 := T0_4.out.c0
    have c01 := T0_4.out.c1
    have c02 := T0_4.out.c2
    have T1_4 := Lib.hid (T1_3.out.below b4)
    have c10 := T1_4.out.c0
    have c11 := T1_4.out.c1
    have c12 := T1_4.out.c2
    have T2_4 := Lib.hid (T2_3.out.below b4)
    have c20 := T2_4.out.c0
    have c21 := T2_4.out.c1
    have c22 := T2_4.out.c2
    have B4 := Lib.hid (Below.step B3.out b4); clear b4
    go_wp2_with fail
    refine (CN1.out _).mono ?_
    rintro e w5 ⟨rfl, b5⟩
    clear c00 c01 c02 c10 c11 c12 c20 c21 c22
    have T0_5 := Lib.hid (T0_4.out.below b5)
    have c00 := T0_5.out.c0
    have c01 := T0_5.out.c1
    have c02 := T0_5.out.c2
    have T1_5 := Lib.hid (T1_4.out.below b5)
    have c10 := T1_5.out.c0
    have c11 := T1_5.out.c1
    have c12 := T1_5.out.c2
    have T2_5 := Lib.hid (T2_4.out.below b5)
    have c20 := T2_5.out.c0
    have c21 := T2_5.out.c1
    have c22 := T2_5.out.c2
    have B5 := Lib.hid (Below.step B4.out b5); clear b5
    go_wp2_with fail
    refine (CN2.out _).mono ?_
    rintro e w6 ⟨rfl, b6⟩
    clear c00 c01 c02 c10 c11 c12 c20 c21 c22
    have T0_6 := Lib.hid (T0_5.out.below b6)
    have c00 := T0_6.out.c0
    have c01 := T0_6.out.c1
    have c02 := T0_6.out.c2
    have T1_6 := Lib.hid (T1_5.out.below b6)
    have c10 := T1_6.out.c0
    have c11 := T1_6.out.c1
    have c12 := T1_6.out.c2
    have T2_6 := Lib.hid (T2_5.out.below b6)
    have c20 := T2_6.out.c0
    have c21 := T2_6.out.c1
    have c22 := T2_6.out.c2
    have B6 := Lib.hid (Below.step B5.out b6); clear b6
    go_wp2_with fail
    refine (LV.out _).mono ?_
    rintro e w7 ⟨rfl, b7⟩
    clear c00 c01 c02 c10 c11 c12 c20 c21 c22
    have B7 := Lib.hid (Below.step B6.out b7); clear b7
    go_wp2_with fail
    go_ret
    exact ⟨rfl, B7.out⟩
  case inr.inr.inl =>
    go_enter Tryd.func5, Tryd.ntmps5
    go_wp2_with fail
    refine (SM0.out _).mono ?_
    rintro e w1 ⟨rfl, b1⟩
    have T0_1 := Lib.hid (T0_0.out.below b1)
    have c00 := T0_1.out.c0
    have c01 := T0_1.out.c1
    have c02 := T0_1.out.c2
    have T1_1 := Lib.hid (T1_0.out.below b1)
    have c10 := T1_1.out.c0
    have c11 := T1_1.out.c1
    have c12 := T1_1.out.c2
    have T2_1 := Lib.hid (T2_0.out.below b1)
    have c20 := T2_1.out.c0
    have c21 := T2_1.out.c1
    have c22 := T2_1.out.c2
    have B1 := Lib.hid (Below.step B0.out b1); clear b1
    go_wp2_with fail
    refine (SM1.out _).mono ?_
    rintro e w2 ⟨rfl, b2⟩
    clear c00 c01 c02 c10 c11 c12 c20 c21 c22
    have T0_2 := Lib.hid (T0_1.out.below b2)
    have c00 := T0_2.out.c0
    have c01 := T0_2.out.c1
    have c02 := T0_2.out.c2
    have T1_2 := Lib.hid (T1_1.out.below b2)
    have c10 := T1_2.out.c0
    have c11 := T1_2.out.c1
    have c12 := T1_2.out.c2
    have T2_2 := Lib.hid (T2_1.out.below b2)
    have c20 := T2_2.out.c0
    have c21 := T2_2.out.c1
    have c22 := T2_2.out.c2
    have B2 := Lib.hid (Below.step B1.out b2); clear b2
    go_wp2_with fail
    refine (SM2.out _).mono ?_
    rintro e w3 ⟨rfl, b3⟩
    clear c00 c01 c02 c10 c11 c12 c20 c21 c22
    have T0_3 := Lib.hid (T0_2.out.below b3)
    have c00 := T0_3.out.c0
    have c01 := T0_3.out.c1
    have c02 := T0_3.out.c2
    have T1_3 := Lib.hid (T1_2.out.below b3)
    have c10 := T1_3.out.c0
    have c11 := T1_3.out.c1
    have c12 := T1_3.out.c2
    have T2_3 := Lib.hid (T2_2.out.below b3)
    have c20 := T2_3.out.c0
    have c21 := T2_3.out.c1
    have c22 := T2_3.out.c2
    have B3 := Lib.hid (Below.step B2.out b3); clear b3
    go_wp2_with fail
    refine (CN0.out _).mono ?_
    rintro e w4 ⟨rfl, b4⟩
    clear c00 c01 c02 c10 c11 c12 c20 c21 c22
    have T0_4 := Lib.hid (T0_3.out.below b4)
    have c00 := T0_4.out.c0
    have c01 := T0_4.out.c1
    have c02 := T0_4.out.c2
    have T1_4 := Lib.hid (T1_3.out.below b4)
    have c10 := T1_4.out.c0
    have c11 := T1_4.out.c1
    have c12 := T1_4.out.c2
    have T2_4 := Lib.hid (T2_3.out.below b4)
    have c20 := T2_4.out.c0
    have c21 := T2_4.out.c1
    have c22 := T2_4.out.c2
    have B4 := Lib.hid (Below.step B3.out b4); clear b4
    go_wp2_with fail
    refine (CN1.out _).mono ?_
    rintro e w5 ⟨rfl, b5⟩
    clear c00 c01 c02 c10 c11 c12 c20 c21 c22
    have T0_5 := Lib.hid (T0_4.out.below b5)
    have c00 := T0_5.out.c0
    have c01 := T0_5.out.c1
    have c02 := T0_5.out.c2
    have T1_5 := Lib.hid (T1_4.out.below b5)
    have c10 := T1_5.out.c0
    have c11 := T1_5.out.c1
    have c12 := T1_5.out.c2
    have T2_5 := Lib.hid (T2_4.out.below b5)
    have c20 := T2_5.out.c0
    have c21 := T2_5.out.c1
    have c22 := T2_5.out.c2
    have B5 := Lib.hid (Below.step B4.out b5); clear b5
    go_wp2_with fail
    refine (CN2.out _).mono ?_
    rintro e w6 ⟨rfl, b6⟩
    clear c00 c01 c02 c10 c11 c12 c20 c21 c22
    have T0_6 := Lib.hid (T0_5.out.below b6)
    have c00 := T0_6.out.c0
    have c01 := T0_6.out.c1
    have c02 := T0_6.out.c2
    have T1_6 := Lib.hid (T1_5.out.below b6)
    have c10 := T1_6.out.c0
    have c11 := T1_6.out.c1
    have c12 := T1_6.out.c2
    have T2_6 := Lib.hid (T2_5.out.below b6)
    have c20 := T2_6.out.c0
    have c21 := T2_6.out.c1
    have c22 := T2_6.out.c2
    have B6 := Lib.hid (Below.step B5.out b6); clear b6
    go_wp2_with fail
    refine (LV.out _).mono ?_
    rintro e w7 ⟨rfl, b7⟩
    clear c00 c01 c02 c10 c11 c12 c20 c21 c22
    have B7 := Lib.hid (Below.step B6.out b7); clear b7
    go_wp2_with fail
    go_ret
    exact ⟨rfl, B7.out⟩
  case inr.inr.inr.inl =>
    go_enter Tryd.func5, Tryd.ntmps5
    go_wp2_with fail
    refine (SM0.out _).mono ?_
    rintro e w1 ⟨rfl, b1⟩
    have T0_1 := Lib.hid (T0_0.out.below b1)
    have c00 := T0_1.out.c0
    have c01 := T0_1.out.c1
    have c02 := T0_1.out.c2
    have T1_1 := Lib.hid (T1_0.out.below b1)
    have c10 := T1_1.out.c0
    have c11 := T1_1.out.c1
    have c12 := T1_1.out.c2
    have T2_1 := Lib.hid (T2_0.out.below b1)
    have c20 := T2_1.out.c0
    have c21 := T2_1.out.c1
    have c22 := T2_1.out.c2
    have B1 := Lib.hid (Below.step B0.out b1); clear b1
    go_wp2_with fail
    refine (SM1.out _).mono ?_
    rintro e w2 ⟨rfl, b2⟩
    clear c00 c01 c02 c10 c11 c12 c20 c21 c22
    have T0_2 := Lib.hid (T0_1.out.below b2)
    have c00 := T0_2.out.c0
    have c01 := T0_2.out.c1
    have c02 := T0_2.out.c2
    have T1_2 := Lib.hid (T1_1.out.below b2)
    have c10 := T1_2.out.c0
    have c11 := T1_2.out.c1
    have c12 := T1_2.out.c2
    have T2_2 := Lib.hid (T2_1.out.below b2)
    have c20 := T2_2.out.c0
    have c21 := T2_2.out.c1
    have c22 := T2_2.out.c2
    have B2 := Lib.hid (Below.step B1.out b2); clear b2
    go_wp2_with fail
    refine (SM2.out _).mono ?_
    rintro e w3 ⟨rfl, b3⟩
    clear c00 c01 c02 c10 c11 c12 c20 c21 c22
    have T0_3 := Lib.hid (T0_2.out.below b3)
    have c00 := T0_3.out.c0
    have c01 := T0_3.out.c1
    have c02 := T0_3.out.c2
    have T1_3 := Lib.hid (T1_2.out.below b3)
    have c10 := T1_3.out.c0
    have c11 := T1_3.out.c1
    have c12 := T1_3.out.c2
    have T2_3 := Lib.hid (T2_2.out.below b3)
    have c20 := T2_3.out.c0
    have c21 := T2_3.out.c1
    have c22 := T2_3.out.c2
    have B3 := Lib.hid (Below.step B2.out b3); clear b3
    go_wp2_with fail
    refine (CN0.out _).mono ?_
    rintro e w4 ⟨rfl, b4⟩
    clear c00 c01 c02 c10 c11 c12 c20 c21 c22
    have T0_4 := Lib.hid (T0_3.out.below b4)
    have c00 := T0_4.out.c0
    have c01 := T0_4.out.c1
    have c02 := T0_4.out.c2
    have T1_4 := Lib.hid (T1_3.out.below b4)
    have c10 := T1_4.out.c0
    have c11 := T1_4.out.c1
    have c12 := T1_4.out.c2
    have T2_4 := Lib.hid (T2_3.out.below b4)
    have c20 := T2_4.out.c0
    have c21 := T2_4.out.c1
    have c22 := T2_4.out.c2
    have B4 := Lib.hid (Below.step B3.out b4); clear b4
    go_wp2_with fail
    refine (CN1.out _).mono ?_
    rintro e w5 ⟨rfl, b5⟩
    clear c00 c01 c02 c10 c11 c12 c20 c21 c22
    have T0_5 := Lib.hid (T0_4.out.below b5)
    have c00 := T0_5.out.c0
    have c01 := T0_5.out.c1
    have c02 := T0_5.out.c2
    have T1_5 := Lib.hid (T1_4.out.below b5)
    have c10 := T1_5.out.c0
    have c11 := T1_5.out.c1
    have c12 := T1_5.out.c2
    have T2_5 := Lib.hid (T2_4.out.below b5)
    have c20 := T2_5.out.c0
    have c21 := T2_5.out.c1
    have c22 := T2_5.out.c2
    have B5 := Lib.hid (Below.step B4.out b5); clear b5
    go_wp2_with fail
    refine (CN2.out _).mono ?_
    rintro e w6 ⟨rfl, b6⟩
    clear c00 c01 c02 c10 c11 c12 c20 c21 c22
    have T0_6 := Lib.hid (T0_5.out.below b6)
    have c00 := T0_6.out.c0
    have c01 := T0_6.out.c1
    have c02 := T0_6.out.c2
    have T1_6 := Lib.hid (T1_5.out.below b6)
    have c10 := T1_6.out.c0
    have c11 := T1_6.out.c1
    have c12 := T1_6.out.c2
    have T2_6 := Lib.hid (T2_5.out.below b6)
    have c20 := T2_6.out.c0
    have c21 := T2_6.out.c1
    have c22 := T2_6.out.c2
    have B6 := Lib.hid (Below.step B5.out b6); clear b6
    go_wp2_with fail
    refine (LV.out _).mono ?_
    rintro e w7 ⟨rfl, b7⟩
    clear c00 c01 c02 c10 c11 c12 c20 c21 c22
    have B7 := Lib.hid (Below.step B6.out b7); clear b7
    go_wp2_with fail
    go_ret
    exact ⟨rfl, B7.out⟩
  case inr.inr.inr.inr =>
    go_enter Tryd.func5, Tryd.ntmps5
    go_wp2_with fail
    refine (SM0.out _).mono ?_
    rintro e w1 ⟨rfl, b1⟩
    have T0_1 := Lib.hid (T0_0.out.below b1)
    have c00 := T0_1.out.c0
    have c01 := T0_1.out.c1
    have c02 := T0_1.out.c2
    have T1_1 := Lib.hid (T1_0.out.below b1)
    have c10 := T1_1.out.c0
    have c11 := T1_1.out.c1
    have c12 := T1_1.out.c2
    have T2_1 := Lib.hid (T2_0.out.below b1)
    have c20 := T2_1.out.c0
    have c21 := T2_1.out.c1
    have c22 := T2_1.out.c2
    have B1 := Lib.hid (Below.step B0.out b1); clear b1
    go_wp2_with fail
    refine (SM1.out _).mono ?_
    rintro e w2 ⟨rfl, b2⟩
    clear c00 c01 c02 c10 c11 c12 c20 c21 c22
    have T0_2 := Lib.hid (T0_1.out.below b2)
    have c00 := T0_2.out.c0
    have c01 := T0_2.out.c1
    have c02 := T0_2.out.c2
    have T1_2 := Lib.hid (T1_1.out.below b2)
    have c10 := T1_2.out.c0
    have c11 := T1_2.out.c1
    have c12 := T1_2.out.c2
    have T2_2 := Lib.hid (T2_1.out.below b2)
    have c20 := T2_2.out.c0
    have c21 := T2_2.out.c1
    have c22 := T2_2.out.c2
    have B2 := Lib.hid (Below.step B1.out b2); clear b2
    go_wp2_with fail
    refine (SM2.out _).mono ?_
    rintro e w3 ⟨rfl, b3⟩
    clear c00 c01 c02 c10 c11 c12 c20 c21 c22
    have T0_3 := Lib.hid (T0_2.out.below b3)
    have c00 := T0_3.out.c0
    have c01 := T0_3.out.c1
    have c02 := T0_3.out.c2
    have T1_3 := Lib.hid (T1_2.out.below b3)
    have c10 := T1_3.out.c0
    have c11 := T1_3.out.c1
    have c12 := T1_3.out.c2
    have T2_3 := Lib.hid (T2_2.out.below b3)
    have c20 := T2_3.out.c0
    have c21 := T2_3.out.c1
    have c22 := T2_3.out.c2
    have B3 := Lib.hid (Below.step B2.out b3); clear b3
    go_wp2_with fail
    refine (CN0.out _).mono ?_
    rintro e w4 ⟨rfl, b4⟩
    clear c00 c01 c02 c10 c11 c12 c20 c21 c22
    have T0_4 := Lib.hid (T0_3.out.below b4)
    have c00 := T0_4.out.c0
    have c01 := T0_4.out.c1
    have c02 := T0_4.out.c2
    have T1_4 := Lib.hid (T1_3.out.below b4)
    have c10 := T1_4.out.c0
    have c11 := T1_4.out.c1
    have c12 := T1_4.out.c2
    have T2_4 := Lib.hid (T2_3.out.below b4)
    have c20 := T2_4.out.c0
    have c21 := T2_4.out.c1
    have c22 := T2_4.out.c2
    have B4 := Lib.hid (Below.step B3.out b4); clear b4
    go_wp2_with fail
    refine (CN1.out _).mono ?_
    rintro e w5 ⟨rfl, b5⟩
    clear c00 c01 c02 c10 c11 c12 c20 c21 c22
    have T0_5 := Lib.hid (T0_4.out.below b5)
    have c00 := T0_5.out.c0
    have c01 := T0_5.out.c1
    have c02 := T0_5.out.c2
    have T1_5 := Lib.hid (T1_4.out.below b5)
    have c10 := T1_5.out.c0
    have c11 := T1_5.out.c1
    have c12 := T1_5.out.c2
    have T2_5 := Lib.hid (T2_4.out.below b5)
    have c20 := T2_5.out.c0
    have c21 := T2_5.out.c1
    have c22 := T2_5.out.c2
    have B5 := Lib.hid (Below.step B4.out b5); clear b5
    go_wp2_with fail
    refine (CN2.out _).mono ?_
    rintro e w6 ⟨rfl, b6⟩
    clear c00 c01 c02 c10 c11 c12 c20 c21 c22
    have T0_6 := Lib.hid (T0_5.out.below b6)
    have c00 := T0_6.out.c0
    have c01 := T0_6.out.c1
    have c02 := T0_6.out.c2
    have T1_6 := Lib.hid (T1_5.out.below b6)
    have c10 := T1_6.out.c0
    have c11 := T1_6.out.c1
    have c12 := T1_6.out.c2
    have T2_6 := Lib.hid (T2_5.out.below b6)
    have c20 := T2_6.out.c0
    have c21 := T2_6.out.c1
    have c22 := T2_6.out.c2
    have B6 := Lib.hid (Below.step B5.out b6); clear b6
    go_wp2_with fail
    refine (LV.out _).mono ?_
    rintro e w7 ⟨rfl, b7⟩
    clear c00 c01 c02 c10 c11 c12 c20 c21 c22
    have B7 := Lib.hid (Below.step B6.out b7); clear b7
    go_wp2_with fail
    go_ret
    exact ⟨rfl, B7.out⟩
  have h12 : k0 = 2 ↔ k1 = 2 := (beq_iff_eq (a := k0)).symm.trans ((by rw [e0, e1] : (k0 == 2) = true ↔ (k1 == 2) = true).trans beq_iff_eq)
  have h13 : k0 = 2 ↔ k2 = 2 := (beq_iff_eq (a := k0)).symm.trans ((by rw [e0, e2] : (k0 == 2) = true ↔ (k2 == 2) = true).trans beq_iff_eq)
  have TR := fun a b => cmpC_trans (n := n0) (s := s0) (n' := n1) (s' := s1) (n2 := n2) (s2 := s2) h12 h13 a b
  have C1 := Lib.hid (fun w => compare_cell k0 n0 s0 k1 n1 s1 hn0 hn1 w)
  have C2 := Lib.hid (fun w => compare_cell k1 n1 s1 k2 n2 s2 hn1 hn2 w)
  have C3 := Lib.hid (fun w => compare_cell k0 n0 s0 k2 n2 s2 hn0 hn2 w)
  obtain ⟨X1, hX1⟩ : ∃ Y, cmpC k0 n0 s0 k1 n1 s1 = Y := ⟨_, rfl⟩
  obtain ⟨X2, hX2⟩ : ∃ Y, cmpC k1 n1 s1 k2 n2 s2 = Y := ⟨_, rfl⟩
  obtain ⟨X3, hX3⟩ : ∃ Y, cmpC k0 n0 s0 k2 n2 s2 = Y := ⟨_, rfl⟩
  rw [hX1] at C1
  rw [hX2] at C2
  rw [hX3] at C3
  rw [hX1, hX2, hX3] at TR
  clear hX1 hX2 hX3 h12 h13 hn0 hn1 hn2
  by_cases g1 : 0 < X1
  case pos =>
    clear TR
    go_enter Tryd.func5, Tryd.ntmps5
    go_wp2_with fail
    refine (SM0.out _).mono ?_
    rintro e w1 ⟨rfl, b1⟩
    have T0_1 := Lib.hid (T0_0.out.below b1)
    have c00 := T0_1.out.c0
    have c01 := T0_1.out.c1
    have c02 := T0_1.out.c2
    have T1_1 := Lib.hid (T1_0.out.below b1)
    have c10 := T1_1.out.c0
    have c11 := T1_1.out.c1
    have c12 := T1_1.out.c2
    have T2_1 := Lib.hid (T2_0.out.below b1)
    have c20 := T2_1.out.c0
    have c21 := T2_1.out.c1
    have c22 := T2_1.out.c2
    have B1 := Lib.hid (Below.step B0.out b1); clear b1
    go_wp2_with fail
    refine (SM1.out _).mono ?_
    rintro e w2 ⟨rfl, b2⟩
    clear c00 c01 c02 c10 c11 c12 c20 c21 c22
    have T0_2 := Lib.hid (T0_1.out.below b2)
    have c00 := T0_2.out.c0
    have c01 := T0_2.out.c1
    have c02 := T0_2.out.c2
    have T1_2 := Lib.hid (T1_1.out.below b2)
    have c10 := T1_2.out.c0
    have c11 := T1_2.out.c1
    have c12 := T1_2.out.c2
    have T2_2 := Lib.hid (T2_1.out.below b2)
    have c20 := T2_2.out.c0
    have c21 := T2_2.out.c1
    have c22 := T2_2.out.c2
    have B2 := Lib.hid (Below.step B1.out b2); clear b2
    go_wp2_with fail
    refine (SM2.out _).mono ?_
    rintro e w3 ⟨rfl, b3⟩
    clear c00 c01 c02 c10 c11 c12 c20 c21 c22
    have T0_3 := Lib.hid (T0_2.out.below b3)
    have c00 := T0_3.out.c0
    have c01 := T0_3.out.c1
    have c02 := T0_3.out.c2
    have T1_3 := Lib.hid (T1_2.out.below b3)
    have c10 := T1_3.out.c0
    have c11 := T1_3.out.c1
    have c12 := T1_3.out.c2
    have T2_3 := Lib.hid (T2_2.out.below b3)
    have c20 := T2_3.out.c0
    have c21 := T2_3.out.c1
    have c22 := T2_3.out.c2
    have B3 := Lib.hid (Below.step B2.out b3); clear b3
    go_wp2_with fail
    refine (CN0.out _).mono ?_
    rintro e w4 ⟨rfl, b4⟩
    clear c00 c01 c02 c10 c11 c12 c20 c21 c22
    have T0_4 := Lib.hid (T0_3.out.below b4)
    have c00 := T0_4.out.c0
    have c01 := T0_4.out.c1
    have c02 := T0_4.out.c2
    have T1_4 := Lib.hid (T1_3.out.below b4)
    have c10 := T1_4.out.c0
    have c11 := T1_4.out.c1
    have c12 := T1_4.out.c2
    have T2_4 := Lib.hid (T2_3.out.below b4)
    have c20 := T2_4.out.c0
    have c21 := T2_4.out.c1
    have c22 := T2_4.out.c2
    have B4 := Lib.hid (Below.step B3.out b4); clear b4
    go_wp2_with fail
    refine (CN1.out _).mono ?_
    rintro e w5 ⟨rfl, b5⟩
    clear c00 c01 c02 c10 c11 c12 c20 c21 c22
    have T0_5 := Lib.hid (T0_4.out.below b5)
    have c00 := T0_5.out.c0
    have c01 := T0_5.out.c1
    have c02 := T0_5.out.c2
    have T1_5 := Lib.hid (T1_4.out.below b5)
    have c10 := T1_5.out.c0
    have c11 := T1_5.out.c1
    have c12 := T1_5.out.c2
    have T2_5 := Lib.hid (T2_4.out.below b5)
    have c20 := T2_5.out.c0
    have c21 := T2_5.out.c1
    have c22 := T2_5.out.c2
    have B5 := Lib.hid (Below.step B4.out b5); clear b5
    go_wp2_with fail
    refine (CN2.out _).mono ?_
    rintro e w6 ⟨rfl, b6⟩
    clear c00 c01 c02 c10 c11 c12 c20 c21 c22
    have T0_6 := Lib.hid (T0_5.out.below b6)
    have c00 := T0_6.out.c0
    have c01 := T0_6.out.c1
    have c02 := T0_6.out.c2
    have T1_6 := Lib.hid (T1_5.out.below b6)
    have c10 := T1_6.out.c0
    have c11 := T1_6.out.c1
    have c12 := T1_6.out.c2
    have T2_6 := Lib.hid (T2_5.out.below b6)
    have c20 := T2_6.out.c0
    have c21 := T2_6.out.c1
    have c22 := T2_6.out.c2
    have B6 := Lib.hid (Below.step B5.out b6); clear b6
    go_wp2_with fail
    refine (C1.out _).mono ?_
    rintro e w7 ⟨rfl, b7⟩
    clear c00 c01 c02 c10 c11 c12 c20 c21 c22
    have T0_7 := Lib.hid (T0_6.out.below b7)
    have c00 := T0_7.out.c0
    have c01 := T0_7.out.c1
    have c02 := T0_7.out.c2
    have T1_7 := Lib.hid (T1_6.out.below b7)
    have c10 := T1_7.out.c0
    have c11 := T1_7.out.c1
    have c12 := T1_7.out.c2
    have T2_7 := Lib.hid (T2_6.out.below b7)
    have c20 := T2_7.out.c0
    have c21 := T2_7.out.c1
    have c22 := T2_7.out.c2
    have B7 := Lib.hid (Below.step B6.out b7); clear b7
    go_wp2_with fail
    refine (LV.out _).mono ?_
    rintro e w8 ⟨rfl, b8⟩
    clear c00 c01 c02 c10 c11 c12 c20 c21 c22
    have B8 := Lib.hid (Below.step B7.out b8); clear b8
    go_wp2_with fail
    go_ret
    exact ⟨rfl, B8.out⟩
  by_cases g2 : 0 < X2
  case pos =>
    clear TR
    go_enter Tryd.func5, Tryd.ntmps5
    go_wp2_with fail
    refine (SM0.out _).mono ?_
    rintro e w1 ⟨rfl, b1⟩
    have T0_1 := Lib.hid (T0_0.out.below b1)
    have c00 := T0_1.out.c0
    have c01 := T0_1.out.c1
    have c02 := T0_1.out.c2
    have T1_1 := Lib.hid (T1_0.out.below b1)
    have c10 := T1_1.out.c0
    have c11 := T1_1.out.c1
    have c12 := T1_1.out.c2
    have T2_1 := Lib.hid (T2_0.out.below b1)
    have c20 := T2_1.out.c0
    have c21 := T2_1.out.c1
    have c22 := T2_1.out.c2
    have B1 := Lib.hid (Below.step B0.out b1); clear b1
    go_wp2_with fail
    refine (SM1.out _).mono ?_
    rintro e w2 ⟨rfl, b2⟩
    clear c00 c01 c02 c10 c11 c12 c20 c21 c22
    have T0_2 := Lib.hid (T0_1.out.below b2)
    have c00 := T0_2.out.c0
    have c01 := T0_2.out.c1
    have c02 := T0_2.out.c2
    have T1_2 := Lib.hid (T1_1.out.below b2)
    have c10 := T1_2.out.c0
    have c11 := T1_2.out.c1
    have c12 := T1_2.out.c2
    have T2_2 := Lib.hid (T2_1.out.below b2)
    have c20 := T2_2.out.c0
    have c21 := T2_2.out.c1
    have c22 := T2_2.out.c2
    have B2 := Lib.hid (Below.step B1.out b2); clear b2
    go_wp2_with fail
    refine (SM2.out _).mono ?_
    rintro e w3 ⟨rfl, b3⟩
    clear c00 c01 c02 c10 c11 c12 c20 c21 c22
    have T0_3 := Lib.hid (T0_2.out.below b3)
    have c00 := T0_3.out.c0
    have c01 := T0_3.out.c1
    have c02 := T0_3.out.c2
    have T1_3 := Lib.hid (T1_2.out.below b3)
    have c10 := T1_3.out.c0
    have c11 := T1_3.out.c1
    have c12 := T1_3.out.c2
    have T2_3 := Lib.hid (T2_2.out.below b3)
    have c20 := T2_3.out.c0
    have c21 := T2_3.out.c1
    have c22 := T2_3.out.c2
    have B3 := Lib.hid (Below.step B2.out b3); clear b3
    go_wp2_with fail
    refine (CN0.out _).mono ?_
    rintro e w4 ⟨rfl, b4⟩
    clear c00 c01 c02 c10 c11 c12 c20 c21 c22
    have T0_4 := Lib.hid (T0_3.out.below b4)
    have c00 := T0_4.out.c0
    have c01 := T0_4.out.c1
    have c02 := T0_4.out.c2
    have T1_4 := Lib.hid (T1_3.out.below b4)
    have c10 := T1_4.out.c0
    have c11 := T1_4.out.c1
    have c12 := T1_4.out.c2
    have T2_4 := Lib.hid (T2_3.out.below b4)
    have c20 := T2_4.out.c0
    have c21 := T2_4.out.c1
    have c22 := T2_4.out.c2
    have B4 := Lib.hid (Below.step B3.out b4); clear b4
    go_wp2_with fail
    refine (CN1.out _).mono ?_
    rintro e w5 ⟨rfl, b5⟩
    clear c00 c01 c02 c10 c11 c12 c20 c21 c22
    have T0_5 := Lib.hid (T0_4.out.below b5)
    have c00 := T0_5.out.c0
    have c01 := T0_5.out.c1
    have c02 := T0_5.out.c2
    have T1_5 := Lib.hid (T1_4.out.below b5)
    have c10 := T1_5.out.c0
    have c11 := T1_5.out.c1
    have c12 := T1_5.out.c2
    have T2_5 := Lib.hid (T2_4.out.below b5)
    have c20 := T2_5.out.c0
    have c21 := T2_5.out.c1
    have c22 := T2_5.out.c2
    have B5 := Lib.hid (Below.step B4.out b5); clear b5
    go_wp2_with fail
    refine (CN2.out _).mono ?_
    rintro e w6 ⟨rfl, b6⟩
    clear c00 c01 c02 c10 c11 c12 c20 c21 c22
    have T0_6 := Lib.hid (T0_5.out.below b6)
    have c00 := T0_6.out.c0
    have c01 := T0_6.out.c1
    have c02 := T0_6.out.c2
    have T1_6 := Lib.hid (T1_5.out.below b6)
    have c10 := T1_6.out.c0
    have c11 := T1_6.out.c1
    have c12 := T1_6.out.c2
    have T2_6 := Lib.hid (T2_5.out.below b6)
    have c20 := T2_6.out.c0
    have c21 := T2_6.out.c1
    have c22 := T2_6.out.c2
    have B6 := Lib.hid (Below.step B5.out b6); clear b6
    go_wp2_with fail
    refine (C1.out _).mono ?_
    rintro e w7 ⟨rfl, b7⟩
    clear c00 c01 c02 c10 c11 c12 c20 c21 c22
    have T0_7 := Lib.hid (T0_6.out.below b7)
    have c00 := T0_7.out.c0
    have c01 := T0_7.out.c1
    have c02 := T0_7.out.c2
    have T1_7 := Lib.hid (T1_6.out.below b7)
    have c10 := T1_7.out.c0
    have c11 := T1_7.out.c1
    have c12 := T1_7.out.c2
    have T2_7 := Lib.hid (T2_6.out.below b7)
    have c20 := T2_7.out.c0
    have c21 := T2_7.out.c1
    have c22 := T2_7.out.c2
    have B7 := Lib.hid (Below.step B6.out b7); clear b7
    go_wp2_with fail
    refine (C2.out _).mono ?_
    rintro e w8 ⟨rfl, b8⟩
    clear c00 c01 c02 c10 c11 c12 c20 c21 c22
    have T0_8 := Lib.hid (T0_7.out.below b8)
    have c00 := T0_8.out.c0
    have c01 := T0_8.out.c1
    have c02 := T0_8.out.c2
    have T1_8 := Lib.hid (T1_7.out.below b8)
    have c10 := T1_8.out.c0
    have c11 := T1_8.out.c1
    have c12 := T1_8.out.c2
    have T2_8 := Lib.hid (T2_7.out.below b8)
    have c20 := T2_8.out.c0
    have c21 := T2_8.out.c1
    have c22 := T2_8.out.c2
    have B8 := Lib.hid (Below.step B7.out b8); clear b8
    go_wp2_with fail
    refine (LV.out _).mono ?_
    rintro e w9 ⟨rfl, b9⟩
    clear c00 c01 c02 c10 c11 c12 c20 c21 c22
    have B9 := Lib.hid (Below.step B8.out b9); clear b9
    go_wp2_with fail
    go_ret
    exact ⟨rfl, B9.out⟩
  have g3 : X3 ≤ 0 := TR (by omega) (by omega)
  clear TR
  go_enter Tryd.func5, Tryd.ntmps5
  go_wp2_with fail
  refine (SM0.out _).mono ?_
  rintro e w1 ⟨rfl, b1⟩
  have T0_1 := Lib.hid (T0_0.out.below b1)
  have c00 := T0_1.out.c0
  have c01 := T0_1.out.c1
  have c02 := T0_1.out.c2
  have T1_1 := Lib.hid (T1_0.out.below b1)
  have c10 := T1_1.out.c0
  have c11 := T1_1.out.c1
  have c12 := T1_1.out.c2
  have T2_1 := Lib.hid (T2_0.out.below b1)
  have c20 := T2_1.out.c0
  have c21 := T2_1.out.c1
  have c22 := T2_1.out.c2
  have B1 := Lib.hid (Below.step B0.out b1); clear b1
  go_wp2_with fail
  refine (SM1.out _).mono ?_
  rintro e w2 ⟨rfl, b2⟩
  clear c00 c01 c02 c10 c11 c12 c20 c21 c22
  have T0_2 := Lib.hid (T0_1.out.below b2)
  have c00 := T0_2.out.c0
  have c01 := T0_2.out.c1
  have c02 := T0_2.out.c2
  have T1_2 := Lib.hid (T1_1.out.below b2)
  have c10 := T1_2.out.c0
  have c11 := T1_2.out.c1
  have c12 := T1_2.out.c2
  have T2_2 := Lib.hid (T2_1.out.below b2)
  have c20 := T2_2.out.c0
  have c21 := T2_2.out.c1
  have c22 := T2_2.out.c2
  have B2 := Lib.hid (Below.step B1.out b2); clear b2
  go_wp2_with fail
  refine (SM2.out _).mono ?_
  rintro e w3 ⟨rfl, b3⟩
  clear c00 c01 c02 c10 c11 c12 c20 c21 c22
  have T0_3 := Lib.hid (T0_2.out.below b3)
  have c00 := T0_3.out.c0
  have c01 := T0_3.out.c1
  have c02 := T0_3.out.c2
  have T1_3 := Lib.hid (T1_2.out.below b3)
  have c10 := T1_3.out.c0
  have c11 := T1_3.out.c1
  have c12 := T1_3.out.c2
  have T2_3 := Lib.hid (T2_2.out.below b3)
  have c20 := T2_3.out.c0
  have c21 := T2_3.out.c1
  have c22 := T2_3.out.c2
  have B3 := Lib.hid (Below.step B2.out b3); clear b3
  go_wp2_with fail
  refine (CN0.out _).mono ?_
  rintro e w4 ⟨rfl, b4⟩
  clear c00 c01 c02 c10 c11 c12 c20 c21 c22
  have T0_4 := Lib.hid (T0_3.out.below b4)
  have c00 := T0_4.out.c0
  have c01 := T0_4.out.c1
  have c02 := T0_4.out.c2
  have T1_4 := Lib.hid (T1_3.out.below b4)
  have c10 := T1_4.out.c0
  have c11 := T1_4.out.c1
  have c12 := T1_4.out.c2
  have T2_4 := Lib.hid (T2_3.out.below b4)
  have c20 := T2_4.out.c0
  have c21 := T2_4.out.c1
  have c22 := T2_4.out.c2
  have B4 := Lib.hid (Below.step B3.out b4); clear b4
  go_wp2_with fail
  refine (CN1.out _).mono ?_
  rintro e w5 ⟨rfl, b5⟩
  clear c00 c01 c02 c10 c11 c12 c20 c21 c22
  have T0_5 := Lib.hid (T0_4.out.below b5)
  have c00 := T0_5.out.c0
  have c01 := T0_5.out.c1
  have c02 := T0_5.out.c2
  have T1_5 := Lib.hid (T1_4.out.below b5)
  have c10 := T1_5.out.c0
  have c11 := T1_5.out.c1
  have c12 := T1_5.out.c2
  have T2_5 := Lib.hid (T2_4.out.below b5)
  have c20 := T2_5.out.c0
  have c21 := T2_5.out.c1
  have c22 := T2_5.out.c2
  have B5 := Lib.hid (Below.step B4.out b5); clear b5
  go_wp2_with fail
  refine (CN2.out _).mono ?_
  rintro e w6 ⟨rfl, b6⟩
  clear c00 c01 c02 c10 c11 c12 c20 c21 c22
  have T0_6 := Lib.hid (T0_5.out.below b6)
  have c00 := T0_6.out.c0
  have c01 := T0_6.out.c1
  have c02 := T0_6.out.c2
  have T1_6 := Lib.hid (T1_5.out.below b6)
  have c10 := T1_6.out.c0
  have c11 := T1_6.out.c1
  have c12 := T1_6.out.c2
  have T2_6 := Lib.hid (T2_5.out.below b6)
  have c20 := T2_6.out.c0
  have c21 := T2_6.out.c1
  have c22 := T2_6.out.c2
  have B6 := Lib.hid (Below.step B5.out b6); clear b6
  go_wp2_with fail
  refine (C1.out _).mono ?_
  rintro e w7 ⟨rfl, b7⟩
  clear c00 c01 c02 c10 c11 c12 c20 c21 c22
  have T0_7 := Lib.hid (T0_6.out.below b7)
  have c00 := T0_7.out.c0
  have c01 := T0_7.out.c1
  have c02 := T0_7.out.c2
  have T1_7 := Lib.hid (T1_6.out.below b7)
  have c10 := T1_7.out.c0
  have c11 := T1_7.out.c1
  have c12 := T1_7.out.c2
  have T2_7 := Lib.hid (T2_6.out.below b7)
  have c20 := T2_7.out.c0
  have c21 := T2_7.out.c1
  have c22 := T2_7.out.c2
  have B7 := Lib.hid (Below.step B6.out b7); clear b7
  go_wp2_with fail
  refine (C2.out _).mono ?_
  rintro e w8 ⟨rfl, b8⟩
  clear c00 c01 c02 c10 c11 c12 c20 c21 c22
  have T0_8 := Lib.hid (T0_7.out.below b8)
  have c00 := T0_8.out.c0
  have c01 := T0_8.out.c1
  have c02 := T0_8.out.c2
  have T1_8 := Lib.hid (T1_7.out.below b8)
  have c10 := T1_8.out.c0
  have c11 := T1_8.out.c1
  have c12 := T1_8.out.c2
  have T2_8 := Lib.hid (T2_7.out.below b8)
  have c20 := T2_8.out.c0
  have c21 := T2_8.out.c1
  have c22 := T2_8.out.c2
  have B8 := Lib.hid (Below.step B7.out b8); clear b8
  go_wp2_with fail
  refine (C3.out _).mono ?_
  rintro e w9 ⟨rfl, b9⟩
  clear c00 c01 c02 c10 c11 c12 c20 c21 c22
  have T0_9 := Lib.hid (T0_8.out.below b9)
  have c00 := T0_9.out.c0
  have c01 := T0_9.out.c1
  have c02 := T0_9.out.c2
  have T1_9 := Lib.hid (T1_8.out.below b9)
  have c10 := T1_9.out.c0
  have c11 := T1_9.out.c1
  have c12 := T1_9.out.c2
  have T2_9 := Lib.hid (T2_8.out.below b9)
  have c20 := T2_9.out.c0
  have c21 := T2_9.out.c1
  have c22 := T2_9.out.c2
  have B9 := Lib.hid (Below.step B8.out b9); clear b9
  go_wp2_with fail
  refine (LV.out _).mono ?_
  rintro e w10 ⟨rfl, b10⟩
  clear c00 c01 c02 c10 c11 c12 c20 c21 c22
  have B10 := Lib.hid (Below.step B9.out b10); clear b10
  go_wp2_with fail
  go_ret
  exact ⟨rfl, B10.out⟩

theorem laid_met (os : Os) : laidMet Tryd.prog Rows.cellOrdersRow.laid ((laidWorld os).forCall (fun _ _ => 0) ⟨#[], #[.agg #[.int .i64 0, .int .i64 0, .string ⟨#[]⟩], .agg #[.int .i64 0, .int .i64 0, .string ⟨#[]⟩], .agg #[.int .i64 0, .int .i64 0, .string ⟨#[]⟩]], []⟩).memory :=
  laidMet_of_run' 8 (by kernel_rfl) (by kernel_rfl)
theorem reads (os : Os) {H : Type} (enc : TypeId × Value → H) : ∃ places, DataW.whole enc Tryd.prog ((laidWorld os).forCall (fun _ _ => 0) ⟨#[], #[.agg #[.int .i64 0, .int .i64 0, .string ⟨#[]⟩], .agg #[.int .i64 0, .int .i64 0, .string ⟨#[]⟩], .agg #[.int .i64 0, .int .i64 0, .string ⟨#[]⟩]], []⟩).memory Tryd.f5.params.toList Rows.cellOrdersSpec.vars false #[.agg #[.int .i64 0, .int .i64 0, .string ⟨#[]⟩], .agg #[.int .i64 0, .int .i64 0, .string ⟨#[]⟩], .agg #[.int .i64 0, .int .i64 0, .string ⟨#[]⟩]].toList 8 = some ([.agg [.lit (.int .i64 0), .lit (.int .i64 0), .lit (.string [])], .agg [.lit (.int .i64 0), .lit (.int .i64 0), .lit (.string [])], .agg [.lit (.int .i64 0), .lit (.int .i64 0), .lit (.string [])]], [], places) :=
  ⟨[], by kernel_rfl⟩

set_option maxRecDepth 100000 in
theorem lifted (os : Os) (started : os.Started) (H : Type) (enc : TypeId × Value → H) (F : Stop.Interp) :
    ReturnsInHanded {} Tryd.checked os 5 .any ((OpenSpec.ofChange Rows.cellOrdersSpec).preRow enc Tryd.prog Tryd.f5 Rows.cellOrdersRow.domain false Rows.cellOrdersRow.laid) (((OpenSpec.ofChange Rows.cellOrdersSpec).at F).post enc Tryd.prog Tryd.f5 false true false false) := by
  obtain ⟨places, hx⟩ := reads os enc
  refine returnsInHanded_of_row (C := Tryd.checked) (s := (OpenSpec.ofChange Rows.cellOrdersSpec)) own started (by kernel_rfl) Tryd.func5
    (witness_row_at (enc := enc) (C := Tryd.checked) false (laidWorld os) #[.agg #[.int .i64 0, .int .i64 0, .string ⟨#[]⟩], .agg #[.int .i64 0, .int .i64 0, .string ⟨#[]⟩], .agg #[.int .i64 0, .int .i64 0, .string ⟨#[]⟩]] rfl (by kernel_rfl) (by kernel_rfl) (by kernel_rfl)
      (OpenSpec.preRow_of_cond 8 hx (by kernel_rfl) (fun k hk => by cases hk) (by kernel_rfl) (laid_met os))) ?_
  intro W base args ds gs before hval0 hW _ _ _ _ _ _
  have hval : ∀ (j : Nat) t v, Tryd.f5.params[j]? = some t → args[j]? = some v → Value.okWide Tryd.prog W .any base t v := hval0
  have hW' := hW
  obtain ⟨p, q, hA0, hV, rfl, hfz, hnd⟩ := hW
  have hA : DataW.TrodAll enc Tryd.prog W 0 (fun _ => true) true Tryd.f5.params.toList args.toList ds p := hA0
  rw [Tryd.params5] at hA hval
  obtain ⟨v0, vs0, d0, ds0, p0, q0, hargs, rfl, rfl, h0, r0⟩ := trodAll_cons hA
  obtain ⟨v1, vs1, d1, ds1, p1, q1, rfl, rfl, rfl, h1, r1⟩ := trodAll_cons r0
  obtain ⟨v2, vs2, d2, ds2, p2, q2, rfl, rfl, rfl, h2, r2⟩ := trodAll_cons r1
  obtain ⟨rfl, rfl, rfl⟩ := trodAll_nil r2
  obtain rfl : args = #[v0, v1, v2] := by cases args; simp_all
  obtain ⟨rfl, rfl⟩ := trodVars_none hV
  obtain ⟨k0, n0, s0, rfl, rfl, rfl, wk0, wn0, ws0⟩ := open_cell (hval 0 24 v0 rfl rfl) h0
  obtain ⟨k1, n1, s1, rfl, rfl, rfl, wk1, wn1, ws1⟩ := open_cell (hval 1 24 v1 rfl rfl) h1
  obtain ⟨k2, n2, s2, rfl, rfl, rfl, wk2, wn2, ws2⟩ := open_cell (hval 2 24 v2 rfl rfl) h2
  clear hA0 hval0
  simp only [List.append_nil] at hW'
  refine (walk k0 n0 s0 k1 n1 s1 k2 n2 s2 (wf_fits wn0) (wf_fits wn1) (wf_fits wn2) W).mono fun e W' ⟨he, hg⟩ => ?_
  subst he
  exact ⟨_, rfl, post_bare hW' (fun _ _ _ => (trodAll_cons_mk (shut_bool Tryd.underlying4 _) trodAll_mk0)) (fun sp => (trodAll_cons_mk (shut_cell wk0 wn0 ws0) (trodAll_cons_mk (shut_cell wk1 wn1 ws1) (trodAll_cons_mk (shut_cell wk2 wn2 ws2) trodAll_mk0)))) (fun _ => rfl) hg⟩

theorem said : Rows.CellOrdersSaid :=
  OpenClaim.holds_of_cond 5 Tryd.f5 rfl rfl rfl rfl rfl rfl rfl ⟨rfl, rfl, rfl, rfl, rfl⟩ rfl rfl rfl rfl rfl (by kernel_rfl) Tryd.func5 (by kernel_rfl)
    (of_decide_eq_true (by kernel_rfl)) (by unfold Func.isWrapper; first | (rw [if_pos (by decide +kernel)]; kernel_rfl) | (rw [if_neg (by decide +kernel)]; exact ⟨rfl, rfl⟩))
    (fun os started H enc _ F => by rw [OpenClaim.pre_eq_preRow]; exact lifted os started H enc F)

theorem plain (f : FuncId) (fn : Func) (hf : Tryd.pinned.checked.prog.funcNamed "auklet/aukletlaw03.CellOrders" = some f) (hfn : Tryd.pinned.checked.prog.funcs[f]? = some fn) :
    true = Tryd.pinned.checked.prog.looks [] ∧ ∀ (j : Nat) t, fn.params[j]? = some t → Tryd.pinned.checked.prog.wantsStandIn t = false := by
  obtain rfl : f = 5 := Option.some.inj ((show Tryd.prog.funcNamed "auklet/aukletlaw03.CellOrders" = some 5 by kernel_rfl).symm.trans hf) |>.symm
  obtain rfl : fn = Tryd.f5 := (Option.some.inj (Tryd.func5.symm.trans hfn)).symm
  refine ⟨by kernel_rfl, fun j t ht => ?_⟩
  rw [Tryd.params5] at ht
  have hm := Array.mem_of_getElem? ht
  simp only [List.mem_toArray, List.mem_cons, List.mem_nil_iff, or_false] at hm
  rcases hm with rfl | rfl | rfl
  · exact (show Tryd.prog.wantsStandIn 24 = false by kernel_rfl)
  · exact (show Tryd.prog.wantsStandIn 24 = false by kernel_rfl)
  · exact (show Tryd.prog.wantsStandIn 24 = false by kernel_rfl)

theorem proved : Rows.CellOrdersCardSaid :=
  Claim7.holds_tied_plain_at .later [] _ _ _ _ said (fun _ h => by cases h) (by kernel_rfl) (fun _ h => by cases h) cellOrders_row_tie rfl ⟨rfl, rfl⟩ (by kernel_rfl) rfl plain (by kernel_rfl)
#print axioms proved
end Go.Proofs.YtpmfkmolbioomaaDoor.cellOrders

