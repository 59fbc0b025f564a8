/- CellPlain: for any cell, any number and any text the law returns true, and its arguments read as before. The condition: unicode/utf8's two tables as the program's text lays them (the card ties them). -/
import Derived.Test.YtpmfkmolbioomaaDoorCards
import Derived.Test.YtpmfkmolbioomaaDoorTie
import Derived.Test.YtpmfkmolbioomaaDoorPost
import Derived.Test.YtpmfkmolbioomaaDoorCellE
import Derived.Test.YtpmfkmolbioomaaDoorCellF
import Derived.Test.YtpmfkmolbioomaaDoorCellM
namespace Go.Proofs.YtpmfkmolbioomaaDoor.cellPlain
open Go.ChangeShapes Go.WideShapes Go.ChangeAt Go.RowKit Go.ChangeMaps

theorem keep4 {w0 W W' : World} {b c d f : Nat} {x y z x' y' z' x2 y2 z2 x3 y3 z3 : Value} (h : Hid (Below w0.heap.size w0 W) ∧ W.cell? ⟨b, 0, none⟩ = some x ∧ W.cell? ⟨b, 1, none⟩ = some y ∧ W.cell? ⟨b, 2, none⟩ = some z ∧ W.cell? ⟨c, 0, none⟩ = some x' ∧ W.cell? ⟨c, 1, none⟩ = some y' ∧ W.cell? ⟨c, 2, none⟩ = some z' ∧ W.cell? ⟨d, 0, none⟩ = some x2 ∧ W.cell? ⟨d, 1, none⟩ = some y2 ∧ W.cell? ⟨d, 2, none⟩ = some z2 ∧ W.cell? ⟨f, 0, none⟩ = some x3 ∧ W.cell? ⟨f, 1, none⟩ = some y3 ∧ W.cell? ⟨f, 2, none⟩ = some z3) (hb : Below W.heap.size W W') : Hid (Below w0.heap.size w0 W') ∧ W'.cell? ⟨b, 0, none⟩ = some x ∧ W'.cell? ⟨b, 1, none⟩ = some y ∧ W'.cell? ⟨b, 2, none⟩ = some z ∧ W'.cell? ⟨c, 0, none⟩ = some x' ∧ W'.cell? ⟨c, 1, none⟩ = some y' ∧ W'.cell? ⟨c, 2, none⟩ = some z' ∧ W'.cell? ⟨d, 0, none⟩ = some x2 ∧ W'.cell? ⟨d, 1, none⟩ = some y2 ∧ W'.cell? ⟨d, 2, none⟩ = some z2 ∧ W'.cell? ⟨f, 0, none⟩ = some x3 ∧ W'.cell? ⟨f, 1, none⟩ = some y3 ∧ W'.cell? ⟨f, 2, none⟩ = some z3 := by
  obtain ⟨h0, h1, h2, h3, h4⟩ := h
  obtain ⟨k0, k1, k2, k3⟩ := keep1 ⟨h0, h1, h2, h3⟩ hb
  exact ⟨k0, k1, k2, k3, (keep3 ⟨h0, h4⟩ hb).2⟩
theorem held4 {w0 W : World} {b c d f : Nat} {x y z x' y' z' x2 y2 z2 x3 y3 z3 : Value} (hb : Below w0.heap.size w0 W) (T : Tri W b x y z) (T' : Tri W c x' y' z') (T2 : Tri W d x2 y2 z2) (T3 : Tri W f x3 y3 z3) : Hid (Below w0.heap.size w0 W) ∧ W.cell? ⟨b, 0, none⟩ = some x ∧ W.cell? ⟨b, 1, none⟩ = some y ∧ W.cell? ⟨b, 2, none⟩ = some z ∧ W.cell? ⟨c, 0, none⟩ = some x' ∧ W.cell? ⟨c, 1, none⟩ = some y' ∧ W.cell? ⟨c, 2, none⟩ = some z' ∧ W.cell? ⟨d, 0, none⟩ = some x2 ∧ W.cell? ⟨d, 1, none⟩ = some y2 ∧ W.cell? ⟨d, 2, none⟩ = some z2 ∧ W.cell? ⟨f, 0, none⟩ = some x3 ∧ W.cell? ⟨f, 1, none⟩ = some y3 ∧ W.cell? ⟨f, 2, none⟩ = some z3 :=
  ⟨Lib.hid hb, T.c0, T.c1, T.c2, T'.c0, T'.c1, T'.c2, T2.c0, T2.c1, T2.c2, T3.c0, T3.c1, T3.c2⟩

set_option maxRecDepth 100000 in
set_option maxHeartbeats 16000000 in
theorem walk_some (T : TypeId) (V : Value) (k0 n0 : Int) (s0 : ByteArray) (n : Int) (s : ByteArray) (hs : s.size ≤ 300) (g : (k0 == 0) = false)
    (SM : Hid (∀ w, Calls Tryd.prog 14 #[.agg #[.int .i64 k0, .int .i64 n0, .string s0]] w fun e w' => e = .returned (.bool true) ∧ Below w.heap.size w w'))
    (AN : Hid (∀ w, Calls Tryd.prog 18 #[.agg #[.int .i64 k0, .int .i64 n0, .string s0]] w fun e w' => e = .returned (.iface T V) ∧ Below w.heap.size w w'))
    (FV : Hid (∀ w, Calls Tryd.prog 19 #[.iface T V] w fun e w' => e = .returned (.tuple #[.agg #[.int .i64 k0, .int .i64 n0, .string s0], .bool true]) ∧ Below w.heap.size w w'))
    (CN : Hid (∀ w, Calls Tryd.prog 15 #[.agg #[.int .i64 k0, .int .i64 n0, .string s0]] w fun e w' => e = .returned (.bool true) ∧ Below w.heap.size w w')) (w : World) :
    Calls Tryd.prog 6 #[.agg #[.int .i64 k0, .int .i64 n0, .string s0], .int .i64 n, .string s] w fun e w' => e = .returned (.bool true) ∧ Below w.heap.size w w' := by
  have LV := Lib.hid lives_any
  have ON := Lib.hid (fun w => ofNum_any n w)
  have OS := Lib.hid (fun w => ofStr_any s w)
  have FI := Lib.hid (fun w => from_int64 n w)
  have FS := Lib.hid (fun w => from_string s w)
  have FT := Lib.hid (fun w => from_int n w)
  have FW := Lib.hid (fun w => from_number n w)
  have X := boxed1 w (.int .i64 k0) (.int .i64 n0) (.string s0) 24
  have B0 := Lib.hid X.1.out
  have T0_0 := Lib.hid X.2
  clear X
  go_enter Tryd.func6, Tryd.ntmps6
  go_wp2_with fail
  refine (SM.out _).mono ?_
  rintro e w1 ⟨rfl, b1⟩
  have T0_1 := Lib.hid (T0_0.out.below b1)
  have B1 := Lib.hid (Below.step B0.out b1); clear b1
  have c00 := T0_1.out.c0
  have c01 := T0_1.out.c1
  have c02 := T0_1.out.c2
  clear T0_0 B0
  go_wp2_with fail
  refine (AN.out _).mono ?_
  rintro e w2 ⟨rfl, b2⟩
  clear c00 c01 c02
  have T0_2 := Lib.hid (T0_1.out.below b2)
  have B2 := Lib.hid (Below.step B1.out b2); clear b2
  clear T0_1 B1
  go_wp2_with fail
  refine (FV.out _).mono ?_
  rintro e w3 ⟨rfl, b3⟩
  have T0_3 := Lib.hid ((T0_2.out.below b3).below (below_new w3 (.cells #[.int .i64 k0, .int .i64 n0, .string s0] 24)))
  have B3 := Lib.hid (Below.step (Below.step B2.out b3) (below_new w3 (.cells #[.int .i64 k0, .int .i64 n0, .string s0] 24))); clear b3
  have T1_3 := Lib.hid (tri_new w3 (.int .i64 k0) (.int .i64 n0) (.string s0) 24)
  have c00 := T0_3.out.c0
  have c01 := T0_3.out.c1
  have c02 := T0_3.out.c2
  clear T0_2 B2
  go_wp2_with fail
  refine (CN.out _).mono ?_
  rintro e w4 ⟨rfl, b4⟩
  clear c00 c01 c02
  have T0_4 := Lib.hid (T0_3.out.below b4)
  have T1_4 := Lib.hid (T1_3.out.below b4)
  have B4 := Lib.hid (Below.step B3.out b4); clear b4
  clear T0_3 T1_3 B3
  go_wp2_with fail
  refine (FI.out _).mono ?_
  rintro e w5 ⟨rfl, b5⟩
  have T0_5 := Lib.hid ((T0_4.out.below b5).below (below_new w5 (.cells #[.int .i64 1, .int .i64 n, .string ⟨#[]⟩] 24)))
  have T1_5 := Lib.hid ((T1_4.out.below b5).below (below_new w5 (.cells #[.int .i64 1, .int .i64 n, .string ⟨#[]⟩] 24)))
  have B5 := Lib.hid (Below.step (Below.step B4.out b5) (below_new w5 (.cells #[.int .i64 1, .int .i64 n, .string ⟨#[]⟩] 24))); clear b5
  have T2_5 := Lib.hid (tri_new w5 (.int .i64 1) (.int .i64 n) (.string ⟨#[]⟩) 24)
  clear T0_4 T1_4 B4
  go_wp2_with fail
  refine (FS.out _).mono ?_
  rintro e w6 ⟨rfl, b6⟩
  have T0_6 := Lib.hid ((T0_5.out.below b6).below (below_new w6 (.cells #[.int .i64 2, .int .i64 0, .string s] 24)))
  have T1_6 := Lib.hid ((T1_5.out.below b6).below (below_new w6 (.cells #[.int .i64 2, .int .i64 0, .string s] 24)))
  have T2_6 := Lib.hid ((T2_5.out.below b6).below (below_new w6 (.cells #[.int .i64 2, .int .i64 0, .string s] 24)))
  have B6 := Lib.hid (Below.step (Below.step B5.out b6) (below_new w6 (.cells #[.int .i64 2, .int .i64 0, .string s] 24))); clear b6
  have T3_6 := Lib.hid (tri_new w6 (.int .i64 2) (.int .i64 0) (.string s) 24)
  clear T0_5 T1_5 T2_5 B5
  go_wp2_with fail
  refine (FT.out _).mono ?_
  rintro e w7 ⟨rfl, b7⟩
  have T0_7 := Lib.hid ((T0_6.out.below b7).below (below_new w7 (.cells #[.int .i64 0, .int .i64 0, .string ⟨#[]⟩] 24)))
  have T1_7 := Lib.hid ((T1_6.out.below b7).below (below_new w7 (.cells #[.int .i64 0, .int .i64 0, .string ⟨#[]⟩] 24)))
  have T2_7 := Lib.hid ((T2_6.out.below b7).below (below_new w7 (.cells #[.int .i64 0, .int .i64 0, .string ⟨#[]⟩] 24)))
  have T3_7 := Lib.hid ((T3_6.out.below b7).below (below_new w7 (.cells #[.int .i64 0, .int .i64 0, .string ⟨#[]⟩] 24)))
  have B7 := Lib.hid (Below.step (Below.step B6.out b7) (below_new w7 (.cells #[.int .i64 0, .int .i64 0, .string ⟨#[]⟩] 24))); clear b7
  have T4_7 := Lib.hid (tri_new w7 (.int .i64 0) (.int .i64 0) (.string ⟨#[]⟩) 24)
  clear T0_6 T1_6 T2_6 T3_6 B6
  go_wp2_with fail
  refine (FW.out _).mono ?_
  rintro e w8 ⟨rfl, b8⟩
  have T0_8 := Lib.hid ((T0_7.out.below b8).below (below_new w8 (.cells #[.int .i64 0, .int .i64 0, .string ⟨#[]⟩] 24)))
  have T1_8 := Lib.hid ((T1_7.out.below b8).below (below_new w8 (.cells #[.int .i64 0, .int .i64 0, .string ⟨#[]⟩] 24)))
  have T2_8 := Lib.hid ((T2_7.out.below b8).below (below_new w8 (.cells #[.int .i64 0, .int .i64 0, .string ⟨#[]⟩] 24)))
  have T3_8 := Lib.hid ((T3_7.out.below b8).below (below_new w8 (.cells #[.int .i64 0, .int .i64 0, .string ⟨#[]⟩] 24)))
  have T4_8 := Lib.hid ((T4_7.out.below b8).below (below_new w8 (.cells #[.int .i64 0, .int .i64 0, .string ⟨#[]⟩] 24)))
  have B8 := Lib.hid (Below.step (Below.step B7.out b8) (below_new w8 (.cells #[.int .i64 0, .int .i64 0, .string ⟨#[]⟩] 24))); clear b8
  have T5_8 := Lib.hid (tri_new w8 (.int .i64 0) (.int .i64 0) (.string ⟨#[]⟩) 24)
  clear T0_7 T1_7 T2_7 T3_7 T4_7 B7
  go_wp2_with fail
  have H0 := Lib.hid (held4 (w0 := (w8.alloc (.cells #[.int .i64 0, .int .i64 0, .string ⟨#[]⟩] 24))) (Below.refl _ _) T2_8.out T3_8.out T4_8.out T5_8.out)
  clear T2_8 T3_8 T4_8 T5_8 FI FS FT FW SM AN FV CN
  go_region_held3 (fun w' => Hid (Below (w8.alloc (.cells #[.int .i64 0, .int .i64 0, .string ⟨#[]⟩] 24)).heap.size (w8.alloc (.cells #[.int .i64 0, .int .i64 0, .string ⟨#[]⟩] 24)) w') ∧ w'.cell? ⟨w5.heap.size, 0, none⟩ = some (.int .i64 1) ∧ w'.cell? ⟨w5.heap.size, 1, none⟩ = some (.int .i64 n) ∧ w'.cell? ⟨w5.heap.size, 2, none⟩ = some (.string ⟨#[]⟩) ∧ w'.cell? ⟨w6.heap.size, 0, none⟩ = some (.int .i64 2) ∧ w'.cell? ⟨w6.heap.size, 1, none⟩ = some (.int .i64 0) ∧ w'.cell? ⟨w6.heap.size, 2, none⟩ = some (.string s) ∧ w'.cell? ⟨w7.heap.size, 0, none⟩ = some (.int .i64 0) ∧ w'.cell? ⟨w7.heap.size, 1, none⟩ = some (.int .i64 0) ∧ w'.cell? ⟨w7.heap.size, 2, none⟩ = some (.string ⟨#[]⟩) ∧ w'.cell? ⟨w8.heap.size, 0, none⟩ = some (.int .i64 0) ∧ w'.cell? ⟨w8.heap.size, 1, none⟩ = some (.int .i64 0) ∧ w'.cell? ⟨w8.heap.size, 2, none⟩ = some (.string ⟨#[]⟩))
    (first | exact keep4 H0.out (below_drew _) | exact keep4 (by assumption) (by assumption) | assumption)
    (first
      | (go_at_call 20; refine (ON.out _).mono ?_; rintro e v1 ⟨rfl, a1⟩)
      | (go_at_call 13; refine (OS.out _).mono ?_; rintro e v1 ⟨rfl, a1⟩))
  have HH := (show Hid _ ∧ _ by assumption).1.out
  have T0_9 := Lib.hid (T0_8.out.below HH)
  have T1_9 := Lib.hid (T1_8.out.below HH)
  have B9 := Lib.hid (Below.step B8.out HH)
  clear HH
  have c00 := T0_9.out.c0
  have c01 := T0_9.out.c1
  have c02 := T0_9.out.c2
  have c10 := T1_9.out.c0
  have c11 := T1_9.out.c1
  have c12 := T1_9.out.c2
  go_wp2_with fail
  refine (LV.out _).mono ?_
  rintro e w10 ⟨rfl, b10⟩
  have B10 := Lib.hid (Below.step B9.out b10); clear b10
  go_wp2_with fail
  go_ret
  exact ⟨rfl, B10.out⟩

set_option maxRecDepth 100000 in
set_option maxHeartbeats 16000000 in
theorem walk_nil (n : Int) (s : ByteArray) (hs : s.size ≤ 300)
    (SM : Hid (∀ w, Calls Tryd.prog 14 #[.agg #[.int .i64 0, .int .i64 0, .string ⟨#[]⟩]] w fun e w' => e = .returned (.bool true) ∧ Below w.heap.size w w'))
    (AN : Hid (∀ w, Calls Tryd.prog 18 #[.agg #[.int .i64 0, .int .i64 0, .string ⟨#[]⟩]] w fun e w' => e = .returned (.nilIface) ∧ Below w.heap.size w w'))
    (FV : Hid (∀ w, Calls Tryd.prog 19 #[.nilIface] w fun e w' => e = .returned (.tuple #[.agg #[.int .i64 0, .int .i64 0, .string ⟨#[]⟩], .bool true]) ∧ Below w.heap.size w w'))
    (CN : Hid (∀ w, Calls Tryd.prog 15 #[.agg #[.int .i64 0, .int .i64 0, .string ⟨#[]⟩]] w fun e w' => e = .returned (.bool true) ∧ Below w.heap.size w w')) (w : World) :
    Calls Tryd.prog 6 #[.agg #[.int .i64 0, .int .i64 0, .string ⟨#[]⟩], .int .i64 n, .string s] w fun e w' => e = .returned (.bool true) ∧ Below w.heap.size w w' := by
  have LV := Lib.hid lives_any
  have ON := Lib.hid (fun w => ofNum_any n w)
  have OS := Lib.hid (fun w => ofStr_any s w)
  have FI := Lib.hid (fun w => from_int64 n w)
  have FS := Lib.hid (fun w => from_string s w)
  have FT := Lib.hid (fun w => from_int n w)
  have FW := Lib.hid (fun w => from_number n w)
  have X := boxed1 w (.int .i64 0) (.int .i64 0) (.string ⟨#[]⟩) 24
  have B0 := Lib.hid X.1.out
  have T0_0 := Lib.hid X.2
  clear X
  go_enter Tryd.func6, Tryd.ntmps6
  go_wp2_with fail
  refine (SM.out _).mono ?_
  rintro e w1 ⟨rfl, b1⟩
  have T0_1 := Lib.hid (T0_0.out.below b1)
  have B1 := Lib.hid (Below.step B0.out b1); clear b1
  have c00 := T0_1.out.c0
  have c01 := T0_1.out.c1
  have c02 := T0_1.out.c2
  clear T0_0 B0
  go_wp2_with fail
  refine (AN.out _).mono ?_
  rintro e w2 ⟨rfl, b2⟩
  clear c00 c01 c02
  have T0_2 := Lib.hid (T0_1.out.below b2)
  have B2 := Lib.hid (Below.step B1.out b2); clear b2
  clear T0_1 B1
  go_wp2_with fail
  refine (FV.out _).mono ?_
  rintro e w3 ⟨rfl, b3⟩
  have T0_3 := Lib.hid ((T0_2.out.below b3).below (below_new w3 (.cells #[.int .i64 0, .int .i64 0, .string ⟨#[]⟩] 24)))
  have B3 := Lib.hid (Below.step (Below.step B2.out b3) (below_new w3 (.cells #[.int .i64 0, .int .i64 0, .string ⟨#[]⟩] 24))); clear b3
  have T1_3 := Lib.hid (tri_new w3 (.int .i64 0) (.int .i64 0) (.string ⟨#[]⟩) 24)
  have c00 := T0_3.out.c0
  have c01 := T0_3.out.c1
  have c02 := T0_3.out.c2
  clear T0_2 B2
  go_wp2_with fail
  refine (CN.out _).mono ?_
  rintro e w4 ⟨rfl, b4⟩
  clear c00 c01 c02
  have T0_4 := Lib.hid (T0_3.out.below b4)
  have T1_4 := Lib.hid (T1_3.out.below b4)
  have B4 := Lib.hid (Below.step B3.out b4); clear b4
  clear T0_3 T1_3 B3
  go_wp2_with fail
  refine (FI.out _).mono ?_
  rintro e w5 ⟨rfl, b5⟩
  have T0_5 := Lib.hid ((T0_4.out.below b5).below (below_new w5 (.cells #[.int .i64 1, .int .i64 n, .string ⟨#[]⟩] 24)))
  have T1_5 := Lib.hid ((T1_4.out.below b5).below (below_new w5 (.cells #[.int .i64 1, .int .i64 n, .string ⟨#[]⟩] 24)))
  have B5 := Lib.hid (Below.step (Below.step B4.out b5) (below_new w5 (.cells #[.int .i64 1, .int .i64 n, .string ⟨#[]⟩] 24))); clear b5
  have T2_5 := Lib.hid (tri_new w5 (.int .i64 1) (.int .i64 n) (.string ⟨#[]⟩) 24)
  clear T0_4 T1_4 B4
  go_wp2_with fail
  refine (FS.out _).mono ?_
  rintro e w6 ⟨rfl, b6⟩
  have T0_6 := Lib.hid ((T0_5.out.below b6).below (below_new w6 (.cells #[.int .i64 2, .int .i64 0, .string s] 24)))
  have T1_6 := Lib.hid ((T1_5.out.below b6).below (below_new w6 (.cells #[.int .i64 2, .int .i64 0, .string s] 24)))
  have T2_6 := Lib.hid ((T2_5.out.below b6).below (below_new w6 (.cells #[.int .i64 2, .int .i64 0, .string s] 24)))
  have B6 := Lib.hid (Below.step (Below.step B5.out b6) (below_new w6 (.cells #[.int .i64 2, .int .i64 0, .string s] 24))); clear b6
  have T3_6 := Lib.hid (tri_new w6 (.int .i64 2) (.int .i64 0) (.string s) 24)
  clear T0_5 T1_5 T2_5 B5
  go_wp2_with fail
  refine (FT.out _).mono ?_
  rintro e w7 ⟨rfl, b7⟩
  have T0_7 := Lib.hid ((T0_6.out.below b7).below (below_new w7 (.cells #[.int .i64 0, .int .i64 0, .string ⟨#[]⟩] 24)))
  have T1_7 := Lib.hid ((T1_6.out.below b7).below (below_new w7 (.cells #[.int .i64 0, .int .i64 0, .string ⟨#[]⟩] 24)))
  have T2_7 := Lib.hid ((T2_6.out.below b7).below (below_new w7 (.cells #[.int .i64 0, .int .i64 0, .string ⟨#[]⟩] 24)))
  have T3_7 := Lib.hid ((T3_6.out.below b7).below (below_new w7 (.cells #[.int .i64 0, .int .i64 0, .string ⟨#[]⟩] 24)))
  have B7 := Lib.hid (Below.step (Below.step B6.out b7) (below_new w7 (.cells #[.int .i64 0, .int .i64 0, .string ⟨#[]⟩] 24))); clear b7
  have T4_7 := Lib.hid (tri_new w7 (.int .i64 0) (.int .i64 0) (.string ⟨#[]⟩) 24)
  clear T0_6 T1_6 T2_6 T3_6 B6
  go_wp2_with fail
  refine (FW.out _).mono ?_
  rintro e w8 ⟨rfl, b8⟩
  have T0_8 := Lib.hid ((T0_7.out.below b8).below (below_new w8 (.cells #[.int .i64 0, .int .i64 0, .string ⟨#[]⟩] 24)))
  have T1_8 := Lib.hid ((T1_7.out.below b8).below (below_new w8 (.cells #[.int .i64 0, .int .i64 0, .string ⟨#[]⟩] 24)))
  have T2_8 := Lib.hid ((T2_7.out.below b8).below (below_new w8 (.cells #[.int .i64 0, .int .i64 0, .string ⟨#[]⟩] 24)))
  have T3_8 := Lib.hid ((T3_7.out.below b8).below (below_new w8 (.cells #[.int .i64 0, .int .i64 0, .string ⟨#[]⟩] 24)))
  have T4_8 := Lib.hid ((T4_7.out.below b8).below (below_new w8 (.cells #[.int .i64 0, .int .i64 0, .string ⟨#[]⟩] 24)))
  have B8 := Lib.hid (Below.step (Below.step B7.out b8) (below_new w8 (.cells #[.int .i64 0, .int .i64 0, .string ⟨#[]⟩] 24))); clear b8
  have T5_8 := Lib.hid (tri_new w8 (.int .i64 0) (.int .i64 0) (.string ⟨#[]⟩) 24)
  clear T0_7 T1_7 T2_7 T3_7 T4_7 B7
  go_wp2_with fail
  have H0 := Lib.hid (held4 (w0 := (w8.alloc (.cells #[.int .i64 0, .int .i64 0, .string ⟨#[]⟩] 24))) (Below.refl _ _) T2_8.out T3_8.out T4_8.out T5_8.out)
  clear T2_8 T3_8 T4_8 T5_8 FI FS FT FW SM AN FV CN
  go_region_held3 (fun w' => Hid (Below (w8.alloc (.cells #[.int .i64 0, .int .i64 0, .string ⟨#[]⟩] 24)).heap.size (w8.alloc (.cells #[.int .i64 0, .int .i64 0, .string ⟨#[]⟩] 24)) w') ∧ w'.cell? ⟨w5.heap.size, 0, none⟩ = some (.int .i64 1) ∧ w'.cell? ⟨w5.heap.size, 1, none⟩ = some (.int .i64 n) ∧ w'.cell? ⟨w5.heap.size, 2, none⟩ = some (.string ⟨#[]⟩) ∧ w'.cell? ⟨w6.heap.size, 0, none⟩ = some (.int .i64 2) ∧ w'.cell? ⟨w6.heap.size, 1, none⟩ = some (.int .i64 0) ∧ w'.cell? ⟨w6.heap.size, 2, none⟩ = some (.string s) ∧ w'.cell? ⟨w7.heap.size, 0, none⟩ = some (.int .i64 0) ∧ w'.cell? ⟨w7.heap.size, 1, none⟩ = some (.int .i64 0) ∧ w'.cell? ⟨w7.heap.size, 2, none⟩ = some (.string ⟨#[]⟩) ∧ w'.cell? ⟨w8.heap.size, 0, none⟩ = some (.int .i64 0) ∧ w'.cell? ⟨w8.heap.size, 1, none⟩ = some (.int .i64 0) ∧ w'.cell? ⟨w8.heap.size, 2, none⟩ = some (.string ⟨#[]⟩))
    (first | exact keep4 H0.out (below_drew _) | exact keep4 (by assumption) (by assumption) | assumption)
    (first
      | (go_at_call 20; refine (ON.out _).mono ?_; rintro e v1 ⟨rfl, a1⟩)
      | (go_at_call 13; refine (OS.out _).mono ?_; rintro e v1 ⟨rfl, a1⟩))
  have HH := (show Hid _ ∧ _ by assumption).1.out
  have T0_9 := Lib.hid (T0_8.out.below HH)
  have T1_9 := Lib.hid (T1_8.out.below HH)
  have B9 := Lib.hid (Below.step B8.out HH)
  clear HH
  have c00 := T0_9.out.c0
  have c01 := T0_9.out.c1
  have c02 := T0_9.out.c2
  have c10 := T1_9.out.c0
  have c11 := T1_9.out.c1
  have c12 := T1_9.out.c2
  go_wp2_with fail
  refine (LV.out _).mono ?_
  rintro e w10 ⟨rfl, b10⟩
  have B10 := Lib.hid (Below.step B9.out b10); clear b10
  go_wp2_with fail
  go_ret
  exact ⟨rfl, B10.out⟩

theorem empty_of {s : ByteArray} (h : s.toList = []) : s = ⟨#[]⟩ := by
  apply ByteArray.ext
  apply Array.toList_inj.1
  rw [← ByteArray.toList_eq, h]

set_option maxRecDepth 100000 in
set_option maxHeartbeats 16000000 in
theorem walk (k0 n0 : Int) (s0 : ByteArray) (n : Int) (s : ByteArray) (_ : Fits n0) (_ : Fits n) (_ : s.size ≤ maxLen) (w : World) :
    Calls Tryd.prog 6 #[.agg #[.int .i64 k0, .int .i64 n0, .string s0], .int .i64 n, .string s] w fun e w' => e = .returned (.bool true) ∧ Below w.heap.size w w' := by
  have LV := Lib.hid lives_any
  have X := boxed1 w (.int .i64 k0) (.int .i64 n0) (.string s0) 24
  have B0 := Lib.hid X.1.out
  have T0_0 := Lib.hid X.2
  clear X
  by_cases hs0 : s0.size ≤ 300
  case neg =>
    have SM0 := fun w => small_any k0 n0 s0 w
    rw [decide_eq_false (show ¬ (s0.size : Int) ≤ 300 by omega)] at SM0
    have SM0 := Lib.hid SM0
    clear hs0
    go_enter Tryd.func6, Tryd.ntmps6
    go_wp2_with fail
    refine (SM0.out _).mono ?_
    rintro e w1 ⟨rfl, b1⟩
    have T0_1 := Lib.hid (T0_0.out.below b1)
    have c00 := T0_1.out.c0
    have c01 := T0_1.out.c1
    have c02 := T0_1.out.c2
    have B1 := Lib.hid (Below.step B0.out b1); clear b1
    go_wp2_with fail
    refine (LV.out _).mono ?_
    rintro e w2 ⟨rfl, b2⟩
    clear c00 c01 c02
    have B2 := Lib.hid (Below.step B1.out b2); clear b2
    go_wp2_with fail
    go_ret
    exact ⟨rfl, B2.out⟩
  have SM0 := fun w => small_any k0 n0 s0 w
  rw [decide_eq_true (show (s0.size : Int) ≤ 300 by omega)] at SM0
  have SM0 := Lib.hid SM0
  by_cases hs : s.size ≤ 300
  case neg =>
    clear hs0
    have hs' : 300 < s.size := by omega
    clear hs
    go_enter Tryd.func6, Tryd.ntmps6
    go_wp2_with fail
    refine (SM0.out _).mono ?_
    rintro e w1 ⟨rfl, b1⟩
    have T0_1 := Lib.hid (T0_0.out.below b1)
    have c00 := T0_1.out.c0
    have c01 := T0_1.out.c1
    have c02 := T0_1.out.c2
    have B1 := Lib.hid (Below.step B0.out b1); clear b1
    go_wp2_with fail
    refine (LV.out _).mono ?_
    rintro e w2 ⟨rfl, b2⟩
    clear c00 c01 c02
    have B2 := Lib.hid (Below.step B1.out b2); clear b2
    go_wp2_with fail
    go_ret
    exact ⟨rfl, B2.out⟩
  cases hc0 : canB k0 n0 s0
  case false =>
    have CN0 := fun w => refCan_any k0 n0 s0 (by omega) w
    rw [hc0] at CN0
    have CN0 := Lib.hid CN0
    have AN := Lib.hid (fun w => any_not k0 n0 s0 (by omega) hc0 w)
    have FN := Lib.hid from_nil
    clear hc0 hs0
    go_enter Tryd.func6, Tryd.ntmps6
    go_wp2_with fail
    refine (SM0.out _).mono ?_
    rintro e w1 ⟨rfl, b1⟩
    have T0_1 := Lib.hid (T0_0.out.below b1)
    have B1 := Lib.hid (Below.step B0.out b1); clear b1
    have c00 := T0_1.out.c0; have c01 := T0_1.out.c1; have c02 := T0_1.out.c2
    go_wp2_with fail
    refine (AN.out _).mono ?_
    rintro e w2 ⟨rfl, b2⟩
    clear c00 c01 c02
    have T0_2 := Lib.hid (T0_1.out.below b2)
    have B2 := Lib.hid (Below.step B1.out b2); clear b2
    go_wp2_with fail
    refine (FN.out _).mono ?_
    rintro e w3 ⟨rfl, b3⟩
    have T0_3 := Lib.hid ((T0_2.out.below b3).below (below_new w3 (.cells #[.int .i64 0, .int .i64 0, .string ⟨#[]⟩] 24)))
    have B3 := Lib.hid (Below.step (Below.step B2.out b3) (below_new w3 (.cells #[.int .i64 0, .int .i64 0, .string ⟨#[]⟩] 24))); clear b3
    have c00 := T0_3.out.c0; have c01 := T0_3.out.c1; have c02 := T0_3.out.c2
    go_wp2_with fail
    refine (CN0.out _).mono ?_
    rintro e w4 ⟨rfl, b4⟩
    have B4 := Lib.hid (Below.step B3.out b4); clear b4
    go_wp2_with fail
    refine (LV.out _).mono ?_
    rintro e w5 ⟨rfl, b5⟩
    have B5 := Lib.hid (Below.step B4.out b5); clear b5
    go_wp2_with fail
    go_ret
    exact ⟨rfl, B5.out⟩
  have CN0 := fun w => refCan_any k0 n0 s0 (by omega) w
  rw [hc0] at CN0
  have CN0 := Lib.hid CN0
  have AN := fun w => any_is k0 n0 s0 (by omega) hc0 w
  clear T0_0 B0 LV
  rcases can_cases k0 n0 s0 with ⟨rfl, rfl, h2, hc⟩ | ⟨rfl, rfl, _, hc⟩ | ⟨rfl, _, hc⟩ | ⟨rfl, h2, hc⟩ | ⟨rfl, _, hc⟩ | ⟨rfl, rfl, hc⟩ | ⟨rfl, _, hc⟩ | ⟨rfl, hk, rfl, hc⟩ | ⟨rfl, _, _, hc⟩ | ⟨rfl, _, hc⟩ | ⟨_, _, _, _, hc⟩
  · obtain rfl := empty_of h2
    exact walk_nil n s hs SM0 (Lib.hid AN) (Lib.hid from_nil) CN0 w
  · rw [hc] at hc0; cases hc0
  · rw [hc] at hc0; cases hc0
  · obtain rfl := empty_of h2
    exact walk_some _ _ 1 n0 ⟨#[]⟩ n s hs rfl SM0 (Lib.hid AN) (Lib.hid (fun w => from_int64 n0 w)) CN0 w
  · rw [hc] at hc0; cases hc0
  · exact walk_some _ _ 2 0 s0 n s hs rfl SM0 (Lib.hid AN) (Lib.hid (fun w => from_string s0 w)) CN0 w
  · rw [hc] at hc0; cases hc0
  · exact walk_some _ _ 3 (inN s0) s0 n s hs rfl SM0 (Lib.hid AN) (Lib.hid (fun w => from_looks (inN s0) s0 (by omega) hc w)) CN0 w
  · rw [hc] at hc0; cases hc0
  · rw [hc] at hc0; cases hc0
  · rw [hc] at hc0; cases hc0


theorem laid_met (os : Os) : laidMet Tryd.prog Rows.cellPlainRow.laid ((laidWorld os).forCall (fun _ _ => 0) ⟨#[], #[.agg #[.int .i64 0, .int .i64 0, .string ⟨#[]⟩], .int .i64 0, .string ⟨#[]⟩], []⟩).memory :=
  laidMet_of_run' 8 (by kernel_rfl) (by kernel_rfl)
theorem reads (os : Os) {H : Type} (enc : TypeId × Value → H) : ∃ places, DataW.whole enc Tryd.prog ((laidWorld os).forCall (fun _ _ => 0) ⟨#[], #[.agg #[.int .i64 0, .int .i64 0, .string ⟨#[]⟩], .int .i64 0, .string ⟨#[]⟩], []⟩).memory Tryd.f6.params.toList Rows.cellPlainSpec.vars false #[.agg #[.int .i64 0, .int .i64 0, .string ⟨#[]⟩], .int .i64 0, .string ⟨#[]⟩].toList 8 = some ([.agg [.lit (.int .i64 0), .lit (.int .i64 0), .lit (.string [])], .lit (.int .i64 0), .lit (.string [])], [], places) :=
  ⟨[], by kernel_rfl⟩

set_option maxRecDepth 100000 in
theorem lifted (os : Os) (started : os.Started) (H : Type) (enc : TypeId × Value → H) (F : Stop.Interp) :
    ReturnsInHanded {} Tryd.checked os 6 .any ((OpenSpec.ofChange Rows.cellPlainSpec).preRow enc Tryd.prog Tryd.f6 Rows.cellPlainRow.domain false Rows.cellPlainRow.laid) (((OpenSpec.ofChange Rows.cellPlainSpec).at F).post enc Tryd.prog Tryd.f6 false true false false) := by
  obtain ⟨places, hx⟩ := reads os enc
  refine returnsInHanded_of_row (C := Tryd.checked) (s := (OpenSpec.ofChange Rows.cellPlainSpec)) own started (by kernel_rfl) Tryd.func6
    (witness_row_at (enc := enc) (C := Tryd.checked) false (laidWorld os) #[.agg #[.int .i64 0, .int .i64 0, .string ⟨#[]⟩], .int .i64 0, .string ⟨#[]⟩] rfl (by kernel_rfl) (by kernel_rfl) (by kernel_rfl)
      (OpenSpec.preRow_of_cond 8 hx (by kernel_rfl) (fun k hk => by cases hk) (by kernel_rfl) (laid_met os))) ?_
  intro W base args ds gs before hval0 hW _ _ _ _ _ _
  have hval : ∀ (j : Nat) t v, Tryd.f6.params[j]? = some t → args[j]? = some v → Value.okWide Tryd.prog W .any base t v := hval0
  have hW' := hW
  obtain ⟨p, q, hA0, hV, rfl, hfz, hnd⟩ := hW
  have hA : DataW.TrodAll enc Tryd.prog W 0 (fun _ => true) true Tryd.f6.params.toList args.toList ds p := hA0
  rw [Tryd.params6] at hA hval
  obtain ⟨v0, vs0, d0, ds0, p0, q0, hargs, rfl, rfl, h0, r0⟩ := trodAll_cons hA
  obtain ⟨v1, vs1, d1, ds1, p1, q1, rfl, rfl, rfl, h1, r1⟩ := trodAll_cons r0
  obtain ⟨v2, vs2, d2, ds2, p2, q2, rfl, rfl, rfl, h2, r2⟩ := trodAll_cons r1
  obtain ⟨rfl, rfl, rfl⟩ := trodAll_nil r2
  obtain rfl : args = #[v0, v1, v2] := by cases args; simp_all
  obtain ⟨rfl, rfl⟩ := trodVars_none hV
  obtain ⟨k0, n0, s0, rfl, rfl, rfl, wk0, wn0, ws0⟩ := open_cell (hval 0 24 v0 rfl rfl) h0
  obtain ⟨a1, rfl, rfl, rfl, w1⟩ := open_int Tryd.underlying2 (hval 1 2 v1 rfl rfl) h1
  obtain ⟨a2, rfl, rfl, rfl, w2⟩ := open_string Tryd.underlying9 (hval 2 9 v2 rfl rfl) h2
  clear hA0 hval0
  simp only [List.append_nil] at hW'
  refine (walk k0 n0 s0 a1 a2 (wf_fits wn0) (wf_fits w1) w2 W).mono fun e W' ⟨he, hg⟩ => ?_
  subst he
  exact ⟨_, rfl, post_bare hW' (fun _ _ _ => (trodAll_cons_mk (shut_bool Tryd.underlying4 _) trodAll_mk0)) (fun sp => (trodAll_cons_mk (shut_cell wk0 wn0 ws0) (trodAll_cons_mk (shut_int Tryd.underlying2 w1) (trodAll_cons_mk (shut_string Tryd.underlying9 w2) trodAll_mk0)))) (fun _ => rfl) hg⟩

theorem said : Rows.CellPlainSaid :=
  OpenClaim.holds_of_cond 6 Tryd.f6 rfl rfl rfl rfl rfl rfl rfl ⟨rfl, rfl, rfl, rfl, rfl⟩ rfl rfl rfl rfl rfl (by kernel_rfl) Tryd.func6 (by kernel_rfl)
    (of_decide_eq_true (by kernel_rfl)) (by unfold Func.isWrapper; first | (rw [if_pos (by decide +kernel)]; kernel_rfl) | (rw [if_neg (by decide +kernel)]; exact ⟨rfl, rfl⟩))
    (fun os started H enc _ F => by rw [OpenClaim.pre_eq_preRow]; exact lifted os started H enc F)

theorem plain (f : FuncId) (fn : Func) (hf : Tryd.pinned.checked.prog.funcNamed "auklet/aukletlaw03.CellPlain" = some f) (hfn : Tryd.pinned.checked.prog.funcs[f]? = some fn) :
    true = Tryd.pinned.checked.prog.looks [] ∧ ∀ (j : Nat) t, fn.params[j]? = some t → Tryd.pinned.checked.prog.wantsStandIn t = false := by
  obtain rfl : f = 6 := Option.some.inj ((show Tryd.prog.funcNamed "auklet/aukletlaw03.CellPlain" = some 6 by kernel_rfl).symm.trans hf) |>.symm
  obtain rfl : fn = Tryd.f6 := (Option.some.inj (Tryd.func6.symm.trans hfn)).symm
  refine ⟨by kernel_rfl, fun j t ht => ?_⟩
  rw [Tryd.params6] at ht
  have hm := Array.mem_of_getElem? ht
  simp only [List.mem_toArray, List.mem_cons, List.mem_nil_iff, or_false] at hm
  rcases hm with rfl | rfl | rfl
  · exact (show Tryd.prog.wantsStandIn 24 = false by kernel_rfl)
  · exact (show Tryd.prog.wantsStandIn 2 = false by kernel_rfl)
  · exact (show Tryd.prog.wantsStandIn 9 = false by kernel_rfl)

theorem proved : Rows.CellPlainCardSaid :=
  Claim7.holds_tied_plain_at .later [] _ _ _ _ said (fun _ h => by cases h) (by kernel_rfl) (fun _ h => by cases h) cellPlain_row_tie rfl ⟨rfl, rfl⟩ (by kernel_rfl) rfl plain (by kernel_rfl)
#print axioms proved
end Go.Proofs.YtpmfkmolbioomaaDoor.cellPlain

