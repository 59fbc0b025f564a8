/- CellCompares: for any two cells the law returns true, and its arguments read as before. The condition: unicode/utf8's two tables as the program's text lays them (the card ties them). -/
import Derived.Test.YtpmfkmolbioomaaDoorCards
import Derived.Test.YtpmfkmolbioomaaDoorTie
import Derived.Test.YtpmfkmolbioomaaDoorPost
import Derived.Test.YtpmfkmolbioomaaDoorCellE
import Derived.Test.YtpmfkmolbioomaaDoorCellF
import Derived.Test.YtpmfkmolbioomaaDoorCellM
namespace Go.Proofs.YtpmfkmolbioomaaDoor.cellCompares
open Go.ChangeShapes Go.WideShapes Go.ChangeAt Go.RowKit Go.ChangeMaps

set_option maxRecDepth 100000 in
set_option maxHeartbeats 8000000 in
theorem walk (k0 n0 : Int) (s0 : ByteArray) (k1 n1 : Int) (s1 : ByteArray) (hn0 : Fits n0) (hn1 : Fits n1) (w : World) :
    Calls Tryd.prog 4 #[.agg #[.int .i64 k0, .int .i64 n0, .string s0], .agg #[.int .i64 k1, .int .i64 n1, .string s1]] w fun e w' => e = .returned (.bool true) ∧ Below w.heap.size w w' := by
  have LV := Lib.hid lives_any
  have X := boxed2 w (.int .i64 k0) (.int .i64 n0) (.string s0) (.int .i64 k1) (.int .i64 n1) (.string s1) 24 24
  have B0 := Lib.hid X.1.out
  have T0_0 := Lib.hid X.2.1
  have T1_0 := Lib.hid X.2.2
  clear X
  by_cases hs0 : s0.size ≤ 300
  case neg =>
    have SM0 := fun w => small_any k0 n0 s0 w
    rw [decide_eq_false (show ¬ (s0.size : Int) ≤ 300 by omega)] at SM0
    have SM0 := Lib.hid SM0
    clear hs0
    go_enter Tryd.func4, Tryd.ntmps4
    go_wp2_with fail
    refine (SM0.out _).mono ?_
    rintro e w1 ⟨rfl, b1⟩
    have T0_1 := Lib.hid (T0_0.out.below b1)
    have c00 := T0_1.out.c0
    have c01 := T0_1.out.c1
    have c02 := T0_1.out.c2
    have T1_1 := Lib.hid (T1_0.out.below b1)
    have c10 := T1_1.out.c0
    have c11 := T1_1.out.c1
    have c12 := T1_1.out.c2
    have B1 := Lib.hid (Below.step B0.out b1); clear b1
    go_wp2_with fail
    refine (LV.out _).mono ?_
    rintro e w2 ⟨rfl, b2⟩
    clear c00 c01 c02 c10 c11 c12
    have B2 := Lib.hid (Below.step B1.out b2); clear b2
    go_wp2_with fail
    go_ret
    exact ⟨rfl, B2.out⟩
  have SM0 := fun w => small_any k0 n0 s0 w
  rw [decide_eq_true (show (s0.size : Int) ≤ 300 by omega)] at SM0
  have SM0 := Lib.hid SM0
  by_cases hs1 : s1.size ≤ 300
  case neg =>
    have SM1 := fun w => small_any k1 n1 s1 w
    rw [decide_eq_false (show ¬ (s1.size : Int) ≤ 300 by omega)] at SM1
    have SM1 := Lib.hid SM1
    clear hs0 hs1
    go_enter Tryd.func4, Tryd.ntmps4
    go_wp2_with fail
    refine (SM0.out _).mono ?_
    rintro e w1 ⟨rfl, b1⟩
    have T0_1 := Lib.hid (T0_0.out.below b1)
    have c00 := T0_1.out.c0
    have c01 := T0_1.out.c1
    have c02 := T0_1.out.c2
    have T1_1 := Lib.hid (T1_0.out.below b1)
    have c10 := T1_1.out.c0
    have c11 := T1_1.out.c1
    have c12 := T1_1.out.c2
    have B1 := Lib.hid (Below.step B0.out b1); clear b1
    go_wp2_with fail
    refine (SM1.out _).mono ?_
    rintro e w2 ⟨rfl, b2⟩
    clear c00 c01 c02 c10 c11 c12
    have T0_2 := Lib.hid (T0_1.out.below b2)
    have c00 := T0_2.out.c0
    have c01 := T0_2.out.c1
    have c02 := T0_2.out.c2
    have T1_2 := Lib.hid (T1_1.out.below b2)
    have c10 := T1_2.out.c0
    have c11 := T1_2.out.c1
    have c12 := T1_2.out.c2
    have B2 := Lib.hid (Below.step B1.out b2); clear b2
    go_wp2_with fail
    refine (LV.out _).mono ?_
    rintro e w3 ⟨rfl, b3⟩
    clear c00 c01 c02 c10 c11 c12
    have B3 := Lib.hid (Below.step B2.out b3); clear b3
    go_wp2_with fail
    go_ret
    exact ⟨rfl, B3.out⟩
  have SM1 := fun w => small_any k1 n1 s1 w
  rw [decide_eq_true (show (s1.size : Int) ≤ 300 by omega)] at SM1
  have SM1 := Lib.hid SM1
  cases hc0 : canB k0 n0 s0
  case false =>
    have CN0 := fun w => refCan_any k0 n0 s0 (by omega) w
    rw [hc0] at CN0
    have CN0 := Lib.hid CN0
    clear hc0 hs0 hs1
    go_enter Tryd.func4, Tryd.ntmps4
    go_wp2_with fail
    refine (SM0.out _).mono ?_
    rintro e w1 ⟨rfl, b1⟩
    have T0_1 := Lib.hid (T0_0.out.below b1)
    have c00 := T0_1.out.c0
    have c01 := T0_1.out.c1
    have c02 := T0_1.out.c2
    have T1_1 := Lib.hid (T1_0.out.below b1)
    have c10 := T1_1.out.c0
    have c11 := T1_1.out.c1
    have c12 := T1_1.out.c2
    have B1 := Lib.hid (Below.step B0.out b1); clear b1
    go_wp2_with fail
    refine (SM1.out _).mono ?_
    rintro e w2 ⟨rfl, b2⟩
    clear c00 c01 c02 c10 c11 c12
    have T0_2 := Lib.hid (T0_1.out.below b2)
    have c00 := T0_2.out.c0
    have c01 := T0_2.out.c1
    have c02 := T0_2.out.c2
    have T1_2 := Lib.hid (T1_1.out.below b2)
    have c10 := T1_2.out.c0
    have c11 := T1_2.out.c1
    have c12 := T1_2.out.c2
    have B2 := Lib.hid (Below.step B1.out b2); clear b2
    go_wp2_with fail
    refine (CN0.out _).mono ?_
    rintro e w3 ⟨rfl, b3⟩
    clear c00 c01 c02 c10 c11 c12
    have T0_3 := Lib.hid (T0_2.out.below b3)
    have c00 := T0_3.out.c0
    have c01 := T0_3.out.c1
    have c02 := T0_3.out.c2
    have T1_3 := Lib.hid (T1_2.out.below b3)
    have c10 := T1_3.out.c0
    have c11 := T1_3.out.c1
    have c12 := T1_3.out.c2
    have B3 := Lib.hid (Below.step B2.out b3); clear b3
    go_wp2_with fail
    refine (LV.out _).mono ?_
    rintro e w4 ⟨rfl, b4⟩
    clear c00 c01 c02 c10 c11 c12
    have B4 := Lib.hid (Below.step B3.out b4); clear b4
    go_wp2_with fail
    go_ret
    exact ⟨rfl, B4.out⟩
  have CN0 := fun w => refCan_any k0 n0 s0 (by omega) w
  rw [hc0] at CN0
  have CN0 := Lib.hid CN0
  cases hc1 : canB k1 n1 s1
  case false =>
    have CN1 := fun w => refCan_any k1 n1 s1 (by omega) w
    rw [hc1] at CN1
    have CN1 := Lib.hid CN1
    clear hc0 hc1 hs0 hs1
    go_enter Tryd.func4, Tryd.ntmps4
    go_wp2_with fail
    refine (SM0.out _).mono ?_
    rintro e w1 ⟨rfl, b1⟩
    have T0_1 := Lib.hid (T0_0.out.below b1)
    have c00 := T0_1.out.c0
    have c01 := T0_1.out.c1
    have c02 := T0_1.out.c2
    have T1_1 := Lib.hid (T1_0.out.below b1)
    have c10 := T1_1.out.c0
    have c11 := T1_1.out.c1
    have c12 := T1_1.out.c2
    have B1 := Lib.hid (Below.step B0.out b1); clear b1
    go_wp2_with fail
    refine (SM1.out _).mono ?_
    rintro e w2 ⟨rfl, b2⟩
    clear c00 c01 c02 c10 c11 c12
    have T0_2 := Lib.hid (T0_1.out.below b2)
    have c00 := T0_2.out.c0
    have c01 := T0_2.out.c1
    have c02 := T0_2.out.c2
    have T1_2 := Lib.hid (T1_1.out.below b2)
    have c10 := T1_2.out.c0
    have c11 := T1_2.out.c1
    have c12 := T1_2.out.c2
    have B2 := Lib.hid (Below.step B1.out b2); clear b2
    go_wp2_with fail
    refine (CN0.out _).mono ?_
    rintro e w3 ⟨rfl, b3⟩
    clear c00 c01 c02 c10 c11 c12
    have T0_3 := Lib.hid (T0_2.out.below b3)
    have c00 := T0_3.out.c0
    have c01 := T0_3.out.c1
    have c02 := T0_3.out.c2
    have T1_3 := Lib.hid (T1_2.out.below b3)
    have c10 := T1_3.out.c0
    have c11 := T1_3.out.c1
    have c12 := T1_3.out.c2
    have B3 := Lib.hid (Below.step B2.out b3); clear b3
    go_wp2_with fail
    refine (CN1.out _).mono ?_
    rintro e w4 ⟨rfl, b4⟩
    clear c00 c01 c02 c10 c11 c12
    have T0_4 := Lib.hid (T0_3.out.below b4)
    have c00 := T0_4.out.c0
    have c01 := T0_4.out.c1
    have c02 := T0_4.out.c2
    have T1_4 := Lib.hid (T1_3.out.below b4)
    have c10 := T1_4.out.c0
    have c11 := T1_4.out.c1
    have c12 := T1_4.out.c2
    have B4 := Lib.hid (Below.step B3.out b4); clear b4
    go_wp2_with fail
    refine (LV.out _).mono ?_
    rintro e w5 ⟨rfl, b5⟩
    clear c00 c01 c02 c10 c11 c12
    have B5 := Lib.hid (Below.step B4.out b5); clear b5
    go_wp2_with fail
    go_ret
    exact ⟨rfl, B5.out⟩
  have CN1 := fun w => refCan_any k1 n1 s1 (by omega) w
  rw [hc1] at CN1
  have CN1 := Lib.hid CN1
  have R1 := fun w => refCompare_cell k0 n0 s0 k1 n1 s1 hn0 hn1 hs0 hs1 w
  rw [cmp_ref hc0 hc1] at R1
  have hneg : IntKind.i64.wrap (- cmpC k0 n0 s0 k1 n1 s1) = cmpC k1 n1 s1 k0 n0 s0 := by
    rw [cmpC_turn k0 n0 s0 k1 n1 s1]
    rcases cmpC_cases k0 n0 s0 k1 n1 s1 with h | h | h <;> rw [h] <;> decide
  obtain ⟨Y, hY⟩ : ∃ Y, cmpC k0 n0 s0 k1 n1 s1 = Y := ⟨_, rfl⟩
  obtain ⟨Z, hZ⟩ : ∃ Z, cmpC k1 n1 s1 k0 n0 s0 = Z := ⟨_, rfl⟩
  rw [hY] at R1
  rw [hY, hZ] at hneg
  have R1 := Lib.hid R1
  clear hc0 hc1 hs0 hs1
  go_enter Tryd.func4, Tryd.ntmps4
  go_wp2_with fail
  refine (SM0.out _).mono ?_
  rintro e w1 ⟨rfl, b1⟩
  have T0_1 := Lib.hid (T0_0.out.below b1)
  have c00 := T0_1.out.c0
  have c01 := T0_1.out.c1
  have c02 := T0_1.out.c2
  have T1_1 := Lib.hid (T1_0.out.below b1)
  have c10 := T1_1.out.c0
  have c11 := T1_1.out.c1
  have c12 := T1_1.out.c2
  have B1 := Lib.hid (Below.step B0.out b1); clear b1
  go_wp2_with fail
  refine (SM1.out _).mono ?_
  rintro e w2 ⟨rfl, b2⟩
  clear c00 c01 c02 c10 c11 c12
  have T0_2 := Lib.hid (T0_1.out.below b2)
  have c00 := T0_2.out.c0
  have c01 := T0_2.out.c1
  have c02 := T0_2.out.c2
  have T1_2 := Lib.hid (T1_1.out.below b2)
  have c10 := T1_2.out.c0
  have c11 := T1_2.out.c1
  have c12 := T1_2.out.c2
  have B2 := Lib.hid (Below.step B1.out b2); clear b2
  go_wp2_with fail
  refine (CN0.out _).mono ?_
  rintro e w3 ⟨rfl, b3⟩
  clear c00 c01 c02 c10 c11 c12
  have T0_3 := Lib.hid (T0_2.out.below b3)
  have c00 := T0_3.out.c0
  have c01 := T0_3.out.c1
  have c02 := T0_3.out.c2
  have T1_3 := Lib.hid (T1_2.out.below b3)
  have c10 := T1_3.out.c0
  have c11 := T1_3.out.c1
  have c12 := T1_3.out.c2
  have B3 := Lib.hid (Below.step B2.out b3); clear b3
  go_wp2_with fail
  refine (CN1.out _).mono ?_
  rintro e w4 ⟨rfl, b4⟩
  clear c00 c01 c02 c10 c11 c12
  have T0_4 := Lib.hid (T0_3.out.below b4)
  have c00 := T0_4.out.c0
  have c01 := T0_4.out.c1
  have c02 := T0_4.out.c2
  have T1_4 := Lib.hid (T1_3.out.below b4)
  have c10 := T1_4.out.c0
  have c11 := T1_4.out.c1
  have c12 := T1_4.out.c2
  have B4 := Lib.hid (Below.step B3.out b4); clear b4
  go_wp2_with fail
  have H0 := Lib.hid (held2 B4.out T0_4.out T1_4.out)
  clear SM0 SM1 CN0 CN1 B0 B1 B2 B3 B4 T0_0 T0_1 T0_2 T0_3 T0_4 T1_0 T1_1 T1_2 T1_3 T1_4 c00 c01 c02 c10 c11 c12
  go_region_held3 (fun w' => Hid (Below w.heap.size w w') ∧ w'.cell? ⟨w.heap.size, 0, none⟩ = some (.int .i64 k0) ∧ w'.cell? ⟨w.heap.size, 1, none⟩ = some (.int .i64 n0) ∧ w'.cell? ⟨w.heap.size, 2, none⟩ = some (.string s0) ∧ w'.cell? ⟨w.heap.size + 1, 0, none⟩ = some (.int .i64 k1) ∧ w'.cell? ⟨w.heap.size + 1, 1, none⟩ = some (.int .i64 n1) ∧ w'.cell? ⟨w.heap.size + 1, 2, none⟩ = some (.string s1))
    (first | exact keep2 H0.out (below_drew _) | exact keep2 (by assumption) (by assumption) | assumption)
    (first
      | (go_at_call 16; refine (compare_cell _ _ _ _ _ _ (by assumption) (by assumption) _).mono ?_; rintro e v1 ⟨rfl, a1⟩; first | rw [hY] | rw [hZ])
      | (go_at_call 17; refine (R1.out _).mono ?_; rintro e v1 ⟨rfl, a1⟩)
      | (go_at_call 9; refine (LV.out _).mono ?_; rintro e v1 ⟨rfl, a1⟩))
  have HE := Lib.hid (And.left (show Hid _ ∧ _ by assumption))
  go_wp2_with fail
  go_ret
  exact ⟨rfl, HE.out.out⟩

theorem laid_met (os : Os) : laidMet Tryd.prog Rows.cellComparesRow.laid ((laidWorld os).forCall (fun _ _ => 0) ⟨#[], #[.agg #[.int .i64 0, .int .i64 0, .string ⟨#[]⟩], .agg #[.int .i64 0, .int .i64 0, .string ⟨#[]⟩]], []⟩).memory :=
  laidMet_of_run' 8 (by kernel_rfl) (by kernel_rfl)
theorem reads (os : Os) {H : Type} (enc : TypeId × Value → H) : ∃ places, DataW.whole enc Tryd.prog ((laidWorld os).forCall (fun _ _ => 0) ⟨#[], #[.agg #[.int .i64 0, .int .i64 0, .string ⟨#[]⟩], .agg #[.int .i64 0, .int .i64 0, .string ⟨#[]⟩]], []⟩).memory Tryd.f4.params.toList Rows.cellComparesSpec.vars false #[.agg #[.int .i64 0, .int .i64 0, .string ⟨#[]⟩], .agg #[.int .i64 0, .int .i64 0, .string ⟨#[]⟩]].toList 8 = some ([.agg [.lit (.int .i64 0), .lit (.int .i64 0), .lit (.string [])], .agg [.lit (.int .i64 0), .lit (.int .i64 0), .lit (.string [])]], [], places) :=
  ⟨[], by kernel_rfl⟩

set_option maxRecDepth 100000 in
theorem lifted (os : Os) (started : os.Started) (H : Type) (enc : TypeId × Value → H) (F : Stop.Interp) :
    ReturnsInHanded {} Tryd.checked os 4 .any ((OpenSpec.ofChange Rows.cellComparesSpec).preRow enc Tryd.prog Tryd.f4 Rows.cellComparesRow.domain false Rows.cellComparesRow.laid) (((OpenSpec.ofChange Rows.cellComparesSpec).at F).post enc Tryd.prog Tryd.f4 false true false false) := by
  obtain ⟨places, hx⟩ := reads os enc
  refine returnsInHanded_of_row (C := Tryd.checked) (s := (OpenSpec.ofChange Rows.cellComparesSpec)) own started (by kernel_rfl) Tryd.func4
    (witness_row_at (enc := enc) (C := Tryd.checked) false (laidWorld os) #[.agg #[.int .i64 0, .int .i64 0, .string ⟨#[]⟩], .agg #[.int .i64 0, .int .i64 0, .string ⟨#[]⟩]] rfl (by kernel_rfl) (by kernel_rfl) (by kernel_rfl)
      (OpenSpec.preRow_of_cond 8 hx (by kernel_rfl) (fun k hk => by cases hk) (by kernel_rfl) (laid_met os))) ?_
  intro W base args ds gs before hval0 hW _ _ _ _ _ _
  have hval : ∀ (j : Nat) t v, Tryd.f4.params[j]? = some t → args[j]? = some v → Value.okWide Tryd.prog W .any base t v := hval0
  have hW' := hW
  obtain ⟨p, q, hA0, hV, rfl, hfz, hnd⟩ := hW
  have hA : DataW.TrodAll enc Tryd.prog W 0 (fun _ => true) true Tryd.f4.params.toList args.toList ds p := hA0
  rw [Tryd.params4] at hA hval
  obtain ⟨v0, vs0, d0, ds0, p0, q0, hargs, rfl, rfl, h0, r0⟩ := trodAll_cons hA
  obtain ⟨v1, vs1, d1, ds1, p1, q1, rfl, rfl, rfl, h1, r1⟩ := trodAll_cons r0
  obtain ⟨rfl, rfl, rfl⟩ := trodAll_nil r1
  obtain rfl : args = #[v0, v1] := by cases args; simp_all
  obtain ⟨rfl, rfl⟩ := trodVars_none hV
  obtain ⟨k0, n0, s0, rfl, rfl, rfl, wk0, wn0, ws0⟩ := open_cell (hval 0 24 v0 rfl rfl) h0
  obtain ⟨k1, n1, s1, rfl, rfl, rfl, wk1, wn1, ws1⟩ := open_cell (hval 1 24 v1 rfl rfl) h1
  clear hA0 hval0
  simp only [List.append_nil] at hW'
  refine (walk k0 n0 s0 k1 n1 s1 (wf_fits wn0) (wf_fits wn1) W).mono fun e W' ⟨he, hg⟩ => ?_
  subst he
  exact ⟨_, rfl, post_bare hW' (fun _ _ _ => (trodAll_cons_mk (shut_bool Tryd.underlying4 _) trodAll_mk0)) (fun sp => (trodAll_cons_mk (shut_cell wk0 wn0 ws0) (trodAll_cons_mk (shut_cell wk1 wn1 ws1) trodAll_mk0))) (fun _ => rfl) hg⟩

theorem said : Rows.CellComparesSaid :=
  OpenClaim.holds_of_cond 4 Tryd.f4 rfl rfl rfl rfl rfl rfl rfl ⟨rfl, rfl, rfl, rfl, rfl⟩ rfl rfl rfl rfl rfl (by kernel_rfl) Tryd.func4 (by kernel_rfl)
    (of_decide_eq_true (by kernel_rfl)) (by unfold Func.isWrapper; first | (rw [if_pos (by decide +kernel)]; kernel_rfl) | (rw [if_neg (by decide +kernel)]; exact ⟨rfl, rfl⟩))
    (fun os started H enc _ F => by rw [OpenClaim.pre_eq_preRow]; exact lifted os started H enc F)

theorem plain (f : FuncId) (fn : Func) (hf : Tryd.pinned.checked.prog.funcNamed "auklet/aukletlaw03.CellCompares" = some f) (hfn : Tryd.pinned.checked.prog.funcs[f]? = some fn) :
    true = Tryd.pinned.checked.prog.looks [] ∧ ∀ (j : Nat) t, fn.params[j]? = some t → Tryd.pinned.checked.prog.wantsStandIn t = false := by
  obtain rfl : f = 4 := Option.some.inj ((show Tryd.prog.funcNamed "auklet/aukletlaw03.CellCompares" = some 4 by kernel_rfl).symm.trans hf) |>.symm
  obtain rfl : fn = Tryd.f4 := (Option.some.inj (Tryd.func4.symm.trans hfn)).symm
  refine ⟨by kernel_rfl, fun j t ht => ?_⟩
  rw [Tryd.params4] at ht
  have hm := Array.mem_of_getElem? ht
  simp only [List.mem_toArray, List.mem_cons, List.mem_nil_iff, or_false] at hm
  rcases hm with rfl | rfl
  · exact (show Tryd.prog.wantsStandIn 24 = false by kernel_rfl)
  · exact (show Tryd.prog.wantsStandIn 24 = false by kernel_rfl)

theorem proved : Rows.CellComparesCardSaid :=
  Claim7.holds_tied_plain_at .later [] _ _ _ _ said (fun _ h => by cases h) (by kernel_rfl) (fun _ h => by cases h) cellCompares_row_tie rfl ⟨rfl, rfl⟩ (by kernel_rfl) rfl plain (by kernel_rfl)
#print axioms proved
end Go.Proofs.YtpmfkmolbioomaaDoor.cellCompares

