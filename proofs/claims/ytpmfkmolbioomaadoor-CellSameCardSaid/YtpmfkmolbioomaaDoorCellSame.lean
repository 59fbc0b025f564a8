/- CellSame: for any cell and any number the law returns true, and its arguments read as before. The condition: unicode/utf8's two tables as the program's text lays them (the card ties them). -/
import Derived.Test.YtpmfkmolbioomaaDoorCards
import Derived.Test.YtpmfkmolbioomaaDoorTie
import Derived.Test.YtpmfkmolbioomaaDoorPost
import Derived.Test.YtpmfkmolbioomaaDoorCellE
import Derived.Test.YtpmfkmolbioomaaDoorCellF
import Derived.Test.YtpmfkmolbioomaaDoorCellM
namespace Go.Proofs.YtpmfkmolbioomaaDoor.cellSame
open Go.ChangeShapes Go.WideShapes Go.ChangeAt Go.RowKit Go.ChangeMaps

theorem same_a (n : Int) : cmpC 3 n (showT n) 3 n (padT n) = 0 := by unfold cmpC; rw [if_neg (by decide)]; unfold cmpI; rw [if_neg (by show ¬ numC 3 n < numC 3 n; omega), if_neg (by show ¬ numC 3 n < numC 3 n; omega)]
theorem same_b (n : Int) (s : ByteArray) : cmpC 3 n s 1 n ⟨#[]⟩ = 0 := by unfold cmpC; rw [if_neg (by decide)]; unfold cmpI; rw [if_neg (by show ¬ n < n; omega), if_neg (by show ¬ n < n; omega)]
theorem same_c (n : Int) (s : ByteArray) : cmpC 1 n ⟨#[]⟩ 3 n s = 0 := by unfold cmpC; rw [if_neg (by decide)]; unfold cmpI; rw [if_neg (by show ¬ n < n; omega), if_neg (by show ¬ n < n; omega)]

set_option maxRecDepth 100000 in
set_option maxHeartbeats 16000000 in
theorem walk (k0 n0 : Int) (s0 : ByteArray) (n : Int) (hn0 : Fits n0) (hn : Fits n) (w : World) :
    Calls Tryd.prog 8 #[.agg #[.int .i64 k0, .int .i64 n0, .string s0], .int .i64 n] w fun e w' => e = .returned (.bool true) ∧ Below w.heap.size w w' := by
  have LV := Lib.hid lives_any
  have X := boxed1 w (.int .i64 k0) (.int .i64 n0) (.string s0) 24
  have B0 := Lib.hid X.1.out
  have T0_0 := Lib.hid X.2
  clear X
  by_cases hs0 : s0.size ≤ 300
  case neg =>
    have SM0 := fun w => small_any k0 n0 s0 w
    rw [decide_eq_false (show ¬ (s0.size : Int) ≤ 300 by omega)] at SM0
    have SM0 := Lib.hid SM0
    clear hs0
    go_enter Tryd.func8, Tryd.ntmps8
    go_wp2_with fail
    refine (SM0.out _).mono ?_
    rintro e w1 ⟨rfl, b1⟩
    have T0_1 := Lib.hid (T0_0.out.below b1)
    have c00 := T0_1.out.c0
    have c01 := T0_1.out.c1
    have c02 := T0_1.out.c2
    have B1 := Lib.hid (Below.step B0.out b1); clear b1
    go_wp2_with fail
    refine (LV.out _).mono ?_
    rintro e w2 ⟨rfl, b2⟩
    clear c00 c01 c02
    have B2 := Lib.hid (Below.step B1.out b2); clear b2
    go_wp2_with fail
    go_ret
    exact ⟨rfl, B2.out⟩
  have SM0 := fun w => small_any k0 n0 s0 w
  rw [decide_eq_true (show (s0.size : Int) ≤ 300 by omega)] at SM0
  have SM0 := Lib.hid SM0
  cases hc0 : canB k0 n0 s0
  case false =>
    have CN0 := fun w => refCan_any k0 n0 s0 (by omega) w
    rw [hc0] at CN0
    have CN0 := Lib.hid CN0
    clear hc0 hs0
    go_enter Tryd.func8, Tryd.ntmps8
    go_wp2_with fail
    refine (SM0.out _).mono ?_
    rintro e w1 ⟨rfl, b1⟩
    have T0_1 := Lib.hid (T0_0.out.below b1)
    have c00 := T0_1.out.c0
    have c01 := T0_1.out.c1
    have c02 := T0_1.out.c2
    have B1 := Lib.hid (Below.step B0.out b1); clear b1
    go_wp2_with fail
    refine (CN0.out _).mono ?_
    rintro e w2 ⟨rfl, b2⟩
    clear c00 c01 c02
    have T0_2 := Lib.hid (T0_1.out.below b2)
    have c00 := T0_2.out.c0
    have c01 := T0_2.out.c1
    have c02 := T0_2.out.c2
    have B2 := Lib.hid (Below.step B1.out b2); clear b2
    go_wp2_with fail
    refine (LV.out _).mono ?_
    rintro e w3 ⟨rfl, b3⟩
    clear c00 c01 c02
    have B3 := Lib.hid (Below.step B2.out b3); clear b3
    go_wp2_with fail
    go_ret
    exact ⟨rfl, B3.out⟩
  have CN0 := fun w => refCan_any k0 n0 s0 (by omega) w
  rw [hc0] at CN0
  have CN0 := Lib.hid CN0
  clear hc0 hs0
  have RS := Lib.hid (fun w => refShow_is n w hn)
  have I1 := fun w => input_any (showT n) (by have := showT_size n; omega) w
  rw [(show_in n hn).1, (show_in n hn).2] at I1
  have I2 := fun w => input_any (padT n) (by have := padT_size n; omega) w
  rw [(pad_in n hn).1, (pad_in n hn).2] at I2
  have ON := Lib.hid (fun w => ofNum_any n w)
  have C1 := fun w => compare_cell k0 n0 s0 k0 n0 s0 hn0 hn0 w
  rw [cmpC_self] at C1
  have hY := cmpC_self k0 n0 s0
  have hA := same_a n
  have hB := same_b n (showT n)
  have hD := same_c n (padT n)
  have hp : ({ data := #[32] } : ByteArray) ++ showT n ++ ({ data := #[10] } : ByteArray) = padT n := rfl
  have I1 := Lib.hid I1
  have I2 := Lib.hid I2
  obtain ⟨t, ht⟩ : ∃ t, showT n = t := ⟨_, rfl⟩
  obtain ⟨u, hu⟩ : ∃ u, padT n = u := ⟨_, rfl⟩
  have hz := showT_size n
  rw [ht] at RS I1 hA hB hp hz
  rw [hu] at I2 hA hD hp
  clear ht hu C1
  go_enter Tryd.func8, Tryd.ntmps8
  go_wp2_with fail
  refine (SM0.out _).mono ?_
  rintro e w1 ⟨rfl, b1⟩
  have T0_1 := Lib.hid (T0_0.out.below b1)
  have c00 := T0_1.out.c0
  have c01 := T0_1.out.c1
  have c02 := T0_1.out.c2
  have B1 := Lib.hid (Below.step B0.out b1); clear b1
  go_wp2_with fail
  refine (CN0.out _).mono ?_
  rintro e w2 ⟨rfl, b2⟩
  clear c00 c01 c02
  have T0_2 := Lib.hid (T0_1.out.below b2)
  have c00 := T0_2.out.c0
  have c01 := T0_2.out.c1
  have c02 := T0_2.out.c2
  have B2 := Lib.hid (Below.step B1.out b2); clear b2
  go_wp2_with fail
  refine (RS.out _).mono ?_
  rintro e w3 ⟨rfl, b3⟩
  clear c00 c01 c02
  have T0_3 := Lib.hid (T0_2.out.below b3)
  have c00 := T0_3.out.c0
  have c01 := T0_3.out.c1
  have c02 := T0_3.out.c2
  have B3 := Lib.hid (Below.step B2.out b3); clear b3
  go_wp2_with fail
  refine (I1.out _).mono ?_
  rintro e w4 ⟨rfl, b4⟩
  clear c00 c01 c02
  have T0_4 := Lib.hid (T0_3.out.below b4)
  have c00 := T0_4.out.c0
  have c01 := T0_4.out.c1
  have c02 := T0_4.out.c2
  have B4 := Lib.hid (Below.step B3.out b4); clear b4
  go_wp2_with fail
  refine (I2.out _).mono ?_
  rintro e w5 ⟨rfl, b5⟩
  clear c00 c01 c02
  have T0_5 := Lib.hid (T0_4.out.below b5)
  have c00 := T0_5.out.c0
  have c01 := T0_5.out.c1
  have c02 := T0_5.out.c2
  have B5 := Lib.hid (Below.step B4.out b5); clear b5
  have X := boxed2 w5 (.int .i64 3) (.int .i64 n) (.string t) (.int .i64 3) (.int .i64 n) (.string u) 24 24
  have H0 := Lib.hid (held3 (Below.step B5.out X.1.out) (T0_5.out.below X.1.out) X.2.1 X.2.2)
  clear X B0 B1 B2 B3 B4 B5 T0_0 T0_1 T0_2 T0_3 T0_4 T0_5 c00 c01 c02 SM0 CN0 RS I1 I2 hp
  go_wp2_with fail
  go_region_held3 (fun w' => Hid (Below w.heap.size w w') ∧ w'.cell? ⟨w.heap.size, 0, none⟩ = some (.int .i64 k0) ∧ w'.cell? ⟨w.heap.size, 1, none⟩ = some (.int .i64 n0) ∧ w'.cell? ⟨w.heap.size, 2, none⟩ = some (.string s0) ∧ w'.cell? ⟨w5.heap.size, 0, none⟩ = some (.int .i64 3) ∧ w'.cell? ⟨w5.heap.size, 1, none⟩ = some (.int .i64 n) ∧ w'.cell? ⟨w5.heap.size, 2, none⟩ = some (.string t) ∧ w'.cell? ⟨w5.heap.size + 1, 0, none⟩ = some (.int .i64 3) ∧ w'.cell? ⟨w5.heap.size + 1, 1, none⟩ = some (.int .i64 n) ∧ w'.cell? ⟨w5.heap.size + 1, 2, none⟩ = some (.string u))
    (first | exact keep3 H0.out (below_drew _) | exact keep3 (by assumption) (by assumption) | assumption)
    (first
      | (go_at_call 16; refine (compare_cell _ _ _ _ _ _ (by assumption) (by assumption) _).mono ?_; rintro e v1 ⟨rfl, a1⟩; first | rw [hY] | rw [hA] | rw [hB] | rw [hD])
      | (go_at_call 20; refine (ON.out _).mono ?_; rintro e v1 ⟨rfl, a1⟩)
      | (go_at_call 9; refine (LV.out _).mono ?_; rintro e v1 ⟨rfl, a1⟩))
  have HE := Lib.hid (And.left (show Hid _ ∧ _ by assumption))
  go_wp2_with fail
  go_ret
  exact ⟨rfl, HE.out.out⟩

theorem laid_met (os : Os) : laidMet Tryd.prog Rows.cellSameRow.laid ((laidWorld os).forCall (fun _ _ => 0) ⟨#[], #[.agg #[.int .i64 0, .int .i64 0, .string ⟨#[]⟩], .int .i64 0], []⟩).memory :=
  laidMet_of_run' 8 (by kernel_rfl) (by kernel_rfl)
theorem reads (os : Os) {H : Type} (enc : TypeId × Value → H) : ∃ places, DataW.whole enc Tryd.prog ((laidWorld os).forCall (fun _ _ => 0) ⟨#[], #[.agg #[.int .i64 0, .int .i64 0, .string ⟨#[]⟩], .int .i64 0], []⟩).memory Tryd.f8.params.toList Rows.cellSameSpec.vars false #[.agg #[.int .i64 0, .int .i64 0, .string ⟨#[]⟩], .int .i64 0].toList 8 = some ([.agg [.lit (.int .i64 0), .lit (.int .i64 0), .lit (.string [])], .lit (.int .i64 0)], [], places) :=
  ⟨[], by kernel_rfl⟩

set_option maxRecDepth 100000 in
theorem lifted (os : Os) (started : os.Started) (H : Type) (enc : TypeId × Value → H) (F : Stop.Interp) :
    ReturnsInHanded {} Tryd.checked os 8 .any ((OpenSpec.ofChange Rows.cellSameSpec).preRow enc Tryd.prog Tryd.f8 Rows.cellSameRow.domain false Rows.cellSameRow.laid) (((OpenSpec.ofChange Rows.cellSameSpec).at F).post enc Tryd.prog Tryd.f8 false true false false) := by
  obtain ⟨places, hx⟩ := reads os enc
  refine returnsInHanded_of_row (C := Tryd.checked) (s := (OpenSpec.ofChange Rows.cellSameSpec)) own started (by kernel_rfl) Tryd.func8
    (witness_row_at (enc := enc) (C := Tryd.checked) false (laidWorld os) #[.agg #[.int .i64 0, .int .i64 0, .string ⟨#[]⟩], .int .i64 0] rfl (by kernel_rfl) (by kernel_rfl) (by kernel_rfl)
      (OpenSpec.preRow_of_cond 8 hx (by kernel_rfl) (fun k hk => by cases hk) (by kernel_rfl) (laid_met os))) ?_
  intro W base args ds gs before hval0 hW _ _ _ _ _ _
  have hval : ∀ (j : Nat) t v, Tryd.f8.params[j]? = some t → args[j]? = some v → Value.okWide Tryd.prog W .any base t v := hval0
  have hW' := hW
  obtain ⟨p, q, hA0, hV, rfl, hfz, hnd⟩ := hW
  have hA : DataW.TrodAll enc Tryd.prog W 0 (fun _ => true) true Tryd.f8.params.toList args.toList ds p := hA0
  rw [Tryd.params8] at hA hval
  obtain ⟨v0, vs0, d0, ds0, p0, q0, hargs, rfl, rfl, h0, r0⟩ := trodAll_cons hA
  obtain ⟨v1, vs1, d1, ds1, p1, q1, rfl, rfl, rfl, h1, r1⟩ := trodAll_cons r0
  obtain ⟨rfl, rfl, rfl⟩ := trodAll_nil r1
  obtain rfl : args = #[v0, v1] := by cases args; simp_all
  obtain ⟨rfl, rfl⟩ := trodVars_none hV
  obtain ⟨k0, n0, s0, rfl, rfl, rfl, wk0, wn0, ws0⟩ := open_cell (hval 0 24 v0 rfl rfl) h0
  obtain ⟨a1, rfl, rfl, rfl, w1⟩ := open_int Tryd.underlying2 (hval 1 2 v1 rfl rfl) h1
  clear hA0 hval0
  simp only [List.append_nil] at hW'
  refine (walk k0 n0 s0 a1 (wf_fits wn0) (wf_fits w1) W).mono fun e W' ⟨he, hg⟩ => ?_
  subst he
  exact ⟨_, rfl, post_bare hW' (fun _ _ _ => (trodAll_cons_mk (shut_bool Tryd.underlying4 _) trodAll_mk0)) (fun sp => (trodAll_cons_mk (shut_cell wk0 wn0 ws0) (trodAll_cons_mk (shut_int Tryd.underlying2 w1) trodAll_mk0))) (fun _ => rfl) hg⟩

theorem said : Rows.CellSameSaid :=
  OpenClaim.holds_of_cond 8 Tryd.f8 rfl rfl rfl rfl rfl rfl rfl ⟨rfl, rfl, rfl, rfl, rfl⟩ rfl rfl rfl rfl rfl (by kernel_rfl) Tryd.func8 (by kernel_rfl)
    (of_decide_eq_true (by kernel_rfl)) (by unfold Func.isWrapper; first | (rw [if_pos (by decide +kernel)]; kernel_rfl) | (rw [if_neg (by decide +kernel)]; exact ⟨rfl, rfl⟩))
    (fun os started H enc _ F => by rw [OpenClaim.pre_eq_preRow]; exact lifted os started H enc F)

theorem plain (f : FuncId) (fn : Func) (hf : Tryd.pinned.checked.prog.funcNamed "auklet/aukletlaw03.CellSame" = some f) (hfn : Tryd.pinned.checked.prog.funcs[f]? = some fn) :
    true = Tryd.pinned.checked.prog.looks [] ∧ ∀ (j : Nat) t, fn.params[j]? = some t → Tryd.pinned.checked.prog.wantsStandIn t = false := by
  obtain rfl : f = 8 := Option.some.inj ((show Tryd.prog.funcNamed "auklet/aukletlaw03.CellSame" = some 8 by kernel_rfl).symm.trans hf) |>.symm
  obtain rfl : fn = Tryd.f8 := (Option.some.inj (Tryd.func8.symm.trans hfn)).symm
  refine ⟨by kernel_rfl, fun j t ht => ?_⟩
  rw [Tryd.params8] at ht
  have hm := Array.mem_of_getElem? ht
  simp only [List.mem_toArray, List.mem_cons, List.mem_nil_iff, or_false] at hm
  rcases hm with rfl | rfl
  · exact (show Tryd.prog.wantsStandIn 24 = false by kernel_rfl)
  · exact (show Tryd.prog.wantsStandIn 2 = false by kernel_rfl)

theorem proved : Rows.CellSameCardSaid :=
  Claim7.holds_tied_plain_at .later [] _ _ _ _ said (fun _ h => by cases h) (by kernel_rfl) (fun _ h => by cases h) cellSame_row_tie rfl ⟨rfl, rfl⟩ (by kernel_rfl) rfl plain (by kernel_rfl)
#print axioms proved
end Go.Proofs.YtpmfkmolbioomaaDoor.cellSame

