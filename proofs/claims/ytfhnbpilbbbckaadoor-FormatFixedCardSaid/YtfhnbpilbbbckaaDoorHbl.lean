/- FormatFixed: for every number and every count of digits the law returns true: the program's Fixed and Whole tell the same texts as the document's. Conditions: none beyond the row's own (the three tables of the library that its calls read are laid as their initialisers lay them). -/
import Derived.Test.YtfhnbpilbbbckaaDoorHbd
import Derived.Test.YtfhnbpilbbbckaaDoorHbk
import Derived.Test.YtfhnbpilbbbckaaDoorHae
import Derived.Test.YtfhnbpilbbbckaaDoorHai
import Derived.Test.YtfhnbpilbbbckaaDoorHat
import Derived.Test.YtfhnbpilbbbckaaDoorHac
/- FormatFixed: a walk. -/
namespace Go.Proofs.YtfhnbpilbbbckaaDoor
open Go.RowKit

theorem ofL_is {s : ByteArray} {l : List UInt8} (h : s.data.toList = l) : s = ofL l := by rw [← h, ofL_of]

set_option maxRecDepth 100000 in
set_option maxHeartbeats 2000000 in
theorem walkFixed (n : Int) (hn : T3.Fits n) (dg : Int) (w : World) (hE : Env w) :
    Calls Tryd.prog 3 #[.int .i64 n, .int .i64 dg] w fun e w' => e = .returned (.bool true) ∧ Below w.heap.size w w' := by
  have HL := Lib.hid (fun (W : World) (hb : Below w.heap.size w W) => lives_any W (hE.after hb))
  obtain ⟨F, hF⟩ : ∃ F, F = ofL (fixedS n dg) := ⟨_, rfl⟩
  have HP : Hid (∀ W, Below w.heap.size w W → Calls Tryd.prog 4 #[.int .i64 n, .int .i64 dg] W fun e w' => e = .returned (.string F) ∧ Below W.heap.size W w') := Lib.hid (fun W hb => by
    rw [hF]; exact (fixedP_any n hn dg W (hE.after hb)).mono fun e w' h => h)
  have HR : Hid (∀ W, Calls Tryd.prog 5 #[.int .i64 n, .int .i64 dg] W fun e w' => e = .returned (.string F) ∧ Below W.heap.size W w') := Lib.hid (fun W => by
    rw [hF]; exact (refFixed_any n hn dg W).mono fun e w' ⟨s, h1, h2, h3⟩ => ⟨by rw [h1, ofL_is h2.out], h3⟩)
  have hWP : ∀ (b : Nat) (hb : b = 8 ∨ b = 10 ∨ b = 16) (g : Bool) (W : World), Below w.heap.size w W → Calls Tryd.prog 6 #[.int .i64 n, .int .i64 b, .bool g] W fun e w' => e = .returned (.string (ofL (wholeS n b g))) ∧ Below W.heap.size W w' := fun b hb g W h => (wholeP_any n hn b hb g W (hE.after h)).mono fun e w' h => h
  have hWR : ∀ (b : Nat) (hb : b = 8 ∨ b = 10 ∨ b = 16) (g : Bool) (W : World), Calls Tryd.prog 7 #[.int .i64 n, .int .i64 b, .bool g] W fun e w' => e = .returned (.string (ofL (wholeS n b g))) ∧ Below W.heap.size W w' := fun b hb g W => (whole_any10 n hn b (by omega) g W).mono fun e w' ⟨s, h1, h2, h3⟩ => ⟨by rw [h1, ofL_is h2.out], h3⟩
  obtain ⟨A, hA⟩ : ∃ A, A = ofL (wholeS n 10 false) := ⟨_, rfl⟩
  obtain ⟨B, hB⟩ : ∃ B, B = ofL (wholeS n 8 false) := ⟨_, rfl⟩
  obtain ⟨C, hC⟩ : ∃ C, C = ofL (wholeS n 16 false) := ⟨_, rfl⟩
  obtain ⟨D, hD⟩ : ∃ D, D = ofL (wholeS n 16 true) := ⟨_, rfl⟩
  have P10 : Hid (∀ W, Below w.heap.size w W → Calls Tryd.prog 6 #[.int .i64 n, .int .i64 10, .bool false] W fun e w' => e = .returned (.string A) ∧ Below W.heap.size W w') := Lib.hid (by rw [hA]; exact hWP 10 (by omega) false)
  have P8 : Hid (∀ W, Below w.heap.size w W → Calls Tryd.prog 6 #[.int .i64 n, .int .i64 8, .bool false] W fun e w' => e = .returned (.string B) ∧ Below W.heap.size W w') := Lib.hid (by rw [hB]; exact hWP 8 (by omega) false)
  have P16 : Hid (∀ W, Below w.heap.size w W → Calls Tryd.prog 6 #[.int .i64 n, .int .i64 16, .bool false] W fun e w' => e = .returned (.string C) ∧ Below W.heap.size W w') := Lib.hid (by rw [hC]; exact hWP 16 (by omega) false)
  have P17 : Hid (∀ W, Below w.heap.size w W → Calls Tryd.prog 6 #[.int .i64 n, .int .i64 16, .bool true] W fun e w' => e = .returned (.string D) ∧ Below W.heap.size W w') := Lib.hid (by rw [hD]; exact hWP 16 (by omega) true)
  have R10 : Hid (∀ W, Calls Tryd.prog 7 #[.int .i64 n, .int .i64 10, .bool false] W fun e w' => e = .returned (.string A) ∧ Below W.heap.size W w') := Lib.hid (by rw [hA]; exact hWR 10 (by omega) false)
  have R8 : Hid (∀ W, Calls Tryd.prog 7 #[.int .i64 n, .int .i64 8, .bool false] W fun e w' => e = .returned (.string B) ∧ Below W.heap.size W w') := Lib.hid (by rw [hB]; exact hWR 8 (by omega) false)
  have R16 : Hid (∀ W, Calls Tryd.prog 7 #[.int .i64 n, .int .i64 16, .bool false] W fun e w' => e = .returned (.string C) ∧ Below W.heap.size W w') := Lib.hid (by rw [hC]; exact hWR 16 (by omega) false)
  have R17 : Hid (∀ W, Calls Tryd.prog 7 #[.int .i64 n, .int .i64 16, .bool true] W fun e w' => e = .returned (.string D) ∧ Below W.heap.size W w') := Lib.hid (by rw [hD]; exact hWR 16 (by omega) true)
  clear hF hA hB hC hD hWP hWR hE hn
  go_enter Tryd.func3, Tryd.ntmps3
  go_wp2_with fail
  refine (HP.out _ (Below.refl _ _)).mono ?_
  rintro e w1 ⟨rfl, b1⟩
  have B1 := Lib.hid b1
  clear b1
  go_wp2_with fail
  refine (HR.out _).mono ?_
  rintro e w2 ⟨rfl, b2⟩
  have B2 := Lib.hid (Below.step B1.out b2)
  clear b2
  go_wp2_with fail
  refine (P10.out _ B2.out).mono ?_
  rintro e w3 ⟨rfl, b3⟩
  have B3 := Lib.hid (Below.step B2.out b3)
  clear b3
  go_wp2_with fail
  refine (R10.out _).mono ?_
  rintro e w4 ⟨rfl, b4⟩
  have B4 := Lib.hid (Below.step B3.out b4)
  clear b4
  go_wp2_with fail
  refine (P8.out _ B4.out).mono ?_
  rintro e w5 ⟨rfl, b5⟩
  have B5 := Lib.hid (Below.step B4.out b5)
  clear b5
  go_wp2_with fail
  refine (R8.out _).mono ?_
  rintro e w6 ⟨rfl, b6⟩
  have B6 := Lib.hid (Below.step B5.out b6)
  clear b6
  go_wp2_with fail
  refine (P16.out _ B6.out).mono ?_
  rintro e w7 ⟨rfl, b7⟩
  have B7 := Lib.hid (Below.step B6.out b7)
  clear b7
  go_wp2_with fail
  refine (R16.out _).mono ?_
  rintro e w8 ⟨rfl, b8⟩
  have B8 := Lib.hid (Below.step B7.out b8)
  clear b8
  go_wp2_with fail
  refine (P17.out _ B8.out).mono ?_
  rintro e w9 ⟨rfl, b9⟩
  have B9 := Lib.hid (Below.step B8.out b9)
  clear b9
  go_wp2_with fail
  refine (R17.out _).mono ?_
  rintro e w10 ⟨rfl, b10⟩
  have B10 := Lib.hid (Below.step B9.out b10)
  clear b10
  go_wp2_with fail
  refine (HL.out _ B10.out).mono ?_
  rintro e w11 ⟨rfl, b11⟩
  have B11 := Lib.hid (Below.step B10.out b11)
  clear b11
  go_wp2_with fail
  go_ret
  exact ⟨rfl, B11.out⟩
end Go.Proofs.YtfhnbpilbbbckaaDoor

namespace Go.Proofs.YtfhnbpilbbbckaaDoor.formatFixed
open Go.ChangeShapes Go.WideShapes Go.ChangeAt Go.RowKit Go.ChangeMaps

theorem laid_met (os : Os) : laidMet Tryd.prog Rows.formatFixedRow.laid ((laidWorld os).forCall (fun _ _ => 0) ⟨#[], #[.int .i64 0, .int .i64 0], []⟩).memory :=
  laidMet_of_run' 8 (by kernel_rfl) (by kernel_rfl)
theorem reads (os : Os) {H : Type} (enc : TypeId × Value → H) : ∃ places, DataW.whole enc Tryd.prog ((laidWorld os).forCall (fun _ _ => 0) ⟨#[], #[.int .i64 0, .int .i64 0], []⟩).memory Tryd.f3.params.toList Rows.formatFixedSpec.vars false #[.int .i64 0, .int .i64 0].toList 8 = some ([.lit (.int .i64 0), .lit (.int .i64 0)], [], places) :=
  ⟨[], by kernel_rfl⟩

set_option maxRecDepth 100000 in
theorem lifted (os : Os) (started : os.Started) (H : Type) (enc : TypeId × Value → H) (F : Stop.Interp) :
    ReturnsInHanded {} Tryd.checked os 3 .any ((OpenSpec.ofChange Rows.formatFixedSpec).preRow enc Tryd.prog Tryd.f3 Rows.formatFixedRow.domain false Rows.formatFixedRow.laid) (((OpenSpec.ofChange Rows.formatFixedSpec).at F).post enc Tryd.prog Tryd.f3 false true false false) := by
  obtain ⟨places, hx⟩ := reads os enc
  refine returnsInHanded_of_row (C := Tryd.checked) (s := (OpenSpec.ofChange Rows.formatFixedSpec)) own started (by kernel_rfl) Tryd.func3
    (witness_row_at (enc := enc) (C := Tryd.checked) false (laidWorld os) #[.int .i64 0, .int .i64 0] rfl (by kernel_rfl) (by kernel_rfl) (by kernel_rfl)
      (OpenSpec.preRow_of_cond 8 hx (by kernel_rfl) (fun k hk => by cases hk) (by kernel_rfl) (laid_met os))) ?_
  intro W base args ds gs before hval0 hW _ _ _ hlaid hsh _
  have hE : Env W := env_of hlaid hsh
  have hval : ∀ (j : Nat) t v, Tryd.f3.params[j]? = some t → args[j]? = some v → Value.okWide Tryd.prog W .any base t v := hval0
  have hW' := hW
  obtain ⟨p, q, hA0, hV, rfl, hfz, hnd⟩ := hW
  have hA : DataW.TrodAll enc Tryd.prog W 0 (fun _ => true) true Tryd.f3.params.toList args.toList ds p := hA0
  rw [Tryd.params3] at hA hval
  obtain ⟨v0, vs0, d0, ds0, p0, q0, hargs, rfl, rfl, h0, r0⟩ := trodAll_cons hA
  obtain ⟨v1, vs1, d1, ds1, p1, q1, rfl, rfl, rfl, h1, r1⟩ := trodAll_cons r0
  obtain ⟨rfl, rfl, rfl⟩ := trodAll_nil r1
  obtain rfl : args = #[v0, v1] := by cases args; simp_all
  obtain ⟨rfl, rfl⟩ := trodVars_none hV
  obtain ⟨a0, rfl, rfl, rfl, w0⟩ := open_int Tryd.underlying2 (hval 0 2 v0 rfl rfl) h0
  obtain ⟨a1, rfl, rfl, rfl, w1⟩ := open_int Tryd.underlying3 (hval 1 3 v1 rfl rfl) h1
  clear hA0 hval0
  simp only [List.append_nil] at hW'
  refine (walkFixed a0 (wf_fits w0) a1 W hE).mono fun e W' ⟨he, hg⟩ => ?_
  subst he
  exact ⟨_, rfl, post_reads hW' (fun _ _ _ => (trodAll_cons_mk (shut_bool Tryd.underlying4 _) trodAll_mk0)) (fun sp _ => (trodAll_cons_mk (shut_int Tryd.underlying2 w0) (trodAll_cons_mk (shut_int Tryd.underlying3 w1) (trodAll_mk0 (enc := enc) (P := Tryd.prog) (w := W') (base := 0) (spare := sp) (held := true))))) (fun _ => rfl) hg⟩

theorem said : Rows.FormatFixedSaid :=
  OpenClaim.holds_of_cond 3 Tryd.f3 rfl rfl rfl rfl rfl rfl rfl ⟨rfl, rfl, rfl, rfl, rfl⟩ rfl rfl rfl rfl rfl (by kernel_rfl) Tryd.func3 (by kernel_rfl)
    (of_decide_eq_true (by kernel_rfl)) (by unfold Func.isWrapper; first | (rw [if_pos (by decide +kernel)]; kernel_rfl) | (rw [if_neg (by decide +kernel)]; exact ⟨rfl, rfl⟩))
    (fun os started H enc _ F => by rw [OpenClaim.pre_eq_preRow]; exact lifted os started H enc F)

theorem plain (f : FuncId) (fn : Func) (hf : Tryd.pinned.checked.prog.funcNamed "auklet/aukletlaw10.FormatFixed" = some f) (hfn : Tryd.pinned.checked.prog.funcs[f]? = some fn) :
    false = Tryd.pinned.checked.prog.looks [] ∧ ∀ (j : Nat) t, fn.params[j]? = some t → Tryd.pinned.checked.prog.wantsStandIn t = false := by
  obtain rfl : f = 3 := Option.some.inj ((show Tryd.prog.funcNamed "auklet/aukletlaw10.FormatFixed" = some 3 by kernel_rfl).symm.trans hf) |>.symm
  obtain rfl : fn = Tryd.f3 := (Option.some.inj (Tryd.func3.symm.trans hfn)).symm
  refine ⟨by kernel_rfl, fun j t ht => ?_⟩
  rw [Tryd.params3] at ht
  have hm := Array.mem_of_getElem? ht
  simp only [List.mem_toArray, List.mem_cons, List.mem_nil_iff, or_false] at hm
  rcases hm with rfl | rfl
  · exact (show Tryd.prog.wantsStandIn 2 = false by kernel_rfl)
  · exact (show Tryd.prog.wantsStandIn 3 = false by kernel_rfl)

theorem proved : Rows.FormatFixedCardSaid :=
  Claim7.holds_tied_plain_at .later [] _ _ _ _ said (fun _ h => by cases h) (by kernel_rfl) (fun _ h => by cases h) formatFixed_row_tie rfl ⟨rfl, rfl⟩ (by kernel_rfl) rfl plain (by kernel_rfl)
#print axioms proved
end Go.Proofs.YtfhnbpilbbbckaaDoor.formatFixed
