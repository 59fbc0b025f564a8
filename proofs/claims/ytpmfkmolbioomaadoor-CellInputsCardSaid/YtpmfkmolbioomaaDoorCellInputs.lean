/- CellInputs: for any text the law returns true, and its argument reads as before. The condition: unicode/utf8's two tables as the program's text lays them (the card ties them). -/
import Derived.Test.YtpmfkmolbioomaaDoorCards
import Derived.Test.YtpmfkmolbioomaaDoorTie
import Derived.Test.YtpmfkmolbioomaaDoorPost
import Derived.Test.YtpmfkmolbioomaaDoorCellD
import Derived.Test.YtpmfkmolbioomaaDoorCellF
namespace Go.Proofs.YtpmfkmolbioomaaDoor.cellInputs
open Go.ChangeShapes Go.WideShapes Go.ChangeAt Go.RowKit Go.ChangeMaps

theorem can_input (s : ByteArray) : canB (inK s) (inN s) s = true := by
  cases h : looksB s
  · have hk : inK s = 2 := by unfold inK; rw [h]; rfl
    have hn : inN s = 0 := by unfold inN; rw [h]; rfl
    rw [hk, hn]; rfl
  · have hk : inK s = 3 := by unfold inK; rw [h]; rfl
    rw [hk, canB_3, decide_eq_true ⟨h, rfl⟩]

set_option maxRecDepth 100000 in
set_option maxHeartbeats 4000000 in
theorem walk (s : ByteArray) (_ : s.size ≤ maxLen) (w : World) :
    Calls Tryd.prog 3 #[.string s] w fun e w' => e = .returned (.bool true) ∧ Below w.heap.size w w' := by
  by_cases h300 : 300 < s.size
  · go_enter Tryd.func3, Tryd.ntmps3
    go_wp2_with fail
    refine (lives_any _).mono ?_
    rintro e w1 ⟨rfl, b1⟩
    have B1 := Lib.hid b1; clear b1
    go_wp2_with fail
    go_ret
    exact ⟨rfl, B1.out⟩
  · have hs : s.size ≤ 300 := by omega
    have I1 := Lib.hid (fun w => input_any s (by omega) w)
    have I2 := Lib.hid (fun w => refInput_any s hs w)
    have CN := fun w => can_any (inK s) (inN s) s (by omega) w
    rw [can_input] at CN
    have CN := Lib.hid CN
    have OS := Lib.hid (fun w => ofStr_any s w)
    have LV := Lib.hid lives_any
    obtain ⟨K, hK⟩ : ∃ K, K = inK s := ⟨_, rfl⟩
    obtain ⟨M, hM⟩ : ∃ M, M = inN s := ⟨_, rfl⟩
    rw [← hK, ← hM] at I1 I2 CN
    clear hK hM h300
    go_enter Tryd.func3, Tryd.ntmps3
    go_wp2_with fail
    refine (I1.out _).mono ?_
    rintro e w1 ⟨rfl, b1⟩
    have H0 := Lib.hid (held1 (Below.step b1 (below_new w1 (.cells #[.int .i64 K, .int .i64 M, .string s] 24))) (tri_new w1 (.int .i64 K) (.int .i64 M) (.string s) 24))
    clear b1
    go_wp2_with fail
    go_region_held3 (fun w' => Hid (Below w.heap.size w w') ∧ w'.cell? ⟨w1.heap.size, 0, none⟩ = some (.int .i64 K) ∧ w'.cell? ⟨w1.heap.size, 1, none⟩ = some (.int .i64 M) ∧ w'.cell? ⟨w1.heap.size, 2, none⟩ = some (.string s))
      (first | exact keep1 H0.out (below_drew _) | exact keep1 (by assumption) (by assumption) | assumption)
      (first
        | (go_at_call 11; refine (I2.out _).mono ?_; rintro e w2 ⟨rfl, b2⟩)
        | (go_at_call 12; refine (CN.out _).mono ?_; rintro e w2 ⟨rfl, b2⟩)
        | (go_at_call 13; refine (OS.out _).mono ?_; rintro e w2 ⟨rfl, b2⟩)
        | (go_at_call 9; refine (LV.out _).mono ?_; rintro e w2 ⟨rfl, b2⟩))
    have HE := Lib.hid (And.left (show Hid _ ∧ _ by assumption))
    go_wp2_with fail
    go_ret
    exact ⟨rfl, HE.out.out⟩

theorem laid_met (os : Os) : laidMet Tryd.prog Rows.cellInputsRow.laid ((laidWorld os).forCall (fun _ _ => 0) ⟨#[], #[.string ⟨#[]⟩], []⟩).memory :=
  laidMet_of_run' 8 (by kernel_rfl) (by kernel_rfl)
theorem reads (os : Os) {H : Type} (enc : TypeId × Value → H) : ∃ places, DataW.whole enc Tryd.prog ((laidWorld os).forCall (fun _ _ => 0) ⟨#[], #[.string ⟨#[]⟩], []⟩).memory Tryd.f3.params.toList Rows.cellInputsSpec.vars false #[.string ⟨#[]⟩].toList 8 = some ([.lit (.string [])], [], places) :=
  ⟨[], by kernel_rfl⟩

set_option maxRecDepth 100000 in
theorem lifted (os : Os) (started : os.Started) (H : Type) (enc : TypeId × Value → H) (F : Stop.Interp) :
    ReturnsInHanded {} Tryd.checked os 3 .any ((OpenSpec.ofChange Rows.cellInputsSpec).preRow enc Tryd.prog Tryd.f3 Rows.cellInputsRow.domain false Rows.cellInputsRow.laid) (((OpenSpec.ofChange Rows.cellInputsSpec).at F).post enc Tryd.prog Tryd.f3 false true false false) := by
  obtain ⟨places, hx⟩ := reads os enc
  refine returnsInHanded_of_row (C := Tryd.checked) (s := (OpenSpec.ofChange Rows.cellInputsSpec)) own started (by kernel_rfl) Tryd.func3
    (witness_row_at (enc := enc) (C := Tryd.checked) false (laidWorld os) #[.string ⟨#[]⟩] rfl (by kernel_rfl) (by kernel_rfl) (by kernel_rfl)
      (OpenSpec.preRow_of_cond 8 hx (by kernel_rfl) (fun k hk => by cases hk) (by kernel_rfl) (laid_met os))) ?_
  intro W base args ds gs before hval0 hW _ _ _ _ _ _
  have hval : ∀ (j : Nat) t v, Tryd.f3.params[j]? = some t → args[j]? = some v → Value.okWide Tryd.prog W .any base t v := hval0
  have hW' := hW
  obtain ⟨p, q, hA0, hV, rfl, hfz, hnd⟩ := hW
  have hA : DataW.TrodAll enc Tryd.prog W 0 (fun _ => true) true Tryd.f3.params.toList args.toList ds p := hA0
  rw [Tryd.params3] at hA hval
  obtain ⟨v0, vs0, d0, ds0, p0, q0, hargs, rfl, rfl, h0, r0⟩ := trodAll_cons hA
  obtain ⟨rfl, rfl, rfl⟩ := trodAll_nil r0
  obtain rfl : args = #[v0] := by cases args; simp_all
  obtain ⟨rfl, rfl⟩ := trodVars_none hV
  obtain ⟨a0, rfl, rfl, rfl, w0⟩ := open_string Tryd.underlying9 (hval 0 9 v0 rfl rfl) h0
  clear hA0 hval0
  simp only [List.append_nil] at hW'
  refine (walk a0 w0 W).mono fun e W' ⟨he, hg⟩ => ?_
  subst he
  exact ⟨_, rfl, post_bare hW' (fun _ _ _ => (trodAll_cons_mk (shut_bool Tryd.underlying4 _) trodAll_mk0)) (fun sp => (trodAll_cons_mk (shut_string Tryd.underlying9 w0) trodAll_mk0)) (fun _ => rfl) hg⟩

theorem said : Rows.CellInputsSaid :=
  OpenClaim.holds_of_cond 3 Tryd.f3 rfl rfl rfl rfl rfl rfl rfl ⟨rfl, rfl, rfl, rfl, rfl⟩ rfl rfl rfl rfl rfl (by kernel_rfl) Tryd.func3 (by kernel_rfl)
    (of_decide_eq_true (by kernel_rfl)) (by unfold Func.isWrapper; first | (rw [if_pos (by decide +kernel)]; kernel_rfl) | (rw [if_neg (by decide +kernel)]; exact ⟨rfl, rfl⟩))
    (fun os started H enc _ F => by rw [OpenClaim.pre_eq_preRow]; exact lifted os started H enc F)

theorem plain (f : FuncId) (fn : Func) (hf : Tryd.pinned.checked.prog.funcNamed "auklet/aukletlaw03.CellInputs" = some f) (hfn : Tryd.pinned.checked.prog.funcs[f]? = some fn) :
    true = Tryd.pinned.checked.prog.looks [] ∧ ∀ (j : Nat) t, fn.params[j]? = some t → Tryd.pinned.checked.prog.wantsStandIn t = false := by
  obtain rfl : f = 3 := Option.some.inj ((show Tryd.prog.funcNamed "auklet/aukletlaw03.CellInputs" = some 3 by kernel_rfl).symm.trans hf) |>.symm
  obtain rfl : fn = Tryd.f3 := (Option.some.inj (Tryd.func3.symm.trans hfn)).symm
  refine ⟨by kernel_rfl, fun j t ht => ?_⟩
  rw [Tryd.params3] at ht
  have hm := Array.mem_of_getElem? ht
  simp only [List.mem_toArray, List.mem_cons, List.mem_nil_iff, or_false] at hm
  subst hm
  exact (show Tryd.prog.wantsStandIn 9 = false by kernel_rfl)

theorem proved : Rows.CellInputsCardSaid :=
  Claim7.holds_tied_plain_at .later [] _ _ _ _ said (fun _ h => by cases h) (by kernel_rfl) (fun _ h => by cases h) cellInputs_row_tie rfl ⟨rfl, rfl⟩ (by kernel_rfl) rfl plain (by kernel_rfl)
#print axioms proved
end Go.Proofs.YtpmfkmolbioomaaDoor.cellInputs
