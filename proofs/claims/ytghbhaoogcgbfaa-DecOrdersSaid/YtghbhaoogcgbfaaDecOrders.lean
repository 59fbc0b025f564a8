/- DecOrders: for any three numbers the law returns true, and its arguments read as before. No condition. -/
import Derived.Test.YtghbhaoogcgbfaaPost
import Derived.Test.YtghbhaoogcgbfaaLives
namespace Go.Proofs.Ytghbhaoogcgbfaa.decOrders
open Go.ChangeShapes Go.WideShapes Go.ChangeAt Go.RowKit Go.ChangeMaps
theorem tdiv_mono {a b c : Int} (hc : 0 < c) (h : a ≤ b) : a.tdiv c ≤ b.tdiv c := Int.tdiv_le_tdiv hc h

/-- Of two answers the first is the lesser one, or one of both is an error. -/
theorem back_ord {x y : Int} (h : x ≤ y) : ((back x).2 != 0) = true ∨ (((back x).2 != 0) = false ∧ ((back y).2 != 0) = true) ∨ (((back x).2 != 0) = false ∧ ((back y).2 != 0) = false ∧ (back x).1 ≤ (back y).1) := by
  unfold back
  by_cases hx : Fits x <;> by_cases hy : Fits y <;> simp [hx, hy, h]

theorem mul_ord {a b c : Int} (h : a ≤ b) (hc : 0 < c) : ((mulAns a c).2 != 0) = true ∨ (((mulAns a c).2 != 0) = false ∧ ((mulAns b c).2 != 0) = true) ∨ (((mulAns a c).2 != 0) = false ∧ ((mulAns b c).2 != 0) = false ∧ (mulAns a c).1 ≤ (mulAns b c).1) :=
  back_ord (tdiv_mono (by omega) (Int.mul_le_mul_of_nonneg_right h (by omega)))

theorem div_ord {a b c : Int} (h : a ≤ b) (hc : 0 < c) : ((divAns a c).2 != 0) = true ∨ (((divAns a c).2 != 0) = false ∧ ((divAns b c).2 != 0) = true) ∨ (((divAns a c).2 != 0) = false ∧ ((divAns b c).2 != 0) = false ∧ (divAns a c).1 ≤ (divAns b c).1) := by
  unfold divAns
  rw [if_neg (by omega), if_neg (by omega)]
  exact back_ord (tdiv_mono hc (by omega))

set_option maxHeartbeats 1000000 in
theorem walkMain (a b c : Int) (ha : Fits a) (hb : Fits b) (hc : Fits c) (hab : a ≤ b) (hc0 : 0 < c) (w : World) :
    Calls Try.prog 9 #[.int .i64 a, .int .i64 b, .int .i64 c] w fun e w' => e = .returned (.bool true) ∧ Below w.heap.size w w' := by
  have M1 := Lib.hid (fun w => mul_any a c w ha hc)
  have M2 := Lib.hid (fun w => mul_any b c w hb hc)
  have D1 := Lib.hid (fun w => div_any a c w ha hc)
  have D2 := Lib.hid (fun w => div_any b c w hb hc)
  have MO := mul_ord hab hc0
  have DO := div_ord hab hc0
  generalize mulAns a c = m1 at *
  generalize mulAns b c = m2 at *
  generalize divAns a c = d1 at *
  generalize divAns b c = d2 at *
  have MOH := Lib.hid MO; clear MO
  have DOH := Lib.hid DO; clear DO
  clear ha hb hc
  go_enter Try.func9, Try.ntmps9
  go_wp2_with fail
  refine (M1.out _).mono ?_
  rintro e w1 ⟨rfl, h1⟩
  have H1 := Lib.hid h1.below; clear h1
  unfold ans
  go_wp2_with fail
  refine (M2.out _).mono ?_
  rintro e w2 ⟨rfl, h2⟩
  have H2 := Lib.hid (Below.step H1.out h2.below); clear h2 H1
  unfold ans
  go_wp2_with fail
  refine (D1.out _).mono ?_
  rintro e w3 ⟨rfl, h3⟩
  have H3 := Lib.hid (Below.step H2.out h3.below); clear h3 H2
  unfold ans
  go_wp2_with fail
  refine (D2.out _).mono ?_
  rintro e w4 ⟨rfl, h4⟩
  have H4 := Lib.hid (Below.step H3.out h4.below); clear h4 H3
  unfold ans
  rcases MOH.out with e1 | ⟨e1, e2⟩ | ⟨e1, e2, e3⟩ <;> rcases DOH.out with f1 | ⟨f1, f2⟩ | ⟨f1, f2, f3⟩
  all_goals
    go_wp2_with fail
    refine (lives_any _).mono ?_
    rintro e w5 ⟨rfl, h5⟩
    have H5 := Lib.hid (Below.step H4.out h5); clear h5 H4
    go_wp2_with fail
    go_ret
    exact ⟨rfl, H5.out⟩

set_option maxHeartbeats 1000000 in
theorem walk_stop (a b c : Int) (h : b < a ∨ c ≤ 0) (w : World) :
    Calls Try.prog 9 #[.int .i64 a, .int .i64 b, .int .i64 c] w fun e w' => e = .returned (.bool true) ∧ Below w.heap.size w w' := by
  rcases (show b < a ∨ (a ≤ b ∧ c ≤ 0) from by omega) with h1 | ⟨h1, h2⟩
  all_goals
    clear h
    go_enter Try.func9, Try.ntmps9
    go_wp2_with fail
    refine (lives_any _).mono ?_
    rintro e w5 ⟨rfl, h5⟩
    have H5 := Lib.hid h5; clear h5
    go_wp2_with fail
    go_ret
    exact ⟨rfl, H5.out⟩

theorem walk (a b c : Int) (ha : (Lit.int .i64 a).wf = true) (hb : (Lit.int .i64 b).wf = true) (hc : (Lit.int .i64 c).wf = true) (w : World) :
    Calls Try.prog 9 #[.int .i64 a, .int .i64 b, .int .i64 c] w fun e w' => e = .returned (.bool true) ∧ Below w.heap.size w w' := by
  by_cases h : b < a ∨ c ≤ 0
  · exact walk_stop a b c h w
  · exact walkMain a b c (wf_fits ha) (wf_fits hb) (wf_fits hc) (by omega) (by omega) w

set_option maxRecDepth 100000 in
theorem lifted (os : Os) (started : os.Started) (H : Type) (enc : TypeId × Value → H) :
    ReturnsInHanded {} Try.checked os 9 .any (Rows.decOrdersSpec.pre6 enc Try.prog Try.f9 Rows.decOrdersRow.domain false) (Rows.decOrdersSpec.post enc Try.prog Try.f9 false true false false) := by
  refine returnsInHanded_of_change (C := Try.checked) own started (by kernel_rfl) Try.func9
    (ChangeSpec.witness6 (enc := enc) (C := Try.checked) false ⟨#[], #[.int .i64 0, .int .i64 0, .int .i64 0], []⟩ 8 (by kernel_rfl) (by kernel_rfl) (by kernel_rfl) (by kernel_rfl)) ?_
  intro W base args ds gs before hval0 hW hcnd _
  have hval : ∀ (j : Nat) t v, Try.f9.params[j]? = some t → args[j]? = some v → Value.okWide Try.prog W .any base t v := hval0
  have hW' := hW
  obtain ⟨p, q, hA0, hV, rfl, hfz, hnd⟩ := hW
  have hA : DataW.TrodAll enc Try.prog W 0 (fun _ => true) true Try.f9.params.toList args.toList ds p := hA0
  rw [Try.params9] at hA hval
  obtain ⟨v0, vs0, d0, ds0, p0, q0, hargs, rfl, rfl, h0, r0⟩ := trodAll_cons hA
  obtain ⟨v1, vs1, d1, ds1, p1, q1, rfl, rfl, rfl, h1, r1⟩ := trodAll_cons r0
  obtain ⟨v2, vs2, d2, ds2, p2, q2, rfl, rfl, rfl, h2, r2⟩ := trodAll_cons r1
  obtain ⟨rfl, rfl, rfl⟩ := trodAll_nil r2
  obtain rfl : args = #[v0, v1, v2] := by cases args; simp_all
  obtain ⟨rfl, rfl⟩ := trodVars_none hV
  obtain ⟨a0, rfl, rfl, rfl, w0⟩ := open_int Try.underlying2 (hval 0 2 v0 rfl rfl) h0
  obtain ⟨a1, rfl, rfl, rfl, w1⟩ := open_int Try.underlying2 (hval 1 2 v1 rfl rfl) h1
  obtain ⟨a2, rfl, rfl, rfl, w2⟩ := open_int Try.underlying2 (hval 2 2 v2 rfl rfl) h2
  clear hA0 hval0
  simp only [List.append_nil] at hW'
  refine (walk a0 a1 a2 w0 w1 w2 W).mono fun e W' ⟨he, hg⟩ => ?_
  subst he
  exact ⟨_, rfl, post_bare hW' (fun _ _ _ => (trodAll_cons_mk (shut_bool Try.underlying4 _) trodAll_mk0)) (fun sp => (trodAll_cons_mk (shut_int Try.underlying2 w0) (trodAll_cons_mk (shut_int Try.underlying2 w1) (trodAll_cons_mk (shut_int Try.underlying2 w2) trodAll_mk0)))) (fun _ => rfl) hg⟩

theorem proved : Rows.DecOrdersSaid :=
  OpenClaim.holds_of_wide 9 Try.f9 rfl rfl rfl rfl rfl rfl rfl ⟨rfl, rfl, rfl, rfl, rfl⟩ rfl rfl rfl rfl rfl (by kernel_rfl) Try.func9 (by kernel_rfl)
    (of_decide_eq_true (by kernel_rfl)) (by unfold Func.isWrapper; first | (rw [if_pos (by decide +kernel)]; kernel_rfl) | (rw [if_neg (by decide +kernel)]; exact ⟨rfl, rfl⟩))
    (fun os started H enc _ => lifted os started H enc)
#print axioms proved
end Go.Proofs.Ytghbhaoogcgbfaa.decOrders
