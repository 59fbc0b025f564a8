/- DecRests: for any two numbers the law returns true, and its arguments read as before. No condition. -/
import Derived.Test.YtghbhaoogcgbfaaPost
import Derived.Test.YtghbhaoogcgbfaaLives
namespace Go.Proofs.Ytghbhaoogcgbfaa.decRests
open Go.ChangeShapes Go.WideShapes Go.ChangeAt Go.RowKit Go.ChangeMaps
theorem tdiv_tdiv_nat (n b c : Nat) : ((n : Int).tdiv b).tdiv c = (n : Int).tdiv (b * c) := by
  rw [← Int.ofNat_tdiv, ← Int.ofNat_tdiv, ← Int.natCast_mul, ← Int.ofNat_tdiv, Nat.div_div_eq_div_mul]

theorem tdiv_tdiv (a b : Int) (c : Nat) : (a.tdiv b).tdiv c = a.tdiv (b * c) := by
  rcases Int.eq_nat_or_neg a with ⟨n, rfl | rfl⟩ <;> rcases Int.eq_nat_or_neg b with ⟨m, rfl | rfl⟩
  · exact tdiv_tdiv_nat n m c
  · rw [Int.tdiv_neg, Int.neg_tdiv, Int.neg_mul, Int.tdiv_neg, tdiv_tdiv_nat]
  · rw [Int.neg_tdiv, Int.neg_tdiv, Int.neg_tdiv, tdiv_tdiv_nat]
  · rw [Int.neg_tdiv, Int.tdiv_neg, Int.neg_neg, Int.neg_mul, Int.neg_tdiv, Int.tdiv_neg, Int.neg_neg, tdiv_tdiv_nat]

theorem natAbs_tdiv_mul (a b : Int) : (a.tdiv b * b).natAbs ≤ a.natAbs := by
  rw [Int.natAbs_mul, Int.natAbs_tdiv]
  exact Nat.div_mul_le_self _ _

theorem nearer (a b : Int) (ha : Fits a) : Fits (a.tdiv b * b) := by
  unfold Fits at *
  have h1 := natAbs_tdiv_mul a b
  have h2 := Int.tmod_add_mul_tdiv a b
  rcases (show 0 ≤ a ∨ a ≤ 0 from by omega) with h | h
  · omega
  · have h3 : a.tdiv b * b ≤ 0 := by
      have h4 := Int.tmod_nonneg b (show 0 ≤ -a from by omega)
      rw [Int.neg_tmod] at h4
      have h5 : (a.tmod b).natAbs ≤ a.natAbs := by
        rw [Int.natAbs_tmod]; exact Nat.mod_le _ _
      rw [Int.mul_comm]
      omega
    omega

theorem rest_mul (a b : Int) (ha : Fits a) : mulAns (((a * 1000000).tdiv b).tdiv 1000000 * 1000000) b = (a.tdiv b * b, 0) := by
  have h1 : ((a * 1000000).tdiv b).tdiv 1000000 = a.tdiv b := by
    have := tdiv_tdiv (a * 1000000) b 1000000
    rw [show ((1000000 : Nat) : Int) = 1000000 from rfl] at this
    rw [this]
    exact Int.mul_tdiv_mul_of_pos_left a b (by decide)
  have h2 : (a.tdiv b * 1000000 * b).tdiv 1000000 = a.tdiv b * b := by
    rw [show a.tdiv b * 1000000 * b = a.tdiv b * b * 1000000 from by rw [Int.mul_assoc, Int.mul_comm 1000000 b, ← Int.mul_assoc]]
    exact Int.mul_tdiv_cancel _ (by decide)
  unfold mulAns
  rw [h1, h2]
  unfold back
  rw [if_pos (nearer a b ha)]

set_option maxHeartbeats 1000000 in
theorem walk_zero (a : Int) (ha : Fits a) (w : World) :
    Calls Try.prog 10 #[.int .i64 a, .int .i64 0] w fun e w' => e = .returned (.bool true) ∧ Below w.heap.size w w' := by
  have M1 := Lib.hid (fun w => div_any a 0 w ha (by decide))
  have M2 := Lib.hid (fun w => mod_any a 0 w ha (by decide))
  go_enter Try.func10, Try.ntmps10
  go_wp2_with fail
  refine (M1.out _).mono ?_
  rintro e w1 ⟨rfl, h1⟩
  have H1 := Lib.hid h1.below; clear h1
  rw [show ans (divAns a 0) = .tuple #[.int .i64 0, .int .i64 11] from rfl]
  go_wp2_with fail
  refine (M2.out _).mono ?_
  rintro e w2 ⟨rfl, rfl⟩
  rw [show ans (modAns a 0) = .tuple #[.int .i64 0, .int .i64 11] from rfl]
  go_wp2_with fail
  refine (lives_any _).mono ?_
  rintro e w5 ⟨rfl, h5⟩
  have H5 := Lib.hid (Below.step H1.out h5); clear h5 H1
  go_wp2_with fail
  go_ret
  exact ⟨rfl, H5.out⟩

set_option maxHeartbeats 1000000 in
theorem walk_over (a b : Int) (ha : Fits a) (hb : Fits b) (h0 : ¬ b = 0) (hq : ¬ Fits ((a * 1000000).tdiv b)) (w : World) :
    Calls Try.prog 10 #[.int .i64 a, .int .i64 b] w fun e w' => e = .returned (.bool true) ∧ Below w.heap.size w w' := by
  have M1 := Lib.hid (fun w => div_any a b w ha hb)
  have M2 := Lib.hid (fun w => mod_any a b w ha hb)
  have e1 := Lib.hid (show ans (divAns a b) = .tuple #[.int .i64 0, .int .i64 10] from by simp [divAns, h0, back, hq, ans])
  have e2 := Lib.hid (show ans (modAns a b) = .tuple #[.int .i64 (a.tmod b), .int .i64 0] from by simp [modAns, h0, ans])
  have hb0 : (b != 0) = true := by simpa using h0
  clear hq h0
  go_enter Try.func10, Try.ntmps10
  go_wp2_with fail
  refine (M1.out _).mono ?_
  rintro e w1 ⟨rfl, h1⟩
  have H1 := Lib.hid h1.below; clear h1
  rw [e1.out]
  go_wp2_with fail
  refine (M2.out _).mono ?_
  rintro e w2 ⟨rfl, rfl⟩
  rw [e2.out]
  go_wp2_with fail
  refine (lives_any _).mono ?_
  rintro e w5 ⟨rfl, h5⟩
  have H5 := Lib.hid (Below.step H1.out h5); clear h5 H1
  go_wp2_with fail
  go_ret
  exact ⟨rfl, H5.out⟩

theorem fits_near (a : Int) (ha : Fits a) : Fits (a.tdiv 1000000 * 1000000) := nearer a 1000000 ha

set_option maxHeartbeats 1000000 in
theorem walkMain (a b : Int) (ha : Fits a) (hb : Fits b) (h0 : ¬ b = 0) (hq : Fits ((a * 1000000).tdiv b)) (w : World) :
    Calls Try.prog 10 #[.int .i64 a, .int .i64 b] w fun e w' => e = .returned (.bool true) ∧ Below w.heap.size w w' := by
  have M1 := Lib.hid (fun w => div_any a b w ha hb)
  have M2 := Lib.hid (fun w => mod_any a b w ha hb)
  have hm := rest_mul a b ha
  have e1 := Lib.hid (show ans (divAns a b) = .tuple #[.int .i64 ((a * 1000000).tdiv b), .int .i64 0] from by simp [divAns, h0, back, hq, ans])
  have e2 := Lib.hid (show ans (modAns a b) = .tuple #[.int .i64 (a.tmod b), .int .i64 0] from by simp [modAns, h0, ans])
  generalize (a * 1000000).tdiv b = q at *
  have hqn := fits_near q hq
  have M3 := Lib.hid (fun w => int_any q w hq)
  have M4 := Lib.hid (fun w => mul_any (q.tdiv 1000000 * 1000000) b w hqn hb)
  have e3 := Lib.hid (show ans (mulAns (q.tdiv 1000000 * 1000000) b) = .tuple #[.int .i64 (a.tdiv b * b), .int .i64 0] from by rw [hm]; rfl)
  clear hm
  have hsum : a.tdiv b * b + a.tmod b = a := by
    have := Int.tmod_add_mul_tdiv a b
    rw [Int.mul_comm] at this
    omega
  have hmodf : Fits (a.tmod b) := by
    have h5 : (a.tmod b).natAbs < b.natAbs := by
      rw [Int.natAbs_tmod]; exact Nat.mod_lt _ (by omega)
    unfold Fits at *
    omega
  have M5 := Lib.hid (fun w => add_any (a.tdiv b * b) (a.tmod b) w (nearer a b ha) hmodf)
  have e5 := Lib.hid (show ans (back (a.tdiv b * b + a.tmod b)) = .tuple #[.int .i64 a, .int .i64 0] from by rw [hsum]; exact ans_yes ha)
  clear hsum hmodf hqn hq h0
  generalize q.tdiv 1000000 * 1000000 = iq at *
  generalize a.tdiv b * b = p at *
  generalize a.tmod b = r at *
  clear ha hb
  go_enter Try.func10, Try.ntmps10
  go_wp2_with fail
  refine (M1.out _).mono ?_
  rintro e w1 ⟨rfl, h1⟩
  have H1 := Lib.hid h1.below; clear h1
  rw [e1.out]
  go_wp2_with fail
  refine (M2.out _).mono ?_
  rintro e w2 ⟨rfl, rfl⟩
  rw [e2.out]
  go_wp2_with fail
  refine (M3.out _).mono ?_
  rintro e w3 ⟨rfl, rfl⟩
  go_wp2_with fail
  refine (M4.out _).mono ?_
  rintro e w4 ⟨rfl, h4⟩
  have H4 := Lib.hid (Below.step H1.out h4.below); clear h4 H1
  rw [e3.out]
  go_wp2_with fail
  refine (M5.out _).mono ?_
  rintro e w5 ⟨rfl, rfl⟩
  rw [e5.out]
  go_wp2_with fail
  refine (lives_any _).mono ?_
  rintro e w6 ⟨rfl, h6⟩
  have H6 := Lib.hid (Below.step H4.out h6); clear h6 H4
  go_wp2_with fail
  go_ret
  exact ⟨rfl, H6.out⟩

theorem walk (a b : Int) (ha : (Lit.int .i64 a).wf = true) (hb : (Lit.int .i64 b).wf = true) (w : World) :
    Calls Try.prog 10 #[.int .i64 a, .int .i64 b] w fun e w' => e = .returned (.bool true) ∧ Below w.heap.size w w' := by
  by_cases h : b = 0
  · subst h
    exact walk_zero a (wf_fits ha) w
  by_cases hq : Fits ((a * 1000000).tdiv b)
  · exact walkMain a b (wf_fits ha) (wf_fits hb) h hq w
  · exact walk_over a b (wf_fits ha) (wf_fits hb) h hq w

set_option maxRecDepth 100000 in
theorem lifted (os : Os) (started : os.Started) (H : Type) (enc : TypeId × Value → H) :
    ReturnsInHanded {} Try.checked os 10 .any (Rows.decRestsSpec.pre6 enc Try.prog Try.f10 Rows.decRestsRow.domain false) (Rows.decRestsSpec.post enc Try.prog Try.f10 false true false false) := by
  refine returnsInHanded_of_change (C := Try.checked) own started (by kernel_rfl) Try.func10
    (ChangeSpec.witness6 (enc := enc) (C := Try.checked) false ⟨#[], #[.int .i64 0, .int .i64 0], []⟩ 8 (by kernel_rfl) (by kernel_rfl) (by kernel_rfl) (by kernel_rfl)) ?_
  intro W base args ds gs before hval0 hW hcnd _
  have hval : ∀ (j : Nat) t v, Try.f10.params[j]? = some t → args[j]? = some v → Value.okWide Try.prog W .any base t v := hval0
  have hW' := hW
  obtain ⟨p, q, hA0, hV, rfl, hfz, hnd⟩ := hW
  have hA : DataW.TrodAll enc Try.prog W 0 (fun _ => true) true Try.f10.params.toList args.toList ds p := hA0
  rw [Try.params10] at hA hval
  obtain ⟨v0, vs0, d0, ds0, p0, q0, hargs, rfl, rfl, h0, r0⟩ := trodAll_cons hA
  obtain ⟨v1, vs1, d1, ds1, p1, q1, rfl, rfl, rfl, h1, r1⟩ := trodAll_cons r0
  obtain ⟨rfl, rfl, rfl⟩ := trodAll_nil r1
  obtain rfl : args = #[v0, v1] := by cases args; simp_all
  obtain ⟨rfl, rfl⟩ := trodVars_none hV
  obtain ⟨a0, rfl, rfl, rfl, w0⟩ := open_int Try.underlying2 (hval 0 2 v0 rfl rfl) h0
  obtain ⟨a1, rfl, rfl, rfl, w1⟩ := open_int Try.underlying2 (hval 1 2 v1 rfl rfl) h1
  clear hA0 hval0
  simp only [List.append_nil] at hW'
  refine (walk a0 a1 w0 w1 W).mono fun e W' ⟨he, hg⟩ => ?_
  subst he
  exact ⟨_, rfl, post_bare hW' (fun _ _ _ => (trodAll_cons_mk (shut_bool Try.underlying4 _) trodAll_mk0)) (fun sp => (trodAll_cons_mk (shut_int Try.underlying2 w0) (trodAll_cons_mk (shut_int Try.underlying2 w1) trodAll_mk0))) (fun _ => rfl) hg⟩

theorem proved : Rows.DecRestsSaid :=
  OpenClaim.holds_of_wide 10 Try.f10 rfl rfl rfl rfl rfl rfl rfl ⟨rfl, rfl, rfl, rfl, rfl⟩ rfl rfl rfl rfl rfl (by kernel_rfl) Try.func10 (by kernel_rfl)
    (of_decide_eq_true (by kernel_rfl)) (by unfold Func.isWrapper; first | (rw [if_pos (by decide +kernel)]; kernel_rfl) | (rw [if_neg (by decide +kernel)]; exact ⟨rfl, rfl⟩))
    (fun os started H enc _ => lifted os started H enc)
#print axioms proved
end Go.Proofs.Ytghbhaoogcgbfaa.decRests
