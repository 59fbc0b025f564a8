/- ClassShows: for any set, and any two texts of which each takes at most what a text may take, the law returns true, and its arguments read as before. No condition besides. -/
import Derived.Test.YtfdgjgmgkcoopaaPost
import Derived.Test.YtfdgjgmgkcoopaaBack
import Derived.Test.YtfdgjgmgkcoopaaRShow
import Derived.Test.YtfdgjgmgkcoopaaLives
namespace Go.Proofs.Ytfdgjgmgkcoopaa.classShows
open Go.ChangeShapes Go.WideShapes Go.ChangeAt Go.RowKit Go.ChangeMaps

theorem text_eq {a b : ByteArray} (h : a.data.toList = b.data.toList) : a = b := by
  cases a; cases b
  congr 1
  exact Array.toList_inj.1 h
theorem drop_at (A t B : ByteArray) : (A ++ t ++ B).data.toList.drop A.size = t.data.toList ++ B.data.toList := by
  simp only [ByteArray.data_append, Array.toList_append]
  rw [List.append_assoc, List.drop_append_of_le_length (by simp), List.drop_eq_nil_of_le (by simp)]
  rfl

set_option maxRecDepth 100000 in
set_option maxHeartbeats 1000000 in
theorem walk (f : Nat → Nat) (ahead behind : ByteArray) (hf : Fits f) (ha : ahead.size ≤ 140737488355328) (hb : behind.size ≤ 140737488355328) (w : World) :
    Calls Try.prog 5 #[.agg (words f), .string ahead, .string behind] w fun e w' => e = .returned (.bool true) ∧ Below w.heap.size w w' := by
  have HS := Lib.hid (fun w => show_spec f hf w)
  have HR := Lib.hid (fun w => rshow_spec f w)
  have HV := Lib.hid (fun w => lives_spec w)
  have HP := Lib.hid (fun s k B h hs w => parse_show f hf s k B h hs w)
  have HQ := Lib.hid (fun w => equal_words f f w true (by simp))
  go_enter Try.func5, Try.ntmps5
  go_upto_region 1 with (fail)
  obtain ⟨W, hW, Q, HB⟩ := quad_box w f 24
  rw [← hW]
  clear hW
  have c0 := Q.out.c 0 (by omega); have c1 := Q.out.c 1 (by omega); have c2 := Q.out.c 2 (by omega); have c3 := Q.out.c 3 (by omega)
  go_wp2_with fail
  refine (HS.out _).mono ?_
  rintro e w1 ⟨t, rfl, ht, hz, b1⟩
  have Q1 := Lib.hid (Q.out.after b1)
  have B1 := Lib.hid (Below.step HB.out b1)
  clear b1 c0 c1 c2 c3 Q HB HS
  have hcase : (1000 : Int) < ahead.size ∨ (ahead.size : Int) ≤ 1000 := by omega
  rcases hcase with hlt | hle
  case' inl =>
    go_upto_region 4 with (fail)
    obtain ⟨A, hA, hA1⟩ : ∃ A, A = ahead.extract 0 1000 ∧ A.size ≤ 1000 := ⟨_, rfl, by rw [ByteArray.size_extract]; omega⟩
    rw [← hA]
    clear hA
  case' inr =>
    go_upto_region 4 with (fail)
    obtain ⟨A, hA, hA1⟩ : ∃ A, A = ahead ∧ A.size ≤ 1000 := ⟨_, rfl, by omega⟩
    subst hA
  all_goals
    have hlen : (showL f).length = t.size := by rw [← ht.out]; simp
    have hPs := HP.out (A ++ t ++ behind) A.size behind.data.toList (by rw [drop_at, ht.out]) (by simp only [ByteArray.size_append]; omega)
    rw [hlen] at hPs
    have HPS := Lib.hid hPs; clear hPs hlen
    go_wp2_with fail
    refine (HPS.out _).mono ?_
    rintro e w2 ⟨rfl, b2⟩
    have Q2 := Lib.hid (Q1.out.after b2)
    have B2 := Lib.hid (Below.step B1.out b2)
    clear b2 Q1 B1
    simp only [words]
    go_upto_region 5 with (fail)
    obtain ⟨W3, hW3, QP, HB3⟩ := quad_box w2 f 24
    change Code.wp _ _ _ _ (w2.alloc (Obj.cells (words f) 24))
    rw [← hW3]
    clear hW3
    have Q3 := Lib.hid (Q2.out.after HB3.out)
    have B3 := Lib.hid (Below.step B2.out HB3.out)
    clear Q2 B2 HB3
    have c0 := Q3.out.c 0 (by omega); have c1 := Q3.out.c 1 (by omega); have c2 := Q3.out.c 2 (by omega); have c3 := Q3.out.c 3 (by omega)
    go_wp2_with fail
    refine (HR.out _).mono ?_
    rintro e w4 ⟨t2, rfl, ht2, b4⟩
    have Q4 := Lib.hid (Q3.out.after b4)
    have P4 := Lib.hid (QP.out.after b4)
    have B4 := Lib.hid (Below.step B3.out b4)
    obtain rfl : t2 = t := text_eq (ht2.out.trans ht.out.symm)
    clear b4 Q3 QP B3 c0 c1 c2 c3
    have c0 := Q4.out.c 0 (by omega); have c1 := Q4.out.c 1 (by omega); have c2 := Q4.out.c 2 (by omega); have c3 := Q4.out.c 3 (by omega)
    have d0 := P4.out.c 0 (by omega); have d1 := P4.out.c 1 (by omega); have d2 := P4.out.c 2 (by omega); have d3 := P4.out.c 3 (by omega)
    have hq := HQ.out
    go_wp2_with fail
    refine (HV.out _).mono ?_
    rintro e w5 ⟨rfl, b5⟩
    have B5 := Lib.hid (Below.step B4.out b5)
    clear b5
    go_wp2_with fail
    go_ret
    exact ⟨rfl, B5.out⟩

set_option maxRecDepth 100000 in
theorem lifted (os : Os) (started : os.Started) (H : Type) (enc : TypeId × Value → H) :
    ReturnsInHanded {} Try.checked os 5 .any (Rows.classShowsSpec.pre6 enc Try.prog Try.f5 Rows.classShowsRow.domain false) (Rows.classShowsSpec.post enc Try.prog Try.f5 false true false false) := by
  refine returnsInHanded_of_change_shaped (C := Try.checked) own started (by kernel_rfl) Try.func5
    (ChangeSpec.witness6 (enc := enc) (C := Try.checked) false ⟨#[], #[.agg #[.int .u64 0, .int .u64 0, .int .u64 0, .int .u64 0], .string ⟨#[]⟩, .string ⟨#[]⟩], []⟩ 8 (by kernel_rfl) (by kernel_rfl) (by kernel_rfl) (by kernel_rfl)) ?_
  intro W base args ds gs before hval0 hW _ hsz0 hsh _
  have hval : ∀ (j : Nat) t v, Try.f5.params[j]? = some t → args[j]? = some v → Value.okWide Try.prog W .any base t v := hval0
  have hsz : (DataW.weightsEach Try.prog (Try.f5.params.toList ++ Rows.classShowsSpec.plain.varTypes Try.prog) (ds ++ gs)).all (· ≤ reachBytes) = true := hsz0
  have hW' := hW
  obtain ⟨p, q, hA0, hV, rfl, hfz, hnd⟩ := hW
  have hA : DataW.TrodAll enc Try.prog W 0 (fun _ => true) true Try.f5.params.toList args.toList ds p := hA0
  rw [Try.params5] at hA hval hsz
  obtain ⟨v0, vs0, d0, ds0, p0, q0, hargs, rfl, rfl, h0, r0⟩ := trodAll_cons hA
  obtain ⟨v1, vs1, d1, ds1, p1, q1, rfl, rfl, rfl, h1, r1⟩ := trodAll_cons r0
  obtain ⟨v2, vs2, d2, ds2, p2, q2, rfl, rfl, rfl, h2, r2⟩ := trodAll_cons r1
  obtain ⟨rfl, rfl, rfl⟩ := trodAll_nil r2
  obtain rfl : args = #[v0, v1, v2] := by cases args; simp_all
  obtain ⟨rfl, rfl⟩ := trodVars_none hV
  obtain ⟨a0, rfl, rfl, rfl, w0⟩ := open_set (hval 0 24 v0 rfl rfl) h0
  obtain ⟨a1, rfl, rfl, rfl, w1⟩ := open_string Try.underlying9 (hval 1 9 v1 rfl rfl) h1
  obtain ⟨a2, rfl, rfl, rfl, w2⟩ := open_string Try.underlying9 (hval 2 9 v2 rfl rfl) h2
  have z1 : a1.size ≤ 140737488355328 := by
    have h := sized_string hsz (j := 1) (t := 9) (bytes := a1.data.toList) rfl rfl
    have h2 := reachBytes_lt
    have h3 : a1.data.toList.length = a1.size := Array.length_toList
    omega
  have z2 : a2.size ≤ 140737488355328 := by
    have h := sized_string hsz (j := 2) (t := 9) (bytes := a2.data.toList) rfl rfl
    have h2 := reachBytes_lt
    have h3 : a2.data.toList.length = a2.size := Array.length_toList
    omega
  clear hA0 hval0
  simp only [List.append_nil] at hW'
  refine (walk a0 a1 a2 w0 z1 z2 W).mono fun e W' ⟨he, hg⟩ => ?_
  subst he
  exact ⟨_, rfl, post_bare hW' (fun _ _ _ => (trodAll_cons_mk (shut_bool Try.underlying4 _) trodAll_mk0)) (fun sp => (trodAll_cons_mk (shut_set w0) (trodAll_cons_mk (shut_string Try.underlying9 w1) (trodAll_cons_mk (shut_string Try.underlying9 w2) trodAll_mk0)))) (fun _ => rfl) hg⟩

theorem proved : Rows.ClassShowsSaid :=
  OpenClaim.holds_of_wide 5 Try.f5 rfl rfl rfl rfl rfl rfl rfl ⟨rfl, rfl, rfl, rfl, rfl⟩ rfl rfl rfl rfl rfl (by kernel_rfl) Try.func5 (by kernel_rfl)
    (of_decide_eq_true (by kernel_rfl)) (by unfold Func.isWrapper; first | (rw [if_pos (by decide +kernel)]; kernel_rfl) | (rw [if_neg (by decide +kernel)]; exact ⟨rfl, rfl⟩))
    (fun os started H enc _ => lifted os started H enc)
#print axioms proved
end Go.Proofs.Ytfdgjgmgkcoopaa.classShows
