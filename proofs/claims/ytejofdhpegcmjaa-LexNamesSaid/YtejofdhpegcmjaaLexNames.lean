/- LexNames: for any text, whether it is a word, a function of the language, and whether it may be a name is as the document says: the law returns true, and its argument reads as before. No condition. -/
import Derived.Test.YtejofdhpegcmjaaPost
import Derived.Test.YtejofdhpegcmjaaLexNm
namespace Go.Proofs.Ytejofdhpegcmjaa.lexNames
open Go.ChangeShapes Go.WideShapes Go.ChangeAt Go.RowKit Go.ChangeMaps

set_option maxRecDepth 100000 in
set_option maxHeartbeats 1000000 in
theorem walk (s : ByteArray) (hs : s.size ≤ maxLen) (w : World) :
    Calls Try.prog 3 #[.string s] w fun e w' => e = .returned (.bool true) ∧ Below w.heap.size w w' := by
  have HW := Lib.hid (fun w => word_spec s _ rfl w)
  have HO := Lib.hid (fun w => owns_spec s _ rfl w)
  have HRW := Lib.hid (fun w => rword_spec s _ rfl w)
  have HRO := Lib.hid (fun w => rown_spec s _ rfl w)
  have HN := Lib.hid (fun w => name_is s hs w)
  have HRN := Lib.hid (fun w => rname_is s hs w)
  have HV := Lib.hid (fun w => lives w)
  obtain ⟨b1, hb1⟩ : ∃ b, b = wordB s.data.toList := ⟨_, rfl⟩
  obtain ⟨b2, hb2⟩ : ∃ b, b = ownB s.data.toList := ⟨_, rfl⟩
  obtain ⟨b3, hb3⟩ : ∃ b, b = nameB s.data.toList := ⟨_, rfl⟩
  rw [← hb1] at HW HRW
  rw [← hb2] at HO HRO
  rw [← hb3] at HN HRN
  clear hb1 hb2 hb3
  have q1 : (b1 == b1) = true := beq_self_eq_true _
  have q2 : (b2 == b2) = true := beq_self_eq_true _
  have q3 : (b3 == b3) = true := beq_self_eq_true _
  go_enter Try.func3, Try.ntmps3
  go_wp2_with fail
  refine (HW.out _).mono ?_
  rintro e w1 ⟨rfl, rfl⟩
  go_wp2_with fail
  refine (HRW.out _).mono ?_
  rintro e w2 ⟨rfl, a2⟩
  have A2 := Lib.hid a2; clear a2
  go_wp2_with fail
  refine (HO.out _).mono ?_
  rintro e w3 ⟨rfl, rfl⟩
  go_wp2_with fail
  refine (HRO.out _).mono ?_
  rintro e w4 ⟨rfl, a4⟩
  have A4 := Lib.hid (Below.step A2.out a4); clear a4
  go_wp2_with fail
  refine (HN.out _).mono ?_
  rintro e w5 ⟨rfl, rfl⟩
  go_wp2_with fail
  refine (HRN.out _).mono ?_
  rintro e w6 ⟨rfl, a6⟩
  have A6 := Lib.hid (Below.step A4.out a6); clear a6
  go_wp2_with fail
  refine (HV.out _).mono ?_
  rintro e w7 ⟨rfl, a7⟩
  have A7 := Lib.hid (Below.step A6.out a7); clear a7
  go_wp2_with fail
  go_ret
  exact ⟨rfl, A7.out⟩

set_option maxRecDepth 100000 in
theorem lifted (os : Os) (started : os.Started) (H : Type) (enc : TypeId × Value → H) :
    ReturnsInHanded {} Try.checked os 3 .any (Rows.lexNamesSpec.pre6 enc Try.prog Try.f3 Rows.lexNamesRow.domain false) (Rows.lexNamesSpec.post enc Try.prog Try.f3 false true false false) := by
  refine returnsInHanded_of_change_shaped (C := Try.checked) own started (by kernel_rfl) Try.func3
    (ChangeSpec.witness6 (enc := enc) (C := Try.checked) false ⟨#[], #[.string ⟨#[]⟩], []⟩ 8 (by kernel_rfl) (by kernel_rfl) (by kernel_rfl) (by kernel_rfl)) ?_
  intro W base args ds gs before hval0 hW _ _ hsh _
  have hval : ∀ (j : Nat) t v, Try.f3.params[j]? = some t → args[j]? = some v → Value.okWide Try.prog W .any base t v := hval0
  have hW' := hW
  obtain ⟨p, q, hA0, hV, rfl, hfz, hnd⟩ := hW
  have hA : DataW.TrodAll enc Try.prog W 0 (fun _ => true) true Try.f3.params.toList args.toList ds p := hA0
  rw [Try.params3] at hA hval
  obtain ⟨v0, vs0, d0, ds0, p0, q0, hargs, rfl, rfl, h0, r0⟩ := trodAll_cons hA
  obtain ⟨rfl, rfl, rfl⟩ := trodAll_nil r0
  obtain rfl : args = #[v0] := by cases args; simp_all
  obtain ⟨rfl, rfl⟩ := trodVars_none hV
  obtain ⟨a0, rfl, rfl, rfl, w0⟩ := open_string Try.underlying9 (hval 0 9 v0 rfl rfl) h0
  clear hA0 hval0
  simp only [List.append_nil] at hW'
  refine (walk a0 w0 W).mono fun e W' ⟨he, hg⟩ => ?_
  subst he
  exact ⟨_, rfl, post_bare hW' (fun _ _ _ => (trodAll_cons_mk (shut_bool Try.underlying4 _) trodAll_mk0)) (fun sp => (trodAll_cons_mk (shut_string Try.underlying9 w0) trodAll_mk0)) (fun _ => rfl) hg⟩

theorem proved : Rows.LexNamesSaid :=
  OpenClaim.holds_of_wide 3 Try.f3 rfl rfl rfl rfl rfl rfl rfl ⟨rfl, rfl, rfl, rfl, rfl⟩ rfl rfl rfl rfl rfl (by kernel_rfl) Try.func3 (by kernel_rfl)
    (of_decide_eq_true (by kernel_rfl)) (by unfold Func.isWrapper; first | (rw [if_pos (by decide +kernel)]; kernel_rfl) | (rw [if_neg (by decide +kernel)]; exact ⟨rfl, rfl⟩))
    (fun os started H enc _ => lifted os started H enc)
#print axioms proved
end Go.Proofs.Ytejofdhpegcmjaa.lexNames
