/- ClassNames: for any text as a class's name the law returns true, and its argument reads as before. No condition. -/
import Derived.Test.YtfdgjgmgkcoopaaPost
import Derived.Test.YtfdgjgmgkcoopaaNames
import Derived.Test.YtfdgjgmgkcoopaaLives
namespace Go.Proofs.Ytfdgjgmgkcoopaa.classNames
open Go.ChangeShapes Go.WideShapes Go.ChangeAt Go.RowKit Go.ChangeMaps

set_option maxRecDepth 100000 in
set_option maxHeartbeats 1000000 in
theorem walk (name : ByteArray) (_ : name.size ≤ maxLen) (w : World) :
    Calls Try.prog 4 #[.string name] w fun e w' => e = .returned (.bool true) ∧ Below w.heap.size w w' := by
  obtain ⟨m, hm, hm4, hag⟩ := names_agree name
  have HN := Lib.hid (fun w => named_spec name m hm hm4 w)
  have HR := Lib.hid (fun c w => rnamed_spec name c w)
  have HV := Lib.hid (fun w => lives_spec w)
  have HAG := Lib.hid hag; clear hag hm hm4
  obtain ⟨ok, hok⟩ : ∃ ok, ok = decide (0 < m) := ⟨_, rfl⟩
  rw [← hok] at HN HAG
  clear hok
  go_enter Try.func4, Try.ntmps4
  go_wp2_with fail
  refine (HN.out _).mono ?_
  rintro e w1 ⟨g, rfl, hS, b1⟩
  have B1 := Lib.hid b1; clear b1
  have HH := Lib.hid (fun c hc w => has_spec g hS.out.fits c hc w)
  have HB : Hid (∀ c, c < 256 → bit g c = (refNamed name c).1 ∧ ok = (refNamed name c).2) := Lib.hid fun c hc => ⟨by rw [hS.out.bits c hc]; exact (HAG.out c hc).1, (HAG.out c hc).2⟩
  simp only [words]
  go_upto_region 2 with (fail)
  obtain ⟨W, hW, Q, HB2⟩ := quad_box w1 g 24
  change Code.wp _ _ _ _ (w1.alloc (Obj.cells (words g) 24))
  rw [← hW]
  clear hW
  have B2 := Lib.hid (Below.step B1.out HB2.out)
  clear HB2
  go_wp2_with fail
  go_loopw [5] (fun x wr => ∃ k : Nat, x = .int .i64 k ∧ k ≤ 256 ∧ Hid (Quad wr w1.heap.size g) ∧ Hid (Below w.heap.size w wr)) (fun x _ => 256 - (intOf x).toNat)
  case atStart => exact ⟨0, rfl, by omega, Q, B2⟩
  case round =>
    obtain ⟨k, rfl, hk, q, hB⟩ := hrel
    by_cases hgo : k < 256
    · obtain ⟨h1, h2⟩ := HB.out k hgo
      obtain ⟨b, hb⟩ : ∃ b, b = (refNamed name k).1 := ⟨_, rfl⟩
      obtain ⟨o, ho⟩ : ∃ o, o = (refNamed name k).2 := ⟨_, rfl⟩
      have HK := Lib.hid (HR.out k)
      rw [← hb, ← ho] at HK
      rw [← hb] at h1
      rw [← ho] at h2
      have H1 := Lib.hid h1; clear h1
      have H2 := Lib.hid h2; clear h2
      clear hb ho
      go_wp2_with fail
      refine (HK.out _).mono ?_
      rintro e w3 ⟨rfl, rfl⟩
      have c0 := q.out.c 0 (by omega); have c1 := q.out.c 1 (by omega); have c2 := q.out.c 2 (by omega); have c3 := q.out.c 3 (by omega)
      go_wp2_with fail
      refine (HH.out k hgo _).mono ?_
      rintro e w4 ⟨rfl, b4⟩
      rw [H1.out]
      obtain rfl := H2.out
      have q4 := Lib.hid (q.out.after b4)
      have hB4 := Lib.hid (Below.step hB.out b4)
      clear b4 c0 c1 c2 c3
      go_wp2_with fail
      go_roundw
      case rel => exact ⟨k + 1, by go_num, by omega, q4, hB4⟩
      case measure => simp [intOf]; omega
    · obtain rfl : k = 256 := by omega
      go_wp2_with fail
      refine (HV.out _).mono ?_
      rintro e w3 ⟨rfl, b3⟩
      go_wp2_with fail
      go_ret
      exact ⟨rfl, Below.step hB.out b3⟩

set_option maxRecDepth 100000 in
theorem lifted (os : Os) (started : os.Started) (H : Type) (enc : TypeId × Value → H) :
    ReturnsInHanded {} Try.checked os 4 .any (Rows.classNamesSpec.pre6 enc Try.prog Try.f4 Rows.classNamesRow.domain false) (Rows.classNamesSpec.post enc Try.prog Try.f4 false true false false) := by
  refine returnsInHanded_of_change_shaped (C := Try.checked) own started (by kernel_rfl) Try.func4
    (ChangeSpec.witness6 (enc := enc) (C := Try.checked) false ⟨#[], #[.string ⟨#[]⟩], []⟩ 8 (by kernel_rfl) (by kernel_rfl) (by kernel_rfl) (by kernel_rfl)) ?_
  intro W base args ds gs before hval0 hW _ _ hsh _
  have hval : ∀ (j : Nat) t v, Try.f4.params[j]? = some t → args[j]? = some v → Value.okWide Try.prog W .any base t v := hval0
  have hW' := hW
  obtain ⟨p, q, hA0, hV, rfl, hfz, hnd⟩ := hW
  have hA : DataW.TrodAll enc Try.prog W 0 (fun _ => true) true Try.f4.params.toList args.toList ds p := hA0
  rw [Try.params4] at hA hval
  obtain ⟨v0, vs0, d0, ds0, p0, q0, hargs, rfl, rfl, h0, r0⟩ := trodAll_cons hA
  obtain ⟨rfl, rfl, rfl⟩ := trodAll_nil r0
  obtain rfl : args = #[v0] := by cases args; simp_all
  obtain ⟨rfl, rfl⟩ := trodVars_none hV
  obtain ⟨a0, rfl, rfl, rfl, w0⟩ := open_string Try.underlying9 (hval 0 9 v0 rfl rfl) h0
  clear hA0 hval0
  simp only [List.append_nil] at hW'
  refine (walk a0 w0 W).mono fun e W' ⟨he, hg⟩ => ?_
  subst he
  exact ⟨_, rfl, post_bare hW' (fun _ _ _ => (trodAll_cons_mk (shut_bool Try.underlying4 _) trodAll_mk0)) (fun sp => (trodAll_cons_mk (shut_string Try.underlying9 w0) trodAll_mk0)) (fun _ => rfl) hg⟩

theorem proved : Rows.ClassNamesSaid :=
  OpenClaim.holds_of_wide 4 Try.f4 rfl rfl rfl rfl rfl rfl rfl ⟨rfl, rfl, rfl, rfl, rfl⟩ rfl rfl rfl rfl rfl (by kernel_rfl) Try.func4 (by kernel_rfl)
    (of_decide_eq_true (by kernel_rfl)) (by unfold Func.isWrapper; first | (rw [if_pos (by decide +kernel)]; kernel_rfl) | (rw [if_neg (by decide +kernel)]; exact ⟨rfl, rfl⟩))
    (fun os started H enc _ => lifted os started H enc)
#print axioms proved
end Go.Proofs.Ytfdgjgmgkcoopaa.classNames
