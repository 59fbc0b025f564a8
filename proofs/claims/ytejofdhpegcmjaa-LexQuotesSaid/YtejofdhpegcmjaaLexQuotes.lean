/- LexQuotes: any text of at most 3000 bytes is written as the document says, and what is written is read as just that text, and the end: the law returns true, and its argument reads as before. No condition. -/
import Derived.Test.YtejofdhpegcmjaaPost
import Derived.Test.YtejofdhpegcmjaaLexQp
namespace Go.Proofs.Ytejofdhpegcmjaa.lexQuotes
open Go.ChangeShapes Go.WideShapes Go.ChangeAt Go.RowKit Go.ChangeMaps

set_option maxRecDepth 100000 in
set_option maxHeartbeats 1000000 in
theorem walk (s : ByteArray) (hs : s.size ≤ maxLen) (w : World) :
    Calls Try.prog 4 #[.string s] w fun e w' => e = .returned (.bool true) ∧ Below w.heap.size w w' := by
  unfold maxLen at hs
  have HV := Lib.hid (fun w => lives w)
  by_cases h30 : 3000 < s.size
  · have hb : decide ((3000 : Int) < (s.size : Int)) = true := decide_eq_true (by omega)
    go_enter Try.func4, Try.ntmps4
    go_wp2_with fail
    refine (HV.out _).mono ?_
    rintro e w1 ⟨rfl, a1⟩
    have A1 := Lib.hid a1; clear a1
    go_wp2_with fail
    go_ret
    exact ⟨rfl, A1.out⟩
  have hb : decide ((3000 : Int) < (s.size : Int)) = false := decide_eq_false (by omega)
  have hsl : s.data.toList.length = s.size := (Lib.size_eq s).symm
  have hwq := words_quote s.data.toList (by omega)
  have hql := quoteL_le s.data.toList
  have hq := quote_spec s (by omega)
  have hrq := rquote_spec s (by omega)
  obtain ⟨Q, hQ⟩ : ∃ Q : ByteArray, Q = ⟨(quoteL s.data.toList).toArray⟩ := ⟨_, rfl⟩
  have hQl : Q.data.toList = quoteL s.data.toList := by rw [hQ]
  have hQs : Q.size ≤ 8000 := by rw [Lib.size_eq, hQl]; omega
  rw [← hQl] at hwq
  have HQ : Hid (∀ w, Calls Try.prog 13 #[.string s] w fun e w' => e = .returned (.string Q) ∧ Below w.heap.size w w') := Lib.hid (fun w => by rw [hQ]; exact hq w)
  have HRQ : Hid (∀ w, Calls Try.prog 15 #[.string s] w fun e w' => e = .returned (.string Q) ∧ w' = w) := Lib.hid (fun w => by rw [hQ]; exact hrq w)
  have HW := Lib.hid (fun w => words_is Q _ 2 hwq rfl (by omega) w)
  have q1 : (Q.toList == Q.toList) = true := beq_self_eq_true _
  have q2 : (s.toList == s.toList) = true := beq_self_eq_true _
  clear hsl hwq hql hq hrq hQ hQl hQs
  go_enter Try.func4, Try.ntmps4
  go_wp2_with fail
  refine (HQ.out _).mono ?_
  rintro e w1 ⟨rfl, a1⟩
  have A1 := Lib.hid a1; clear a1
  go_wp2_with fail
  refine (HW.out _).mono ?_
  rintro e w2 ⟨g, cap, rfl, T, a2⟩
  have A2 := Lib.hid (Below.step A1.out a2); clear a2
  have c0 : w2.cell? ⟨g, 0, none⟩ = some (.int .i64 3) := T.out.cell 0 _ rfl
  have c1 : w2.cell? ⟨g, 1, none⟩ = some (.string s) := (T.out.cell 1 _ rfl).trans (congrArg (fun x => some (Value.string x)) (text_of (t := s) rfl).symm)
  have c2 : w2.cell? ⟨g, 2, none⟩ = some (.int .i64 0) := T.out.cell 2 _ rfl
  go_wp2_with fail
  refine (HRQ.out _).mono ?_
  rintro e w3 ⟨rfl, rfl⟩
  go_wp2_with fail
  refine (HV.out _).mono ?_
  rintro e w4 ⟨rfl, a4⟩
  have A4 := Lib.hid (Below.step A2.out a4); clear a4
  go_wp2_with fail
  go_ret
  exact ⟨rfl, A4.out⟩

set_option maxRecDepth 100000 in
theorem lifted (os : Os) (started : os.Started) (H : Type) (enc : TypeId × Value → H) :
    ReturnsInHanded {} Try.checked os 4 .any (Rows.lexQuotesSpec.pre6 enc Try.prog Try.f4 Rows.lexQuotesRow.domain false) (Rows.lexQuotesSpec.post enc Try.prog Try.f4 false true false false) := by
  refine returnsInHanded_of_change_shaped (C := Try.checked) own started (by kernel_rfl) Try.func4
    (ChangeSpec.witness6 (enc := enc) (C := Try.checked) false ⟨#[], #[.string ⟨#[]⟩], []⟩ 8 (by kernel_rfl) (by kernel_rfl) (by kernel_rfl) (by kernel_rfl)) ?_
  intro W base args ds gs before hval0 hW _ _ hsh _
  have hval : ∀ (j : Nat) t v, Try.f4.params[j]? = some t → args[j]? = some v → Value.okWide Try.prog W .any base t v := hval0
  have hW' := hW
  obtain ⟨p, q, hA0, hV, rfl, hfz, hnd⟩ := hW
  have hA : DataW.TrodAll enc Try.prog W 0 (fun _ => true) true Try.f4.params.toList args.toList ds p := hA0
  rw [Try.params4] at hA hval
  obtain ⟨v0, vs0, d0, ds0, p0, q0, hargs, rfl, rfl, h0, r0⟩ := trodAll_cons hA
  obtain ⟨rfl, rfl, rfl⟩ := trodAll_nil r0
  obtain rfl : args = #[v0] := by cases args; simp_all
  obtain ⟨rfl, rfl⟩ := trodVars_none hV
  obtain ⟨a0, rfl, rfl, rfl, w0⟩ := open_string Try.underlying9 (hval 0 9 v0 rfl rfl) h0
  clear hA0 hval0
  simp only [List.append_nil] at hW'
  refine (walk a0 w0 W).mono fun e W' ⟨he, hg⟩ => ?_
  subst he
  exact ⟨_, rfl, post_bare hW' (fun _ _ _ => (trodAll_cons_mk (shut_bool Try.underlying4 _) trodAll_mk0)) (fun sp => (trodAll_cons_mk (shut_string Try.underlying9 w0) trodAll_mk0)) (fun _ => rfl) hg⟩

theorem proved : Rows.LexQuotesSaid :=
  OpenClaim.holds_of_wide 4 Try.f4 rfl rfl rfl rfl rfl rfl rfl ⟨rfl, rfl, rfl, rfl, rfl⟩ rfl rfl rfl rfl rfl (by kernel_rfl) Try.func4 (by kernel_rfl)
    (of_decide_eq_true (by kernel_rfl)) (by unfold Func.isWrapper; first | (rw [if_pos (by decide +kernel)]; kernel_rfl) | (rw [if_neg (by decide +kernel)]; exact ⟨rfl, rfl⟩))
    (fun os started H enc _ => lifted os started H enc)
#print axioms proved
end Go.Proofs.Ytejofdhpegcmjaa.lexQuotes
