/- DecShows: for any number and any text behind it the law returns true, and its arguments read as before. No condition. -/
import Derived.Test.YtghbhaoogcgbfaaPost
import Derived.Test.YtghbhaoogcgbfaaRefN
import Derived.Test.YtghbhaoogcgbfaaThere
import Derived.SizedLaws
namespace Go.Proofs.Ytghbhaoogcgbfaa.decShows
open Go.ChangeShapes Go.WideShapes Go.ChangeAt Go.RowKit Go.ChangeMaps
theorem decZ_len : ∀ k n, (decZ k n).length ≤ k
  | 0, _ => by simp [decZ]
  | k + 1, n => by
    unfold decZ
    split
    · simp
    · have := decZ_len k (n / 10); simp; omega
theorem showText_len (a : Int) : (showText a).length ≤ 21 := by
  have h : ∀ n, (showPlain n).length ≤ 20 := by
    intro n
    have h1 := decZ_len 12 (n / 1000000 / 10)
    have h2 := frac_len (n % 1000000)
    unfold showPlain
    simp only [List.length_append, List.length_singleton]
    omega
  have := h a.natAbs
  unfold showText
  split <;> simp <;> omega

theorem refShow_any (a : Int) (w : World) (ha : Fits a) :
    Calls Try.prog 31 #[.int .i64 a] w (ShowPost a w) :=
  (refShow_grow a w ha).mono fun e w' ⟨t, ht, he, hb⟩ => ⟨t, by
    rw [ht, grow_plain _ (by unfold Fits at ha; omega)]
    rfl, he, hb⟩

theorem clean_nil : Clean [] := ⟨fun c h => by simp at h⟩

theorem bytes_eq {t u : ByteArray} (h : t.data.toList = u.data.toList) : t = u := by
  apply ByteArray.ext
  exact Array.toList_inj.1 h

/-- What stands behind: nothing; what goes on with a number; something else. -/
theorem behind_cases (bh : ByteArray) : (bh.toList = [] ∧ Clean bh.data.toList) ∨
    (∃ h : 0 < bh.size, ¬ bh.toList = [] ∧ ((bh[0].toNat : Int) == 46) = true) ∨
    (∃ h : 0 < bh.size, ¬ bh.toList = [] ∧ ((bh[0].toNat : Int) == 46) = false ∧ 48 ≤ bh[0].toNat ∧ bh[0].toNat ≤ 57) ∨
    (∃ h : 0 < bh.size, ¬ bh.toList = [] ∧ ((bh[0].toNat : Int) == 46) = false ∧ bh[0].toNat < 48 ∧ Clean bh.data.toList) ∨
    (∃ h : 0 < bh.size, ¬ bh.toList = [] ∧ ((bh[0].toNat : Int) == 46) = false ∧ 57 < bh[0].toNat ∧ Clean bh.data.toList) := by
  rw [ByteArray.toList_eq]
  by_cases h0 : bh.data.toList = []
  · exact Or.inl ⟨h0, by rw [h0]; exact clean_nil⟩
  have hp : 0 < bh.size := by
    have h1 : bh.data.toList.length = bh.size := Array.length_toList
    have h2 : bh.data.toList.length ≠ 0 := fun e => h0 (List.length_eq_zero_iff.1 e)
    omega
  have hhead : bh.data.toList.head? = some bh[0] := by
    rw [List.head?_eq_getElem?]; exact at_some bh 0 hp
  by_cases h46 : bh[0].toNat = 46
  · exact Or.inr (Or.inl ⟨hp, h0, by rw [h46]; rfl⟩)
  have hb : ((bh[0].toNat : Int) == 46) = false := by rw [beq_eq_false_iff_ne]; omega
  have hcl : bh[0].toNat < 48 ∨ 57 < bh[0].toNat → Clean bh.data.toList := fun hd => ⟨fun c hc => by
    rw [hhead] at hc
    injection hc with hc
    subst hc
    refine ⟨?_, h46⟩
    simp [isDig]; omega⟩
  by_cases h1 : bh[0].toNat < 48
  · exact Or.inr (Or.inr (Or.inr (Or.inl ⟨hp, h0, hb, h1, hcl (Or.inl h1)⟩)))
  by_cases h2 : 57 < bh[0].toNat
  · exact Or.inr (Or.inr (Or.inr (Or.inr ⟨hp, h0, hb, h2, hcl (Or.inr h2)⟩)))
  · exact Or.inr (Or.inr (Or.inl ⟨hp, h0, hb, by omega, by omega⟩))

set_option maxRecDepth 100000 in
set_option maxHeartbeats 2000000 in
theorem walk (a : Int) (bh : ByteArray) (hwa : (Lit.int .i64 a).wf = true) (hz : bh.size ≤ 140737488355328) (w : World) :
    Calls Try.prog 8 #[.int .i64 a, .string bh] w fun e w' => e = .returned (.bool true) ∧ Below w.heap.size w w' := by
  have ha := wf_fits hwa
  have hlen := showText_len a
  have S1 := Lib.hid (fun w => show_any a w ha)
  have S2 := Lib.hid (fun w => refShow_any a w ha)
  have P1 := Lib.hid (parse_text a ha [] [] (by simp) clean_nil)
  have P2 := Lib.hid (fun hcl => parse_text a ha [9] bh.data.toList (by intro c hc; simp at hc; subst hc; rfl) hcl)
  clear ha hwa
  go_enter Try.func8, Try.ntmps8
  go_wp2_with fail
  refine (S1.out _).mono ?_
  rintro e w1 ⟨t, ht, rfl, b1⟩
  have B1 := Lib.hid b1; clear b1
  have hts : (showText a).length = t.size := by rw [← ht]; exact Array.length_toList
  have ht21 : t.size ≤ 21 := by omega
  have Q1 := Lib.hid (show parseAns t.data.toList = .tuple #[.int .i64 a, .int .i64 (t.size : Int), .int .i64 0] from by
    have := P1.out
    simp only [List.nil_append, List.append_nil, List.length_nil, Nat.zero_add] at this
    rw [ht, this, hts]; rfl)
  have Q2 := Lib.hid (show ∀ hcl : Clean bh.data.toList, parseAns (({ data := #[9] } : ByteArray) ++ t ++ bh).data.toList = .tuple #[.int .i64 a, .int .i64 ((t.size : Int) + 1), .int .i64 0] from fun hcl => by
    have := P2.out hcl
    rw [ByteArray.data_append, Array.toList_append, one_data, ht]
    rw [show (9 :: showText a) ++ bh.data.toList = [9] ++ (showText a ++ bh.data.toList) from rfl, this, hts]
    simp only [num3, List.length_singleton]
    rw [show ((1 + t.size : Nat) : Int) = (t.size : Int) + 1 from by omega])
  have S2' := Lib.hid (show ∀ w, Calls Try.prog 31 #[.int .i64 a] w fun e w' => e = .returned (.string t) ∧ Below w.heap.size w w' from fun w => (S2.out w).mono fun e w' ⟨u, hu, he, hb⟩ => ⟨by rw [he, bytes_eq (hu.trans ht.symm)], hb⟩)
  clear ht hts hlen S1 S2 P1 P2
  go_wp2_with fail
  refine (parse_any t _ (by omega)).mono ?_
  rintro e w2 ⟨rfl, rfl⟩
  rw [Q1.out]
  go_wp2_with fail
  refine (S2'.out _).mono ?_
  rintro e w3 ⟨rfl, b3⟩
  have B3 := Lib.hid (Below.step B1.out b3); clear b3
  rcases behind_cases bh with ⟨h1, hcl⟩ | ⟨hp, h1, h2⟩ | ⟨hp, h1, h2, h3, h4⟩ | ⟨hp, h1, h2, h3, hcl⟩ | ⟨hp, h1, h2, h3, hcl⟩
  case' inl => have hne : (!bh.toList.isEmpty) = false := by simp [h1]
  case' inr.inl => have hne : (!bh.toList.isEmpty) = true := by simp [h1]
  case' inr.inr.inl => have hne : (!bh.toList.isEmpty) = true := by simp [h1]
  case' inr.inr.inr.inl => have hne : (!bh.toList.isEmpty) = true := by simp [h1]
  case' inr.inr.inr.inl => have g1 : decide ((48 : Int) ≤ (bh[0].toNat : Int)) = false := by simp; omega
  case' inr.inr.inr.inl => clear h3
  case' inr.inr.inr.inr => have hne : (!bh.toList.isEmpty) = true := by simp [h1]
  case' inr.inr.inr.inr => have g1 : decide ((48 : Int) ≤ (bh[0].toNat : Int)) = true := by simp; omega
  case' inr.inr.inr.inr => have g2 : decide ((bh[0].toNat : Int) ≤ 57) = false := by simp; omega
  case' inr.inr.inr.inr => clear h3
  case inr.inl =>
    go_wp2_with fail
    refine (lives_any _).mono ?_
    rintro e w4 ⟨rfl, b4⟩
    have B4 := Lib.hid (Below.step B3.out b4); clear b4
    go_wp2_with fail
    go_ret
    exact ⟨rfl, B4.out⟩
  case inr.inr.inl =>
    go_wp2_with fail
    refine (lives_any _).mono ?_
    rintro e w4 ⟨rfl, b4⟩
    have B4 := Lib.hid (Below.step B3.out b4); clear b4
    go_wp2_with fail
    go_ret
    exact ⟨rfl, B4.out⟩
  all_goals
    have Q3 := Lib.hid (Q2.out hcl); clear hcl
    go_wp2_with fail
    refine (parse_any _ _ (by rw [ByteArray.size_append, one_size]; omega)).mono ?_
    rintro e w4 ⟨rfl, rfl⟩
    rw [Q3.out]
    go_wp2_with fail
    refine (lives_any _).mono ?_
    rintro e w5 ⟨rfl, b5⟩
    have B5 := Lib.hid (Below.step B3.out b5); clear b5
    go_wp2_with fail
    go_ret
    exact ⟨rfl, B5.out⟩

set_option maxRecDepth 100000 in
theorem lifted (os : Os) (started : os.Started) (H : Type) (enc : TypeId × Value → H) :
    ReturnsInHanded {} Try.checked os 8 .any (Rows.decShowsSpec.pre6 enc Try.prog Try.f8 Rows.decShowsRow.domain false) (Rows.decShowsSpec.post enc Try.prog Try.f8 false true false false) := by
  refine returnsInHanded_of_change_sized (C := Try.checked) own started (by kernel_rfl) Try.func8
    (ChangeSpec.witness6 (enc := enc) (C := Try.checked) false ⟨#[], #[.int .i64 0, .string ⟨#[]⟩], []⟩ 8 (by kernel_rfl) (by kernel_rfl) (by kernel_rfl) (by kernel_rfl)) ?_
  intro W base args ds gs before hval0 hW hcnd hsz0 _
  have hval : ∀ (j : Nat) t v, Try.f8.params[j]? = some t → args[j]? = some v → Value.okWide Try.prog W .any base t v := hval0
  have hsz : (DataW.weightsEach Try.prog (Try.f8.params.toList ++ Rows.decShowsSpec.plain.varTypes Try.prog) (ds ++ gs)).all (· ≤ reachBytes) = true := hsz0
  have hW' := hW
  obtain ⟨p, q, hA0, hV, rfl, hfz, hnd⟩ := hW
  have hA : DataW.TrodAll enc Try.prog W 0 (fun _ => true) true Try.f8.params.toList args.toList ds p := hA0
  rw [Try.params8] at hA hval hsz
  obtain ⟨v0, vs0, d0, ds0, p0, q0, hargs, rfl, rfl, h0, r0⟩ := trodAll_cons hA
  obtain ⟨v1, vs1, d1, ds1, p1, q1, rfl, rfl, rfl, h1, r1⟩ := trodAll_cons r0
  obtain ⟨rfl, rfl, rfl⟩ := trodAll_nil r1
  obtain rfl : args = #[v0, v1] := by cases args; simp_all
  obtain ⟨rfl, rfl⟩ := trodVars_none hV
  obtain ⟨a0, rfl, rfl, rfl, w0⟩ := open_int Try.underlying2 (hval 0 2 v0 rfl rfl) h0
  obtain ⟨a1, rfl, rfl, rfl, w1⟩ := open_string Try.underlying9 (hval 1 9 v1 rfl rfl) h1
  have z1 : a1.size ≤ 140737488355328 := by
    have h := sized_string hsz (j := 1) (t := 9) (bytes := a1.data.toList) rfl rfl
    have h2 := reachBytes_lt
    have h3 : a1.data.toList.length = a1.size := Array.length_toList
    omega
  clear hA0 hval0
  simp only [List.append_nil] at hW'
  refine (walk a0 a1 w0 z1 W).mono fun e W' ⟨he, hg⟩ => ?_
  subst he
  exact ⟨_, rfl, post_bare hW' (fun _ _ _ => (trodAll_cons_mk (shut_bool Try.underlying4 _) trodAll_mk0)) (fun sp => (trodAll_cons_mk (shut_int Try.underlying2 w0) (trodAll_cons_mk (shut_string Try.underlying9 w1) trodAll_mk0))) (fun _ => rfl) hg⟩

theorem proved : Rows.DecShowsSaid :=
  OpenClaim.holds_of_wide 8 Try.f8 rfl rfl rfl rfl rfl rfl rfl ⟨rfl, rfl, rfl, rfl, rfl⟩ rfl rfl rfl rfl rfl (by kernel_rfl) Try.func8 (by kernel_rfl)
    (of_decide_eq_true (by kernel_rfl)) (by unfold Func.isWrapper; first | (rw [if_pos (by decide +kernel)]; kernel_rfl) | (rw [if_neg (by decide +kernel)]; exact ⟨rfl, rfl⟩))
    (fun os started H enc _ => lifted os started H enc)
#print axioms proved
end Go.Proofs.Ytghbhaoogcgbfaa.decShows
