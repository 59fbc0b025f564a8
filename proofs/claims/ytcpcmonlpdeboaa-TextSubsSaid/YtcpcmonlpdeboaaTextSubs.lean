/- TextSubs: for any text and any two numbers the law returns true, and its arguments read as before. No condition. -/
import Derived.Test.YtcpcmonlpdeboaaPost
import Derived.Test.YtcpcmonlpdeboaaShort
import Derived.Test.YtcpcmonlpdeboaaRefSub
namespace Go.Proofs.Ytcpcmonlpdeboaa.textSubs
open Go.ChangeShapes Go.WideShapes Go.ChangeAt Go.RowKit Go.ChangeMaps

theorem parts (s : ByteArray) (m : Nat) (hs : s.size ≤ 300) (hm : m ≤ 1000) : subB s 1 m ++ subB s (1 + (m : Int)) 1000 = s := by
  have h2 : subB s (1 + (m : Int)) 1000 = s.extract (adv s 0 m) s.size := by
    unfold subB subN
    obtain ⟨K, hK⟩ : ∃ K, K = (1000 : Int).toNat := ⟨_, rfl⟩
    have hK2 : 300 ≤ K := by omega
    rw [if_neg (by omega), if_neg (by omega), show (1 + (m : Int) - 1).toNat = m from by omega, ← hK]
    clear hK
    rw [adv_full s 0 (m + K) (Nat.zero_le _) (by omega)]
  have h1 : subB s 1 m = s.extract 0 (adv s 0 m) := by
    unfold subB subN
    by_cases h : (m : Int) < 1
    · rw [if_pos h, show m = 0 from by omega]
      exact (part_none s 0 0 (Nat.le_refl _)).symm
    · rw [if_neg h, if_neg (by omega), show ((1 : Int) - 1).toNat = 0 from rfl, Int.toNat_natCast, Nat.zero_add]
      rfl
  rw [h1, h2, part_join s 0 _ _ (Nat.zero_le _) (adv_le s m 0 (Nat.zero_le _)), part_all]

theorem sub_size (s : ByteArray) (f m : Int) : (subB s f m).size ≤ s.size := by
  rw [← out_end]; exact out_size _ _ _ _

set_option maxRecDepth 100000 in
set_option maxHeartbeats 2000000 in
theorem walk (s : ByteArray) (f m : Int) (hs : s.size ≤ maxLen) (hf : -9223372036854775808 ≤ f ∧ f ≤ 9223372036854775807) (hm : -9223372036854775808 ≤ m ∧ m ≤ 9223372036854775807) (w : World) (hc : ∃ m, w.cell? ⟨0, 0, none⟩ = some (.int .i64 m)) :
    Calls Try.prog 4 #[.string s, .int .i64 f, .int .i64 m] w fun e w' => e = .returned (.bool true) ∧ Below w.heap.size w w' := by
  obtain ⟨mx, hc⟩ := hc
  have h0 := cell_size hc
  have LV := Lib.hid (fun wr (hb : Below w.heap.size w wr) => lives_any mx wr ((hb.cell (p := ⟨0, 0, none⟩) h0).trans hc))
  have SH := Lib.hid (fun w => short_any s hs w)
  have hu := short_size s
  generalize shortB s = u at *
  have S1 := Lib.hid (fun w => sub_any u f m (by simp only [maxLen]; omega) hf hm w)
  have R1 := Lib.hid (fun w => refSub_any u f m (by omega) hf hm w)
  have S2 := Lib.hid (fun (k : Nat) (hk : k ≤ 1000) w => sub_any u 1 k (by simp only [maxLen]; omega) (by omega) (by omega) w)
  have S3 := Lib.hid (fun (k : Nat) (hk : k ≤ 1000) w => sub_any u (1 + (k : Int)) 1000 (by simp only [maxLen]; omega) (by omega) (by omega) w)
  have PT := Lib.hid (fun (k : Nat) (hk : k ≤ 1000) => parts u k hu hk)
  have SZ := Lib.hid (fun f m => sub_size u f m)
  obtain ⟨m1, m2⟩ := hm
  clear h0 hc hf
  have hcs : m < 0 ∨ (0 ≤ m ∧ 1000 < m) ∨ (0 ≤ m ∧ m ≤ 1000) := by omega
  rcases hcs with h1 | ⟨h1, h2⟩ | ⟨h1, h2⟩
  · go_enter Try.func4, Try.ntmps4
    go_wp2_with fail
    refine (SH.out _).mono ?_
    rintro e w1 ⟨rfl, rfl⟩
    go_wp2_with fail
    refine (S1.out _).mono ?_
    rintro e w2 ⟨rfl, b2⟩
    have B2 := Lib.hid b2; clear b2
    go_wp2_with fail
    refine (R1.out _).mono ?_
    rintro e w3 ⟨rfl, b3⟩
    have B3 := Lib.hid (Below.step B2.out b3); clear b3
    go_wp2_with fail
    refine (LV.out _ B3.out).mono ?_
    rintro e w4 ⟨rfl, b4⟩
    have B4 := Lib.hid (Below.step B3.out b4); clear b4
    go_wp2_with fail
    go_ret
    exact ⟨rfl, B4.out⟩
  · go_enter Try.func4, Try.ntmps4
    go_wp2_with fail
    refine (SH.out _).mono ?_
    rintro e w1 ⟨rfl, rfl⟩
    go_wp2_with fail
    refine (S1.out _).mono ?_
    rintro e w2 ⟨rfl, b2⟩
    have B2 := Lib.hid b2; clear b2
    go_wp2_with fail
    refine (R1.out _).mono ?_
    rintro e w3 ⟨rfl, b3⟩
    have B3 := Lib.hid (Below.step B2.out b3); clear b3
    go_wp2_with fail
    refine (LV.out _ B3.out).mono ?_
    rintro e w4 ⟨rfl, b4⟩
    have B4 := Lib.hid (Below.step B3.out b4); clear b4
    go_wp2_with fail
    go_ret
    exact ⟨rfl, B4.out⟩
  · obtain ⟨k, rfl⟩ := Int.eq_ofNat_of_zero_le h1
    have hk : k ≤ 1000 := by omega
    have T2 := Lib.hid (fun w => S2.out k hk w)
    have T3 := Lib.hid (fun w => S3.out k hk w)
    have TP := Lib.hid (PT.out k hk)
    have z2 := SZ.out 1 k
    have z3 := SZ.out (1 + (k : Int)) 1000
    generalize subB u 1 (k : Int) = x at *
    generalize subB u (1 + (k : Int)) 1000 = y at *
    clear h1
    go_enter Try.func4, Try.ntmps4
    go_wp2_with fail
    refine (SH.out _).mono ?_
    rintro e w1 ⟨rfl, rfl⟩
    go_wp2_with fail
    refine (S1.out _).mono ?_
    rintro e w2 ⟨rfl, b2⟩
    have B2 := Lib.hid b2; clear b2
    go_wp2_with fail
    refine (R1.out _).mono ?_
    rintro e w3 ⟨rfl, b3⟩
    have B3 := Lib.hid (Below.step B2.out b3); clear b3
    go_wp2_with fail
    refine (T2.out _).mono ?_
    rintro e w4 ⟨rfl, b4⟩
    have B4 := Lib.hid (Below.step B3.out b4); clear b4
    go_wp2_with fail
    refine (T3.out _).mono ?_
    rintro e w5 ⟨rfl, b5⟩
    have B5 := Lib.hid (Below.step B4.out b5); clear b5
    have hxy := TP.out
    go_wp2_with fail
    refine (LV.out _ B5.out).mono ?_
    rintro e w6 ⟨rfl, b6⟩
    have B6 := Lib.hid (Below.step B5.out b6); clear b6
    go_wp2_with fail
    go_ret
    exact ⟨rfl, B6.out⟩

set_option maxRecDepth 100000 in
theorem lifted (os : Os) (started : os.Started) (H : Type) (enc : TypeId × Value → H) :
    ReturnsInHanded {} Try.checked os 4 .any (Rows.textSubsSpec.pre6 enc Try.prog Try.f4 Rows.textSubsRow.domain false) (Rows.textSubsSpec.post enc Try.prog Try.f4 false true false false) := by
  refine returnsInHanded_of_change_shaped (C := Try.checked) own started (by kernel_rfl) Try.func4
    (ChangeSpec.witness6 (enc := enc) (C := Try.checked) false ⟨#[], #[.string ⟨#[]⟩, .int .i64 0, .int .i64 0], []⟩ 8 (by kernel_rfl) (by kernel_rfl) (by kernel_rfl) (by kernel_rfl)) ?_
  intro W base args ds gs before hval0 hW _ _ hsh _
  have hval : ∀ (j : Nat) t v, Try.f4.params[j]? = some t → args[j]? = some v → Value.okWide Try.prog W .any base t v := hval0
  have hW' := hW
  obtain ⟨p, q, hA0, hV, rfl, hfz, hnd⟩ := hW
  have hA : DataW.TrodAll enc Try.prog W 0 (fun _ => true) true Try.f4.params.toList args.toList ds p := hA0
  rw [Try.params4] at hA hval
  obtain ⟨v0, vs0, d0, ds0, p0, q0, hargs, rfl, rfl, h0, r0⟩ := trodAll_cons hA
  obtain ⟨v1, vs1, d1, ds1, p1, q1, rfl, rfl, rfl, h1, r1⟩ := trodAll_cons r0
  obtain ⟨v2, vs2, d2, ds2, p2, q2, rfl, rfl, rfl, h2, r2⟩ := trodAll_cons r1
  obtain ⟨rfl, rfl, rfl⟩ := trodAll_nil r2
  obtain rfl : args = #[v0, v1, v2] := by cases args; simp_all
  obtain ⟨rfl, rfl⟩ := trodVars_none hV
  obtain ⟨a0, rfl, rfl, rfl, w0⟩ := open_string Try.underlying9 (hval 0 9 v0 rfl rfl) h0
  obtain ⟨a1, rfl, rfl, rfl, w1⟩ := open_int Try.underlying3 (hval 1 3 v1 rfl rfl) h1
  obtain ⟨a2, rfl, rfl, rfl, w2⟩ := open_int Try.underlying3 (hval 2 3 v2 rfl rfl) h2
  clear hA0 hval0
  simp only [List.append_nil] at hW'
  refine (walk a0 a1 a2 w0 (wf_fits w1) (wf_fits w2) W (max_cell hsh)).mono fun e W' ⟨he, hg⟩ => ?_
  subst he
  exact ⟨_, rfl, post_bare hW' (fun _ _ _ => (trodAll_cons_mk (shut_bool Try.underlying4 _) trodAll_mk0)) (fun sp => (trodAll_cons_mk (shut_string Try.underlying9 w0) (trodAll_cons_mk (shut_int Try.underlying3 w1) (trodAll_cons_mk (shut_int Try.underlying3 w2) trodAll_mk0)))) (fun _ => rfl) hg⟩

theorem proved : Rows.TextSubsSaid :=
  OpenClaim.holds_of_wide 4 Try.f4 rfl rfl rfl rfl rfl rfl rfl ⟨rfl, rfl, rfl, rfl, rfl⟩ rfl rfl rfl rfl rfl (by kernel_rfl) Try.func4 (by kernel_rfl)
    (of_decide_eq_true (by kernel_rfl)) (by unfold Func.isWrapper; first | (rw [if_pos (by decide +kernel)]; kernel_rfl) | (rw [if_neg (by decide +kernel)]; exact ⟨rfl, rfl⟩))
    (fun os started H enc _ => lifted os started H enc)
#print axioms proved
end Go.Proofs.Ytcpcmonlpdeboaa.textSubs
