/- TextFinds: for any two texts the law returns true, and its arguments read as before. No condition. -/
import Derived.Test.YtcpcmonlpdeboaaPost
import Derived.Test.YtcpcmonlpdeboaaShort
import Derived.Test.YtcpcmonlpdeboaaRefIndex
namespace Go.Proofs.Ytcpcmonlpdeboaa.textFinds
open Go.ChangeShapes Go.WideShapes Go.ChangeAt Go.RowKit Go.ChangeMaps

theorem idx_sub {s t : ByteArray} {n : Nat} (h : IsIdx s t n) (hn : 0 < n) : subB s n (cnt t 0) = t := by
  rcases h with ⟨h0, _⟩ | ⟨i, rfl, _, hit, _⟩
  · omega
  · have hp := idx_part hit
    unfold subB subN
    by_cases hc : ((cnt t 0 : Nat) : Int) < 1
    · rw [if_pos hc]
      rw [show cnt t 0 = 0 from by omega, adv_zero, part_none s _ _ (Nat.le_refl _)] at hp
      exact hp
    · rw [if_neg hc, if_neg (by omega), Int.toNat_natCast, show (((i + 1 : Nat) : Int) - 1).toNat = i from by omega, adv_add]
      exact hp

theorem idx_le {s t : ByteArray} {n : Nat} (h : IsIdx s t n) : n ≤ s.size + 1 := by
  rcases h with ⟨rfl, _⟩ | ⟨i, rfl, hi, _⟩
  · omega
  · have := cnt_le s s.size 0 (by omega)
    omega

set_option maxRecDepth 100000 in
set_option maxHeartbeats 2000000 in
theorem walk (s0 t0 : ByteArray) (hs : s0.size ≤ maxLen) (ht : t0.size ≤ maxLen) (w : World) (hc : ∃ m, w.cell? ⟨0, 0, none⟩ = some (.int .i64 m)) :
    Calls Try.prog 5 #[.string s0, .string t0] w fun e w' => e = .returned (.bool true) ∧ Below w.heap.size w w' := by
  obtain ⟨mx, hc⟩ := hc
  have h0 := cell_size hc
  have LV := Lib.hid (fun wr (hb : Below w.heap.size w wr) => lives_any mx wr ((hb.cell (p := ⟨0, 0, none⟩) h0).trans hc))
  have S0 := Lib.hid (fun w => short_any s0 hs w)
  have T0 := Lib.hid (fun w => short_any t0 ht w)
  have hu := short_size s0
  have hv := short_size t0
  generalize shortB s0 = s at *
  generalize shortB t0 = t at *
  clear hs ht
  have IX := Lib.hid (index_any s t mx (by omega) (by omega) w hc)
  have RX := Lib.hid (fun w => refIndex_any s t (by omega) (by omega) w)
  have LT := Lib.hid (fun w => len_any t (by simp only [maxLen]; omega) w)
  have hct := cnt_le t t.size 0 (by omega)
  have SB := Lib.hid (fun (n : Nat) (hn : IsIdx s t n) (h0 : 0 < n) w => show Calls Try.prog 14 #[.string s, .int .i64 n, .int .i64 (cnt t 0)] w fun e w' => e = .returned (.string t) ∧ Below w.heap.size w w' from by
    have h := sub_any s n (cnt t 0) (by simp only [maxLen]; omega) (by have := idx_le hn; omega) (by omega) w
    rw [idx_sub hn h0] at h
    exact h)
  clear h0 hc
  go_enter Try.func5, Try.ntmps5
  go_wp2_with fail
  refine (S0.out _).mono ?_
  rintro e w1 ⟨rfl, rfl⟩
  go_wp2_with fail
  refine (T0.out _).mono ?_
  rintro e w1 ⟨rfl, rfl⟩
  go_wp2_with fail
  refine IX.out.mono ?_
  rintro e w1 ⟨n, hn, rfl, b1⟩
  have B1 := Lib.hid b1; clear b1
  have HN := Lib.hid hn
  have hle := idx_le hn
  clear hn
  go_wp2_with fail
  refine (RX.out _).mono ?_
  rintro e w2 ⟨n', hn', rfl, b2⟩
  have B2 := Lib.hid (Below.step B1.out b2); clear b2
  obtain rfl : n = n' := idx_unique HN.out hn'
  clear hn'
  rcases Nat.eq_zero_or_pos n with rfl | hpos
  · go_wp2_with fail
    refine (LV.out _ B2.out).mono ?_
    rintro e w3 ⟨rfl, b3⟩
    have B3 := Lib.hid (Below.step B2.out b3); clear b3
    go_wp2_with fail
    go_ret
    exact ⟨rfl, B3.out⟩
  · have SN := Lib.hid (SB.out n HN.out hpos)
    have hz : ((n : Int) == 0) = false := by rw [beq_eq_false_iff_ne]; omega
    go_wp2_with fail
    refine (LT.out _).mono ?_
    rintro e w3 ⟨rfl, b3⟩
    have B3 := Lib.hid (Below.step B2.out b3); clear b3
    go_wp2_with fail
    refine (SN.out _).mono ?_
    rintro e w4 ⟨rfl, b4⟩
    have B4 := Lib.hid (Below.step B3.out b4); clear b4
    go_wp2_with fail
    refine (LV.out _ B4.out).mono ?_
    rintro e w5 ⟨rfl, b5⟩
    have B5 := Lib.hid (Below.step B4.out b5); clear b5
    go_wp2_with fail
    go_ret
    exact ⟨rfl, B5.out⟩

set_option maxRecDepth 100000 in
theorem lifted (os : Os) (started : os.Started) (H : Type) (enc : TypeId × Value → H) :
    ReturnsInHanded {} Try.checked os 5 .any (Rows.textFindsSpec.pre6 enc Try.prog Try.f5 Rows.textFindsRow.domain false) (Rows.textFindsSpec.post enc Try.prog Try.f5 false true false false) := by
  refine returnsInHanded_of_change_shaped (C := Try.checked) own started (by kernel_rfl) Try.func5
    (ChangeSpec.witness6 (enc := enc) (C := Try.checked) false ⟨#[], #[.string ⟨#[]⟩, .string ⟨#[]⟩], []⟩ 8 (by kernel_rfl) (by kernel_rfl) (by kernel_rfl) (by kernel_rfl)) ?_
  intro W base args ds gs before hval0 hW _ _ hsh _
  have hval : ∀ (j : Nat) t v, Try.f5.params[j]? = some t → args[j]? = some v → Value.okWide Try.prog W .any base t v := hval0
  have hW' := hW
  obtain ⟨p, q, hA0, hV, rfl, hfz, hnd⟩ := hW
  have hA : DataW.TrodAll enc Try.prog W 0 (fun _ => true) true Try.f5.params.toList args.toList ds p := hA0
  rw [Try.params5] at hA hval
  obtain ⟨v0, vs0, d0, ds0, p0, q0, hargs, rfl, rfl, h0, r0⟩ := trodAll_cons hA
  obtain ⟨v1, vs1, d1, ds1, p1, q1, rfl, rfl, rfl, h1, r1⟩ := trodAll_cons r0
  obtain ⟨rfl, rfl, rfl⟩ := trodAll_nil r1
  obtain rfl : args = #[v0, v1] := by cases args; simp_all
  obtain ⟨rfl, rfl⟩ := trodVars_none hV
  obtain ⟨a0, rfl, rfl, rfl, w0⟩ := open_string Try.underlying9 (hval 0 9 v0 rfl rfl) h0
  obtain ⟨a1, rfl, rfl, rfl, w1⟩ := open_string Try.underlying9 (hval 1 9 v1 rfl rfl) h1
  clear hA0 hval0
  simp only [List.append_nil] at hW'
  refine (walk a0 a1 w0 w1 W (max_cell hsh)).mono fun e W' ⟨he, hg⟩ => ?_
  subst he
  exact ⟨_, rfl, post_bare hW' (fun _ _ _ => (trodAll_cons_mk (shut_bool Try.underlying4 _) trodAll_mk0)) (fun sp => (trodAll_cons_mk (shut_string Try.underlying9 w0) (trodAll_cons_mk (shut_string Try.underlying9 w1) trodAll_mk0))) (fun _ => rfl) hg⟩

theorem proved : Rows.TextFindsSaid :=
  OpenClaim.holds_of_wide 5 Try.f5 rfl rfl rfl rfl rfl rfl rfl ⟨rfl, rfl, rfl, rfl, rfl⟩ rfl rfl rfl rfl rfl (by kernel_rfl) Try.func5 (by kernel_rfl)
    (of_decide_eq_true (by kernel_rfl)) (by unfold Func.isWrapper; first | (rw [if_pos (by decide +kernel)]; kernel_rfl) | (rw [if_neg (by decide +kernel)]; exact ⟨rfl, rfl⟩))
    (fun os started H enc _ => lifted os started H enc)
#print axioms proved
end Go.Proofs.Ytcpcmonlpdeboaa.textFinds
