/- TextChars: for any text of bulk at most 1048576 the law returns true, and its argument reads as before. The condition: that bound. -/
import Derived.Test.YtcpcmonlpdeboaaPost
import Derived.Test.YtcpcmonlpdeboaaChars
namespace Go.Proofs.Ytcpcmonlpdeboaa.textChars
open Go.ChangeShapes Go.WideShapes Go.ChangeAt Go.RowKit Go.ChangeMaps

/-- What is joined of the first characters. -/
def allK (s : ByteArray) (k : Nat) : ByteArray := s.extract 0 (adv s 0 (min k 400))

theorem all_size (s : ByteArray) (k : Nat) : (allK s k).size ≤ s.size := by
  unfold allK; rw [ByteArray.size_extract]; omega

theorem all_step {s : ByteArray} {k : Nat} (h : k < 400) {x : ByteArray} (hx : (chs s 0)[k]? = some x) (hk : k < cnt s 0) : allK s k ++ x = allK s (k + 1) := by
  rw [chs_get s 0 k hk] at hx
  injection hx with hx
  subst hx
  unfold allK
  rw [show min k 400 = k from by omega, show min (k + 1) 400 = k + 1 from by omega]
  exact part_join s _ _ _ (Nat.zero_le _) (adv_mono s 0 (by omega))

theorem all_same {s : ByteArray} {k : Nat} (h : ¬ k < 400) : allK s k = allK s (k + 1) := by
  unfold allK
  rw [show min k 400 = 400 from by omega, show min (k + 1) 400 = 400 from by omega]

theorem all_end (s : ByteArray) (h : cnt s 0 ≤ 400) : allK s (cnt s 0) = s := by
  unfold allK
  rw [show min (cnt s 0) 400 = cnt s 0 from by omega, adv_cnt s 0 _ (Nat.zero_le _) (Nat.le_refl _), part_all]

set_option maxRecDepth 100000 in
set_option maxHeartbeats 2000000 in
theorem walk (s : ByteArray) (hs : s.size ≤ 1048576) (w : World) (hm : ∃ m, w.cell? ⟨0, 0, none⟩ = some (.int .i64 m)) :
    Calls Try.prog 3 #[.string s] w fun e w' => e = .returned (.bool true) ∧ Below w.heap.size w w' := by
  obtain ⟨m, hm⟩ := hm
  have h0 := cell_size hm
  have hs' : s.size ≤ maxLen := by simp only [maxLen]; omega
  have LV := Lib.hid (fun wr (hb : Below w.heap.size w wr) => lives_any m wr ((hb.cell (p := ⟨0, 0, none⟩) h0).trans hm))
  have CH := Lib.hid (fun w => chars_any s hs w)
  have RC := Lib.hid (fun w => refChars_any s hs w)
  have LN := Lib.hid (fun w => len_any s hs' w)
  have SY := Lib.hid (@same_yes)
  have AS := Lib.hid (all_size s)
  have hn1 := cnt_le s _ 0 (Nat.le_refl _)
  clear h0 hm hs'
  go_enter Try.func3, Try.ntmps3
  go_wp2_with fail
  refine (CH.out _).mono ?_
  rintro e w1 ⟨p, n, c, rfl, hr, hn, hb⟩
  have HR := Lib.hid hr; clear hr
  have HB := Lib.hid hb; clear hb
  have hnb : n ≤ 1048576 := by omega
  have HN := Lib.hid hn; clear hn hn1
  have hc1 := HR.out.cap
  have hc2 := HR.out.big
  have HE : Hid (allK s 0 = ⟨#[]⟩) := Lib.hid (part_none s 0 _ (by simp [adv]))
  go_wp2_with fail
  go_loop [4, 5] (fun x y => ∃ k : Nat, y = .int .i64 k ∧ k ≤ n ∧ x = .string (allK s k)) (fun _ y => n - (intOf y).toNat)
  case atStart => exact ⟨0, rfl, by omega, str_ext HE.out.symm⟩
  case round =>
    obtain ⟨k, rfl, hk, rfl⟩ := hrel
    by_cases hlt : k < n
    · by_cases h4 : k < 400
      · obtain ⟨b1, o1, x, rfl, hx, hcell⟩ := HR.out.at_ hlt
        have HX := Lib.hid (all_step h4 hx (by have := HN.out; omega)); clear hx
        have hsz := AS.out k
        have hsz2 := AS.out (k + 1)
        have hxs : (allK s k).size + x.size ≤ s.size := by
          have h := congrArg ByteArray.size HX.out
          rw [ByteArray.size_append] at h
          omega
        go_wp2_with fail
        go_round
        case rel => exact ⟨k + 1, by go_num, by omega, by rw [HX.out]⟩
        case measure => simp [intOf]; omega
      · have HX := Lib.hid (all_same (s := s) h4)
        go_wp2_with fail
        go_round
        case rel => exact ⟨k + 1, by go_num, by omega, str_ext HX.out⟩
        case measure => simp [intOf]; omega
    · obtain rfl : k = n := by omega
      by_cases h4 : k ≤ 400
      case' pos => rw [show allK s k = s from by rw [HN.out]; exact all_end s (by rw [← HN.out]; exact h4)]
      all_goals
        go_wp2_with fail
        refine (RC.out _).mono ?_
        rintro e w2 ⟨q, n', c', rfl, hr2, hn2, hb2⟩
        have B2 := Lib.hid (Below.step HB.out hb2)
        have HS := Lib.hid (SY.out p q k n' c c' (chs s 0) w2 (HR.out.below hb2) hr2)
        clear hb2 hr2 hn2
        go_wp2_with fail
        refine HS.out.mono ?_
        rintro e w3 ⟨rfl, b3⟩
        have B3 := Lib.hid (Below.step B2.out b3); clear b3
        go_wp2_with fail
        refine (LN.out _).mono ?_
        rintro e w4 ⟨rfl, b4⟩
        have B4 := Lib.hid (Below.step B3.out b4); clear b4
        rw [← HN.out]
        go_wp2_with fail
        refine (LV.out _ B4.out).mono ?_
        rintro e w5 ⟨rfl, b5⟩
        have B5 := Lib.hid (Below.step B4.out b5); clear b5
        go_wp2_with fail
        go_ret
        exact ⟨rfl, B5.out⟩

set_option maxRecDepth 100000 in
theorem lifted (os : Os) (started : os.Started) (H : Type) (enc : TypeId × Value → H) (F : Stop.Interp) :
    ReturnsInHanded {} Try.checked os 3 .any ((Rows.OpenSpec.upto Rows.textCharsSpec).pre6 enc Try.prog Try.f3 Rows.textCharsUptoRow.domain false) (((Rows.OpenSpec.upto Rows.textCharsSpec).at F).post enc Try.prog Try.f3 false true false false) := by
  refine returnsInHanded_of_cond_shaped (C := Try.checked) (s := Rows.OpenSpec.upto Rows.textCharsSpec) (k := Rows.uptoSmall) rfl own started (by kernel_rfl) Try.func3
    (OpenSpec.witness (enc := enc) (C := Try.checked) (s := Rows.OpenSpec.upto Rows.textCharsSpec) (k := Rows.uptoSmall) rfl false ⟨#[], #[.string ⟨#[]⟩], []⟩ 8 (by kernel_rfl) (by kernel_rfl) (by kernel_rfl)
      (x := ([.lit (.string [])], [], [])) (by kernel_rfl) rfl (by kernel_rfl)) ?_
  intro W base args ds gs before hval0 hW hk hsh
  have hval : ∀ (j : Nat) t v, Try.f3.params[j]? = some t → args[j]? = some v → Value.okWide Try.prog W .any base t v := hval0
  have hW' := hW
  obtain ⟨p, q, hA0, hV, rfl, hfz, hnd⟩ := hW
  have hA : DataW.TrodAll enc Try.prog W 0 (fun _ => true) true Try.f3.params.toList args.toList ds p := hA0
  rw [Try.params3] at hA hval
  obtain ⟨v0, vs0, d0, ds0, p0, q0, hargs, rfl, rfl, h0, r0⟩ := trodAll_cons hA
  obtain ⟨rfl, rfl, rfl⟩ := trodAll_nil r0
  obtain rfl : args = #[v0] := by cases args; simp_all
  obtain ⟨rfl, rfl⟩ := trodVars_none hV
  obtain ⟨a0, rfl, rfl, rfl, w0⟩ := open_string Try.underlying9 (hval 0 9 v0 rfl rfl) h0
  clear hA0 hval0
  simp only [List.append_nil] at hW' hk
  refine (walk a0 (upto_one hk) W (max_cell hsh)).mono fun e W' ⟨he, hg⟩ => ?_
  subst he
  exact ⟨_, rfl, post_bare hW' (fun _ _ _ => (trodAll_cons_mk (shut_bool Try.underlying4 _) trodAll_mk0)) (fun sp => (trodAll_cons_mk (shut_string Try.underlying9 w0) trodAll_mk0)) (fun _ => rfl) hg⟩

theorem proved : Rows.TextCharsUptoSaid :=
  OpenClaim.holds_of_cond 3 Try.f3 rfl rfl rfl rfl rfl rfl rfl ⟨rfl, rfl, rfl, rfl, rfl⟩ rfl rfl rfl rfl rfl (by kernel_rfl) Try.func3 (by kernel_rfl)
    (of_decide_eq_true (by kernel_rfl)) (by unfold Func.isWrapper; first | (rw [if_pos (by decide +kernel)]; kernel_rfl) | (rw [if_neg (by decide +kernel)]; exact ⟨rfl, rfl⟩))
    (fun os started H enc _ F => lifted os started H enc F)
#print axioms proved
end Go.Proofs.Ytcpcmonlpdeboaa.textChars
