/- Merged by program: PJoin, PBranch. -/
import Derived.Laws.OwnMore
import Derived.Test.YtcojnkjcbopnbaaGreatDoorQjax
import Derived.Test.YtcojnkjcbopnbaaGreatDoorQjbg
import Derived.Test.YtcojnkjcbopnbaaGreatDoorQjba
/- aukletref05.Join at any trees: a walk. -/
namespace Go.Proofs.YtcojnkjcbopnbaaGreatDoor
open Go.RowKit

set_option maxRecDepth 100000 in
set_option maxHeartbeats 4000000 in
theorem pjoin_any (kind : Int) (l : List Tree) (b off c : Nat) (cs : Nat → Array Value) (S : Nat → Prop) (w : World) (hl : 0 < l.length) (hlen : l.length ≤ 1000) (hw : wides l ≤ 1000)
    (h8 : ∀ i, i < l.length → Eight w b (off + i * 8) (cs i)) (hat : ∀ i (h : i < l.length), At w S l[i] (cs i)) (hF : ∀ t, t ∈ l → Fine (-1) t) (hkk : kind = 4 ∨ kind = 5) :
    Calls Tryz.prog 104 #[.int .i64 kind, .slice (some ⟨b, off, none⟩) l.length c] w (JoinAns l S w) := by
  have HI := info_re
  have HF := Lib.hid hF
  have HKK := Lib.hid hkk
  have H8 := Lib.hid h8
  have HAT := Lib.hid hat
  have hsz8 : ∀ j, j < l.length → (cs j).size = 8 := fun j hj => (hat j hj).size
  have HS8 := Lib.hid hsz8
  have hbl : b < w.heap.size := (h8 0 hl).lt (hsz8 0 hl)
  clear hF hkk h8 hat hsz8
  go_enter Tryz.func104, Tryz.ntmps104
  go_upto_region 1 with (fail)
  obtain ⟨W, hW, hX, hB, hsz⟩ := re_box w zeroR
  change Code.wp _ _ _ _ (w.alloc (Obj.cells zeroR 68))
  rw [← hW]
  clear hW
  have hWlt := hX.out.lt
  have bK := below_new W (.cells #[] 68)
  have O0 : Hid ((W.alloc (.cells #[] 68)).ownsRow (w.heap.size + 1) 68 8 (.slice (some ⟨W.heap.size, 0, none⟩) 0 0) 0 (flatC (fun _ => zeroR) 0)) := Lib.hid (World.ownsRow_made W #[] 0 (by omega) (by unfold maxLen; omega) rfl)
  have B0 := Lib.hid (Below.step hB.out bK)
  have X0 := Lib.hid (hX.out.after bK)
  clear bK
  go_wp2_with fail
  go_loopw [5, 6] (fun lv y wr => ∃ (i : Nat) (us : List Tree) (ds : Nat → Array Value), y = .int .i64 i ∧ i ≤ l.length ∧ us.length ≤ 1000 ∧ Hid (wr.ownsRow (w.heap.size + 1) 68 8 lv us.length (flatC ds us.length)) ∧ Hid (JnI kind w S us ds (wides (l.take i))) ∧ Hid (Below w.heap.size w wr) ∧ Hid (Box wr w.heap.size zeroR)) (fun _ y _ => l.length - (intOf y).toNat)
  case atStart => exact ⟨0, [], fun _ => zeroR, rfl, by omega, by simp, O0, Lib.hid (JnI.nil _ _ _ _), B0, X0⟩
  case round =>
    clear O0 B0 X0
    obtain ⟨i, us, ds, rfl, hi, hus, hown, hJ, hb, hx⟩ := hrel
    by_cases hgo : i < l.length
    · obtain ⟨ai, ci, e, hsk⟩ := (HAT.out i hgo).opens
      have h8i := (H8.out i hgo).keep (hb.out.block b hbl)
      obtain ⟨k0, f0, lo0, hi0, n0, e'⟩ : ∃ k0 f0 lo0 hi0 n0, cs i = reC k0 f0 lo0 hi0 (.slice ai n0 ci) ∧ k0 = l[i].k ∧ n0 = l[i].kids.length := ⟨_, _, _, _, _, e, rfl, rfl⟩
      rw [e'.1] at h8i
      have EC := Lib.hid e'.1
      have EK := Lib.hid e'.2.1
      have EN := Lib.hid e'.2.2
      have HSk := Lib.hid hsk
      have HWi : Hid (wides (l.take (i + 1)) = wides (l.take i) + wide l[i] ∧ wides (l.take (i + 1)) ≤ 1000) := Lib.hid ⟨wides_take l i hgo, Nat.le_trans (wides_le l _) hw⟩
      clear e e' hsk
      obtain ⟨c0, c1, c2, c3, c4, c5, c6, c7⟩ := eight_re h8i
      clear h8i
      have hdi : decide ((i : Int) < l.length) = true := decide_eq_true (by omega)
      by_cases hkq : k0 = kind
      · have hkb : (k0 == kind) = true := beq_iff_eq.2 hkq
        have hkk : l[i].k = kind := by rw [← EK.out]; exact hkq
        have h45 : kind = 4 ∨ kind = 5 := HKK.out
        have hf := HF.out _ (List.getElem_mem hgo)
        have hn2 : 2 ≤ n0 := by rw [EN.out]; exact (hf.fit.parts (by rw [hkk]; exact h45)).2
        obtain ⟨b', off', csk, rfl, hcc, hk8, hkat⟩ : ∃ (b' off' : Nat) (csk : Nat → Array Value), ai = some ⟨b', off', none⟩ ∧ n0 ≤ ci ∧ (∀ j, j < n0 → Eight w b' (off' + j * 8) (csk j)) ∧ ∀ j (h : j < l[i].kids.length), At w S l[i].kids[j] (csk j) := by
          rcases HSk.out with ⟨e, _⟩ | ⟨_, b', off', c', csk, e, hc, _, h8, hat⟩
          · rw [EN.out, e] at hn2; exact absurd hn2 (by decide)
          · simp only [Value.slice.injEq] at e
            obtain ⟨rfl, _, rfl⟩ := e
            exact ⟨b', off', csk, rfl, by rw [EN.out]; exact hc, fun j hj => h8 j (by rw [← EN.out]; exact hj), hat⟩
        have hn1000 : n0 ≤ 1000 := by
          have h1 := HWi.out
          have h2 : l[i].kids.length ≤ wide l[i] := Nat.le_max_left _ _
          rw [EN.out]; omega
        have hus2 : us.length + n0 ≤ 1000 := by
          have h1 := HWi.out
          have h2 : l[i].kids.length ≤ wide l[i] := Nat.le_max_left _ _
          have h3 := hJ.out.len
          rw [EN.out]; omega
        have hks8 : ∀ j, j < n0 → (csk j).size = 8 := fun j hj => (hkat j (by rw [← EN.out]; exact hj)).size
        have hJ2 : Hid (JnI kind w S (us ++ l[i].kids) (fun j => if j < us.length then ds j else csk (j - us.length)) (wides (l.take (i + 1)))) := Lib.hid (by
          rw [HWi.out.1]
          exact hJ.out.app l[i].kids csk hkat (fun u hu => by rw [← hkk]; exact hf.kid u hu) (wide l[i]) (Nat.le_max_left _ _) (by rw [← EN.out]; exact hn2))
        have hrow2 : Hid (flatC (fun j => if j < us.length then ds j else csk (j - us.length)) (us ++ l[i].kids).length = flatC ds us.length ++ flatC csk n0 ∧ (us ++ l[i].kids).length = us.length + n0) := Lib.hid (by
          have h1 : (us ++ l[i].kids).length = us.length + n0 := by rw [List.length_append, EN.out]
          exact ⟨by rw [h1, flatC_append], h1⟩)
        have hnl : (flatC csk n0).length = n0 * 8 := flatC_len 8 csk n0 hks8
        have hb'w : b' < w.heap.size := (hk8 0 (by omega)).lt (hks8 0 (by omega))
        have HN8 := Lib.hid hk8
        have HK8 := Lib.hid hks8
        have HKA := Lib.hid hkat
        obtain ⟨i0, hi0', hz0, hz1, hz2⟩ := info_parts info_re3
        have hge := hb.out.size
        have O3 := Lib.hid hown.out
        have hnews : Hid (∀ j u, (flatC csk n0)[j]? = some u → wr.cell? ((⟨b', off', none⟩ : Addr).add j) = some u) := Lib.hid (by
          intro j u hj
          have e : (⟨b', off', none⟩ : Addr).add j = ⟨b', off' + j, none⟩ := by unfold Addr.add; split <;> simp_all
          have hjl : j < n0 * 8 := by rw [← hnl]; exact (List.getElem?_eq_some_iff.1 hj).1
          have h1 := flatC_get 8 csk n0 HK8.out (j / 8) (by omega) (j % 8) (by omega)
          rw [show j / 8 * 8 + j % 8 = j by omega, hj] at h1
          have h2 := ((HN8.out (j / 8) (by omega)).keep (hb.out.block b' hb'w)) (j % 8) (by omega)
          rw [e, show off' + j = off' + j / 8 * 8 + j % 8 by omega, h2, ← h1])
        clear hk8 hks8 hkat hf hkk HSk
        go_wp2_with (at_builtin; refine wpList_append_own _ rfl _ _ 66 rfl (w.heap.size + 1) 68 i0 (.agg #[.int .i64 0, .int .u64 0, .int .u64 0, .int .u64 0, .int .u64 0, .int .i64 0, .int .i64 0, .slice none 0 0]) 8 80 Tryz.underlying66 hi0' hz0 hz1 hz2 rfl (by decide) _ _ _ rfl O3.out ⟨b', off', none⟩ n0 ci (flatC csk n0) rfl hnl hnews.out ?c2 ?c3 ?c4 ?c5 ?_)
        case c2 =>
          intro u hu
          obtain ⟨j, hj⟩ := List.mem_iff_getElem?.1 hu
          have hjl : j < n0 * 8 := by rw [← hnl]; exact (List.getElem?_eq_some_iff.1 hj).1
          have h1 := flatC_get 8 csk n0 HK8.out (j / 8) (by omega) (j % 8) (by omega)
          rw [show j / 8 * 8 + j % 8 = j by omega, hj] at h1
          obtain ⟨sl', e, hs'⟩ := (HKA.out (j / 8) (by rw [← EN.out]; omega)).open
          obtain ⟨ax, cx, rfl⟩ := hs'.shape
          have h2 : (csk (j / 8)).all (·.oneCell') = true := by rw [e]; exact re_one _ _ _ _ _ _ _
          rw [Array.all_eq_true_iff_forall_mem] at h2
          exact h2 u (Array.mem_of_getElem? h1.symm)
        case c3 => unfold maxLen; omega
        case c4 => omega
        case c5 => exact hx.out.lt
        intro v' w4 hown' hgrow _
        have hlt5 := O3.out.lt
        have hw4 := hgrow.block w.heap.size (by have := hx.out.lt; omega) (fun e => by have := (hlt5 _ e.symm).1; omega)
        have OW : Hid (w4.ownsRow (w.heap.size + 1) 68 8 v' (us ++ l[i].kids).length (flatC (fun j => if j < us.length then ds j else csk (j - us.length)) (us ++ l[i].kids).length)) := Lib.hid (by rw [hrow2.out.1, hrow2.out.2]; exact hown')
        have XW : Hid (Box w4 w.heap.size zeroR) := Lib.hid ⟨by rw [hw4]; exact hx.out.row⟩
        have BW : Hid (Below w.heap.size w w4) := Lib.hid (hb.out.grown hgrow (by omega) (fun k hk => by have := (hlt5 k hk).1; omega))
        clear hown' hgrow hlt5 hw4
        go_wp2_with fail
        go_roundw
        case rel => exact ⟨i + 1, us ++ l[i].kids, _, by go_num, by omega, by rw [hrow2.out.2]; exact hus2, OW, hJ2, BW, XW⟩
        case measure => simp [intOf]; omega
      · have hkb : (k0 == kind) = false := beq_eq_false_iff_ne.2 hkq
        have HQ := Lib.hid hkq; clear hkq
        go_upto_region 7 with (fail)
        obtain ⟨bt, hbt⟩ : ∃ bt, bt = ((k0 != 0) || (kind == 5)) := ⟨_, rfl⟩
        go_cut [37] from 8 to 44 (fun x wx => x = .bool bt ∧ wx = wr)
        case first =>
          by_cases hz : k0 = 0
          · have hzb : (k0 != 0) = false := by simpa using hz
            rw [hzb, Bool.false_or] at hbt
            go_wp2_with fail
            go_meet
            exact ⟨by rw [hbt], rfl⟩
          · have hzb : (k0 != 0) = true := by simpa using hz
            rw [hzb, Bool.true_or] at hbt
            clear hz
            go_wp2_with fail
            go_meet
            exact ⟨by rw [hbt], rfl⟩
        case rest =>
          obtain ⟨rfl, rfl⟩ := hcut
          have HT : Hid (bt = true → (k0 ≠ 0 ∨ kind = 5)) := Lib.hid (fun h => by
            rw [h] at hbt
            rcases Bool.or_eq_true_iff.1 hbt.symm with h | h
            · exact Or.inl (by simpa using h)
            · exact Or.inr (by simpa using h))
          clear hbt
          cases bt with
          | false =>
            have hJ2 : Hid (JnI kind w S us ds (wides (l.take (i + 1)))) := Lib.hid (hJ.out.more (by rw [HWi.out.1]; omega))
            go_wp2_with fail
            go_roundw
            case rel => exact ⟨i + 1, us, ds, by go_num, by omega, hus, hown, hJ2, hb, hx⟩
            case measure => simp [intOf]; omega
          | true =>
            have hJ2 : Hid (JnI kind w S (us ++ [l[i]]) (fun j => if j = us.length then cs i else ds j) (wides (l.take (i + 1)))) := Lib.hid (by
              rw [HWi.out.1]
              refine hJ.out.snoc l[i] (cs i) (HAT.out i hgo) ((HF.out _ (List.getElem_mem hgo)).to kind (fun h0 h4 => ?_) (Or.inl fun e => ?_))
              · rcases HT.out rfl with h5 | h5
                · exact h5 (by rw [EK.out]; exact h0)
                · omega
              · exact HQ.out (by rw [EK.out]; exact e))
            have hus2 : us.length + 1 ≤ 1000 := by
              have h1 := hJ2.out.len
              rw [List.length_append, List.length_singleton] at h1
              have := HWi.out.2
              omega
            have own5 := owns_after hown.out (below_new wc (.cells (reC k0 f0 lo0 hi0 (.slice ai n0 ci)) 68))
            have hsz5 : (wc.alloc (.cells (reC k0 f0 lo0 hi0 (.slice ai n0 ci)) 68)).heap.size = wc.heap.size + 1 := World.size_alloc _ _
            have hge := hb.out.size
            have row5 : (wc.alloc (.cells (reC k0 f0 lo0 hi0 (.slice ai n0 ci)) 68)).heap[wc.heap.size]? = some (.cells (reC k0 f0 lo0 hi0 (.slice ai n0 ci)) 68 (0, 0)) := heap_alloc_last wc _
            obtain ⟨i0, hi0', hz0, hz1, hz2⟩ := info_parts info_re3
            have O5 := Lib.hid own5
            have R5 := Lib.hid row5
            clear own5 row5
            go_wp2_with (at_builtin; refine wpList_append_own _ rfl _ _ 66 rfl (w.heap.size + 1) 68 i0 (.agg #[.int .i64 0, .int .u64 0, .int .u64 0, .int .u64 0, .int .u64 0, .int .i64 0, .int .i64 0, .slice none 0 0]) 8 80 Tryz.underlying66 hi0' hz0 hz1 hz2 rfl (by decide) _ _ _ rfl O5.out ⟨wc.heap.size, 0, none⟩ 1 1 (reC k0 f0 lo0 hi0 (.slice ai n0 ci)).toList rfl rfl ?c1 ?c2 ?c3 ?c4 ?c5 ?_)
            case c1 =>
              intro j u hj
              have e : (⟨wc.heap.size, 0, none⟩ : Addr).add j = ⟨wc.heap.size, j, none⟩ := by unfold Addr.add; split <;> simp_all
              first
                | (rw [e]; exact (cell_of_row _ _ j _ _ _ R5.out).trans (by simpa using hj))
                | simpa [reC] using hj
            case c2 =>
              intro u hu
              have h := re_one k0 f0 lo0 hi0 ai n0 ci
              rw [Array.all_eq_true_iff_forall_mem] at h
              exact h u (by simpa using hu)
            case c3 => unfold maxLen; omega
            case c4 => omega
            intro v' w4 hown' hgrow _
            have hgrow' : (wc.alloc (.cells (reC k0 f0 lo0 hi0 (.slice ai n0 ci)) 68)).grownBy w4 _ := hgrow
            have hlt5 := O5.out.lt
            have OW := Lib.hid hown'
            have hx5 := (hx.out.after (below_new wc (.cells (reC k0 f0 lo0 hi0 (.slice ai n0 ci)) 68)))
            have hw4 := hgrow'.block w.heap.size (by have := hx5.lt; omega) (fun e => by have := (hlt5 _ e.symm).1; omega)
            have XW : Hid (Box w4 w.heap.size zeroR) := Lib.hid ⟨by rw [hw4]; exact hx5.row⟩
            have BW : Hid (Below w.heap.size w w4) := Lib.hid ((Below.step hb.out (below_new wc (.cells (reC k0 f0 lo0 hi0 (.slice ai n0 ci)) 68))).grown hgrow' (by omega) (fun k hk => by have := (hlt5 k hk).1; omega))
            clear hown' hgrow hgrow' hlt5 hx5 hw4
            go_wp2_with fail
            go_roundw
            case rel => exact ⟨i + 1, us ++ [l[i]], _, by go_num, by omega, by rw [List.length_append, List.length_singleton]; exact hus2, Lib.hid (by rw [List.length_append, List.length_singleton, flatC_succ, if_pos rfl, flatC_congr (ds := ds) (fun j hj => if_neg (by omega)), EC.out]; exact OW.out), hJ2, BW, XW⟩
            case measure => simp [intOf]; omega
    · obtain rfl : i = l.length := by omega
      have HJ2 : Hid (JnI kind w S us ds (wides l)) := Lib.hid (by have := hJ.out; rwa [List.take_length] at this)
      clear hJ
      by_cases hu0 : us = []
      · subst hu0
        have h0 : u5 = Value.slice none 0 0 ∨ ∃ g cap, u5 = Value.slice (some ⟨g, 0, none⟩) 0 cap := by
          rcases hown.out.2 with ⟨h, _⟩ | ⟨g, cap, cur, h, _⟩
          · exact Or.inl h
          · exact Or.inr ⟨g, cap, h⟩
        rcases h0 with rfl | ⟨g, cap, rfl⟩
        all_goals
          go_wp2_with (refine wpList_store_row rfl 68 (.tmp 4) (.tmp 48) rfl w.heap.size zeroR rfl rfl 68 zeroR hx.out.row HI rfl (re_one _ _ _ _ _ _ _) ?_)
          refine bodyPost_ret (v := .agg zeroR) (results_cell_row (by rfl) _ _ w.heap.size 68 _ (0, 0) _ (by rfl) (hx.out.setRow _).row Tryz.underlying68 (by rfl) HI) rfl ?_
          exact ⟨emptyT, zeroR, rfl, .leaf _ _ _ _ _ _, Lib.hid ⟨fine_empty, Nat.zero_le _⟩, below_setRow hb.out (Nat.le_refl _) _⟩
      have hup : 0 < us.length := List.length_pos_iff.2 hu0
      have hshape : ∃ nb cap, u5 = Value.slice (some ⟨nb, 0, none⟩) us.length cap ∧ w.heap.size + 1 ≤ nb ∧ us.length ≤ cap := by
        rcases hown.out.2 with ⟨_, h0⟩ | ⟨nb, cap, cur, hv', hb', _, hcap, _⟩
        · omega
        · exact ⟨nb, cap, hv', hb', hcap⟩
      obtain ⟨nb, cap, rfl, hnb, hcap⟩ := hshape
      have h0 : ((us.length : Int) == 0) = false := beq_eq_false_iff_ne.2 (by omega)
      have hds8 : ∀ j, j < us.length → (ds j).size = 8 := fun j hj => (HJ2.out.at_ j hj).size
      have E8 := Lib.hid (fun i hi => owns_eight hown.out hds8 i hi)
      by_cases h1 : us.length = 1
      · have hq1 : ((us.length : Int) == 1) = true := beq_iff_eq.2 (by omega)
        obtain ⟨a0, c0, e, _⟩ := (HJ2.out.at_ 0 hup).opens
        have h80 := E8.out 0 hup
        rw [e] at h80
        rw [show 0 + 0 * 8 = 0 from rfl] at h80
        obtain ⟨d0, d1, d2, d3, d4, d5, d6, d7⟩ := eight_re h80
        have EC := Lib.hid e
        have H1 := Lib.hid h1
        clear e h80 h1 hds8
        go_wp2_with (refine wpList_store_row rfl 68 (.tmp 4) (.tmp 54) rfl w.heap.size (reC us[0].k us[0].f us[0].lo us[0].hi (.slice a0 us[0].kids.length c0)) rfl rfl 68 zeroR hx.out.row HI rfl (re_one _ _ _ _ _ _ _) ?_)
        refine bodyPost_ret (v := .agg (reC us[0].k us[0].f us[0].lo us[0].hi (.slice a0 us[0].kids.length c0))) (results_cell_row (by rfl) _ _ w.heap.size 68 _ (0, 0) _ (by rfl) (hx.out.setRow _).row Tryz.underlying68 (by rfl) HI) rfl ⟨us[0], _, rfl, ?_, Lib.hid ⟨(HJ2.out.fine _ (List.getElem_mem hup)).any, HJ2.out.one us[0] ?_⟩, below_setRow hb.out (Nat.le_refl _) _⟩
        · rw [← EC.out]
          exact ((HJ2.out.at_ 0 hup).after (below_setRow hb.out (Nat.le_refl _) _)).weakS fun k hk => Or.inl hk
        · match us, H1.out with
          | [t], _ => rfl
      · have hq1 : ((us.length : Int) == 1) = false := beq_eq_false_iff_ne.2 (by omega)
        have h2 : 2 ≤ us.length := by omega
        have H1 := Lib.hid h2
        clear h1 h2
        go_wp2_with (refine wpList_store_row rfl 68 (.tmp 4) (.tmp 57) rfl w.heap.size (reC kind zero4 0 0 (.slice (some ⟨nb, 0, none⟩) us.length cap)) rfl rfl 68 zeroR hx.out.row HI rfl (re_one _ _ _ _ _ _ _) ?_)
        refine bodyPost_ret (v := .agg (reC kind zero4 0 0 (.slice (some ⟨nb, 0, none⟩) us.length cap))) (results_cell_row (by rfl) _ _ w.heap.size 68 _ (0, 0) _ (by rfl) (hx.out.setRow _).row Tryz.underlying68 (by rfl) HI) rfl ⟨.mk kind zero4 0 0 us, _, rfl, ?_, Lib.hid ⟨fine_node kind us HKK.out H1.out (by omega) HJ2.out.fine, HJ2.out.len⟩, below_setRow hb.out (Nat.le_refl _) _⟩
        refine .node kind zero4 0 0 us nb 0 cap ds hu0 hcap (Or.inr (by omega)) (fun i hi => ?_) (fun i hi => ?_)
        · exact (E8.out i hi).keep (Go.setRow_other _ _ _ _ (by omega))
        · exact ((HJ2.out.at_ i hi).after (below_setRow hb.out (Nat.le_refl _) _)).weakS fun k hk => Or.inl hk

set_option maxRecDepth 100000 in
theorem pjoin_none (kind : Int) (a : Option Addr) (c : Nat) (w : World) :
    Calls Tryz.prog 104 #[.int .i64 kind, .slice a 0 c] w fun e w' => e = .returned (.agg zeroR) ∧ Below w.heap.size w w' := by
  have HI := info_re
  go_enter Tryz.func104, Tryz.ntmps104
  go_upto_region 1 with (fail)
  obtain ⟨W, hW, hX, hB, hsz⟩ := re_box w zeroR
  change Code.wp _ _ _ _ (w.alloc (Obj.cells zeroR 68))
  rw [← hW]
  clear hW
  have bK := below_new W (.cells #[] 68)
  have B0 := Lib.hid (Below.step hB.out bK)
  have X0 := Lib.hid (hX.out.after bK)
  clear bK
  go_wp2_with fail
  refine wp_loop_rounds 1 ?_
  rw [rounds_succ]
  go_wp2_with (refine wpList_store_row rfl 68 (.tmp 4) (.tmp 48) rfl w.heap.size zeroR rfl rfl 68 zeroR X0.out.row HI rfl (re_one _ _ _ _ _ _ _) ?_)
  refine bodyPost_ret (v := .agg zeroR) (results_cell_row (by rfl) _ _ w.heap.size 68 _ (0, 0) _ (by rfl) (X0.out.setRow _).row Tryz.underlying68 (by rfl) HI) rfl ⟨rfl, ?_⟩
  exact below_setRow B0.out (Nat.le_refl _) _

theorem pjoin_sl (kind : Int) (l : List Tree) (v : Value) (S : Nat → Prop) (w : World) (hlen : l.length ≤ 1000) (hw : wides l ≤ 1000)
    (hsl : SlAt w S l v) (hF : ∀ t, t ∈ l → Fine (-1) t) (hkk : kind = 4 ∨ kind = 5) :
    Calls Tryz.prog 104 #[.int .i64 kind, v] w (JoinAns l S w) := by
  rcases hsl with ⟨rfl, a, c, rfl⟩ | ⟨hl, b, off, c, cs, rfl, hc, hB, h8, hat⟩
  · refine (pjoin_none kind a c w).mono ?_
    rintro e w' ⟨rfl, hb⟩
    exact ⟨emptyT, zeroR, rfl, .leaf _ _ _ _ _ _, Lib.hid ⟨fine_empty, Nat.zero_le _⟩, hb⟩
  · exact pjoin_any kind l b off c cs S w (List.length_pos_iff.2 hl) hlen hw h8 hat hF hkk
end Go.Proofs.YtcojnkjcbopnbaaGreatDoor

/- aukletref05.P.branch at any text: a walk. -/
namespace Go.Proofs.YtcojnkjcbopnbaaGreatDoor
open Go.RowKit

def BranchesP (deep : Nat) : Prop := ∀ (p : Nat) (s : ByteArray) (k : Nat) (b : Int) (w : World), k ≤ s.size → s.size ≤ 400 → PM w p s k b 0 → Calls Tryz.prog 102 #[.pointer (some ⟨p, 0, none⟩), .int .i64 deep] w (POut 0 0 deep p s k w)
/-- Where the reading of parts stands: memory. -/
structure BrMP (wr w : World) (p : Nat) (s : ByteArray) (kk : Nat) (b e : Int) (lv : Value) (ts : List Tree) (cs : Nat → Array Value) : Prop where
  pm : PM wr p s kk b e
  box : Box wr w.heap.size zeroR
  own : OwnTrees wr (w.heap.size + 1) lv ts cs
  but : But p w wr
theorem BrMP.after {wr w V : World} {p : Nat} {s : ByteArray} {kk : Nat} {b e : Int} {lv : Value} {ts : List Tree} {cs : Nat → Array Value} (h : BrMP wr w p s kk b e lv ts cs) (hb : Below wr.heap.size wr V) : BrMP V w p s kk b e lv ts cs :=
  ⟨h.pm.after hb, h.box.after hb, h.own.after hb, h.but.then hb⟩
/-- What was read so far; x more than bytes at most. -/
structure BrQ (s : ByteArray) (k : Nat) (deep kk : Nat) (e : Int) (x : Nat) (ts : List Tree) : Prop where
  fine : ∀ t, t ∈ ts → Fine (-1) t
  sum : wides ts ≤ vP s kk e - k + x
  len : ts.length ≤ vP s kk e - k + x
  ge : k ≤ vP s kk e
  pos : PosOk s kk e deep
theorem BrQ.more {s : ByteArray} {k deep kk x : Nat} {ts : List Tree} (h : BrQ s k deep kk 0 x ts) {t : Tree} {k2 : Nat} {e2 : Int} (ht : Fine (-1) t) (h1 : kk < vP s k2 e2) (h2 : t.kids.length ≤ max (vP s k2 e2 - kk) 1) (h3 : PosOk s k2 e2 deep) : BrQ s k deep k2 e2 x (ts ++ [t]) := by
  have hw : wide t ≤ vP s k2 e2 - kk := by unfold wide; omega
  have hk := h.ge
  rw [vP_ok] at hk
  have hs := h.sum
  have hl := h.len
  rw [vP_ok] at hs hl
  refine ⟨fun u hu => ?_, by rw [wides_snoc]; omega, by rw [List.length_append, List.length_singleton]; omega, by omega, h3⟩
  rcases List.mem_append.1 hu with hu | hu
  · exact h.fine u hu
  · rw [List.mem_singleton.1 hu]; exact ht

set_option maxRecDepth 100000 in
set_option maxHeartbeats 4000000 in
theorem pbranchP (deep : Nat) (hdeep : deep ≤ 20) (hA : AtomsP deep) : BranchesP deep := by
  intro p s k b w hk hs hm
  have HA := Lib.hid hA
  have HI := info_re
  have hlt := hm.lt
  have HC := Lib.hid (fun k b e V h => pc_any p s k b e V h)
  obtain ⟨W, hW, hX, hB, hsz⟩ := re_box w zeroR
  have bK := below_new W (.cells #[] 68)
  have hWlt := hX.out.lt
  have O0 : OwnTrees (W.alloc (.cells #[] 68)) (w.heap.size + 1) (.slice (some ⟨W.heap.size, 0, none⟩) 0 0) [] (fun _ => zeroR) := ⟨World.ownsRow_made W #[] 0 (by omega) (by unfold maxLen; omega) rfl, fun j h => absurd h (by simp)⟩
  have M0 : Hid (BrMP (W.alloc (.cells #[] 68)) w p s k b 0 (.slice (some ⟨W.heap.size, 0, none⟩) 0 0) [] (fun _ => zeroR)) := Lib.hid ⟨(hm.after hB.out).after bK, hX.out.after bK, O0, (But.of hB.out).then bK⟩
  have P0 : Hid (BrQ s k deep k 0 0 []) := Lib.hid ⟨fun t ht => (by cases ht), by simp [wides], by simp, by rw [vP_ok]; exact Nat.le_refl _, ⟨fun _ => hk, fun h => absurd rfl h⟩⟩
  clear hA hm O0 bK
  go_enter Tryz.func102, Tryz.ntmps102
  go_upto_region 1 with (fail)
  change Code.wp _ _ _ _ (w.alloc (Obj.cells zeroR 68))
  rw [← hW]
  clear hW hX hB hsz
  go_wp2_with fail
  go_loopg [5] (s.size + 30 - k) (fun q lv wr => ∃ (ts : List Tree) (kk : Nat) (bb ee : Int) (cs : Nat → Array Value), Hid (s.size + 30 - vP s kk ee = q) ∧ Hid (BrQ s k deep kk ee 0 ts) ∧ Hid (BrMP wr w p s kk bb ee lv ts cs))
  case atStart => exact ⟨[], k, b, 0, _, Lib.hid (by rw [vP_ok]), P0, M0⟩
  case round =>
    clear M0 P0
    obtain ⟨ts, kk, bb, ee, cs, hq, hP, hM⟩ := hrel
    have HC1 := Lib.hid (fun V h => HC.out kk bb ee V h)
    have hin := Lib.hid (fun h => chP_in (s := s) (k := kk) (e := ee) h)
    obtain ⟨x, hx⟩ : ∃ x, x = chP s kk ee := ⟨_, rfl⟩
    rw [← hx] at HC1 hin
    clear hx
    go_upto_region 2 with (fail)
    go_cut [25] from 8 to 35 (fun y wx => ∃ bq, y = .bool bq ∧ Hid (bq = true → ee = 0 ∧ kk < s.size) ∧ Hid (BrMP wx w p s kk bb ee u5 ts cs))
    case first =>
      have HC2 := Lib.hid (HC1.out _ hM.out.pm)
      go_wp2_with fail
      refine HC2.out.mono ?_
      rintro e w1 ⟨rfl, b1⟩
      have M1 := Lib.hid (hM.out.after b1)
      clear b1 HC2 hM
      by_cases hx0 : 0 ≤ x
      rotate_left
      · have hd : decide (0 ≤ x) = false := decide_eq_false hx0
        go_wp2_with fail
        go_meet
        exact ⟨_, rfl, Lib.hid (fun h => by cases h), M1⟩
      have hd : decide (0 ≤ x) = true := decide_eq_true hx0
      have hin2 : Hid (ee = 0 ∧ kk < s.size) := Lib.hid (by obtain ⟨h1, h2, _⟩ := hin.out hx0; exact ⟨h1, h2⟩)
      have HC2 := Lib.hid (HC1.out _ M1.out.pm)
      clear hin
      go_wp2_with fail
      refine HC2.out.mono ?_
      rintro e w2 ⟨rfl, b1⟩
      have M2 := Lib.hid (M1.out.after b1)
      clear b1 HC2 M1
      by_cases h124 : x = 124
      · subst h124
        go_wp2_with fail
        go_meet
        exact ⟨_, rfl, Lib.hid (fun h => by cases h), M2⟩
      have hd2 : (x != 124) = true := by simpa using h124
      have H124 := Lib.hid h124; clear h124
      have HC2 := Lib.hid (HC1.out _ M2.out.pm)
      go_wp2_with fail
      refine HC2.out.mono ?_
      rintro e w3 ⟨rfl, b1⟩
      have M3 := Lib.hid (M2.out.after b1)
      clear b1 HC2 M2
      by_cases h41 : x = 41
      · subst h41
        go_wp2_with fail
        go_meet
        exact ⟨_, rfl, Lib.hid (fun _ => hin2.out), M3⟩
      have hd3 : (x == 41) = false := beq_eq_false_iff_ne.2 h41
      have H41 := Lib.hid h41; clear h41
      go_wp2_with fail
      go_meet
      exact ⟨_, rfl, Lib.hid (fun _ => hin2.out), M3⟩
    case rest =>
    obtain ⟨bq, rfl, hbq, M1⟩ := hcut
    clear hM HC1 hin
    cases bq with
    | false =>
      clear hbq HA HC
      have hv := vP_le hP.out.pos
      have HJ := Lib.hid (pjoin_sl 4 ts u5 (Up (w.heap.size + 1)) wc (by have := hP.out.len; omega) (by have := hP.out.sum; omega) M1.out.own.slAt hP.out.fine (Or.inl rfl))
      have hDw := M1.out.box.lt
      go_wp2_with fail
      refine HJ.out.mono ?_
      rintro e w1 ⟨tt, ds, rfl, hat, hf, b1⟩
      have M3 := Lib.hid (M1.out.after b1)
      have T3 := Lib.hid hat
      obtain ⟨a, c, e, _⟩ := hat.opens
      subst e
      clear b1 hat HJ
      go_wp2_with (refine wpList_store_row rfl 68 (.tmp 4) (.tmp 37) rfl w.heap.size (reC tt.k tt.f tt.lo tt.hi (.slice a tt.kids.length c)) rfl rfl 68 zeroR M3.out.box.row HI rfl (re_one _ _ _ _ _ _ _) ?_)
      refine bodyPost_ret (v := .agg (reC tt.k tt.f tt.lo tt.hi (.slice a tt.kids.length c))) (results_cell_row (by rfl) _ _ w.heap.size 68 _ (0, 0) _ (by rfl) (M3.out.box.setRow _).row Tryz.underlying68 (by rfl) HI) rfl ?_
      have hsum := hP.out.sum
      have hkd := hf.out.2
      refine ⟨tt, _, kk, bb, ee, rfl, (T3.out.setRowS (fun h => by rcases h with h | h; (· have h' : w.heap.size + 1 ≤ w.heap.size := h; omega); (· omega)) _).weakS fun j hj => ?_, Lib.hid ⟨hf.out.1, by omega, by have := hP.out.ge; omega, hP.out.pos⟩, M3.out.pm.setRow (by omega) _, M3.out.but.setRow (Nat.le_refl _) _⟩
      rcases hj with h | h
      · have h' : w.heap.size + 1 ≤ j := h
        show w.heap.size ≤ j
        omega
      · show w.heap.size ≤ j
        omega
    | true =>
      obtain ⟨he0, hkk⟩ := hbq.out rfl
      subst he0
      clear hbq HC
      have HC1 := Lib.hid (HA.out p s kk bb wc hkk hs M1.out.pm)
      go_wp2_with fail
      refine HC1.out.mono ?_
      rintro e w1 ⟨t, ds, k1, b1, e1, rfl, hat, hf, pm1, bu1⟩
      obtain ⟨f1, f2, f3, f4⟩ := hf.out
      have T1 := Lib.hid hat
      have PM1 := Lib.hid pm1
      have BU1 := Lib.hid bu1
      have hw1 := bu1.size
      have hx1 := M1.out.box.lt
      have hvl : Hid (∀ k, u5.ownBlock = some k → k < wc.heap.size) := Lib.hid fun k hk => (M1.out.own.row.lt k hk).2
      obtain ⟨a, c, e, _⟩ := hat.opens
      subst e
      clear bu1 pm1 hat HC1 hf
      simp only [reC]
      go_upto_region 4 with (fail)
      obtain ⟨V, hV, hY, hBV, hszV⟩ := re_box w1 (reC t.k t.f t.lo t.hi (.slice a t.kids.length c))
      change Code.wp _ _ _ _ (w1.alloc (Obj.cells (reC t.k t.f t.lo t.hi (.slice a t.kids.length c)) 68))
      rw [← hV]
      clear hV
      have hV1 : w1.heap.size < V.heap.size := hY.out.lt
      have TV : At V (fun j => wc.heap.size ≤ j ∧ j ≠ w1.heap.size) t (reC t.k t.f t.lo t.hi (.slice a t.kids.length c)) := (T1.out.inWorld.after hBV.out).weakS fun j hj => ⟨hj.1, by have := hj.2; omega⟩
      have HR := Lib.hid (preps_any (fun j => wc.heap.size ≤ j ∧ j ≠ w1.heap.size) deep p s k1 b1 e1 t _ V hdeep hs f4 (PM1.out.after hBV.out) TV (fun h => by have := h.1; omega) (by omega) f1)
      simp only [reC] at HR
      clear TV
      obtain ⟨d0, d1, d2, d3, d4, d5, d6, d7⟩ := eight_re hY.out.eight
      go_wp2_with fail
      refine HR.out.mono ?_
      rintro e w2 ⟨t2, ds2, k2, b2, e2, rfl, hat2, hf2, pm2, bu2⟩
      obtain ⟨g1, g2, g3, g4⟩ := hf2.out
      have T2 := Lib.hid hat2
      have PM2 := Lib.hid pm2
      have BU2 := Lib.hid ((BU1.out.then hBV.out).trans bu2)
      have Y2 := Lib.hid (hY.out.but bu2 (by omega))
      have hw2 := bu2.size
      obtain ⟨a2, c2, e, _⟩ := hat2.opens
      subst e
      clear hat2 pm2 bu2 HR hf2 d0 d1 d2 d3 d4 d5 d6 d7 hY hBV BU1 PM1 T1
      simp only [reC]
      go_upto_region 5 with (refine wpList_store_row rfl 68 (.tmp 6) (.tmp 31) rfl w1.heap.size (reC t2.k t2.f t2.lo t2.hi (.slice a2 t2.kids.length c2)) rfl rfl 68 (reC t.k t.f t.lo t.hi (.slice a t.kids.length c)) Y2.out.row HI rfl (re_one _ _ _ _ _ _ _) ?_)
      obtain ⟨w3, hw3, BU3, T3, PM3, Y3, hs3⟩ : ∃ w3, w3 = w2.setRow w1.heap.size (reC t2.k t2.f t2.lo t2.hi (.slice a2 t2.kids.length c2)) ∧ Hid (But p wc w3) ∧ Hid (At w3 (Up wc.heap.size) t2 (reC t2.k t2.f t2.lo t2.hi (.slice a2 t2.kids.length c2))) ∧ Hid (PM w3 p s k2 b2 e2) ∧ Hid (Box w3 w1.heap.size (reC t2.k t2.f t2.lo t2.hi (.slice a2 t2.kids.length c2))) ∧ Hid (w3.heap.size = w2.heap.size) :=
        ⟨_, rfl, Lib.hid (BU2.out.setRow hw1 _), Lib.hid ((T2.out.setRowS (fun h => by rcases h with h | h; (· exact h.2 rfl); (· omega)) _).weakS fun j hj => by
          rcases hj with h | h
          · exact h.1
          · show wc.heap.size ≤ j
            omega), Lib.hid (PM2.out.setRow (by omega) _), Lib.hid (Y2.out.setRow _), Lib.hid (by simp [World.setRow])⟩
      change Code.wp _ _ _ _ (w2.setRow w1.heap.size (reC t2.k t2.f t2.lo t2.hi (.slice a2 t2.kids.length c2)))
      rw [← hw3]
      clear hw3 BU2 T2 PM2 Y2
      have X1 := Lib.hid (M1.out.box.but BU3.out (by omega))
      have O1 := Lib.hid (M1.out.own.but BU3.out (by omega))
      have B1 := Lib.hid (M1.out.but.trans BU3.out)
      clear M1
      obtain ⟨d0, d1, d2, d3, d4, d5, d6, d7⟩ := eight_re Y3.out.eight
      have hbe := below_new w3 (.cells (reC t2.k t2.f t2.lo t2.hi (.slice a2 t2.kids.length c2)) 68)
      have hse : (w3.alloc (.cells (reC t2.k t2.f t2.lo t2.hi (.slice a2 t2.kids.length c2)) 68)).heap.size = w3.heap.size + 1 := World.size_alloc _ _
      have O2 := Lib.hid (O1.out.after hbe)
      have row5 : Hid ((w3.alloc (.cells (reC t2.k t2.f t2.lo t2.hi (.slice a2 t2.kids.length c2)) 68)).heap[w3.heap.size]? = some (.cells (reC t2.k t2.f t2.lo t2.hi (.slice a2 t2.kids.length c2)) 68 (0, 0))) := Lib.hid (heap_alloc_last w3 _)
      obtain ⟨i0, hi0', hz0, hz1, hz2⟩ := info_parts info_re3
      have hdl : Hid (ts.length + 1 ≤ 1000) := Lib.hid (by have := hP.out.len; have := vP_le hP.out.pos; omega)
      have BE := Lib.hid hbe
      clear hbe
      go_wp2_with (at_builtin; refine wpList_append_own_at _ rfl _ _ 66 rfl (w.heap.size + 1) 68 i0 (.agg #[.int .i64 0, .int .u64 0, .int .u64 0, .int .u64 0, .int .u64 0, .int .i64 0, .int .i64 0, .slice none 0 0]) 8 80 Tryz.underlying66 hi0' hz0 hz1 hz2 rfl (by decide) _ _ _ rfl O2.out.row ⟨w3.heap.size, 0, none⟩ 1 1 (reC t2.k t2.f t2.lo t2.hi (.slice a2 t2.kids.length c2)).toList rfl rfl ?c1 ?c2 ?c3 ?c4 ?c5 ?_)
      case c1 =>
        intro j u hj
        have e : (⟨w3.heap.size, 0, none⟩ : Addr).add j = ⟨w3.heap.size, j, none⟩ := by unfold Addr.add; split <;> simp_all
        first
          | (rw [e]; exact (cell_of_row _ _ j _ _ _ row5.out).trans (by simpa using hj))
          | simpa [reC] using hj
      case c2 =>
        intro u hu
        have h := re_one t2.k t2.f t2.lo t2.hi a2 t2.kids.length c2
        rw [Array.all_eq_true_iff_forall_mem] at h
        exact h u (by simpa using hu)
      case c3 => have := hdl.out; unfold maxLen; omega
      case c4 => have := hdl.out; omega
      case c5 => have := hs3.out; omega
      intro v' w4 hown' hgrow _ hwhere
      have hs3' := hs3.out
      have hgrow' : (w3.alloc (.cells (reC t2.k t2.f t2.lo t2.hi (.slice a2 t2.kids.length c2)) 68)).grownBy w4 _ := hgrow
      have hwhere' : v'.ownBlock = u5.ownBlock ∨ v'.ownBlock = some (w3.alloc (.cells (reC t2.k t2.f t2.lo t2.hi (.slice a2 t2.kids.length c2)) 68)).heap.size := hwhere.imp id (fun h => by rw [World.size_alloc]; exact h)
      have OW := Lib.hid (O2.out.snoc (T3.out.after BE.out) (by omega) hvl.out hown' hgrow' hwhere')
      have hng : ∀ k, k < w3.heap.size → (∀ j, u5.ownBlock = some j → j ≠ k) → w4.heap[k]? = w3.heap[k]? := fun k hk hne =>
        (hgrow'.block k (by omega) (fun e => hne k e.symm rfl)).trans (BE.out.block k hk)
      have hge3 : ∀ k, u5.ownBlock = some k → w.heap.size + 1 ≤ k := fun k hk => (O2.out.row.lt k hk).1
      have hBw4 : But p w w4 := ⟨hgrow'.os.trans (BE.out.os.trans B1.out.os), hgrow'.tape.trans (BE.out.tape.trans B1.out.tape), hgrow'.output.trans (BE.out.output.trans B1.out.output), Nat.le_trans B1.out.size (Nat.le_trans BE.out.size hgrow'.size), fun k hk hp =>
        (hng k (by omega) (fun j hj e => by have := hge3 j hj; omega)).trans (B1.out.block k hk hp)⟩
      have M4 : Hid (BrMP w4 w p s k2 b2 e2 v' (ts ++ [t2]) (fun j => if j = ts.length then reC t2.k t2.f t2.lo t2.hi (.slice a2 t2.kids.length c2) else cs j)) := Lib.hid ⟨⟨by
          rw [hng p (by omega) (fun j hj e => by have := hge3 j hj; omega)]; exact PM3.out.row⟩, ⟨by
          rw [hng _ (by omega) (fun j hj e => by have := hge3 j hj; omega)]; exact X1.out.row⟩, OW.out, hBw4⟩
      have P4 := Lib.hid (hP.out.more g1 (t := t2) (k2 := k2) (e2 := e2) (by omega) (by omega) g4)
      have hv2 := vP_le g4
      have hv0 : vP s kk 0 = kk := vP_ok _ _
      clear hown' hgrow hgrow' hwhere hwhere' hng hge3 hBw4 hs3'
      go_wp2_with fail
      go_roundg (s.size + 30 - vP s k2 e2)
      case measure => have := hq.out; omega
      case rel => exact ⟨ts ++ [t2], k2, b2, e2, _, Lib.hid rfl, P4, M4⟩
end Go.Proofs.YtcojnkjcbopnbaaGreatDoor
