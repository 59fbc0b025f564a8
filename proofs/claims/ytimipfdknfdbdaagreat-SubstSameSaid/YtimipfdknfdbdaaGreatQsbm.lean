/- Merged by program: PJoin. -/
import Derived.Laws.OwnMore
import Derived.Test.YtimipfdknfdbdaaGreatQsbf
/- aukletref05.Join at any trees: a walk. -/
namespace Go.Proofs.YtimipfdknfdbdaaGreat
open Go.RowKit

set_option maxRecDepth 100000 in
set_option maxHeartbeats 4000000 in
theorem pjoin_any (kind : Int) (l : List Tree) (b off c : Nat) (cs : Nat → Array Value) (S : Nat → Prop) (w : World) (hl : 0 < l.length) (hlen : l.length ≤ 1000) (hw : wides l ≤ 1000)
    (h8 : ∀ i, i < l.length → Eight w b (off + i * 8) (cs i)) (hat : ∀ i (h : i < l.length), At w S l[i] (cs i)) (hF : ∀ t, t ∈ l → Fine (-1) t) (hkk : kind = 4 ∨ kind = 5) :
    Calls Tryz.prog 60 #[.int .i64 kind, .slice (some ⟨b, off, none⟩) l.length c] w (JoinAns l S w) := by
  have HI := info_re
  have HF := Lib.hid hF
  have HKK := Lib.hid hkk
  have H8 := Lib.hid h8
  have HAT := Lib.hid hat
  have hsz8 : ∀ j, j < l.length → (cs j).size = 8 := fun j hj => (hat j hj).size
  have HS8 := Lib.hid hsz8
  have hbl : b < w.heap.size := (h8 0 hl).lt (hsz8 0 hl)
  clear hF hkk h8 hat hsz8
  go_enter Tryz.func60, Tryz.ntmps60
  go_upto_region 1 with (fail)
  obtain ⟨W, hW, hX, hB, hsz⟩ := re_box w zeroR
  change Code.wp _ _ _ _ (w.alloc (Obj.cells zeroR 38))
  rw [← hW]
  clear hW
  have hWlt := hX.out.lt
  have bK := below_new W (.cells #[] 38)
  have O0 : Hid ((W.alloc (.cells #[] 38)).ownsRow (w.heap.size + 1) 38 8 (.slice (some ⟨W.heap.size, 0, none⟩) 0 0) 0 (flatC (fun _ => zeroR) 0)) := Lib.hid (World.ownsRow_made W #[] 0 (by omega) (by unfold maxLen; omega) rfl)
  have B0 := Lib.hid (Below.step hB.out bK)
  have X0 := Lib.hid (hX.out.after bK)
  clear bK
  go_wp2_with fail
  go_loopw [5, 6] (fun lv y wr => ∃ (i : Nat) (us : List Tree) (ds : Nat → Array Value), y = .int .i64 i ∧ i ≤ l.length ∧ us.length ≤ 1000 ∧ Hid (wr.ownsRow (w.heap.size + 1) 38 8 lv us.length (flatC ds us.length)) ∧ Hid (JnI kind w S us ds (wides (l.take i))) ∧ Hid (Below w.heap.size w wr) ∧ Hid (Box wr w.heap.size zeroR)) (fun _ y _ => l.length - (intOf y).toNat)
  case atStart => exact ⟨0, [], fun _ => zeroR, rfl, by omega, by simp, O0, Lib.hid (JnI.nil _ _ _ _), B0, X0⟩
  case round =>
    clear O0 B0 X0
    obtain ⟨i, us, ds, rfl, hi, hus, hown, hJ, hb, hx⟩ := hrel
    by_cases hgo : i < l.length
    · obtain ⟨ai, ci, e, hsk⟩ := (HAT.out i hgo).opens
      have h8i := (H8.out i hgo).keep (hb.out.block b hbl)
      obtain ⟨k0, f0, lo0, hi0, n0, e'⟩ : ∃ k0 f0 lo0 hi0 n0, cs i = reC k0 f0 lo0 hi0 (.slice ai n0 ci) ∧ k0 = l[i].k ∧ n0 = l[i].kids.length := ⟨_, _, _, _, _, e, rfl, rfl⟩
      rw [e'.1] at h8i
      have EC := Lib.hid e'.1
      have EK := Lib.hid e'.2.1
      have EN := Lib.hid e'.2.2
      have HSk := Lib.hid hsk
      have HWi : Hid (wides (l.take (i + 1)) = wides (l.take i) + wide l[i] ∧ wides (l.take (i + 1)) ≤ 1000) := Lib.hid ⟨wides_take l i hgo, Nat.le_trans (wides_le l _) hw⟩
      clear e e' hsk
      obtain ⟨c0, c1, c2, c3, c4, c5, c6, c7⟩ := eight_re h8i
      clear h8i
      have hdi : decide ((i : Int) < l.length) = true := decide_eq_true (by omega)
      by_cases hkq : k0 = kind
      · have hkb : (k0 == kind) = true := beq_iff_eq.2 hkq
        have hkk : l[i].k = kind := by rw [← EK.out]; exact hkq
        have h45 : kind = 4 ∨ kind = 5 := HKK.out
        have hf := HF.out _ (List.getElem_mem hgo)
        have hn2 : 2 ≤ n0 := by rw [EN.out]; exact (hf.fit.parts (by rw [hkk]; exact h45)).2
        obtain ⟨b', off', csk, rfl, hcc, hk8, hkat⟩ : ∃ (b' off' : Nat) (csk : Nat → Array Value), ai = some ⟨b', off', none⟩ ∧ n0 ≤ ci ∧ (∀ j, j < n0 → Eight w b' (off' + j * 8) (csk j)) ∧ ∀ j (h : j < l[i].kids.length), At w S l[i].kids[j] (csk j) := by
          rcases HSk.out with ⟨e, _⟩ | ⟨_, b', off', c', csk, e, hc, _, h8, hat⟩
          · rw [EN.out, e] at hn2; exact absurd hn2 (by decide)
          · simp only [Value.slice.injEq] at e
            obtain ⟨rfl, _, rfl⟩ := e
            exact ⟨b', off', csk, rfl, by rw [EN.out]; exact hc, fun j hj => h8 j (by rw [← EN.out]; exact hj), hat⟩
        have hn1000 : n0 ≤ 1000 := by
          have h1 := HWi.out
          have h2 : l[i].kids.length ≤ wide l[i] := Nat.le_max_left _ _
          rw [EN.out]; omega
        have hus2 : us.length + n0 ≤ 1000 := by
          have h1 := HWi.out
          have h2 : l[i].kids.length ≤ wide l[i] := Nat.le_max_left _ _
          have h3 := hJ.out.len
          rw [EN.out]; omega
        have hks8 : ∀ j, j < n0 → (csk j).size = 8 := fun j hj => (hkat j (by rw [← EN.out]; exact hj)).size
        have hJ2 : Hid (JnI kind w S (us ++ l[i].kids) (fun j => if j < us.length then ds j else csk (j - us.length)) (wides (l.take (i + 1)))) := Lib.hid (by
          rw [HWi.out.1]
          exact hJ.out.app l[i].kids csk hkat (fun u hu => by rw [← hkk]; exact hf.kid u hu) (wide l[i]) (Nat.le_max_left _ _) (by rw [← EN.out]; exact hn2))
        have hrow2 : Hid (flatC (fun j => if j < us.length then ds j else csk (j - us.length)) (us ++ l[i].kids).length = flatC ds us.length ++ flatC csk n0 ∧ (us ++ l[i].kids).length = us.length + n0) := Lib.hid (by
          have h1 : (us ++ l[i].kids).length = us.length + n0 := by rw [List.length_append, EN.out]
          exact ⟨by rw [h1, flatC_append], h1⟩)
        have hnl : (flatC csk n0).length = n0 * 8 := flatC_len 8 csk n0 hks8
        have hb'w : b' < w.heap.size := (hk8 0 (by omega)).lt (hks8 0 (by omega))
        have HN8 := Lib.hid hk8
        have HK8 := Lib.hid hks8
        have HKA := Lib.hid hkat
        obtain ⟨i0, hi0', hz0, hz1, hz2⟩ := info_parts info_re3
        have hge := hb.out.size
        have O3 := Lib.hid hown.out
        have hnews : Hid (∀ j u, (flatC csk n0)[j]? = some u → wr.cell? ((⟨b', off', none⟩ : Addr).add j) = some u) := Lib.hid (by
          intro j u hj
          have e : (⟨b', off', none⟩ : Addr).add j = ⟨b', off' + j, none⟩ := by unfold Addr.add; split <;> simp_all
          have hjl : j < n0 * 8 := by rw [← hnl]; exact (List.getElem?_eq_some_iff.1 hj).1
          have h1 := flatC_get 8 csk n0 HK8.out (j / 8) (by omega) (j % 8) (by omega)
          rw [show j / 8 * 8 + j % 8 = j by omega, hj] at h1
          have h2 := ((HN8.out (j / 8) (by omega)).keep (hb.out.block b' hb'w)) (j % 8) (by omega)
          rw [e, show off' + j = off' + j / 8 * 8 + j % 8 by omega, h2, ← h1])
        clear hk8 hks8 hkat hf hkk HSk
        go_wp2_with (at_builtin; refine wpList_append_own _ rfl _ _ 36 rfl (w.heap.size + 1) 38 i0 (.agg #[.int .i64 0, .int .u64 0, .int .u64 0, .int .u64 0, .int .u64 0, .int .i64 0, .int .i64 0, .slice none 0 0]) 8 80 Tryz.underlying36 hi0' hz0 hz1 hz2 rfl (by decide) _ _ _ rfl O3.out ⟨b', off', none⟩ n0 ci (flatC csk n0) rfl hnl hnews.out ?c2 ?c3 ?c4 ?c5 ?_)
        case c2 =>
          intro u hu
          obtain ⟨j, hj⟩ := List.mem_iff_getElem?.1 hu
          have hjl : j < n0 * 8 := by rw [← hnl]; exact (List.getElem?_eq_some_iff.1 hj).1
          have h1 := flatC_get 8 csk n0 HK8.out (j / 8) (by omega) (j % 8) (by omega)
          rw [show j / 8 * 8 + j % 8 = j by omega, hj] at h1
          obtain ⟨sl', e, hs'⟩ := (HKA.out (j / 8) (by rw [← EN.out]; omega)).open
          obtain ⟨ax, cx, rfl⟩ := hs'.shape
          have h2 : (csk (j / 8)).all (·.oneCell') = true := by rw [e]; exact re_one _ _ _ _ _ _ _
          rw [Array.all_eq_true_iff_forall_mem] at h2
          exact h2 u (Array.mem_of_getElem? h1.symm)
        case c3 => unfold maxLen; omega
        case c4 => omega
        case c5 => exact hx.out.lt
        intro v' w4 hown' hgrow _
        have hlt5 := O3.out.lt
        have hw4 := hgrow.block w.heap.size (by have := hx.out.lt; omega) (fun e => by have := (hlt5 _ e.symm).1; omega)
        have OW : Hid (w4.ownsRow (w.heap.size + 1) 38 8 v' (us ++ l[i].kids).length (flatC (fun j => if j < us.length then ds j else csk (j - us.length)) (us ++ l[i].kids).length)) := Lib.hid (by rw [hrow2.out.1, hrow2.out.2]; exact hown')
        have XW : Hid (Box w4 w.heap.size zeroR) := Lib.hid ⟨by rw [hw4]; exact hx.out.row⟩
        have BW : Hid (Below w.heap.size w w4) := Lib.hid (hb.out.grown hgrow (by omega) (fun k hk => by have := (hlt5 k hk).1; omega))
        clear hown' hgrow hlt5 hw4
        go_wp2_with fail
        go_roundw
        case rel => exact ⟨i + 1, us ++ l[i].kids, _, by go_num, by omega, by rw [hrow2.out.2]; exact hus2, OW, hJ2, BW, XW⟩
        case measure => simp [intOf]; omega
      · have hkb : (k0 == kind) = false := beq_eq_false_iff_ne.2 hkq
        have HQ := Lib.hid hkq; clear hkq
        go_upto_region 7 with (fail)
        obtain ⟨bt, hbt⟩ : ∃ bt, bt = ((k0 != 0) || (kind == 5)) := ⟨_, rfl⟩
        go_cut [37] from 8 to 44 (fun x wx => x = .bool bt ∧ wx = wr)
        case first =>
          by_cases hz : k0 = 0
          · have hzb : (k0 != 0) = false := by simpa using hz
            rw [hzb, Bool.false_or] at hbt
            go_wp2_with fail
            go_meet
            exact ⟨by rw [hbt], rfl⟩
          · have hzb : (k0 != 0) = true := by simpa using hz
            rw [hzb, Bool.true_or] at hbt
            clear hz
            go_wp2_with fail
            go_meet
            exact ⟨by rw [hbt], rfl⟩
        case rest =>
          obtain ⟨rfl, rfl⟩ := hcut
          have HT : Hid (bt = true → (k0 ≠ 0 ∨ kind = 5)) := Lib.hid (fun h => by
            rw [h] at hbt
            rcases Bool.or_eq_true_iff.1 hbt.symm with h | h
            · exact Or.inl (by simpa using h)
            · exact Or.inr (by simpa using h))
          clear hbt
          cases bt with
          | false =>
            have hJ2 : Hid (JnI kind w S us ds (wides (l.take (i + 1)))) := Lib.hid (hJ.out.more (by rw [HWi.out.1]; omega))
            go_wp2_with fail
            go_roundw
            case rel => exact ⟨i + 1, us, ds, by go_num, by omega, hus, hown, hJ2, hb, hx⟩
            case measure => simp [intOf]; omega
          | true =>
            have hJ2 : Hid (JnI kind w S (us ++ [l[i]]) (fun j => if j = us.length then cs i else ds j) (wides (l.take (i + 1)))) := Lib.hid (by
              rw [HWi.out.1]
              refine hJ.out.snoc l[i] (cs i) (HAT.out i hgo) ((HF.out _ (List.getElem_mem hgo)).to kind (fun h0 h4 => ?_) (Or.inl fun e => ?_))
              · rcases HT.out rfl with h5 | h5
                · exact h5 (by rw [EK.out]; exact h0)
                · omega
              · exact HQ.out (by rw [EK.out]; exact e))
            have hus2 : us.length + 1 ≤ 1000 := by
              have h1 := hJ2.out.len
              rw [List.length_append, List.length_singleton] at h1
              have := HWi.out.2
              omega
            have own5 := owns_after hown.out (below_new wc (.cells (reC k0 f0 lo0 hi0 (.slice ai n0 ci)) 38))
            have hsz5 : (wc.alloc (.cells (reC k0 f0 lo0 hi0 (.slice ai n0 ci)) 38)).heap.size = wc.heap.size + 1 := World.size_alloc _ _
            have hge := hb.out.size
            have row5 : (wc.alloc (.cells (reC k0 f0 lo0 hi0 (.slice ai n0 ci)) 38)).heap[wc.heap.size]? = some (.cells (reC k0 f0 lo0 hi0 (.slice ai n0 ci)) 38 (0, 0)) := heap_alloc_last wc _
            obtain ⟨i0, hi0', hz0, hz1, hz2⟩ := info_parts info_re3
            have O5 := Lib.hid own5
            have R5 := Lib.hid row5
            clear own5 row5
            go_wp2_with (at_builtin; refine wpList_append_own _ rfl _ _ 36 rfl (w.heap.size + 1) 38 i0 (.agg #[.int .i64 0, .int .u64 0, .int .u64 0, .int .u64 0, .int .u64 0, .int .i64 0, .int .i64 0, .slice none 0 0]) 8 80 Tryz.underlying36 hi0' hz0 hz1 hz2 rfl (by decide) _ _ _ rfl O5.out ⟨wc.heap.size, 0, none⟩ 1 1 (reC k0 f0 lo0 hi0 (.slice ai n0 ci)).toList rfl rfl ?c1 ?c2 ?c3 ?c4 ?c5 ?_)
            case c1 =>
              intro j u hj
              have e : (⟨wc.heap.size, 0, none⟩ : Addr).add j = ⟨wc.heap.size, j, none⟩ := by unfold Addr.add; split <;> simp_all
              first
                | (rw [e]; exact (cell_of_row _ _ j _ _ _ R5.out).trans (by simpa using hj))
                | simpa [reC] using hj
            case c2 =>
              intro u hu
              have h := re_one k0 f0 lo0 hi0 ai n0 ci
              rw [Array.all_eq_true_iff_forall_mem] at h
              exact h u (by simpa using hu)
            case c3 => unfold maxLen; omega
            case c4 => omega
            intro v' w4 hown' hgrow _
            have hgrow' : (wc.alloc (.cells (reC k0 f0 lo0 hi0 (.slice ai n0 ci)) 38)).grownBy w4 _ := hgrow
            have hlt5 := O5.out.lt
            have OW := Lib.hid hown'
            have hx5 := (hx.out.after (below_new wc (.cells (reC k0 f0 lo0 hi0 (.slice ai n0 ci)) 38)))
            have hw4 := hgrow'.block w.heap.size (by have := hx5.lt; omega) (fun e => by have := (hlt5 _ e.symm).1; omega)
            have XW : Hid (Box w4 w.heap.size zeroR) := Lib.hid ⟨by rw [hw4]; exact hx5.row⟩
            have BW : Hid (Below w.heap.size w w4) := Lib.hid ((Below.step hb.out (below_new wc (.cells (reC k0 f0 lo0 hi0 (.slice ai n0 ci)) 38))).grown hgrow' (by omega) (fun k hk => by have := (hlt5 k hk).1; omega))
            clear hown' hgrow hgrow' hlt5 hx5 hw4
            go_wp2_with fail
            go_roundw
            case rel => exact ⟨i + 1, us ++ [l[i]], _, by go_num, by omega, by rw [List.length_append, List.length_singleton]; exact hus2, Lib.hid (by rw [List.length_append, List.length_singleton, flatC_succ, if_pos rfl, flatC_congr (ds := ds) (fun j hj => if_neg (by omega)), EC.out]; exact OW.out), hJ2, BW, XW⟩
            case measure => simp [intOf]; omega
    · obtain rfl : i = l.length := by omega
      have HJ2 : Hid (JnI kind w S us ds (wides l)) := Lib.hid (by have := hJ.out; rwa [List.take_length] at this)
      clear hJ
      by_cases hu0 : us = []
      · subst hu0
        have h0 : u5 = Value.slice none 0 0 ∨ ∃ g cap, u5 = Value.slice (some ⟨g, 0, none⟩) 0 cap := by
          rcases hown.out.2 with ⟨h, _⟩ | ⟨g, cap, cur, h, _⟩
          · exact Or.inl h
          · exact Or.inr ⟨g, cap, h⟩
        rcases h0 with rfl | ⟨g, cap, rfl⟩
        all_goals
          go_wp2_with (refine wpList_store_row rfl 38 (.tmp 4) (.tmp 48) rfl w.heap.size zeroR rfl rfl 38 zeroR hx.out.row HI rfl (re_one _ _ _ _ _ _ _) ?_)
          refine bodyPost_ret (v := .agg zeroR) (results_cell_row (by rfl) _ _ w.heap.size 38 _ (0, 0) _ (by rfl) (hx.out.setRow _).row Tryz.underlying38 (by rfl) HI) rfl ?_
          exact ⟨emptyT, zeroR, rfl, .leaf _ _ _ _ _ _, Lib.hid ⟨fine_empty, Nat.zero_le _⟩, below_setRow hb.out (Nat.le_refl _) _⟩
      have hup : 0 < us.length := List.length_pos_iff.2 hu0
      have hshape : ∃ nb cap, u5 = Value.slice (some ⟨nb, 0, none⟩) us.length cap ∧ w.heap.size + 1 ≤ nb ∧ us.length ≤ cap := by
        rcases hown.out.2 with ⟨_, h0⟩ | ⟨nb, cap, cur, hv', hb', _, hcap, _⟩
        · omega
        · exact ⟨nb, cap, hv', hb', hcap⟩
      obtain ⟨nb, cap, rfl, hnb, hcap⟩ := hshape
      have h0 : ((us.length : Int) == 0) = false := beq_eq_false_iff_ne.2 (by omega)
      have hds8 : ∀ j, j < us.length → (ds j).size = 8 := fun j hj => (HJ2.out.at_ j hj).size
      have E8 := Lib.hid (fun i hi => owns_eight hown.out hds8 i hi)
      by_cases h1 : us.length = 1
      · have hq1 : ((us.length : Int) == 1) = true := beq_iff_eq.2 (by omega)
        obtain ⟨a0, c0, e, _⟩ := (HJ2.out.at_ 0 hup).opens
        have h80 := E8.out 0 hup
        rw [e] at h80
        rw [show 0 + 0 * 8 = 0 from rfl] at h80
        obtain ⟨d0, d1, d2, d3, d4, d5, d6, d7⟩ := eight_re h80
        have EC := Lib.hid e
        have H1 := Lib.hid h1
        clear e h80 h1 hds8
        go_wp2_with (refine wpList_store_row rfl 38 (.tmp 4) (.tmp 54) rfl w.heap.size (reC us[0].k us[0].f us[0].lo us[0].hi (.slice a0 us[0].kids.length c0)) rfl rfl 38 zeroR hx.out.row HI rfl (re_one _ _ _ _ _ _ _) ?_)
        refine bodyPost_ret (v := .agg (reC us[0].k us[0].f us[0].lo us[0].hi (.slice a0 us[0].kids.length c0))) (results_cell_row (by rfl) _ _ w.heap.size 38 _ (0, 0) _ (by rfl) (hx.out.setRow _).row Tryz.underlying38 (by rfl) HI) rfl ⟨us[0], _, rfl, ?_, Lib.hid ⟨(HJ2.out.fine _ (List.getElem_mem hup)).any, HJ2.out.one us[0] ?_⟩, below_setRow hb.out (Nat.le_refl _) _⟩
        · rw [← EC.out]
          exact ((HJ2.out.at_ 0 hup).after (below_setRow hb.out (Nat.le_refl _) _)).weakS fun k hk => Or.inl hk
        · match us, H1.out with
          | [t], _ => rfl
      · have hq1 : ((us.length : Int) == 1) = false := beq_eq_false_iff_ne.2 (by omega)
        have h2 : 2 ≤ us.length := by omega
        have H1 := Lib.hid h2
        clear h1 h2
        go_wp2_with (refine wpList_store_row rfl 38 (.tmp 4) (.tmp 57) rfl w.heap.size (reC kind zero4 0 0 (.slice (some ⟨nb, 0, none⟩) us.length cap)) rfl rfl 38 zeroR hx.out.row HI rfl (re_one _ _ _ _ _ _ _) ?_)
        refine bodyPost_ret (v := .agg (reC kind zero4 0 0 (.slice (some ⟨nb, 0, none⟩) us.length cap))) (results_cell_row (by rfl) _ _ w.heap.size 38 _ (0, 0) _ (by rfl) (hx.out.setRow _).row Tryz.underlying38 (by rfl) HI) rfl ⟨.mk kind zero4 0 0 us, _, rfl, ?_, Lib.hid ⟨fine_node kind us HKK.out H1.out (by omega) HJ2.out.fine, HJ2.out.len⟩, below_setRow hb.out (Nat.le_refl _) _⟩
        refine .node kind zero4 0 0 us nb 0 cap ds hu0 hcap (Or.inr (by omega)) (fun i hi => ?_) (fun i hi => ?_)
        · exact (E8.out i hi).keep (Go.setRow_other _ _ _ _ (by omega))
        · exact ((HJ2.out.at_ i hi).after (below_setRow hb.out (Nat.le_refl _) _)).weakS fun k hk => Or.inl hk

set_option maxRecDepth 100000 in
theorem pjoin_none (kind : Int) (a : Option Addr) (c : Nat) (w : World) :
    Calls Tryz.prog 60 #[.int .i64 kind, .slice a 0 c] w fun e w' => e = .returned (.agg zeroR) ∧ Below w.heap.size w w' := by
  have HI := info_re
  go_enter Tryz.func60, Tryz.ntmps60
  go_upto_region 1 with (fail)
  obtain ⟨W, hW, hX, hB, hsz⟩ := re_box w zeroR
  change Code.wp _ _ _ _ (w.alloc (Obj.cells zeroR 38))
  rw [← hW]
  clear hW
  have bK := below_new W (.cells #[] 38)
  have B0 := Lib.hid (Below.step hB.out bK)
  have X0 := Lib.hid (hX.out.after bK)
  clear bK
  go_wp2_with fail
  refine wp_loop_rounds 1 ?_
  rw [rounds_succ]
  go_wp2_with (refine wpList_store_row rfl 38 (.tmp 4) (.tmp 48) rfl w.heap.size zeroR rfl rfl 38 zeroR X0.out.row HI rfl (re_one _ _ _ _ _ _ _) ?_)
  refine bodyPost_ret (v := .agg zeroR) (results_cell_row (by rfl) _ _ w.heap.size 38 _ (0, 0) _ (by rfl) (X0.out.setRow _).row Tryz.underlying38 (by rfl) HI) rfl ⟨rfl, ?_⟩
  exact below_setRow B0.out (Nat.le_refl _) _

theorem pjoin_sl (kind : Int) (l : List Tree) (v : Value) (S : Nat → Prop) (w : World) (hlen : l.length ≤ 1000) (hw : wides l ≤ 1000)
    (hsl : SlAt w S l v) (hF : ∀ t, t ∈ l → Fine (-1) t) (hkk : kind = 4 ∨ kind = 5) :
    Calls Tryz.prog 60 #[.int .i64 kind, v] w (JoinAns l S w) := by
  rcases hsl with ⟨rfl, a, c, rfl⟩ | ⟨hl, b, off, c, cs, rfl, hc, hB, h8, hat⟩
  · refine (pjoin_none kind a c w).mono ?_
    rintro e w' ⟨rfl, hb⟩
    exact ⟨emptyT, zeroR, rfl, .leaf _ _ _ _ _ _, Lib.hid ⟨fine_empty, Nat.zero_le _⟩, hb⟩
  · exact pjoin_any kind l b off c cs S w (List.length_pos_iff.2 hl) hlen hw h8 hat hF hkk
end Go.Proofs.YtimipfdknfdbdaaGreat
