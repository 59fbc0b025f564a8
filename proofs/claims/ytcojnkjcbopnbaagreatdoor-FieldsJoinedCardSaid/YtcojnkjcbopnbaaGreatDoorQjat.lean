/- Merged by program: Lay, PlanW. -/
import Derived.Test.YtcojnkjcbopnbaaGreatDoorQjas
import Derived.Test.YtcojnkjcbopnbaaGreatDoorQjak
/- (*nfa.Prog).lay: walks. -/
namespace Go.Proofs.YtcojnkjcbopnbaaGreatDoor
open Go.RowKit

set_option maxRecDepth 100000 in
theorem lay_six (d : Nat) (q c : Plan) (cs : Array Value) (S : Nat → Prop) (b cap next p : Nat) (ss : List St) (sv : Value) (st : Int) (w : World) (hk : q.k = 6) (h9 : Nine w b 0 cs) (hC : TmC d c cs S p ss sv st w)
    (h0 : 0 ≤ q.lo) (h1 : q.lo ≤ 50) (h2 : q.hi = -1 ∨ (q.lo ≤ q.hi ∧ q.hi ≤ 50)) :
    Calls Tryz.prog 68 #[.pointer (some ⟨p, 0, none⟩), .agg (plC q.k q.f q.lo q.hi q.n (.slice (some ⟨b, 0, none⟩) 1 cap)), .int .i64 next] w (Laid w p sv st (timesN (layN d c) q.lo q.hi next ss)) := by
  obtain ⟨W, hW, HL, HB, _⟩ := layB_new w p (plC q.k q.f q.lo q.hi q.n (.slice (some ⟨b, 0, none⟩) 1 cap)) next
  have hC2 : TmC d c cs S p ss sv st W := ⟨hC.ih, hC.at_.after HB.out, hC.low, hC.wf, hC.m.after HB.out, hC.len⟩
  have HP := Lib.hid (layTimes_spec d q c cs S b cap next p ss sv st W (h9.after hC.at_.size HB.out) hC2 h0 h1 h2)
  have e1 : (q.k == 1) = false := by rw [hk]; rfl
  have e2 : (q.k == 2) = false := by rw [hk]; rfl
  have e3 : (q.k == 3) = false := by rw [hk]; rfl
  have e4 : (q.k == 4) = false := by rw [hk]; rfl
  have e5 : (q.k == 5) = false := by rw [hk]; rfl
  have e6 : (q.k == 6) = true := by rw [hk]; rfl
  clear hC hC2 hk h0 h1 h2 h9
  go_enter Tryz.func68, Tryz.ntmps68
  go_upto_region 1 with (fail)
  rw [← hW]
  clear hW
  obtain ⟨c0, c1, c2, c3, c4, c5, c6, c7, c8⟩ := nine_pl HL.out.q.nine
  have d0 := HL.out.ptr.c
  have d2 := HL.out.nx.c
  unfold plC at HP
  go_wp2_with fail
  refine HP.out.mono ?_
  rintro e w1 hl
  obtain ⟨sv', rfl, h1, h2⟩ := hl
  have HL2 := Lib.hid (Laid.of HB.out (⟨sv', rfl, h1, h2⟩ : Laid W p sv st _ _ w1))
  clear h1 h2
  go_wp2_with fail
  go_ret
  exact HL2.out

set_option maxRecDepth 100000 in
theorem lay_five (d : Nat) (hih : LayIH d) (q : Plan) (a : Option Addr) (c : Nat) (S : Nat → Prop) (next p : Nat) (ss : List St) (sv : Value) (st : Int) (w : World) (hk : q.k = 5) (hat : PSl w S q.kids (.slice a q.kids.length c)) (hS : ∀ k, S k → k < p) (hw : Wf (d + 1) q) (h : Mch w p ss sv st)
    (hlen : ss.length + (d + 1) * 250000 ≤ 100000000) :
    Calls Tryz.prog 68 #[.pointer (some ⟨p, 0, none⟩), .agg (plC q.k q.f q.lo q.hi q.n (.slice a q.kids.length c)), .int .i64 next] w (Laid w p sv st (altN (layN d) q.kids next ss)) := by
  obtain ⟨hne, _⟩ := hw.1.alt hk
  have hfew := hw.1.few
  obtain ⟨ps, x, hkids⟩ : ∃ ps x, q.kids = ps ++ [x] := ⟨q.kids.dropLast, q.kids.getLast hne, (List.dropLast_concat_getLast hne).symm⟩
  have hl : q.kids.length = ps.length + 1 := by rw [hkids]; simp
  obtain ⟨W, hW, HL, HB, _⟩ := layB_new w p (plC q.k q.f q.lo q.hi q.n (.slice a (ps.length + 1) c)) next
  rw [hl] at hat ⊢
  rw [hkids] at hat ⊢
  have HP := Lib.hid (layBranches_spec d hih ps ps.length rfl x a c S next p ss sv st W (by omega) (hat.after HB.out) hS (fun y hy => hw.2 y (by rw [hkids]; exact List.mem_append_left _ hy)) (hw.2 x (by rw [hkids]; simp)) (h.after HB.out) hlen)
  have e1 : (q.k == 1) = false := by rw [hk]; rfl
  have e2 : (q.k == 2) = false := by rw [hk]; rfl
  have e3 : (q.k == 3) = false := by rw [hk]; rfl
  have e4 : (q.k == 4) = false := by rw [hk]; rfl
  have e5 : (q.k == 5) = true := by rw [hk]; rfl
  clear hat hS hw h hlen hk hih hkids hl hne hfew
  go_enter Tryz.func68, Tryz.ntmps68
  go_upto_region 1 with (fail)
  rw [← hW]
  clear hW
  obtain ⟨c0, c1, c2, c3, c4, c5, c6, c7, c8⟩ := nine_pl HL.out.q.nine
  have d0 := HL.out.ptr.c
  have d2 := HL.out.nx.c
  go_wp2_with fail
  refine HP.out.mono ?_
  rintro e w1 hl
  obtain ⟨sv', rfl, h1, h2⟩ := hl
  have HL2 := Lib.hid (Laid.of HB.out (⟨sv', rfl, h1, h2⟩ : Laid W p sv st _ _ w1))
  clear h1 h2
  go_wp2_with fail
  go_ret
  exact HL2.out

theorem lay_spec (d : Nat) : LayIH d := by
  induction d with
  | zero => intro q cs S next p ss sv st w _ _ hw; exact hw.elim
  | succ d ih =>
    intro q cs S next p ss sv st w hat hS hw hm hlen
    obtain ⟨a, c, e, hsl⟩ := hat.opens
    subst e
    by_cases k123 : q.k = 1 ∨ q.k = 2 ∨ q.k = 3
    · have := lay_leaf q (.slice a q.kids.length c) next p ss sv st w k123 hm (by omega)
      rwa [show layN (d + 1) q next ss = putN ss (leafS q next) by unfold layN; rw [if_pos k123]]
    · by_cases k4 : q.k = 4
      · have := lay_cat d ih q a c S next p ss sv st w k4 hsl hS hw hm hlen
        rwa [show layN (d + 1) q next ss = catN (layN d) q.kids next ss by unfold layN; rw [if_neg k123, if_pos k4]]
      · by_cases k5 : q.k = 5
        · have := lay_five d ih q a c S next p ss sv st w k5 hsl hS hw hm hlen
          rwa [show layN (d + 1) q next ss = altN (layN d) q.kids next ss by unfold layN; rw [if_neg k123, if_neg k4, if_pos k5]]
        by_cases k6 : q.k = 6
        · obtain ⟨c1, hc, l0, l1, lh, _⟩ := hw.1.rep k6
          rcases hsl with ⟨e0, _⟩ | ⟨_, b, c', cs1, e, _, hB, h9, hpa⟩
          · rw [hc] at e0; cases e0
          · simp only [Value.slice.injEq] at e
            obtain ⟨rfl, _, rfl⟩ := e
            have h1 : q.kids.length = 1 := by rw [hc]; rfl
            have hpa0 := hpa 0 (by omega)
            have h90 := h9 0 (by omega)
            have he : q.kids[0]'(by omega) = c1 := by simp [hc]
            rw [he] at hpa0
            have := lay_six d q c1 (cs1 0) S b c next p ss sv st w k6 h90 ⟨ih, hpa0, hS, hw.2 c1 (by rw [hc]; exact List.mem_singleton_self _), hm, hlen⟩ l0 l1 lh
            rw [h1]
            rwa [show layN (d + 1) q next ss = timesN (layN d c1) q.lo q.hi next ss by unfold layN; rw [if_neg k123, if_neg k4, if_neg k5, if_pos k6, hc]]
        · have := lay_none q (.slice a q.kids.length c) next p ss sv st w (fun e => k123 (Or.inl e)) (fun e => k123 (Or.inr (Or.inl e))) (fun e => k123 (Or.inr (Or.inr e))) k4 k5 k6 hm
          rwa [show layN (d + 1) q next ss = (next, ss) by unfold layN; rw [if_neg k123, if_neg k4, if_neg k5, if_neg k6]]
end Go.Proofs.YtcojnkjcbopnbaaGreatDoor

/- nfa.planOf: the walk. -/
namespace Go.Proofs.YtcojnkjcbopnbaaGreatDoor
open Go.RowKit

/-- Where the making of a plan stands. -/
structure PlA (d : Nat) (t : Tree) (i n : Nat) (ps : List Plan) : Prop where
  eq : partsN (planN d) t.k t.kids (beginN t) [] = partsN (planN d) t.k (t.kids.drop i) n ps
  few : n ≤ 1000000
  less : 0 < i → n < 500
  len : ps.length ≤ i
  zero : i = 0 → n = beginN t
theorem plA_zero (d : Nat) (t : Tree) {within : Int} (hf : FitT within t) : PlA d t 0 (beginN t) [] := by
  refine ⟨rfl, ?_, fun h => absurd h (by omega), by simp, fun _ => rfl⟩
  have := hf.few
  unfold beginN
  split <;> omega
theorem partsN_le (pl : Tree → Plan) (k : Int) (l : List Tree) (n : Nat) (ps : List Plan) : ∀ m qs, partsN pl k l n ps = some (m, qs) → m < 500 ∨ (l = [] ∧ m = n) := by
  induction l generalizing n ps with
  | nil => intro m qs h; cases h; exact Or.inr ⟨rfl, rfl⟩
  | cons t r ih =>
    intro m qs h
    unfold partsN at h
    split at h
    · cases h
    · rcases ih _ _ m qs h with h' | ⟨_, rfl⟩
      · exact Or.inl h'
      · exact Or.inl (by omega)
/-- Whether a part is laid. -/
def pushB (n : Nat) (k : Int) : Bool := decide (0 < n) || k != 4
theorem pushB_true {n : Nat} {k : Int} (h : true = pushB n k) : 0 < n ∨ k ≠ 4 := by
  have := h.symm
  simpa [pushB] using this
theorem pushB_false {n : Nat} {k : Int} (h : false = pushB n k) : ¬ (0 < n ∨ k ≠ 4) := by
  intro h'
  have : pushB n k = true := by simpa [pushB] using h'
  rw [← h] at this
  cases this
theorem plA_step {d : Nat} {t : Tree} {i n : Nat} {ps : List Plan} (h : PlA d t i n ps) (hi : i < t.kids.length) :
    partsN (planN d) t.k t.kids (beginN t) [] = if 500 ≤ n + (planN d t.kids[i]).n then none else partsN (planN d) t.k (t.kids.drop (i + 1)) (n + (planN d t.kids[i]).n) (if 0 < (planN d t.kids[i]).n ∨ t.k ≠ 4 then ps ++ [planN d t.kids[i]] else ps) := by
  rw [h.eq, List.drop_eq_getElem_cons hi]
  rfl
theorem plA_over {d : Nat} {t : Tree} {i n : Nat} {ps : List Plan} (h : PlA d t i n ps) (hi : i < t.kids.length) (ho : 500 ≤ n + (planN d t.kids[i]).n) : planN (d + 1) t = overP := by
  show finishN t (partsN (planN d) t.k t.kids (beginN t) []) = overP
  rw [plA_step h hi, if_pos ho]
  rfl
theorem plA_next {d : Nat} {t : Tree} {i n : Nat} {ps : List Plan} (h : PlA d t i n ps) (hi : i < t.kids.length) (ho : n + (planN d t.kids[i]).n < 500) :
    PlA d t (i + 1) (n + (planN d t.kids[i]).n) (if 0 < (planN d t.kids[i]).n ∨ t.k ≠ 4 then ps ++ [planN d t.kids[i]] else ps) := by
  refine ⟨?_, by omega, fun _ => ho, ?_, fun e => absurd e (by omega)⟩
  · rw [plA_step h hi, if_neg (by omega)]
  · have := h.len
    split
    · simp; omega
    · omega
theorem plA_end {d : Nat} {t : Tree} {n : Nat} {ps : List Plan} (h : PlA d t t.kids.length n ps) : planN (d + 1) t = finishN t (some (n, ps)) ∧ n < 500 := by
  refine ⟨?_, ?_⟩
  · show finishN t (partsN (planN d) t.k t.kids (beginN t) []) = _
    rw [h.eq, List.drop_length]
    rfl
  · by_cases e : 0 < t.kids.length
    · exact h.less e
    · rw [h.zero (by omega)]
      unfold beginN
      split <;> omega
theorem planN_le (d : Nat) (within : Int) (t : Tree) (_ : Good d within t) : (planN d t).n ≤ 500 := by
  cases d with
  | zero => show (0 : Nat) ≤ 500; omega
  | succ d =>
    show (finishN t (partsN (planN d) t.k t.kids (beginN t) [])).n ≤ 500
    cases h : partsN (planN d) t.k t.kids (beginN t) [] with
    | none => show (500 : Nat) ≤ 500; omega
    | some x =>
      obtain ⟨n, ps⟩ := x
      have hn : n < 500 := by
        rcases partsN_le _ _ _ _ _ n ps h with h' | ⟨e, rfl⟩
        · exact h'
        · unfold beginN; rw [e]; simp
      unfold finishN
      simp only
      split
      · show (0 : Nat) ≤ 500; omega
      · show ownN t.k t.lo t.hi n ≤ 500
        unfold ownN
        split
        · omega
        · split
          · exact Nat.min_le_right _ _
          · omega

set_option maxHeartbeats 2000000 in
set_option maxRecDepth 100000 in
theorem planOf_spec (d : Nat) : ∀ (within : Int) (t : Tree) (rs : Array Value) (S : Nat → Prop) (w : World), At w S t rs → Good d within t →
    Calls Tryz.prog 67 #[.agg rs] w fun e w' => ∃ ps, e = .returned (.agg ps) ∧ PAt w' (Up w.heap.size) (planN d t) ps ∧ Below w.heap.size w w' := by
  induction d with
  | zero => intro within t rs S w _ hg; exact hg.elim
  | succ d ih =>
    intro within t rs S w h hg
    have HT := Lib.hid h
    have HF := Lib.hid hg.1
    obtain ⟨sl, rfl, hsl⟩ := h.open
    have HI := Lib.hid ih; clear ih
    have HG := Lib.hid hg.2
    have hfew := hg.1.few
    have hp5 : t.k = 5 → 2 ≤ t.kids.length := fun e => (hg.1.parts (Or.inr e)).2
    obtain ⟨a, c, rfl⟩ := hsl.shape
    have HS := Lib.hid hsl
    clear hg hsl h
    have HI8 := info_re
    have HI9 := info_plan
    go_enter Tryz.func67, Tryz.ntmps67
    go_upto_region 1 with (fail)
    obtain ⟨rs, hrs⟩ : ∃ rs, rs = reC t.k t.f t.lo t.hi (.slice a t.kids.length c) := ⟨_, rfl⟩
    obtain ⟨V, hV⟩ : ∃ V, V = (w.alloc (.cells rs 68)).alloc (.cells zeroPl 119) := ⟨_, rfl⟩
    have X1 : Box V w.heap.size rs := by rw [hV]; exact (box_new w rs).after (below_new _ _)
    have hVs : V.heap.size = w.heap.size + 2 := by rw [hV, World.size_alloc, World.size_alloc]
    change Code.wp _ _ _ _ ((w.alloc (.cells (reC t.k t.f t.lo t.hi (.slice a t.kids.length c)) 68)).alloc (.cells zeroPl 119))
    rw [← hrs, ← hV]
    rw [hrs] at X1
    obtain ⟨c0, c1, c2, c3, c4, c5, c6, c7⟩ := eight_re X1.eight
    have HV := Lib.hid hV
    have HRS := Lib.hid hrs
    clear X1 hV hrs
    go_upto_region 2 with (fail)
    clear c0 c1 c2 c3 c4 c5 c6 c7
    obtain ⟨W, hW, M0⟩ := planM_new w t rs 0
    change Code.wp _ _ _ _ (V.alloc (.cells (plC t.k t.f t.lo t.hi ((0 : Nat) : Int) (.slice none 0 0)) 119))
    rw [HV.out, ← hW]
    clear hW HV hVs
    have R1 := M0.out.re
    rw [HRS.out] at R1
    obtain ⟨c0, c1, c2, c3, c4, c5, c6, c7⟩ := eight_re R1.eight
    clear R1
    have HK5 : Hid (t.k = 5) ∨ Hid (t.k ≠ 5) := by
      by_cases e : t.k = 5
      · exact Or.inl (Lib.hid e)
      · exact Or.inr (Lib.hid e)
    have HP5 := Lib.hid hp5
    clear hp5
    go_upto_if 18 with (fail)
    go_cut [23] (fun a wx => a = a ∧ Hid (PlM wx w t rs (beginN t) (.slice none 0 0) [] (fun _ => zeroPl)))
    case first =>
      rcases HK5 with e | e
      · have hq : (t.k == 5) = true := beq_iff_eq.2 e.out
        have h2 := HP5.out e.out
        have z7 := M0.out.q.z 7
        obtain ⟨q0, q1, q2, q3, q4, q5, q6, q7, q8⟩ := nine_pl M0.out.q.nine
        have hm : ((t.kids.length : Int) - 1) = ((t.kids.length - 1 : Nat) : Int) := by omega
        have HB := Lib.hid (show PlM (W.setCell ⟨w.heap.size + 2, 7, none⟩ (.int .i64 ((t.kids.length : Int) - 1))) w t rs (beginN t) (.slice none 0 0) [] (fun _ => zeroPl) by
          rw [hm, beginN, if_pos e.out]; exact M0.out.setN _)
        clear hm
        go_wp2_with fail
        go_meet
        exact ⟨trivial, HB⟩
      · have hq : (t.k == 5) = false := beq_eq_false_iff_ne.2 e.out
        have HB := Lib.hid (show PlM W w t rs (beginN t) (.slice none 0 0) [] (fun _ => zeroPl) by
          rw [beginN, if_neg e.out]; exact M0.out)
        go_wp2_with fail
        go_meet
        exact ⟨trivial, HB⟩
    case rest =>
      obtain ⟨_, hM⟩ := hcut
      have R1 := hM.out.re
      rw [HRS.out] at R1
      clear c0 c1 c2 c3 c4 c5 c6 c7
      obtain ⟨c0, c1, c2, c3, c4, c5, c6, c7⟩ := eight_re R1.eight
      clear R1
      go_wp2_with fail
      go_loopw [27] (fun y wr => ∃ (i n : Nat) (sl : Value) (ps : List Plan) (cs : Nat → Array Value), y = .int .i64 i ∧ i ≤ t.kids.length ∧ Hid (PlA d t i n ps) ∧ Hid (PlM wr w t rs n sl ps cs)) (fun y _ => t.kids.length - (intOf y).toNat)
      case atStart => exact ⟨0, _, _, _, _, rfl, by omega, Lib.hid (plA_zero d t HF.out), hM⟩
      case round =>
        obtain ⟨i, n, sl, ps, cs, rfl, hi, hA, hM⟩ := hrel
        clear c0 c1 c2 c3 c4 c5 c6 c7
        by_cases hgo : i < t.kids.length
        · rcases HS.out with ⟨e, _⟩ | ⟨hl, b, off, c', xs, e, hc, hBb, h8, hat⟩
          · rw [e] at hgo; exact absurd hgo (by simp)
          · simp only [Value.slice.injEq] at e
            obtain ⟨rfl, _, rfl⟩ := e
            have hT := hat i hgo
            have hT' := hT.keep (w' := wr) fun k _ hk => hM.out.below.block k hk
            obtain ⟨ai, ci, e, _⟩ := hT.opens
            have h8i := (h8 i hgo).keep (w' := wr) (hM.out.below.block b ((h8 i hgo).lt hT.size))
            rw [e] at h8i hT'
            have hgd := HG.out _ (List.getElem_mem hgo)
            obtain ⟨x, hx⟩ : ∃ x, x = t.kids[i] := ⟨_, rfl⟩
            rw [← hx] at h8i hT' hgd
            have HX := Lib.hid hx
            have HGD := Lib.hid hgd
            have HT' := Lib.hid hT'
            clear hT hT' e h8 hat hl hc hBb hx hgd
            obtain ⟨c0, c1, c2, c3, c4, c5, c6, c7⟩ := eight_re h8i
            clear h8i
            go_upto_region 7 with (fail)
            obtain ⟨V, hV, hY, hBV, hszV⟩ := re_box wr (reC x.k x.f x.lo x.hi (.slice ai x.kids.length ci))
            change Code.wp _ _ _ _ (wr.alloc (Obj.cells (reC x.k x.f x.lo x.hi (.slice ai x.kids.length ci)) 68))
            rw [← hV]
            clear hV c0 c1 c2 c3 c4 c5 c6 c7
            obtain ⟨c0, c1, c2, c3, c4, c5, c6, c7⟩ := eight_re hY.out.eight
            have M1 := Lib.hid (hM.out.after hBV.out)
            have HC := Lib.hid (HI.out t.k x _ S V (HT'.out.after hBV.out) HGD.out)
            clear HT'
            go_wp2_with fail
            refine HC.out.mono ?_
            rintro e w2 ⟨qs, rfl, hat, b2⟩
            have M2 := Lib.hid (M1.out.after b2)
            obtain ⟨q, hq⟩ : ∃ q, q = planN d x := ⟨_, rfl⟩
            rw [← hq] at hat
            have HQ := Lib.hid hq
            have hqn : q.n ≤ 500 := by rw [hq]; exact planN_le d t.k x HGD.out
            have hge : V.heap.size ≤ w2.heap.size := b2.size
            obtain ⟨aq, cq, e, _⟩ := hat.opens
            rw [e] at hat ⊢
            have QA := Lib.hid hat
            clear hat b2 e hq c0 c1 c2 c3 c4 c5 c6 c7
            unfold plC
            go_upto_region 8 with (fail)
            obtain ⟨V2, hV2, hY2, hB2, _⟩ := pl_box w2 (plC q.k q.f q.lo q.hi q.n (.slice aq q.kids.length cq))
            change Code.wp _ _ _ _ (w2.alloc (Obj.cells (plC q.k q.f q.lo q.hi q.n (.slice aq q.kids.length cq)) 119))
            rw [← hV2]
            clear hV2
            have M3 := Lib.hid (M2.out.after hB2.out)
            have QA3 := Lib.hid (QA.out.after hB2.out)
            have hw2 : w2.heap.size < V2.heap.size := hY2.out.lt
            obtain ⟨q0, q1, q2, q3, q4, q5, q6, q7, q8⟩ := nine_pl M3.out.q.nine
            obtain ⟨d0, d1, d2, d3, d4, d5, d6, d7, d8⟩ := nine_pl hY2.out.nine
            have z7 := M3.out.q.z 7
            have hn1 := hA.out.few
            go_upto_region 9 with (fail)
            obtain ⟨m, hm⟩ : ∃ m, m = n + q.n := ⟨_, rfl⟩
            have e0 : (n : Int) + q.n = (m : Int) := by omega
            obtain ⟨W3, hW3⟩ : ∃ W3, W3 = V2.setCell ⟨w.heap.size + 2, 7, none⟩ (.int .i64 m) := ⟨_, rfl⟩
            have hq2 := M3.out.q.lt
            have hq1 := M1.out.q.lt
            have M4 : Hid (PlM W3 w t rs m sl ps cs) := Lib.hid (by rw [hW3]; exact M3.out.setN m)
            have hbut := M3.out.setBut 7 (.int .i64 m)
            rw [← hW3] at hbut
            have hlt2 := M2.out.q.lt
            have D4 : Hid (PBox W3 w2.heap.size (plC q.k q.f q.lo q.hi q.n (.slice aq q.kids.length cq))) := Lib.hid ⟨by rw [hbut.block _ hw2 (by omega)]; exact hY2.out.row⟩
            have QA4 : Hid (PAt W3 (Up V.heap.size) q (plC q.k q.f q.lo q.hi q.n (.slice aq q.kids.length cq))) := Lib.hid (QA3.out.keep fun k hk hlt => hbut.block k hlt (by have h : V.heap.size ≤ k := hk; omega))
            have hvk : Hid (∀ k, sl.ownBlock = some k → k < V.heap.size) := Lib.hid fun k hk => by have := (hM.out.own.row.lt k hk).2; have := hszV.out; omega
            rw [e0, ← hW3]
            have HM := Lib.hid hm
            have HA2 := Lib.hid hA.out.len
            clear hm e0 hW3 hbut M3 QA3 QA hY2 M2 M1 q0 q1 q2 q3 q4 q5 q6 q7 q8 d0 d1 d2 d3 d4 d5 d6 d7 d8 z7
            obtain ⟨q0, q1, q2, q3, q4, q5, q6, q7, q8⟩ := nine_pl M4.out.q.nine
            obtain ⟨d0, d1, d2, d3, d4, d5, d6, d7, d8⟩ := nine_pl D4.out.nine
            by_cases hov : 500 ≤ m
            · have hPl : planN (d + 1) t = overP := plA_over hA.out hgo (by rw [← HX.out, ← HQ.out, ← HM.out]; exact hov)
              have HPl := Lib.hid hPl
              clear hPl
              go_wp2_with (refine wpList_store_row rfl 119 (.tmp 2) (.tmp 42) rfl (w.heap.size + 1) (plC 0 zero4 0 0 500 (.slice none 0 0)) rfl rfl 119 zeroPl M4.out.res.row HI9 rfl (pl_one _ _ _ _ _ _ _ _) ?_)
              refine bodyPost_ret (v := .agg (plC 0 zero4 0 0 500 (.slice none 0 0))) (results_cell_row (by rfl) _ _ (w.heap.size + 1) 119 _ (0, 0) _ (by rfl) (M4.out.res.setRow _).row Tryz.underlying119 (by rfl) HI9) rfl ⟨_, rfl, ?_, below_setRow M4.out.below (by omega) _⟩
              rw [HPl.out]
              exact .leaf 0 zero4 0 0 500 none 0
            · have hm6 : m < 500 := by omega
              have hNx := Lib.hid (plA_next hA.out hgo (by rw [← HX.out, ← HQ.out, ← HM.out]; omega))
              rw [← HX.out, ← HQ.out, ← HM.out] at hNx
              clear hov
              obtain ⟨pu, hpu⟩ : ∃ pu, pu = pushB q.n t.k := ⟨_, rfl⟩
              have HPU := Lib.hid hpu
              clear hpu
              have R4 := M4.out.re
              rw [HRS.out] at R4
              have c0 := (eight_re R4.eight).1
              clear R4
              go_upto_region 11 with (fail)
              go_cut [50] (fun v wx => v = .bool pu ∧ wx = W3)
              case first =>
                by_cases h1 : 0 < q.n
                · have hE := Lib.hid (show true = pu by rw [HPU.out]; simp [pushB, h1])
                  go_wp2_with fail
                  go_meet
                  exact ⟨by rw [hE.out], rfl⟩
                · have h2 : q.n ≤ 0 := by omega
                  have hE := Lib.hid (show (t.k != 4) = pu by rw [HPU.out]; simp [pushB, show ¬ 0 < q.n from h1])
                  clear h1
                  go_wp2_with fail
                  go_meet
                  exact ⟨by rw [← hE.out, show decide (0 < q.n) = false from decide_eq_false (by omega)]; rfl, rfl⟩
              case rest =>
              obtain ⟨rfl, hw⟩ := hcut
              rw [hw]
              clear hw
              cases pu with
              | false =>
                have HN2 : Hid (PlA d t (i + 1) m ps) := by
                  have h := hNx.out
                  rw [if_neg (pushB_false HPU.out)] at h
                  exact Lib.hid h
                clear hNx HPU
                go_wp2_with fail
                go_roundw
                case rel => exact ⟨i + 1, _, _, _, _, by go_num, by omega, HN2, M4⟩
                case measure => simp [intOf]; omega
              | true =>
                have HN2 : Hid (PlA d t (i + 1) m (ps ++ [q])) := by
                  have h := hNx.out
                  rw [if_pos (pushB_true HPU.out)] at h
                  exact Lib.hid h
                clear hNx HPU
                obtain ⟨i0, hi0', hz0, hz1, hz2⟩ := info_parts info_plan3
                have bK := below_new W3 (.cells (plC q.k q.f q.lo q.hi q.n (.slice aq q.kids.length cq)) 119)
                have M5 := Lib.hid (M4.out.after bK)
                have QA5 := Lib.hid (QA4.out.after bK)
                have R5 := Lib.hid (heap_alloc_last W3 (.cells (plC q.k q.f q.lo q.hi q.n (.slice aq q.kids.length cq)) 119))
                have hs5 : (W3.alloc (.cells (plC q.k q.f q.lo q.hi q.n (.slice aq q.kids.length cq)) 119)).heap.size = W3.heap.size + 1 := World.size_alloc _ _
                have hlt4 := M4.out.q.lt
                have hl := HA2
                have HS5 := Lib.hid hs5
                clear bK hs5
                go_wp2_with (at_builtin; refine wpList_append_own_at _ rfl _ _ 117 rfl (w.heap.size + 3) 119 i0 (.agg #[.int .i64 0, .int .u64 0, .int .u64 0, .int .u64 0, .int .u64 0, .int .i64 0, .int .i64 0, .int .i64 0, .slice none 0 0]) 9 88 Tryz.underlying117 hi0' hz0 hz1 hz2 rfl (by decide) _ _ _ rfl M5.out.own.row ⟨W3.heap.size, 0, none⟩ 1 1 (plC q.k q.f q.lo q.hi q.n (.slice aq q.kids.length cq)).toList rfl rfl ?c1 ?c2 ?c3 ?c4 ?c5 ?_)
                case c1 =>
                  intro j u hj
                  have e : (⟨W3.heap.size, 0, none⟩ : Addr).add j = ⟨W3.heap.size, j, none⟩ := by unfold Addr.add; split <;> simp_all
                  rw [e]
                  exact (cell_of_row _ _ j _ _ _ R5.out).trans (by simpa using hj)
                case c2 =>
                  intro u hu
                  have h := pl_one q.k q.f q.lo q.hi q.n aq q.kids.length cq
                  rw [Array.all_eq_true_iff_forall_mem] at h
                  exact h u (by simpa using hu)
                case c3 => have := HA2.out; unfold maxLen; omega
                case c4 => have := HA2.out; omega
                case c5 => rw [World.size_alloc]; omega
                intro v' w4 hown' hgrow _ hat'
                have hgrow' : (W3.alloc (.cells (plC q.k q.f q.lo q.hi q.n (.slice aq q.kids.length cq)) 119)).grownBy w4 sl.ownBlock := hgrow
                have hrow := M5.out.own.row.lt
                have OP := OwnPlans.snoc M5.out.own QA5.out (by have := hq1; omega) hvk.out hown' hgrow' (by rw [World.size_alloc]; exact hat')
                have F4 := M5.out.toPlF.grown hgrow' (fun k hk => (hrow k hk).1)
                have z8 := F4.q.z 8
                have hd8 := (nine_pl F4.q.nine).2.2.2.2.2.2.2.2
                have M6 := Lib.hid (F4.setL OP)
                obtain ⟨av, nv, cv, rfl⟩ : ∃ av nv cv, v' = .slice av nv cv := by
                  rcases hown'.2 with ⟨hv, h0⟩ | ⟨g, cap, cur, hv, _⟩
                  · exact ⟨_, _, _, hv⟩
                  · exact ⟨_, _, _, hv⟩
                clear hown' hgrow hgrow' hrow OP F4 hat'
                go_wp2_with fail
                go_roundw
                case rel => exact ⟨i + 1, _, _, _, _, by go_num, by omega, HN2, M6⟩
                case measure => simp [intOf]; omega
        · obtain rfl : i = t.kids.length := by omega
          have R1 := hM.out.re
          rw [HRS.out] at R1
          obtain ⟨c0, c1, c2, c3, c4, c5, c6, c7⟩ := eight_re R1.eight
          clear R1
          go_upto_region 14 with (fail)
          go_step
          go_step
          go_simp
          go_step
          go_step
          go_simp
          go_step
          go_simp
          go_step
          go_simp
          go_step
          clear c1 c2 c3 c4 c7
          have HE := Lib.hid (plA_end hA.out)
          have hf := HF.out
          have HK : Hid (t.k = 1 ∨ t.k = 2 ∨ t.k = 3) ∨ Hid (t.k = 6) ∨ Hid (t.k ≠ 1 ∧ t.k ≠ 2 ∧ t.k ≠ 3 ∧ t.k ≠ 6) := by
            by_cases e : t.k = 1 ∨ t.k = 2 ∨ t.k = 3
            · exact Or.inl (Lib.hid e)
            · by_cases e' : t.k = 6
              · exact Or.inr (Or.inl (Lib.hid e'))
              · exact Or.inr (Or.inr (Lib.hid ⟨fun h => e (Or.inl h), fun h => e (Or.inr (Or.inl h)), fun h => e (Or.inr (Or.inr h)), e'⟩))
          obtain ⟨m, hm⟩ : ∃ m, m = ownN t.k t.lo t.hi n := ⟨_, rfl⟩
          have HM := Lib.hid hm
          have HF2 := Lib.hid hf
          clear hm hf
          go_cut [60] (fun v wx => v = v ∧ Hid (PlM wx w t rs m sl ps cs))
          case first =>
            have z7 := hM.out.q.z 7
            obtain ⟨q0, q1, q2, q3, q4, q5, q6, q7, q8⟩ := nine_pl hM.out.q.nine
            rcases HK with e | e | e
            · have hm1 : m = 1 := by rw [HM.out]; unfold ownN; rw [if_pos e.out]
              have HB := Lib.hid (show PlM (wr.setCell ⟨w.heap.size + 2, 7, none⟩ (.int .i64 1)) w t rs m sl ps cs by rw [hm1]; exact hM.out.setN 1)
              clear hm1
              by_cases e1 : t.k = 1
              · have h1 : (t.k == 1) = true := beq_iff_eq.2 e1
                clear e1
                go_wp2_with fail
                go_meet
                exact ⟨trivial, HB⟩
              · have h1 : (t.k == 1) = false := beq_eq_false_iff_ne.2 e1
                by_cases e2 : t.k = 2
                · have h2 : (t.k == 2) = true := beq_iff_eq.2 e2
                  clear e1 e2
                  go_wp2_with fail
                  go_meet
                  exact ⟨trivial, HB⟩
                · have h2 : (t.k == 2) = false := beq_eq_false_iff_ne.2 e2
                  have h3 : (t.k == 3) = true := beq_iff_eq.2 (by have := e.out; omega)
                  clear e1 e2
                  go_wp2_with fail
                  go_meet
                  exact ⟨trivial, HB⟩
            · have h1 : (t.k == 1) = false := by rw [e.out]; rfl
              have h2 : (t.k == 2) = false := by rw [e.out]; rfl
              have h3 : (t.k == 3) = false := by rw [e.out]; rfl
              have h6 : (t.k == 6) = true := by rw [e.out]; rfl
              obtain ⟨r0, r1, r2, r3⟩ := HF2.out.rep e.out
              clear r0
              have HR := Lib.hid (repeated_spec n t.lo t.hi HE.out.2 r1 r2 r3 wr)
              have hrl := repN_le n t.lo t.hi HE.out.2 r1 r2 r3
              obtain ⟨rn, hrn⟩ : ∃ rn, rn = repN n t.lo t.hi := ⟨_, rfl⟩
              have hm1 : m = min rn 500 := by
                rw [HM.out, hrn]; unfold ownN
                rw [if_neg (by rw [e.out]; omega), if_pos e.out]
              rw [← hrn] at HR hrl
              have hmin : (min (rn : Int) 500) = ((min rn 500 : Nat) : Int) := by omega
              have HB := Lib.hid (show PlM (wr.setCell ⟨w.heap.size + 2, 7, none⟩ (.int .i64 (min (rn : Int) 500))) w t rs m sl ps cs by rw [hm1, hmin]; exact hM.out.setN _)
              clear hm1 hmin hrn r1 r2 r3
              go_wp2_with fail
              refine HR.out.mono ?_
              rintro e1 w1 ⟨rfl, rfl⟩
              go_wp2_with fail
              go_meet
              exact ⟨trivial, HB⟩
            · obtain ⟨n1, n2, n3, n6⟩ := e.out
              have h1 : (t.k == 1) = false := beq_eq_false_iff_ne.2 n1
              have h2 : (t.k == 2) = false := beq_eq_false_iff_ne.2 n2
              have h3 : (t.k == 3) = false := beq_eq_false_iff_ne.2 n3
              have h6 : (t.k == 6) = false := beq_eq_false_iff_ne.2 n6
              have hm1 : m = n := by
                rw [HM.out]; unfold ownN
                rw [if_neg (by omega), if_neg n6]
              have HB := Lib.hid (show PlM wr w t rs m sl ps cs by rw [hm1]; exact hM.out)
              clear hm1 n1 n2 n3 n6
              go_wp2_with fail
              go_meet
              exact ⟨trivial, HB⟩
          case rest =>
          obtain ⟨_, hM2⟩ := hcut
          have hmle : m ≤ 1000000 := by rw [HM.out]; exact ownN_le t n (by have := HE.out.2; omega)
          obtain ⟨q0, q1, q2, q3, q4, q5, q6, q7, q8⟩ := nine_pl hM2.out.q.nine
          clear c0 c5 c6
          by_cases hz : m = 0
          · have hPl : planN (d + 1) t = emptyP := by
              rw [HE.out.1]; unfold finishN
              simp only
              rw [if_pos (by rw [← HM.out]; exact hz)]
            have HPl := Lib.hid hPl
            have hz' : ((m : Int) == 0) = true := beq_iff_eq.2 (by omega)
            clear hPl hz
            go_wp2_with (refine wpList_store_row rfl 119 (.tmp 2) (.tmp 79) rfl (w.heap.size + 1) (plC 0 zero4 0 0 0 (.slice none 0 0)) rfl rfl 119 zeroPl hM2.out.res.row HI9 rfl (pl_one _ _ _ _ _ _ _ _) ?_)
            refine bodyPost_ret (v := .agg (plC 0 zero4 0 0 0 (.slice none 0 0))) (results_cell_row (by rfl) _ _ (w.heap.size + 1) 119 _ (0, 0) _ (by rfl) (hM2.out.res.setRow _).row Tryz.underlying119 (by rfl) HI9) rfl ⟨_, rfl, ?_, below_setRow hM2.out.below (by omega) _⟩
            rw [HPl.out]
            exact .leaf 0 zero4 0 0 0 none 0
          · have hPl : planN (d + 1) t = .mk t.k t.f t.lo t.hi m ps := by
              rw [HE.out.1]; unfold finishN
              simp only
              rw [← HM.out, if_neg hz]
            have HPl := Lib.hid hPl
            have hz' : ((m : Int) == 0) = false := beq_eq_false_iff_ne.2 (by omega)
            have HSl := Lib.hid hM2.out.own.slAt
            obtain ⟨a2, c2, hsl⟩ := HSl.out.shape
            clear hPl hz
            subst hsl
            go_wp2_with (refine wpList_store_row rfl 119 (.tmp 2) (.tmp 80) rfl (w.heap.size + 1) (plC t.k t.f t.lo t.hi m (.slice a2 ps.length c2)) rfl rfl 119 zeroPl hM2.out.res.row HI9 rfl (pl_one _ _ _ _ _ _ _ _) ?_)
            refine bodyPost_ret (v := .agg (plC t.k t.f t.lo t.hi m (.slice a2 ps.length c2))) (results_cell_row (by rfl) _ _ (w.heap.size + 1) 119 _ (0, 0) _ (by rfl) (hM2.out.res.setRow _).row Tryz.underlying119 (by rfl) HI9) rfl ⟨_, rfl, ?_, below_setRow hM2.out.below (by omega) _⟩
            rw [HPl.out]
            refine (PSl.shut (HSl.out.keep fun k hk _ => ?_) t.k t.f t.lo t.hi m).weakS fun k hk => ?_
            · have h : w.heap.size + 3 ≤ k := hk
              exact Go.setRow_other _ _ _ _ (by omega)
            · have h : w.heap.size + 3 ≤ k := hk
              show w.heap.size ≤ k
              omega
end Go.Proofs.YtcojnkjcbopnbaaGreatDoor
