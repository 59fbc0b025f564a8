/- Merged by program: Lay. -/
import Derived.Test.YtimipfdknfdbdaaGas
/- (*nfa.Prog).lay: walks. -/
namespace Go.Proofs.Ytimipfdknfdbdaa
open Go.RowKit

set_option maxRecDepth 100000 in
theorem lay_six (d : Nat) (q c : Plan) (cs : Array Value) (S : Nat → Prop) (b cap next p : Nat) (ss : List St) (sv : Value) (st : Int) (w : World) (hk : q.k = 6) (h9 : Nine w b 0 cs) (hC : TmC d c cs S p ss sv st w)
    (h0 : 0 ≤ q.lo) (h1 : q.lo ≤ 50) (h2 : q.hi = -1 ∨ (q.lo ≤ q.hi ∧ q.hi ≤ 50)) :
    Calls Try.prog 31 #[.pointer (some ⟨p, 0, none⟩), .agg (plC q.k q.f q.lo q.hi q.n (.slice (some ⟨b, 0, none⟩) 1 cap)), .int .i64 next] w (Laid w p sv st (timesN (layN d c) q.lo q.hi next ss)) := by
  obtain ⟨W, hW, HL, HB, _⟩ := layB_new w p (plC q.k q.f q.lo q.hi q.n (.slice (some ⟨b, 0, none⟩) 1 cap)) next
  have hC2 : TmC d c cs S p ss sv st W := ⟨hC.ih, hC.at_.after HB.out, hC.low, hC.wf, hC.m.after HB.out, hC.len⟩
  have HP := Lib.hid (layTimes_spec d q c cs S b cap next p ss sv st W (h9.after hC.at_.size HB.out) hC2 h0 h1 h2)
  have e1 : (q.k == 1) = false := by rw [hk]; rfl
  have e2 : (q.k == 2) = false := by rw [hk]; rfl
  have e3 : (q.k == 3) = false := by rw [hk]; rfl
  have e4 : (q.k == 4) = false := by rw [hk]; rfl
  have e5 : (q.k == 5) = false := by rw [hk]; rfl
  have e6 : (q.k == 6) = true := by rw [hk]; rfl
  clear hC hC2 hk h0 h1 h2 h9
  go_enter Try.func31, Try.ntmps31
  go_upto_region 1 with (fail)
  rw [← hW]
  clear hW
  obtain ⟨c0, c1, c2, c3, c4, c5, c6, c7, c8⟩ := nine_pl HL.out.q.nine
  have d0 := HL.out.ptr.c
  have d2 := HL.out.nx.c
  unfold plC at HP
  go_wp2_with fail
  refine HP.out.mono ?_
  rintro e w1 hl
  obtain ⟨sv', rfl, h1, h2⟩ := hl
  have HL2 := Lib.hid (Laid.of HB.out (⟨sv', rfl, h1, h2⟩ : Laid W p sv st _ _ w1))
  clear h1 h2
  go_wp2_with fail
  go_ret
  exact HL2.out

set_option maxRecDepth 100000 in
theorem lay_five (d : Nat) (hih : LayIH d) (q : Plan) (a : Option Addr) (c : Nat) (S : Nat → Prop) (next p : Nat) (ss : List St) (sv : Value) (st : Int) (w : World) (hk : q.k = 5) (hat : PSl w S q.kids (.slice a q.kids.length c)) (hS : ∀ k, S k → k < p) (hw : Wf (d + 1) q) (h : Mch w p ss sv st)
    (hlen : ss.length + (d + 1) * 250000 ≤ 100000000) :
    Calls Try.prog 31 #[.pointer (some ⟨p, 0, none⟩), .agg (plC q.k q.f q.lo q.hi q.n (.slice a q.kids.length c)), .int .i64 next] w (Laid w p sv st (altN (layN d) q.kids next ss)) := by
  obtain ⟨hne, _⟩ := hw.1.alt hk
  have hfew := hw.1.few
  obtain ⟨ps, x, hkids⟩ : ∃ ps x, q.kids = ps ++ [x] := ⟨q.kids.dropLast, q.kids.getLast hne, (List.dropLast_concat_getLast hne).symm⟩
  have hl : q.kids.length = ps.length + 1 := by rw [hkids]; simp
  obtain ⟨W, hW, HL, HB, _⟩ := layB_new w p (plC q.k q.f q.lo q.hi q.n (.slice a (ps.length + 1) c)) next
  rw [hl] at hat ⊢
  rw [hkids] at hat ⊢
  have HP := Lib.hid (layBranches_spec d hih ps ps.length rfl x a c S next p ss sv st W (by omega) (hat.after HB.out) hS (fun y hy => hw.2 y (by rw [hkids]; exact List.mem_append_left _ hy)) (hw.2 x (by rw [hkids]; simp)) (h.after HB.out) hlen)
  have e1 : (q.k == 1) = false := by rw [hk]; rfl
  have e2 : (q.k == 2) = false := by rw [hk]; rfl
  have e3 : (q.k == 3) = false := by rw [hk]; rfl
  have e4 : (q.k == 4) = false := by rw [hk]; rfl
  have e5 : (q.k == 5) = true := by rw [hk]; rfl
  clear hat hS hw h hlen hk hih hkids hl hne hfew
  go_enter Try.func31, Try.ntmps31
  go_upto_region 1 with (fail)
  rw [← hW]
  clear hW
  obtain ⟨c0, c1, c2, c3, c4, c5, c6, c7, c8⟩ := nine_pl HL.out.q.nine
  have d0 := HL.out.ptr.c
  have d2 := HL.out.nx.c
  go_wp2_with fail
  refine HP.out.mono ?_
  rintro e w1 hl
  obtain ⟨sv', rfl, h1, h2⟩ := hl
  have HL2 := Lib.hid (Laid.of HB.out (⟨sv', rfl, h1, h2⟩ : Laid W p sv st _ _ w1))
  clear h1 h2
  go_wp2_with fail
  go_ret
  exact HL2.out

theorem lay_spec (d : Nat) : LayIH d := by
  induction d with
  | zero => intro q cs S next p ss sv st w _ _ hw; exact hw.elim
  | succ d ih =>
    intro q cs S next p ss sv st w hat hS hw hm hlen
    obtain ⟨a, c, e, hsl⟩ := hat.opens
    subst e
    by_cases k123 : q.k = 1 ∨ q.k = 2 ∨ q.k = 3
    · have := lay_leaf q (.slice a q.kids.length c) next p ss sv st w k123 hm (by omega)
      rwa [show layN (d + 1) q next ss = putN ss (leafS q next) by unfold layN; rw [if_pos k123]]
    · by_cases k4 : q.k = 4
      · have := lay_cat d ih q a c S next p ss sv st w k4 hsl hS hw hm hlen
        rwa [show layN (d + 1) q next ss = catN (layN d) q.kids next ss by unfold layN; rw [if_neg k123, if_pos k4]]
      · by_cases k5 : q.k = 5
        · have := lay_five d ih q a c S next p ss sv st w k5 hsl hS hw hm hlen
          rwa [show layN (d + 1) q next ss = altN (layN d) q.kids next ss by unfold layN; rw [if_neg k123, if_neg k4, if_pos k5]]
        by_cases k6 : q.k = 6
        · obtain ⟨c1, hc, l0, l1, lh, _⟩ := hw.1.rep k6
          rcases hsl with ⟨e0, _⟩ | ⟨_, b, c', cs1, e, _, hB, h9, hpa⟩
          · rw [hc] at e0; cases e0
          · simp only [Value.slice.injEq] at e
            obtain ⟨rfl, _, rfl⟩ := e
            have h1 : q.kids.length = 1 := by rw [hc]; rfl
            have hpa0 := hpa 0 (by omega)
            have h90 := h9 0 (by omega)
            have he : q.kids[0]'(by omega) = c1 := by simp [hc]
            rw [he] at hpa0
            have := lay_six d q c1 (cs1 0) S b c next p ss sv st w k6 h90 ⟨ih, hpa0, hS, hw.2 c1 (by rw [hc]; exact List.mem_singleton_self _), hm, hlen⟩ l0 l1 lh
            rw [h1]
            rwa [show layN (d + 1) q next ss = timesN (layN d c1) q.lo q.hi next ss by unfold layN; rw [if_neg k123, if_neg k4, if_neg k5, if_pos k6, hc]]
        · have := lay_none q (.slice a q.kids.length c) next p ss sv st w (fun e => k123 (Or.inl e)) (fun e => k123 (Or.inr (Or.inl e))) (fun e => k123 (Or.inr (Or.inr e))) k4 k5 k6 hm
          rwa [show layN (d + 1) q next ss = (next, ss) by unfold layN; rw [if_neg k123, if_neg k4, if_neg k5, if_neg k6]]
end Go.Proofs.Ytimipfdknfdbdaa
