/- nfa.Build at a tree without branches that has not too many states: a walk. -/
import Derived.Test.YtbojoiacedhjiaaPlanWf
import Derived.Deep.RegionWith
namespace Go.Proofs.Ytbojoiacedhjiaa
open Go.RowKit

def goalS : St := ⟨0, zero4, 0, 0⟩
/-- A tree's machine. -/
def machN (t : Tree) : Mk := layN 100 (planN 100 t) 0 [goalS]
/-- What Build leaves. -/
def Built (w : World) (t : Tree) (e : Ending) (w' : World) : Prop :=
  ∃ p sv, e = .returned (.tuple #[.pointer (some ⟨p, 0, none⟩), .int .i64 0]) ∧ w.heap.size ≤ p ∧ Mch w' p (machN t).2 sv (machN t).1 ∧ Below w.heap.size w w'

theorem mch_new (w : World) : Mch (w.alloc (.cells #[.slice none 0 0, .int .i64 0] 49)) w.heap.size [] (.slice none 0 0) 0 := ⟨heap_alloc_last w _, World.ownsRow_nil _ _ _ _⟩

set_option maxRecDepth 100000 in
set_option maxHeartbeats 2000000 in
theorem build_spec (t : Tree) (rs : Array Value) (B : Nat → Prop) (w : World) (h : At w B t rs) (hg : Good 100 (-1) t) (hn : (planN 100 t).n < 500) (hna : NoAltT 100 t) :
    Calls Try.prog 9 #[.agg rs] w (Built w t) := by
  obtain ⟨W, hW, hX, hB, _⟩ := re_box w rs
  obtain ⟨a, c, e, _⟩ := h.opens
  have HC := Lib.hid (can_spec t rs B W (h.after hB.out) hg)
  have HPl := Lib.hid (fun (W' : World) (hb : Below W.heap.size W W') => planOf_spec 100 (-1) t rs B W' ((h.after hB.out).after hb) hg)
  have hwf := planN_wf 100 (-1) t hg hn
  have halt := planN_noAlt 100 t hna
  have HLay := Lib.hid (fun (p : Nat) (sv : Value) (qs : Array Value) (W' : World) (hm : Mch W' p [goalS] sv 0) (hat : PAt W' (fun k => k < p) (planN 100 t) qs) => show Calls Try.prog 15 #[.pointer (some ⟨p, 0, none⟩), .agg qs, .int .i64 0] W' (Laid W' p sv 0 (layN 100 (planN 100 t) 0 [goalS])) from lay_spec 100 (planN 100 t) qs (fun k => k < p) 0 p [goalS] sv 0 W' hat (fun _ h => h) hwf halt hm (by decide))
  obtain ⟨q, hq⟩ : ∃ q, q = planN 100 t := ⟨_, rfl⟩
  have hMach : Hid (machN t = layN 100 q 0 [goalS]) := Lib.hid (by unfold machN; rw [hq])
  rw [← hq] at HPl HLay hn
  have HPut := Lib.hid (fun (p : Nat) (W' : World) (hm : Mch W' p [] (.slice none 0 0) 0) => show Calls Try.prog 16 #[.pointer (some ⟨p, 0, none⟩), .agg #[.int .i64 0, .int .u64 0, .int .u64 0, .int .u64 0, .int .u64 0, .int .i64 0, .int .i64 0]] W' (Laid W' p (.slice none 0 0) 0 (0, [goalS])) from put_spec p [] (.slice none 0 0) 0 goalS W' hm (by decide))
  subst e
  clear h hg hwf halt hna hq
  go_enter Try.func9, Try.ntmps9
  go_upto_region 1 with (fail)
  rw [← hW]
  clear hW
  obtain ⟨c0, c1, c2, c3, c4, c5, c6, c7⟩ := eight_re hX.out.eight
  unfold reC at HC HPl
  go_wp2_with fail
  refine HC.out.mono ?_
  rintro e w1 ⟨rfl, b1⟩
  have X1 := Lib.hid (hX.out.after b1)
  have HP1 := Lib.hid (HPl.out w1 b1)
  have B1 := Lib.hid (Below.step hB.out b1)
  clear b1 c0 c1 c2 c3 c4 c5 c6 c7 HPl HC
  obtain ⟨c0, c1, c2, c3, c4, c5, c6, c7⟩ := eight_re X1.out.eight
  go_wp2_with fail
  refine HP1.out.mono ?_
  rintro e w2 ⟨ps, rfl, hat, b2⟩
  have B2 := Lib.hid (Below.step B1.out b2)
  obtain ⟨a2, c2', e, _⟩ := hat.opens
  subst e
  have HAT := Lib.hid hat
  clear b2 hat c0 c1 c2 c3 c4 c5 c6 c7 HP1
  unfold plC
  go_upto_region 4 with (fail)
  obtain ⟨V, hV, hY, hBV, _⟩ := pl_box w2 (plC q.k q.f q.lo q.hi q.n (.slice a2 q.kids.length c2'))
  change Code.wp _ _ _ _ (w2.alloc (Obj.cells (plC q.k q.f q.lo q.hi q.n (.slice a2 q.kids.length c2')) 45))
  rw [← hV]
  have B3 := Lib.hid (Below.step B2.out hBV.out)
  have A3 := Lib.hid ((HAT.out.after hBV.out).inWorld)
  clear hV
  obtain ⟨q0, q1, q2, q3, q4, q5, q6, q7, q8⟩ := nine_pl hY.out.nine
  go_upto_region 7 with (fail)
  obtain ⟨U, hU⟩ : ∃ U, U = V.alloc (.cells #[.slice none 0 0, .int .i64 0] 49) := ⟨_, rfl⟩
  change Code.wp _ _ _ _ (V.alloc (.cells #[.slice none 0 0, .int .i64 0] 49))
  rw [← hU]
  have MU : Hid (Mch U V.heap.size [] (.slice none 0 0) 0) := Lib.hid (by rw [hU]; exact mch_new V)
  have bU : Below V.heap.size V U := by rw [hU]; exact below_new _ _
  have PU := Lib.hid (hY.out.after bU)
  have AU := Lib.hid ((A3.out.after bU).weakS (T := fun k => k < V.heap.size) fun k hk => hk.2)
  have BU := Lib.hid (Below.step B3.out bU)
  have hVw : w.heap.size ≤ V.heap.size := B3.out.size
  clear hU bU A3 hY q0 q1 q2 q3 q4 q5 q6 q7 q8
  unfold plC at AU
  obtain ⟨q0, q1, q2, q3, q4, q5, q6, q7, q8⟩ := nine_pl PU.out.nine
  go_region_with (first
    | (go_at_call 16; refine (HPut.out V.heap.size _ ?_).mono ?_; exact MU.out.after (below_drew U); rintro e w5 ⟨sv1, rfl, hM, hT⟩; have A5 := Lib.hid ((AU.out.after (below_drew U)).keep fun k hk hlt => hT.block k hlt (by have hk' : k < V.heap.size := hk; omega) (by simp [Value.ownBlock])); have P5 := Lib.hid ((PU.out.after (below_drew U)).turn (MU.out.after (below_drew U)) hT); obtain ⟨d0, d1, d2, d3, d4, d5, d6, d7, d8⟩ := nine_pl P5.out.nine; have HM5 := Lib.hid hM; have HT5 := Lib.hid hT; clear hM hT)
    | (go_at_call 15; refine (HLay.out V.heap.size _ _ _ HM5.out A5.out).mono ?_; rintro e w6 ⟨sv2, rfl, hM6, hT6⟩; have z1 := hM6.z 1; have g1 := hM6.c1; have HM6 := Lib.hid hM6; have HT6 := Lib.hid hT6; clear hM6 hT6))
  all_goals
    go_wp2_with fail
    go_ret2
    refine ⟨V.heap.size, sv2, rfl, hVw, ?_, ?_⟩
    · rw [hMach.out]
      exact (HM6.out.setStart _).1
    · have h1 : Below w.heap.size w U.drew := BU.out.drew
      have h2 : Below w.heap.size U.drew w6 := (HT5.out.trans HT6.out).below hVw BU.out.size (fun k hk => by simp [Value.ownBlock] at hk)
      exact (h1.trans h2).setCell (p := ⟨V.heap.size, 1, none⟩) hVw _
end Go.Proofs.Ytbojoiacedhjiaa
