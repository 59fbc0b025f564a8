/- ere.Show at trees that can be: a walk. -/
import Derived.Test.YtdhndfmblmcapaaDoorPut
namespace Go.Proofs.YtdhndfmblmcapaaDoor
open Go.RowKit

set_option maxRecDepth 100000 in
theorem eshow_spec (t : Tree) (cs : Array Value) (S : Nat → Prop) (w : World) (h : At w S t cs) (hg : Good 100 (-1) t) (hlen : (showN 100 t).length ≤ 140737488355328) :
    Calls Tryd.prog 9 #[.agg cs] w fun e w' => e = .returned (.string ⟨(showN 100 t).toArray⟩) ∧ Below w.heap.size w w' := by
  have HG := Lib.hid hg
  have HL := Lib.hid hlen
  have A0 := Lib.hid (h.inWorld.weakS (T := fun k => k < w.heap.size) fun k hk => hk.2)
  obtain ⟨a, c, rfl, _⟩ := h.opens
  clear h hg hlen
  go_enter Tryd.func9, Tryd.ntmps9
  go_upto_region 1 with (fail)
  obtain ⟨W, hW, hX, hB, hsz⟩ := re_box w (reC t.k t.f t.lo t.hi (.slice a t.kids.length c))
  rw [← hW]
  clear hW
  have A1 := Lib.hid (A0.out.after hB.out)
  have HC := Lib.hid (can_spec t _ _ W A1.out HG.out)
  obtain ⟨c0, c1, c2, c3, c4, c5, c6, c7⟩ := eight_re hX.out.eight
  go_wp2_with fail
  refine HC.out.mono ?_
  rintro e w1 ⟨rfl, b1⟩
  have X1 := Lib.hid (hX.out.after b1)
  have B1 := Lib.hid (Below.step hB.out b1)
  have A2 := Lib.hid (A1.out.after b1)
  clear b1 c0 c1 c2 c3 c4 c5 c6 c7
  go_upto_region 4 with (fail)
  obtain ⟨V, hV, HV, hBV⟩ : ∃ V, V = w1.alloc (.cells #[.pointer none, .slice none 0 0] 43) ∧ Hid (BOk w1.heap.size w1.heap.size [] V) ∧ Hid (Below w1.heap.size w1 V) := by
    refine ⟨_, rfl, Lib.hid ⟨Lib.IsBuilderF.of (Lib.fresh_isBuilder 43 5 w1), by rw [World.size_alloc]; omega⟩, Lib.hid (below_new _ _)⟩
  rw [← hV]
  clear hV
  have X2 := Lib.hid (X1.out.after hBV.out)
  have B2 := Lib.hid (Below.step B1.out hBV.out)
  have hs1 := B1.out.size
  have A3 := Lib.hid ((A2.out.after hBV.out).weakS (T := fun k => k < w1.heap.size) fun k hk => Nat.lt_of_lt_of_le hk hs1)
  have HQ := Lib.hid (puts_all 100 w1.heap.size w1.heap.size (-1) t _ [] (.slice none 0 0) [] V HG.out A3.out (ints_none _) HV.out (by show ([] : List UInt8).length + (parL false (showN 100 t)).length ≤ _; have := HL.out; simpa [parL] using this))
  obtain ⟨c0, c1, c2, c3, c4, c5, c6, c7⟩ := eight_re X2.out.eight
  go_wp2_with fail
  refine HQ.out.mono ?_
  rintro e w2 ⟨rfl, hw2⟩
  have e2 : ([] : List UInt8) ++ parL (among [] t.k) (showN 100 t) = showN 100 t := rfl
  rw [e2] at hw2
  have W2 := Lib.hid hw2
  have HS := Lib.hid (Tryd.Builder_String_any_f w1.heap.size w1.heap.size (showN 100 t) w2 hw2.ok.is hw2.ok.le)
  clear e2 hw2
  go_wp2_with fail
  refine HS.out.mono ?_
  rintro e w3 ⟨rfl, _, b3⟩
  have B3 := Lib.hid b3
  clear b3
  go_wp2_with fail
  go_ret
  exact ⟨rfl, B2.out.trans ((W2.out.below.trans B3.out).mono hs1)⟩
end Go.Proofs.YtdhndfmblmcapaaDoor
