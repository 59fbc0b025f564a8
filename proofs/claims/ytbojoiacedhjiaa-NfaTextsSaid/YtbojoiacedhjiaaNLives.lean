/- aukletlaw06.lives: a walk. -/
import Derived.Test.YtbojoiacedhjiaaNSame
import Derived.Test.YtbojoiacedhjiaaEnds
namespace Go.Proofs.Ytbojoiacedhjiaa
open Go.RowKit

theorem one_at (w : World) (S : Nat → Prop) (c : Nat) : At w S (oneT c) (reC 1 (oneF c) 0 0 (.slice none 0 0)) := .leaf 1 (oneF c) 0 0 none 0
theorem star_at (w : World) (b : Nat) (hx : Box w b (reC 1 (oneF 97) 0 0 (.slice none 0 0))) : At w (fun k => k = b) starT (reC 6 zero4 0 (-1) (.slice (some ⟨b, 0, none⟩) 1 1)) :=
  .node 6 zero4 0 (-1) [oneT 97] b 0 1 (fun _ => reC 1 (oneF 97) 0 0 (.slice none 0 0)) (by simp) (Nat.le_refl _) rfl (fun i hi => by
    have : i = 0 := by simpa using hi
    subst this
    exact hx.eight) (fun i hi => by
    have : i = 0 := by simpa using hi
    subst this
    exact one_at w _ 97)

set_option maxRecDepth 100000 in
set_option maxHeartbeats 1000000 in
theorem lives_spec (w : World) :
    Calls Try.prog 4 #[] w fun e w' => e = .returned (.bool true) ∧ Below w.heap.size w w' := by
  have HBu := Lib.hid (fun w rs B h => Go.Proofs.Ytbojoiacedhjiaa.build_spec starT rs B w h good_star few_star noAlt_star)
  have HE := Lib.hid (fun w p sv h => ends_spec p 1 0 starS sv aab ok_star (by decide) (by decide) (by decide) w h)
  have HL := Lib.hid (fun w p sv h => longest_spec p 1 1 starS sv aab ok_star (by decide) (by decide) (by decide) w h)
  rw [told_star] at HE
  rw [last_star] at HL
  go_enter Try.func4, Try.ntmps4
  go_upto_region 2 with (fail)
  obtain ⟨V, hV, Q, HB, hsz⟩ : ∃ V, V = w.alloc (.cells (words zero4) 26) ∧ Hid (Quad V w.heap.size zero4) ∧ Hid (Below w.heap.size w V) ∧ Hid (V.heap.size = w.heap.size + 1) := ⟨_, rfl, Lib.hid (quad_new w zero4 _), Lib.hid (below_new _ _), Lib.hid (World.size_alloc _ _)⟩
  change Code.wp _ _ _ _ (w.alloc (Obj.cells (words zero4) 26))
  rw [← hV]
  clear hV
  have c1 := Q.out.c 1 (by omega)
  have z1 := Q.out.z 1 (by omega)
  go_upto_region 3 with (fail)
  obtain ⟨D, hD, QD, BD⟩ : ∃ D, D = V.setCell ⟨w.heap.size, 1, none⟩ (.int .u64 ((8589934592 : Nat) : Int)) ∧ Hid (Quad D w.heap.size (oneF 97)) ∧ Hid (Below w.heap.size w D) :=
    ⟨_, rfl, Lib.hid ((Q.out.set (k := 1) (by omega) _).congr (g := oneF 97) (fun j _ => by unfold oneF zero4; by_cases e : j = 1 <;> simp [e])), Lib.hid (HB.out.setCell (by simp) _)⟩
  change Code.wp _ _ _ _ (V.setCell ⟨w.heap.size, 1, none⟩ (.int .u64 ((8589934592 : Nat) : Int)))
  rw [← hD]
  clear hD c1 z1 Q HB hsz
  have q0 := QD.out.c 0 (by omega); have q1 := QD.out.c 1 (by omega); have q2 := QD.out.c 2 (by omega); have q3 := QD.out.c 3 (by omega)
  obtain ⟨U, hU, HX, HBU, hszU⟩ := re_box D (reC 1 (oneF 97) 0 0 (.slice none 0 0))
  have HC := Lib.hid (HBu.out U _ _ (star_at U _ HX.out))
  rw [hU] at HC
  have BU := Lib.hid (Below.step BD.out HBU.out)
  rw [hU] at BU
  clear hU HX HBU hszU
  go_wp2_with fail
  refine HC.out.mono ?_
  rintro e w1 ⟨p, sv, rfl, hlt, hm, b1⟩
  rw [machN_star] at hm
  have BM := Lib.hid (Below.step BU.out b1)
  have H1 := Lib.hid (HE.out w1 p sv hm)
  have M1 := Lib.hid hm
  clear hm b1 q0 q1 q2 q3 hlt
  go_wp2_with fail
  refine H1.out.mono ?_
  rintro e w2 ⟨v, rfl, hown, b2⟩
  have N2 := Lib.hid ((nums_of hown).after (below_new w2 (.cells #[.int .i64 0, .int .i64 1, .int .i64 2] 3)))
  have N3 : Hid (NumsAt (w2.alloc (.cells #[.int .i64 0, .int .i64 1, .int .i64 2] 3)) (.slice (some ⟨w2.heap.size, 0, none⟩) 3 3) [0, 1, 2]) := Lib.hid (nums_of (World.ownsRow_lit (base := 0) (e := 3) (size := 1) w2 #[.int .i64 0, .int .i64 1, .int .i64 2] 3 (Nat.zero_le _) (by unfold maxLen; omega) rfl))
  have B2 := Lib.hid (Below.step (Below.step BM.out b2) (below_new w2 (.cells #[.int .i64 0, .int .i64 1, .int .i64 2] 3)))
  have M2 := Lib.hid ((M1.out.after b2).after (below_new w2 (.cells #[.int .i64 0, .int .i64 1, .int .i64 2] 3)))
  have HS := Lib.hid (same_spec [0, 1, 2] _ _ _ (by decide) N2.out N3.out)
  clear hown b2
  go_wp2_with fail
  refine HS.out.mono ?_
  rintro e w3 ⟨rfl, b3⟩
  have B3 := Lib.hid (Below.step B2.out b3)
  have H3 := Lib.hid (HL.out w3 p sv (M2.out.after b3))
  clear b3
  go_wp2_with fail
  refine H3.out.mono ?_
  rintro e w4 ⟨rfl, b4⟩
  have B4 := Lib.hid (Below.step B3.out b4)
  clear b4
  go_wp2_with fail
  go_ret
  exact ⟨rfl, B4.out⟩
end Go.Proofs.Ytbojoiacedhjiaa
