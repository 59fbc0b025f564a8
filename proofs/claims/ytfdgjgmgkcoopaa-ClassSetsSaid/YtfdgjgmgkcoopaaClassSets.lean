/- ClassSets: for any two sets and any two bytes the law returns true, and its arguments read as before. No condition. -/
import Derived.Test.YtfdgjgmgkcoopaaPost
import Derived.Test.YtfdgjgmgkcoopaaShuf
import Derived.Test.YtfdgjgmgkcoopaaEq
import Derived.Test.YtfdgjgmgkcoopaaOf
import Derived.Test.YtfdgjgmgkcoopaaUnion
import Derived.Test.YtfdgjgmgkcoopaaLives
namespace Go.Proofs.Ytfdgjgmgkcoopaa.classSets
open Go.ChangeShapes Go.WideShapes Go.ChangeAt Go.RowKit Go.ChangeMaps

theorem boxes (w : World) (f g : Nat → Nat) (a b : Nat) : ∃ W, W = ((w.alloc (.cells (words f) 24)).alloc (.cells (words g) 24)).alloc (.cells #[.int .u8 a, .int .u8 b] 25) ∧
    Hid (Quad W w.heap.size f) ∧ Hid (Quad W (w.heap.size + 1) g) ∧ W.cell? ⟨w.heap.size + 1 + 1, 0, none⟩ = some (.int .u8 a) ∧ W.cell? ⟨w.heap.size + 1 + 1, 1, none⟩ = some (.int .u8 b) ∧ Hid (Below w.heap.size w W) := by
  obtain ⟨W, hW, q0, q1, hb⟩ := boxed2 w f g 24 24
  have hs : W.heap.size = w.heap.size + 1 + 1 := by rw [hW, World.size_alloc, World.size_alloc]
  refine ⟨_, rfl, ?_, ?_, ?_, ?_, ?_⟩
  · rw [← hW]; exact Lib.hid (q0.out.after (below_new _ _))
  · rw [← hW]; exact Lib.hid (q1.out.after (below_new _ _))
  · rw [← hW, ← hs, cell_of_row _ _ 0 _ _ (0, 0) (heap_alloc_last W _)]; rfl
  · rw [← hW, ← hs, cell_of_row _ _ 1 _ _ (0, 0) (heap_alloc_last W _)]; rfl
  · rw [← hW]; exact Lib.hid (Below.step hb.out (below_new _ _))

set_option maxRecDepth 100000 in
set_option maxHeartbeats 16000000 in
theorem walk (f g : Nat → Nat) (two : Nat × Nat) (hf : Fits f) (hg : Fits g) (h2 : two.1 < 256 ∧ two.2 < 256) (w : World) :
    Calls Try.prog 3 #[.agg (words f), .agg (words g), twoV two.1 two.2] w fun e w' => e = .returned (.bool true) ∧ Below w.heap.size w w' := by
  obtain ⟨fb, tb⟩ := two
  obtain ⟨hfr, hto⟩ := h2
  simp only at hfr hto
  have HO := Lib.hid (fun f w => of_spec f w)
  have HV := Lib.hid (fun w => lives_spec w)
  have HA := Lib.hid (fun w => add_spec f hf fb tb hfr hto w)
  have HN := Lib.hid (fun f hf w => not_spec f hf w)
  have HU := Lib.hid (fun w => union_spec f g hf hg w)
  have HC := Lib.hid (fun f hf w => count_spec f hf w)
  have HH := Lib.hid (fun f hf c hc w => has_spec f hf c hc w)
  show Calls _ _ #[.agg (words f), .agg (words g), .agg #[.int .u8 fb, .int .u8 tb]] _ _
  go_enter Try.func3, Try.ntmps3
  go_upto_region 1 with (fail)
  obtain ⟨W, hW, Q0, Q1, c0, c1, HB⟩ := boxes w f g fb tb
  rw [← hW]
  clear hW
  go_quiet (fail)
  go_upto_region 2 with (fail)
  have Q0' := Lib.hid (Q0.out.after (Below.drewN' (Below.refl _ W) nq))
  have Q1' := Lib.hid (Q1.out.after (Below.drewN' (Below.refl _ W) nq))
  have HB' := Lib.hid (Below.drewN' HB.out nq)
  clear c0 c1 Q0 Q1 HB
  generalize W.drewN nq = V at Q0' Q1' HB' ⊢
  clear W
  have hz := zero_b
  refine wp_region_held_drew (S := fun w' => Hid (Below V.heap.size V w')) (by kernel_rfl) (Lib.hid (below_drew _)) (fun hH => ?_)
  refine takeW (i := 0) (d := 21) (v := .agg #[.int .u64 (f 0), .int .u64 (f 1), .int .u64 (f 2), .int .u64 (f 3)]) rfl rfl (by kernel_rfl) (by kernel_rfl) (by kernel_rfl) (fun _ _ _ h => h) (by rfl) (fun w' hSw => by have q := Q0'.out.after hSw.out; have c0 := q.c 0 (by omega); have c1 := q.c 1 (by omega); have c2 := q.c 2 (by omega); have c3 := q.c 3 (by omega); clear q; go_simp) (by assumption) ?_
  simp only [List.setIfInBounds_toArray, List.set_cons_zero, List.set_cons_succ]
  refine takeW (i := 2) (d := 23) (v := .agg #[.int .u64 (g 0), .int .u64 (g 1), .int .u64 (g 2), .int .u64 (g 3)]) rfl rfl (by kernel_rfl) (by kernel_rfl) (by kernel_rfl) (fun _ _ _ h => h) (by rfl) (fun w' hSw => by have q := Q1'.out.after hSw.out; have c0 := q.c 0 (by omega); have c1 := q.c 1 (by omega); have c2 := q.c 2 (by omega); have c3 := q.c 3 (by omega); clear q; go_simp) (by assumption) ?_
  simp only [List.setIfInBounds_toArray, List.set_cons_zero, List.set_cons_succ]
  refine shuffle2 2 3 (fun c x y => #[true, decide (1 ≤ c), true, decide (2 ≤ c), x, y, false, false, false]) (fun c => 2 * c + 1) 4 5
    (fun c x y a w' => ∃ v22 v24 v9 v10 : Value, a = { tmps := #[.agg (words f), .agg (words g), .agg #[.int .u8 fb, .int .u8 tb], .pointer (some ⟨w.heap.size, 0, none⟩), .pointer (some ⟨w.heap.size + 1, 0, none⟩), .pointer (some ⟨w.heap.size + 1 + 1, 0, none⟩), .bool false, .int .u8 fb, .int .u8 tb, v9, v10, undef, undef, undef, undef, undef, undef, .pointer (some ⟨w.heap.size + 1 + 1, 0, none⟩), .int .u8 fb, .pointer (some ⟨w.heap.size + 1 + 1, 1, none⟩), .int .u8 tb, .agg #[.int .u64 (f 0), .int .u64 (f 1), .int .u64 (f 2), .int .u64 (f 3)], v22, .agg #[.int .u64 (g 0), .int .u64 (g 1), .int .u64 (g 2), .int .u64 (g 3)], v24, undef, undef, undef, undef, undef, undef, undef, undef, undef, undef, undef, undef, undef, undef, undef, undef, undef, undef, undef, undef, undef, undef, undef, undef, undef, undef, undef, undef, undef, undef, undef, undef, undef, undef, undef, undef, undef, undef, undef, undef, undef, undef, undef, undef, undef, undef, undef, undef, undef, undef, undef, undef, undef, undef, undef, undef, undef, undef, undef, undef, undef, undef, undef, undef, undef, undef, undef, undef, undef, undef, undef, undef, undef, undef, undef, undef, undef, undef, undef, undef, undef, undef, undef, undef, undef, undef, undef, undef, undef], defers := [] } ∧ (1 ≤ c → v22 = .agg (bools (bit f))) ∧ (2 ≤ c → v24 = .agg (bools (bit g))) ∧
      (x = true → ∃ b, v9 = .pointer (some ⟨b, 0, none⟩) ∧ V.heap.size ≤ b ∧ Row w' b (fun _ => false)) ∧ (y = true → ∃ b, v10 = .pointer (some ⟨b, 0, none⟩) ∧ V.heap.size ≤ b ∧ Row w' b (fun _ => false)) ∧ (x = true → y = true → v9 ≠ v10)) ?hr ?hc ?h0 ?h1 ?call ?al0 ?al1 ?fin 4 0 false false _ _ (by omega) (by simp) ?hS ?st
  case hr =>
    intro c x y hc hn
    rcases (show c = 0 ∨ c = 1 ∨ c = 2 from by omega) with rfl | rfl | rfl <;> cases x <;> cases y <;> first | exact absurd ⟨rfl, rfl, rfl⟩ hn | exact ⟨by decide +kernel, by decide +kernel⟩
  case hc =>
    intro c x y hc
    rcases (show c = 0 ∨ c = 1 from by omega) with rfl | rfl <;> rfl
  case h0 => intro c y _; rfl
  case h1 => intro c x _; rfl
  case hS => exact hH
  case st => exact ⟨undef, undef, undef, undef, rfl, (fun h => by omega), (fun h => by omega), (fun h => by cases h), (fun h => by cases h), (fun h => by cases h)⟩
  case call =>
    intro c x y a w' hc hS hst
    obtain ⟨v22, v24, v9, v10, rfl, k1, k2, k3, k4, k5⟩ := hst
    have K1 := Lib.hid k1; have K2 := Lib.hid k2; have K3 := Lib.hid k3; have K4 := Lib.hid k4; have K5 := Lib.hid k5
    clear k1 k2 k3 k4 k5
    rcases (show c = 0 ∨ c = 1 from by omega) with rfl | rfl
    · refine wpOp_step rfl (fun K' hK => ?_)
      have HK := Lib.hid hK; clear hK
      rw [if_pos (by rfl)]
      go_simp
      refine (HO.out f _).mono ?_
      rintro e w1 ⟨rfl, b1⟩
      refine HK.out _ _ ⟨Lib.hid (Below.step hS.out b1), _, v24, v9, v10, rfl, fun _ => rfl, fun h => by omega, fun h => ?_, fun h => ?_, K5.out⟩
      · obtain ⟨b, e, hb, hr⟩ := K3.out h
        exact ⟨b, e, hb, hr.after b1⟩
      · obtain ⟨b, e, hb, hr⟩ := K4.out h
        exact ⟨b, e, hb, hr.after b1⟩
    · refine wpOp_step rfl (fun K' hK => ?_)
      have HK := Lib.hid hK; clear hK
      rw [if_pos (by rfl)]
      go_simp
      refine (HO.out g _).mono ?_
      rintro e w1 ⟨rfl, b1⟩
      refine HK.out _ _ ⟨Lib.hid (Below.step hS.out b1), v22, _, v9, v10, rfl, fun _ => K1.out (Nat.le_refl _), fun _ => rfl, fun h => ?_, fun h => ?_, K5.out⟩
      · obtain ⟨b, e, hb, hr⟩ := K3.out h
        exact ⟨b, e, hb, hr.after b1⟩
      · obtain ⟨b, e, hb, hr⟩ := K4.out h
        exact ⟨b, e, hb, hr.after b1⟩
  case al0 =>
    intro c y a w' hc hS hst
    obtain ⟨v22, v24, v9, v10, rfl, k1, k2, _, k4, _⟩ := hst
    have K1 := Lib.hid k1; have K2 := Lib.hid k2; have K4 := Lib.hid k4
    clear k1 k2 k4
    refine wpOp_step rfl (fun K' hK => ?_)
    have HK := Lib.hid hK; clear hK
    rw [if_pos (by rfl)]
    go_simp
    refine HK.out _ _ ⟨Lib.hid (Below.step hS.out (below_new _ _)), v22, v24, _, v10, rfl, K1.out, K2.out, fun _ => ⟨w'.heap.size, rfl, hS.out.size, row_new w' _⟩, fun h => ?_, fun _ h => ?_⟩
    · obtain ⟨b, e, hb, hr⟩ := K4.out h
      exact ⟨b, e, hb, hr.after (below_new _ _)⟩
    · obtain ⟨b, e, hb, hr⟩ := K4.out h
      have := hr.lt
      rw [e]
      intro e2
      injection e2 with e3
      injection e3 with e4
      injection e4 with e5
      omega
  case al1 =>
    intro c x a w' hc hS hst
    obtain ⟨v22, v24, v9, v10, rfl, k1, k2, k3, _, _⟩ := hst
    have K1 := Lib.hid k1; have K2 := Lib.hid k2; have K3 := Lib.hid k3
    clear k1 k2 k3
    refine wpOp_step rfl (fun K' hK => ?_)
    have HK := Lib.hid hK; clear hK
    rw [if_pos (by rfl)]
    go_simp
    refine HK.out _ _ ⟨Lib.hid (Below.step hS.out (below_new _ _)), v22, v24, v9, _, rfl, K1.out, K2.out, fun h => ?_, fun _ => ⟨w'.heap.size, rfl, hS.out.size, row_new w' _⟩, fun h _ => ?_⟩
    · obtain ⟨b, e, hb, hr⟩ := K3.out h
      exact ⟨b, e, hb, hr.after (below_new _ _)⟩
    · obtain ⟨b, e, hb, hr⟩ := K3.out h
      have := hr.lt
      rw [e]
      intro e2
      injection e2 with e3
      injection e3 with e4
      injection e4 with e5
      omega
  case fin =>
    intro a w' hS hst
    clear hH hz
    obtain ⟨v22, v24, v9, v10, rfl, k1, k2, k3, k4, k5⟩ := hst
    obtain rfl := k1 (by omega)
    obtain rfl := k2 (by omega)
    obtain ⟨b9, rfl, hb9, r9⟩ := k3 rfl
    obtain ⟨b10, rfl, hb10, r10⟩ := k4 rfl
    have hne : b9 ≠ b10 := fun e => k5 rfl rfl (by rw [e])
    clear k1 k2 k3 k4 k5
    have R9 := Lib.hid r9; have R10 := Lib.hid r10; clear r9 r10
    have hst := store_b R9.out (bit f)
    have hsz := bools_size (bit f)
    refine wpAnyH_ready (rs := [6]) (by kernel_rfl) (by simp) ?_
    refine AllReadyH.cons rfl (fun X hX => ?_) AllReadyH.nil
    rw [if_pos (by rfl)]
    go_simp
    clear hst hsz
    refine hX.out _ _ (Lib.hid (below_setRow hS.out hb9 _)) (fun hS2 => ?_)
    have T9 := Lib.hid (R9.out.setRow (bit f))
    have T10 := Lib.hid (R10.out.setRow_other (Ne.symm hne) (bools (bit f)))
    clear hX X R9 R10
    have hst := store_b T10.out (bit g)
    have hsz := bools_size (bit g)
    refine wpAnyH_ready (rs := [7]) (by kernel_rfl) (by simp) ?_
    refine AllReadyH.cons rfl (fun X hX => ?_) AllReadyH.nil
    rw [if_pos (by rfl)]
    go_simp
    clear hst hsz
    refine hX.out _ _ (Lib.hid (below_setRow hS2.out hb10 _)) (fun hS3 => ?_)
    have U9 := Lib.hid (T9.out.setRow_other hne (bools (bit g)))
    have U10 := Lib.hid (T10.out.setRow (bit g))
    clear hX X T9 T10
    generalize (w'.setRow b9 (bools (bit f))).setRow b10 (bools (bit g)) = V2 at hS3 U9 U10 ⊢
    clear hS2
    refine takeW (i := 8) (d := 11) (v := .int .i64 0) rfl rfl (by kernel_rfl) (by kernel_rfl) (by kernel_rfl) (fun _ _ _ h => h) (by rfl) (fun w' hSw => by go_simp) (by assumption) ?_
    simp only [List.setIfInBounds_toArray, List.set_cons_zero, List.set_cons_succ]
    refine wpAnyH_done (by kernel_rfl) ?_ _
    have Q0 := Lib.hid (Q0'.out.after hS3.out)
    have Q1 := Lib.hid (Q1'.out.after hS3.out)
    have HB := Lib.hid (HB'.out.trans (hS3.out.mono HB'.out.size))
    clear Q0' Q1' HB' hb9 hb10 hS3 hS
    clear w'
    clear V
    have HX := Lib.hid U9; have HY := Lib.hid U10
    clear U9 U10
    go_upto_region 3 with (fail)
    refine wp_region_held_drew (S := fun w' => Hid (Below V2.heap.size V2 w')) (by kernel_rfl) (Lib.hid (below_drew _)) (fun hH => ?_)
    refine takeW (i := 0) (d := 25) (v := .agg #[.int .u64 (f 0), .int .u64 (f 1), .int .u64 (f 2), .int .u64 (f 3)]) rfl rfl (by kernel_rfl) (by kernel_rfl) (by kernel_rfl) (fun _ _ _ h => h) (by rfl) (fun w' hSw => by have q := Q0.out.after hSw.out; have c0 := q.c 0 (by omega); have c1 := q.c 1 (by omega); have c2 := q.c 2 (by omega); have c3 := q.c 3 (by omega); clear q; go_simp) (by assumption) ?_
    simp only [List.setIfInBounds_toArray, List.set_cons_zero, List.set_cons_succ]
    refine takeW (i := 1) (d := 26) (v := .int .u8 fb) rfl rfl (by kernel_rfl) (by kernel_rfl) (by kernel_rfl) (fun _ _ _ h => h) (by rfl) (fun w' hSw => by go_simp) (by assumption) ?_
    simp only [List.setIfInBounds_toArray, List.set_cons_zero, List.set_cons_succ]
    refine takeW (i := 2) (d := 27) (v := .int .u8 tb) rfl rfl (by kernel_rfl) (by kernel_rfl) (by kernel_rfl) (fun _ _ _ h => h) (by rfl) (fun w' hSw => by go_simp) (by assumption) ?_
    simp only [List.setIfInBounds_toArray, List.set_cons_zero, List.set_cons_succ]
    refine takeW (i := 4) (d := 29) (v := .agg #[.int .u64 (f 0), .int .u64 (f 1), .int .u64 (f 2), .int .u64 (f 3)]) rfl rfl (by kernel_rfl) (by kernel_rfl) (by kernel_rfl) (fun _ _ _ h => h) (by rfl) (fun w' hSw => by have q := Q0.out.after hSw.out; have c0 := q.c 0 (by omega); have c1 := q.c 1 (by omega); have c2 := q.c 2 (by omega); have c3 := q.c 3 (by omega); clear q; go_simp) (by assumption) ?_
    simp only [List.setIfInBounds_toArray, List.set_cons_zero, List.set_cons_succ]
    refine takeW (i := 6) (d := 31) (v := .agg #[.int .u64 (f 0), .int .u64 (f 1), .int .u64 (f 2), .int .u64 (f 3)]) rfl rfl (by kernel_rfl) (by kernel_rfl) (by kernel_rfl) (fun _ _ _ h => h) (by rfl) (fun w' hSw => by have q := Q0.out.after hSw.out; have c0 := q.c 0 (by omega); have c1 := q.c 1 (by omega); have c2 := q.c 2 (by omega); have c3 := q.c 3 (by omega); clear q; go_simp) (by assumption) ?_
    simp only [List.setIfInBounds_toArray, List.set_cons_zero, List.set_cons_succ]
    refine takeW (i := 7) (d := 32) (v := .agg #[.int .u64 (g 0), .int .u64 (g 1), .int .u64 (g 2), .int .u64 (g 3)]) rfl rfl (by kernel_rfl) (by kernel_rfl) (by kernel_rfl) (fun _ _ _ h => h) (by rfl) (fun w' hSw => by have q := Q1.out.after hSw.out; have c0 := q.c 0 (by omega); have c1 := q.c 1 (by omega); have c2 := q.c 2 (by omega); have c3 := q.c 3 (by omega); clear q; go_simp) (by assumption) ?_
    simp only [List.setIfInBounds_toArray, List.set_cons_zero, List.set_cons_succ]
    refine shuffle3 3 3 (fun c x y z => #[true, true, true, decide (1 ≤ c), true, decide (2 ≤ c), true, true, decide (3 ≤ c), x, y, z, false, false, false]) (fun c => if c = 0 then 3 else if c = 1 then 5 else 8) 9 10 11
      (fun c x y z a w' => ∃ v28 v30 v33 v12 v13 v14 : Value, a = { tmps := #[.agg (words f), .agg (words g), .agg #[.int .u8 fb, .int .u8 tb], .pointer (some ⟨w.heap.size, 0, none⟩), .pointer (some ⟨w.heap.size + 1, 0, none⟩), .pointer (some ⟨w.heap.size + 1 + 1, 0, none⟩), .bool false, .int .u8 fb, .int .u8 tb, .pointer (some ⟨b9, 0, none⟩), .pointer (some ⟨b10, 0, none⟩), .int .i64 0, v12, v13, v14, undef, undef, .pointer (some ⟨w.heap.size + 1 + 1, 0, none⟩), .int .u8 fb, .pointer (some ⟨w.heap.size + 1 + 1, 1, none⟩), .int .u8 tb, .agg #[.int .u64 (f 0), .int .u64 (f 1), .int .u64 (f 2), .int .u64 (f 3)], .agg (bools (bit f)), .agg #[.int .u64 (g 0), .int .u64 (g 1), .int .u64 (g 2), .int .u64 (g 3)], .agg (bools (bit g)), .agg #[.int .u64 (f 0), .int .u64 (f 1), .int .u64 (f 2), .int .u64 (f 3)], .int .u8 fb, .int .u8 tb, v28, .agg #[.int .u64 (f 0), .int .u64 (f 1), .int .u64 (f 2), .int .u64 (f 3)], v30, .agg #[.int .u64 (f 0), .int .u64 (f 1), .int .u64 (f 2), .int .u64 (f 3)], .agg #[.int .u64 (g 0), .int .u64 (g 1), .int .u64 (g 2), .int .u64 (g 3)], v33, undef, undef, undef, undef, undef, undef, undef, undef, undef, undef, undef, undef, undef, undef, undef, undef, undef, undef, undef, undef, undef, undef, undef, undef, undef, undef, undef, undef, undef, undef, undef, undef, undef, undef, undef, undef, undef, undef, undef, undef, undef, undef, undef, undef, undef, undef, undef, undef, undef, undef, undef, undef, undef, undef, undef, undef, undef, undef, undef, undef, undef, undef, undef, undef, undef, undef, undef, undef, undef, undef, undef, undef, undef, undef, undef, undef, undef, undef, undef, undef], defers := [] } ∧ (1 ≤ c → ∃ h, v28 = .agg (words h) ∧ Span f h fb (tb + 1)) ∧ (2 ≤ c → v30 = .agg (words (notW f))) ∧ (3 ≤ c → v33 = .agg (words (orW f g))) ∧
        (x = true → ∃ b, v12 = .pointer (some ⟨b, 0, none⟩) ∧ V2.heap.size ≤ b ∧ Quad w' b zero4) ∧ (y = true → ∃ b, v13 = .pointer (some ⟨b, 0, none⟩) ∧ V2.heap.size ≤ b ∧ Quad w' b zero4) ∧ (z = true → ∃ b, v14 = .pointer (some ⟨b, 0, none⟩) ∧ V2.heap.size ≤ b ∧ Quad w' b zero4) ∧
        (x = true → y = true → v12 ≠ v13) ∧ (x = true → z = true → v12 ≠ v14) ∧ (y = true → z = true → v13 ≠ v14)) ?hr ?hc ?h0 ?h1 ?h2 ?call ?al0 ?al1 ?al2 ?fin 6 0 false false false _ _ (by omega) (by simp) ?hS ?st
    case hr =>
      intro c x y z hc hn
      rcases (show c = 0 ∨ c = 1 ∨ c = 2 ∨ c = 3 from by omega) with rfl | rfl | rfl | rfl <;> cases x <;> cases y <;> cases z <;> first | exact absurd ⟨rfl, rfl, rfl, rfl⟩ hn | exact ⟨by decide +kernel, by decide +kernel⟩
    case hc =>
      intro c x y z hc
      rcases (show c = 0 ∨ c = 1 ∨ c = 2 from by omega) with rfl | rfl | rfl <;> rfl
    case h0 => intro c y z _; rfl
    case h1 => intro c x z _; rfl
    case h2 => intro c x y _; rfl
    case hS => exact hH
    case st => exact ⟨undef, undef, undef, undef, undef, undef, rfl, (fun h => by omega), (fun h => by omega), (fun h => by omega), (fun h => by cases h), (fun h => by cases h), (fun h => by cases h), (fun h => by cases h), (fun h => by cases h), (fun h => by cases h)⟩
    case call =>
      intro c x y z a w' hc hS hst
      obtain ⟨v28, v30, v33, v12, v13, v14, rfl, k1, k2, k3, k4, k5, k6, k7, k8, k9⟩ := hst
      have K1 := Lib.hid k1; have K2 := Lib.hid k2; have K3 := Lib.hid k3; have K4 := Lib.hid k4; have K5 := Lib.hid k5; have K6 := Lib.hid k6; have K7 := Lib.hid k7; have K8 := Lib.hid k8; have K9 := Lib.hid k9
      clear k1 k2 k3 k4 k5 k6 k7 k8 k9
      rcases (show c = 0 ∨ c = 1 ∨ c = 2 from by omega) with rfl | rfl | rfl
      · refine wpOp_step rfl (fun K' hK => ?_)
        have HK := Lib.hid hK; clear hK
        rw [if_pos (by rfl)]
        go_simp
        refine (HA.out _).mono ?_
        rintro e w1 ⟨h1, rfl, hs1, b1⟩
        refine HK.out _ _ ⟨Lib.hid (Below.step hS.out b1), _, v30, v33, v12, v13, v14, rfl, fun _ => ⟨h1, rfl, hs1.out⟩, fun h => by omega, fun h => by omega, fun h => ?_, fun h => ?_, fun h => ?_, K7.out, K8.out, K9.out⟩
        · obtain ⟨b, e, hb, hr⟩ := K4.out h
          exact ⟨b, e, hb, hr.after b1⟩
        · obtain ⟨b, e, hb, hr⟩ := K5.out h
          exact ⟨b, e, hb, hr.after b1⟩
        · obtain ⟨b, e, hb, hr⟩ := K6.out h
          exact ⟨b, e, hb, hr.after b1⟩
      · refine wpOp_step rfl (fun K' hK => ?_)
        have HK := Lib.hid hK; clear hK
        rw [if_pos (by rfl)]
        go_simp
        refine (HN.out f hf _).mono ?_
        rintro e w1 ⟨rfl, b1⟩
        refine HK.out _ _ ⟨Lib.hid (Below.step hS.out b1), v28, _, v33, v12, v13, v14, rfl, fun _ => K1.out (by omega), fun _ => rfl, fun h => by omega, fun h => ?_, fun h => ?_, fun h => ?_, K7.out, K8.out, K9.out⟩
        · obtain ⟨b, e, hb, hr⟩ := K4.out h
          exact ⟨b, e, hb, hr.after b1⟩
        · obtain ⟨b, e, hb, hr⟩ := K5.out h
          exact ⟨b, e, hb, hr.after b1⟩
        · obtain ⟨b, e, hb, hr⟩ := K6.out h
          exact ⟨b, e, hb, hr.after b1⟩
      · refine wpOp_step rfl (fun K' hK => ?_)
        have HK := Lib.hid hK; clear hK
        rw [if_pos (by rfl)]
        go_simp
        refine (HU.out _).mono ?_
        rintro e w1 ⟨rfl, b1⟩
        refine HK.out _ _ ⟨Lib.hid (Below.step hS.out b1), v28, v30, _, v12, v13, v14, rfl, fun _ => K1.out (by omega), fun _ => K2.out (by omega), fun _ => rfl, fun h => ?_, fun h => ?_, fun h => ?_, K7.out, K8.out, K9.out⟩
        · obtain ⟨b, e, hb, hr⟩ := K4.out h
          exact ⟨b, e, hb, hr.after b1⟩
        · obtain ⟨b, e, hb, hr⟩ := K5.out h
          exact ⟨b, e, hb, hr.after b1⟩
        · obtain ⟨b, e, hb, hr⟩ := K6.out h
          exact ⟨b, e, hb, hr.after b1⟩
    case al0 =>
      intro c y z a w' hc hS hst
      obtain ⟨v28, v30, v33, v12, v13, v14, rfl, k1, k2, k3, _, k5, k6, _, _, k9⟩ := hst
      have K1 := Lib.hid k1; have K2 := Lib.hid k2; have K3 := Lib.hid k3; have K5 := Lib.hid k5; have K6 := Lib.hid k6; have K9 := Lib.hid k9
      clear k1 k2 k3 k5 k6 k9
      refine wpOp_step rfl (fun K' hK => ?_)
      have HK := Lib.hid hK; clear hK
      rw [if_pos (by rfl)]
      go_simp
      refine HK.out _ _ ⟨Lib.hid (Below.step hS.out (below_new _ _)), v28, v30, v33, _, v13, v14, rfl, K1.out, K2.out, K3.out, fun _ => ⟨w'.heap.size, rfl, hS.out.size, quad_new w' zero4 _⟩, fun h => ?_, fun h => ?_, fun _ h => ?_, fun _ h => ?_, K9.out⟩
      · obtain ⟨b, e, hb, hr⟩ := K5.out h
        exact ⟨b, e, hb, hr.after (below_new _ _)⟩
      · obtain ⟨b, e, hb, hr⟩ := K6.out h
        exact ⟨b, e, hb, hr.after (below_new _ _)⟩
      · obtain ⟨b, e, hb, hr⟩ := K5.out h
        have := hr.lt
        rw [e]
        intro e2
        injection e2 with e3
        injection e3 with e4
        injection e4 with e5
        omega
      · obtain ⟨b, e, hb, hr⟩ := K6.out h
        have := hr.lt
        rw [e]
        intro e2
        injection e2 with e3
        injection e3 with e4
        injection e4 with e5
        omega
    case al1 =>
      intro c x z a w' hc hS hst
      obtain ⟨v28, v30, v33, v12, v13, v14, rfl, k1, k2, k3, k4, _, k6, _, k8, _⟩ := hst
      have K1 := Lib.hid k1; have K2 := Lib.hid k2; have K3 := Lib.hid k3; have K4 := Lib.hid k4; have K6 := Lib.hid k6; have K8 := Lib.hid k8
      clear k1 k2 k3 k4 k6 k8
      refine wpOp_step rfl (fun K' hK => ?_)
      have HK := Lib.hid hK; clear hK
      rw [if_pos (by rfl)]
      go_simp
      refine HK.out _ _ ⟨Lib.hid (Below.step hS.out (below_new _ _)), v28, v30, v33, v12, _, v14, rfl, K1.out, K2.out, K3.out, fun h => ?_, fun _ => ⟨w'.heap.size, rfl, hS.out.size, quad_new w' zero4 _⟩, fun h => ?_, fun h _ => ?_, K8.out, fun _ h => ?_⟩
      · obtain ⟨b, e, hb, hr⟩ := K4.out h
        exact ⟨b, e, hb, hr.after (below_new _ _)⟩
      · obtain ⟨b, e, hb, hr⟩ := K6.out h
        exact ⟨b, e, hb, hr.after (below_new _ _)⟩
      · obtain ⟨b, e, hb, hr⟩ := K4.out h
        have := hr.lt
        rw [e]
        intro e2
        injection e2 with e3
        injection e3 with e4
        injection e4 with e5
        omega
      · obtain ⟨b, e, hb, hr⟩ := K6.out h
        have := hr.lt
        rw [e]
        intro e2
        injection e2 with e3
        injection e3 with e4
        injection e4 with e5
        omega
    case al2 =>
      intro c x y a w' hc hS hst
      obtain ⟨v28, v30, v33, v12, v13, v14, rfl, k1, k2, k3, k4, k5, _, k7, _, _⟩ := hst
      have K1 := Lib.hid k1; have K2 := Lib.hid k2; have K3 := Lib.hid k3; have K4 := Lib.hid k4; have K5 := Lib.hid k5; have K7 := Lib.hid k7
      clear k1 k2 k3 k4 k5 k7
      refine wpOp_step rfl (fun K' hK => ?_)
      have HK := Lib.hid hK; clear hK
      rw [if_pos (by rfl)]
      go_simp
      refine HK.out _ _ ⟨Lib.hid (Below.step hS.out (below_new _ _)), v28, v30, v33, v12, v13, _, rfl, K1.out, K2.out, K3.out, fun h => ?_, fun h => ?_, fun _ => ⟨w'.heap.size, rfl, hS.out.size, quad_new w' zero4 _⟩, K7.out, fun h _ => ?_, fun h _ => ?_⟩
      · obtain ⟨b, e, hb, hr⟩ := K4.out h
        exact ⟨b, e, hb, hr.after (below_new _ _)⟩
      · obtain ⟨b, e, hb, hr⟩ := K5.out h
        exact ⟨b, e, hb, hr.after (below_new _ _)⟩
      · obtain ⟨b, e, hb, hr⟩ := K4.out h
        have := hr.lt
        rw [e]
        intro e2
        injection e2 with e3
        injection e3 with e4
        injection e4 with e5
        omega
      · obtain ⟨b, e, hb, hr⟩ := K5.out h
        have := hr.lt
        rw [e]
        intro e2
        injection e2 with e3
        injection e3 with e4
        injection e4 with e5
        omega
    case fin =>
      intro a w' hS hst
      clear hH
      obtain ⟨v28, v30, v33, v12, v13, v14, rfl, k1, k2, k3, k4, k5, k6, k7, k8, k9⟩ := hst
      obtain ⟨h, rfl, hspan⟩ := k1 (by omega)
      obtain rfl := k2 (by omega)
      obtain rfl := k3 (by omega)
      obtain ⟨b12, rfl, hb12, r12⟩ := k4 rfl
      obtain ⟨b13, rfl, hb13, r13⟩ := k5 rfl
      obtain ⟨b14, rfl, hb14, r14⟩ := k6 rfl
      have n1 : b12 ≠ b13 := fun e => k7 rfl rfl (by rw [e])
      have n2 : b12 ≠ b14 := fun e => k8 rfl rfl (by rw [e])
      have n3 : b13 ≠ b14 := fun e => k9 rfl rfl (by rw [e])
      clear k1 k2 k3 k4 k5 k6 k7 k8 k9
      have R12 := Lib.hid r12; have R13 := Lib.hid r13; have R14 := Lib.hid r14; have HSP := Lib.hid hspan
      clear r12 r13 r14 hspan
      simp only [words]
      have z0 := R12.out.z 0 (by omega); have z1 := R12.out.z 1 (by omega); have z2 := R12.out.z 2 (by omega); have z3 := R12.out.z 3 (by omega)
      have y0 := R12.out.c 0 (by omega); have y1 := R12.out.c 1 (by omega); have y2 := R12.out.c 2 (by omega); have y3 := R12.out.c 3 (by omega)
      refine wpAnyH_ready (rs := [12]) (by kernel_rfl) (by simp) ?_
      refine AllReadyH.cons rfl (fun X hX => ?_) AllReadyH.nil
      rw [if_pos (by rfl)]
      go_simp
      clear z0 z1 z2 z3 y0 y1 y2 y3
      refine hX.out _ (put4 w' b12 h) (Lib.hid (below_put4 hS.out hb12 _)) (fun hS1 => ?_)
      clear hX X
      have T12 := Lib.hid (R12.out.put4 h)
      have T13 := Lib.hid (R13.out.put4_other (Ne.symm n1) h)
      have T14 := Lib.hid (R14.out.put4_other (Ne.symm n2) h)
      clear R12 R13 R14
      have z0 := T13.out.z 0 (by omega); have z1 := T13.out.z 1 (by omega); have z2 := T13.out.z 2 (by omega); have z3 := T13.out.z 3 (by omega)
      have y0 := T13.out.c 0 (by omega); have y1 := T13.out.c 1 (by omega); have y2 := T13.out.c 2 (by omega); have y3 := T13.out.c 3 (by omega)
      refine wpAnyH_ready (rs := [13]) (by kernel_rfl) (by simp) ?_
      refine AllReadyH.cons rfl (fun X hX => ?_) AllReadyH.nil
      rw [if_pos (by rfl)]
      go_simp
      clear z0 z1 z2 z3 y0 y1 y2 y3
      refine hX.out _ (put4 (put4 w' b12 h) b13 (notW f)) (Lib.hid (below_put4 hS1.out hb13 _)) (fun hS2 => ?_)
      clear hX X
      have U12 := Lib.hid (T12.out.put4_other n1 (notW f))
      have U13 := Lib.hid (T13.out.put4 (notW f))
      have U14 := Lib.hid (T14.out.put4_other (Ne.symm n3) (notW f))
      clear T12 T13 T14
      have z0 := U14.out.z 0 (by omega); have z1 := U14.out.z 1 (by omega); have z2 := U14.out.z 2 (by omega); have z3 := U14.out.z 3 (by omega)
      have y0 := U14.out.c 0 (by omega); have y1 := U14.out.c 1 (by omega); have y2 := U14.out.c 2 (by omega); have y3 := U14.out.c 3 (by omega)
      refine wpAnyH_ready (rs := [14]) (by kernel_rfl) (by simp) ?_
      refine AllReadyH.cons rfl (fun X hX => ?_) AllReadyH.nil
      rw [if_pos (by rfl)]
      go_simp
      clear z0 z1 z2 z3 y0 y1 y2 y3
      refine hX.out _ (put4 (put4 (put4 w' b12 h) b13 (notW f)) b14 (orW f g)) (Lib.hid (below_put4 hS2.out hb14 _)) (fun hS3 => ?_)
      clear hX X
      have X12 := Lib.hid (U12.out.put4_other n2 (orW f g))
      have X13 := Lib.hid (U13.out.put4_other n3 (orW f g))
      have X14 := Lib.hid (U14.out.put4 (orW f g))
      clear U12 U13 U14
      generalize put4 (put4 (put4 w' b12 h) b13 (notW f)) b14 (orW f g) = V4 at hS3 X12 X13 X14 ⊢
      clear hS1 hS2 hS
      clear w'
      refine wpAnyH_done (by kernel_rfl) ?_ _
      have q0 := Lib.hid (Q0.out.after hS3.out)
      have hx := Lib.hid (HX.out.after hS3.out)
      have hy := Lib.hid (HY.out.after hS3.out)
      have hB := Lib.hid (HB.out.trans (hS3.out.mono HB.out.size))
      clear Q0 Q1 HB HX HY hS3 hb12 hb13 hb14 n1 n2 n3 hne
      clear V2
      go_wp2_with fail
      go_loopw [11, 15] (fun x y wr => ∃ k : Nat, x = .int .i64 (cntTo f k) ∧ y = .int .i64 k ∧ k ≤ 256 ∧ Hid (Below V4.heap.size V4 wr)) (fun _ y _ => 256 - (intOf y).toNat)
      case atStart => exact ⟨0, rfl, rfl, by omega, Lib.hid (Below.refl _ _)⟩
      case round =>
        obtain ⟨k, rfl, rfl, hk, hb⟩ := hrel
        by_cases hgo : k < 256
        · have hle := cnt_le f k
          have hle2 := cnt_le f (k + 1)
          have q0r := Lib.hid (q0.out.after hb.out); have hxr := Lib.hid (hx.out.after hb.out); have hyr := Lib.hid (hy.out.after hb.out)
          have q12 := Lib.hid (X12.out.after hb.out); have q13 := Lib.hid (X13.out.after hb.out); have q14 := Lib.hid (X14.out.after hb.out)
          have hbm : bit h k = (bit f k || (decide (fb ≤ k) && decide (k < tb + 1))) := HSP.out.2 k hgo
          have hbn := bit_not f hf hgo
          have hbo := bit_or f g k
          have H1 := Lib.hid (HH.out f hf k hgo)
          have H2 := Lib.hid (HH.out h HSP.out.1 k hgo)
          have H3 := Lib.hid (HH.out (notW f) (fits_not f) k hgo)
          have H4 := Lib.hid (HH.out (orW f g) (fits_or hf hg) k hgo)
          rw [hbm] at H2
          rw [hbn] at H3
          rw [hbo] at H4
          have hcn : cntTo f (k + 1) = cntTo f k + (bit f k).toNat := rfl
          clear hbm hbn hbo
          obtain ⟨by_, hby⟩ : ∃ b, b = bit g k := ⟨_, rfl⟩
          rw [← hby] at H4
          have GY : Hid (by_ = bit g k) := Lib.hid hby
          clear hby
          obtain ⟨bx, hbx⟩ : ∃ b, b = bit f k := ⟨_, rfl⟩
          rw [← hbx] at H1 H2 H3 H4 hcn
          have GX : Hid (bx = bit f k) := Lib.hid hbx
          clear hbx
          have HCN := Lib.hid hcn; clear hcn
          have hfb : (fb : Int) ≤ k ∨ (k : Int) < fb := by omega
          have hcase : bx = true ∨ (bx = false ∧ (fb : Int) ≤ k) ∨ (bx = false ∧ (k : Int) < fb) := by cases bx <;> simp <;> omega
          go_upto_region 8 with (fail)
          rcases hcase with rfl | ⟨rfl, hge⟩ | ⟨rfl, hlt⟩
          · rw [show (true || (decide (fb ≤ k) && decide (k < tb + 1))) = true from rfl] at H2
            rw [show (true || by_) = true from rfl] at H4
            rw [show (!true) = false from rfl] at H3
            refine wp_region_held_drew (S := fun w' => Hid (Below wr.heap.size wr w')) (by kernel_rfl) (Lib.hid (below_drew _)) (fun hH => ?_)
            refine takeW (i := 0) (d := 40) (v := .agg #[.int .u64 (f 0), .int .u64 (f 1), .int .u64 (f 2), .int .u64 (f 3)]) rfl rfl (by kernel_rfl) (by kernel_rfl) (by kernel_rfl) (fun _ _ _ h => h) (by rfl) (fun w' hSw => by have q := q0r.out.after hSw.out; have c0 := q.c 0 (by omega); have c1 := q.c 1 (by omega); have c2 := q.c 2 (by omega); have c3 := q.c 3 (by omega); clear q; go_simp) (by assumption) ?_
            simp only [List.setIfInBounds_toArray, List.set_cons_zero, List.set_cons_succ]
            refine takeW (i := 1) (d := 41) (v := .int .u8 k) rfl rfl (by kernel_rfl) (by kernel_rfl) (by kernel_rfl) (fun _ _ _ h => h) (by rfl) (fun w' hSw => by go_simp) (by assumption) ?_
            simp only [List.setIfInBounds_toArray, List.set_cons_zero, List.set_cons_succ]
            refine takeW (i := 3) (d := 43) (v := .int .i64 k) rfl rfl (by kernel_rfl) (by kernel_rfl) (by kernel_rfl) (fun _ _ _ h => h) (by rfl) (fun w' hSw => by go_simp) (by assumption) ?_
            simp only [List.setIfInBounds_toArray, List.set_cons_zero, List.set_cons_succ]
            refine takeW (i := 4) (d := 44) (v := .pointer (some ⟨b9, k, none⟩)) rfl rfl (by kernel_rfl) (by kernel_rfl) (by kernel_rfl) (fun _ _ _ h => h) (by rfl) (fun w' hSw => by go_simp) (by assumption) ?_
            simp only [List.setIfInBounds_toArray, List.set_cons_zero, List.set_cons_succ]
            refine takeW (i := 5) (d := 45) (v := .bool true) rfl rfl (by kernel_rfl) (by kernel_rfl) (by kernel_rfl) (fun _ _ _ h => h) (by rfl) (fun w' hSw => by have c0 := (hxr.out.after hSw.out).c hgo; rw [← GX.out] at c0; go_simp) (by assumption) ?_
            simp only [List.setIfInBounds_toArray, List.set_cons_zero, List.set_cons_succ]
            refine wpAnyH_ready (rs := [2]) (by kernel_rfl) (by simp) ?_
            refine AllReadyH.cons rfl (fun X hX => ?_) AllReadyH.nil
            rw [if_pos (by rfl)]
            go_simp
            refine (H1.out _).mono ?_
            rintro e w1 ⟨rfl, b1⟩
            go_wp2_with fail
            refine hX.out _ _ (Lib.hid (Below.step hH.out b1)) (fun hH2 => ?_)
            clear hX X hH b1
            have hH := hH2
            clear hH2
            refine takeW (i := 6) (d := 46) (v := .bool false) rfl rfl (by kernel_rfl) (by kernel_rfl) (by kernel_rfl) (fun _ _ _ h => h) (by rfl) (fun w' hSw => by go_simp) (by assumption) ?_
            simp only [List.setIfInBounds_toArray, List.set_cons_zero, List.set_cons_succ]
            refine takeW (i := 7) (d := 47) (v := .bool false) rfl rfl (by kernel_rfl) (by kernel_rfl) (by kernel_rfl) (fun _ _ _ h => h) (by rfl) (fun w' hSw => by go_simp) (by assumption) ?_
            simp only [List.setIfInBounds_toArray, List.set_cons_zero, List.set_cons_succ]
            refine takeW (i := 8) (d := 48) (v := .agg #[.int .u64 (h 0), .int .u64 (h 1), .int .u64 (h 2), .int .u64 (h 3)]) rfl rfl (by kernel_rfl) (by kernel_rfl) (by kernel_rfl) (fun _ _ _ h => h) (by rfl) (fun w' hSw => by have q := q12.out.after hSw.out; have c0 := q.c 0 (by omega); have c1 := q.c 1 (by omega); have c2 := q.c 2 (by omega); have c3 := q.c 3 (by omega); clear q; go_simp) (by assumption) ?_
            simp only [List.setIfInBounds_toArray, List.set_cons_zero, List.set_cons_succ]
            refine takeW (i := 9) (d := 49) (v := .int .u8 k) rfl rfl (by kernel_rfl) (by kernel_rfl) (by kernel_rfl) (fun _ _ _ h => h) (by rfl) (fun w' hSw => by go_simp) (by assumption) ?_
            simp only [List.setIfInBounds_toArray, List.set_cons_zero, List.set_cons_succ]
            refine takeW (i := 11) (d := 51) (v := .int .i64 k) rfl rfl (by kernel_rfl) (by kernel_rfl) (by kernel_rfl) (fun _ _ _ h => h) (by rfl) (fun w' hSw => by go_simp) (by assumption) ?_
            simp only [List.setIfInBounds_toArray, List.set_cons_zero, List.set_cons_succ]
            refine takeW (i := 12) (d := 52) (v := .pointer (some ⟨b9, k, none⟩)) rfl rfl (by kernel_rfl) (by kernel_rfl) (by kernel_rfl) (fun _ _ _ h => h) (by rfl) (fun w' hSw => by go_simp) (by assumption) ?_
            simp only [List.setIfInBounds_toArray, List.set_cons_zero, List.set_cons_succ]
            refine takeW (i := 13) (d := 53) (v := .bool true) rfl rfl (by kernel_rfl) (by kernel_rfl) (by kernel_rfl) (fun _ _ _ h => h) (by rfl) (fun w' hSw => by have c0 := (hxr.out.after hSw.out).c hgo; rw [← GX.out] at c0; go_simp) (by assumption) ?_
            simp only [List.setIfInBounds_toArray, List.set_cons_zero, List.set_cons_succ]
            refine wpAnyH_ready (rs := [10]) (by kernel_rfl) (by simp) ?_
            refine AllReadyH.cons rfl (fun X hX => ?_) AllReadyH.nil
            rw [if_pos (by rfl)]
            go_simp
            refine (H2.out _).mono ?_
            rintro e w1 ⟨rfl, b1⟩
            go_wp2_with fail
            refine hX.out _ _ (Lib.hid (Below.step hH.out b1)) (fun hH2 => ?_)
            clear hX X hH b1
            have hH := hH2
            clear hH2
            refine takeW (i := 14) (d := 54) (v := .bool true) rfl rfl (by kernel_rfl) (by kernel_rfl) (by kernel_rfl) (fun _ _ _ h => h) (by rfl) (fun w' hSw => by go_simp) (by assumption) ?_
            simp only [List.setIfInBounds_toArray, List.set_cons_zero, List.set_cons_succ]
            refine skipW (i := 15) (d := 55) rfl rfl (by kernel_rfl) (by kernel_rfl) (by kernel_rfl) (fun _ _ _ h => h) (by rfl) (by assumption) ?_
            simp only [List.setIfInBounds_toArray, List.set_cons_zero, List.set_cons_succ]
            refine skipW (i := 16) (d := 56) rfl rfl (by kernel_rfl) (by kernel_rfl) (by kernel_rfl) (fun _ _ _ h => h) (by rfl) (by assumption) ?_
            simp only [List.setIfInBounds_toArray, List.set_cons_zero, List.set_cons_succ]
            refine skipW (i := 17) (d := 57) rfl rfl (by kernel_rfl) (by kernel_rfl) (by kernel_rfl) (fun _ _ _ h => h) (by rfl) (by assumption) ?_
            simp only [List.setIfInBounds_toArray, List.set_cons_zero, List.set_cons_succ]
            refine skipW (i := 18) (d := 58) rfl rfl (by kernel_rfl) (by kernel_rfl) (by kernel_rfl) (fun _ _ _ h => h) (by rfl) (by assumption) ?_
            simp only [List.setIfInBounds_toArray, List.set_cons_zero, List.set_cons_succ]
            refine skipW (i := 19) (d := 59) rfl rfl (by kernel_rfl) (by kernel_rfl) (by kernel_rfl) (fun _ _ _ h => h) (by rfl) (by assumption) ?_
            simp only [List.setIfInBounds_toArray, List.set_cons_zero, List.set_cons_succ]
            refine skipW (i := 20) (d := 60) rfl rfl (by kernel_rfl) (by kernel_rfl) (by kernel_rfl) (fun _ _ _ h => h) (by rfl) (by assumption) ?_
            simp only [List.setIfInBounds_toArray, List.set_cons_zero, List.set_cons_succ]
            refine skipW (i := 21) (d := 61) rfl rfl (by kernel_rfl) (by kernel_rfl) (by kernel_rfl) (fun _ _ _ h => h) (by rfl) (by assumption) ?_
            simp only [List.setIfInBounds_toArray, List.set_cons_zero, List.set_cons_succ]
            refine skipW (i := 22) (d := 62) rfl rfl (by kernel_rfl) (by kernel_rfl) (by kernel_rfl) (fun _ _ _ h => h) (by rfl) (by assumption) ?_
            simp only [List.setIfInBounds_toArray, List.set_cons_zero, List.set_cons_succ]
            refine takeW (i := 23) (d := 63) (v := .bool true) rfl rfl (by kernel_rfl) (by kernel_rfl) (by kernel_rfl) (fun _ _ _ h => h) (by rfl) (fun w' hSw => by go_simp) (by assumption) ?_
            simp only [List.setIfInBounds_toArray, List.set_cons_zero, List.set_cons_succ]
            refine takeW (i := 24) (d := 64) (v := .bool false) rfl rfl (by kernel_rfl) (by kernel_rfl) (by kernel_rfl) (fun _ _ _ h => h) (by rfl) (fun w' hSw => by go_simp) (by assumption) ?_
            simp only [List.setIfInBounds_toArray, List.set_cons_zero, List.set_cons_succ]
            refine takeW (i := 25) (d := 65) (v := .bool false) rfl rfl (by kernel_rfl) (by kernel_rfl) (by kernel_rfl) (fun _ _ _ h => h) (by rfl) (fun w' hSw => by go_simp) (by assumption) ?_
            simp only [List.setIfInBounds_toArray, List.set_cons_zero, List.set_cons_succ]
            refine takeW (i := 26) (d := 66) (v := .bool false) rfl rfl (by kernel_rfl) (by kernel_rfl) (by kernel_rfl) (fun _ _ _ h => h) (by rfl) (fun w' hSw => by go_simp) (by assumption) ?_
            simp only [List.setIfInBounds_toArray, List.set_cons_zero, List.set_cons_succ]
            refine takeW (i := 27) (d := 67) (v := .agg #[.int .u64 ((notW f) 0), .int .u64 ((notW f) 1), .int .u64 ((notW f) 2), .int .u64 ((notW f) 3)]) rfl rfl (by kernel_rfl) (by kernel_rfl) (by kernel_rfl) (fun _ _ _ h => h) (by rfl) (fun w' hSw => by have q := q13.out.after hSw.out; have c0 := q.c 0 (by omega); have c1 := q.c 1 (by omega); have c2 := q.c 2 (by omega); have c3 := q.c 3 (by omega); clear q; go_simp) (by assumption) ?_
            simp only [List.setIfInBounds_toArray, List.set_cons_zero, List.set_cons_succ]
            refine takeW (i := 28) (d := 68) (v := .int .u8 k) rfl rfl (by kernel_rfl) (by kernel_rfl) (by kernel_rfl) (fun _ _ _ h => h) (by rfl) (fun w' hSw => by go_simp) (by assumption) ?_
            simp only [List.setIfInBounds_toArray, List.set_cons_zero, List.set_cons_succ]
            refine takeW (i := 30) (d := 70) (v := .int .i64 k) rfl rfl (by kernel_rfl) (by kernel_rfl) (by kernel_rfl) (fun _ _ _ h => h) (by rfl) (fun w' hSw => by go_simp) (by assumption) ?_
            simp only [List.setIfInBounds_toArray, List.set_cons_zero, List.set_cons_succ]
            refine takeW (i := 31) (d := 71) (v := .pointer (some ⟨b9, k, none⟩)) rfl rfl (by kernel_rfl) (by kernel_rfl) (by kernel_rfl) (fun _ _ _ h => h) (by rfl) (fun w' hSw => by go_simp) (by assumption) ?_
            simp only [List.setIfInBounds_toArray, List.set_cons_zero, List.set_cons_succ]
            refine takeW (i := 32) (d := 72) (v := .bool true) rfl rfl (by kernel_rfl) (by kernel_rfl) (by kernel_rfl) (fun _ _ _ h => h) (by rfl) (fun w' hSw => by have c0 := (hxr.out.after hSw.out).c hgo; rw [← GX.out] at c0; go_simp) (by assumption) ?_
            simp only [List.setIfInBounds_toArray, List.set_cons_zero, List.set_cons_succ]
            refine wpAnyH_ready (rs := [29]) (by kernel_rfl) (by simp) ?_
            refine AllReadyH.cons rfl (fun X hX => ?_) AllReadyH.nil
            rw [if_pos (by rfl)]
            go_simp
            refine (H3.out _).mono ?_
            rintro e w1 ⟨rfl, b1⟩
            go_wp2_with fail
            refine hX.out _ _ (Lib.hid (Below.step hH.out b1)) (fun hH2 => ?_)
            clear hX X hH b1
            have hH := hH2
            clear hH2
            refine takeW (i := 33) (d := 73) (v := .bool false) rfl rfl (by kernel_rfl) (by kernel_rfl) (by kernel_rfl) (fun _ _ _ h => h) (by rfl) (fun w' hSw => by go_simp) (by assumption) ?_
            simp only [List.setIfInBounds_toArray, List.set_cons_zero, List.set_cons_succ]
            refine takeW (i := 34) (d := 74) (v := .bool false) rfl rfl (by kernel_rfl) (by kernel_rfl) (by kernel_rfl) (fun _ _ _ h => h) (by rfl) (fun w' hSw => by go_simp) (by assumption) ?_
            simp only [List.setIfInBounds_toArray, List.set_cons_zero, List.set_cons_succ]
            refine takeW (i := 35) (d := 75) (v := .bool false) rfl rfl (by kernel_rfl) (by kernel_rfl) (by kernel_rfl) (fun _ _ _ h => h) (by rfl) (fun w' hSw => by go_simp) (by assumption) ?_
            simp only [List.setIfInBounds_toArray, List.set_cons_zero, List.set_cons_succ]
            refine takeW (i := 36) (d := 76) (v := .agg #[.int .u64 ((orW f g) 0), .int .u64 ((orW f g) 1), .int .u64 ((orW f g) 2), .int .u64 ((orW f g) 3)]) rfl rfl (by kernel_rfl) (by kernel_rfl) (by kernel_rfl) (fun _ _ _ h => h) (by rfl) (fun w' hSw => by have q := q14.out.after hSw.out; have c0 := q.c 0 (by omega); have c1 := q.c 1 (by omega); have c2 := q.c 2 (by omega); have c3 := q.c 3 (by omega); clear q; go_simp) (by assumption) ?_
            simp only [List.setIfInBounds_toArray, List.set_cons_zero, List.set_cons_succ]
            refine takeW (i := 37) (d := 77) (v := .int .u8 k) rfl rfl (by kernel_rfl) (by kernel_rfl) (by kernel_rfl) (fun _ _ _ h => h) (by rfl) (fun w' hSw => by go_simp) (by assumption) ?_
            simp only [List.setIfInBounds_toArray, List.set_cons_zero, List.set_cons_succ]
            refine takeW (i := 39) (d := 79) (v := .int .i64 k) rfl rfl (by kernel_rfl) (by kernel_rfl) (by kernel_rfl) (fun _ _ _ h => h) (by rfl) (fun w' hSw => by go_simp) (by assumption) ?_
            simp only [List.setIfInBounds_toArray, List.set_cons_zero, List.set_cons_succ]
            refine takeW (i := 40) (d := 80) (v := .pointer (some ⟨b9, k, none⟩)) rfl rfl (by kernel_rfl) (by kernel_rfl) (by kernel_rfl) (fun _ _ _ h => h) (by rfl) (fun w' hSw => by go_simp) (by assumption) ?_
            simp only [List.setIfInBounds_toArray, List.set_cons_zero, List.set_cons_succ]
            refine takeW (i := 41) (d := 81) (v := .bool true) rfl rfl (by kernel_rfl) (by kernel_rfl) (by kernel_rfl) (fun _ _ _ h => h) (by rfl) (fun w' hSw => by have c0 := (hxr.out.after hSw.out).c hgo; rw [← GX.out] at c0; go_simp) (by assumption) ?_
            simp only [List.setIfInBounds_toArray, List.set_cons_zero, List.set_cons_succ]
            refine wpAnyH_ready (rs := [38]) (by kernel_rfl) (by simp) ?_
            refine AllReadyH.cons rfl (fun X hX => ?_) AllReadyH.nil
            rw [if_pos (by rfl)]
            go_simp
            refine (H4.out _).mono ?_
            rintro e w1 ⟨rfl, b1⟩
            go_wp2_with fail
            refine hX.out _ _ (Lib.hid (Below.step hH.out b1)) (fun hH2 => ?_)
            clear hX X hH b1
            have hH := hH2
            clear hH2
            refine takeW (i := 42) (d := 82) (v := .bool true) rfl rfl (by kernel_rfl) (by kernel_rfl) (by kernel_rfl) (fun _ _ _ h => h) (by rfl) (fun w' hSw => by go_simp) (by assumption) ?_
            simp only [List.setIfInBounds_toArray, List.set_cons_zero, List.set_cons_succ]
            refine skipW (i := 43) (d := 83) rfl rfl (by kernel_rfl) (by kernel_rfl) (by kernel_rfl) (fun _ _ _ h => h) (by rfl) (by assumption) ?_
            simp only [List.setIfInBounds_toArray, List.set_cons_zero, List.set_cons_succ]
            refine skipW (i := 44) (d := 84) rfl rfl (by kernel_rfl) (by kernel_rfl) (by kernel_rfl) (fun _ _ _ h => h) (by rfl) (by assumption) ?_
            simp only [List.setIfInBounds_toArray, List.set_cons_zero, List.set_cons_succ]
            refine skipW (i := 45) (d := 85) rfl rfl (by kernel_rfl) (by kernel_rfl) (by kernel_rfl) (fun _ _ _ h => h) (by rfl) (by assumption) ?_
            simp only [List.setIfInBounds_toArray, List.set_cons_zero, List.set_cons_succ]
            refine takeW (i := 46) (d := 86) (v := .bool true) rfl rfl (by kernel_rfl) (by kernel_rfl) (by kernel_rfl) (fun _ _ _ h => h) (by rfl) (fun w' hSw => by go_simp) (by assumption) ?_
            simp only [List.setIfInBounds_toArray, List.set_cons_zero, List.set_cons_succ]
            refine takeW (i := 47) (d := 87) (v := .bool false) rfl rfl (by kernel_rfl) (by kernel_rfl) (by kernel_rfl) (fun _ _ _ h => h) (by rfl) (fun w' hSw => by go_simp) (by assumption) ?_
            simp only [List.setIfInBounds_toArray, List.set_cons_zero, List.set_cons_succ]
            refine takeW (i := 48) (d := 88) (v := .bool false) rfl rfl (by kernel_rfl) (by kernel_rfl) (by kernel_rfl) (fun _ _ _ h => h) (by rfl) (fun w' hSw => by go_simp) (by assumption) ?_
            simp only [List.setIfInBounds_toArray, List.set_cons_zero, List.set_cons_succ]
            refine wpAnyH_done (by kernel_rfl) ?_ _
            have cx := (hxr.out.after hH.out).c hgo
            rw [← GX.out] at cx
            have HB2 := Lib.hid (hb.out.trans (hH.out.mono hb.out.size))
            clear hH
            go_wp2_with fail
            go_roundw
            case rel => exact ⟨k + 1, by rw [HCN.out]; go_num, by go_num, by omega, HB2⟩
            case measure => simp [intOf]; omega
          · obtain ⟨q, hq⟩ : ∃ q, q = decide (k ≤ tb) := ⟨_, rfl⟩
            have hqi : decide ((k : Int) ≤ tb) = q := by rw [hq]; exact decide_eq_decide.2 (by omega)
            have e2 : (false || (decide (fb ≤ k) && decide (k < tb + 1))) = q := by rw [hq, Bool.false_or, decide_eq_true (show fb ≤ k by omega), Bool.true_and]; exact decide_eq_decide.2 (by omega)
            rw [e2] at H2
            rw [show (false || by_) = by_ from Bool.false_or _] at H4
            rw [show (!false) = true from rfl] at H3
            have hqn : decide (k ≤ tb) = q := hq.symm
            have hgen : fb ≤ k := by omega
            clear hq e2
            refine wp_region_held_drew (S := fun w' => Hid (Below wr.heap.size wr w')) (by kernel_rfl) (Lib.hid (below_drew _)) (fun hH => ?_)
            refine takeW (i := 0) (d := 40) (v := .agg #[.int .u64 (f 0), .int .u64 (f 1), .int .u64 (f 2), .int .u64 (f 3)]) rfl rfl (by kernel_rfl) (by kernel_rfl) (by kernel_rfl) (fun _ _ _ h => h) (by rfl) (fun w' hSw => by have q := q0r.out.after hSw.out; have c0 := q.c 0 (by omega); have c1 := q.c 1 (by omega); have c2 := q.c 2 (by omega); have c3 := q.c 3 (by omega); clear q; go_simp) (by assumption) ?_
            simp only [List.setIfInBounds_toArray, List.set_cons_zero, List.set_cons_succ]
            refine takeW (i := 1) (d := 41) (v := .int .u8 k) rfl rfl (by kernel_rfl) (by kernel_rfl) (by kernel_rfl) (fun _ _ _ h => h) (by rfl) (fun w' hSw => by go_simp) (by assumption) ?_
            simp only [List.setIfInBounds_toArray, List.set_cons_zero, List.set_cons_succ]
            refine takeW (i := 3) (d := 43) (v := .int .i64 k) rfl rfl (by kernel_rfl) (by kernel_rfl) (by kernel_rfl) (fun _ _ _ h => h) (by rfl) (fun w' hSw => by go_simp) (by assumption) ?_
            simp only [List.setIfInBounds_toArray, List.set_cons_zero, List.set_cons_succ]
            refine takeW (i := 4) (d := 44) (v := .pointer (some ⟨b9, k, none⟩)) rfl rfl (by kernel_rfl) (by kernel_rfl) (by kernel_rfl) (fun _ _ _ h => h) (by rfl) (fun w' hSw => by go_simp) (by assumption) ?_
            simp only [List.setIfInBounds_toArray, List.set_cons_zero, List.set_cons_succ]
            refine takeW (i := 5) (d := 45) (v := .bool false) rfl rfl (by kernel_rfl) (by kernel_rfl) (by kernel_rfl) (fun _ _ _ h => h) (by rfl) (fun w' hSw => by have c0 := (hxr.out.after hSw.out).c hgo; rw [← GX.out] at c0; go_simp) (by assumption) ?_
            simp only [List.setIfInBounds_toArray, List.set_cons_zero, List.set_cons_succ]
            refine wpAnyH_ready (rs := [2]) (by kernel_rfl) (by simp) ?_
            refine AllReadyH.cons rfl (fun X hX => ?_) AllReadyH.nil
            rw [if_pos (by rfl)]
            go_simp
            refine (H1.out _).mono ?_
            rintro e w1 ⟨rfl, b1⟩
            go_wp2_with fail
            refine hX.out _ _ (Lib.hid (Below.step hH.out b1)) (fun hH2 => ?_)
            clear hX X hH b1
            have hH := hH2
            clear hH2
            refine takeW (i := 6) (d := 46) (v := .bool false) rfl rfl (by kernel_rfl) (by kernel_rfl) (by kernel_rfl) (fun _ _ _ h => h) (by rfl) (fun w' hSw => by go_simp) (by assumption) ?_
            simp only [List.setIfInBounds_toArray, List.set_cons_zero, List.set_cons_succ]
            refine takeW (i := 7) (d := 47) (v := .bool false) rfl rfl (by kernel_rfl) (by kernel_rfl) (by kernel_rfl) (fun _ _ _ h => h) (by rfl) (fun w' hSw => by go_simp) (by assumption) ?_
            simp only [List.setIfInBounds_toArray, List.set_cons_zero, List.set_cons_succ]
            refine takeW (i := 8) (d := 48) (v := .agg #[.int .u64 (h 0), .int .u64 (h 1), .int .u64 (h 2), .int .u64 (h 3)]) rfl rfl (by kernel_rfl) (by kernel_rfl) (by kernel_rfl) (fun _ _ _ h => h) (by rfl) (fun w' hSw => by have q := q12.out.after hSw.out; have c0 := q.c 0 (by omega); have c1 := q.c 1 (by omega); have c2 := q.c 2 (by omega); have c3 := q.c 3 (by omega); clear q; go_simp) (by assumption) ?_
            simp only [List.setIfInBounds_toArray, List.set_cons_zero, List.set_cons_succ]
            refine takeW (i := 9) (d := 49) (v := .int .u8 k) rfl rfl (by kernel_rfl) (by kernel_rfl) (by kernel_rfl) (fun _ _ _ h => h) (by rfl) (fun w' hSw => by go_simp) (by assumption) ?_
            simp only [List.setIfInBounds_toArray, List.set_cons_zero, List.set_cons_succ]
            refine takeW (i := 11) (d := 51) (v := .int .i64 k) rfl rfl (by kernel_rfl) (by kernel_rfl) (by kernel_rfl) (fun _ _ _ h => h) (by rfl) (fun w' hSw => by go_simp) (by assumption) ?_
            simp only [List.setIfInBounds_toArray, List.set_cons_zero, List.set_cons_succ]
            refine takeW (i := 12) (d := 52) (v := .pointer (some ⟨b9, k, none⟩)) rfl rfl (by kernel_rfl) (by kernel_rfl) (by kernel_rfl) (fun _ _ _ h => h) (by rfl) (fun w' hSw => by go_simp) (by assumption) ?_
            simp only [List.setIfInBounds_toArray, List.set_cons_zero, List.set_cons_succ]
            refine takeW (i := 13) (d := 53) (v := .bool false) rfl rfl (by kernel_rfl) (by kernel_rfl) (by kernel_rfl) (fun _ _ _ h => h) (by rfl) (fun w' hSw => by have c0 := (hxr.out.after hSw.out).c hgo; rw [← GX.out] at c0; go_simp) (by assumption) ?_
            simp only [List.setIfInBounds_toArray, List.set_cons_zero, List.set_cons_succ]
            refine wpAnyH_ready (rs := [10]) (by kernel_rfl) (by simp) ?_
            refine AllReadyH.cons rfl (fun X hX => ?_) AllReadyH.nil
            rw [if_pos (by rfl)]
            go_simp
            refine (H2.out _).mono ?_
            rintro e w1 ⟨rfl, b1⟩
            go_wp2_with fail
            refine hX.out _ _ (Lib.hid (Below.step hH.out b1)) (fun hH2 => ?_)
            clear hX X hH b1
            have hH := hH2
            clear hH2
            refine takeW (i := 14) (d := 54) (v := .bool false) rfl rfl (by kernel_rfl) (by kernel_rfl) (by kernel_rfl) (fun _ _ _ h => h) (by rfl) (fun w' hSw => by go_simp) (by assumption) ?_
            simp only [List.setIfInBounds_toArray, List.set_cons_zero, List.set_cons_succ]
            refine takeW (i := 15) (d := 55) (v := .int .u8 k) rfl rfl (by kernel_rfl) (by kernel_rfl) (by kernel_rfl) (fun _ _ _ h => h) (by rfl) (fun w' hSw => by go_simp) (by assumption) ?_
            simp only [List.setIfInBounds_toArray, List.set_cons_zero, List.set_cons_succ]
            refine takeW (i := 16) (d := 56) (v := .int .u8 fb) rfl rfl (by kernel_rfl) (by kernel_rfl) (by kernel_rfl) (fun _ _ _ h => h) (by rfl) (fun w' hSw => by go_simp) (by assumption) ?_
            simp only [List.setIfInBounds_toArray, List.set_cons_zero, List.set_cons_succ]
            refine takeW (i := 17) (d := 57) (v := .bool true) rfl rfl (by kernel_rfl) (by kernel_rfl) (by kernel_rfl) (fun _ _ _ h => h) (by rfl) (fun w' hSw => by go_simp) (by assumption) ?_
            simp only [List.setIfInBounds_toArray, List.set_cons_zero, List.set_cons_succ]
            refine takeW (i := 18) (d := 58) (v := .bool true) rfl rfl (by kernel_rfl) (by kernel_rfl) (by kernel_rfl) (fun _ _ _ h => h) (by rfl) (fun w' hSw => by go_simp) (by assumption) ?_
            simp only [List.setIfInBounds_toArray, List.set_cons_zero, List.set_cons_succ]
            refine takeW (i := 19) (d := 59) (v := .int .u8 k) rfl rfl (by kernel_rfl) (by kernel_rfl) (by kernel_rfl) (fun _ _ _ h => h) (by rfl) (fun w' hSw => by go_simp) (by assumption) ?_
            simp only [List.setIfInBounds_toArray, List.set_cons_zero, List.set_cons_succ]
            refine takeW (i := 20) (d := 60) (v := .int .u8 tb) rfl rfl (by kernel_rfl) (by kernel_rfl) (by kernel_rfl) (fun _ _ _ h => h) (by rfl) (fun w' hSw => by go_simp) (by assumption) ?_
            simp only [List.setIfInBounds_toArray, List.set_cons_zero, List.set_cons_succ]
            refine takeW (i := 21) (d := 61) (v := .bool q) rfl rfl (by kernel_rfl) (by kernel_rfl) (by kernel_rfl) (fun _ _ _ h => h) (by rfl) (fun w' hSw => by go_simp) (by assumption) ?_
            simp only [List.setIfInBounds_toArray, List.set_cons_zero, List.set_cons_succ]
            refine takeW (i := 22) (d := 62) (v := .bool q) rfl rfl (by kernel_rfl) (by kernel_rfl) (by kernel_rfl) (fun _ _ _ h => h) (by rfl) (fun w' hSw => by go_simp) (by assumption) ?_
            simp only [List.setIfInBounds_toArray, List.set_cons_zero, List.set_cons_succ]
            refine takeW (i := 23) (d := 63) (v := .bool q) rfl rfl (by kernel_rfl) (by kernel_rfl) (by kernel_rfl) (fun _ _ _ h => h) (by rfl) (fun w' hSw => by go_simp) (by assumption) ?_
            simp only [List.setIfInBounds_toArray, List.set_cons_zero, List.set_cons_succ]
            refine takeW (i := 24) (d := 64) (v := .bool false) rfl rfl (by kernel_rfl) (by kernel_rfl) (by kernel_rfl) (fun _ _ _ h => h) (by rfl) (fun w' hSw => by go_simp) (by assumption) ?_
            simp only [List.setIfInBounds_toArray, List.set_cons_zero, List.set_cons_succ]
            refine takeW (i := 25) (d := 65) (v := .bool false) rfl rfl (by kernel_rfl) (by kernel_rfl) (by kernel_rfl) (fun _ _ _ h => h) (by rfl) (fun w' hSw => by go_simp) (by assumption) ?_
            simp only [List.setIfInBounds_toArray, List.set_cons_zero, List.set_cons_succ]
            refine takeW (i := 26) (d := 66) (v := .bool false) rfl rfl (by kernel_rfl) (by kernel_rfl) (by kernel_rfl) (fun _ _ _ h => h) (by rfl) (fun w' hSw => by go_simp) (by assumption) ?_
            simp only [List.setIfInBounds_toArray, List.set_cons_zero, List.set_cons_succ]
            refine takeW (i := 27) (d := 67) (v := .agg #[.int .u64 ((notW f) 0), .int .u64 ((notW f) 1), .int .u64 ((notW f) 2), .int .u64 ((notW f) 3)]) rfl rfl (by kernel_rfl) (by kernel_rfl) (by kernel_rfl) (fun _ _ _ h => h) (by rfl) (fun w' hSw => by have q := q13.out.after hSw.out; have c0 := q.c 0 (by omega); have c1 := q.c 1 (by omega); have c2 := q.c 2 (by omega); have c3 := q.c 3 (by omega); clear q; go_simp) (by assumption) ?_
            simp only [List.setIfInBounds_toArray, List.set_cons_zero, List.set_cons_succ]
            refine takeW (i := 28) (d := 68) (v := .int .u8 k) rfl rfl (by kernel_rfl) (by kernel_rfl) (by kernel_rfl) (fun _ _ _ h => h) (by rfl) (fun w' hSw => by go_simp) (by assumption) ?_
            simp only [List.setIfInBounds_toArray, List.set_cons_zero, List.set_cons_succ]
            refine takeW (i := 30) (d := 70) (v := .int .i64 k) rfl rfl (by kernel_rfl) (by kernel_rfl) (by kernel_rfl) (fun _ _ _ h => h) (by rfl) (fun w' hSw => by go_simp) (by assumption) ?_
            simp only [List.setIfInBounds_toArray, List.set_cons_zero, List.set_cons_succ]
            refine takeW (i := 31) (d := 71) (v := .pointer (some ⟨b9, k, none⟩)) rfl rfl (by kernel_rfl) (by kernel_rfl) (by kernel_rfl) (fun _ _ _ h => h) (by rfl) (fun w' hSw => by go_simp) (by assumption) ?_
            simp only [List.setIfInBounds_toArray, List.set_cons_zero, List.set_cons_succ]
            refine takeW (i := 32) (d := 72) (v := .bool false) rfl rfl (by kernel_rfl) (by kernel_rfl) (by kernel_rfl) (fun _ _ _ h => h) (by rfl) (fun w' hSw => by have c0 := (hxr.out.after hSw.out).c hgo; rw [← GX.out] at c0; go_simp) (by assumption) ?_
            simp only [List.setIfInBounds_toArray, List.set_cons_zero, List.set_cons_succ]
            refine wpAnyH_ready (rs := [29]) (by kernel_rfl) (by simp) ?_
            refine AllReadyH.cons rfl (fun X hX => ?_) AllReadyH.nil
            rw [if_pos (by rfl)]
            go_simp
            refine (H3.out _).mono ?_
            rintro e w1 ⟨rfl, b1⟩
            go_wp2_with fail
            refine hX.out _ _ (Lib.hid (Below.step hH.out b1)) (fun hH2 => ?_)
            clear hX X hH b1
            have hH := hH2
            clear hH2
            refine takeW (i := 33) (d := 73) (v := .bool false) rfl rfl (by kernel_rfl) (by kernel_rfl) (by kernel_rfl) (fun _ _ _ h => h) (by rfl) (fun w' hSw => by go_simp) (by assumption) ?_
            simp only [List.setIfInBounds_toArray, List.set_cons_zero, List.set_cons_succ]
            refine takeW (i := 34) (d := 74) (v := .bool false) rfl rfl (by kernel_rfl) (by kernel_rfl) (by kernel_rfl) (fun _ _ _ h => h) (by rfl) (fun w' hSw => by go_simp) (by assumption) ?_
            simp only [List.setIfInBounds_toArray, List.set_cons_zero, List.set_cons_succ]
            refine takeW (i := 35) (d := 75) (v := .bool false) rfl rfl (by kernel_rfl) (by kernel_rfl) (by kernel_rfl) (fun _ _ _ h => h) (by rfl) (fun w' hSw => by go_simp) (by assumption) ?_
            simp only [List.setIfInBounds_toArray, List.set_cons_zero, List.set_cons_succ]
            refine takeW (i := 36) (d := 76) (v := .agg #[.int .u64 ((orW f g) 0), .int .u64 ((orW f g) 1), .int .u64 ((orW f g) 2), .int .u64 ((orW f g) 3)]) rfl rfl (by kernel_rfl) (by kernel_rfl) (by kernel_rfl) (fun _ _ _ h => h) (by rfl) (fun w' hSw => by have q := q14.out.after hSw.out; have c0 := q.c 0 (by omega); have c1 := q.c 1 (by omega); have c2 := q.c 2 (by omega); have c3 := q.c 3 (by omega); clear q; go_simp) (by assumption) ?_
            simp only [List.setIfInBounds_toArray, List.set_cons_zero, List.set_cons_succ]
            refine takeW (i := 37) (d := 77) (v := .int .u8 k) rfl rfl (by kernel_rfl) (by kernel_rfl) (by kernel_rfl) (fun _ _ _ h => h) (by rfl) (fun w' hSw => by go_simp) (by assumption) ?_
            simp only [List.setIfInBounds_toArray, List.set_cons_zero, List.set_cons_succ]
            refine takeW (i := 39) (d := 79) (v := .int .i64 k) rfl rfl (by kernel_rfl) (by kernel_rfl) (by kernel_rfl) (fun _ _ _ h => h) (by rfl) (fun w' hSw => by go_simp) (by assumption) ?_
            simp only [List.setIfInBounds_toArray, List.set_cons_zero, List.set_cons_succ]
            refine takeW (i := 40) (d := 80) (v := .pointer (some ⟨b9, k, none⟩)) rfl rfl (by kernel_rfl) (by kernel_rfl) (by kernel_rfl) (fun _ _ _ h => h) (by rfl) (fun w' hSw => by go_simp) (by assumption) ?_
            simp only [List.setIfInBounds_toArray, List.set_cons_zero, List.set_cons_succ]
            refine takeW (i := 41) (d := 81) (v := .bool false) rfl rfl (by kernel_rfl) (by kernel_rfl) (by kernel_rfl) (fun _ _ _ h => h) (by rfl) (fun w' hSw => by have c0 := (hxr.out.after hSw.out).c hgo; rw [← GX.out] at c0; go_simp) (by assumption) ?_
            simp only [List.setIfInBounds_toArray, List.set_cons_zero, List.set_cons_succ]
            refine wpAnyH_ready (rs := [38]) (by kernel_rfl) (by simp) ?_
            refine AllReadyH.cons rfl (fun X hX => ?_) AllReadyH.nil
            rw [if_pos (by rfl)]
            go_simp
            refine (H4.out _).mono ?_
            rintro e w1 ⟨rfl, b1⟩
            go_wp2_with fail
            refine hX.out _ _ (Lib.hid (Below.step hH.out b1)) (fun hH2 => ?_)
            clear hX X hH b1
            have hH := hH2
            clear hH2
            refine takeW (i := 42) (d := 82) (v := .bool false) rfl rfl (by kernel_rfl) (by kernel_rfl) (by kernel_rfl) (fun _ _ _ h => h) (by rfl) (fun w' hSw => by go_simp) (by assumption) ?_
            simp only [List.setIfInBounds_toArray, List.set_cons_zero, List.set_cons_succ]
            refine takeW (i := 43) (d := 83) (v := .int .i64 k) rfl rfl (by kernel_rfl) (by kernel_rfl) (by kernel_rfl) (fun _ _ _ h => h) (by rfl) (fun w' hSw => by go_simp) (by assumption) ?_
            simp only [List.setIfInBounds_toArray, List.set_cons_zero, List.set_cons_succ]
            refine takeW (i := 44) (d := 84) (v := .pointer (some ⟨b10, k, none⟩)) rfl rfl (by kernel_rfl) (by kernel_rfl) (by kernel_rfl) (fun _ _ _ h => h) (by rfl) (fun w' hSw => by go_simp) (by assumption) ?_
            simp only [List.setIfInBounds_toArray, List.set_cons_zero, List.set_cons_succ]
            refine takeW (i := 45) (d := 85) (v := .bool by_) rfl rfl (by kernel_rfl) (by kernel_rfl) (by kernel_rfl) (fun _ _ _ h => h) (by rfl) (fun w' hSw => by have c0 := (hyr.out.after hSw.out).c hgo; rw [← GY.out] at c0; go_simp) (by assumption) ?_
            simp only [List.setIfInBounds_toArray, List.set_cons_zero, List.set_cons_succ]
            refine takeW (i := 46) (d := 86) (v := .bool by_) rfl rfl (by kernel_rfl) (by kernel_rfl) (by kernel_rfl) (fun _ _ _ h => h) (by rfl) (fun w' hSw => by go_simp) (by assumption) ?_
            simp only [List.setIfInBounds_toArray, List.set_cons_zero, List.set_cons_succ]
            refine takeW (i := 47) (d := 87) (v := .bool false) rfl rfl (by kernel_rfl) (by kernel_rfl) (by kernel_rfl) (fun _ _ _ h => h) (by rfl) (fun w' hSw => by go_simp) (by assumption) ?_
            simp only [List.setIfInBounds_toArray, List.set_cons_zero, List.set_cons_succ]
            refine takeW (i := 48) (d := 88) (v := .bool false) rfl rfl (by kernel_rfl) (by kernel_rfl) (by kernel_rfl) (fun _ _ _ h => h) (by rfl) (fun w' hSw => by go_simp) (by assumption) ?_
            simp only [List.setIfInBounds_toArray, List.set_cons_zero, List.set_cons_succ]
            refine wpAnyH_done (by kernel_rfl) ?_ _
            have cx := (hxr.out.after hH.out).c hgo
            rw [← GX.out] at cx
            have HB2 := Lib.hid (hb.out.trans (hH.out.mono hb.out.size))
            clear hH
            go_wp2_with fail
            go_roundw
            case rel => exact ⟨k + 1, by rw [HCN.out]; go_num, by go_num, by omega, HB2⟩
            case measure => simp [intOf]; omega
          · have e2 : (false || (decide (fb ≤ k) && decide (k < tb + 1))) = false := by rw [Bool.false_or, decide_eq_false (show ¬ fb ≤ k by omega), Bool.false_and]
            rw [e2] at H2
            rw [show (false || by_) = by_ from Bool.false_or _] at H4
            rw [show (!false) = true from rfl] at H3
            have hltn : k < fb := by omega
            clear e2
            refine wp_region_held_drew (S := fun w' => Hid (Below wr.heap.size wr w')) (by kernel_rfl) (Lib.hid (below_drew _)) (fun hH => ?_)
            refine takeW (i := 0) (d := 40) (v := .agg #[.int .u64 (f 0), .int .u64 (f 1), .int .u64 (f 2), .int .u64 (f 3)]) rfl rfl (by kernel_rfl) (by kernel_rfl) (by kernel_rfl) (fun _ _ _ h => h) (by rfl) (fun w' hSw => by have q := q0r.out.after hSw.out; have c0 := q.c 0 (by omega); have c1 := q.c 1 (by omega); have c2 := q.c 2 (by omega); have c3 := q.c 3 (by omega); clear q; go_simp) (by assumption) ?_
            simp only [List.setIfInBounds_toArray, List.set_cons_zero, List.set_cons_succ]
            refine takeW (i := 1) (d := 41) (v := .int .u8 k) rfl rfl (by kernel_rfl) (by kernel_rfl) (by kernel_rfl) (fun _ _ _ h => h) (by rfl) (fun w' hSw => by go_simp) (by assumption) ?_
            simp only [List.setIfInBounds_toArray, List.set_cons_zero, List.set_cons_succ]
            refine takeW (i := 3) (d := 43) (v := .int .i64 k) rfl rfl (by kernel_rfl) (by kernel_rfl) (by kernel_rfl) (fun _ _ _ h => h) (by rfl) (fun w' hSw => by go_simp) (by assumption) ?_
            simp only [List.setIfInBounds_toArray, List.set_cons_zero, List.set_cons_succ]
            refine takeW (i := 4) (d := 44) (v := .pointer (some ⟨b9, k, none⟩)) rfl rfl (by kernel_rfl) (by kernel_rfl) (by kernel_rfl) (fun _ _ _ h => h) (by rfl) (fun w' hSw => by go_simp) (by assumption) ?_
            simp only [List.setIfInBounds_toArray, List.set_cons_zero, List.set_cons_succ]
            refine takeW (i := 5) (d := 45) (v := .bool false) rfl rfl (by kernel_rfl) (by kernel_rfl) (by kernel_rfl) (fun _ _ _ h => h) (by rfl) (fun w' hSw => by have c0 := (hxr.out.after hSw.out).c hgo; rw [← GX.out] at c0; go_simp) (by assumption) ?_
            simp only [List.setIfInBounds_toArray, List.set_cons_zero, List.set_cons_succ]
            refine wpAnyH_ready (rs := [2]) (by kernel_rfl) (by simp) ?_
            refine AllReadyH.cons rfl (fun X hX => ?_) AllReadyH.nil
            rw [if_pos (by rfl)]
            go_simp
            refine (H1.out _).mono ?_
            rintro e w1 ⟨rfl, b1⟩
            go_wp2_with fail
            refine hX.out _ _ (Lib.hid (Below.step hH.out b1)) (fun hH2 => ?_)
            clear hX X hH b1
            have hH := hH2
            clear hH2
            refine takeW (i := 6) (d := 46) (v := .bool false) rfl rfl (by kernel_rfl) (by kernel_rfl) (by kernel_rfl) (fun _ _ _ h => h) (by rfl) (fun w' hSw => by go_simp) (by assumption) ?_
            simp only [List.setIfInBounds_toArray, List.set_cons_zero, List.set_cons_succ]
            refine takeW (i := 7) (d := 47) (v := .bool false) rfl rfl (by kernel_rfl) (by kernel_rfl) (by kernel_rfl) (fun _ _ _ h => h) (by rfl) (fun w' hSw => by go_simp) (by assumption) ?_
            simp only [List.setIfInBounds_toArray, List.set_cons_zero, List.set_cons_succ]
            refine takeW (i := 8) (d := 48) (v := .agg #[.int .u64 (h 0), .int .u64 (h 1), .int .u64 (h 2), .int .u64 (h 3)]) rfl rfl (by kernel_rfl) (by kernel_rfl) (by kernel_rfl) (fun _ _ _ h => h) (by rfl) (fun w' hSw => by have q := q12.out.after hSw.out; have c0 := q.c 0 (by omega); have c1 := q.c 1 (by omega); have c2 := q.c 2 (by omega); have c3 := q.c 3 (by omega); clear q; go_simp) (by assumption) ?_
            simp only [List.setIfInBounds_toArray, List.set_cons_zero, List.set_cons_succ]
            refine takeW (i := 9) (d := 49) (v := .int .u8 k) rfl rfl (by kernel_rfl) (by kernel_rfl) (by kernel_rfl) (fun _ _ _ h => h) (by rfl) (fun w' hSw => by go_simp) (by assumption) ?_
            simp only [List.setIfInBounds_toArray, List.set_cons_zero, List.set_cons_succ]
            refine takeW (i := 11) (d := 51) (v := .int .i64 k) rfl rfl (by kernel_rfl) (by kernel_rfl) (by kernel_rfl) (fun _ _ _ h => h) (by rfl) (fun w' hSw => by go_simp) (by assumption) ?_
            simp only [List.setIfInBounds_toArray, List.set_cons_zero, List.set_cons_succ]
            refine takeW (i := 12) (d := 52) (v := .pointer (some ⟨b9, k, none⟩)) rfl rfl (by kernel_rfl) (by kernel_rfl) (by kernel_rfl) (fun _ _ _ h => h) (by rfl) (fun w' hSw => by go_simp) (by assumption) ?_
            simp only [List.setIfInBounds_toArray, List.set_cons_zero, List.set_cons_succ]
            refine takeW (i := 13) (d := 53) (v := .bool false) rfl rfl (by kernel_rfl) (by kernel_rfl) (by kernel_rfl) (fun _ _ _ h => h) (by rfl) (fun w' hSw => by have c0 := (hxr.out.after hSw.out).c hgo; rw [← GX.out] at c0; go_simp) (by assumption) ?_
            simp only [List.setIfInBounds_toArray, List.set_cons_zero, List.set_cons_succ]
            refine wpAnyH_ready (rs := [10]) (by kernel_rfl) (by simp) ?_
            refine AllReadyH.cons rfl (fun X hX => ?_) AllReadyH.nil
            rw [if_pos (by rfl)]
            go_simp
            refine (H2.out _).mono ?_
            rintro e w1 ⟨rfl, b1⟩
            go_wp2_with fail
            refine hX.out _ _ (Lib.hid (Below.step hH.out b1)) (fun hH2 => ?_)
            clear hX X hH b1
            have hH := hH2
            clear hH2
            refine takeW (i := 14) (d := 54) (v := .bool false) rfl rfl (by kernel_rfl) (by kernel_rfl) (by kernel_rfl) (fun _ _ _ h => h) (by rfl) (fun w' hSw => by go_simp) (by assumption) ?_
            simp only [List.setIfInBounds_toArray, List.set_cons_zero, List.set_cons_succ]
            refine takeW (i := 15) (d := 55) (v := .int .u8 k) rfl rfl (by kernel_rfl) (by kernel_rfl) (by kernel_rfl) (fun _ _ _ h => h) (by rfl) (fun w' hSw => by go_simp) (by assumption) ?_
            simp only [List.setIfInBounds_toArray, List.set_cons_zero, List.set_cons_succ]
            refine takeW (i := 16) (d := 56) (v := .int .u8 fb) rfl rfl (by kernel_rfl) (by kernel_rfl) (by kernel_rfl) (fun _ _ _ h => h) (by rfl) (fun w' hSw => by go_simp) (by assumption) ?_
            simp only [List.setIfInBounds_toArray, List.set_cons_zero, List.set_cons_succ]
            refine takeW (i := 17) (d := 57) (v := .bool false) rfl rfl (by kernel_rfl) (by kernel_rfl) (by kernel_rfl) (fun _ _ _ h => h) (by rfl) (fun w' hSw => by go_simp) (by assumption) ?_
            simp only [List.setIfInBounds_toArray, List.set_cons_zero, List.set_cons_succ]
            refine takeW (i := 18) (d := 58) (v := .bool false) rfl rfl (by kernel_rfl) (by kernel_rfl) (by kernel_rfl) (fun _ _ _ h => h) (by rfl) (fun w' hSw => by go_simp) (by assumption) ?_
            simp only [List.setIfInBounds_toArray, List.set_cons_zero, List.set_cons_succ]
            refine skipW (i := 19) (d := 59) rfl rfl (by kernel_rfl) (by kernel_rfl) (by kernel_rfl) (fun _ _ _ h => h) (by rfl) (by assumption) ?_
            simp only [List.setIfInBounds_toArray, List.set_cons_zero, List.set_cons_succ]
            refine skipW (i := 20) (d := 60) rfl rfl (by kernel_rfl) (by kernel_rfl) (by kernel_rfl) (fun _ _ _ h => h) (by rfl) (by assumption) ?_
            simp only [List.setIfInBounds_toArray, List.set_cons_zero, List.set_cons_succ]
            refine skipW (i := 21) (d := 61) rfl rfl (by kernel_rfl) (by kernel_rfl) (by kernel_rfl) (fun _ _ _ h => h) (by rfl) (by assumption) ?_
            simp only [List.setIfInBounds_toArray, List.set_cons_zero, List.set_cons_succ]
            refine takeW (i := 22) (d := 62) (v := .bool false) rfl rfl (by kernel_rfl) (by kernel_rfl) (by kernel_rfl) (fun _ _ _ h => h) (by rfl) (fun w' hSw => by go_simp) (by assumption) ?_
            simp only [List.setIfInBounds_toArray, List.set_cons_zero, List.set_cons_succ]
            refine takeW (i := 23) (d := 63) (v := .bool false) rfl rfl (by kernel_rfl) (by kernel_rfl) (by kernel_rfl) (fun _ _ _ h => h) (by rfl) (fun w' hSw => by go_simp) (by assumption) ?_
            simp only [List.setIfInBounds_toArray, List.set_cons_zero, List.set_cons_succ]
            refine takeW (i := 24) (d := 64) (v := .bool false) rfl rfl (by kernel_rfl) (by kernel_rfl) (by kernel_rfl) (fun _ _ _ h => h) (by rfl) (fun w' hSw => by go_simp) (by assumption) ?_
            simp only [List.setIfInBounds_toArray, List.set_cons_zero, List.set_cons_succ]
            refine takeW (i := 25) (d := 65) (v := .bool false) rfl rfl (by kernel_rfl) (by kernel_rfl) (by kernel_rfl) (fun _ _ _ h => h) (by rfl) (fun w' hSw => by go_simp) (by assumption) ?_
            simp only [List.setIfInBounds_toArray, List.set_cons_zero, List.set_cons_succ]
            refine takeW (i := 26) (d := 66) (v := .bool false) rfl rfl (by kernel_rfl) (by kernel_rfl) (by kernel_rfl) (fun _ _ _ h => h) (by rfl) (fun w' hSw => by go_simp) (by assumption) ?_
            simp only [List.setIfInBounds_toArray, List.set_cons_zero, List.set_cons_succ]
            refine takeW (i := 27) (d := 67) (v := .agg #[.int .u64 ((notW f) 0), .int .u64 ((notW f) 1), .int .u64 ((notW f) 2), .int .u64 ((notW f) 3)]) rfl rfl (by kernel_rfl) (by kernel_rfl) (by kernel_rfl) (fun _ _ _ h => h) (by rfl) (fun w' hSw => by have q := q13.out.after hSw.out; have c0 := q.c 0 (by omega); have c1 := q.c 1 (by omega); have c2 := q.c 2 (by omega); have c3 := q.c 3 (by omega); clear q; go_simp) (by assumption) ?_
            simp only [List.setIfInBounds_toArray, List.set_cons_zero, List.set_cons_succ]
            refine takeW (i := 28) (d := 68) (v := .int .u8 k) rfl rfl (by kernel_rfl) (by kernel_rfl) (by kernel_rfl) (fun _ _ _ h => h) (by rfl) (fun w' hSw => by go_simp) (by assumption) ?_
            simp only [List.setIfInBounds_toArray, List.set_cons_zero, List.set_cons_succ]
            refine takeW (i := 30) (d := 70) (v := .int .i64 k) rfl rfl (by kernel_rfl) (by kernel_rfl) (by kernel_rfl) (fun _ _ _ h => h) (by rfl) (fun w' hSw => by go_simp) (by assumption) ?_
            simp only [List.setIfInBounds_toArray, List.set_cons_zero, List.set_cons_succ]
            refine takeW (i := 31) (d := 71) (v := .pointer (some ⟨b9, k, none⟩)) rfl rfl (by kernel_rfl) (by kernel_rfl) (by kernel_rfl) (fun _ _ _ h => h) (by rfl) (fun w' hSw => by go_simp) (by assumption) ?_
            simp only [List.setIfInBounds_toArray, List.set_cons_zero, List.set_cons_succ]
            refine takeW (i := 32) (d := 72) (v := .bool false) rfl rfl (by kernel_rfl) (by kernel_rfl) (by kernel_rfl) (fun _ _ _ h => h) (by rfl) (fun w' hSw => by have c0 := (hxr.out.after hSw.out).c hgo; rw [← GX.out] at c0; go_simp) (by assumption) ?_
            simp only [List.setIfInBounds_toArray, List.set_cons_zero, List.set_cons_succ]
            refine wpAnyH_ready (rs := [29]) (by kernel_rfl) (by simp) ?_
            refine AllReadyH.cons rfl (fun X hX => ?_) AllReadyH.nil
            rw [if_pos (by rfl)]
            go_simp
            refine (H3.out _).mono ?_
            rintro e w1 ⟨rfl, b1⟩
            go_wp2_with fail
            refine hX.out _ _ (Lib.hid (Below.step hH.out b1)) (fun hH2 => ?_)
            clear hX X hH b1
            have hH := hH2
            clear hH2
            refine takeW (i := 33) (d := 73) (v := .bool false) rfl rfl (by kernel_rfl) (by kernel_rfl) (by kernel_rfl) (fun _ _ _ h => h) (by rfl) (fun w' hSw => by go_simp) (by assumption) ?_
            simp only [List.setIfInBounds_toArray, List.set_cons_zero, List.set_cons_succ]
            refine takeW (i := 34) (d := 74) (v := .bool false) rfl rfl (by kernel_rfl) (by kernel_rfl) (by kernel_rfl) (fun _ _ _ h => h) (by rfl) (fun w' hSw => by go_simp) (by assumption) ?_
            simp only [List.setIfInBounds_toArray, List.set_cons_zero, List.set_cons_succ]
            refine takeW (i := 35) (d := 75) (v := .bool false) rfl rfl (by kernel_rfl) (by kernel_rfl) (by kernel_rfl) (fun _ _ _ h => h) (by rfl) (fun w' hSw => by go_simp) (by assumption) ?_
            simp only [List.setIfInBounds_toArray, List.set_cons_zero, List.set_cons_succ]
            refine takeW (i := 36) (d := 76) (v := .agg #[.int .u64 ((orW f g) 0), .int .u64 ((orW f g) 1), .int .u64 ((orW f g) 2), .int .u64 ((orW f g) 3)]) rfl rfl (by kernel_rfl) (by kernel_rfl) (by kernel_rfl) (fun _ _ _ h => h) (by rfl) (fun w' hSw => by have q := q14.out.after hSw.out; have c0 := q.c 0 (by omega); have c1 := q.c 1 (by omega); have c2 := q.c 2 (by omega); have c3 := q.c 3 (by omega); clear q; go_simp) (by assumption) ?_
            simp only [List.setIfInBounds_toArray, List.set_cons_zero, List.set_cons_succ]
            refine takeW (i := 37) (d := 77) (v := .int .u8 k) rfl rfl (by kernel_rfl) (by kernel_rfl) (by kernel_rfl) (fun _ _ _ h => h) (by rfl) (fun w' hSw => by go_simp) (by assumption) ?_
            simp only [List.setIfInBounds_toArray, List.set_cons_zero, List.set_cons_succ]
            refine takeW (i := 39) (d := 79) (v := .int .i64 k) rfl rfl (by kernel_rfl) (by kernel_rfl) (by kernel_rfl) (fun _ _ _ h => h) (by rfl) (fun w' hSw => by go_simp) (by assumption) ?_
            simp only [List.setIfInBounds_toArray, List.set_cons_zero, List.set_cons_succ]
            refine takeW (i := 40) (d := 80) (v := .pointer (some ⟨b9, k, none⟩)) rfl rfl (by kernel_rfl) (by kernel_rfl) (by kernel_rfl) (fun _ _ _ h => h) (by rfl) (fun w' hSw => by go_simp) (by assumption) ?_
            simp only [List.setIfInBounds_toArray, List.set_cons_zero, List.set_cons_succ]
            refine takeW (i := 41) (d := 81) (v := .bool false) rfl rfl (by kernel_rfl) (by kernel_rfl) (by kernel_rfl) (fun _ _ _ h => h) (by rfl) (fun w' hSw => by have c0 := (hxr.out.after hSw.out).c hgo; rw [← GX.out] at c0; go_simp) (by assumption) ?_
            simp only [List.setIfInBounds_toArray, List.set_cons_zero, List.set_cons_succ]
            refine wpAnyH_ready (rs := [38]) (by kernel_rfl) (by simp) ?_
            refine AllReadyH.cons rfl (fun X hX => ?_) AllReadyH.nil
            rw [if_pos (by rfl)]
            go_simp
            refine (H4.out _).mono ?_
            rintro e w1 ⟨rfl, b1⟩
            go_wp2_with fail
            refine hX.out _ _ (Lib.hid (Below.step hH.out b1)) (fun hH2 => ?_)
            clear hX X hH b1
            have hH := hH2
            clear hH2
            refine takeW (i := 42) (d := 82) (v := .bool false) rfl rfl (by kernel_rfl) (by kernel_rfl) (by kernel_rfl) (fun _ _ _ h => h) (by rfl) (fun w' hSw => by go_simp) (by assumption) ?_
            simp only [List.setIfInBounds_toArray, List.set_cons_zero, List.set_cons_succ]
            refine takeW (i := 43) (d := 83) (v := .int .i64 k) rfl rfl (by kernel_rfl) (by kernel_rfl) (by kernel_rfl) (fun _ _ _ h => h) (by rfl) (fun w' hSw => by go_simp) (by assumption) ?_
            simp only [List.setIfInBounds_toArray, List.set_cons_zero, List.set_cons_succ]
            refine takeW (i := 44) (d := 84) (v := .pointer (some ⟨b10, k, none⟩)) rfl rfl (by kernel_rfl) (by kernel_rfl) (by kernel_rfl) (fun _ _ _ h => h) (by rfl) (fun w' hSw => by go_simp) (by assumption) ?_
            simp only [List.setIfInBounds_toArray, List.set_cons_zero, List.set_cons_succ]
            refine takeW (i := 45) (d := 85) (v := .bool by_) rfl rfl (by kernel_rfl) (by kernel_rfl) (by kernel_rfl) (fun _ _ _ h => h) (by rfl) (fun w' hSw => by have c0 := (hyr.out.after hSw.out).c hgo; rw [← GY.out] at c0; go_simp) (by assumption) ?_
            simp only [List.setIfInBounds_toArray, List.set_cons_zero, List.set_cons_succ]
            refine takeW (i := 46) (d := 86) (v := .bool by_) rfl rfl (by kernel_rfl) (by kernel_rfl) (by kernel_rfl) (fun _ _ _ h => h) (by rfl) (fun w' hSw => by go_simp) (by assumption) ?_
            simp only [List.setIfInBounds_toArray, List.set_cons_zero, List.set_cons_succ]
            refine takeW (i := 47) (d := 87) (v := .bool false) rfl rfl (by kernel_rfl) (by kernel_rfl) (by kernel_rfl) (fun _ _ _ h => h) (by rfl) (fun w' hSw => by go_simp) (by assumption) ?_
            simp only [List.setIfInBounds_toArray, List.set_cons_zero, List.set_cons_succ]
            refine takeW (i := 48) (d := 88) (v := .bool false) rfl rfl (by kernel_rfl) (by kernel_rfl) (by kernel_rfl) (fun _ _ _ h => h) (by rfl) (fun w' hSw => by go_simp) (by assumption) ?_
            simp only [List.setIfInBounds_toArray, List.set_cons_zero, List.set_cons_succ]
            refine wpAnyH_done (by kernel_rfl) ?_ _
            have cx := (hxr.out.after hH.out).c hgo
            rw [← GX.out] at cx
            have HB2 := Lib.hid (hb.out.trans (hH.out.mono hb.out.size))
            clear hH
            go_wp2_with fail
            go_roundw
            case rel => exact ⟨k + 1, by rw [HCN.out]; go_num, by go_num, by omega, HB2⟩
            case measure => simp [intOf]; omega
        · obtain rfl : k = 256 := by omega
          have q0r := Lib.hid (q0.out.after hb.out); have q13 := Lib.hid (X13.out.after hb.out)
          obtain ⟨n, hn⟩ : ∃ n, n = cntTo f 256 := ⟨_, rfl⟩
          have hn2 : cntTo (notW f) 256 + n = 256 := by rw [hn]; exact cnt_not f (notW f) (fun c hc => bit_not f hf hc) 256 (Nat.le_refl _)
          have hnle : (n : Int) ≤ 256 := by omega
          have C1 := Lib.hid (HC.out f hf)
          have C2 := Lib.hid (HC.out (notW f) (fits_not f))
          rw [show ((cntTo (notW f) 256 : Nat) : Int) = 256 - (n : Int) from by omega] at C2
          rw [← hn] at C1 ⊢
          have N1 : Hid (∀ w, Calls Try.prog 8 #[.agg (words (notW f))] w fun e w' => e = .returned (.agg #[.int .u64 (f 0), .int .u64 (f 1), .int .u64 (f 2), .int .u64 (f 3)]) ∧ Below w.heap.size w w') := Lib.hid fun w => by
            have := HN.out (notW f) (fits_not f) w
            rw [not_not f hf] at this
            exact this
          clear hn hn2
          have hwn : IntKind.i64.wrap (256 - (n : Int)) = 256 - (n : Int) := by rw [IntKind.wrap_i64]; omega
          go_upto_region 12 with (fail)
          refine wp_region_held_drew (S := fun w' => Hid (Below wr.heap.size wr w')) (by kernel_rfl) (Lib.hid (below_drew _)) (fun hH => ?_)
          refine takeW (i := 0) (d := 94) (v := .agg #[.int .u64 (f 0), .int .u64 (f 1), .int .u64 (f 2), .int .u64 (f 3)]) rfl rfl (by kernel_rfl) (by kernel_rfl) (by kernel_rfl) (fun _ _ _ h => h) (by rfl) (fun w' hSw => by have q := q0r.out.after hSw.out; have c0 := q.c 0 (by omega); have c1 := q.c 1 (by omega); have c2 := q.c 2 (by omega); have c3 := q.c 3 (by omega); clear q; go_simp) (by assumption) ?_
          simp only [List.setIfInBounds_toArray, List.set_cons_zero, List.set_cons_succ]
          refine takeW (i := 2) (d := 96) (v := .int .i64 n) rfl rfl (by kernel_rfl) (by kernel_rfl) (by kernel_rfl) (fun _ _ _ h => h) (by rfl) (fun w' hSw => by go_simp) (by assumption) ?_
          simp only [List.setIfInBounds_toArray, List.set_cons_zero, List.set_cons_succ]
          refine wpAnyH_ready (rs := [1]) (by kernel_rfl) (by simp) ?_
          refine AllReadyH.cons rfl (fun X hX => ?_) AllReadyH.nil
          rw [if_pos (by rfl)]
          go_simp
          refine (C1.out _).mono ?_
          rintro e w1 ⟨rfl, b1⟩
          go_wp2_with fail
          refine hX.out _ _ (Lib.hid (Below.step hH.out b1)) (fun hH2 => ?_)
          clear hX X hH b1
          have hH := hH2
          clear hH2
          refine takeW (i := 3) (d := 97) (v := .bool true) rfl rfl (by kernel_rfl) (by kernel_rfl) (by kernel_rfl) (fun _ _ _ h => h) (by rfl) (fun w' hSw => by go_simp) (by assumption) ?_
          simp only [List.setIfInBounds_toArray, List.set_cons_zero, List.set_cons_succ]
          refine takeW (i := 4) (d := 98) (v := .bool true) rfl rfl (by kernel_rfl) (by kernel_rfl) (by kernel_rfl) (fun _ _ _ h => h) (by rfl) (fun w' hSw => by go_simp) (by assumption) ?_
          simp only [List.setIfInBounds_toArray, List.set_cons_zero, List.set_cons_succ]
          refine takeW (i := 5) (d := 99) (v := .agg #[.int .u64 ((notW f) 0), .int .u64 ((notW f) 1), .int .u64 ((notW f) 2), .int .u64 ((notW f) 3)]) rfl rfl (by kernel_rfl) (by kernel_rfl) (by kernel_rfl) (fun _ _ _ h => h) (by rfl) (fun w' hSw => by have q := q13.out.after hSw.out; have c0 := q.c 0 (by omega); have c1 := q.c 1 (by omega); have c2 := q.c 2 (by omega); have c3 := q.c 3 (by omega); clear q; go_simp) (by assumption) ?_
          simp only [List.setIfInBounds_toArray, List.set_cons_zero, List.set_cons_succ]
          refine takeW (i := 7) (d := 101) (v := .int .i64 n) rfl rfl (by kernel_rfl) (by kernel_rfl) (by kernel_rfl) (fun _ _ _ h => h) (by rfl) (fun w' hSw => by go_simp) (by assumption) ?_
          simp only [List.setIfInBounds_toArray, List.set_cons_zero, List.set_cons_succ]
          refine takeW (i := 8) (d := 102) (v := .int .i64 (256 - (n : Int))) rfl rfl (by kernel_rfl) (by kernel_rfl) (by kernel_rfl) (fun _ _ _ h => h) (by rfl) (fun w' hSw => by go_simp) (by assumption) ?_
          simp only [List.setIfInBounds_toArray, List.set_cons_zero, List.set_cons_succ]
          refine wpAnyH_ready (rs := [6]) (by kernel_rfl) (by simp) ?_
          refine AllReadyH.cons rfl (fun X hX => ?_) AllReadyH.nil
          rw [if_pos (by rfl)]
          go_simp
          refine (C2.out _).mono ?_
          rintro e w1 ⟨rfl, b1⟩
          go_wp2_with fail
          refine hX.out _ _ (Lib.hid (Below.step hH.out b1)) (fun hH2 => ?_)
          clear hX X hH b1
          have hH := hH2
          clear hH2
          refine takeW (i := 9) (d := 103) (v := .bool true) rfl rfl (by kernel_rfl) (by kernel_rfl) (by kernel_rfl) (fun _ _ _ h => h) (by rfl) (fun w' hSw => by go_simp) (by assumption) ?_
          simp only [List.setIfInBounds_toArray, List.set_cons_zero, List.set_cons_succ]
          refine takeW (i := 10) (d := 104) (v := .bool true) rfl rfl (by kernel_rfl) (by kernel_rfl) (by kernel_rfl) (fun _ _ _ h => h) (by rfl) (fun w' hSw => by go_simp) (by assumption) ?_
          simp only [List.setIfInBounds_toArray, List.set_cons_zero, List.set_cons_succ]
          refine takeW (i := 11) (d := 105) (v := .bool true) rfl rfl (by kernel_rfl) (by kernel_rfl) (by kernel_rfl) (fun _ _ _ h => h) (by rfl) (fun w' hSw => by go_simp) (by assumption) ?_
          simp only [List.setIfInBounds_toArray, List.set_cons_zero, List.set_cons_succ]
          refine takeW (i := 12) (d := 106) (v := .agg #[.int .u64 ((notW f) 0), .int .u64 ((notW f) 1), .int .u64 ((notW f) 2), .int .u64 ((notW f) 3)]) rfl rfl (by kernel_rfl) (by kernel_rfl) (by kernel_rfl) (fun _ _ _ h => h) (by rfl) (fun w' hSw => by have q := q13.out.after hSw.out; have c0 := q.c 0 (by omega); have c1 := q.c 1 (by omega); have c2 := q.c 2 (by omega); have c3 := q.c 3 (by omega); clear q; go_simp) (by assumption) ?_
          simp only [List.setIfInBounds_toArray, List.set_cons_zero, List.set_cons_succ]
          refine takeW (i := 14) (d := 108) (v := .agg #[.int .u64 (f 0), .int .u64 (f 1), .int .u64 (f 2), .int .u64 (f 3)]) rfl rfl (by kernel_rfl) (by kernel_rfl) (by kernel_rfl) (fun _ _ _ h => h) (by rfl) (fun w' hSw => by have q := q0r.out.after hSw.out; have c0 := q.c 0 (by omega); have c1 := q.c 1 (by omega); have c2 := q.c 2 (by omega); have c3 := q.c 3 (by omega); clear q; go_simp) (by assumption) ?_
          simp only [List.setIfInBounds_toArray, List.set_cons_zero, List.set_cons_succ]
          refine wpAnyH_ready (rs := [13]) (by kernel_rfl) (by simp) ?_
          refine AllReadyH.cons rfl (fun X hX => ?_) AllReadyH.nil
          rw [if_pos (by rfl)]
          go_simp
          refine (N1.out _).mono ?_
          rintro e w1 ⟨rfl, b1⟩
          go_wp2_with fail
          refine hX.out _ _ (Lib.hid (Below.step hH.out b1)) (fun hH2 => ?_)
          clear hX X hH b1
          have hH := hH2
          clear hH2
          refine takeW (i := 15) (d := 109) (v := .bool true) rfl rfl (by kernel_rfl) (by kernel_rfl) (by kernel_rfl) (fun _ _ _ h => h) (by rfl) (fun w' hSw => by have hq := equal_words f f w' true (by simp); go_simp) (by assumption) ?_
          simp only [List.setIfInBounds_toArray, List.set_cons_zero, List.set_cons_succ]
          refine takeW (i := 16) (d := 110) (v := .bool true) rfl rfl (by kernel_rfl) (by kernel_rfl) (by kernel_rfl) (fun _ _ _ h => h) (by rfl) (fun w' hSw => by go_simp) (by assumption) ?_
          simp only [List.setIfInBounds_toArray, List.set_cons_zero, List.set_cons_succ]
          refine takeW (i := 17) (d := 111) (v := .bool true) rfl rfl (by kernel_rfl) (by kernel_rfl) (by kernel_rfl) (fun _ _ _ h => h) (by rfl) (fun w' hSw => by go_simp) (by assumption) ?_
          simp only [List.setIfInBounds_toArray, List.set_cons_zero, List.set_cons_succ]
          refine wpAnyH_ready (rs := [18]) (by kernel_rfl) (by simp) ?_
          refine AllReadyH.cons rfl (fun X hX => ?_) AllReadyH.nil
          rw [if_pos (by rfl)]
          go_simp
          refine (HV.out _).mono ?_
          rintro e w1 ⟨rfl, b1⟩
          go_wp2_with fail
          refine hX.out _ _ (Lib.hid (Below.step hH.out b1)) (fun hH2 => ?_)
          clear hX X hH b1
          have hH := hH2
          clear hH2
          refine takeW (i := 19) (d := 113) (v := .bool true) rfl rfl (by kernel_rfl) (by kernel_rfl) (by kernel_rfl) (fun _ _ _ h => h) (by rfl) (fun w' hSw => by go_simp) (by assumption) ?_
          simp only [List.setIfInBounds_toArray, List.set_cons_zero, List.set_cons_succ]
          refine takeW (i := 20) (d := 6) (v := .bool true) rfl rfl (by kernel_rfl) (by kernel_rfl) (by kernel_rfl) (fun _ _ _ h => h) (by rfl) (fun w' hSw => by go_simp) (by assumption) ?_
          simp only [List.setIfInBounds_toArray, List.set_cons_zero, List.set_cons_succ]
          refine wpAnyH_done (by kernel_rfl) ?_ _
          go_wp2_with fail
          go_ret
          exact ⟨rfl, hB.out.trans ((hb.out.trans (hH.out.mono hb.out.size)).mono hB.out.size)⟩

set_option maxRecDepth 100000 in
theorem lifted (os : Os) (started : os.Started) (H : Type) (enc : TypeId × Value → H) :
    ReturnsInHanded {} Try.checked os 3 .any (Rows.classSetsSpec.pre6 enc Try.prog Try.f3 Rows.classSetsRow.domain false) (Rows.classSetsSpec.post enc Try.prog Try.f3 false true false false) := by
  refine returnsInHanded_of_change_shaped (C := Try.checked) own started (by kernel_rfl) Try.func3
    (ChangeSpec.witness6 (enc := enc) (C := Try.checked) false ⟨#[], #[.agg #[.int .u64 0, .int .u64 0, .int .u64 0, .int .u64 0], .agg #[.int .u64 0, .int .u64 0, .int .u64 0, .int .u64 0], .agg #[.int .u8 0, .int .u8 0]], []⟩ 8 (by kernel_rfl) (by kernel_rfl) (by kernel_rfl) (by kernel_rfl)) ?_
  intro W base args ds gs before hval0 hW _ _ hsh _
  have hval : ∀ (j : Nat) t v, Try.f3.params[j]? = some t → args[j]? = some v → Value.okWide Try.prog W .any base t v := hval0
  have hW' := hW
  obtain ⟨p, q, hA0, hV, rfl, hfz, hnd⟩ := hW
  have hA : DataW.TrodAll enc Try.prog W 0 (fun _ => true) true Try.f3.params.toList args.toList ds p := hA0
  rw [Try.params3] at hA hval
  obtain ⟨v0, vs0, d0, ds0, p0, q0, hargs, rfl, rfl, h0, r0⟩ := trodAll_cons hA
  obtain ⟨v1, vs1, d1, ds1, p1, q1, rfl, rfl, rfl, h1, r1⟩ := trodAll_cons r0
  obtain ⟨v2, vs2, d2, ds2, p2, q2, rfl, rfl, rfl, h2, r2⟩ := trodAll_cons r1
  obtain ⟨rfl, rfl, rfl⟩ := trodAll_nil r2
  obtain rfl : args = #[v0, v1, v2] := by cases args; simp_all
  obtain ⟨rfl, rfl⟩ := trodVars_none hV
  obtain ⟨a0, rfl, rfl, rfl, w0⟩ := open_set (hval 0 24 v0 rfl rfl) h0
  obtain ⟨a1, rfl, rfl, rfl, w1⟩ := open_set (hval 1 24 v1 rfl rfl) h1
  obtain ⟨a2, rfl, rfl, rfl, w2⟩ := open_two (hval 2 25 v2 rfl rfl) h2
  clear hA0 hval0
  simp only [List.append_nil] at hW'
  refine (walk a0 a1 a2 w0 w1 w2 W).mono fun e W' ⟨he, hg⟩ => ?_
  subst he
  exact ⟨_, rfl, post_bare hW' (fun _ _ _ => (trodAll_cons_mk (shut_bool Try.underlying4 _) trodAll_mk0)) (fun sp => (trodAll_cons_mk (shut_set w0) (trodAll_cons_mk (shut_set w1) (trodAll_cons_mk (shut_two w2.1 w2.2) trodAll_mk0)))) (fun _ => rfl) hg⟩

theorem proved : Rows.ClassSetsSaid :=
  OpenClaim.holds_of_wide 3 Try.f3 rfl rfl rfl rfl rfl rfl rfl ⟨rfl, rfl, rfl, rfl, rfl⟩ rfl rfl rfl rfl rfl (by kernel_rfl) Try.func3 (by kernel_rfl)
    (of_decide_eq_true (by kernel_rfl)) (by unfold Func.isWrapper; first | (rw [if_pos (by decide +kernel)]; kernel_rfl) | (rw [if_neg (by decide +kernel)]; exact ⟨rfl, rfl⟩))
    (fun os started H enc _ => lifted os started H enc)
#print axioms proved
end Go.Proofs.Ytfdgjgmgkcoopaa.classSets
