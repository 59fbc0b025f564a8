/- aukletref04.Of: a walk. -/
import Derived.Test.YtfdgjgmgkcoopaaBools
namespace Go.Proofs.Ytfdgjgmgkcoopaa
open Go.RowKit

theorem of_boxed (w : World) (f : Nat → Nat) : ∃ W, W = ((w.alloc (.cells (words f) 24)).alloc (.cells (bools (fun _ => false)) 27)).alloc (.cells (bools (fun _ => false)) 27) ∧
    Hid (Quad W w.heap.size f) ∧ Hid (Row W (w.heap.size + 1) (fun _ => false)) ∧ Hid (Row W (w.heap.size + 1 + 1) (fun _ => false)) ∧ Hid (Below w.heap.size w W) := by
  refine ⟨_, rfl, Lib.hid (((quad_new w f _).after (below_new _ _)).after (below_new _ _)), ?_, ?_, Lib.hid (Below.step (Below.step (below_new _ _) (below_new _ _)) (below_new _ _))⟩
  · have h := row_new (w.alloc (.cells (words f) 24)) (fun _ => false)
    rw [World.size_alloc] at h
    exact Lib.hid (h.after (below_new _ _))
  · have h := row_new ((w.alloc (.cells (words f) 24)).alloc (.cells (bools (fun _ => false)) 27)) (fun _ => false)
    rw [World.size_alloc, World.size_alloc] at h
    exact Lib.hid h

theorem of_bit (x k : Nat) : ((((x : Int) / 2 ^ k).tmod 2) == 1) = x.testBit k := by
  have e : ((x : Int) / 2 ^ k) = ((x / 2 ^ k : Nat) : Int) := by simp
  rw [e, Nat.testBit_eq_decide_div_mod_eq]
  have e2 : (((x / 2 ^ k : Nat) : Int).tmod 2) = ((x / 2 ^ k % 2 : Nat) : Int) := by
    rw [Int.tmod_eq_emod_of_nonneg (Int.natCast_nonneg _)]; rfl
  rw [e2]
  rcases Nat.mod_two_eq_zero_or_one (x / 2 ^ k) with h | h <;> rw [h] <;> rfl

set_option maxRecDepth 100000 in
theorem of_spec (f : Nat → Nat) (w : World) :
    Calls Try.prog 6 #[.agg (words f)] w fun e w' => e = .returned (.agg (bools (bit f))) ∧ Below w.heap.size w w' := by
  have hz := zero_b
  have hu := build_b
  have hsz := bools_size (fun _ => false)
  obtain ⟨W, hW, Q0, R1, R2, HB⟩ := of_boxed w f
  have hst := store_b R2.out (fun _ => false)
  rw [show W.setRow (w.heap.size + 1 + 1) (bools fun _ => false) = W from by
    rw [hW]
    have h := World.setRow_alloc_new ((w.alloc (.cells (words f) 24)).alloc (.cells (bools (fun _ => false)) 27)) (bools fun _ => false) (bools fun _ => false) 27
    rw [World.size_alloc, World.size_alloc] at h
    exact h] at hst
  rw [hW] at hst
  go_enter Try.func6, Try.ntmps6
  go_wp2_with fail
  rw [← hW]
  clear hW hst hz hu
  go_loopw [4] (fun y wr => ∃ k : Nat, y = .int .i64 k ∧ k ≤ 256 ∧ Hid (Quad wr w.heap.size f) ∧ Hid (Row wr (w.heap.size + 1) (fun _ => false)) ∧ Hid (Row wr (w.heap.size + 1 + 1) (fun j => decide (j < k) && bit f j)) ∧ Hid (Below w.heap.size w wr)) (fun y _ => 256 - (intOf y).toNat)
  case atStart => exact ⟨0, rfl, by omega, Q0, R1, by simpa using R2, HB⟩
  case round =>
    obtain ⟨k, rfl, hk, q0, r1, r2, hB⟩ := hrel
    by_cases hgo : k < 256
    · have hk4 : k / 64 < 4 := by omega
      have hc := q0.out.c (k / 64) hk4
      have hd := r2.out.c hgo
      have hfz := r2.out.z k
      go_wp2_with fail
      rw [of_bit]
      go_roundw
      case rel =>
        refine ⟨k + 1, by go_num, by omega, Lib.hid (q0.out.other (by omega) _), Lib.hid (r1.out.other (by omega) _), Lib.hid ((r2.out.set hgo _).congr fun j hj => ?_), Lib.hid (hB.out.setCell (by simp; omega) _)⟩
        by_cases h1 : j = k
        · subst h1
          rw [if_pos rfl, decide_eq_true (Nat.lt_succ_self j), Bool.true_and]
          rfl
        · rw [if_neg h1, decide_eq_decide.2 (show j < k ↔ j < k + 1 by omega)]
      case measure => simp [intOf]; omega
    · obtain rfl : k = 256 := by omega
      have R := r2.out.congr (q := bit f) (fun i hi => by simp [hi])
      have HR := Lib.hid R; clear R
      have HI : (Try.prog.info? 27).map (·.size) = some (bools (bit f)).size := by rw [bools_size]; exact size_b
      go_upto_region 6 with (fail)
      go_step
      refine wpList_load_row (by rfl) 27 (.tmp 3) (by rfl) (w.heap.size + 1 + 1) (by rfl) 27 (bools (bit f)) (0, 0) _ HR.out.row Try.underlying27 (by rfl) HI ?_
      refine wpList_store_row (by rfl) 27 (.tmp 2) (.tmp 22) (by rfl) (w.heap.size + 1) (bools (bit f)) (by rfl) (by rfl) 27 _ r1.out.row HI (by rw [bools_size, bools_size]) (bools_one _) ?_
      go_step
      have E := r1.out.setRow (bit f)
      have EB := below_setRow hB.out (show w.heap.size ≤ w.heap.size + 1 by omega) (bools (bit f))
      go_wp2_with fail
      refine bodyPost_ret (v := .agg (bools (bit f))) (results_cell_row (by rfl) _ _ (w.heap.size + 1) 27 _ (0, 0) _ (by rfl) E.row Try.underlying27 (by rfl) HI) rfl ⟨rfl, EB⟩
end Go.Proofs.Ytfdgjgmgkcoopaa
