/- class.Union: a walk. -/
import Derived.Test.YtdhndfmblmcapaaDoorQuad
namespace Go.Proofs.YtdhndfmblmcapaaDoor
open Go.RowKit

def orW (f g : Nat → Nat) : Nat → Nat := fun k => f k ||| g k
theorem fits_or {f g : Nat → Nat} (hf : Fits f) (hg : Fits g) : Fits (orW f g) := fun k hk => Nat.or_lt_two_pow (n := 64) (hf k hk) (hg k hk)
theorem bit_or (f g : Nat → Nat) (c : Nat) : bit (orW f g) c = (bit f c || bit g c) := by simp [bit, orW, Nat.testBit_or]

set_option maxRecDepth 100000 in
theorem union_spec (f g : Nat → Nat) (hf : Fits f) (hg : Fits g) (w : World) :
    Calls Tryd.prog 87 #[.agg (words f), .agg (words g)] w fun e w' => e = .returned (.agg (words (orW f g))) ∧ Below w.heap.size w w' := by
  go_enter Tryd.func87, Tryd.ntmps87
  go_wp2_with fail
  obtain ⟨W, hW, Q0, Q1, Q2, HB⟩ := boxed3 w f g zero4 24 24 24
  change Code.wp _ _ _ _ (((w.alloc (Obj.cells (words f) 24)).alloc (Obj.cells (words g) 24)).alloc (Obj.cells (words zero4) 24))
  rw [← hW]
  clear hW
  go_loopw [5, 6] (fun _ y wr => ∃ k : Nat, y = .int .i64 k ∧ k ≤ 4 ∧ Hid (Quad wr w.heap.size (fun j => if j < k then orW f g j else f j)) ∧ Hid (Quad wr (w.heap.size + 1) g) ∧ Hid (Quad wr (w.heap.size + 1 + 1) zero4) ∧ Hid (Below w.heap.size w wr)) (fun _ y _ => 4 - (intOf y).toNat)
  case atStart => exact ⟨0, rfl, by omega, by simpa using Q0, Q1, Q2, HB⟩
  case round =>
    obtain ⟨k, rfl, hk, q0, q1, q2, hb⟩ := hrel
    by_cases hgo : k < 4
    · have hc := q0.out.c k hgo
      have hz := q0.out.z k hgo
      have hd := q1.out.c k hgo
      simp only [Nat.lt_irrefl, if_false] at hc
      have hx := bits_or_u64_nat (f k) (g k) (hf k hgo) (hg k hgo)
      go_wp2_with fail
      go_region
      all_goals
        go_wp2_with fail
        try rw [hx]
        go_roundw
        case rel =>
          refine ⟨k + 1, by go_num, by omega, Lib.hid ((Quad.congr ((q0.out.after (below_drew _)).set hgo _) fun j hj => ?_)), Lib.hid ((q1.out.after (below_drew _)).other (by omega) _), Lib.hid ((q2.out.after (below_drew _)).other (by omega) _), Lib.hid (hb.out.drew.setCell (by simp) _)⟩
          by_cases h1 : j = k
          · simp [h1, orW]
          · rw [if_neg h1]
            by_cases h2 : j < k
            · rw [if_pos h2, if_pos (by omega)]
            · rw [if_neg h2, if_neg (by omega)]
        case measure => simp [intOf]; omega
    · obtain rfl : k = 4 := by omega
      have Q := q0.out.congr (g := orW f g) (fun j hj => by rw [if_pos hj])
      have c0 := Q.c 0 (by omega); have c1 := Q.c 1 (by omega); have c2 := Q.c 2 (by omega); have c3 := Q.c 3 (by omega)
      have z0 := q2.out.z 0 (by omega); have z1 := q2.out.z 1 (by omega); have z2 := q2.out.z 2 (by omega); have z3 := q2.out.z 3 (by omega)
      have y0 := q2.out.c 0 (by omega); have y1 := q2.out.c 1 (by omega); have y2 := q2.out.c 2 (by omega); have y3 := q2.out.c 3 (by omega)
      have HQ := Lib.hid Q; clear Q
      go_wp2_with fail
      obtain ⟨e0, e1, e2, e3⟩ := put4_reads q2.out (orW f g)
      unfold put4 at e0 e1 e2 e3
      refine bodyPost_ret (v := .agg (words (orW f g))) (by simp [results, Tryd.results87, go_sem, e0, e1, e2, e3, words]) rfl ⟨rfl, ?_⟩
      exact below_put4 hb.out (by omega) (orW f g)
end Go.Proofs.YtdhndfmblmcapaaDoor
