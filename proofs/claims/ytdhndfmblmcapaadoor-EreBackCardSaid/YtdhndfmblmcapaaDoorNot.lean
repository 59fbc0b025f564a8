/- class.Not: a walk. -/
import Derived.Test.YtdhndfmblmcapaaDoorQuad
namespace Go.Proofs.YtdhndfmblmcapaaDoor
open Go.RowKit

def notW (f : Nat → Nat) : Nat → Nat := fun k => 18446744073709551615 - f k
theorem not_word (x : Nat) (hx : x < 18446744073709551616) : bits BinOp.xor IntKind.u64 (if IntKind.u64.signed = true then -1 else IntKind.u64.max) (x : Int) = ((18446744073709551615 - x : Nat) : Int) := by
  rw [show (if IntKind.u64.signed = true then -1 else IntKind.u64.max) = ((18446744073709551615 : Nat) : Int) from rfl, bits_xor_u64_nat _ _ (by decide) hx]
  congr 1
  apply Nat.eq_of_testBit_eq
  intro i
  have h1 : 18446744073709551615 - x = 2 ^ 64 - (x + 1) := by omega
  rw [h1, Nat.testBit_two_pow_sub_succ (by omega), Nat.testBit_xor, show (18446744073709551615 : Nat) = 2 ^ 64 - 1 from rfl, Nat.testBit_two_pow_sub_one]
  by_cases h : i < 64
  · simp [h]
  · have : x.testBit i = false := Nat.testBit_lt_two_pow (Nat.lt_of_lt_of_le hx (Nat.pow_le_pow_right (n := 2) (i := 64) (by decide) (by omega)))
    simp [h, this]
theorem fits_not (f : Nat → Nat) : Fits (notW f) := fun k _ => by unfold notW; omega
theorem bit_not (f : Nat → Nat) (hf : Fits f) {c : Nat} (hc : c < 256) : bit (notW f) c = !bit f c := by
  have h0 := hf (c / 64) (by omega)
  unfold bit notW
  have h1 : 18446744073709551615 - f (c / 64) = 2 ^ 64 - (f (c / 64) + 1) := by omega
  rw [h1, Nat.testBit_two_pow_sub_succ (by omega)]
  have : c % 64 < 64 := by omega
  simp [this]
theorem not_not (f : Nat → Nat) (hf : Fits f) : words (notW (notW f)) = words f := words_congr fun k hk => by have := hf k hk; unfold notW; omega

set_option maxRecDepth 100000 in
theorem not_spec (f : Nat → Nat) (hf : Fits f) (w : World) :
    Calls Tryd.prog 43 #[.agg (words f)] w fun e w' => e = .returned (.agg (words (notW f))) ∧ Below w.heap.size w w' := by
  go_enter Tryd.func43, Tryd.ntmps43
  go_wp2_with fail
  obtain ⟨W, hW, Q0, Q1, HB⟩ := boxed2 w f zero4 24 24
  change Code.wp _ _ _ _ ((w.alloc (Obj.cells (words f) 24)).alloc (Obj.cells (words zero4) 24))
  rw [← hW]
  clear hW
  go_loopw [3, 4] (fun _ y wr => ∃ k : Nat, y = .int .i64 k ∧ k ≤ 4 ∧ Hid (Quad wr w.heap.size (fun j => if j < k then notW f j else f j)) ∧ Hid (Quad wr (w.heap.size + 1) zero4) ∧ Hid (Below w.heap.size w wr)) (fun _ y _ => 4 - (intOf y).toNat)
  case atStart => exact ⟨0, rfl, by omega, by simpa using Q0, Q1, HB⟩
  case round =>
    obtain ⟨k, rfl, hk, q0, q1, hb⟩ := hrel
    by_cases hgo : k < 4
    · have hc := q0.out.c k hgo
      have hz := q0.out.z k hgo
      simp only [Nat.lt_irrefl, if_false] at hc
      have hx := not_word (f k) (hf k hgo)
      go_wp2_with fail
      try rw [hx]
      go_roundw
      case rel =>
        refine ⟨k + 1, by go_num, by omega, Lib.hid ((q0.out.set hgo _).congr fun j hj => ?_), Lib.hid (q1.out.other (by omega) _), Lib.hid (hb.out.setCell (by simp) _)⟩
        by_cases h1 : j = k
        · simp [h1, notW]
        · rw [if_neg h1]
          by_cases h2 : j < k
          · rw [if_pos h2, if_pos (by omega)]
          · rw [if_neg h2, if_neg (by omega)]
      case measure => simp [intOf]; omega
    · obtain rfl : k = 4 := by omega
      have Q := q0.out.congr (g := notW f) (fun j hj => by rw [if_pos hj])
      have c0 := Q.c 0 (by omega); have c1 := Q.c 1 (by omega); have c2 := Q.c 2 (by omega); have c3 := Q.c 3 (by omega)
      have z0 := q1.out.z 0 (by omega); have z1 := q1.out.z 1 (by omega); have z2 := q1.out.z 2 (by omega); have z3 := q1.out.z 3 (by omega)
      have y0 := q1.out.c 0 (by omega); have y1 := q1.out.c 1 (by omega); have y2 := q1.out.c 2 (by omega); have y3 := q1.out.c 3 (by omega)
      have HQ := Lib.hid Q; clear Q
      go_wp2_with fail
      obtain ⟨e0, e1, e2, e3⟩ := put4_reads q1.out (notW f)
      unfold put4 at e0 e1 e2 e3
      refine bodyPost_ret (v := .agg (words (notW f))) (by simp [results, Tryd.results43, go_sem, e0, e1, e2, e3, words]) rfl ⟨rfl, ?_⟩
      exact below_put4 hb.out (by omega) (notW f)
end Go.Proofs.YtdhndfmblmcapaaDoor
