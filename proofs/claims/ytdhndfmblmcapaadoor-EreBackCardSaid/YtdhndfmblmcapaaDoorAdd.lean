/- class.Add: a walk. -/
import Derived.Test.YtdhndfmblmcapaaDoorQuad
namespace Go.Proofs.YtdhndfmblmcapaaDoor
open Go.RowKit

def addAt (g : Nat → Nat) (k : Nat) : Nat → Nat := fun j => if j = k / 64 then g (k / 64) ||| 2 ^ (k % 64) else g j
theorem pow_lt64 (k : Nat) : 2 ^ (k % 64) < 18446744073709551616 := Nat.pow_lt_pow_right (a := 2) (m := k % 64) (n := 64) (by decide) (by omega)
theorem fits_addAt {g : Nat → Nat} (hg : Fits g) (k : Nat) : Fits (addAt g k) := by
  intro j hj
  unfold addAt
  by_cases h : j = k / 64
  · rw [if_pos h]; exact Nat.or_lt_two_pow (n := 64) (hg _ (by omega)) (pow_lt64 k)
  · rw [if_neg h]; exact hg j hj
theorem bit_addAt (g : Nat → Nat) (k c : Nat) : bit (addAt g k) c = (bit g c || decide (c = k)) := by
  unfold bit addAt
  by_cases h : c / 64 = k / 64
  · rw [if_pos h, Nat.testBit_or, h, Nat.testBit_two_pow]
    congr 1
    exact decide_eq_decide.2 (by omega)
  · rw [if_neg h]
    have : ¬ c = k := by intro e; exact h (by rw [e])
    simp [this]
/-- The bytes from a up to below k, and those of f. -/
def Span (f g : Nat → Nat) (a k : Nat) : Prop := Fits g ∧ ∀ c, c < 256 → bit g c = (bit f c || (decide (a ≤ c) && decide (c < k)))
theorem span_zero {f : Nat → Nat} (hf : Fits f) (a : Nat) : Span f f a a := ⟨hf, fun c _ => by
  have : (decide (a ≤ c) && decide (c < a)) = false := by rw [← Bool.decide_and]; exact decide_eq_false (by omega)
  rw [this, Bool.or_false]⟩
theorem span_next {f g : Nat → Nat} {a k : Nat} (h : Span f g a k) (ha : a ≤ k) : Span f (addAt g k) a (k + 1) := by
  refine ⟨fits_addAt h.1 k, fun c hc => ?_⟩
  rw [bit_addAt, h.2 c hc, Bool.or_assoc]
  congr 1
  rw [← Bool.decide_and, ← Bool.decide_and, ← Bool.decide_or]
  exact decide_eq_decide.2 (by omega)

set_option maxRecDepth 100000 in
theorem add_spec (f : Nat → Nat) (hf : Fits f) (a b : Nat) (ha : a < 256) (hb : b < 256) (w : World) :
    Calls Tryd.prog 72 #[.agg (words f), .int .u8 a, .int .u8 b] w fun e w' => ∃ g, e = .returned (.agg (words g)) ∧ Hid (Span f g a (b + 1)) ∧ Below w.heap.size w w' := by
  go_enter Tryd.func72, Tryd.ntmps72
  go_wp2_with fail
  obtain ⟨W, hW, Q0, Q1, HB⟩ := boxed2 w f zero4 24 24
  change Code.wp _ _ _ _ ((w.alloc (Obj.cells (words f) 24)).alloc (Obj.cells (words zero4) 24))
  rw [← hW]
  clear hW
  go_loopw [7] (fun y wr => ∃ (k : Nat) (g : Nat → Nat), y = .int .i64 k ∧ a ≤ k ∧ (k ≤ b + 1 ∨ k = a) ∧ Hid (Span f g a k) ∧ Hid (Quad wr w.heap.size g) ∧ Hid (Quad wr (w.heap.size + 1) zero4) ∧ Hid (Below w.heap.size w wr)) (fun y _ => 257 - (intOf y).toNat)
  case atStart => exact ⟨a, f, by go_num, by omega, Or.inr rfl, Lib.hid (span_zero hf a), Q0, Q1, HB⟩
  case round =>
    obtain ⟨k, g, rfl, hak, hkb, hs, q0, q1, hB⟩ := hrel
    by_cases hgo : k ≤ b
    · have hk4 : k / 64 < 4 := by omega
      have hc := q0.out.c (k / 64) hk4
      have hz := q0.out.z (k / 64) hk4
      have hx : bits BinOp.or IntKind.u64 ((g (k / 64) : Nat) : Int) (IntKind.u64.wrap (2 ^ (k % 64))) = ((g (k / 64) ||| 2 ^ (k % 64) : Nat) : Int) := by
        have e : IntKind.u64.wrap (2 ^ (k % 64)) = ((2 ^ (k % 64) : Nat) : Int) := by
          obtain ⟨p, hp⟩ : ∃ p : Nat, p = 2 ^ (k % 64) := ⟨_, rfl⟩
          have hl : p < 18446744073709551616 := by rw [hp]; exact pow_lt64 k
          have e2 : ((2 : Int) ^ (k % 64)) = (p : Int) := by rw [hp]; push_cast; rfl
          rw [e2, ← hp, IntKind.wrap_u64]
          clear hp e2
          omega
        rw [e, bits_or_u64_nat _ _ (hs.out.1 _ hk4) (pow_lt64 k)]
      have HX := Lib.hid hx; clear hx
      go_wp2_with fail
      go_region
      all_goals
        go_wp2_with fail
        rw [HX.out]
        go_roundw
        case rel =>
          refine ⟨k + 1, addAt g k, by go_num, by omega, by omega, Lib.hid (span_next hs.out hak), Lib.hid ((((q0.out.after (below_drew _)).set hk4 _)).congr fun j hj => ?_), Lib.hid ((q1.out.after (below_drew _)).other (by omega) _), Lib.hid (hB.out.drew.setCell (by simp) _)⟩
          rfl
        case measure => simp [intOf]; omega
    · have hS : Span f g a (b + 1) := ⟨hs.out.1, fun c hc => by
        rw [hs.out.2 c hc]
        congr 1
        rw [← Bool.decide_and, ← Bool.decide_and]
        exact decide_eq_decide.2 (by omega)⟩
      have HS := Lib.hid hS; clear hS
      have c0 := q0.out.c 0 (by omega); have c1 := q0.out.c 1 (by omega); have c2 := q0.out.c 2 (by omega); have c3 := q0.out.c 3 (by omega)
      have z0 := q1.out.z 0 (by omega); have z1 := q1.out.z 1 (by omega); have z2 := q1.out.z 2 (by omega); have z3 := q1.out.z 3 (by omega)
      have y0 := q1.out.c 0 (by omega); have y1 := q1.out.c 1 (by omega); have y2 := q1.out.c 2 (by omega); have y3 := q1.out.c 3 (by omega)
      go_wp2_with fail
      obtain ⟨e0, e1, e2, e3⟩ := put4_reads q1.out g
      unfold put4 at e0 e1 e2 e3
      refine bodyPost_ret (v := .agg (words g)) (by simp [results, Tryd.results72, go_sem, e0, e1, e2, e3, words]) rfl ⟨g, rfl, HS, ?_⟩
      exact below_put4 hB.out (by omega) g
end Go.Proofs.YtdhndfmblmcapaaDoor
