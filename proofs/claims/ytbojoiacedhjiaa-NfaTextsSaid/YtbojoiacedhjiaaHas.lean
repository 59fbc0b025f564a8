/- class.Has: a walk. -/
import Derived.Test.YtbojoiacedhjiaaQuad
namespace Go.Proofs.Ytbojoiacedhjiaa
open Go.RowKit

theorem and_one (x k : Nat) (hx : x < 18446744073709551616) : (bits BinOp.and IntKind.u64 ((x : Int) / 2 ^ k) 1 == 1) = x.testBit k := by
  have e : ((x : Int) / 2 ^ k) = ((x / 2 ^ k : Nat) : Int) := by simp
  have h1 : x / 2 ^ k < 18446744073709551616 := Nat.lt_of_le_of_lt (Nat.div_le_self _ _) hx
  rw [e, show (1 : Int) = ((1 : Nat) : Int) from rfl, bits_and_u64_nat _ _ h1 (by decide), Nat.and_one_is_mod, Nat.testBit_eq_decide_div_mod_eq]
  rcases Nat.mod_two_eq_zero_or_one (x / 2 ^ k) with h | h <;> rw [h] <;> rfl

set_option maxRecDepth 100000 in
theorem has_exact (f : Nat → Nat) (hf : Fits f) (c : Nat) (hc : c < 256) (w : World) :
    Calls Try.prog 19 #[.agg (words f), .int .u8 c] w fun e w' => e = .returned (.bool (bit f c)) ∧ w' = w.alloc (.cells (words f) 26) := by
  have hk : c / 64 < 4 := by omega
  have hw := words_get f hk
  go_enter Try.func19, Try.ntmps19
  go_wp2
  go_ret
  exact ⟨ret_bool (and_one _ _ (hf _ hk)), rfl⟩
theorem has_spec (f : Nat → Nat) (hf : Fits f) (c : Nat) (hc : c < 256) (w : World) :
    Calls Try.prog 19 #[.agg (words f), .int .u8 c] w fun e w' => e = .returned (.bool (bit f c)) ∧ Below w.heap.size w w' := by
  refine (has_exact f hf c hc w).mono ?_
  rintro e w' ⟨rfl, rfl⟩
  exact ⟨rfl, below_new _ _⟩
end Go.Proofs.Ytbojoiacedhjiaa
