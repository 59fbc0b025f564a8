/- == on two sets. -/
import Derived.Test.YtbojoiacedhjiaaQuad
namespace Go.Proofs.Ytbojoiacedhjiaa
open Go.RowKit

theorem part_0 (a b c d : Int) (w : World) : (part 24 #[.int .u64 a, .int .u64 b, .int .u64 c, .int .u64 d] 0).run Try.prog w = .ok (.int .u64 a) w := by kernel_rfl
theorem part_1 (a b c d : Int) (w : World) : (part 24 #[.int .u64 a, .int .u64 b, .int .u64 c, .int .u64 d] 1).run Try.prog w = .ok (.int .u64 b) w := by kernel_rfl
theorem part_2 (a b c d : Int) (w : World) : (part 24 #[.int .u64 a, .int .u64 b, .int .u64 c, .int .u64 d] 2).run Try.prog w = .ok (.int .u64 c) w := by kernel_rfl
theorem part_3 (a b c d : Int) (w : World) : (part 24 #[.int .u64 a, .int .u64 b, .int .u64 c, .int .u64 d] 3).run Try.prog w = .ok (.int .u64 d) w := by kernel_rfl

theorem equalIn_set (d : Nat) (a0 a1 a2 a3 b0 b1 b2 b3 : Int) (w : World) :
    (Op.equalIn (d + 2) 26 (.agg #[.int .u64 a0, .int .u64 a1, .int .u64 a2, .int .u64 a3]) (.agg #[.int .u64 b0, .int .u64 b1, .int .u64 b2, .int .u64 b3])).run Try.prog w
      = .ok (a0 == b0 && (a1 == b1 && (a2 == b2 && a3 == b3))) w := by
  have E (a b : Int) (w : World) : (Op.equalIn (d + 1) 24 (.int .u64 a) (.int .u64 b)).run Try.prog w = .ok (a == b) w := run_equalIn_int w d 24 .u64 .u64 a b Try.underlying24
  rw [Op.equalIn]
  simp [Sem.run_bind, run_underlying Try.underlying26, Result.andThen_ok]
  rw [show List.range' 0 4 = [0, 1, 2, 3] from rfl]
  simp only [List.forIn_cons, List.forIn_nil, Sem.run_bind, part_0, E, Result.andThen_ok]
  by_cases h0 : a0 = b0
  · by_cases h1 : a1 = b1
    · by_cases h2 : a2 = b2
      · by_cases h3 : a3 = b3
        · simp [h0, h1, h2, h3, Result.andThen, Sem.run_bind, part_1, part_2, part_3, E]
        · simp [h0, h1, h2, h3, Result.andThen, Sem.run_bind, part_1, part_2, part_3, E]
      · simp [h0, h1, h2, Result.andThen, Sem.run_bind, part_1, part_2, E]
    · simp [h0, h1, Result.andThen, Sem.run_bind, part_1, E]
  · simp [h0, Result.andThen]
theorem equal_words (f g : Nat → Nat) (w : World) (b : Bool) (h : b = true ↔ ∀ k, k < 4 → f k = g k) :
    (Op.equalIn 10000 26 (.agg #[.int .u64 (f 0), .int .u64 (f 1), .int .u64 (f 2), .int .u64 (f 3)]) (.agg #[.int .u64 (g 0), .int .u64 (g 1), .int .u64 (g 2), .int .u64 (g 3)])).run Try.prog w = .ok b w := by
  rw [show (10000 : Nat) = 9998 + 2 from rfl, equalIn_set]
  congr 1
  rw [Bool.eq_iff_iff, h]
  constructor
  · intro e k hk
    simp at e
    have : k = 0 ∨ k = 1 ∨ k = 2 ∨ k = 3 := by omega
    rcases this with rfl | rfl | rfl | rfl
    · exact Int.ofNat.inj e.1
    · exact Int.ofNat.inj e.2.1
    · exact Int.ofNat.inj e.2.2.1
    · exact Int.ofNat.inj e.2.2.2
  · intro e
    simp [e 0 (by omega), e 1 (by omega), e 2 (by omega), e 3 (by omega)]
end Go.Proofs.Ytbojoiacedhjiaa
