/- class.Count: a walk. -/
import Derived.Test.YtfdgjgmgkcoopaaOnes
import Derived.Test.YtfdgjgmgkcoopaaMember
namespace Go.Proofs.Ytfdgjgmgkcoopaa
open Go.RowKit

theorem index4_0 (a b c d : Int) (w : World) : (Instr.index 24 (.agg #[.int .u64 a, .int .u64 b, .int .u64 c, .int .u64 d]) (.int .i64 0)).run Try.prog w = .ok (.int .u64 a) w := by kernel_rfl
theorem index4_1 (a b c d : Int) (w : World) : (Instr.index 24 (.agg #[.int .u64 a, .int .u64 b, .int .u64 c, .int .u64 d]) (.int .i64 1)).run Try.prog w = .ok (.int .u64 b) w := by kernel_rfl
theorem index4_2 (a b c d : Int) (w : World) : (Instr.index 24 (.agg #[.int .u64 a, .int .u64 b, .int .u64 c, .int .u64 d]) (.int .i64 2)).run Try.prog w = .ok (.int .u64 c) w := by kernel_rfl
theorem index4_3 (a b c d : Int) (w : World) : (Instr.index 24 (.agg #[.int .u64 a, .int .u64 b, .int .u64 c, .int .u64 d]) (.int .i64 3)).run Try.prog w = .ok (.int .u64 d) w := by kernel_rfl
theorem index4 (f : Nat → Nat) {k : Nat} (hk : k < 4) (w : World) : (Instr.index 24 (.agg #[.int .u64 (f 0), .int .u64 (f 1), .int .u64 (f 2), .int .u64 (f 3)]) (.int .i64 (k : Int))).run Try.prog w = .ok (.int .u64 (f k)) w := by
  have : k = 0 ∨ k = 1 ∨ k = 2 ∨ k = 3 := by omega
  rcases this with rfl | rfl | rfl | rfl
  · exact index4_0 _ _ _ _ w
  · exact index4_1 _ _ _ _ w
  · exact index4_2 _ _ _ _ w
  · exact index4_3 _ _ _ _ w
set_option maxRecDepth 100000 in
theorem count_spec (f : Nat → Nat) (hf : Fits f) (w : World) :
    Calls Try.prog 11 #[.agg (words f)] w fun e w' => e = .returned (.int .i64 (cntTo f 256)) ∧ Below w.heap.size w w' := by
  have C := Lib.hid (fun (x : Nat) (hx : x < 18446744073709551616) (w : World) => ones_walk x hx w)
  go_enter Try.func11, Try.ntmps11
  go_upto_region 2 with (fail)
  obtain ⟨W, hW, Q, HB⟩ := quad_box w f 24
  rw [← hW]
  clear hW
  have c0 := Q.out.c 0 (by omega); have c1 := Q.out.c 1 (by omega); have c2 := Q.out.c 2 (by omega); have c3 := Q.out.c 3 (by omega)
  go_wp2_with fail
  clear c0 c1 c2 c3
  go_loopw [3, 5, 7] (fun x _ y wr => ∃ k : Nat, x = .int .i64 (cntTo f (64 * k)) ∧ y = .int .i64 k ∧ k ≤ 4 ∧ wr = W) (fun _ _ y _ => 4 - (intOf y).toNat)
  case atStart => exact ⟨0, rfl, rfl, by omega, rfl⟩
  case round =>
    obtain ⟨k, rfl, rfl, hk, rfl⟩ := hrel
    have hle := cnt_le f (64 * k)
    by_cases hgo : k < 4
    · have hi := index4 f hgo
      go_wp2_with fail
      refine (C.out _ (hf k hgo) _).mono ?_
      rintro e w1 ⟨rfl, rfl⟩
      have hn : cntTo f (64 * (k + 1)) = cntTo f (64 * k) + bsum (f k) 64 := cnt_word f k 64 (by omega)
      have hle2 := cnt_le f (64 * (k + 1))
      go_wp2_with fail
      go_roundw
      case rel => exact ⟨k + 1, by go_num, by go_num, by omega, trivial⟩
      case measure => simp [intOf]; omega
    · obtain rfl : k = 4 := by omega
      go_wp2_with fail
      go_ret
      exact ⟨rfl, HB.out⟩
end Go.Proofs.Ytfdgjgmgkcoopaa
