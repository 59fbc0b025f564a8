/- math/bits.OnesCount64 and class.Count: walks. -/
import Derived.Test.YtfdgjgmgkcoopaaQuad
import Derived.Test.YtfdgjgmgkcoopaaPop
namespace Go.Proofs.Ytfdgjgmgkcoopaa
open Go.RowKit

theorem two64 (x : Nat) (d : Nat) (hx : x < 18446744073709551616) : x / d < 18446744073709551616 := Nat.lt_of_le_of_lt (Nat.div_le_self _ _) hx
theorem wrap_nat (a b : Nat) : IntKind.u64.wrap ((a : Int) + (b : Int)) = (((a + b) % 18446744073709551616 : Nat) : Int) := by rw [IntKind.wrap_u64]; omega
theorem lt_mod (a : Nat) : a % 18446744073709551616 < 18446744073709551616 := Nat.mod_lt _ (by decide)

theorem w1 (x : Nat) (hx : x < 18446744073709551616) : IntKind.u64.wrap (bits BinOp.and IntKind.u64 ((x : Int) / 2) 6148914691236517205 + bits BinOp.and IntKind.u64 (x : Int) 6148914691236517205) = (one1 x : Int) := by
  rw [show ((x : Int) / 2) = ((x / 2 : Nat) : Int) from by simp, show (6148914691236517205 : Int) = (M0 : Nat) from rfl, bits_and_u64_nat _ _ (two64 x 2 hx) (by decide), bits_and_u64_nat _ _ hx (by decide), wrap_nat]
  rfl
theorem w2 (x : Nat) (hx : x < 18446744073709551616) : IntKind.u64.wrap (bits BinOp.and IntKind.u64 ((x : Int) / 4) 3689348814741910323 + bits BinOp.and IntKind.u64 (x : Int) 3689348814741910323) = (one2 x : Int) := by
  rw [show ((x : Int) / 4) = ((x / 4 : Nat) : Int) from by simp, show (3689348814741910323 : Int) = (M1 : Nat) from rfl, bits_and_u64_nat _ _ (two64 x 4 hx) (by decide), bits_and_u64_nat _ _ hx (by decide), wrap_nat]
  rfl
theorem w3 (x : Nat) : bits BinOp.and IntKind.u64 (IntKind.u64.wrap ((x : Int) / 16 + (x : Int))) 1085102592571150095 = (one3 x : Int) := by
  rw [show ((x : Int) / 16) = ((x / 16 : Nat) : Int) from by simp, wrap_nat, show (1085102592571150095 : Int) = (M2 : Nat) from rfl, bits_and_u64_nat _ _ (lt_mod _) (by decide)]
  rfl
theorem w4 (x : Nat) : IntKind.u64.wrap ((x : Int) + (x : Int) / 256) = (one4 x : Int) := by
  rw [show ((x : Int) / 256) = ((x / 256 : Nat) : Int) from by simp, wrap_nat]; rfl
theorem w5 (x : Nat) : IntKind.u64.wrap ((x : Int) + (x : Int) / 65536) = (one5 x : Int) := by
  rw [show ((x : Int) / 65536) = ((x / 65536 : Nat) : Int) from by simp, wrap_nat]; rfl
theorem w6 (x : Nat) : IntKind.u64.wrap ((x : Int) + (x : Int) / 4294967296) = (one6 x : Int) := by
  rw [show ((x : Int) / 4294967296) = ((x / 4294967296 : Nat) : Int) from by simp, wrap_nat]; rfl

theorem and127 (f : Nat) (hf : f < 9223372036854775808) : bits BinOp.and IntKind.i64 (wrap64 (f : Int)) 127 = ((f % 128 : Nat) : Int) := by
  have e : wrap64 (f : Int) = f := by unfold wrap64; omega
  have h := bits_mask IntKind.i64 63 (by decide) (fun n h0 h1 => by rw [IntKind.wrap_i64]; omega) 7 (by decide) (f : Int) (by omega) (by omega)
  rw [e]
  exact h

set_option maxRecDepth 100000 in
theorem ones_walk (x : Nat) (hx : x < 18446744073709551616) (w : World) :
    Calls Try.prog 18 #[.int .u64 x] w fun e w' => e = .returned (.int .i64 (bsum x 64)) ∧ w' = w := by
  obtain ⟨a, ha⟩ : ∃ a, a = one1 x := ⟨_, rfl⟩
  obtain ⟨b, hb⟩ : ∃ b, b = one2 a := ⟨_, rfl⟩
  obtain ⟨c, hc⟩ : ∃ c, c = one3 b := ⟨_, rfl⟩
  obtain ⟨d, hd⟩ : ∃ d, d = one4 c := ⟨_, rfl⟩
  obtain ⟨e, he⟩ : ∃ e, e = one5 d := ⟨_, rfl⟩
  obtain ⟨f, hf⟩ : ∃ f, f = one6 e := ⟨_, rfl⟩
  have h1 := w1 x hx
  rw [← ha] at h1
  have h2 := w2 a (by rw [ha]; exact lt_mod _)
  rw [← hb] at h2
  have h3 := w3 b
  rw [← hc] at h3
  have h4 := w4 c
  rw [← hd] at h4
  have h5 := w5 d
  rw [← he] at h5
  have h6 := w6 e
  rw [← hf] at h6
  have hF : f = ones6 x := by rw [hf, he, hd, hc, hb, ha]; rfl
  have HF := Lib.hid hF; clear hF
  clear ha hb hc hd he hf
  go_enter Try.func18, Try.ntmps18
  go_wp2_with fail
  go_ret
  refine ⟨ret_i64 ?_, rfl⟩
  obtain ⟨k1, k2⟩ := ones6_eq x hx
  rw [← HF.out] at k1 k2
  rw [and127 f k2, k1]
end Go.Proofs.Ytfdgjgmgkcoopaa
