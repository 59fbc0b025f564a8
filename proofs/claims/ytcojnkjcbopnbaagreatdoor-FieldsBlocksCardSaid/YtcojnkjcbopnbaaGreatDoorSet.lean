/- Sets of bytes as four words: plain Lean. -/
import Derived.Test.YtcojnkjcbopnbaaGreatDoorBase
namespace Go.Proofs.YtcojnkjcbopnbaaGreatDoor

/-- The four words of a set. -/
def words (f : Nat → Nat) : Array Value := #[.int .u64 (f 0), .int .u64 (f 1), .int .u64 (f 2), .int .u64 (f 3)]
/-- Whether a byte is in it. -/
def bit (f : Nat → Nat) (c : Nat) : Bool := (f (c / 64)).testBit (c % 64)
def Fits (f : Nat → Nat) : Prop := ∀ k, k < 4 → f k < 18446744073709551616

theorem words_get (f : Nat → Nat) {k : Nat} (h : k < 4) : (words f)[k]? = some (.int .u64 (f k)) := by
  have : k = 0 ∨ k = 1 ∨ k = 2 ∨ k = 3 := by omega
  rcases this with rfl | rfl | rfl | rfl <;> rfl
theorem words_set (f : Nat → Nat) {k : Nat} (h : k < 4) (x : Nat) : (words f).setIfInBounds k (.int .u64 x) = words (fun j => if j = k then x else f j) := by
  have : k = 0 ∨ k = 1 ∨ k = 2 ∨ k = 3 := by omega
  rcases this with rfl | rfl | rfl | rfl <;> rfl
theorem words_congr {f g : Nat → Nat} (h : ∀ k, k < 4 → f k = g k) : words f = words g := by
  unfold words
  rw [h 0 (by omega), h 1 (by omega), h 2 (by omega), h 3 (by omega)]

theorem word_ext {f g : Nat → Nat} (hf : Fits f) (hg : Fits g) (h : ∀ c, c < 256 → bit f c = bit g c) : ∀ k, k < 4 → f k = g k := by
  intro k hk
  apply Nat.eq_of_testBit_eq
  intro i
  rcases Nat.lt_or_ge i 64 with hi | hi
  · have h1 := h (64 * k + i) (by omega)
    unfold bit at h1
    have e1 : (64 * k + i) / 64 = k := by omega
    have e2 : (64 * k + i) % 64 = i := by omega
    rwa [e1, e2] at h1
  · have hp : 18446744073709551616 ≤ 2 ^ i := Nat.pow_le_pow_right (n := 2) (i := 64) (by decide) hi
    rw [Nat.testBit_lt_two_pow (Nat.lt_of_lt_of_le (hf k hk) hp), Nat.testBit_lt_two_pow (Nat.lt_of_lt_of_le (hg k hk) hp)]
theorem words_ext {f g : Nat → Nat} (hf : Fits f) (hg : Fits g) (h : ∀ c, c < 256 → bit f c = bit g c) : words f = words g := words_congr (word_ext hf hg h)

theorem bit_of (x k : Nat) : x.testBit k = ((x >>> k) % 2 == 1) := by
  rw [Nat.testBit_eq_decide_div_mod_eq, Nat.shiftRight_eq_div_pow]
  by_cases h : x / 2 ^ k % 2 = 1 <;> simp [h]
end Go.Proofs.YtcojnkjcbopnbaaGreatDoor
