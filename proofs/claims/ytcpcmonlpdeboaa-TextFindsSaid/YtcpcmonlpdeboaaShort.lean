/- Contract of aukletlaw02.short. -/
import Derived.Test.YtcpcmonlpdeboaaText
namespace Go.Proofs.Ytcpcmonlpdeboaa
open Go.RowKit

/-- A text cut at 300 bytes. -/
def shortB (s : ByteArray) : ByteArray := if 300 < s.size then s.extract 0 300 else s
theorem short_size (s : ByteArray) : (shortB s).size ≤ 300 := by
  unfold shortB
  split
  · rw [ByteArray.size_extract]; omega
  · omega

theorem short_any (s : ByteArray) (hs : s.size ≤ maxLen) (w : World) :
    Calls Try.prog 13 #[.string s] w fun e w' => e = .returned (.string (shortB s)) ∧ w = w' := by
  unfold maxLen at hs
  by_cases h : 300 < s.size
  · rw [show shortB s = s.extract 0 300 from by unfold shortB; rw [if_pos h]]
    go_enter Try.func13, Try.ntmps13
    go_wp2_with fail
    go_ret
    exact ⟨rfl, rfl⟩
  · rw [show shortB s = s from by unfold shortB; rw [if_neg h]]
    go_enter Try.func13, Try.ntmps13
    go_wp2_with fail
    go_ret
    exact ⟨rfl, rfl⟩
end Go.Proofs.Ytcpcmonlpdeboaa
