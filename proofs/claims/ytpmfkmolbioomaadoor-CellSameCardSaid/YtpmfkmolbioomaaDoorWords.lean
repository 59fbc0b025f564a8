/- Words and blanks, byte by byte; the document's Blank, Words, Trim. -/
import Derived.Test.YtpmfkmolbioomaaDoorBase
import Derived.Test.YtpmfkmolbioomaaDoorCut
import Derived.Test.YtpmfkmolbioomaaDoorShelf
namespace Go.Proofs.YtpmfkmolbioomaaDoor
open Go.RowKit

def blankB (c : UInt8) : Bool := c.toNat == 32 || c.toNat == 9 || c.toNat == 10
def byteAt (s : ByteArray) (i : Nat) : UInt8 := s.get! i

theorem byteAt_eq (s : ByteArray) (i : Nat) (h : i < s.size) : byteAt s i = s[i] := by
  have := get_at s i h
  rw [Nat.add_zero] at this
  exact this

set_option maxRecDepth 100000 in
theorem blank_any (c : UInt8) (w : World) :
    Calls Tryd.prog 36 #[.int .u8 (c.toNat : Int)] w fun e w' => e = .returned (.bool (blankB c)) ∧ w = w' := by
  have hc : c.toNat < 256 := c.toNat_lt
  generalize hn : c.toNat = n at *
  have h : blankB c = (n == 32 || n == 9 || n == 10) := by unfold blankB; rw [hn]
  rw [h]; clear h hn
  by_cases h1 : n = 32
  · subst h1
    go_enter Tryd.func36, Tryd.ntmps36
    go_wp2_with fail
    go_ret
    exact ⟨rfl, rfl⟩
  · by_cases h2 : n = 9
    · subst h2
      go_enter Tryd.func36, Tryd.ntmps36
      go_wp2_with fail
      go_ret
      exact ⟨rfl, rfl⟩
    · by_cases h3 : n = 10
      · subst h3
        go_enter Tryd.func36, Tryd.ntmps36
        go_wp2_with fail
        go_ret
        exact ⟨rfl, rfl⟩
      · have e : (n == 32 || n == 9 || n == 10) = false := by simp only [Bool.or_eq_false_iff, beq_eq_false_iff_ne]; omega
        rw [e]
        have g1 : ((n : Int) == 32) = false := by rw [beq_eq_false_iff_ne]; omega
        have g2 : ((n : Int) == 9) = false := by rw [beq_eq_false_iff_ne]; omega
        have g3 : ((n : Int) == 10) = false := by rw [beq_eq_false_iff_ne]; omega
        clear e h1 h2 h3
        go_enter Tryd.func36, Tryd.ntmps36
        go_wp2_with fail
        go_ret
        exact ⟨rfl, rfl⟩

end Go.Proofs.YtpmfkmolbioomaaDoor
