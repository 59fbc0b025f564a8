/- Rows of texts that a call has made, by their base: plain. -/
import Derived.Test.YtcojnkjcbopnbaaGreatDoorBase
namespace Go.Proofs.YtcojnkjcbopnbaaGreatDoor
open Go.RowKit

theorem own_low {w : World} {B B' : Nat} {e : TypeId} {size n : Nat} {v : Value} {xs : List Value} (h : w.ownsRow B e size v n xs) (hle : B' ≤ B) : w.ownsRow B' e size v n xs := by
  refine ⟨h.1, ?_⟩
  rcases h.2 with h0 | ⟨g', cap', cur', e1, hbg, hg, rest⟩
  · exact Or.inl h0
  · exact Or.inr ⟨g', cap', cur', e1, Nat.le_trans hle hbg, hg, rest⟩

/-- A slice of texts that was made since. -/
def NewStrs (w w' : World) (v : Value) (l : List ByteArray) : Prop := w'.ownsRow w.heap.size 9 1 v l.length (l.map Value.string)
theorem NewStrs.shape {w w' : World} {v : Value} {l : List ByteArray} (h : NewStrs w w' v l) : ∃ a c, v = .slice a l.length c := by
  rcases h.2 with ⟨e, h0⟩ | ⟨g', cap', cur, e, _⟩
  · exact ⟨none, 0, by rw [e, h0]⟩
  · exact ⟨_, _, e⟩
end Go.Proofs.YtcojnkjcbopnbaaGreatDoor
