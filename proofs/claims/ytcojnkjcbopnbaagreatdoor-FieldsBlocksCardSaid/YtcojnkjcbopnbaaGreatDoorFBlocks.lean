/- A record of lines as a text of its own: plain. -/
import Derived.Test.YtcojnkjcbopnbaaGreatDoorFPlain
import Derived.Test.YtcojnkjcbopnbaaGreatDoorT2Cut
namespace Go.Proofs.YtcojnkjcbopnbaaGreatDoor
open Go.RowKit

/-- A text that is no empty line, begins and ends with none, and has none within. -/
def RowOk (R : ByteArray) : Prop := 0 < R.size ∧ bt R 0 ≠ 10 ∧ bt R (R.size - 1) ≠ 10 ∧ ∀ k, k + 1 < R.size → ¬ (bt R k = 10 ∧ bt R (k + 1) = 10)

theorem part_bt (s : ByteArray) (b c k : Nat) (hc : c ≤ s.size) (hk : k < c - b) : bt (s.extract b c) k = bt s (b + k) := by
  have hsz := T2.part_size s b c hc
  have h1 := bt_list (s := s.extract b c) (k := k) (by omega)
  have h2 := bt_list (s := s) (k := b + k) (by omega)
  rw [Lib.extract_data, List.getElem?_take, if_pos hk, List.getElem?_drop, h2] at h1
  simpa using h1.symm

theorem blk_row {s : ByteArray} {b c : Nat} (h : Blk s b c) : RowOk (s.extract b c) := by
  obtain ⟨h1, h2, h3, h4, h5⟩ := h
  have hsz := T2.part_size s b c h2
  refine ⟨by omega, ?_, ?_, fun k hk => ?_⟩
  · rw [part_bt s b c 0 h2 (by omega)]; exact h3
  · rw [part_bt s b c _ h2 (by omega), show b + ((s.extract b c).size - 1) = c - 1 from by omega]; exact h4
  · rw [part_bt s b c k h2 (by omega), part_bt s b c (k + 1) h2 (by omega)]
    exact h5 (b + k) (by omega) (by omega)

theorem ne_ten {x : UInt8} (h : x ≠ 10) : (((x.toNat : Nat) : Int) == 10) = false :=
  beq_eq_false_iff_ne.2 (fun e => h (by apply UInt8.toNat_inj.1; show x.toNat = 10; omega))
end Go.Proofs.YtcojnkjcbopnbaaGreatDoor
