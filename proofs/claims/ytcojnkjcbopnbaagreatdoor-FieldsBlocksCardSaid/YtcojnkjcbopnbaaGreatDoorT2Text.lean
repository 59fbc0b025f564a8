/- Contracts of package text: behind, Len, Sub. -/
import Derived.Test.YtcojnkjcbopnbaaGreatDoorRows
import Derived.Test.YtcojnkjcbopnbaaGreatDoorT2Edge
import Derived.WalkKit
import Derived.WalkSpells
import Derived.WalkLawsBesides
import Derived.Lib.Hide
import Derived.LoopTactic
import Derived.Laws.RangeAny
namespace Go.Proofs.YtcojnkjcbopnbaaGreatDoor.T2
open Go.Proofs.YtcojnkjcbopnbaaGreatDoor Go.Proofs
open Go.RowKit

theorem Below.drewN' {B : Nat} {a w : World} (h : Below B a w) (n : Nat) : Below B a (w.drewN n) := by
  induction n with
  | zero => exact h
  | succ n ih => exact ⟨ih.os, ih.tape, ih.output, ih.size, ih.block⟩

theorem Below.step {w w1 w2 : World} (h : Below w.heap.size w w1) (h2 : Below w1.heap.size w1 w2) : Below w.heap.size w w2 :=
  h.trans (h2.mono h.size)

theorem below_iter (w : World) (s : ByteArray) (pos : Nat) : Below w.heap.size w (w.iter s pos) := (Below.refl _ _).alloc (Nat.le_refl _) _

theorem ret_i64 {a b : Int} (h : a = b) : Ending.returned (.int .i64 a) = .returned (.int .i64 b) := by rw [h]
theorem ret_str {a b : ByteArray} (h : a = b) : Ending.returned (.string a) = .returned (.string b) := by rw [h]

set_option maxRecDepth 100000 in
set_option maxHeartbeats 400000 in
theorem behind_any (s : ByteArray) (m : Nat) (hs : s.size ≤ maxLen) (hm : m ≤ 9223372036854775807) (w : World) :
    Calls Tryz.prog 53 #[.string s, .int .i64 m] w fun e w' => e = .returned (.int .i64 (adv s 0 m)) ∧ Below w.heap.size w w' := by
  unfold maxLen at hs
  go_enter Tryz.func53, Tryz.ntmps53
  go_wp2
  go_loopw [1] (fun n w' => ∃ pos k : Nat, w' = w.iter s pos ∧ n = .int .i64 k ∧ Hid (adv s pos k = adv s 0 m) ∧ pos ≤ s.size ∧ k ≤ m) (fun _ w' => s.size - w'.iterPos w.heap.size)
  case atStart => exact ⟨0, m, rfl, rfl, Lib.hid rfl, by omega, by omega⟩
  case round =>
    obtain ⟨pos, k, rfl, rfl, hadv, hp, hk⟩ := hrel
    by_cases hlt : pos < s.size
    · have hnx : ∀ ty, (Instr.next (.pointer (some ⟨w.heap.size, 0, none⟩)) true ty).run Tryz.prog (w.iter s pos) = _ := fun ty => run_next_any w s pos ty hlt
      have hw1 := cw_le hlt
      have hw2 := cw_pos s pos
      by_cases hk0 : k = 0
      · subst hk0
        go_wp2
        go_ret
        exact ⟨ret_i64 (by rw [← hadv.out]; rfl), below_iter _ _ _⟩
      · have hb : ((k : Int) == 0) = false := by rw [beq_eq_false_iff_ne]; omega
        go_wp2
        go_roundw
        case rel =>
          refine ⟨pos + cw s pos, k - 1, rfl, by go_num, Lib.hid ?_, hw1, by omega⟩
          rw [← hadv.out]
          obtain ⟨j, rfl⟩ : ∃ j, k = j + 1 := ⟨k - 1, by omega⟩
          rw [adv_step hlt]; rfl
        case measure =>
          simp only [World.iterPos_iter]
          unfold cw at hw1 hw2
          omega
    · have hnx : ∀ ty, (Instr.next (.pointer (some ⟨w.heap.size, 0, none⟩)) true ty).run Tryz.prog (w.iter s pos) = _ := fun ty => run_next_end w s pos ty hlt
      go_wp2
      go_ret
      exact ⟨ret_i64 (by rw [← hadv.out, adv_end hlt]; omega), below_iter _ _ _⟩

theorem behind_int (s : ByteArray) (z : Int) (hs : s.size ≤ maxLen) (h0 : 0 ≤ z) (hz : z ≤ 9223372036854775807) (w : World) :
    Calls Tryz.prog 53 #[.string s, .int .i64 z] w fun e w' => e = .returned (.int .i64 (adv s 0 z.toNat)) ∧ Below w.heap.size w w' := by
  obtain ⟨m, rfl⟩ := Int.eq_ofNat_of_zero_le h0
  rw [Int.toNat_natCast]
  exact behind_any s m hs (by omega) w

set_option maxRecDepth 100000 in
set_option maxHeartbeats 400000 in
theorem len_any (s : ByteArray) (hs : s.size ≤ maxLen) (w : World) :
    Calls Tryz.prog 52 #[.string s] w fun e w' => e = .returned (.int .i64 (cnt s 0)) ∧ Below w.heap.size w w' := by
  unfold maxLen at hs
  have hc := cnt_le s s.size 0 (by omega)
  go_enter Tryz.func52, Tryz.ntmps52
  go_wp2
  go_loopw [3] (fun n w' => ∃ pos k : Nat, w' = w.iter s pos ∧ n = .int .i64 k ∧ Hid (k + cnt s pos = cnt s 0) ∧ pos ≤ s.size ∧ k ≤ pos) (fun _ w' => s.size - w'.iterPos w.heap.size)
  case atStart => exact ⟨0, 0, rfl, rfl, Lib.hid (by omega), by omega, by omega⟩
  case round =>
    obtain ⟨pos, k, rfl, rfl, hcnt, hp, hk⟩ := hrel
    by_cases hlt : pos < s.size
    · have hnx : ∀ ty, (Instr.next (.pointer (some ⟨w.heap.size, 0, none⟩)) true ty).run Tryz.prog (w.iter s pos) = _ := fun ty => run_next_any w s pos ty hlt
      have hw1 := cw_le hlt
      have hw2 := cw_pos s pos
      go_wp2
      go_roundw
      case rel => exact ⟨pos + cw s pos, k + 1, rfl, by go_num, Lib.hid (by rw [← hcnt.out, cnt_step hlt]; omega), hw1, by omega⟩
      case measure =>
        simp only [World.iterPos_iter]
        unfold cw at hw1 hw2
        omega
    · have hnx : ∀ ty, (Instr.next (.pointer (some ⟨w.heap.size, 0, none⟩)) true ty).run Tryz.prog (w.iter s pos) = _ := fun ty => run_next_end w s pos ty hlt
      go_wp2
      go_ret
      exact ⟨ret_i64 (by rw [← hcnt.out, cnt_end hlt]; omega), below_iter _ _ _⟩

/-- So many characters behind so many. -/
def subN (s : ByteArray) (a k : Nat) : ByteArray := s.extract (adv s 0 a) (adv s 0 (a + k))
/-- The characters at the places from .. from + many - 1. -/
def subB (s : ByteArray) (f m : Int) : ByteArray :=
  if m < 1 then ⟨#[]⟩ else if f < 1 then (if m - 1 + f < 1 then ⟨#[]⟩ else subN s 0 (m - 1 + f).toNat) else subN s (f - 1).toNat m.toNat

theorem sub_parts (s : ByteArray) (a k : Nat) : (s.extract (adv s 0 a) s.size).extract 0 (adv (s.extract (adv s 0 a) s.size) 0 k) = subN s a k := by
  have h := adv_le s a 0 (Nat.zero_le _)
  have h2 := tail_adv s (adv s 0 a) k 0
  rw [Nat.add_zero, ← adv_add] at h2
  have h3 := adv_le s (a + k) 0 (Nat.zero_le _)
  rw [part_part s (adv s 0 a) s.size 0 _ (by omega), h2]
  rfl

end Go.Proofs.YtcojnkjcbopnbaaGreatDoor.T2
