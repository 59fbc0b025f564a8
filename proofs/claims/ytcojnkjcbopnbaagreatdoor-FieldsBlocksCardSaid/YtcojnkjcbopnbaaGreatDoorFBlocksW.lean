/- FieldsBlocks: a walk. -/
import Derived.Test.YtcojnkjcbopnbaaGreatDoorFLives
import Derived.Test.YtcojnkjcbopnbaaGreatDoorFNext
import Derived.Test.YtcojnkjcbopnbaaGreatDoorFBlocks
namespace Go.Proofs.YtcojnkjcbopnbaaGreatDoor.fieldsBlocks
open Go.RowKit

set_option maxRecDepth 100000 in
theorem walk_lives (s : ByteArray) (h : 200 < s.size) (w : World) :
    Calls Tryz.prog 4 #[.string s] w fun e w' => e = .returned (.bool true) ∧ Below w.heap.size w w' := by
  have HL := Lib.hid (lives9 w)
  have hd : decide (200 < (s.size : Int)) = true := decide_eq_true (by omega)
  go_enter Tryz.func4, Tryz.ntmps4
  go_wp2_with fail
  refine HL.out.mono ?_
  rintro e w1 ⟨rfl, b1⟩
  have B1 := Lib.hid b1
  clear b1
  go_wp2_with fail
  go_ret
  exact ⟨rfl, B1.out⟩

set_option maxRecDepth 100000 in
set_option maxHeartbeats 1000000 in
theorem walk_all (s : ByteArray) (hs : s.size ≤ 200) (w : World) (hm : MX9 w) :
    Calls Tryz.prog 4 #[.string s] w fun e w' => e = .returned (.bool true) ∧ Below w.heap.size w w' := by
  have HL := Lib.hid lives9
  have HM := Lib.hid hm
  have hd : decide (200 < (s.size : Int)) = false := decide_eq_false (by omega)
  clear hm
  go_enter Tryz.func4, Tryz.ntmps4
  go_wp2_with fail
  go_loopw [3, 4] (fun y z wr => ∃ a i : Nat, y = .int .i64 a ∧ z = .int .i64 i ∧ i ≤ a ∧ a ≤ s.size ∧ Hid (Below w.heap.size w wr)) (fun _ z _ => s.size + 1 - (intOf z).toNat)
  case atStart => exact ⟨0, 0, rfl, rfl, by omega, by omega, Lib.hid (Below.refl _ _)⟩
  case round =>
    obtain ⟨a, i, rfl, rfl, hia, ha, hbel⟩ := hrel
    have di : decide ((i : Int) ≤ s.size) = true := decide_eq_true (by omega)
    by_cases hlt : a < s.size
    · have N1 := Lib.hid (next_par s a hlt (by omega) wr (HM.out.after hbel.out))
      go_wp2_with fail
      refine N1.out.mono ?_
      rintro e w1 ⟨b1, rfl | ⟨b, c, n, rfl, h⟩⟩
      · have B1 := Lib.hid (Below.step hbel.out b1)
        clear b1 N1
        go_wp2_with fail
        refine (HL.out _).mono ?_
        rintro e w3 ⟨rfl, b3⟩
        have B3 := Lib.hid (Below.step B1.out b3)
        clear b3
        go_wp2_with fail
        go_ret
        exact ⟨rfl, B3.out⟩
      · have B1 := Lib.hid (Below.step hbel.out b1)
        have hR := blk_row h.out.1
        have hn1 : a < n := by have h1 := h.out.1.1; have h2 := h.out.2.1; have h3 := h.out.2.2.1; omega
        have hn2 := h.out.2.2.2
        have hRn : (s.extract b c).size ≤ 200 := by simp only [ByteArray.size_extract]; omega
        obtain ⟨R, hRe⟩ : ∃ R, R = s.extract b c := ⟨_, rfl⟩
        rw [← hRe] at hR hRn ⊢
        obtain ⟨m, hm⟩ : ∃ m, m = R.size - 1 := ⟨_, rfl⟩
        obtain ⟨r1, r2, r3, r4⟩ := hR
        have hml : m < R.size := by omega
        have em : ((R.size : Int) - 1).toNat = m := by omega
        rw [← hm] at r3
        rw [bt_in r1] at r2
        rw [bt_in hml] at r3
        have f1 := ne_ten r2
        have f2 := ne_ten r3
        have f0 : ((R.size : Int) == 0) = false := beq_eq_false_iff_ne.2 (by omega)
        have d3 : decide ((n : Int) ≤ a) = false := decide_eq_false (by omega)
        have d4 : decide ((s.size : Int) < n) = false := decide_eq_false (by omega)
        have R4 := Lib.hid r4
        have dn1 : decide (n ≤ a) = false := decide_eq_false (by omega)
        have dn2 : decide (s.size < n) = false := decide_eq_false (by omega)
        clear b1 N1 h hRe hm r2 r3 r4
        obtain ⟨wo, rfl⟩ : ∃ wo : World, wo = wr := ⟨_, rfl⟩
        go_wp2_with fail
        go_loopw [9] (fun x wr => ∃ k : Nat, x = .int .i64 k ∧ k < R.size ∧ wr = w1) (fun x _ => R.size - (intOf x).toNat)
        case atStart => exact ⟨0, rfl, r1, rfl⟩
        case round =>
          obtain ⟨k, rfl, hk, hwr⟩ := hrel
          subst hwr
          by_cases hk1 : k + 1 < R.size
          · have dk : decide ((k : Int) + 1 < R.size) = true := decide_eq_true (by omega)
            have ek : ((k : Int) + 1).toNat = k + 1 := by omega
            have h10 := R4.out k hk1
            rw [bt_in hk, bt_in hk1] at h10
            by_cases h1 : R[k] = 10
            · have g1 : (((R[k].toNat : Nat) : Int) == 10) = true := by rw [h1]; rfl
              have g2 := ne_ten (x := R[k + 1]) (fun h => h10 ⟨h1, h⟩)
              clear h10 h1
              go_wp2_with fail
              go_roundw
              case rel => exact ⟨k + 1, by go_num, hk1, trivial⟩
              case measure => simp [intOf]; omega
            · have g1 := ne_ten h1
              clear h10 h1
              go_wp2_with fail
              go_roundw
              case rel => exact ⟨k + 1, by go_num, hk1, trivial⟩
              case measure => simp [intOf]; omega
          · have dk : decide ((k : Int) + 1 < R.size) = false := decide_eq_false (by omega)
            go_wp2_with fail
            go_roundw
            case rel => exact ⟨n, i + 1, rfl, by go_num, by omega, hn2, B1⟩
            case measure => simp [intOf]; omega
    · have N1 := Lib.hid (next_end s ⟨#[]⟩ a (by omega) wr)
      go_wp2_with fail
      refine N1.out.mono ?_
      rintro e w1 ⟨e0, e1⟩
      unfold NoRec at e0
      subst e0 e1
      go_wp2_with fail
      refine (HL.out _).mono ?_
      rintro e w3 ⟨rfl, b3⟩
      have B3 := Lib.hid (Below.step hbel.out b3)
      clear b3
      go_wp2_with fail
      go_ret
      exact ⟨rfl, B3.out⟩

theorem walk (s : ByteArray) (_ : s.size ≤ maxLen) (w : World) (hm : MX9 w) :
    Calls Tryz.prog 4 #[.string s] w fun e w' => e = .returned (.bool true) ∧ Below w.heap.size w w' := by
  by_cases h : 200 < s.size
  · exact walk_lives s h w
  · exact walk_all s (by omega) w hm
end Go.Proofs.YtcojnkjcbopnbaaGreatDoor.fieldsBlocks
