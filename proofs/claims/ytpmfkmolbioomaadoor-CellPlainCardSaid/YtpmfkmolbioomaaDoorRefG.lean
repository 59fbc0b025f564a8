/- Contracts of the document's answers for numbers: back to an int64. -/
import Derived.Test.YtpmfkmolbioomaaDoorRefE
namespace Go.Proofs.YtpmfkmolbioomaaDoor
open Go.RowKit

theorem suf_le (l : List Nat) : ∀ k, suf l k ≤ val l := by
  intro k
  induction k with
  | zero => exact Nat.le_refl _
  | succ k ih => have := suf_step l k; omega

def BackPost (z : Int) (W : World) (e : Ending) (w' : World) : Prop := e = .returned (ans (back z)) ∧ Below W.heap.size W w'

theorem fits_minus {l : List Nat} : Fits (sv true l) ↔ val l ≤ 9223372036854775808 := by
  unfold Fits sv; simp; omega
theorem fits_plus {l : List Nat} : Fits (sv false l) ↔ val l ≤ 9223372036854775807 := by
  unfold Fits sv; simp; omega

set_option maxRecDepth 100000 in
set_option maxHeartbeats 1000000 in
theorem back_any (m : Bool) (p : Option Addr) (n c : Nat) (l : List Nat) (w : World) (h : Rd w p n c l) :
    Calls Tryd.prog 39 #[.agg #[.bool m, .slice p n c]] w (BackPost (sv m l) w) := by
  have hn := h.size
  have hcp := h.cap
  have HR := Lib.hid h; clear h
  have HO := Lib.hid (fun w' => of_any (-9223372036854775808) w' (by decide))
  have t0 := two_new w (.bool m) (.slice p n c) 53
  have bl := (Below.refl w.heap.size w).alloc (Nat.le_refl _) (.cells #[.bool m, .slice p n c] 53)
  have HT0 := Lib.hid t0; clear t0
  have HBL := Lib.hid bl; clear bl
  go_enter Tryd.func39, Tryd.ntmps39
  go_wp2_with fail
  refine (HO.out _).mono ?_
  rintro e w1 ⟨mp, mn, mc, rfl, hrd, hb1⟩
  have hfield : ∀ w, (Instr.field 53 (.agg #[.bool true, .slice mp mn mc]) 1).run Tryd.prog w = .ok (.slice mp mn mc) w := fun _ => by kernel_rfl
  have T := HT0.out.below hb1 (by simp)
  have c0 := T.c0; have c1 := T.c1
  have HB1 := Lib.hid (HBL.out.trans (hb1.mono (by simp)))
  have HRM := Lib.hid hrd; clear hrd
  have HRL := Lib.hid (HR.out.below HB1.out)
  have hmost : val (dg 20 (-9223372036854775808 : Int).natAbs) = 9223372036854775808 := dg_val 20 _ (by decide)
  have hl1 := fun w' (e : w1 = w') => less_any mp p mn n mc c _ _ w' (e ▸ HRM.out) (e ▸ HRL.out)
  have hl2 := fun w' (e : w1 = w') => less_any p mp n mn c mc _ _ w' (e ▸ HRL.out) (e ▸ HRM.out)
  rw [hmost] at hl1 hl2
  have HL1 := Lib.hid hl1; clear hl1
  have HL2 := Lib.hid hl2; clear hl2
  clear hmost T hb1
  by_cases hover : 9223372036854775808 < val l
  · have hd : decide (9223372036854775808 < val l) = true := by simp; omega
    rw [hd] at HL1
    have hans : ans (back (sv m l)) = .tuple #[.int .i64 0, .int .i64 10] := ans_no (by cases m <;> simp only [fits_minus, fits_plus] <;> omega)
    have HANS := Lib.hid hans
    clear hd hover hans
    go_wp2_with fail
    refine (HL1.out _ rfl).mono ?_
    rintro e w2 ⟨rfl, rfl⟩
    go_wp2_with fail
    go_ret2
    exact ⟨by rw [HANS.out]; rfl, HB1.out⟩
  · have hd : decide (9223372036854775808 < val l) = false := by simp; omega
    rw [hd] at HL1
    clear hd
    cases m
    · by_cases hlt : val l < 9223372036854775808
      · have hd2 : decide (val l < 9223372036854775808) = true := by simp; omega
        rw [hd2] at HL2
        clear hd2 hover
        have hv := Lib.hid hlt; clear hlt
        go_wp2_with fail
        refine (HL1.out _ rfl).mono ?_
        rintro e w2 ⟨rfl, rfl⟩
        go_wp2_with fail
        refine (HL2.out _ rfl).mono ?_
        rintro e w2 ⟨rfl, rfl⟩
        go_wp2_with fail
        go_loop [5, 6] (fun x i => ∃ s : Nat, ∃ j : Int, x = .int .i64 s ∧ i = .int .i64 j ∧ -1 ≤ j ∧ j < n ∧ Hid (s = suf l (j + 1).toNat)) (fun _ i => (intOf i + 1).toNat)
        case atStart => exact ⟨0, _, rfl, rfl, by omega, by omega, Lib.hid (by rw [suf_end l _ (by have := HR.out.len; omega)])⟩
        case round =>
          obtain ⟨s, j, rfl, rfl, hj1, hj2, hs⟩ := hrel
          by_cases h0 : 0 ≤ j
          · obtain ⟨k, rfl⟩ := Int.eq_ofNat_of_zero_le h0
            rcases HRL.out.cells with hx | ⟨ba, off, rfl, hlt, hx⟩
            · exfalso
              have := HR.out.len
              rw [hx] at this; simp at this; omega
            obtain ⟨x, hxe⟩ : ∃ x, x = l.getD k 0 := ⟨_, rfl⟩
            have hcell := hx k (by have := HR.out.len; omega)
            rw [← hxe] at hcell
            have hst : suf l k = x + 10 * s := by
              rw [suf_step, ← hxe, hs.out, show ((k : Int) + 1).toNat = k + 1 from by omega]
            have hle : x + 10 * s ≤ 9223372036854775807 := by have := suf_le l k; have := hv.out; omega
            have hx9 : x < 10 := by rw [hxe]; exact HR.out.digs.getD k
            have HST := Lib.hid hst; clear hst hxe hx
            go_wp2_with fail
            go_round
            case rel => exact ⟨x + 10 * s, (k : Int) - 1, by go_num, rfl, by omega, by omega, Lib.hid (by rw [← HST.out, show ((k : Int) - 1 + 1).toNat = k from by omega])⟩
            case measure => simp [intOf]
          · obtain rfl : j = -1 := by omega
            have hfin : s = val l := by have := hs.out; rw [show ((-1 : Int) + 1).toNat = 0 from rfl, suf_zero] at this; exact this
            have hans : ans (back (sv false l)) = .tuple #[.int .i64 (s : Int), .int .i64 0] := by
              rw [ans_yes (fits_plus.2 (by have := hv.out; omega)), hfin]; rfl
            have HANS := Lib.hid hans
            clear hfin hans
            go_wp2_with fail
            go_ret2
            exact ⟨by rw [HANS.out]; rfl, HB1.out⟩
      · have hd2 : decide (val l < 9223372036854775808) = false := by simp; omega
        rw [hd2] at HL2
        have hans : ans (back (sv false l)) = .tuple #[.int .i64 0, .int .i64 10] := ans_no (by rw [fits_plus]; omega)
        have HANS := Lib.hid hans
        clear hd2 hover hlt hans
        go_wp2_with fail
        refine (HL1.out _ rfl).mono ?_
        rintro e w2 ⟨rfl, rfl⟩
        go_wp2_with fail
        refine (HL2.out _ rfl).mono ?_
        rintro e w2 ⟨rfl, rfl⟩
        go_wp2_with fail
        go_ret2
        exact ⟨by rw [HANS.out]; rfl, HB1.out⟩
    · have hv := Lib.hid hover; clear hover
      go_wp2_with fail
      refine (HL1.out _ rfl).mono ?_
      rintro e w2 ⟨rfl, rfl⟩
      go_wp2_with fail
      go_loop [5, 6] (fun x i => ∃ s : Nat, ∃ j : Int, x = .int .i64 (-(s : Int)) ∧ i = .int .i64 j ∧ -1 ≤ j ∧ j < n ∧ Hid (s = suf l (j + 1).toNat)) (fun _ i => (intOf i + 1).toNat)
      case atStart => exact ⟨0, _, rfl, rfl, by omega, by omega, Lib.hid (by rw [suf_end l _ (by have := HR.out.len; omega)])⟩
      case round =>
        obtain ⟨s, j, rfl, rfl, hj1, hj2, hs⟩ := hrel
        by_cases h0 : 0 ≤ j
        · obtain ⟨k, rfl⟩ := Int.eq_ofNat_of_zero_le h0
          rcases HRL.out.cells with hx | ⟨ba, off, rfl, hlt, hx⟩
          · exfalso
            have := HR.out.len
            rw [hx] at this; simp at this; omega
          obtain ⟨x, hxe⟩ : ∃ x, x = l.getD k 0 := ⟨_, rfl⟩
          have hcell := hx k (by have := HR.out.len; omega)
          rw [← hxe] at hcell
          have hst : suf l k = x + 10 * s := by
            rw [suf_step, ← hxe, hs.out, show ((k : Int) + 1).toNat = k + 1 from by omega]
          have hle : x + 10 * s ≤ 9223372036854775808 := by have := suf_le l k; have := hv.out; omega
          have hx9 : x < 10 := by rw [hxe]; exact HR.out.digs.getD k
          have HST := Lib.hid hst; clear hst hxe hx
          go_wp2_with fail
          go_round
          case rel => exact ⟨x + 10 * s, (k : Int) - 1, by go_num, rfl, by omega, by omega, Lib.hid (by rw [← HST.out, show ((k : Int) - 1 + 1).toNat = k from by omega])⟩
          case measure => simp [intOf]
        · obtain rfl : j = -1 := by omega
          have hfin : s = val l := by have := hs.out; rw [show ((-1 : Int) + 1).toNat = 0 from rfl, suf_zero] at this; exact this
          have hans : ans (back (sv true l)) = .tuple #[.int .i64 (-(s : Int)), .int .i64 0] := by
            rw [ans_yes (fits_minus.2 (by have := hv.out; omega)), hfin]; rfl
          have HANS := Lib.hid hans
          clear hfin hans
          go_wp2_with fail
          go_ret2
          exact ⟨by rw [HANS.out]; rfl, HB1.out⟩
end Go.Proofs.YtpmfkmolbioomaaDoor
