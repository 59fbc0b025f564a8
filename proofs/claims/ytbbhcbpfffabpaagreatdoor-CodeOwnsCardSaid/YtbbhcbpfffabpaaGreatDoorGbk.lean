/- Merged by program: C15A, C15Cz, C15Dz, T1RefG, T1RefH, T1RefK, T2Begins. -/
import Derived.Test.YtbbhcbpfffabpaaGreatDoorGao
import Derived.Test.YtbbhcbpfffabpaaGreatDoorGbg
import Derived.Test.YtbbhcbpfffabpaaGreatDoorGbb
import Derived.Test.YtbbhcbpfffabpaaGreatDoorGbc
import Derived.Test.YtbbhcbpfffabpaaGreatDoorGaf
/- Cells' numbers and truths: the program's Num, Truth, the document's. -/
namespace Go.Proofs.YtbbhcbpfffabpaaGreatDoor
open Go.RowKit T3

/-- A cell's number, and why there is none. -/
def numL (k n : Int) (s : ByteArray) : Int × Int := if k = 2 then (pN s.data.toList, pR s.data.toList) else (if k = 1 ∨ k = 3 then n else 0, 0)
def truthL (k n : Int) (s : ByteArray) : Bool := if k = 2 then decide (s.size ≠ 0) else decide (k = 1 ∨ k = 3) && decide (n ≠ 0)
def two (p : Int × Int) : Value := .tuple #[.int .i64 p.1, .int .i64 p.2]

theorem ne_lit {s t : ByteArray} (h : s ≠ t) : (s.toList == t.toList) = false := by
  rw [beq_eq_false_iff_ne]
  intro e
  rw [Lib.toList_data, Lib.toList_data] at e
  exact h (by cases s; cases t; simpa using e)
theorem size_pos {s : ByteArray} (h : s ≠ ⟨#[]⟩) : s.size ≠ 0 := by
  intro e
  exact h (by cases s with | mk d => exact congrArg ByteArray.mk (Array.eq_empty_of_size_eq_zero e))

set_option maxRecDepth 100000 in
theorem leadingZ_any (s : ByteArray) (hs : s.size ≤ 281474976710656) (w : World) :
    Calls Tryz.prog 72 #[.string s] w fun e w' => e = .returned (two (pN s.data.toList, pR s.data.toList)) ∧ Below w.heap.size w w' := by
  have HP := Lib.hid (fun w => parse_any s w hs)
  clear hs
  go_enter Tryz.func72, Tryz.ntmps72
  go_wp2_with fail
  refine (HP.out _).mono ?_
  rintro e w1 ⟨rfl, b1⟩
  rw [parse_three]
  have B1 : Hid (Below w.heap.size w w1) := Lib.hid (by first | exact b1 | (rw [← b1]; exact Below.refl _ _))
  clear b1
  go_wp2_with fail
  go_ret2
  exact ⟨rfl, B1.out⟩

set_option maxRecDepth 100000 in
theorem num_any (k n : Int) (s : ByteArray) (hs : s.size ≤ 281474976710656) (w : World) :
    Calls Tryz.prog 42 #[.agg #[.int .i64 k, .int .i64 n, .string s]] w fun e w' => e = .returned (two (numL k n s)) ∧ Below w.heap.size w w' := by
  have HL := Lib.hid (fun w => leadingZ_any s hs w)
  have B0 := Lib.hid ((Below.refl w.heap.size w).alloc (Nat.le_refl _) (.cells #[.int .i64 k, .int .i64 n, .string s] 25))
  rcases kind_cases k with rfl | rfl | rfl | rfl | ⟨g0, g1, g2, g3⟩
  · rw [show numL 0 n s = (0, 0) from rfl]
    go_enter Tryz.func42, Tryz.ntmps42
    go_wp2_with fail
    go_ret2
    exact ⟨rfl, B0.out⟩
  · rw [show numL 1 n s = (n, 0) from rfl]
    go_enter Tryz.func42, Tryz.ntmps42
    go_wp2_with fail
    go_ret2
    exact ⟨rfl, B0.out⟩
  · rw [show numL 2 n s = (pN s.data.toList, pR s.data.toList) from rfl]
    go_enter Tryz.func42, Tryz.ntmps42
    go_wp2_with fail
    refine (HL.out _).mono ?_
    rintro e w1 ⟨rfl, b1⟩
    unfold two
    have B1 := Lib.hid (Below.step B0.out b1)
    clear b1
    go_wp2_with fail
    go_ret2
    exact ⟨rfl, B1.out⟩
  · rw [show numL 3 n s = (n, 0) from rfl]
    go_enter Tryz.func42, Tryz.ntmps42
    go_wp2_with fail
    go_ret2
    exact ⟨rfl, B0.out⟩
  · rw [show numL k n s = (0, 0) from by rw [beq_eq_false_iff_ne] at g1 g2 g3; unfold numL; rw [if_neg g2, if_neg (by simp [g1, g3])]]
    go_enter Tryz.func42, Tryz.ntmps42
    go_wp2_with fail
    go_ret2
    exact ⟨rfl, B0.out⟩

set_option maxRecDepth 100000 in
theorem refNumZ_any (k n : Int) (s : ByteArray) (hs : s.size ≤ 300) (w : World) :
    Calls Tryz.prog 27 #[.agg #[.int .i64 k, .int .i64 n, .string s]] w fun e w' => e = .returned (two (numL k n s)) ∧ Below w.heap.size w w' := by
  have HL := Lib.hid (fun w => refParse_any s w hs)
  have B0 := Lib.hid ((Below.refl w.heap.size w).alloc (Nat.le_refl _) (.cells #[.int .i64 k, .int .i64 n, .string s] 25))
  rcases kind_cases k with rfl | rfl | rfl | rfl | ⟨g0, g1, g2, g3⟩
  · rw [show numL 0 n s = (0, 0) from rfl]
    go_enter Tryz.func27, Tryz.ntmps27
    go_wp2_with fail
    go_ret2
    exact ⟨rfl, B0.out⟩
  · rw [show numL 1 n s = (n, 0) from rfl]
    go_enter Tryz.func27, Tryz.ntmps27
    go_wp2_with fail
    go_ret2
    exact ⟨rfl, B0.out⟩
  · rw [show numL 2 n s = (pN s.data.toList, pR s.data.toList) from rfl]
    go_enter Tryz.func27, Tryz.ntmps27
    go_wp2_with fail
    refine (HL.out _).mono ?_
    rintro e w1 ⟨rfl, b1⟩
    rw [parse_three]
    have B1 := Lib.hid (Below.step B0.out b1)
    clear b1
    go_wp2_with fail
    go_ret2
    exact ⟨rfl, B1.out⟩
  · rw [show numL 3 n s = (n, 0) from rfl]
    go_enter Tryz.func27, Tryz.ntmps27
    go_wp2_with fail
    go_ret2
    exact ⟨rfl, B0.out⟩
  · rw [show numL k n s = (0, 0) from by rw [beq_eq_false_iff_ne] at g1 g2 g3; unfold numL; rw [if_neg g2, if_neg (by simp [g1, g3])]]
    go_enter Tryz.func27, Tryz.ntmps27
    go_wp2_with fail
    go_ret2
    exact ⟨rfl, B0.out⟩

end Go.Proofs.YtbbhcbpfffabpaaGreatDoor

/- The document's Two of layer 15 (gen_c15c.py). -/
namespace Go.Proofs.YtbbhcbpfffabpaaGreatDoor
open Go.RowKit T3

theorem numL_fits (k n : Int) (s : ByteArray) (hn : Fits n) : Fits (numL k n s).1 := by
  have h0 : Fits 0 := by unfold Fits; omega
  unfold numL
  split
  · show Fits (pN s.data.toList)
    unfold pN
    split
    · exact h0
    · unfold back
      split
      · assumption
      · exact h0
  · show Fits (if k = 1 ∨ k = 3 then n else 0)
    split
    · exact hn
    · exact h0
end Go.Proofs.YtbbhcbpfffabpaaGreatDoor

/- The document's One, Count, Join of layer 15 (gen_c15d.py). -/
namespace Go.Proofs.YtbbhcbpfffabpaaGreatDoor
open Go.RowKit T3

theorem tdiv_fits (x : Int) (hx : Fits x) : -9223372036854775808 ≤ x.tdiv 1000000 ∧ x.tdiv 1000000 ≤ 9223372036854775807 := by
  unfold Fits at hx
  rcases Int.le_total 0 x with h | h
  · rw [Int.tdiv_eq_ediv_of_nonneg h]
    omega
  · have e : x.tdiv 1000000 = -((-x) / 1000000) := by
      have h2 := Int.neg_tdiv (a := -x) (b := 1000000)
      rw [Int.neg_neg] at h2
      rw [h2, Int.tdiv_eq_ediv_of_nonneg (by omega)]
    rw [e]
    omega
/-- A cell's number of ones. -/
def countF (p : Int × Int) : Value := if p.2 = 0 then .tuple #[.int .i64 (p.1.tdiv 1000000), .int .i64 0] else .tuple #[.int .i64 0, .int .i64 p.2]
set_option maxRecDepth 100000 in
set_option maxHeartbeats 1000000 in
theorem refCountZ_any (k n : Int) (s : ByteArray) (hn : Fits n) (hs : s.size ≤ 300) (w : World) :
    Calls Tryz.prog 31 #[.agg (cellC k n s)] w fun e w' => e = .returned (countF (numL k n s)) ∧ Below w.heap.size w w' := by
  have HN := Lib.hid (fun w => refNumZ_any k n s hs w)
  obtain ⟨x, p2, hp⟩ : ∃ x p2, numL k n s = (x, p2) := ⟨_, _, rfl⟩
  have hx : Fits x := by have := numL_fits k n s hn; rw [hp] at this; exact this
  rw [hp] at HN ⊢
  clear hp hn hs
  obtain ⟨W, hW, HX, HB, _⟩ := cx_new w (cellC k n s)
  by_cases h1 : p2 = 0
  · subst h1
    have hw : wrap64 (x.tdiv 1000000) = x.tdiv 1000000 := by
      have := tdiv_fits x hx
      exact IntWalk.wrap64_in _ ⟨by omega, by omega⟩
    have HW := Lib.hid hw
    clear hx hw
    go_enter Tryz.func31, Tryz.ntmps31
    go_upto_region 1 with (fail)
    change Code.wp _ _ _ _ (w.alloc (.cells (cellC k n s) 25))
    rw [← hW]
    clear hW
    obtain ⟨a0, a1, a2⟩ := three_of HX.out
    go_wp2_with fail
    refine (HN.out _).mono ?_
    rintro e w1 ⟨rfl, bb⟩
    have HB1 := Lib.hid (Below.step HB.out bb)
    unfold two
    clear bb a0 a1 a2
    go_wp2_with fail
    go_ret2
    refine ⟨?_, HB1.out⟩
    show Ending.returned (.tuple #[.int .i64 (wrap64 (x.tdiv 1000000)), .int .i64 0]) = _
    rw [HW.out]
    rfl
  · have hne : (p2 != 0) = true := by simpa using h1
    rw [show countF (x, p2) = .tuple #[.int .i64 0, .int .i64 p2] from if_neg h1]
    clear h1 hx
    go_enter Tryz.func31, Tryz.ntmps31
    go_upto_region 1 with (fail)
    change Code.wp _ _ _ _ (w.alloc (.cells (cellC k n s) 25))
    rw [← hW]
    clear hW
    obtain ⟨a0, a1, a2⟩ := three_of HX.out
    go_wp2_with fail
    refine (HN.out _).mono ?_
    rintro e w1 ⟨rfl, bb⟩
    have HB1 := Lib.hid (Below.step HB.out bb)
    unfold two
    clear bb a0 a1 a2
    go_wp2_with fail
    go_ret2
    exact ⟨rfl, HB1.out⟩
end Go.Proofs.YtbbhcbpfffabpaaGreatDoor

/- Contracts of the document's answers for numbers: back to an int64. -/
namespace Go.Proofs.YtbbhcbpfffabpaaGreatDoor.T1
open Go.Proofs.YtbbhcbpfffabpaaGreatDoor Go.Proofs
open Go.RowKit

theorem suf_le (l : List Nat) : ∀ k, suf l k ≤ val l := by
  intro k
  induction k with
  | zero => exact Nat.le_refl _
  | succ k ih => have := suf_step l k; omega

def BackPost (z : Int) (W : World) (e : Ending) (w' : World) : Prop := e = .returned (ans (back z)) ∧ Below W.heap.size W w'

theorem fits_minus {l : List Nat} : Fits (sv true l) ↔ val l ≤ 9223372036854775808 := by
  unfold Fits sv; simp; omega
theorem fits_plus {l : List Nat} : Fits (sv false l) ↔ val l ≤ 9223372036854775807 := by
  unfold Fits sv; simp; omega

set_option maxRecDepth 100000 in
set_option maxHeartbeats 1000000 in
theorem back_any (m : Bool) (p : Option Addr) (n c : Nat) (l : List Nat) (w : World) (h : Rd w p n c l) :
    Calls Tryz.prog 49 #[.agg #[.bool m, .slice p n c]] w (BackPost (sv m l) w) := by
  have hn := h.size
  have hcp := h.cap
  have HR := Lib.hid h; clear h
  have HO := Lib.hid (fun w' => of_any (-9223372036854775808) w' (by decide))
  have t0 := two_new w (.bool m) (.slice p n c) 62
  have bl := (Below.refl w.heap.size w).alloc (Nat.le_refl _) (.cells #[.bool m, .slice p n c] 62)
  have HT0 := Lib.hid t0; clear t0
  have HBL := Lib.hid bl; clear bl
  go_enter Tryz.func49, Tryz.ntmps49
  go_wp2_with fail
  refine (HO.out _).mono ?_
  rintro e w1 ⟨mp, mn, mc, rfl, hrd, hb1⟩
  have hfield : ∀ w, (Instr.field 62 (.agg #[.bool true, .slice mp mn mc]) 1).run Tryz.prog w = .ok (.slice mp mn mc) w := fun _ => by kernel_rfl
  have T := HT0.out.below hb1 (by simp)
  have c0 := T.c0; have c1 := T.c1
  have HB1 := Lib.hid (HBL.out.trans (hb1.mono (by simp)))
  have HRM := Lib.hid hrd; clear hrd
  have HRL := Lib.hid (HR.out.below HB1.out)
  have hmost : val (dg 20 (-9223372036854775808 : Int).natAbs) = 9223372036854775808 := dg_val 20 _ (by decide)
  have hl1 := fun w' (e : w1 = w') => less_any mp p mn n mc c _ _ w' (e ▸ HRM.out) (e ▸ HRL.out)
  have hl2 := fun w' (e : w1 = w') => less_any p mp n mn c mc _ _ w' (e ▸ HRL.out) (e ▸ HRM.out)
  rw [hmost] at hl1 hl2
  have HL1 := Lib.hid hl1; clear hl1
  have HL2 := Lib.hid hl2; clear hl2
  clear hmost T hb1
  by_cases hover : 9223372036854775808 < val l
  · have hd : decide (9223372036854775808 < val l) = true := by simp; omega
    rw [hd] at HL1
    have hans : ans (back (sv m l)) = .tuple #[.int .i64 0, .int .i64 10] := ans_no (by cases m <;> simp only [fits_minus, fits_plus] <;> omega)
    have HANS := Lib.hid hans
    clear hd hover hans
    go_wp2_with fail
    refine (HL1.out _ rfl).mono ?_
    rintro e w2 ⟨rfl, rfl⟩
    go_wp2_with fail
    go_ret2
    exact ⟨by rw [HANS.out]; rfl, HB1.out⟩
  · have hd : decide (9223372036854775808 < val l) = false := by simp; omega
    rw [hd] at HL1
    clear hd
    cases m
    · by_cases hlt : val l < 9223372036854775808
      · have hd2 : decide (val l < 9223372036854775808) = true := by simp; omega
        rw [hd2] at HL2
        clear hd2 hover
        have hv := Lib.hid hlt; clear hlt
        go_wp2_with fail
        refine (HL1.out _ rfl).mono ?_
        rintro e w2 ⟨rfl, rfl⟩
        go_wp2_with fail
        refine (HL2.out _ rfl).mono ?_
        rintro e w2 ⟨rfl, rfl⟩
        go_wp2_with fail
        go_loop [5, 6] (fun x i => ∃ s : Nat, ∃ j : Int, x = .int .i64 s ∧ i = .int .i64 j ∧ -1 ≤ j ∧ j < n ∧ Hid (s = suf l (j + 1).toNat)) (fun _ i => (intOf i + 1).toNat)
        case atStart => exact ⟨0, _, rfl, rfl, by omega, by omega, Lib.hid (by rw [suf_end l _ (by have := HR.out.len; omega)])⟩
        case round =>
          obtain ⟨s, j, rfl, rfl, hj1, hj2, hs⟩ := hrel
          by_cases h0 : 0 ≤ j
          · obtain ⟨k, rfl⟩ := Int.eq_ofNat_of_zero_le h0
            rcases HRL.out.cells with hx | ⟨ba, off, rfl, hlt, hx⟩
            · exfalso
              have := HR.out.len
              rw [hx] at this; simp at this; omega
            obtain ⟨x, hxe⟩ : ∃ x, x = l.getD k 0 := ⟨_, rfl⟩
            have hcell := hx k (by have := HR.out.len; omega)
            rw [← hxe] at hcell
            have hst : suf l k = x + 10 * s := by
              rw [suf_step, ← hxe, hs.out, show ((k : Int) + 1).toNat = k + 1 from by omega]
            have hle : x + 10 * s ≤ 9223372036854775807 := by have := suf_le l k; have := hv.out; omega
            have hx9 : x < 10 := by rw [hxe]; exact HR.out.digs.getD k
            have HST := Lib.hid hst; clear hst hxe hx
            go_wp2_with fail
            go_round
            case rel => exact ⟨x + 10 * s, (k : Int) - 1, by go_num, rfl, by omega, by omega, Lib.hid (by rw [← HST.out, show ((k : Int) - 1 + 1).toNat = k from by omega])⟩
            case measure => simp [intOf]
          · obtain rfl : j = -1 := by omega
            have hfin : s = val l := by have := hs.out; rw [show ((-1 : Int) + 1).toNat = 0 from rfl, suf_zero] at this; exact this
            have hans : ans (back (sv false l)) = .tuple #[.int .i64 (s : Int), .int .i64 0] := by
              rw [ans_yes (fits_plus.2 (by have := hv.out; omega)), hfin]; rfl
            have HANS := Lib.hid hans
            clear hfin hans
            go_wp2_with fail
            go_ret2
            exact ⟨by rw [HANS.out]; rfl, HB1.out⟩
      · have hd2 : decide (val l < 9223372036854775808) = false := by simp; omega
        rw [hd2] at HL2
        have hans : ans (back (sv false l)) = .tuple #[.int .i64 0, .int .i64 10] := ans_no (by rw [fits_plus]; omega)
        have HANS := Lib.hid hans
        clear hd2 hover hlt hans
        go_wp2_with fail
        refine (HL1.out _ rfl).mono ?_
        rintro e w2 ⟨rfl, rfl⟩
        go_wp2_with fail
        refine (HL2.out _ rfl).mono ?_
        rintro e w2 ⟨rfl, rfl⟩
        go_wp2_with fail
        go_ret2
        exact ⟨by rw [HANS.out]; rfl, HB1.out⟩
    · have hv := Lib.hid hover; clear hover
      go_wp2_with fail
      refine (HL1.out _ rfl).mono ?_
      rintro e w2 ⟨rfl, rfl⟩
      go_wp2_with fail
      go_loop [5, 6] (fun x i => ∃ s : Nat, ∃ j : Int, x = .int .i64 (-(s : Int)) ∧ i = .int .i64 j ∧ -1 ≤ j ∧ j < n ∧ Hid (s = suf l (j + 1).toNat)) (fun _ i => (intOf i + 1).toNat)
      case atStart => exact ⟨0, _, rfl, rfl, by omega, by omega, Lib.hid (by rw [suf_end l _ (by have := HR.out.len; omega)])⟩
      case round =>
        obtain ⟨s, j, rfl, rfl, hj1, hj2, hs⟩ := hrel
        by_cases h0 : 0 ≤ j
        · obtain ⟨k, rfl⟩ := Int.eq_ofNat_of_zero_le h0
          rcases HRL.out.cells with hx | ⟨ba, off, rfl, hlt, hx⟩
          · exfalso
            have := HR.out.len
            rw [hx] at this; simp at this; omega
          obtain ⟨x, hxe⟩ : ∃ x, x = l.getD k 0 := ⟨_, rfl⟩
          have hcell := hx k (by have := HR.out.len; omega)
          rw [← hxe] at hcell
          have hst : suf l k = x + 10 * s := by
            rw [suf_step, ← hxe, hs.out, show ((k : Int) + 1).toNat = k + 1 from by omega]
          have hle : x + 10 * s ≤ 9223372036854775808 := by have := suf_le l k; have := hv.out; omega
          have hx9 : x < 10 := by rw [hxe]; exact HR.out.digs.getD k
          have HST := Lib.hid hst; clear hst hxe hx
          go_wp2_with fail
          go_round
          case rel => exact ⟨x + 10 * s, (k : Int) - 1, by go_num, rfl, by omega, by omega, Lib.hid (by rw [← HST.out, show ((k : Int) - 1 + 1).toNat = k from by omega])⟩
          case measure => simp [intOf]
        · obtain rfl : j = -1 := by omega
          have hfin : s = val l := by have := hs.out; rw [show ((-1 : Int) + 1).toNat = 0 from rfl, suf_zero] at this; exact this
          have hans : ans (back (sv true l)) = .tuple #[.int .i64 (-(s : Int)), .int .i64 0] := by
            rw [ans_yes (fits_minus.2 (by have := hv.out; omega)), hfin]; rfl
          have HANS := Lib.hid hans
          clear hfin hans
          go_wp2_with fail
          go_ret2
          exact ⟨by rw [HANS.out]; rfl, HB1.out⟩
end Go.Proofs.YtbbhcbpfffabpaaGreatDoor.T1

/- Contracts of the document's answers for numbers: sums and differences. -/
namespace Go.Proofs.YtbbhcbpfffabpaaGreatDoor.T1
open Go.Proofs.YtbbhcbpfffabpaaGreatDoor Go.Proofs
open Go.RowKit

theorem sv_dg (a : Int) (ha : Fits a) : sv (decide (a < 0)) (dg 20 a.natAbs) = a := by
  have h : a.natAbs < 10 ^ 20 := by unfold Fits at ha; omega
  unfold sv
  rw [dg_val 20 _ h]
  split <;> simp_all <;> omega

theorem of_sv (a : Int) (w : World) (ha : Fits a) : Calls Tryz.prog 51 #[.int .i64 a] w (NPost a 20 w) :=
  (of_any a w ha).mono fun e w' ⟨p, n, c, he, hr, hb⟩ => ⟨_, p, n, c, _, he, hr, sv_dg a ha, by rw [hr.len]; exact dg_len _ _, hb⟩

end Go.Proofs.YtbbhcbpfffabpaaGreatDoor.T1

/- Contracts of the document's answers for numbers: products, quotients, rests, wholes. -/
namespace Go.Proofs.YtbbhcbpfffabpaaGreatDoor.T1
open Go.Proofs.YtbbhcbpfffabpaaGreatDoor Go.Proofs
open Go.RowKit

theorem sv_pos {m : Bool} {l : List Nat} (h : sv m l ≠ 0) : 0 < val l := by
  cases m <;> simp [sv] at h <;> omega

theorem fits_one : Fits 1000000 := by decide
theorem fits_int (a : Int) (ha : Fits a) : Fits (a.tdiv 1000000 * 1000000) := by
  have h : a.tdiv 1000000 * 1000000 = a - a.tmod 1000000 := by have := Int.tmod_add_mul_tdiv a 1000000; omega
  rw [h]; exact tmod_near a ha

set_option maxRecDepth 100000 in
set_option maxHeartbeats 1000000 in
theorem refWhole_any (a : Int) (w : World) (ha : Fits a) :
    Calls Tryz.prog 23 #[.int .i64 a] w (BackPost (a * 1000000) w) := by
  go_enter Tryz.func23, Tryz.ntmps23
  go_wp2_with fail
  refine (of_sv a _ ha).mono ?_
  rintro e w1 ⟨m1, p1, n1, c1, l1, rfl, r1, v1, k1, b1⟩
  have R1 := Lib.hid r1; clear r1
  have V1 := Lib.hid v1; clear v1
  have B1 := Lib.hid (b1); clear b1
  go_wp2_with fail
  refine (of_sv 1000000 _ fits_one).mono ?_
  rintro e w2 ⟨m2, p2, n2, c2, l2, rfl, r2, v2, k2, b2⟩
  have R2 := Lib.hid r2; clear r2
  have V2 := Lib.hid v2; clear v2
  have R1 := Lib.hid (R1.out.below b2)
  have B2 := Lib.hid (Below.step B1.out b2); clear b2
  have P2 := Lib.hid (sv_pos (m := m2) (l := l2) (by rw [V2.out]; decide))
  go_wp2_with fail
  refine (times_loop m1 m2 p1 p2 n1 n2 c1 c2 l1 l2 _ R1.out R2.out (by omega) (by omega)).mono ?_
  rintro e w3 ⟨m3, p3, n3, c3, l3, rfl, r3, v3, k3, b3⟩
  have R3 := Lib.hid r3; clear r3
  have V3 := Lib.hid v3; clear v3
  have R1 := Lib.hid (R1.out.below b3)
  have R2 := Lib.hid (R2.out.below b3)
  have B3 := Lib.hid (Below.step B2.out b3); clear b3
  go_wp2_with fail
  refine (back_any m3 p3 n3 c3 l3 _ R3.out).mono ?_
  rintro e wz ⟨rfl, bz⟩
  have BZ := Lib.hid (Below.step B3.out bz); clear bz
  have hz : sv m3 l3 = a * 1000000 := by rw [V3.out, V1.out, V2.out]
  rw [hz]
  clear hz
  unfold ans
  go_wp2_with fail
  go_ret2
  exact ⟨rfl, BZ.out⟩

set_option maxRecDepth 100000 in
set_option maxHeartbeats 1000000 in
theorem refInt_any (a : Int) (w : World) (ha : Fits a) :
    Calls Tryz.prog 28 #[.int .i64 a] w (fun e w' => e = .returned (.int .i64 (a.tdiv 1000000 * 1000000)) ∧ Below w.heap.size w w') := by
  have HF := Lib.hid (ans_yes (fits_int a ha))
  go_enter Tryz.func28, Tryz.ntmps28
  go_wp2_with fail
  refine (of_sv a _ ha).mono ?_
  rintro e w1 ⟨m1, p1, n1, c1, l1, rfl, r1, v1, k1, b1⟩
  have R1 := Lib.hid r1; clear r1
  have V1 := Lib.hid v1; clear v1
  have B1 := Lib.hid (b1); clear b1
  go_wp2_with fail
  refine (of_sv 1000000 _ fits_one).mono ?_
  rintro e w2 ⟨m2, p2, n2, c2, l2, rfl, r2, v2, k2, b2⟩
  have R2 := Lib.hid r2; clear r2
  have V2 := Lib.hid v2; clear v2
  have R1 := Lib.hid (R1.out.below b2)
  have B2 := Lib.hid (Below.step B1.out b2); clear b2
  have P2 := Lib.hid (sv_pos (m := m2) (l := l2) (by rw [V2.out]; decide))
  go_wp2_with fail
  refine (over_any m1 m2 p1 p2 n1 n2 c1 c2 l1 l2 _ R1.out R2.out (by omega) P2.out).mono ?_
  rintro e w3 ⟨m3, p3, n3, c3, l3, rfl, r3, v3, k3, _, b3⟩
  have R3 := Lib.hid r3; clear r3
  have V3 := Lib.hid v3; clear v3
  have R1 := Lib.hid (R1.out.below b3)
  have R2 := Lib.hid (R2.out.below b3)
  have B3 := Lib.hid (Below.step B2.out b3); clear b3
  go_wp2_with fail
  refine (of_sv 1000000 _ fits_one).mono ?_
  rintro e w4 ⟨m4, p4, n4, c4, l4, rfl, r4, v4, k4, b4⟩
  have R4 := Lib.hid r4; clear r4
  have V4 := Lib.hid v4; clear v4
  have R1 := Lib.hid (R1.out.below b4)
  have R2 := Lib.hid (R2.out.below b4)
  have R3 := Lib.hid (R3.out.below b4)
  have B4 := Lib.hid (Below.step B3.out b4); clear b4
  have P4 := Lib.hid (sv_pos (m := m4) (l := l4) (by rw [V4.out]; decide))
  go_wp2_with fail
  refine (times_loop m3 m4 p3 p4 n3 n4 c3 c4 l3 l4 _ R3.out R4.out (by omega) (by omega)).mono ?_
  rintro e w5 ⟨m5, p5, n5, c5, l5, rfl, r5, v5, k5, b5⟩
  have R5 := Lib.hid r5; clear r5
  have V5 := Lib.hid v5; clear v5
  have R1 := Lib.hid (R1.out.below b5)
  have R2 := Lib.hid (R2.out.below b5)
  have R3 := Lib.hid (R3.out.below b5)
  have R4 := Lib.hid (R4.out.below b5)
  have B5 := Lib.hid (Below.step B4.out b5); clear b5
  go_wp2_with fail
  refine (back_any m5 p5 n5 c5 l5 _ R5.out).mono ?_
  rintro e wz ⟨rfl, bz⟩
  have BZ := Lib.hid (Below.step B5.out bz); clear bz
  have hz : sv m5 l5 = a.tdiv 1000000 * 1000000 := by rw [V5.out, V4.out, V3.out, V1.out, V2.out]
  rw [hz]
  clear hz
  rw [HF.out]
  go_wp2_with fail
  go_ret
  exact ⟨rfl, BZ.out⟩

theorem mod_fits (a b : Int) (hb : Fits b) (h : b ≠ 0) : Fits (a.tmod b) := by
  have h5 : (a.tmod b).natAbs < b.natAbs := by
    rw [Int.natAbs_tmod]; exact Nat.mod_lt _ (by omega)
  unfold Fits at *
  omega

end Go.Proofs.YtbbhcbpfffabpaaGreatDoor.T1

/- Contract of the document's begins. -/
namespace Go.Proofs.YtbbhcbpfffabpaaGreatDoor.T2
open Go.Proofs.YtbbhcbpfffabpaaGreatDoor Go.Proofs
open Go.RowKit

theorem prefix_get {a b : List ByteArray} {k : Nat} {x y : ByteArray} (h : b <+: a) (hx : a[k]? = some x) (hy : b[k]? = some y) : x = y := by
  obtain ⟨t, rfl⟩ := h
  have hk : k < b.length := by
    rcases Nat.lt_or_ge k b.length with h | h
    · exact h
    · rw [List.getElem?_eq_none h] at hy; cases hy
  rw [List.getElem?_append_left hk, hy] at hx
  injection hx with hx
  exact hx.symm

set_option maxRecDepth 100000 in
set_option maxHeartbeats 400000 in
theorem begins_yes (p q : Option Addr) (n m c d : Nat) (a b : List ByteArray) (w : World) (hp : RdS w p n c a) (hq : RdS w q m d b) (h : b <+: a) :
    Calls Tryz.prog 52 #[.slice p n c, .slice q m d] w fun e w' => e = .returned (.bool true) ∧ Below w.heap.size w w' := by
  have hmn : m ≤ n := by have := h.length_le; rw [hp.len, hq.len]; exact this
  have HP := Lib.hid hp; clear hp
  have HQ := Lib.hid hq; clear hq
  have HH := Lib.hid h; clear h
  have hc1 := HP.out.cap
  have hc2 := HQ.out.cap
  have hc3 := HP.out.big
  have hc4 := HQ.out.big
  go_enter Tryz.func52, Tryz.ntmps52
  go_wp2_with fail
  go_loopw [5] (fun x wr => ∃ k r : Nat, x = .int .i64 k ∧ k ≤ m ∧ wr = w.drewN r) (fun x _ => m - (intOf x).toNat)
  case atStart => exact ⟨0, 0, rfl, by omega, rfl⟩
  case round =>
    obtain ⟨k, r, rfl, hk, rfl⟩ := hrel
    by_cases hlt : k < m
    · obtain ⟨b1, o1, x, rfl, hx, hc1'⟩ := HP.out.at_ (show k < n by omega)
      obtain ⟨b2, o2, y, rfl, hy, hc2'⟩ := HQ.out.at_ hlt
      obtain rfl : x = y := prefix_get HH.out hx hy
      clear hx hy
      have hi0 : (0 : Int) ≤ k := by omega
      have hi1 : (k : Int) < m := by omega
      have hi2 : (k : Int) < n := by omega
      go_wp2_with fail
      go_quiet (fail)
      go_wp2_with fail
      go_roundw
      case rel => exact ⟨k + 1, _, by go_num, by omega, rfl⟩
      case measure => simp [intOf]; omega
    · go_wp2_with fail
      go_ret
      exact ⟨rfl, Below.drewN' (Below.refl _ _) _⟩

set_option maxRecDepth 100000 in
set_option maxHeartbeats 400000 in
theorem begins_no (p q : Option Addr) (n m c d : Nat) (a b : List ByteArray) (w : World) (hp : RdS w p n c a) (hq : RdS w q m d b) (h : ¬ b <+: a) :
    Calls Tryz.prog 52 #[.slice p n c, .slice q m d] w fun e w' => e = .returned (.bool false) ∧ Below w.heap.size w w' := by
  have HP := Lib.hid hp; clear hp
  have HQ := Lib.hid hq; clear hq
  have HH := Lib.hid h; clear h
  have hc1 := HP.out.cap
  have hc2 := HQ.out.cap
  have hc3 := HP.out.big
  have hc4 := HQ.out.big
  by_cases hmn : n < m
  · go_enter Tryz.func52, Tryz.ntmps52
    go_wp2_with fail
    go_ret
    exact ⟨rfl, Below.refl _ _⟩
  · go_enter Tryz.func52, Tryz.ntmps52
    go_wp2_with fail
    go_loopw [5] (fun x wr => ∃ k r : Nat, x = .int .i64 k ∧ k ≤ m ∧ wr = w.drewN r ∧ Hid (a.take k = b.take k)) (fun x _ => m - (intOf x).toNat)
    case atStart => exact ⟨0, 0, rfl, by omega, rfl, Lib.hid rfl⟩
    case round =>
      obtain ⟨k, r, rfl, hk, rfl, heq⟩ := hrel
      by_cases hlt : k < m
      · obtain ⟨b1, o1, x, rfl, hx, hc1'⟩ := HP.out.at_ (show k < n by omega)
        obtain ⟨b2, o2, y, rfl, hy, hc2'⟩ := HQ.out.at_ hlt
        have HX := Lib.hid hx; clear hx
        have HY := Lib.hid hy; clear hy
        have hi0 : (0 : Int) ≤ k := by omega
        have hi1 : (k : Int) < m := by omega
        have hi2 : (k : Int) < n := by omega
        by_cases hxy : x = y
        · subst hxy
          go_wp2_with fail
          go_quiet (fail)
          go_wp2_with fail
          go_roundw
          case rel => exact ⟨k + 1, _, by go_num, by omega, rfl, Lib.hid (rds_step HX.out HY.out heq.out rfl)⟩
          case measure => simp [intOf]; omega
        · have hne := bytes_ne hxy
          clear hxy
          go_wp2_with fail
          go_quiet (fail)
          go_wp2_with fail
          go_ret
          exact ⟨rfl, Below.drewN' (Below.drewN' (Below.refl _ _) _) _⟩
      · exfalso
        apply HH.out
        rw [List.prefix_iff_eq_take, ← HQ.out.len]
        obtain rfl : k = m := by omega
        rw [heq.out, List.take_of_length_le (by rw [← HQ.out.len]; exact Nat.le_refl _)]

end Go.Proofs.YtbbhcbpfffabpaaGreatDoor.T2
