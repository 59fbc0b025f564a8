/- Merged by program: T3RefG, T3RefQ. -/
import Derived.Test.YtbbhcbpfffabpaaGreatDoorGal
import Derived.Test.YtbbhcbpfffabpaaGreatDoorGam
/- Contracts of the document's answers for numbers: back to an int64. -/
namespace Go.Proofs.YtbbhcbpfffabpaaGreatDoor.T3
open Go.Proofs.YtbbhcbpfffabpaaGreatDoor Go.Proofs
open Go.RowKit

theorem suf_le (l : List Nat) : ∀ k, suf l k ≤ val l := by
  intro k
  induction k with
  | zero => exact Nat.le_refl _
  | succ k ih => have := suf_step l k; omega

def BackPost (z : Int) (W : World) (e : Ending) (w' : World) : Prop := e = .returned (ans (back z)) ∧ Below W.heap.size W w'

theorem fits_minus {l : List Nat} : Fits (sv true l) ↔ val l ≤ 9223372036854775808 := by
  unfold Fits sv; simp; omega
theorem fits_plus {l : List Nat} : Fits (sv false l) ↔ val l ≤ 9223372036854775807 := by
  unfold Fits sv; simp; omega

set_option maxRecDepth 100000 in
set_option maxHeartbeats 1000000 in
theorem back_any (m : Bool) (p : Option Addr) (n c : Nat) (l : List Nat) (w : World) (h : Rd w p n c l) :
    Calls Tryz.prog 49 #[.agg #[.bool m, .slice p n c]] w (BackPost (sv m l) w) := by
  have hn := h.size
  have hcp := h.cap
  have HR := Lib.hid h; clear h
  have HO := Lib.hid (fun w' => of_any (-9223372036854775808) w' (by decide))
  have t0 := two_new w (.bool m) (.slice p n c) 62
  have bl := (Below.refl w.heap.size w).alloc (Nat.le_refl _) (.cells #[.bool m, .slice p n c] 62)
  have HT0 := Lib.hid t0; clear t0
  have HBL := Lib.hid bl; clear bl
  go_enter Tryz.func49, Tryz.ntmps49
  go_wp2_with fail
  refine (HO.out _).mono ?_
  rintro e w1 ⟨mp, mn, mc, rfl, hrd, hb1⟩
  have hfield : ∀ w, (Instr.field 62 (.agg #[.bool true, .slice mp mn mc]) 1).run Tryz.prog w = .ok (.slice mp mn mc) w := fun _ => by kernel_rfl
  have T := HT0.out.below hb1 (by simp)
  have c0 := T.c0; have c1 := T.c1
  have HB1 := Lib.hid (HBL.out.trans (hb1.mono (by simp)))
  have HRM := Lib.hid hrd; clear hrd
  have HRL := Lib.hid (HR.out.below HB1.out)
  have hmost : val (dg 20 (-9223372036854775808 : Int).natAbs) = 9223372036854775808 := dg_val 20 _ (by decide)
  have hl1 := fun w' (e : w1 = w') => less_any mp p mn n mc c _ _ w' (e ▸ HRM.out) (e ▸ HRL.out)
  have hl2 := fun w' (e : w1 = w') => less_any p mp n mn c mc _ _ w' (e ▸ HRL.out) (e ▸ HRM.out)
  rw [hmost] at hl1 hl2
  have HL1 := Lib.hid hl1; clear hl1
  have HL2 := Lib.hid hl2; clear hl2
  clear hmost T hb1
  by_cases hover : 9223372036854775808 < val l
  · have hd : decide (9223372036854775808 < val l) = true := by simp; omega
    rw [hd] at HL1
    have hans : ans (back (sv m l)) = .tuple #[.int .i64 0, .int .i64 10] := ans_no (by cases m <;> simp only [fits_minus, fits_plus] <;> omega)
    have HANS := Lib.hid hans
    clear hd hover hans
    go_wp2_with fail
    refine (HL1.out _ rfl).mono ?_
    rintro e w2 ⟨rfl, rfl⟩
    go_wp2_with fail
    go_ret2
    exact ⟨by rw [HANS.out]; rfl, HB1.out⟩
  · have hd : decide (9223372036854775808 < val l) = false := by simp; omega
    rw [hd] at HL1
    clear hd
    cases m
    · by_cases hlt : val l < 9223372036854775808
      · have hd2 : decide (val l < 9223372036854775808) = true := by simp; omega
        rw [hd2] at HL2
        clear hd2 hover
        have hv := Lib.hid hlt; clear hlt
        go_wp2_with fail
        refine (HL1.out _ rfl).mono ?_
        rintro e w2 ⟨rfl, rfl⟩
        go_wp2_with fail
        refine (HL2.out _ rfl).mono ?_
        rintro e w2 ⟨rfl, rfl⟩
        go_wp2_with fail
        go_loop [5, 6] (fun x i => ∃ s : Nat, ∃ j : Int, x = .int .i64 s ∧ i = .int .i64 j ∧ -1 ≤ j ∧ j < n ∧ Hid (s = suf l (j + 1).toNat)) (fun _ i => (intOf i + 1).toNat)
        case atStart => exact ⟨0, _, rfl, rfl, by omega, by omega, Lib.hid (by rw [suf_end l _ (by have := HR.out.len; omega)])⟩
        case round =>
          obtain ⟨s, j, rfl, rfl, hj1, hj2, hs⟩ := hrel
          by_cases h0 : 0 ≤ j
          · obtain ⟨k, rfl⟩ := Int.eq_ofNat_of_zero_le h0
            rcases HRL.out.cells with hx | ⟨ba, off, rfl, hlt, hx⟩
            · exfalso
              have := HR.out.len
              rw [hx] at this; simp at this; omega
            obtain ⟨x, hxe⟩ : ∃ x, x = l.getD k 0 := ⟨_, rfl⟩
            have hcell := hx k (by have := HR.out.len; omega)
            rw [← hxe] at hcell
            have hst : suf l k = x + 10 * s := by
              rw [suf_step, ← hxe, hs.out, show ((k : Int) + 1).toNat = k + 1 from by omega]
            have hle : x + 10 * s ≤ 9223372036854775807 := by have := suf_le l k; have := hv.out; omega
            have hx9 : x < 10 := by rw [hxe]; exact HR.out.digs.getD k
            have HST := Lib.hid hst; clear hst hxe hx
            go_wp2_with fail
            go_round
            case rel => exact ⟨x + 10 * s, (k : Int) - 1, by go_num, rfl, by omega, by omega, Lib.hid (by rw [← HST.out, show ((k : Int) - 1 + 1).toNat = k from by omega])⟩
            case measure => simp [intOf]
          · obtain rfl : j = -1 := by omega
            have hfin : s = val l := by have := hs.out; rw [show ((-1 : Int) + 1).toNat = 0 from rfl, suf_zero] at this; exact this
            have hans : ans (back (sv false l)) = .tuple #[.int .i64 (s : Int), .int .i64 0] := by
              rw [ans_yes (fits_plus.2 (by have := hv.out; omega)), hfin]; rfl
            have HANS := Lib.hid hans
            clear hfin hans
            go_wp2_with fail
            go_ret2
            exact ⟨by rw [HANS.out]; rfl, HB1.out⟩
      · have hd2 : decide (val l < 9223372036854775808) = false := by simp; omega
        rw [hd2] at HL2
        have hans : ans (back (sv false l)) = .tuple #[.int .i64 0, .int .i64 10] := ans_no (by rw [fits_plus]; omega)
        have HANS := Lib.hid hans
        clear hd2 hover hlt hans
        go_wp2_with fail
        refine (HL1.out _ rfl).mono ?_
        rintro e w2 ⟨rfl, rfl⟩
        go_wp2_with fail
        refine (HL2.out _ rfl).mono ?_
        rintro e w2 ⟨rfl, rfl⟩
        go_wp2_with fail
        go_ret2
        exact ⟨by rw [HANS.out]; rfl, HB1.out⟩
    · have hv := Lib.hid hover; clear hover
      go_wp2_with fail
      refine (HL1.out _ rfl).mono ?_
      rintro e w2 ⟨rfl, rfl⟩
      go_wp2_with fail
      go_loop [5, 6] (fun x i => ∃ s : Nat, ∃ j : Int, x = .int .i64 (-(s : Int)) ∧ i = .int .i64 j ∧ -1 ≤ j ∧ j < n ∧ Hid (s = suf l (j + 1).toNat)) (fun _ i => (intOf i + 1).toNat)
      case atStart => exact ⟨0, _, rfl, rfl, by omega, by omega, Lib.hid (by rw [suf_end l _ (by have := HR.out.len; omega)])⟩
      case round =>
        obtain ⟨s, j, rfl, rfl, hj1, hj2, hs⟩ := hrel
        by_cases h0 : 0 ≤ j
        · obtain ⟨k, rfl⟩ := Int.eq_ofNat_of_zero_le h0
          rcases HRL.out.cells with hx | ⟨ba, off, rfl, hlt, hx⟩
          · exfalso
            have := HR.out.len
            rw [hx] at this; simp at this; omega
          obtain ⟨x, hxe⟩ : ∃ x, x = l.getD k 0 := ⟨_, rfl⟩
          have hcell := hx k (by have := HR.out.len; omega)
          rw [← hxe] at hcell
          have hst : suf l k = x + 10 * s := by
            rw [suf_step, ← hxe, hs.out, show ((k : Int) + 1).toNat = k + 1 from by omega]
          have hle : x + 10 * s ≤ 9223372036854775808 := by have := suf_le l k; have := hv.out; omega
          have hx9 : x < 10 := by rw [hxe]; exact HR.out.digs.getD k
          have HST := Lib.hid hst; clear hst hxe hx
          go_wp2_with fail
          go_round
          case rel => exact ⟨x + 10 * s, (k : Int) - 1, by go_num, rfl, by omega, by omega, Lib.hid (by rw [← HST.out, show ((k : Int) - 1 + 1).toNat = k from by omega])⟩
          case measure => simp [intOf]
        · obtain rfl : j = -1 := by omega
          have hfin : s = val l := by have := hs.out; rw [show ((-1 : Int) + 1).toNat = 0 from rfl, suf_zero] at this; exact this
          have hans : ans (back (sv true l)) = .tuple #[.int .i64 (-(s : Int)), .int .i64 0] := by
            rw [ans_yes (fits_minus.2 (by have := hv.out; omega)), hfin]; rfl
          have HANS := Lib.hid hans
          clear hfin hans
          go_wp2_with fail
          go_ret2
          exact ⟨by rw [HANS.out]; rfl, HB1.out⟩
end Go.Proofs.YtbbhcbpfffabpaaGreatDoor.T3

/- Contract of the document's Parse: the walk. -/
namespace Go.Proofs.YtbbhcbpfffabpaaGreatDoor.T3
open Go.Proofs.YtbbhcbpfffabpaaGreatDoor Go.Proofs
open Go.RowKit

structure PMem (w0 wr : World) (B1 : Nat) (m : Bool) (r : Option Addr) (sz t : Nat) (lw : List UInt8) : Prop where
  two : Two wr B1 (.bool m) (.slice none 0 0)
  below : Below w0.heap.size w0 wr
  rd : Rd wr r sz t (low lw)
  lt : B1 < wr.heap.size
  fresh : ∀ x, r = some x → B1 + 1 ≤ x.block

theorem pmem_start {w0 w : World} {B1 : Nat} {m : Bool} (h : Two w B1 (.bool m) (.slice none 0 0)) (hb : Below w0.heap.size w0 w) :
    PMem w0 (w.alloc (.cells #[] 3)) B1 m (some ⟨w.heap.size, 0, none⟩) 0 0 [] := by
  have hlt := World.block_lt_of_cell? w _ h.c0
  have b1 := (Below.refl w.heap.size w).alloc (Nat.le_refl _) (.cells #[] 3)
  exact ⟨h.below b1 hlt, Below.step hb b1, ⟨rfl, by omega, by omega, Dl.nil, fun h => by simp at h, Or.inl rfl⟩, by simp at hlt ⊢; omega, fun x hx => by injection hx with hx; subst hx; exact hlt⟩

theorem pmem_next {w0 wr w' : World} {B1 : Nat} {m : Bool} {r : Option Addr} {sz t : Nat} {lw : List UInt8} {p : Option Addr} {c : Nat} {u : UInt8} (h : PMem w0 wr B1 m r sz t lw)
    (hown : w'.ownsRow wr.heap.size 3 1 (.slice p (sz + 1) c) (sz + 1) (ints (dn u :: low lw))) (hb : Below wr.heap.size wr w') (hd : isDig u = true) (hs : sz ≤ 900) : PMem w0 w' B1 m p (sz + 1) c (lw ++ [u]) := by
  have hu := isDig_yes hd
  have hlt := h.lt
  obtain ⟨p', c', e, hr, hf⟩ := own_rd hown (by rw [List.length_cons, ← h.rd.len]) (Dl.append (Dl.one (by unfold dn; omega)) h.rd.digs) (by omega)
  injection e with e1 _ e2
  subst e1; subst e2
  refine ⟨h.two.below hb h.lt, Below.step h.below hb, ?_, Nat.lt_of_lt_of_le h.lt hb.size, fun x hx => by have := hf x hx; omega⟩
  rw [low_snoc]
  exact hr

theorem take_over {F : List UInt8} {q : Nat} (h : 6 ≤ q) : (F.take 6).take q = (F.take 6).take (q + 1) := by
  have hl : (F.take 6).length ≤ 6 := by rw [List.length_take]; omega
  exact (List.take_of_length_le (by omega)).trans (List.take_of_length_le (by omega)).symm

theorem pad_end {F : List UInt8} {p : Nat} (h1 : F.length ≤ p) (h2 : p ≤ 6 ∨ p = F.length) (h3 : 6 ≤ p) : F.take 6 ++ List.replicate (p - F.length) 48 = pad6 F := by
  unfold pad6
  rw [show p - F.length = 6 - F.length from by omega]

theorem take_six {F : List UInt8} {q : Nat} (h : q < F.length) (h6 : q < 6) : (F.take 6).take q ++ [F[q]] = (F.take 6).take (q + 1) := by
  have hl : q < (F.take 6).length := by simp; omega
  rw [List.take_succ_eq_append_getElem hl]
  congr 2
  rw [List.getElem_take]

structure PPad (w0 wr : World) (B1 : Nat) (m : Bool) (W F : List UInt8) (x7 x8 : Value) : Prop where
  ex : ∃ (r : Option Addr) (sz t : Nat) (lw : List UInt8) (pp : Int), x7 = .slice r sz t ∧ x8 = .int .i64 pp ∧ -1 ≤ pp ∧ pp ≤ 300 ∧ Hid (PMem w0 wr B1 m r sz t lw) ∧
    Hid ((pp = -1 ∧ F = [] ∧ lw = W) ∨ ∃ p : Nat, pp = p ∧ F.length ≤ p ∧ (p ≤ 6 ∨ p = F.length) ∧ lw = W ++ (F.take 6 ++ List.replicate (p - F.length) 48))

def PExit (w0 wx : World) (B1 : Nat) (m : Bool) (C : Nat) (W F : List UInt8) (dots : Nat) (x5 x7 x8 x9 : Value) : Prop :=
  ∃ (r : Option Addr) (sz t : Nat) (lw : List UInt8), x7 = .slice r sz t ∧ PMem w0 wx B1 m r sz t lw ∧
    ((x5 = .int .i64 C ∧ x8 = .int .i64 (-1) ∧ x9 = .int .i64 W.length ∧ lw = W ∧ F = [] ∧ dots = 0) ∨
     (x5 = .int .i64 ((C + 1 + F.length : Nat) : Int) ∧ x8 = .int .i64 F.length ∧ x9 = .int .i64 ((W.length + F.length : Nat) : Int) ∧ dots = 1 ∧ ¬ W.length + F.length = 0 ∧ lw = W ++ F.take 6))

def PPost (l : List UInt8) (W : World) (e : Ending) (w' : World) : Prop := e = .returned (parseAns l) ∧ Below W.heap.size W w'

set_option maxRecDepth 100000 in
set_option maxHeartbeats 2000000 in
theorem refParse_any (s : ByteArray) (w : World) (hs : s.size ≤ 300) :
    Calls Tryz.prog 53 #[.string s] w (PPost s.data.toList w) := by
  obtain ⟨D, hD⟩ : ∃ D, D = parseAt s.data.toList := ⟨_, rfl⟩
  have hlt : ∀ k, k < D → ∃ h : k < s.size, isBl s[k] = true := by
    intro k hk
    have h1 := tw_le (p := isBl) s.data.toList
    have h2 : k < s.size := by rw [hD] at hk; unfold parseAt at hk; simp at h1; omega
    have h3 := tw_lt (p := isBl) (l := s.data.toList) (k := k) (by rw [hD] at hk; exact hk) (by simpa using h2)
    have h4 : isBl s.data[k] = true := by simpa using h3
    exact ⟨h2, h4⟩
  have hend : ∀ h : D < s.size, isBl s[D] = false := by
    intro h
    subst hD
    have h' : (List.takeWhile isBl s.data.toList).length < s.size := h
    have h3 := tw_end (p := isBl) (l := s.data.toList) (by simpa using h')
    have h4 : isBl s.data[(List.takeWhile isBl s.data.toList).length] = false := by simpa using h3
    exact h4
  have hDs : D ≤ s.size := by have h1 := tw_le (p := isBl) s.data.toList; unfold parseAt at hD; simp at h1; omega
  have HL := Lib.hid hlt; clear hlt
  have HE := Lib.hid hend; clear hend
  have HD := Lib.hid hD; clear hD
  go_enter Tryz.func53, Tryz.ntmps53
  go_upto_block 0 with (fail)
  go_cut [5] (fun a wx => a = .int .i64 D ∧ wx = w)
  case first =>
    go_wp2
    go_loop [5] (fun a => ∃ k : Nat, a = .int .i64 k ∧ k ≤ D) (fun a => D - (intOf a).toNat)
    case atStart => exact ⟨0, rfl, by omega⟩
    case round =>
      obtain ⟨k, rfl, hk⟩ := hrel
      by_cases hkD : k < D
      · obtain ⟨h1, h2⟩ := HL.out k hkD
        rcases (blank_cases s[k]).resolve_right (fun h => by rw [h2] at h; exact absurd h.1 (by decide)) with ⟨_, e1 | ⟨e1, e2⟩ | ⟨e1, e2, e3⟩⟩
        all_goals
          go_wp2_with fail
          go_round
          case rel => exact ⟨k + 1, by go_num, by omega⟩
          case measure => simp [intOf]; omega
      · obtain rfl : k = D := by omega
        by_cases h : k < s.size
        · have h2 := HE.out h
          obtain ⟨_, e1, e2, e3⟩ := (blank_cases s[k]).resolve_left (fun h => by rw [h2] at h; exact absurd h.1 (by decide))
          go_wp2_with fail
          go_meet
          exact ⟨rfl, rfl⟩
        · go_wp2_with fail
          go_meet
          exact ⟨rfl, rfl⟩
  case rest =>
    obtain ⟨rfl, rfl⟩ := hcut
    obtain ⟨w0, rfl⟩ : ∃ w0 : World, w0 = wc := ⟨_, rfl⟩
    obtain ⟨sg, hsg⟩ : ∃ sg, sg = signOf (s.data.toList.drop D) := ⟨_, rfl⟩
    have h4 := sign_cases s D
    rw [← hsg] at h4
    have hB : D + sg.2 ≤ s.size := by
      rcases h4 with ⟨h, _, e⟩ | ⟨h, _, _, e⟩ | ⟨h, _, _, e⟩ | ⟨h, e⟩ <;> rw [e] <;> simp only <;> omega
    have HSG := Lib.hid hsg; clear hsg
    have H4 := Lib.hid h4; clear h4
    obtain ⟨B1, hB1⟩ : ∃ B1, B1 = w0.heap.size := ⟨_, rfl⟩
    have T1 := two_new w0 (.bool false) (.slice none 0 0) 62
    have b1 := (Below.refl w0.heap.size w0).alloc (Nat.le_refl _) (.cells #[.bool false, .slice none 0 0] 62)
    rw [← hB1] at T1
    go_step
    go_upto_region 5 with (fail)
    rw [← hB1]
    have z1 : (w0.alloc (.cells #[.bool false, .slice none 0 0] 62)).heap.size = B1 + 1 := by simp [hB1]
    generalize w0.alloc (.cells #[.bool false, .slice none 0 0] 62) = w1 at *
    have HB1 := Lib.hid hB1; clear hB1
    have HZ1 := Lib.hid z1; clear z1
    have t0 := T1.c0; have t1 := T1.f0
    have HT1 := Lib.hid T1; clear T1
    have HBW := Lib.hid b1; clear b1
    go_cut [52] (fun b wx => b = .bool (sg.2 == 1) ∧ wx = w1)
    case first =>
      rcases H4.out with ⟨h, e1, e⟩ | ⟨h, e1, e2, e⟩ | ⟨h, e1, e2, e⟩ | ⟨h, e⟩
      all_goals
        subst e
        go_wp2
        go_meet
        exact ⟨rfl, rfl⟩
    case rest =>
      obtain ⟨rfl, hwe⟩ := hcut
      subst hwe
      obtain ⟨w2, rfl⟩ : ∃ w2 : World, w2 = wc := ⟨_, rfl⟩
      obtain ⟨B, hBB⟩ : ∃ B, B = D + sg.2 := ⟨_, rfl⟩
      rw [← hBB] at hB
      have HBB := Lib.hid hBB; clear hBB
      go_step
      go_upto_if 52 with (fail)
      go_cut [5] (fun a wx => a = .int .i64 B ∧ Two wx B1 (.bool sg.1) (.slice none 0 0) ∧ Below w0.heap.size w0 wx)
      case first =>
        rcases H4.out with ⟨h, e1, e⟩ | ⟨h, e1, e2, e⟩ | ⟨h, e1, e2, e⟩ | ⟨h, e⟩
        all_goals
          have e3 := HBB.out
          subst e
          simp only at e3
          subst e3
          go_wp2
          go_meet
          first
            | exact ⟨by go_num, HT1.out, HBW.out⟩
            | exact ⟨by go_num, HT1.out.set0 _, HBW.out.setCell (by have := HB1.out; show w0.heap.size ≤ B1; omega) _⟩
      case rest =>
        obtain ⟨rfl, hT, hBel⟩ := hcut
        have HT := Lib.hid hT; clear hT
        have HBL := Lib.hid hBel; clear hBel
        obtain ⟨W, hW⟩ : ∃ W, W = (s.data.toList.drop B).takeWhile isDig := ⟨_, rfl⟩
        obtain ⟨C, hC⟩ : ∃ C, C = B + W.length := ⟨_, rfl⟩
        have hCs : C ≤ s.size := by
          have h1 := tw_le (p := isDig) (s.data.toList.drop B)
          rw [← hW] at h1
          simp at h1
          omega
        have HW := Lib.hid (run_at s B W hW)
        have HWE := Lib.hid (run_end s B W hW)
        rw [← hC] at HWE
        obtain ⟨dt, hdt⟩ : ∃ dt, dt = dotOf s.data.toList C := ⟨_, rfl⟩
        have hd := dot_cases s C
        rw [← hdt] at hd
        have hfin := parse_parts HD.out HSG.out HBB.out hW hC hdt
        have HFIN := Lib.hid hfin; clear hfin
        have HHD := Lib.hid hd; clear hd hdt
        have HC := Lib.hid hC; clear hC hW
        have hW300 : W.length ≤ 300 := by have := HC.out; omega
        have hFs : dt.2 = 1 → C + 1 + dt.1.length ≤ s.size := by
          intro h1
          rcases HHD.out with ⟨h, _, e⟩ | ⟨_, _, e⟩ | ⟨_, e⟩
          · rw [e]
            have h2 := tw_le (p := isDig) (s.data.toList.drop (C + 1))
            simp at h2
            simp only
            omega
          · rw [e] at h1; simp at h1
          · rw [e] at h1; simp at h1
        have HFS := Lib.hid hFs; clear hFs
        have HF := Lib.hid (show dt.2 = 1 → ∀ q, ∀ hq : q < dt.1.length, ∃ h : C + 1 + q < s.size, isDig s[C + 1 + q] = true ∧ dt.1[q] = s[C + 1 + q] from fun h1 => by
          rcases HHD.out with ⟨h, _, e⟩ | ⟨_, _, e⟩ | ⟨_, e⟩
          · exact run_at s (C + 1) dt.1 (by rw [e])
          · rw [e] at h1; simp at h1
          · rw [e] at h1; simp at h1)
        have HFE := Lib.hid (show dt.2 = 1 → ∀ h : C + 1 + dt.1.length < s.size, isDig s[C + 1 + dt.1.length] = false from fun h1 => by
          rcases HHD.out with ⟨h, _, e⟩ | ⟨_, _, e⟩ | ⟨_, e⟩
          · exact run_end s (C + 1) dt.1 (by rw [e])
          · rw [e] at h1; simp at h1
          · rw [e] at h1; simp at h1)
        obtain ⟨F, hF⟩ : ∃ F, F = dt.1 := ⟨_, rfl⟩
        rw [← hF] at HFS HF HFE HFIN
        have HFD := Lib.hid hF; clear hF
        go_step
        go_upto_block 2 with (fail)
        go_cut [5, 7, 8, 9] (fun x5 x7 x8 x9 wx => PExit w0 wx B1 sg.1 C W F dt.2 x5 x7 x8 x9)
        case first =>
          go_wp2_with fail
          go_loopw [5, 7, 8, 9] (fun x5 x7 x8 x9 wr => ∃ (r : Option Addr) (sz t : Nat) (lw : List UInt8), x7 = .slice r sz t ∧ Hid (PMem w0 wr B1 sg.1 r sz t lw) ∧
              ((∃ j : Nat, x5 = .int .i64 ((B + j : Nat) : Int) ∧ x8 = .int .i64 (-1) ∧ x9 = .int .i64 j ∧ j ≤ W.length ∧ Hid (lw = W.take j)) ∨
               (∃ q : Nat, x5 = .int .i64 ((C + 1 + q : Nat) : Int) ∧ x8 = .int .i64 q ∧ x9 = .int .i64 ((W.length + q : Nat) : Int) ∧ q ≤ F.length ∧ Hid (dt.2 = 1 ∧ ¬ W.length + F.length = 0) ∧ Hid (lw = W ++ (F.take 6).take q)))) (fun x5 _ _ _ _ => 302 - (intOf x5).toNat)
          case atStart => exact ⟨_, 0, 0, [], rfl, Lib.hid (pmem_start HT.out HBL.out), Or.inl ⟨0, rfl, rfl, rfl, by omega, Lib.hid (by simp)⟩⟩
          case round =>
            obtain ⟨r, sz, t, lw, rfl, hm, hph⟩ := hrel
            rcases hph with ⟨j, rfl, rfl, rfl, hj, hlw⟩ | ⟨q, rfl, rfl, rfl, hq, hdt, hlw⟩
            · by_cases hjW : j < W.length
              · obtain ⟨h, hdg, hWj⟩ := HW.out j hjW
                have hdg2 := isDig_yes hdg
                have h46 : ((s[B + j].toNat : Int) == 46) = false := by rw [beq_eq_false_iff_ne]; omega
                have hszl : sz ≤ 300 := by have h1 := hm.out.rd.len; have h2 := hlw.out; rw [low_len, h2, List.length_take] at h1; omega
                have hdd := Lib.hid (show ((s[B + j].toNat : Int) - 48) = (dn s[B + j] : Int) from by unfold dn; omega)
                have NM := Lib.hid (show ∀ w, Calls Tryz.prog 82 #[.int .u8 (s[B + j].toNat : Int)] w fun e w' => e = .returned (.bool true) ∧ w = w' from fun w => by have := num_any s[B + j] w; rw [hdg] at this; exact this)
                go_wp2_with (first
                  | (go_at_call 82; refine (NM.out _).mono ?_; rintro e w1 ⟨rfl, rfl⟩)
                  | (at_builtin; refine wp_append_rest rfl _ _ rfl wr r sz t (low lw) _ (dn s[B + j]) hdd.out hm.out.rd (by omega) rfl rfl ?_; intro ap ac w' hown hbel))
                refine ⟨⟨ap, sz + 1, ac, lw ++ [s[B + j]], rfl, Lib.hid (pmem_next hm.out hown.out hbel.out hdg (by omega)), Or.inl ⟨j + 1, by go_num, rfl, by go_num, by omega, Lib.hid (by rw [hlw.out, List.take_succ_eq_append_getElem hjW, hWj])⟩⟩, by simp [intOf]; omega⟩
              · have hjl : j = W.length := by omega
                have hlwW := Lib.hid (show lw = W from by rw [hlw.out, List.take_of_length_le (by omega)])
                subst hjl
                have hCB : B + W.length = C := HC.out.symm
                rw [hCB]
                have HCB := Lib.hid hCB; clear hCB
                rcases HHD.out with ⟨h, e46, e⟩ | ⟨h, e46, e⟩ | ⟨h, e⟩
                · have hdg := HWE.out h
                  have NM := Lib.hid (show ∀ w, Calls Tryz.prog 82 #[.int .u8 (s[C].toNat : Int)] w fun e w' => e = .returned (.bool false) ∧ w = w' from fun w => by have := num_any s[C] w; rw [hdg] at this; exact this)
                  have hd1 := Lib.hid (show dt.2 = 1 from by rw [e])
                  clear e
                  by_cases hW0 : W.length = 0
                  · have hW0b : ((W.length : Int) == 0) = true := by rw [hW0]; rfl
                    by_cases hF0 : F.length = 0
                    · have hpn := Lib.hid (HFIN.out.1 (by omega))
                      by_cases hC1 : C + 1 < s.size
                      · have hdg1 := HFE.out hd1.out
                        have hdg2 : isDig s[C + 1] = false := by
                          have := hdg1 (by omega)
                          simpa [hF0] using this
                        have NM1 := Lib.hid (show ∀ w, Calls Tryz.prog 82 #[.int .u8 (s[C + 1].toNat : Int)] w fun e w' => e = .returned (.bool false) ∧ w = w' from fun w => by have := num_any s[C + 1] w; rw [hdg2] at this; exact this)
                        go_wp2_with fail
                        refine (NM.out _).mono ?_
                        rintro e w1 ⟨rfl, rfl⟩
                        go_wp2_with fail
                        refine (NM1.out _).mono ?_
                        rintro e w1 ⟨rfl, rfl⟩
                        go_wp2_with fail
                        go_ret3
                        exact ⟨by rw [hpn.out]; rfl, hm.out.below⟩
                      · go_wp2_with fail
                        refine (NM.out _).mono ?_
                        rintro e w1 ⟨rfl, rfl⟩
                        go_wp2_with fail
                        go_ret3
                        exact ⟨by rw [hpn.out]; rfl, hm.out.below⟩
                    · obtain ⟨h1, hdg1, _⟩ := HF.out hd1.out 0 (by omega)
                      have NM1 := Lib.hid (show ∀ w, Calls Tryz.prog 82 #[.int .u8 (s[C + 1].toNat : Int)] w fun e w' => e = .returned (.bool true) ∧ w = w' from fun w => by have := num_any s[C + 1] w; rw [show isDig s[C + 1] = true from hdg1] at this; exact this)
                      have h1' : C + 1 < s.size := h1
                      go_wp2_with fail
                      refine (NM.out _).mono ?_
                      rintro e w1 ⟨rfl, rfl⟩
                      go_wp2_with fail
                      refine (NM1.out _).mono ?_
                      rintro e w1 ⟨rfl, rfl⟩
                      go_wp2_with fail
                      refine ⟨⟨r, sz, t, lw, rfl, hm, Or.inr ⟨0, by go_num, rfl, by go_num, by omega, Lib.hid ⟨hd1.out, by omega⟩, Lib.hid (by rw [hlwW.out]; simp)⟩⟩, by simp [intOf]; omega⟩
                  · have hW0b : ((W.length : Int) == 0) = false := by rw [beq_eq_false_iff_ne]; omega
                    go_wp2_with fail
                    refine (NM.out _).mono ?_
                    rintro e w1 ⟨rfl, rfl⟩
                    go_wp2_with fail
                    refine ⟨⟨r, sz, t, lw, rfl, hm, Or.inr ⟨0, by go_num, rfl, by go_num, by omega, Lib.hid ⟨hd1.out, by omega⟩, Lib.hid (by rw [hlwW.out]; simp)⟩⟩, by simp [intOf]; omega⟩
                · have hdg := HWE.out h
                  have NM := Lib.hid (show ∀ w, Calls Tryz.prog 82 #[.int .u8 (s[C].toNat : Int)] w fun e w' => e = .returned (.bool false) ∧ w = w' from fun w => by have := num_any s[C] w; rw [hdg] at this; exact this)
                  have hE := Lib.hid e; clear e
                  go_wp2_with fail
                  refine (NM.out _).mono ?_
                  rintro e w1 ⟨rfl, rfl⟩
                  go_wp2_with fail
                  go_meet
                  exact ⟨r, sz, t, lw, rfl, hm.out, Or.inl ⟨rfl, rfl, rfl, hlwW.out, by rw [HFD.out, hE.out], by rw [hE.out]⟩⟩
                · have hE := Lib.hid e; clear e
                  go_wp2_with fail
                  go_meet
                  exact ⟨r, sz, t, lw, rfl, hm.out, Or.inl ⟨rfl, rfl, rfl, hlwW.out, by rw [HFD.out, hE.out], by rw [hE.out]⟩⟩
            · by_cases hqF : q < F.length
              · obtain ⟨h, hdg, hFq⟩ := HF.out hdt.out.1 q hqF
                have hdg2 := isDig_yes hdg
                have h46 : ((s[C + 1 + q].toNat : Int) == 46) = false := by rw [beq_eq_false_iff_ne]; omega
                have hszl : sz ≤ 306 := by have h1 := hm.out.rd.len; have h2 := hlw.out; rw [low_len, h2] at h1; simp at h1; omega
                have hdd := Lib.hid (show ((s[C + 1 + q].toNat : Int) - 48) = (dn s[C + 1 + q] : Int) from by unfold dn; omega)
                have NM := Lib.hid (show ∀ w, Calls Tryz.prog 82 #[.int .u8 (s[C + 1 + q].toNat : Int)] w fun e w' => e = .returned (.bool true) ∧ w = w' from fun w => by have := num_any s[C + 1 + q] w; rw [hdg] at this; exact this)
                by_cases hq6 : q < 6
                · go_wp2_with (first
                    | (go_at_call 82; refine (NM.out _).mono ?_; rintro e w1 ⟨rfl, rfl⟩)
                    | (at_builtin; refine wp_append_rest rfl _ _ rfl wr r sz t (low lw) _ (dn s[C + 1 + q]) hdd.out hm.out.rd (by omega) rfl rfl ?_; intro ap ac w' hown hbel))
                  refine ⟨⟨ap, sz + 1, ac, lw ++ [s[C + 1 + q]], rfl, Lib.hid (pmem_next hm.out hown.out hbel.out hdg (by omega)), Or.inr ⟨q + 1, by go_num, by go_num, by go_num, by omega, hdt, Lib.hid (by rw [hlw.out, List.append_assoc, ← hFq, take_six hqF hq6])⟩⟩, by simp [intOf]; omega⟩
                · go_wp2_with (go_at_call 82; refine (NM.out _).mono ?_; rintro e w1 ⟨rfl, rfl⟩)
                  refine ⟨⟨r, sz, t, lw, rfl, hm, Or.inr ⟨q + 1, by go_num, by go_num, by go_num, by omega, hdt, Lib.hid (by rw [hlw.out, take_over (by omega)])⟩⟩, by simp [intOf]; omega⟩
              · have hqe : q = F.length := by omega
                subst hqe
                have hl6 := Lib.hid (show lw = W ++ F.take 6 from by rw [hlw.out, List.take_of_length_le (by simp; omega)])
                by_cases h : C + 1 + F.length < s.size
                · have hdg := HFE.out hdt.out.1 h
                  have NM := Lib.hid (show ∀ w, Calls Tryz.prog 82 #[.int .u8 (s[C + 1 + F.length].toNat : Int)] w fun e w' => e = .returned (.bool false) ∧ w = w' from fun w => by have := num_any s[C + 1 + F.length] w; rw [hdg] at this; exact this)
                  rcases Bool.eq_false_or_eq_true ((s[C + 1 + F.length].toNat : Int) == 46) with h46 | h46
                  all_goals
                    go_wp2_with fail
                    refine (NM.out _).mono ?_
                    rintro e w1 ⟨rfl, rfl⟩
                    go_wp2_with fail
                    go_meet
                    exact ⟨r, sz, t, lw, rfl, hm.out, Or.inr ⟨rfl, rfl, rfl, hdt.out.1, hdt.out.2, hl6.out⟩⟩
                · go_wp2_with fail
                  go_meet
                  exact ⟨r, sz, t, lw, rfl, hm.out, Or.inr ⟨rfl, rfl, rfl, hdt.out.1, hdt.out.2, hl6.out⟩⟩
        case rest =>
          obtain ⟨r, sz, t, lw, rfl, hm, hph⟩ := hcut
          have HM := Lib.hid hm; clear hm
          obtain ⟨at_, hat⟩ : ∃ at_ : Nat, at_ = C + (dt.2 + F.length) := ⟨_, rfl⟩
          obtain ⟨pt, hpt⟩ : ∃ pt : Int, pt = if dt.2 = 0 then -1 else (F.length : Int) := ⟨_, rfl⟩
          have hall : u5 = .int .i64 (at_ : Int) ∧ u8 = .int .i64 pt ∧ u9 = .int .i64 ((W.length + F.length : Nat) : Int) ∧ lw = W ++ F.take 6 ∧ ((pt = -1 ∧ F = []) ∨ pt = F.length) := by
            rcases hph with ⟨e1, e2, e3, e4, e5, e6⟩ | ⟨e1, e2, e3, e4, e5, e6⟩
            · rw [hat, hpt, e6, e5, if_pos rfl]
              exact ⟨e1, e2, by simpa using e3, by rw [e4]; simp, Or.inl ⟨rfl, rfl⟩⟩
            · rw [hat, hpt, e4, if_neg (by decide)]
              exact ⟨by rw [e1, show C + 1 + F.length = C + (1 + F.length) from by omega], e2, e3, e6, Or.inr rfl⟩
          obtain ⟨rfl, rfl, rfl, hlw, hptc⟩ := hall
          clear hph
          have HLW := Lib.hid hlw; clear hlw
          have HAT := Lib.hid hat; clear hat
          have HPT := Lib.hid hptc; clear hptc
          have hpb : -1 ≤ pt ∧ pt ≤ 300 := by
            have h1 : F.length ≤ 300 := by
              rw [HFD.out]
              rcases HHD.out with ⟨h, _, e⟩ | ⟨_, _, e⟩ | ⟨_, e⟩
              · rw [e]
                have h2 := tw_le (p := isDig) (s.data.toList.drop (C + 1))
                simp at h2
                simp only
                omega
              · rw [e]; simp
              · rw [e]; simp
            rcases HPT.out with ⟨h, _⟩ | h <;> omega
          obtain ⟨hp1, hp2⟩ := hpb
          clear hpt
          go_step
          by_cases hz : W.length + F.length = 0
          · have hzb : (((W.length + F.length : Nat) : Int) == 0) = true := by rw [hz]; rfl
            have hpn := Lib.hid (HFIN.out.1 hz); clear hz
            go_wp2_with fail
            go_ret3
            exact ⟨by rw [hpn.out]; rfl, HM.out.below⟩
          · have hzb : (((W.length + F.length : Nat) : Int) == 0) = false := by rw [beq_eq_false_iff_ne]; omega
            have hpn := Lib.hid (HFIN.out.2 hz); clear hz
            go_wp2_with fail
            go_loopw [7, 8] (fun x7 x8 wr => PPad w0 wr B1 sg.1 W F x7 x8) (fun _ x8 _ => (7 - intOf x8).toNat)
            case atStart =>
              refine ⟨⟨r, sz, t, lw, pt, rfl, rfl, hp1, hp2, HM, Lib.hid ?_⟩⟩
              rcases HPT.out with ⟨h, h'⟩ | h
              · exact Or.inl ⟨h, h', by rw [HLW.out, h']; simp⟩
              · exact Or.inr ⟨F.length, h, by omega, Or.inr rfl, by rw [HLW.out]; simp⟩
            case round =>
              obtain ⟨r, sz, t, lw, pp, rfl, rfl, hq1, hq2, hm, hst⟩ := hrel.ex
              have hsz : sz ≤ 320 := by
                have h1 := hm.out.rd.len
                rw [low_len] at h1
                rcases hst.out with ⟨_, _, e⟩ | ⟨p, e0, e1, e2, e⟩
                · rw [e] at h1; omega
                · rw [e] at h1; simp at h1; omega
              by_cases h6 : pp < 6
              · have hdd := Lib.hid (show (0 : Int) = (dn 48 : Int) from rfl)
                by_cases hneg : pp < 0
                · have hpe : pp = -1 := by omega
                  subst hpe
                  go_wp2_with (at_builtin; refine wp_append_rest rfl _ _ rfl wr r sz t (low lw) _ (dn 48) hdd.out hm.out.rd (by omega) rfl rfl ?_; intro ap ac w' hown hbel)
                  refine ⟨⟨⟨ap, sz + 1, ac, lw ++ [48], 1, rfl, rfl, by omega, by omega, Lib.hid (pmem_next hm.out hown.out hbel.out (by decide) (by omega)), Lib.hid (Or.inr ⟨1, rfl, ?_, ?_, ?_⟩)⟩⟩, by simp [intOf]; omega⟩
                  all_goals
                    rcases hst.out with ⟨_, e5, e⟩ | ⟨p, e0, _⟩
                    · rw [e5]; simp [e]
                    · omega
                · obtain ⟨p, hpe⟩ : ∃ p : Nat, pp = p := ⟨pp.toNat, by omega⟩
                  subst hpe
                  go_wp2_with (at_builtin; refine wp_append_rest rfl _ _ rfl wr r sz t (low lw) _ (dn 48) hdd.out hm.out.rd (by omega) rfl rfl ?_; intro ap ac w' hown hbel)
                  refine ⟨⟨⟨ap, sz + 1, ac, lw ++ [48], (p : Int) + 1, rfl, rfl, by omega, by omega, Lib.hid (pmem_next hm.out hown.out hbel.out (by decide) (by omega)), Lib.hid (Or.inr ⟨p + 1, by omega, ?_⟩)⟩⟩, by simp [intOf]; omega⟩
                  rcases hst.out with ⟨h, _⟩ | ⟨p', e0, e1, e2, e⟩
                  · omega
                  · obtain rfl : p = p' := by omega
                    refine ⟨by omega, Or.inl (by omega), ?_⟩
                    rw [e, show p + 1 - F.length = (p - F.length) + 1 from by omega, List.replicate_succ']
                    simp only [List.append_assoc]
              · have hfin := Lib.hid (show lw = W ++ pad6 F from by
                  rcases hst.out with ⟨h, _⟩ | ⟨p, e0, e1, e2, e⟩
                  · omega
                  · rw [e, pad_end e1 e2 (by omega)])
                have T := hm.out.two
                have t1 := T.c1; have t2 := T.f1
                have HT3 := Lib.hid T; clear T
                have hvl := Lib.hid (show val (low lw) = mval W F from by rw [val_low, hfin.out]; rfl)
                go_wp2_with fail
                refine (trim_any r sz t (low lw) _ hm.out.rd).mono ?_
                rintro e w5 ⟨j, hj, rfl, hvj, _, rfl⟩
                have HVJ := Lib.hid hvj; clear hvj
                have T5 := HT3.out.set1 (.slice r j t)
                have c0 := T5.c0; have c1 := T5.c1
                have RD5 := Lib.hid ((hm.out.rd.take hj).other (a := ⟨B1, 1, none⟩) (fun x hx => by have := hm.out.fresh x hx; simp only; omega) (.slice r j t))
                have BL5 := Lib.hid (hm.out.below.setCell (p := ⟨B1, 1, none⟩) (by have := HB1.out; show w0.heap.size ≤ B1; omega) (.slice r j t))
                clear T5
                go_wp2_with fail
                refine (back_any sg.1 r j t _ _ RD5.out).mono ?_
                rintro e w6 ⟨rfl, b6⟩
                have B6 := Lib.hid (Below.step BL5.out b6); clear b6
                have hb := Lib.hid (show back (sv sg.1 ((low lw).take j)) = back (sgn sg.1 (mval W F)) from by rw [← hvl.out, ← HVJ.out]; rfl)
                rw [hb.out]
                unfold ans
                go_wp2_with fail
                go_ret3
                exact ⟨by rw [hpn.out, ← HAT.out]; rfl, B6.out⟩
end Go.Proofs.YtbbhcbpfffabpaaGreatDoor.T3
