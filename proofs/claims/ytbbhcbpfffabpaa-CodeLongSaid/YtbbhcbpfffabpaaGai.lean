/- Merged by program: T3RefShow, T3RefP, T3RefG. -/
import Derived.Test.YtbbhcbpfffabpaaGah
import Derived.Test.YtbbhcbpfffabpaaGac
import Derived.Test.YtbbhcbpfffabpaaGag
/- The document's text of a number is dec's; its length. -/
namespace Go.Proofs.Ytbbhcbpfffabpaa.T3
open Go.Proofs.Ytbbhcbpfffabpaa Go.Proofs
open Go.RowKit
theorem decZ_len : ∀ k n, (decZ k n).length ≤ k
  | 0, _ => by simp [decZ]
  | k + 1, n => by
    unfold decZ
    split
    · simp
    · have := decZ_len k (n / 10); simp; omega
theorem showText_len (a : Int) : (showText a).length ≤ 21 := by
  have h : ∀ n, (showPlain n).length ≤ 20 := by
    intro n
    have h1 := decZ_len 12 (n / 1000000 / 10)
    have h2 := frac_len (n % 1000000)
    unfold showPlain
    simp only [List.length_append, List.length_singleton]
    omega
  have := h a.natAbs
  unfold showText
  split <;> simp <;> omega

theorem refShow_any (a : Int) (w : World) (ha : Fits a) :
    Calls Try.prog 70 #[.int .i64 a] w (ShowPost a w) :=
  (refShow_grow a w ha).mono fun e w' ⟨t, ht, he, hb⟩ => ⟨t, by
    rw [ht, grow_plain _ (by unfold Fits at ha; omega)]
    rfl, he, hb⟩

theorem clean_nil : Clean [] := ⟨fun c h => by simp at h⟩

theorem bytes_eq {t u : ByteArray} (h : t.data.toList = u.data.toList) : t = u := by
  apply ByteArray.ext
  exact Array.toList_inj.1 h

end Go.Proofs.Ytbbhcbpfffabpaa.T3

/- Contract of the document's Parse: what it reads, byte by byte. -/
namespace Go.Proofs.Ytbbhcbpfffabpaa.T3
open Go.Proofs.Ytbbhcbpfffabpaa Go.Proofs
open Go.RowKit

def dn (c : UInt8) : Nat := c.toNat - 48
/-- The digits of a text, the lowest first. -/
def low (l : List UInt8) : List Nat := (l.map dn).reverse

theorem low_snoc (l : List UInt8) (c : UInt8) : low (l ++ [c]) = dn c :: low l := by simp [low]
theorem low_len (l : List UInt8) : (low l).length = l.length := by simp [low]
theorem val_low (l : List UInt8) : val (low l) = dval l := by
  have h : ∀ n (l : List UInt8), l.length = n → val (low l) = dval l := by
    intro n
    induction n with
    | zero => intro l hl; rw [List.length_eq_zero_iff.1 hl]; rfl
    | succ n ih =>
      intro l hl
      have hne : l ≠ [] := by intro e; rw [e] at hl; simp at hl
      have e := List.dropLast_concat_getLast hne
      rw [← e, low_snoc, dval_snoc, val, ih _ (by simp [hl])]
      unfold dn
      omega
  exact h _ l rfl
theorem low_dl (l : List UInt8) (h : ∀ c ∈ l, isDig c = true) : Dl (low l) := by
  intro d hd
  unfold low at hd
  rw [List.mem_reverse, List.mem_map] at hd
  obtain ⟨c, hc, rfl⟩ := hd
  have := isDig_yes (h c hc)
  unfold dn
  omega

set_option maxHeartbeats 400000 in
theorem num_any (c : UInt8) (w : World) :
    Calls Try.prog 77 #[.int .u8 (c.toNat : Int)] w fun e w' => e = .returned (.bool (isDig c)) ∧ w = w' := by
  have hc : c.toNat < 256 := c.toNat_lt
  have h : isDig c = (decide (48 ≤ c.toNat) && decide (c.toNat ≤ 57)) := rfl
  rw [h]; clear h
  generalize c.toNat = n at *
  rcases (show n < 48 ∨ (48 ≤ n ∧ n ≤ 57) ∨ (48 ≤ n ∧ 57 < n) from by omega) with h | ⟨h, h'⟩ | ⟨h, h'⟩
  · rw [show (decide (48 ≤ n) && decide (n ≤ 57)) = false from by simp; omega]
    have g : decide ((48 : Int) ≤ (n : Int)) = false := by simp; omega
    go_enter Try.func77, Try.ntmps77
    go_wp2
    go_ret
    exact ⟨rfl, rfl⟩
  · rw [show (decide (48 ≤ n) && decide (n ≤ 57)) = true from by simp; omega]
    have g : decide ((48 : Int) ≤ (n : Int)) = true := by simp; omega
    have g' : decide ((n : Int) ≤ 57) = true := by simp; omega
    go_enter Try.func77, Try.ntmps77
    go_wp2
    go_ret
    exact ⟨rfl, rfl⟩
  · rw [show (decide (48 ≤ n) && decide (n ≤ 57)) = false from by simp; omega]
    have g : decide ((48 : Int) ≤ (n : Int)) = true := by simp; omega
    have g' : decide ((n : Int) ≤ 57) = false := by simp; omega
    go_enter Try.func77, Try.ntmps77
    go_wp2
    go_ret
    exact ⟨rfl, rfl⟩

theorem blank_cases (c : UInt8) : (isBl c = true ∧ (((c.toNat : Int) == 32) = true ∨ (((c.toNat : Int) == 32) = false ∧ ((c.toNat : Int) == 9) = true) ∨ (((c.toNat : Int) == 32) = false ∧ ((c.toNat : Int) == 9) = false ∧ ((c.toNat : Int) == 10) = true))) ∨
    (isBl c = false ∧ ((c.toNat : Int) == 32) = false ∧ ((c.toNat : Int) == 9) = false ∧ ((c.toNat : Int) == 10) = false) := by
  unfold isBl
  by_cases h1 : c.toNat = 32
  · rw [h1]; decide
  by_cases h2 : c.toNat = 9
  · rw [h2]; decide
  by_cases h3 : c.toNat = 10
  · rw [h3]; decide
  refine Or.inr ⟨by simp [h1, h2, h3], ?_, ?_, ?_⟩ <;> (rw [beq_eq_false_iff_ne]; omega)
theorem sign_cases (s : ByteArray) (D : Nat) : (∃ h : D < s.size, ((s[D].toNat : Int) == 45) = true ∧ signOf (s.data.toList.drop D) = (true, 1)) ∨
    (∃ h : D < s.size, ((s[D].toNat : Int) == 45) = false ∧ ((s[D].toNat : Int) == 43) = true ∧ signOf (s.data.toList.drop D) = (false, 1)) ∨
    (∃ h : D < s.size, ((s[D].toNat : Int) == 45) = false ∧ ((s[D].toNat : Int) == 43) = false ∧ signOf (s.data.toList.drop D) = (false, 0)) ∨ (¬ D < s.size ∧ signOf (s.data.toList.drop D) = (false, 0)) := by
  rw [signOf_drop]
  by_cases h : D < s.size
  · rw [at_some s D h]
    by_cases h45 : s[D].toNat = 45
    · exact Or.inl ⟨h, by rw [h45]; rfl, by rw [if_pos (toNat_eq rfl h45)]⟩
    by_cases h43 : s[D].toNat = 43
    · exact Or.inr (Or.inl ⟨h, by rw [beq_eq_false_iff_ne]; omega, by rw [h43]; rfl, by rw [if_neg (toNat_ne rfl h45), if_pos (toNat_eq rfl h43)]⟩)
    · exact Or.inr (Or.inr (Or.inl ⟨h, by rw [beq_eq_false_iff_ne]; omega, by rw [beq_eq_false_iff_ne]; omega, by rw [if_neg (toNat_ne rfl h45), if_neg (toNat_ne rfl h43)]⟩))
  · rw [at_none s D h]
    exact Or.inr (Or.inr (Or.inr ⟨h, rfl⟩))

/-- The bytes of a run of digits that begins at B. -/
theorem run_at (s : ByteArray) (B : Nat) (W : List UInt8) (hW : W = (s.data.toList.drop B).takeWhile isDig) : ∀ j, ∀ hj : j < W.length, ∃ h : B + j < s.size, isDig s[B + j] = true ∧ W[j] = s[B + j] := by
  intro j hj
  have h1 := tw_le (p := isDig) (s.data.toList.drop B)
  rw [← hW] at h1
  have hlen : (s.data.toList.drop B).length = s.size - B := by simp
  have hlt : B + j < s.size := by omega
  have e1 : W[j] = (s.data.toList.drop B)[j]'(by omega) := by
    subst hW
    have := tw_take (p := isDig) (s.data.toList.drop B)
    have h2 : ((s.data.toList.drop B).takeWhile isDig)[j]? = ((s.data.toList.drop B).take ((s.data.toList.drop B).takeWhile isDig).length)[j]? := by rw [this]
    rw [List.getElem?_take_of_lt hj, List.getElem?_eq_getElem hj, List.getElem?_eq_getElem (by omega)] at h2
    exact Option.some.inj h2
  have e2 : (s.data.toList.drop B)[j]'(by omega) = s[B + j] := by
    rw [List.getElem_drop]; rfl
  refine ⟨hlt, ?_, e1.trans e2⟩
  have h3 := tw_lt (p := isDig) (l := s.data.toList.drop B) (k := j) (by rw [← hW]; exact hj) (by omega)
  rw [e2] at h3
  exact h3

theorem run_end (s : ByteArray) (B : Nat) (W : List UInt8) (hW : W = (s.data.toList.drop B).takeWhile isDig) : ∀ h : B + W.length < s.size, isDig s[B + W.length] = false := by
  intro h
  subst hW
  have hlen : (s.data.toList.drop B).length = s.size - B := by simp
  have h3 := tw_end (p := isDig) (l := s.data.toList.drop B) (by omega)
  rw [List.getElem_drop] at h3
  exact h3

theorem dot_cases (s : ByteArray) (C : Nat) : (∃ h : C < s.size, ((s[C].toNat : Int) == 46) = true ∧ dotOf s.data.toList C = ((s.data.toList.drop (C + 1)).takeWhile isDig, 1)) ∨
    (∃ h : C < s.size, ((s[C].toNat : Int) == 46) = false ∧ dotOf s.data.toList C = ([], 0)) ∨ (¬ C < s.size ∧ dotOf s.data.toList C = ([], 0)) := by
  by_cases h : C < s.size
  · by_cases h46 : s[C].toNat = 46
    · exact Or.inl ⟨h, by rw [h46]; rfl, by unfold dotOf; rw [at_some s C h, if_pos (toNat_eq rfl h46)]⟩
    · exact Or.inr (Or.inl ⟨h, by rw [beq_eq_false_iff_ne]; omega, by unfold dotOf; rw [at_some s C h, if_neg (toNat_ne rfl h46)]⟩)
  · exact Or.inr (Or.inr ⟨h, by unfold dotOf; rw [at_none s C h]; rfl⟩)

theorem parse_parts {l : List UInt8} {D B C : Nat} {sg : Bool × Nat} {W : List UInt8} {dt : List UInt8 × Nat}
    (hD : D = parseAt l) (hsg : sg = signOf (l.drop D)) (hB : B = D + sg.2) (hW : W = (l.drop B).takeWhile isDig) (hC : C = B + W.length) (hdt : dt = dotOf l C) :
    (W.length + dt.1.length = 0 → parseAns l = num3 (0, 0) 0) ∧ (¬ W.length + dt.1.length = 0 → parseAns l = num3 (back (sgn sg.1 (mval W dt.1))) (C + (dt.2 + dt.1.length))) := by
  subst hD hsg
  have eB : parseB l = B := by rw [hB]; rfl
  have eW : parseWhole l = W := by unfold parseWhole; rw [eB, hW]
  have eC : parseC l = C := by unfold parseC; rw [eB, eW, hC]
  have eP : parsePart l = dt := by unfold parsePart; rw [eC, hdt]
  have eN : parseNone l = (W.length + dt.1.length == 0) := by unfold parseNone; rw [eW, eP]
  constructor
  · intro h
    unfold parseAns
    rw [eN, h]
    rfl
  · intro h
    unfold parseAns
    rw [eN, if_neg (by simpa using h)]
    unfold parseVal parseEnd
    rw [eC, eP, eW]

end Go.Proofs.Ytbbhcbpfffabpaa.T3

/- Contracts of the document's answers for numbers: back to an int64. -/
namespace Go.Proofs.Ytbbhcbpfffabpaa.T3
open Go.Proofs.Ytbbhcbpfffabpaa Go.Proofs
open Go.RowKit

theorem suf_le (l : List Nat) : ∀ k, suf l k ≤ val l := by
  intro k
  induction k with
  | zero => exact Nat.le_refl _
  | succ k ih => have := suf_step l k; omega

def BackPost (z : Int) (W : World) (e : Ending) (w' : World) : Prop := e = .returned (ans (back z)) ∧ Below W.heap.size W w'

theorem fits_minus {l : List Nat} : Fits (sv true l) ↔ val l ≤ 9223372036854775808 := by
  unfold Fits sv; simp; omega
theorem fits_plus {l : List Nat} : Fits (sv false l) ↔ val l ≤ 9223372036854775807 := by
  unfold Fits sv; simp; omega

set_option maxRecDepth 100000 in
set_option maxHeartbeats 1000000 in
theorem back_any (m : Bool) (p : Option Addr) (n c : Nat) (l : List Nat) (w : World) (h : Rd w p n c l) :
    Calls Try.prog 60 #[.agg #[.bool m, .slice p n c]] w (BackPost (sv m l) w) := by
  have hn := h.size
  have hcp := h.cap
  have HR := Lib.hid h; clear h
  have HO := Lib.hid (fun w' => of_any (-9223372036854775808) w' (by decide))
  have t0 := two_new w (.bool m) (.slice p n c) 76
  have bl := (Below.refl w.heap.size w).alloc (Nat.le_refl _) (.cells #[.bool m, .slice p n c] 76)
  have HT0 := Lib.hid t0; clear t0
  have HBL := Lib.hid bl; clear bl
  go_enter Try.func60, Try.ntmps60
  go_wp2_with fail
  refine (HO.out _).mono ?_
  rintro e w1 ⟨mp, mn, mc, rfl, hrd, hb1⟩
  have hfield : ∀ w, (Instr.field 76 (.agg #[.bool true, .slice mp mn mc]) 1).run Try.prog w = .ok (.slice mp mn mc) w := fun _ => by kernel_rfl
  have T := HT0.out.below hb1 (by simp)
  have c0 := T.c0; have c1 := T.c1
  have HB1 := Lib.hid (HBL.out.trans (hb1.mono (by simp)))
  have HRM := Lib.hid hrd; clear hrd
  have HRL := Lib.hid (HR.out.below HB1.out)
  have hmost : val (dg 20 (-9223372036854775808 : Int).natAbs) = 9223372036854775808 := dg_val 20 _ (by decide)
  have hl1 := fun w' (e : w1 = w') => less_any mp p mn n mc c _ _ w' (e ▸ HRM.out) (e ▸ HRL.out)
  have hl2 := fun w' (e : w1 = w') => less_any p mp n mn c mc _ _ w' (e ▸ HRL.out) (e ▸ HRM.out)
  rw [hmost] at hl1 hl2
  have HL1 := Lib.hid hl1; clear hl1
  have HL2 := Lib.hid hl2; clear hl2
  clear hmost T hb1
  by_cases hover : 9223372036854775808 < val l
  · have hd : decide (9223372036854775808 < val l) = true := by simp; omega
    rw [hd] at HL1
    have hans : ans (back (sv m l)) = .tuple #[.int .i64 0, .int .i64 10] := ans_no (by cases m <;> simp only [fits_minus, fits_plus] <;> omega)
    have HANS := Lib.hid hans
    clear hd hover hans
    go_wp2_with fail
    refine (HL1.out _ rfl).mono ?_
    rintro e w2 ⟨rfl, rfl⟩
    go_wp2_with fail
    go_ret2
    exact ⟨by rw [HANS.out]; rfl, HB1.out⟩
  · have hd : decide (9223372036854775808 < val l) = false := by simp; omega
    rw [hd] at HL1
    clear hd
    cases m
    · by_cases hlt : val l < 9223372036854775808
      · have hd2 : decide (val l < 9223372036854775808) = true := by simp; omega
        rw [hd2] at HL2
        clear hd2 hover
        have hv := Lib.hid hlt; clear hlt
        go_wp2_with fail
        refine (HL1.out _ rfl).mono ?_
        rintro e w2 ⟨rfl, rfl⟩
        go_wp2_with fail
        refine (HL2.out _ rfl).mono ?_
        rintro e w2 ⟨rfl, rfl⟩
        go_wp2_with fail
        go_loop [5, 6] (fun x i => ∃ s : Nat, ∃ j : Int, x = .int .i64 s ∧ i = .int .i64 j ∧ -1 ≤ j ∧ j < n ∧ Hid (s = suf l (j + 1).toNat)) (fun _ i => (intOf i + 1).toNat)
        case atStart => exact ⟨0, _, rfl, rfl, by omega, by omega, Lib.hid (by rw [suf_end l _ (by have := HR.out.len; omega)])⟩
        case round =>
          obtain ⟨s, j, rfl, rfl, hj1, hj2, hs⟩ := hrel
          by_cases h0 : 0 ≤ j
          · obtain ⟨k, rfl⟩ := Int.eq_ofNat_of_zero_le h0
            rcases HRL.out.cells with hx | ⟨ba, off, rfl, hlt, hx⟩
            · exfalso
              have := HR.out.len
              rw [hx] at this; simp at this; omega
            obtain ⟨x, hxe⟩ : ∃ x, x = l.getD k 0 := ⟨_, rfl⟩
            have hcell := hx k (by have := HR.out.len; omega)
            rw [← hxe] at hcell
            have hst : suf l k = x + 10 * s := by
              rw [suf_step, ← hxe, hs.out, show ((k : Int) + 1).toNat = k + 1 from by omega]
            have hle : x + 10 * s ≤ 9223372036854775807 := by have := suf_le l k; have := hv.out; omega
            have hx9 : x < 10 := by rw [hxe]; exact HR.out.digs.getD k
            have HST := Lib.hid hst; clear hst hxe hx
            go_wp2_with fail
            go_round
            case rel => exact ⟨x + 10 * s, (k : Int) - 1, by go_num, rfl, by omega, by omega, Lib.hid (by rw [← HST.out, show ((k : Int) - 1 + 1).toNat = k from by omega])⟩
            case measure => simp [intOf]
          · obtain rfl : j = -1 := by omega
            have hfin : s = val l := by have := hs.out; rw [show ((-1 : Int) + 1).toNat = 0 from rfl, suf_zero] at this; exact this
            have hans : ans (back (sv false l)) = .tuple #[.int .i64 (s : Int), .int .i64 0] := by
              rw [ans_yes (fits_plus.2 (by have := hv.out; omega)), hfin]; rfl
            have HANS := Lib.hid hans
            clear hfin hans
            go_wp2_with fail
            go_ret2
            exact ⟨by rw [HANS.out]; rfl, HB1.out⟩
      · have hd2 : decide (val l < 9223372036854775808) = false := by simp; omega
        rw [hd2] at HL2
        have hans : ans (back (sv false l)) = .tuple #[.int .i64 0, .int .i64 10] := ans_no (by rw [fits_plus]; omega)
        have HANS := Lib.hid hans
        clear hd2 hover hlt hans
        go_wp2_with fail
        refine (HL1.out _ rfl).mono ?_
        rintro e w2 ⟨rfl, rfl⟩
        go_wp2_with fail
        refine (HL2.out _ rfl).mono ?_
        rintro e w2 ⟨rfl, rfl⟩
        go_wp2_with fail
        go_ret2
        exact ⟨by rw [HANS.out]; rfl, HB1.out⟩
    · have hv := Lib.hid hover; clear hover
      go_wp2_with fail
      refine (HL1.out _ rfl).mono ?_
      rintro e w2 ⟨rfl, rfl⟩
      go_wp2_with fail
      go_loop [5, 6] (fun x i => ∃ s : Nat, ∃ j : Int, x = .int .i64 (-(s : Int)) ∧ i = .int .i64 j ∧ -1 ≤ j ∧ j < n ∧ Hid (s = suf l (j + 1).toNat)) (fun _ i => (intOf i + 1).toNat)
      case atStart => exact ⟨0, _, rfl, rfl, by omega, by omega, Lib.hid (by rw [suf_end l _ (by have := HR.out.len; omega)])⟩
      case round =>
        obtain ⟨s, j, rfl, rfl, hj1, hj2, hs⟩ := hrel
        by_cases h0 : 0 ≤ j
        · obtain ⟨k, rfl⟩ := Int.eq_ofNat_of_zero_le h0
          rcases HRL.out.cells with hx | ⟨ba, off, rfl, hlt, hx⟩
          · exfalso
            have := HR.out.len
            rw [hx] at this; simp at this; omega
          obtain ⟨x, hxe⟩ : ∃ x, x = l.getD k 0 := ⟨_, rfl⟩
          have hcell := hx k (by have := HR.out.len; omega)
          rw [← hxe] at hcell
          have hst : suf l k = x + 10 * s := by
            rw [suf_step, ← hxe, hs.out, show ((k : Int) + 1).toNat = k + 1 from by omega]
          have hle : x + 10 * s ≤ 9223372036854775808 := by have := suf_le l k; have := hv.out; omega
          have hx9 : x < 10 := by rw [hxe]; exact HR.out.digs.getD k
          have HST := Lib.hid hst; clear hst hxe hx
          go_wp2_with fail
          go_round
          case rel => exact ⟨x + 10 * s, (k : Int) - 1, by go_num, rfl, by omega, by omega, Lib.hid (by rw [← HST.out, show ((k : Int) - 1 + 1).toNat = k from by omega])⟩
          case measure => simp [intOf]
        · obtain rfl : j = -1 := by omega
          have hfin : s = val l := by have := hs.out; rw [show ((-1 : Int) + 1).toNat = 0 from rfl, suf_zero] at this; exact this
          have hans : ans (back (sv true l)) = .tuple #[.int .i64 (-(s : Int)), .int .i64 0] := by
            rw [ans_yes (fits_minus.2 (by have := hv.out; omega)), hfin]; rfl
          have HANS := Lib.hid hans
          clear hfin hans
          go_wp2_with fail
          go_ret2
          exact ⟨by rw [HANS.out]; rfl, HB1.out⟩
end Go.Proofs.Ytbbhcbpfffabpaa.T3
