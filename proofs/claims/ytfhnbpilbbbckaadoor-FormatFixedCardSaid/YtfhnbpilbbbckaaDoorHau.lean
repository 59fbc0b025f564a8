/- Merged by program: CelP. -/
import Derived.Test.YtfhnbpilbbbckaaDoorHas
import Derived.Test.YtfhnbpilbbbckaaDoorHan
/- What cells tell: cell.Num, Str, dec.Int, format.bounded, character: walks. -/
namespace Go.Proofs.YtfhnbpilbbbckaaDoor
open Go.RowKit

/-- A cell that can be walked. -/
structure COk (c : Cel) : Prop where
  n : T3.Fits c.n
  s : c.s.size ≤ 300
/-- A number and an error. -/
def TwoOut (a b : Int) (w : World) (e : Ending) (w' : World) : Prop := e = .returned (.tuple #[.int .i64 a, .int .i64 b]) ∧ Below w.heap.size w w'
/-- A text and an error. -/
def StrErr (r : ByteArray × Int) (w : World) (e : Ending) (w' : World) : Prop := e = .returned (.tuple #[.string r.1, .int .i64 r.2]) ∧ Below w.heap.size w w'

theorem back_cases (x : Int) : ((T3.back x).2 = 0 ∧ T3.Fits (T3.back x).1) ∨ ((T3.back x).2 = 10 ∧ (T3.back x).1 = 0) := by
  unfold T3.back
  split
  · rename_i h; exact Or.inl ⟨rfl, h⟩
  · exact Or.inr ⟨rfl, rfl⟩
theorem num_cases (c : Cel) (h : T3.Fits c.n) : (c.err = 0 ∧ T3.Fits c.num) ∨ (c.err = 10 ∧ c.num = 0) := by
  unfold Cel.err Cel.num
  have h0 : T3.Fits 0 := by unfold T3.Fits; omega
  by_cases h2 : c.k = 2
  · rw [if_pos h2, if_pos h2]
    unfold T3.pR T3.pN
    by_cases hp : T3.parseNone c.s.data.toList
    · rw [if_pos hp, if_pos hp]; exact Or.inl ⟨rfl, h0⟩
    · rw [if_neg hp, if_neg hp]; exact back_cases _
  · rw [if_neg h2, if_neg h2]
    split
    · exact Or.inl ⟨rfl, h⟩
    · exact Or.inl ⟨rfl, h0⟩

set_option maxRecDepth 100000 in
theorem leading_any (s : ByteArray) (hs : s.size ≤ 300) (w : World) :
    Calls Tryd.prog 83 #[.string s] w fun e w' => e = .returned (.tuple #[.int .i64 (T3.pN s.data.toList), .int .i64 (T3.pR s.data.toList)]) ∧ w = w' := by
  have H := Lib.hid (T3.parse_any s w (by omega))
  have h3 := T3.parse_three s.data.toList
  obtain ⟨a, ha⟩ : ∃ a, a = T3.pN s.data.toList := ⟨_, rfl⟩
  obtain ⟨b, hb⟩ : ∃ b, b = T3.pE s.data.toList := ⟨_, rfl⟩
  obtain ⟨c, hc⟩ : ∃ c, c = T3.pR s.data.toList := ⟨_, rfl⟩
  rw [← ha, ← hb, ← hc] at h3
  rw [← ha, ← hc]
  rw [h3] at H
  clear ha hb hc h3
  go_enter Tryd.func83, Tryd.ntmps83
  go_wp2_with fail
  refine H.out.mono ?_
  rintro e w1 ⟨rfl, rfl⟩
  go_wp2_with fail
  go_ret2
  exact ⟨rfl, rfl⟩

set_option maxRecDepth 100000 in
theorem cnum_any (c : Cel) (h : COk c) (w : World) : Calls Tryd.prog 72 #[c.val] w (TwoOut c.num c.err w) := by
  by_cases h2 : c.k = 2
  · have hn : c.num = T3.pN c.s.data.toList := by unfold Cel.num; rw [if_pos h2]
    have he : c.err = T3.pR c.s.data.toList := by unfold Cel.err; rw [if_pos h2]
    rw [hn, he]
    clear hn he
    unfold Cel.val
    rw [h2]
    have hs := h.s
    obtain ⟨_, n, s⟩ := c
    dsimp only at hs ⊢
    have HL := Lib.hid (fun w => leading_any s hs w)
    have B0 := Lib.hid (below_new w (.cells #[.int .i64 2, .int .i64 n, .string s] 44))
    clear h h2
    go_enter Tryd.func72, Tryd.ntmps72
    go_wp2_with fail
    refine (HL.out _).mono ?_
    rintro e w1 ⟨rfl, rfl⟩
    go_wp2_with fail
    go_ret2
    exact ⟨rfl, B0.out⟩
  · refine (T3.num_cell c.k c.n c.s h2 w).mono ?_
    rintro e w1 ⟨rfl, b1⟩
    refine ⟨?_, b1⟩
    unfold Cel.num Cel.err T3.numC
    rw [if_neg h2, if_neg h2]
theorem cstr_any (c : Cel) (h : COk c) (w : World) : Calls Tryd.prog 71 #[c.val] w (StrOut c.str w) :=
  (T3.str_any c.k c.n c.s h.n w).mono fun _ _ h => h
theorem cstr_size (c : Cel) (h : COk c) : c.str.size ≤ 300 := T3.strC_size c.k c.n c.s h.s

theorem tmod_near' (a : Int) (ha : T3.Fits a) : a - a.tmod 1000000 = a.tdiv 1000000 * 1000000 ∧ -9223372036854775808 ≤ a.tdiv 1000000 * 1000000 ∧ a.tdiv 1000000 * 1000000 ≤ 9223372036854775807 := by
  unfold T3.Fits at ha
  have h := Int.tmod_add_mul_tdiv a 1000000
  refine ⟨by omega, ?_⟩
  by_cases h0 : 0 ≤ a
  · have := Int.tdiv_eq_ediv_of_nonneg h0 (b := 1000000)
    omega
  · have e : a.tdiv 1000000 = -((-a) / 1000000) := by rw [← Int.tdiv_eq_ediv_of_nonneg (by omega), Int.neg_tdiv, Int.neg_neg]
    omega
theorem tdiv_bd (a : Int) (ha : T3.Fits a) : -9223372036855 ≤ a.tdiv 1000000 ∧ a.tdiv 1000000 ≤ 9223372036855 := by
  have := tmod_near' a ha
  omega
set_option maxRecDepth 100000 in
theorem dint_any (a : Int) (ha : T3.Fits a) (w : World) :
    Calls Tryd.prog 88 #[.int .i64 a] w fun e w' => e = .returned (.int .i64 (a.tdiv 1000000 * 1000000)) ∧ w = w' := by
  obtain ⟨h1, h2, h3⟩ := tmod_near' a ha
  have h : wrap64 (a - a.tmod 1000000) = a.tdiv 1000000 * 1000000 := by
    rw [h1]; unfold wrap64; omega
  unfold T3.Fits at ha
  obtain ⟨a1, a2⟩ := ha
  have H := Lib.hid h
  clear h h1 h2 h3
  go_enter Tryd.func88, Tryd.ntmps88
  go_wp2
  go_ret
  exact ⟨T2.ret_i64 H.out, rfl⟩

set_option maxRecDepth 100000 in
theorem bounded_any (c : Cel) (h : COk c) (w : World) : Calls Tryd.prog 68 #[c.val] w (TwoOut (starS c).1 (starS c).2 w) := by
  have HN := Lib.hid (fun w => cnum_any c h w)
  have hnc := num_cases c h.n
  have HS : Hid (starS c = if c.err ≠ 0 then (0, c.err) else if c.num.tdiv 1000000 < 0 ∨ 200 < c.num.tdiv 1000000 then (0, 100) else (c.num.tdiv 1000000, 0)) := Lib.hid rfl
  obtain ⟨E, hE⟩ : ∃ E, E = c.err := ⟨_, rfl⟩
  obtain ⟨M, hM⟩ : ∃ M, M = c.num := ⟨_, rfl⟩
  rw [← hE, ← hM] at HN hnc HS
  have B0 := Lib.hid (below_new w (.cells #[.int .i64 c.k, .int .i64 c.n, .string c.s] 44))
  have hv : c.val = .agg #[.int .i64 c.k, .int .i64 c.n, .string c.s] := rfl
  rw [hv] at HN
  rw [hv]
  have fin : ∀ a b e w', starS c = (a, b) → TwoOut a b w e w' → TwoOut (starS c).1 (starS c).2 w e w' := fun a b e w' h1 h2 => by rw [h1]; exact h2
  have FIN := Lib.hid fin
  clear fin hE hM hv
  have hst : ∀ e, StrErr (noTxt, 0) w e w → True := fun _ _ => trivial
  clear hst
  rcases hnc with ⟨hE, hM⟩ | ⟨hE, hM⟩
  · obtain ⟨q, hq⟩ : ∃ q, q = M.tdiv 1000000 := ⟨_, rfl⟩
    have hqb := tdiv_bd M hM
    rw [← hq] at HS hqb
    rw [hE] at HS HN
    have HN' : Hid (∀ w, Calls Tryd.prog 72 #[.agg #[.int .i64 c.k, .int .i64 c.n, .string c.s]] w (TwoOut M 0 w)) := HN
    clear HN hE
    have wM : wrap64 (M.tdiv 1000000) = q := by rw [← hq]; unfold wrap64; omega
    clear hq
    by_cases h1 : q < 0
    · have d1 : decide (q < 0) = true := decide_eq_true h1
      have HR : Hid (starS c = (0, 100)) := Lib.hid (by rw [HS.out, if_neg (by omega), if_pos (Or.inl h1)])
      go_enter Tryd.func68, Tryd.ntmps68
      go_wp2_with fail
      refine (HN'.out _).mono ?_
      rintro e w1 ⟨rfl, b1⟩
      have B1 := Lib.hid (Below.step B0.out b1)
      clear b1
      go_wp2_with fail
      go_ret2
      exact FIN.out _ _ _ _ HR.out ⟨rfl, B1.out⟩
    · have d1 : decide (q < 0) = false := decide_eq_false h1
      by_cases h2 : 200 < q
      · have d2 : decide (200 < q) = true := decide_eq_true h2
        have HR : Hid (starS c = (0, 100)) := Lib.hid (by rw [HS.out, if_neg (by omega), if_pos (Or.inr h2)])
        go_enter Tryd.func68, Tryd.ntmps68
        go_wp2_with fail
        refine (HN'.out _).mono ?_
        rintro e w1 ⟨rfl, b1⟩
        have B1 := Lib.hid (Below.step B0.out b1)
        clear b1
        go_wp2_with fail
        go_ret2
        exact FIN.out _ _ _ _ HR.out ⟨rfl, B1.out⟩
      · have d2 : decide (200 < q) = false := decide_eq_false h2
        have HR : Hid (starS c = (q, 0)) := Lib.hid (by rw [HS.out, if_neg (by omega), if_neg (by omega)])
        go_enter Tryd.func68, Tryd.ntmps68
        go_wp2_with fail
        refine (HN'.out _).mono ?_
        rintro e w1 ⟨rfl, b1⟩
        have B1 := Lib.hid (Below.step B0.out b1)
        clear b1
        go_wp2_with fail
        go_ret2
        exact FIN.out _ _ _ _ HR.out ⟨by show Ending.returned (.tuple #[.int .i64 (wrap64 (M.tdiv 1000000)), .int .i64 0]) = _; rw [wM], B1.out⟩
  · rw [hE, hM] at HN
    have HR : Hid (starS c = (0, 10)) := Lib.hid (by rw [HS.out, hE, if_pos (by omega)])
    clear hE hM
    go_enter Tryd.func68, Tryd.ntmps68
    go_wp2_with fail
    refine (HN.out _).mono ?_
    rintro e w1 ⟨rfl, b1⟩
    have B1 := Lib.hid (Below.step B0.out b1)
    clear b1
    go_wp2_with fail
    go_ret2
    exact FIN.out _ _ _ _ HR.out ⟨rfl, B1.out⟩

set_option maxRecDepth 100000 in
set_option maxHeartbeats 1000000 in
theorem character_any (c : Cel) (h : COk c) (w : World) :
    Calls Tryd.prog 69 #[c.val] w (StrErr (if c.k = 1 then chrS (c.n.tdiv 1000000) else (T2.subB c.str 1 1, 0)) w) := by
  have B0 := Lib.hid (below_new w (.cells #[.int .i64 c.k, .int .i64 c.n, .string c.s] 44))
  have hv : c.val = .agg #[.int .i64 c.k, .int .i64 c.n, .string c.s] := rfl
  by_cases hk : c.k = 1
  · rw [if_pos hk]
    have hn := h.n
    obtain ⟨k, n, s⟩ := c
    dsimp only at hk hn B0 hv ⊢
    subst hk
    rw [hv]
    obtain ⟨q, hq⟩ : ∃ q, q = n.tdiv 1000000 := ⟨_, rfl⟩
    have hqb := tdiv_bd n hn
    rw [← hq] at hqb ⊢
    have wq : wrap64 (n.tdiv 1000000) = q := by rw [← hq]; unfold wrap64; omega
    clear hq h hv hn
    by_cases hb : wrap32 q = q
    · have hrb : -2147483648 ≤ q ∧ q ≤ 2147483647 := by
        unfold wrap32 at hb; omega
      have HV := Lib.hid (fun w => Tryd.utf8_ValidRune q w)
      by_cases hval : (0 ≤ q ∧ q < 55296) ∨ (57343 < q ∧ q ≤ 1114111)
      · have hvr : Lib.validRune q = true := by unfold Lib.validRune; exact decide_eq_true hval
        rw [hvr] at HV
        have HC : Hid (chrS q = (Utf8.encode q, 0)) := Lib.hid (by unfold chrS; rw [if_neg (by omega)])
        clear hvr
        go_enter Tryd.func69, Tryd.ntmps69
        go_wp2_with fail
        refine (HV.out _).mono ?_
        rintro e w1 ⟨rfl, rfl⟩
        go_wp2_with fail
        go_ret2
        rw [HC.out]
        exact ⟨rfl, B0.out⟩
      · have hvr : Lib.validRune q = false := by unfold Lib.validRune; exact decide_eq_false hval
        rw [hvr] at HV
        have HC : Hid (chrS q = (noTxt, 100)) := Lib.hid (by unfold chrS; rw [if_pos (by omega)])
        clear hvr
        go_enter Tryd.func69, Tryd.ntmps69
        go_wp2_with fail
        refine (HV.out _).mono ?_
        rintro e w1 ⟨rfl, rfl⟩
        go_wp2_with fail
        go_ret2
        rw [HC.out]
        exact ⟨rfl, B0.out⟩
    · have hrb : q < -2147483648 ∨ 2147483647 < q := by
        rcases Int.lt_or_le q (-2147483648) with h1 | h1
        · exact Or.inl h1
        · rcases Int.lt_or_le 2147483647 q with h2 | h2
          · exact Or.inr h2
          · exact absurd (by unfold wrap32; omega) hb
      have HC : Hid (chrS q = (noTxt, 100)) := Lib.hid (by unfold chrS; rw [if_pos (by omega)])
      have d1 : (wrap64 (wrap32 q) != q) = true := bne_iff_ne.2 (fun e => hb (by rw [← e]; unfold wrap64 wrap32; omega))
      clear hb hrb
      go_enter Tryd.func69, Tryd.ntmps69
      go_wp2_with fail
      go_ret2
      rw [HC.out]
      exact ⟨rfl, B0.out⟩
  · rw [if_neg hk]
    have HS := Lib.hid (fun w => cstr_any c h w)
    have hsz := cstr_size c h
    have HB := Lib.hid (fun w => T2.sub_any c.str 1 1 (by unfold maxLen; omega) (by omega) (by omega) w)
    rw [hv] at HS
    rw [hv]
    have d1 : (c.k != 1) = true := bne_iff_ne.2 hk
    clear hv hk
    go_enter Tryd.func69, Tryd.ntmps69
    go_wp2_with fail
    refine (HS.out _).mono ?_
    rintro e w1 ⟨rfl, b1⟩
    have B1 := Lib.hid (Below.step B0.out b1)
    clear b1
    go_wp2_with fail
    refine (HB.out _).mono ?_
    rintro e w2 ⟨rfl, b2⟩
    have B2 := Lib.hid (Below.step B1.out b2)
    clear b2
    go_wp2_with fail
    go_ret2
    exact ⟨rfl, B2.out⟩
end Go.Proofs.YtfhnbpilbbbckaaDoor
