/- ref.Nest: a walk. -/
import Derived.Test.YtdhndfmblmcapaaDoorParts
namespace Go.Proofs.YtdhndfmblmcapaaDoor
open Go.RowKit

/-- Whether a part of kind x gets brackets within a tree of kind k. -/
def barB (k x : Int) : Bool := (decide (k = 4) && decide (x = 5)) || (decide (k = 6) && ((decide (x = 0) || decide (x = 4)) || decide (x = 5)))
def upN (b : Bool) (n : Nat) : Nat := if b = true then n + 1 else n
def maxL (g : Tree → Nat) : List Tree → Nat
  | [] => 0
  | t :: r => max (g t) (maxL g r)
theorem maxL_snoc (g : Tree → Nat) (l : List Tree) (t : Tree) : maxL g (l ++ [t]) = max (maxL g l) (g t) := by
  induction l with
  | nil => simp [maxL]
  | cons a l ih => simp only [List.cons_append, maxL, ih]; omega
def nestN : Nat → Tree → Nat
  | 0, _ => 0
  | n + 1, t => maxL (fun c => upN (barB t.k c.k) (nestN n c)) t.kids
theorem nestN_le (n : Nat) (t : Tree) : nestN n t ≤ n := by
  induction n generalizing t with
  | zero => exact Nat.le_refl _
  | succ n ih =>
    show maxL _ t.kids ≤ n + 1
    induction t.kids with
    | nil => exact Nat.zero_le _
    | cons a l ih2 =>
      show max (upN (barB t.k a.k) (nestN n a)) (maxL (fun c => upN (barB t.k c.k) (nestN n c)) l) ≤ n + 1
      have := ih a
      have h2 : upN (barB t.k a.k) (nestN n a) ≤ n + 1 := by unfold upN; split <;> omega
      omega

set_option maxRecDepth 100000 in
theorem nest_spec (n : Nat) : ∀ (within : Int) (t : Tree) (cs : Array Value) (S : Nat → Prop) (w : World), At w S t cs → Good n within t → n ≤ 100 →
    Calls Tryd.prog 15 #[.agg cs] w fun e w' => e = .returned (.int .i64 (nestN n t)) ∧ Below w.heap.size w w' := by
  induction n with
  | zero => intro within t cs S w _ hg _; exact hg.elim
  | succ n ih =>
    intro within t cs S w h hg hn
    have HI := Lib.hid ih; clear ih
    obtain ⟨sl, rfl, hsl⟩ := h.open
    have HG := Lib.hid hg.2
    have hfew := hg.1.few
    clear h hg
    have hsh := hsl.shape
    go_enter Tryd.func15, Tryd.ntmps15
    go_upto_region 1 with (fail)
    obtain ⟨W, hW, hX, hB, _⟩ := re_box w (reC t.k t.f t.lo t.hi sl)
    rw [← hW]
    clear hW
    have S1 := Lib.hid (hsl.after hB.out)
    clear hsl
    obtain ⟨c0, c1, c2, c3, c4, c5, c6, c7⟩ := eight_re hX.out.eight
    obtain ⟨a, c, rfl⟩ := hsh
    go_wp2_with fail
    go_loopw [3, 4] (fun x y wr => ∃ v i : Nat, x = .int .i64 v ∧ y = .int .i64 i ∧ i ≤ t.kids.length ∧ Hid (v = maxL (fun c => upN (barB t.k c.k) (nestN n c)) (t.kids.take i)) ∧ Hid (Below W.heap.size W wr)) (fun _ y _ => t.kids.length - (intOf y).toNat)
    case atStart => exact ⟨0, 0, rfl, rfl, by omega, Lib.hid rfl, Lib.hid (Below.refl _ _)⟩
    case round =>
      obtain ⟨v, i, rfl, rfl, hi, hN, hb⟩ := hrel
      clear c0 c1 c2 c3 c4 c5 c6 c7
      have X1 := Lib.hid (hX.out.after hb.out)
      obtain ⟨c0, c1, c2, c3, c4, c5, c6, c7⟩ := eight_re X1.out.eight
      by_cases hgo : i < t.kids.length
      · rcases S1.out with ⟨e, _⟩ | ⟨hl, b, off, c', cs, e, hc, hBb, h8, hat⟩
        · rw [e] at hgo; exact absurd hgo (by simp)
        · simp only [Value.slice.injEq] at e
          obtain ⟨rfl, _, rfl⟩ := e
          have hT := hat i hgo
          have hT' := hT.after hb.out
          obtain ⟨ai, ci, e, _⟩ := hT.opens
          have h8i := (h8 i hgo).after hT.size hb.out
          rw [e] at h8i hT'
          have H8 := Lib.hid h8i
          obtain ⟨d0, d1, d2, d3, d4, d5, d6, d7⟩ := eight_re h8i
          have HC := Lib.hid (HI.out t.k t.kids[i] _ S _ hT' (HG.out _ (List.getElem_mem hgo)) (by omega))
          have hlt := Lib.hid (h8i.lt rfl)
          clear e hT hT' h8 hat h8i
          go_wp2_with fail
          refine HC.out.mono ?_
          rintro e w2 ⟨rfl, b2⟩
          have B2 := Lib.hid (Below.step hb.out b2)
          have X2 := Lib.hid (X1.out.after b2)
          have H82 := Lib.hid (H8.out.keep (b2.block b hlt.out))
          clear b2 c0 c1 c2 c3 c4 c5 c6 c7 d0 d1 d2 d3 d4 d5 d6 d7
          obtain ⟨c0, c1, c2, c3, c4, c5, c6, c7⟩ := eight_re X2.out.eight
          obtain ⟨d0, d1, d2, d3, d4, d5, d6, d7⟩ := eight_re H82.out
          have hle := Lib.hid (nestN_le n t.kids[i])
          have hle1 := hle.out
          obtain ⟨q, hq⟩ : ∃ q, q = nestN n t.kids[i] := ⟨_, rfl⟩
          rw [← hq] at hle1 ⊢
          have HQ := Lib.hid hq
          obtain ⟨x, hx⟩ : ∃ x, x = t.kids[i].k := ⟨_, rfl⟩
          rw [← hx] at d0
          obtain ⟨k, hk⟩ : ∃ k, k = t.k := ⟨_, rfl⟩
          rw [← hk] at c0
          have HS : Hid (maxL (fun c => upN (barB t.k c.k) (nestN n c)) (t.kids.take (i + 1)) = max v (upN (barB k x) q)) := Lib.hid (by
            rw [List.take_succ_eq_append_getElem hgo, maxL_snoc, ← hN.out, ← hx, ← hk, ← hq])
          clear hq hx hk hle hN
          by_cases h4 : k = 4
          · subst h4
            by_cases x5 : x = 5
            · subst x5
              have hb0 : upN (barB 4 5) q = q + 1 := by simp [upN, barB]
              rw [hb0] at HS
              clear hb0
              by_cases hv : v < q + 1
              · have hm : max v (q + 1) = q + 1 := by omega
                rw [hm] at HS
                clear hm
                go_wp2_with fail
                go_roundw
                case rel => exact ⟨q + 1, i + 1, by go_num, by go_num, by omega, Lib.hid HS.out.symm, B2⟩
                case measure => simp [intOf]; omega
              · have hm : max v (q + 1) = v := by omega
                rw [hm] at HS
                clear hm
                go_wp2_with fail
                go_roundw
                case rel => exact ⟨v, i + 1, by go_num, by go_num, by omega, Lib.hid HS.out.symm, B2⟩
                case measure => simp [intOf]; omega
            · have n5 : (x == 5) = false := beq_eq_false_iff_ne.2 x5
              have hb0 : upN (barB 4 x) q = q := by simp [upN, barB, *]
              rw [hb0] at HS
              clear hb0
              by_cases hv : v < q
              · have hm : max v (q) = q := by omega
                rw [hm] at HS
                clear hm
                go_wp2_with fail
                go_roundw
                case rel => exact ⟨q, i + 1, by go_num, by go_num, by omega, Lib.hid HS.out.symm, B2⟩
                case measure => simp [intOf]; omega
              · have hm : max v (q) = v := by omega
                rw [hm] at HS
                clear hm
                go_wp2_with fail
                go_roundw
                case rel => exact ⟨v, i + 1, by go_num, by go_num, by omega, Lib.hid HS.out.symm, B2⟩
                case measure => simp [intOf]; omega
          · have n4 : (k == 4) = false := beq_eq_false_iff_ne.2 h4
            by_cases h6 : k = 6
            · subst h6
              clear n4 h4
              by_cases x0 : x = 0
              · subst x0
                have hb0 : upN (barB 6 0) q = q + 1 := by simp [upN, barB]
                rw [hb0] at HS
                clear hb0
                by_cases hv : v < q + 1
                · have hm : max v (q + 1) = q + 1 := by omega
                  rw [hm] at HS
                  clear hm
                  go_wp2_with fail
                  go_roundw
                  case rel => exact ⟨q + 1, i + 1, by go_num, by go_num, by omega, Lib.hid HS.out.symm, B2⟩
                  case measure => simp [intOf]; omega
                · have hm : max v (q + 1) = v := by omega
                  rw [hm] at HS
                  clear hm
                  go_wp2_with fail
                  go_roundw
                  case rel => exact ⟨v, i + 1, by go_num, by go_num, by omega, Lib.hid HS.out.symm, B2⟩
                  case measure => simp [intOf]; omega
              · have n0 : (x == 0) = false := beq_eq_false_iff_ne.2 x0
                by_cases x4 : x = 4
                · subst x4
                  clear n0 x0
                  have hb0 : upN (barB 6 4) q = q + 1 := by simp [upN, barB]
                  rw [hb0] at HS
                  clear hb0
                  by_cases hv : v < q + 1
                  · have hm : max v (q + 1) = q + 1 := by omega
                    rw [hm] at HS
                    clear hm
                    go_wp2_with fail
                    go_roundw
                    case rel => exact ⟨q + 1, i + 1, by go_num, by go_num, by omega, Lib.hid HS.out.symm, B2⟩
                    case measure => simp [intOf]; omega
                  · have hm : max v (q + 1) = v := by omega
                    rw [hm] at HS
                    clear hm
                    go_wp2_with fail
                    go_roundw
                    case rel => exact ⟨v, i + 1, by go_num, by go_num, by omega, Lib.hid HS.out.symm, B2⟩
                    case measure => simp [intOf]; omega
                · have n4 : (x == 4) = false := beq_eq_false_iff_ne.2 x4
                  by_cases x5 : x = 5
                  · subst x5
                    clear n0 x0 n4 x4
                    have hb0 : upN (barB 6 5) q = q + 1 := by simp [upN, barB]
                    rw [hb0] at HS
                    clear hb0
                    by_cases hv : v < q + 1
                    · have hm : max v (q + 1) = q + 1 := by omega
                      rw [hm] at HS
                      clear hm
                      go_wp2_with fail
                      go_roundw
                      case rel => exact ⟨q + 1, i + 1, by go_num, by go_num, by omega, Lib.hid HS.out.symm, B2⟩
                      case measure => simp [intOf]; omega
                    · have hm : max v (q + 1) = v := by omega
                      rw [hm] at HS
                      clear hm
                      go_wp2_with fail
                      go_roundw
                      case rel => exact ⟨v, i + 1, by go_num, by go_num, by omega, Lib.hid HS.out.symm, B2⟩
                      case measure => simp [intOf]; omega
                  · have n5 : (x == 5) = false := beq_eq_false_iff_ne.2 x5
                    have hb0 : upN (barB 6 x) q = q := by simp [upN, barB, *]
                    rw [hb0] at HS
                    clear hb0
                    by_cases hv : v < q
                    · have hm : max v (q) = q := by omega
                      rw [hm] at HS
                      clear hm
                      go_wp2_with fail
                      go_roundw
                      case rel => exact ⟨q, i + 1, by go_num, by go_num, by omega, Lib.hid HS.out.symm, B2⟩
                      case measure => simp [intOf]; omega
                    · have hm : max v (q) = v := by omega
                      rw [hm] at HS
                      clear hm
                      go_wp2_with fail
                      go_roundw
                      case rel => exact ⟨v, i + 1, by go_num, by go_num, by omega, Lib.hid HS.out.symm, B2⟩
                      case measure => simp [intOf]; omega
            · have n6 : (k == 6) = false := beq_eq_false_iff_ne.2 h6
              have hb0 : upN (barB k x) q = q := by simp [upN, barB, *]
              rw [hb0] at HS
              clear hb0
              by_cases hv : v < q
              · have hm : max v (q) = q := by omega
                rw [hm] at HS
                clear hm
                go_wp2_with fail
                go_roundw
                case rel => exact ⟨q, i + 1, by go_num, by go_num, by omega, Lib.hid HS.out.symm, B2⟩
                case measure => simp [intOf]; omega
              · have hm : max v (q) = v := by omega
                rw [hm] at HS
                clear hm
                go_wp2_with fail
                go_roundw
                case rel => exact ⟨v, i + 1, by go_num, by go_num, by omega, Lib.hid HS.out.symm, B2⟩
                case measure => simp [intOf]; omega
      · go_wp2_with fail
        go_ret
        have e1 := hN.out
        rw [List.take_of_length_le (by omega)] at e1
        exact ⟨by rw [e1]; rfl, Below.step hB.out hb.out⟩
end Go.Proofs.YtdhndfmblmcapaaDoor
