/- Merged by program: ComeL, Has, WalkT. -/
import Derived.Test.YtcojnkjcbopnbaaGreatDoorQjaj
import Derived.Test.YtcojnkjcbopnbaaGreatDoorQjal
import Derived.Test.YtcojnkjcbopnbaaGreatDoorQjac
import Derived.Test.YtcojnkjcbopnbaaGreatDoorQjah
/- (*nfa.walker).come, told by Longest's function: a walk. -/
namespace Go.Proofs.YtcojnkjcbopnbaaGreatDoor
open Go.RowKit

/-- What coming leaves. -/
def CameL (P : Nat → Prop) (wk nb g cap : Nat) (fv : Value) (size : Nat) (ss : List St) (T : List Nat → (Nat → Prop) → World → Prop) (w : World) (y : Wk) (e : Ending) (w' : World) : Prop :=
  e = .returned (.tuple #[]) ∧ ∃ wv O, WkM w' P wk nb g cap fv size ss T y wv O ∧ KeepP P w w'

set_option maxRecDepth 100000 in
set_option maxHeartbeats 4000000 in
theorem comeL (wk nb g cap cb size : Nat) (ss : List St) (T : List Nat → (Nat → Prop) → World → Prop) (hT : Teller T)
    (hCall : ∀ (l : List Nat) (O : Nat → Prop) (w : World) (place : Nat), T l O w → l.length ≤ 1000000000000 → Calls Tryz.prog 101 #[.int .i64 place, .pointer (some ⟨cb, 0, none⟩)] w fun e w' => e = .returned (.tuple #[]) ∧ ∃ O', T (l ++ [place]) O' w' ∧ Moved O O' w w')
    (hr : ∀ s, s ∈ ss → s.nx < ss.length ∧ s.ot < ss.length) (place : Nat) (hpl : place ≤ 1000000000000) (d : Nat) :
    ∀ (P : Nat → Prop) (i : Nat) (x : Wk) (wv : Value) (O : Nat → Prop) (w : World), WkM w P wk nb g cap (.func (.func 101) #[] #[.pointer (some ⟨cb, 0, none⟩)]) size ss T x wv O → i < ss.length → unseen x.seen (place + 1) ≤ d →
      x.wait.length + unseen x.seen (place + 1) ≤ 1000000000 → x.told.length + unseen x.seen (place + 1) ≤ 1000000000000 →
      Calls Tryz.prog 119 #[.pointer (some ⟨wk, 0, none⟩), .int .i64 i, .int .i64 place] w (CameL P wk nb g cap (.func (.func 101) #[] #[.pointer (some ⟨cb, 0, none⟩)]) size ss T w (comeN ss size d i place x)) := by
  induction d with
  | zero =>
    intro P i x wv O w h hi hu hw1 ht1
    have hil : i < x.seen.length := by rw [h.len]; exact hi
    have hs : x.seen[i] = place + 1 := by
      rcases Nat.lt_or_ge 0 (unseen x.seen (place + 1)) with h0 | h0
      · omega
      · refine Classical.byContradiction fun hne => ?_
        have := unseen_set x.seen i (place + 1) hil hne
        omega
    have sc := h.seenCell i hi
    rw [hs] at sc
    obtain ⟨w0, w1, w2, w3, w4⟩ := h.cells
    have HM := Lib.hid h
    clear h hw1 ht1 hu
    go_enter Tryz.func119, Tryz.ntmps119
    go_wp2_with fail
    refine bodyPost_ret (results_none rfl _ _ _) rfl ?_
    exact ⟨rfl, wv, O, HM.out, .refl _ _⟩
  | succ d ih =>
    intro P i x wv O w h hi hu hw1 ht1
    have hil : i < x.seen.length := by rw [h.len]; exact hi
    have sc := h.seenCell i hi
    obtain ⟨w0, w1, w2, w3, w4⟩ := h.cells
    have HM := Lib.hid h
    by_cases hs : x.seen[i] = place + 1
    · rw [hs] at sc
      have he : comeN ss size (d + 1) i place x = x := by unfold comeN; rw [List.getElem?_eq_getElem hil, hs, if_pos rfl]
      rw [he]
      clear h hw1 ht1 hu he ih
      go_enter Tryz.func119, Tryz.ntmps119
      go_wp2_with fail
      refine bodyPost_ret (results_none rfl _ _ _) rfl ?_
      exact ⟨rfl, wv, O, HM.out, .refl _ _⟩
    · have hne : x.seen[i]? ≠ some (place + 1) := fun e => hs (by rw [List.getElem?_eq_getElem hil] at e; exact Option.some.inj e)
      obtain ⟨s, hsE⟩ : ∃ s, s = ss[i] := ⟨_, rfl⟩
      have hmem : s ∈ ss := by rw [hsE]; exact List.getElem_mem hi
      obtain ⟨hrn, hro⟩ := hr s hmem
      obtain ⟨X, hX⟩ : ∃ X : Wk, X = { x with seen := x.seen.set i (place + 1) } := ⟨_, rfl⟩
      have he : comeN ss size (d + 1) i place x = (if s.k = 0 then { X with told := x.told ++ [place] } else if s.k = 1 then { X with wait := x.wait ++ [i] } else if s.k = 2 then (if place = 0 then comeN ss size d s.nx place X else X) else if s.k = 3 then (if place = size then comeN ss size d s.nx place X else X)
          else if s.k = 4 then comeN ss size d s.ot place (comeN ss size d s.nx place X) else X) := by
        conv => lhs; unfold comeN
        rw [if_neg hne, List.getElem?_eq_getElem hi, ← hsE, hX]
      have HE := Lib.hid he
      have hok := markOk ss.length i (place + 1) x hil hne
      rw [← hX] at hok
      have hu2 := unseen_set x.seen i (place + 1) hil hs
      have hXs : X.seen = x.seen.set i (place + 1) := by rw [hX]
      have hXw : X.wait = x.wait := by rw [hX]
      have hXt : X.told = x.told := by rw [hX]
      have huX : unseen X.seen (place + 1) ≤ d := by rw [hXs]; omega
      have hwX : X.wait.length + unseen X.seen (place + 1) ≤ 1000000000 := by have := hok.wait; omega
      have htX : X.told.length + unseen X.seen (place + 1) ≤ 1000000000000 := by have := hok.told; omega
      have hw1' : x.wait.length ≤ 1000000000 := by omega
      have ht1' : x.told.length ≤ 1000000000000 := by omega
      obtain ⟨W1, hW1⟩ : ∃ W1, W1 = w.setCell ⟨nb, i, none⟩ (.int .i64 ((place : Int) + 1)) := ⟨_, rfl⟩
      have hpc : ((place : Int) + 1) = ((place + 1 : Nat) : Int) := by omega
      have M1 : WkM W1 P wk nb g cap (.func (.func 101) #[] #[.pointer (some ⟨cb, 0, none⟩)]) size ss T X wv O := by rw [hW1, hpc, hX]; exact h.mark hT i (place + 1)
      have K1 : KeepP P w W1 := by rw [hW1]; exact h.keepMark i _
      have zn := h.zn i
      have M2 := M1.after hT (below_new W1 (.cells (stC s) 124))
      have K2 := K1.trans (M1.keepAfter (below_new W1 (.cells (stC s) 124)))
      obtain ⟨W2, hW2⟩ : ∃ W2, W2 = W1.alloc (.cells (stC s) 124) := ⟨_, rfl⟩
      rw [← hW2] at M2 K2
      have R2 : W2.heap[W1.heap.size]? = some (.cells (stC s) 124 (0, 0)) := by rw [hW2]; exact heap_alloc_last _ _
      have hb1 : ((x.seen[i] : Int) == (place : Int) + 1) = false := by simp; omega
      obtain ⟨v0, hv0⟩ : ∃ v0, v0 = x.seen[i] := ⟨_, rfl⟩
      rw [← hv0] at hb1 sc
      obtain ⟨s0, s1, s2, s3, s4, s5, s6⟩ := M1.stCells i hi
      rw [← hsE] at s0 s1 s2 s3 s4 s5 s6
      obtain ⟨x0, x1, x2, x3, x4⟩ := M1.cells
      have HM1 := Lib.hid M1
      have HM2 := Lib.hid M2
      have HK2 := Lib.hid K2
      have HR2 := Lib.hid R2
      have HIH := Lib.hid ih
      have HOK := Lib.hid hok
      have HXw := Lib.hid hXw
      have HXt := Lib.hid hXt
      have HCall := Lib.hid hCall
      have HR := Lib.hid hr
      clear h hok hu hu2 he hX hXs hXw hXt hw1 ht1 hs hne hil hmem hr hsE hpc M1 K1 M2 K2 R2 hv0 ih hCall
      go_enter Tryz.func119, Tryz.ntmps119
      go_upto_region 2 with (fail)
      rw [← hW1]
      clear hW1 w0 w1 w2 w3 w4 sc zn hb1
      go_upto_region 3 with (fail)
      change Code.wp _ _ _ _ (W1.alloc (.cells (stC s) 124))
      rw [← hW2]
      have HW2 := Lib.hid hW2
      clear hW2 s0 s1 s2 s3 s4 s5 s6 x0 x1 x2 x3 x4
      have r0 : W2.cell? ⟨W1.heap.size, 0, none⟩ = some (.int .i64 s.k) := cell_of_row _ _ 0 _ _ _ HR2.out
      have r5 : W2.cell? ⟨W1.heap.size, 5, none⟩ = some (.int .i64 s.nx) := cell_of_row _ _ 5 _ _ _ HR2.out
      have r6 : W2.cell? ⟨W1.heap.size, 6, none⟩ = some (.int .i64 s.ot) := cell_of_row _ _ 6 _ _ _ HR2.out
      obtain ⟨w0, w1, w2, w3, w4⟩ := HM2.out.cells
      have hbN := below_new W1 (.cells (stC s) 124)
      by_cases k0 : s.k = 0
      · have HY := Lib.hid (HE.out.trans (if_pos k0))
        have h0 : ((s.k : Int) == 0) = true := by rw [k0]; rfl
        have HC0 := Lib.hid (HCall.out X.told O W2 place HM2.out.told (by rw [HXt.out]; exact ht1'))
        rw [HXt.out] at HC0
        clear k0 hbN
        go_wp2_with fail
        refine HC0.out.mono ?_
        rintro e w3 ⟨rfl, O', ht, hm⟩
        have HF := Lib.hid (HM2.out.tell hm ht)
        have HK := Lib.hid (HK2.out.trans (HM2.out.keepTell hm))
        clear ht hm
        go_wp2_with fail
        go_end0
        exact ⟨rfl, wv, O', by rw [HY.out]; exact HF.out, HK.out⟩
      have h0 : ((s.k : Int) == 0) = false := beq_eq_false_iff_ne.2 (by omega)
      have E0 := Lib.hid (HE.out.trans (if_neg k0))
      clear HE
      by_cases k1 : s.k = 1
      · have HY := Lib.hid (E0.out.trans (if_pos k1))
        have h1 : ((s.k : Int) == 1) = true := by rw [k1]; rfl
        obtain ⟨i0, hi0', hz0, hz1, hz2⟩ := info_parts info_int3
        have hb2 := below_new W2 (.cells #[.int .i64 (i : Nat)] 3)
        have R5 := Lib.hid (heap_alloc_last W2 (.cells #[.int .i64 (i : Nat)] 3))
        have M5 := Lib.hid (HM2.out.after hT hb2)
        have hs5 : W2.heap.size ≤ (W2.alloc (.cells #[.int .i64 (i : Nat)] 3)).heap.size := hb2.size
        have hXl : X.wait.length ≤ 1000000000 := by rw [HXw.out]; exact hw1'
        clear k0 k1 hbN hb2
        go_wp2_with (at_builtin; refine wpList_append_own_at _ rfl _ _ 169 rfl 0 3 i0 (.int .i64 0) 1 8 Tryz.underlying169 hi0' hz0 hz1 hz2 rfl (by decide) _ _ _ rfl M5.out.wait ⟨W2.heap.size, 0, none⟩ 1 1 [.int .i64 (i : Nat)] rfl rfl ?c1 ?c2 ?c3 ?c4 (Nat.zero_le _) ?_)
        case c1 =>
          intro j u hj
          have e : (⟨W2.heap.size, 0, none⟩ : Addr).add j = ⟨W2.heap.size, j, none⟩ := by unfold Addr.add; split <;> simp_all
          rw [e]
          exact (cell_of_row _ _ j _ _ _ R5.out).trans (by simpa using hj)
        case c2 => intro u hu; simp at hu; subst hu; rfl
        case c3 => unfold maxLen; omega
        case c4 => omega
        intro v' w4 hown' hgrow _ hat'
        have ho' : w4.ownsRow 0 3 1 v' (X.wait ++ [i]).length (ints (X.wait ++ [i])) := by rw [ints_snoc, List.length_append]; exact hown'
        have hpush := HM2.out.push hT (below_new W2 (.cells #[.int .i64 (i : Nat)] 3)) hgrow ho' (by
          rcases hat' with e | e
          · exact Or.inl e
          · exact Or.inr ⟨_, e, by omega⟩)
        obtain ⟨av, nv, cv, rfl⟩ : ∃ av nv cv, v' = .slice av nv cv := by
          rcases hown'.2 with ⟨hv, h0⟩ | ⟨g, cap, cur, hv, _⟩
          · exact ⟨_, _, _, hv⟩
          · exact ⟨_, _, _, hv⟩
        have hlt4 := (Array.getElem?_eq_some_iff.1 HM2.out.row).1
        have hw4 : w4.heap[wk]? = W2.heap[wk]? := (hgrow.block wk (by rw [World.size_alloc]; omega) (fun e => HM2.out.ww e.symm)).trans ((below_new W2 _).block wk hlt4)
        have z3 : w4.frozen? ⟨wk, 3, none⟩ = false := frozen_of_row _ _ 3 _ _ (hw4.trans HM2.out.row)
        have y3 : w4.cell? ⟨wk, 3, none⟩ = some wv := cell_of_row _ _ 3 _ _ _ (hw4.trans HM2.out.row)
        have HF := Lib.hid hpush.1
        have HK := Lib.hid (HK2.out.trans hpush.2)
        clear hown' hgrow ho' hpush hat' hw4
        go_wp2_with fail
        go_end0
        refine ⟨rfl, .slice av nv cv, O, ?_, HK.out⟩
        rw [HY.out, ← HXw.out]
        exact HF.out
      have h1 : ((s.k : Int) == 1) = false := beq_eq_false_iff_ne.2 (by omega)
      have E1 := Lib.hid (E0.out.trans (if_neg k1))
      clear E0
      by_cases k2 : s.k = 2
      · have E2 := Lib.hid (E1.out.trans (if_pos k2))
        have h2 : ((s.k : Int) == 2) = true := by rw [k2]; rfl
        clear k0 k1 k2 hbN
        by_cases hp : place = 0
        · have HY := Lib.hid (E2.out.trans (if_pos hp))
          have hp0 : ((place : Int) == 0) = true := by rw [hp]; rfl
          have HC := Lib.hid (HIH.out P s.nx X wv O W2 HM2.out hrn huX hwX htX)
          clear hp
          go_wp2_with fail
          refine HC.out.mono ?_
          rintro e w3 ⟨rfl, wv', O', hm, hk⟩
          have HF := Lib.hid hm
          have HK := Lib.hid (HK2.out.trans hk)
          clear hm hk
          go_wp2_with fail
          go_end0
          exact ⟨rfl, wv', O', by rw [HY.out]; exact HF.out, HK.out⟩
        · have HY := Lib.hid (E2.out.trans (if_neg hp))
          have hp0 : ((place : Int) == 0) = false := beq_eq_false_iff_ne.2 (by omega)
          clear hp
          go_wp2_with fail
          go_end0
          exact ⟨rfl, wv, O, by rw [HY.out]; exact HM2.out, HK2.out⟩
      have h2 : ((s.k : Int) == 2) = false := beq_eq_false_iff_ne.2 (by omega)
      have E2 := Lib.hid (E1.out.trans (if_neg k2))
      clear E1
      by_cases k3 : s.k = 3
      · have E2 := Lib.hid (E2.out.trans (if_pos k3))
        have h3 : ((s.k : Int) == 3) = true := by rw [k3]; rfl
        clear k0 k1 k2 k3 hbN
        by_cases hp : place = size
        · have HY := Lib.hid (E2.out.trans (if_pos hp))
          have hp0 : ((place : Int) == (size : Int)) = true := by rw [hp]; exact beq_self_eq_true _
          have HC := Lib.hid (HIH.out P s.nx X wv O W2 HM2.out hrn huX hwX htX)
          clear hp
          go_wp2_with fail
          refine HC.out.mono ?_
          rintro e w3 ⟨rfl, wv', O', hm, hk⟩
          have HF := Lib.hid hm
          have HK := Lib.hid (HK2.out.trans hk)
          clear hm hk
          go_wp2_with fail
          go_end0
          exact ⟨rfl, wv', O', by rw [HY.out]; exact HF.out, HK.out⟩
        · have HY := Lib.hid (E2.out.trans (if_neg hp))
          have hp0 : ((place : Int) == (size : Int)) = false := beq_eq_false_iff_ne.2 (by omega)
          clear hp
          go_wp2_with fail
          go_end0
          exact ⟨rfl, wv, O, by rw [HY.out]; exact HM2.out, HK2.out⟩
      have h3 : ((s.k : Int) == 3) = false := beq_eq_false_iff_ne.2 (by omega)
      have E3 := Lib.hid (E2.out.trans (if_neg k3))
      clear E2
      by_cases k4 : s.k = 4
      · have HY := Lib.hid (E3.out.trans (if_pos k4))
        have h4 : ((s.k : Int) == 4) = true := by rw [k4]; rfl
        have M3 := HM1.out.more hT hbN (Nat.le_refl W1.heap.size) (by rw [World.size_alloc]; omega)
        rw [← HW2.out] at M3
        have HC := Lib.hid (HIH.out (AndP P W1.heap.size) s.nx X wv O W2 M3 hrn huX hwX htX)
        have HPG := Lib.hid HM2.out.pg
        have hc := comeN_ok ss size d s.nx place X (by rw [HM2.out.len]; exact hrn) (fun s hs => by rw [HM2.out.len]; exact HR.out s hs)
        obtain ⟨Y, hY⟩ : ∃ Y, Y = comeN ss size d s.nx place X := ⟨_, rfl⟩
        rw [← hY] at HC hc HY
        have huY : unseen Y.seen (place + 1) ≤ d := Nat.le_trans hc.unseen huX
        have hwY : Y.wait.length + unseen Y.seen (place + 1) ≤ 1000000000 := Nat.le_trans hc.wait hwX
        have htY : Y.told.length + unseen Y.seen (place + 1) ≤ 1000000000000 := Nat.le_trans hc.told htX
        clear k0 k1 k2 k3 k4 hbN M3 hc hY
        go_wp2_with fail
        refine HC.out.mono ?_
        rintro e w3 ⟨rfl, wv', O', hm, hk⟩
        have HR3 := hk.block W1.heap.size (Or.inr rfl)
        have q6 : w3.cell? ⟨W1.heap.size, 6, none⟩ = some (.int .i64 s.ot) := cell_of_row _ _ 6 _ _ _ (HR3.trans HR2.out)
        have HC2 := Lib.hid (HIH.out P s.ot Y wv' O' w3 (hm.less HPG.out) hro huY hwY htY)
        have HK := Lib.hid (HK2.out.trans hk.less)
        clear hm hk HR3 r0 r5 r6
        go_wp2_with fail
        refine HC2.out.mono ?_
        rintro e w5 ⟨rfl, wv2, O2, hm, hk⟩
        have HF2 := Lib.hid hm
        have HK3 := Lib.hid (HK.out.trans hk)
        clear hm hk
        go_wp2_with fail
        go_end0
        exact ⟨rfl, wv2, O2, by rw [HY.out]; exact HF2.out, HK3.out⟩
      have h4 : ((s.k : Int) == 4) = false := beq_eq_false_iff_ne.2 (by omega)
      have HY := Lib.hid (E3.out.trans (if_neg k4))
      clear k0 k1 k2 k3 k4 hbN
      go_wp2_with fail
      go_end0
      exact ⟨rfl, wv, O, by rw [HY.out]; exact HM2.out, HK2.out⟩
end Go.Proofs.YtcojnkjcbopnbaaGreatDoor

/- class.Has: a walk. -/
namespace Go.Proofs.YtcojnkjcbopnbaaGreatDoor
open Go.RowKit

theorem and_one (x k : Nat) (hx : x < 18446744073709551616) : (bits BinOp.and IntKind.u64 ((x : Int) / 2 ^ k) 1 == 1) = x.testBit k := by
  have e : ((x : Int) / 2 ^ k) = ((x / 2 ^ k : Nat) : Int) := by simp
  have h1 : x / 2 ^ k < 18446744073709551616 := Nat.lt_of_le_of_lt (Nat.div_le_self _ _) hx
  rw [e, show (1 : Int) = ((1 : Nat) : Int) from rfl, bits_and_u64_nat _ _ h1 (by decide), Nat.and_one_is_mod, Nat.testBit_eq_decide_div_mod_eq]
  rcases Nat.mod_two_eq_zero_or_one (x / 2 ^ k) with h | h <;> rw [h] <;> rfl

set_option maxRecDepth 100000 in
theorem has_exact (f : Nat → Nat) (hf : Fits f) (c : Nat) (hc : c < 256) (w : World) :
    Calls Tryz.prog 120 #[.agg (words f), .int .u8 c] w fun e w' => e = .returned (.bool (bit f c)) ∧ w' = w.alloc (.cells (words f) 65) := by
  have hk : c / 64 < 4 := by omega
  have hw := words_get f hk
  go_enter Tryz.func120, Tryz.ntmps120
  go_wp2
  go_ret
  exact ⟨ret_bool (and_one _ _ (hf _ hk)), rfl⟩
theorem has_spec (f : Nat → Nat) (hf : Fits f) (c : Nat) (hc : c < 256) (w : World) :
    Calls Tryz.prog 120 #[.agg (words f), .int .u8 c] w fun e w' => e = .returned (.bool (bit f c)) ∧ Below w.heap.size w w' := by
  refine (has_exact f hf c hc w).mono ?_
  rintro e w' ⟨rfl, rfl⟩
  exact ⟨rfl, below_new _ _⟩
end Go.Proofs.YtcojnkjcbopnbaaGreatDoor

/- How a text is walked: plain Lean, and a walker's rows that are changed about. -/
namespace Go.Proofs.YtcojnkjcbopnbaaGreatDoor
open Go.RowKit

def byteN (s : ByteArray) (k : Nat) : Nat := if h : k < s.size then s[k].toNat else 0
theorem byteN_lt (s : ByteArray) (k : Nat) : byteN s k < 256 := by
  unfold byteN
  split
  · exact (s[k]).toNat_lt
  · omega
/-- One state that waited: if the byte is in its set, its next is come to. -/
def oneN (ss : List St) (size c place : Nat) (x : Wk) (i : Nat) : Wk :=
  match ss[i]? with
  | none => x
  | some s => if bit s.f c = true then comeN ss size ss.length s.nx (place + 1) x else x
def stepN (ss : List St) (size c place : Nat) (l : List Nat) (x : Wk) : Wk := l.foldl (oneN ss size c place) x
def clearN (x : Wk) : Wk := { x with wait := [] }
def walkN (ss : List St) (s : ByteArray) : Nat → Nat → Wk → Wk
  | 0, _, x => x
  | d + 1, place, x => if x.wait = [] then x else walkN ss s d (place + 1) (stepN ss s.size (byteN s place) place x.wait (clearN x))
def beginWk (ss : List St) : Wk := ⟨List.replicate ss.length 0, [], []⟩
/-- All places to which a machine goes. -/
def toldN (ss : List St) (start : Nat) (s : ByteArray) (at_ : Nat) : List Nat := (walkN ss s (s.size - at_) at_ (comeN ss s.size ss.length start at_ (beginWk ss))).told

/-- What holds of a machine. -/
structure SsOk (ss : List St) : Prop where
  pos : 0 < ss.length
  few : ss.length ≤ 1000
  next : ∀ s, s ∈ ss → s.nx < ss.length ∧ s.ot < ss.length
  fits : ∀ s, s ∈ ss → Fits s.f
/-- What holds of a walker between two bytes. -/
structure WkOk (ss : List St) (x : Wk) (b : Nat) : Prop where
  len : x.seen.length = ss.length
  wait : ∀ j, j ∈ x.wait → j < ss.length
  few : x.wait.length ≤ 2000
  told : x.told.length ≤ b
theorem wkOk_begin (ss : List St) : WkOk ss (beginWk ss) 0 := ⟨by simp [beginWk], (fun j hj => by cases hj), by show (0 : Nat) ≤ 2000; omega, Nat.le_refl _⟩
theorem WkOk.come {ss : List St} {x : Wk} {b : Nat} (hs : SsOk ss) (h : WkOk ss x b) (hw : x.wait.length = 0) (size i place : Nat) (hi : i < ss.length) : WkOk ss (comeN ss size ss.length i place x) (b + 1000) := by
  have hc := comeN_ok ss size ss.length i place x (by rw [h.len]; exact hi) (fun s hm => by rw [h.len]; exact hs.next s hm)
  have hu := unseen_le x.seen (place + 1)
  have h1 := hs.few
  have h2 := h.len
  have h3 := h.told
  exact ⟨hc.len.trans h.len, fun j hj => by have := hc.below (fun j hj => by rw [h.len]; exact h.wait j hj) j hj; omega, by have := hc.wait; omega, by have := hc.told; omega⟩
/-- What holds of a walker within a step. -/
structure InOk (ss : List St) (x : Wk) (b m : Nat) : Prop where
  len : x.seen.length = ss.length
  below : ∀ j, j ∈ x.wait → j < ss.length
  wait : x.wait.length + unseen x.seen m ≤ 1000
  told : x.told.length + unseen x.seen m ≤ b + 1000
theorem InOk.clear {ss : List St} {x : Wk} {b : Nat} (hs : SsOk ss) (h : WkOk ss x b) (m : Nat) : InOk ss (clearN x) b m := by
  have hu := unseen_le x.seen m
  have h1 := hs.few
  have h2 := h.len
  have h3 := h.told
  exact ⟨h.len, (fun j hj => by cases hj), by show 0 + unseen x.seen m ≤ 1000; omega, by show x.told.length + unseen x.seen m ≤ _; omega⟩
theorem InOk.one {ss : List St} {x : Wk} {b place : Nat} (hs : SsOk ss) (h : InOk ss x b (place + 1 + 1)) (size c i : Nat) : InOk ss (oneN ss size c place x i) b (place + 1 + 1) := by
  unfold oneN
  split
  · exact h
  · rename_i s hse
    split
    · have hm := List.mem_of_getElem? hse
      have hc := comeN_ok ss size ss.length s.nx (place + 1) x (by rw [h.len]; exact (hs.next s hm).1) (fun s hm => by rw [h.len]; exact hs.next s hm)
      exact ⟨hc.len.trans h.len, fun j hj => by have := hc.below (fun j hj => by rw [h.len]; exact h.below j hj) j hj; have := h.len; omega, Nat.le_trans hc.wait h.wait, Nat.le_trans hc.told h.told⟩
    · exact h
theorem InOk.out {ss : List St} {x : Wk} {b m : Nat} (h : InOk ss x b m) : WkOk ss x (b + 1000) := ⟨h.len, h.below, by have := h.wait; omega, by have := h.told; omega⟩

/-- The row that was walked through last, or none. -/
structure NowOk (w : World) (P O : Nat → Prop) (wk nb : Nat) (wv nv : Value) : Prop where
  row : ∃ n xs, w.ownsRow 0 3 1 nv n xs
  nwk : nv.ownBlock ≠ some wk
  nnb : nv.ownBlock ≠ some nb
  nwv : ∀ k, nv.ownBlock = some k → wv.ownBlock ≠ some k
  np : ∀ k, P k → nv.ownBlock ≠ some k
  no : ∀ k, nv.ownBlock = some k → ¬ O k
/-- A slice cut to nothing. -/
def cutV : Value → Value
  | .slice a _ c => .slice a 0 c
  | v => v
theorem cutV_own (v : Value) : (cutV v).ownBlock = v.ownBlock := by
  cases v with
  | slice a n c => cases a <;> rfl
  | _ => rfl
theorem owns_cut {w : World} {v : Value} {n : Nat} {xs : List Value} (h : w.ownsRow 0 3 1 v n xs) : w.ownsRow 0 3 1 (cutV v) 0 [] := by
  refine ⟨rfl, ?_⟩
  rcases h.2 with ⟨rfl, _⟩ | ⟨g, cap, cur, rfl, hb, hg, _, hc, hs, _⟩
  · exact Or.inl ⟨rfl, rfl⟩
  · exact Or.inr ⟨g, cap, cur, rfl, hb, hg, Nat.zero_le _, hc, hs, by simp⟩
theorem owns_shape {w : World} {e : TypeId} {v : Value} {n : Nat} {xs : List Value} (h : w.ownsRow 0 e 1 v n xs) : v = .slice none 0 0 ∨ ∃ g cap, v = .slice (some ⟨g, 0, none⟩) n cap ∧ n ≤ cap := by
  rcases h.2 with ⟨rfl, _⟩ | ⟨g, cap, cur, rfl, _, _, h1, _⟩
  · exact Or.inl rfl
  · exact Or.inr ⟨g, cap, rfl, h1⟩

variable {w : World} {P : Nat → Prop} {wk nb g cap : Nat} {fv : Value} {size : Nat} {ss : List St} {T : List Nat → (Nat → Prop) → World → Prop} {x : Wk} {wv nv : Value} {O : Nat → Prop}

/-- Those blocks, and the row that is being walked through. -/
def OrRow (P : Nat → Prop) (v : Value) : Nat → Prop := fun k => P k ∨ v.ownBlock = some k
/-- The rows changed about: what waited is walked through, what was walked through last is written anew. -/
theorem WkM.swap (hT : Teller T) (h : WkM w P wk nb g cap fv size ss T x wv O) (hn : NowOk w P O wk nb wv nv) :
    WkM (w.setCell ⟨wk, 3, none⟩ (cutV nv)) (OrRow P wv) wk nb g cap fv size ss T (clearN x) (cutV nv) O ∧ KeepP P w (w.setCell ⟨wk, 3, none⟩ (cutV nv)) := by
  have ot : ∀ k, k ≠ wk → (w.setCell ⟨wk, 3, none⟩ (cutV nv)).heap[k]? = w.heap[k]? := fun k hk => heap_setCell_other w ⟨wk, 3, none⟩ k _ hk
  obtain ⟨n, xs, hrow⟩ := hn.row
  constructor
  · refine { h with row := ?_, seen := ?_, states := ?_, wait := ?_, told := ?_, low := ?_, pg := Or.inl h.pg, pw := ?_, pn := ?_, ww := by rw [cutV_own]; exact hn.nwk, wnb := by rw [cutV_own]; exact hn.nnb, wp := ?_, oo := fun k hk => hn.no k (by rwa [cutV_own] at hk), op := ?_ }
    · rw [heap_setCell_same w wk 3 _ _ _ h.row]; rfl
    · rw [ot nb (fun e => h.wn e.symm)]; exact h.seen
    · exact ownsRow_setCell_other h.states (a := ⟨wk, 3, none⟩) (by simp only [Value.ownBlock]; intro e; cases e; exact h.pw h.pg) _
    · exact ownsRow_setCell_other (owns_cut hrow) (a := ⟨wk, 3, none⟩) (by rw [cutV_own]; exact hn.nwk) _
    · exact hT.keep h.told fun k hk => ot k (fun e => h.ow (e ▸ hk))
    · rintro k (hk | hk)
      · have := h.low k hk; simpa using this
      · have := (h.wait.lt k hk).2; simpa using this
    · rintro (hk | hk)
      · exact h.pw hk
      · exact h.ww hk
    · rintro (hk | hk)
      · exact h.pn hk
      · exact h.wnb hk
    · rintro k (hk | hk)
      · rw [cutV_own]; exact hn.np k hk
      · rw [cutV_own]; exact fun e => hn.nwv k e hk
    · rintro k (hk | hk)
      · exact h.op k hk
      · exact h.oo k hk
  · exact ⟨rfl, rfl, rfl, by simp, fun k hk => ot k (fun e => h.pw (e ▸ hk))⟩
/-- What was walked through is the row walked through last. -/
theorem WkM.back {wv' : Value} {l : List Nat} (h : WkM w (OrRow P wv) wk nb g cap fv size ss T x wv' O) (hp : P g) (hr : w.ownsRow 0 3 1 wv l.length (ints l)) (hwk : wv.ownBlock ≠ some wk) (hnb : wv.ownBlock ≠ some nb) (hpn : ∀ k, P k → wv.ownBlock ≠ some k) :
    WkM w P wk nb g cap fv size ss T x wv' O ∧ NowOk w P O wk nb wv' wv :=
  ⟨{ h with low := fun k hk => h.low k (Or.inl hk), pg := hp, pw := fun hk => h.pw (Or.inl hk), pn := fun hk => h.pn (Or.inl hk), wp := fun k hk => h.wp k (Or.inl hk), op := fun k hk => h.op k (Or.inl hk) },
    ⟨⟨_, _, hr⟩, hwk, hnb, fun k hk => h.wp k (Or.inr hk), hpn, fun k hk => h.op k (Or.inr hk)⟩⟩
theorem KeepP.ofRow {a c : World} {v : Value} (h : KeepP (OrRow P v) a c) : KeepP P a c := ⟨h.os, h.tape, h.output, h.size, fun k hk => h.block k (Or.inl hk)⟩
/-- A row that stays. -/
theorem owns_keep {a c : World} {v : Value} {n : Nat} {xs : List Value} (h : KeepP (OrRow P v) a c) (hr : a.ownsRow 0 3 1 v n xs) : c.ownsRow 0 3 1 v n xs := by
  refine ⟨hr.1, ?_⟩
  rcases hr.2 with h0 | ⟨g', cap', cur, rfl, hb, hg, rest⟩
  · exact Or.inl h0
  · exact Or.inr ⟨g', cap', cur, rfl, hb, by rw [h.block g' (Or.inr rfl)]; exact hg, rest⟩
theorem walkN_stop (ss : List St) (s : ByteArray) (d place : Nat) (x : Wk) (h : x.wait = []) : walkN ss s d place x = x := by
  cases d with
  | zero => rfl
  | succ d => unfold walkN; rw [if_pos h]
theorem walkN_go (ss : List St) (s : ByteArray) (j : Nat) (x : Wk) (h : x.wait ≠ []) (hj : j < s.size) : walkN ss s (s.size - j) j x = walkN ss s (s.size - (j + 1)) (j + 1) (stepN ss s.size (byteN s j) j x.wait (clearN x)) := by
  rw [show s.size - j = (s.size - (j + 1)) + 1 by omega]
  conv => lhs; unfold walkN
  rw [if_neg h]
theorem WkM.moved {w0 : World} {O0 : Nat → Prop} (h : WkM w P wk nb g cap fv size ss T x wv O) (hP : P = fun k => k < w0.heap.size ∧ ¬ O0 k) (hk : KeepP P w0 w) : Moved O0 O w0 w := by
  refine ⟨hk.os, hk.tape, hk.output, hk.size, fun k h1 h2 => hk.block k (by rw [hP]; exact ⟨h1, h2⟩), fun k hO => ?_⟩
  by_cases h1 : O0 k
  · exact Or.inl h1
  · right
    rcases Nat.lt_or_ge k w0.heap.size with h2 | h2
    · exact absurd hO (h.op k (by rw [hP]; exact ⟨h2, h1⟩))
    · exact h2
theorem NowOk.after (h : NowOk w P O wk nb wv nv) {w' : World} (hb : Below w.heap.size w w') : NowOk w' P O wk nb wv nv := by
  obtain ⟨n, xs, hr⟩ := h.row
  exact { h with row := ⟨n, xs, owns_after hr hb⟩ }
end Go.Proofs.YtcojnkjcbopnbaaGreatDoor
