/- Merged by program: ComeL, MchR. -/
import Derived.Test.YtimipfdknfdbdaaGreatQsas
import Derived.Test.YtimipfdknfdbdaaGreatQsam
import Derived.Test.YtimipfdknfdbdaaGreatQsak
/- (*nfa.walker).come, told by Longest's function: a walk. -/
namespace Go.Proofs.YtimipfdknfdbdaaGreat
open Go.RowKit

/-- What coming leaves. -/
def CameL (P : Nat → Prop) (wk nb g cap : Nat) (fv : Value) (size : Nat) (ss : List St) (T : List Nat → (Nat → Prop) → World → Prop) (w : World) (y : Wk) (e : Ending) (w' : World) : Prop :=
  e = .returned (.tuple #[]) ∧ ∃ wv O, WkM w' P wk nb g cap fv size ss T y wv O ∧ KeepP P w w'

set_option maxRecDepth 100000 in
set_option maxHeartbeats 4000000 in
theorem comeL (wk nb g cap cb size : Nat) (ss : List St) (T : List Nat → (Nat → Prop) → World → Prop) (hT : Teller T)
    (hCall : ∀ (l : List Nat) (O : Nat → Prop) (w : World) (place : Nat), T l O w → l.length ≤ 1000000000000 → Calls Tryz.prog 57 #[.int .i64 place, .pointer (some ⟨cb, 0, none⟩)] w fun e w' => e = .returned (.tuple #[]) ∧ ∃ O', T (l ++ [place]) O' w' ∧ Moved O O' w w')
    (hr : ∀ s, s ∈ ss → s.nx < ss.length ∧ s.ot < ss.length) (place : Nat) (hpl : place ≤ 1000000000000) (d : Nat) :
    ∀ (P : Nat → Prop) (i : Nat) (x : Wk) (wv : Value) (O : Nat → Prop) (w : World), WkM w P wk nb g cap (.func (.func 57) #[] #[.pointer (some ⟨cb, 0, none⟩)]) size ss T x wv O → i < ss.length → unseen x.seen (place + 1) ≤ d →
      x.wait.length + unseen x.seen (place + 1) ≤ 1000000000 → x.told.length + unseen x.seen (place + 1) ≤ 1000000000000 →
      Calls Tryz.prog 68 #[.pointer (some ⟨wk, 0, none⟩), .int .i64 i, .int .i64 place] w (CameL P wk nb g cap (.func (.func 57) #[] #[.pointer (some ⟨cb, 0, none⟩)]) size ss T w (comeN ss size d i place x)) := by
  induction d with
  | zero =>
    intro P i x wv O w h hi hu hw1 ht1
    have hil : i < x.seen.length := by rw [h.len]; exact hi
    have hs : x.seen[i] = place + 1 := by
      rcases Nat.lt_or_ge 0 (unseen x.seen (place + 1)) with h0 | h0
      · omega
      · refine Classical.byContradiction fun hne => ?_
        have := unseen_set x.seen i (place + 1) hil hne
        omega
    have sc := h.seenCell i hi
    rw [hs] at sc
    obtain ⟨w0, w1, w2, w3, w4⟩ := h.cells
    have HM := Lib.hid h
    clear h hw1 ht1 hu
    go_enter Tryz.func68, Tryz.ntmps68
    go_wp2_with fail
    refine bodyPost_ret (results_none rfl _ _ _) rfl ?_
    exact ⟨rfl, wv, O, HM.out, .refl _ _⟩
  | succ d ih =>
    intro P i x wv O w h hi hu hw1 ht1
    have hil : i < x.seen.length := by rw [h.len]; exact hi
    have sc := h.seenCell i hi
    obtain ⟨w0, w1, w2, w3, w4⟩ := h.cells
    have HM := Lib.hid h
    by_cases hs : x.seen[i] = place + 1
    · rw [hs] at sc
      have he : comeN ss size (d + 1) i place x = x := by unfold comeN; rw [List.getElem?_eq_getElem hil, hs, if_pos rfl]
      rw [he]
      clear h hw1 ht1 hu he ih
      go_enter Tryz.func68, Tryz.ntmps68
      go_wp2_with fail
      refine bodyPost_ret (results_none rfl _ _ _) rfl ?_
      exact ⟨rfl, wv, O, HM.out, .refl _ _⟩
    · have hne : x.seen[i]? ≠ some (place + 1) := fun e => hs (by rw [List.getElem?_eq_getElem hil] at e; exact Option.some.inj e)
      obtain ⟨s, hsE⟩ : ∃ s, s = ss[i] := ⟨_, rfl⟩
      have hmem : s ∈ ss := by rw [hsE]; exact List.getElem_mem hi
      obtain ⟨hrn, hro⟩ := hr s hmem
      obtain ⟨X, hX⟩ : ∃ X : Wk, X = { x with seen := x.seen.set i (place + 1) } := ⟨_, rfl⟩
      have he : comeN ss size (d + 1) i place x = (if s.k = 0 then { X with told := x.told ++ [place] } else if s.k = 1 then { X with wait := x.wait ++ [i] } else if s.k = 2 then (if place = 0 then comeN ss size d s.nx place X else X) else if s.k = 3 then (if place = size then comeN ss size d s.nx place X else X)
          else if s.k = 4 then comeN ss size d s.ot place (comeN ss size d s.nx place X) else X) := by
        conv => lhs; unfold comeN
        rw [if_neg hne, List.getElem?_eq_getElem hi, ← hsE, hX]
      have HE := Lib.hid he
      have hok := markOk ss.length i (place + 1) x hil hne
      rw [← hX] at hok
      have hu2 := unseen_set x.seen i (place + 1) hil hs
      have hXs : X.seen = x.seen.set i (place + 1) := by rw [hX]
      have hXw : X.wait = x.wait := by rw [hX]
      have hXt : X.told = x.told := by rw [hX]
      have huX : unseen X.seen (place + 1) ≤ d := by rw [hXs]; omega
      have hwX : X.wait.length + unseen X.seen (place + 1) ≤ 1000000000 := by have := hok.wait; omega
      have htX : X.told.length + unseen X.seen (place + 1) ≤ 1000000000000 := by have := hok.told; omega
      have hw1' : x.wait.length ≤ 1000000000 := by omega
      have ht1' : x.told.length ≤ 1000000000000 := by omega
      obtain ⟨W1, hW1⟩ : ∃ W1, W1 = w.setCell ⟨nb, i, none⟩ (.int .i64 ((place : Int) + 1)) := ⟨_, rfl⟩
      have hpc : ((place : Int) + 1) = ((place + 1 : Nat) : Int) := by omega
      have M1 : WkM W1 P wk nb g cap (.func (.func 57) #[] #[.pointer (some ⟨cb, 0, none⟩)]) size ss T X wv O := by rw [hW1, hpc, hX]; exact h.mark hT i (place + 1)
      have K1 : KeepP P w W1 := by rw [hW1]; exact h.keepMark i _
      have zn := h.zn i
      have M2 := M1.after hT (below_new W1 (.cells (stC s) 69))
      have K2 := K1.trans (M1.keepAfter (below_new W1 (.cells (stC s) 69)))
      obtain ⟨W2, hW2⟩ : ∃ W2, W2 = W1.alloc (.cells (stC s) 69) := ⟨_, rfl⟩
      rw [← hW2] at M2 K2
      have R2 : W2.heap[W1.heap.size]? = some (.cells (stC s) 69 (0, 0)) := by rw [hW2]; exact heap_alloc_last _ _
      have hb1 : ((x.seen[i] : Int) == (place : Int) + 1) = false := by simp; omega
      obtain ⟨v0, hv0⟩ : ∃ v0, v0 = x.seen[i] := ⟨_, rfl⟩
      rw [← hv0] at hb1 sc
      obtain ⟨s0, s1, s2, s3, s4, s5, s6⟩ := M1.stCells i hi
      rw [← hsE] at s0 s1 s2 s3 s4 s5 s6
      obtain ⟨x0, x1, x2, x3, x4⟩ := M1.cells
      have HM1 := Lib.hid M1
      have HM2 := Lib.hid M2
      have HK2 := Lib.hid K2
      have HR2 := Lib.hid R2
      have HIH := Lib.hid ih
      have HOK := Lib.hid hok
      have HXw := Lib.hid hXw
      have HXt := Lib.hid hXt
      have HCall := Lib.hid hCall
      have HR := Lib.hid hr
      clear h hok hu hu2 he hX hXs hXw hXt hw1 ht1 hs hne hil hmem hr hsE hpc M1 K1 M2 K2 R2 hv0 ih hCall
      go_enter Tryz.func68, Tryz.ntmps68
      go_upto_region 2 with (fail)
      rw [← hW1]
      clear hW1 w0 w1 w2 w3 w4 sc zn hb1
      go_upto_region 3 with (fail)
      change Code.wp _ _ _ _ (W1.alloc (.cells (stC s) 69))
      rw [← hW2]
      have HW2 := Lib.hid hW2
      clear hW2 s0 s1 s2 s3 s4 s5 s6 x0 x1 x2 x3 x4
      have r0 : W2.cell? ⟨W1.heap.size, 0, none⟩ = some (.int .i64 s.k) := cell_of_row _ _ 0 _ _ _ HR2.out
      have r5 : W2.cell? ⟨W1.heap.size, 5, none⟩ = some (.int .i64 s.nx) := cell_of_row _ _ 5 _ _ _ HR2.out
      have r6 : W2.cell? ⟨W1.heap.size, 6, none⟩ = some (.int .i64 s.ot) := cell_of_row _ _ 6 _ _ _ HR2.out
      obtain ⟨w0, w1, w2, w3, w4⟩ := HM2.out.cells
      have hbN := below_new W1 (.cells (stC s) 69)
      by_cases k0 : s.k = 0
      · have HY := Lib.hid (HE.out.trans (if_pos k0))
        have h0 : ((s.k : Int) == 0) = true := by rw [k0]; rfl
        have HC0 := Lib.hid (HCall.out X.told O W2 place HM2.out.told (by rw [HXt.out]; exact ht1'))
        rw [HXt.out] at HC0
        clear k0 hbN
        go_wp2_with fail
        refine HC0.out.mono ?_
        rintro e w3 ⟨rfl, O', ht, hm⟩
        have HF := Lib.hid (HM2.out.tell hm ht)
        have HK := Lib.hid (HK2.out.trans (HM2.out.keepTell hm))
        clear ht hm
        go_wp2_with fail
        go_end0
        exact ⟨rfl, wv, O', by rw [HY.out]; exact HF.out, HK.out⟩
      have h0 : ((s.k : Int) == 0) = false := beq_eq_false_iff_ne.2 (by omega)
      have E0 := Lib.hid (HE.out.trans (if_neg k0))
      clear HE
      by_cases k1 : s.k = 1
      · have HY := Lib.hid (E0.out.trans (if_pos k1))
        have h1 : ((s.k : Int) == 1) = true := by rw [k1]; rfl
        obtain ⟨i0, hi0', hz0, hz1, hz2⟩ := info_parts info_int3
        have hb2 := below_new W2 (.cells #[.int .i64 (i : Nat)] 3)
        have R5 := Lib.hid (heap_alloc_last W2 (.cells #[.int .i64 (i : Nat)] 3))
        have M5 := Lib.hid (HM2.out.after hT hb2)
        have hs5 : W2.heap.size ≤ (W2.alloc (.cells #[.int .i64 (i : Nat)] 3)).heap.size := hb2.size
        have hXl : X.wait.length ≤ 1000000000 := by rw [HXw.out]; exact hw1'
        clear k0 k1 hbN hb2
        go_wp2_with (at_builtin; refine wpList_append_own_at _ rfl _ _ 103 rfl 0 3 i0 (.int .i64 0) 1 8 Tryz.underlying103 hi0' hz0 hz1 hz2 rfl (by decide) _ _ _ rfl M5.out.wait ⟨W2.heap.size, 0, none⟩ 1 1 [.int .i64 (i : Nat)] rfl rfl ?c1 ?c2 ?c3 ?c4 (Nat.zero_le _) ?_)
        case c1 =>
          intro j u hj
          have e : (⟨W2.heap.size, 0, none⟩ : Addr).add j = ⟨W2.heap.size, j, none⟩ := by unfold Addr.add; split <;> simp_all
          rw [e]
          exact (cell_of_row _ _ j _ _ _ R5.out).trans (by simpa using hj)
        case c2 => intro u hu; simp at hu; subst hu; rfl
        case c3 => unfold maxLen; omega
        case c4 => omega
        intro v' w4 hown' hgrow _ hat'
        have ho' : w4.ownsRow 0 3 1 v' (X.wait ++ [i]).length (ints (X.wait ++ [i])) := by rw [ints_snoc, List.length_append]; exact hown'
        have hpush := HM2.out.push hT (below_new W2 (.cells #[.int .i64 (i : Nat)] 3)) hgrow ho' (by
          rcases hat' with e | e
          · exact Or.inl e
          · exact Or.inr ⟨_, e, by omega⟩)
        obtain ⟨av, nv, cv, rfl⟩ : ∃ av nv cv, v' = .slice av nv cv := by
          rcases hown'.2 with ⟨hv, h0⟩ | ⟨g, cap, cur, hv, _⟩
          · exact ⟨_, _, _, hv⟩
          · exact ⟨_, _, _, hv⟩
        have hlt4 := (Array.getElem?_eq_some_iff.1 HM2.out.row).1
        have hw4 : w4.heap[wk]? = W2.heap[wk]? := (hgrow.block wk (by rw [World.size_alloc]; omega) (fun e => HM2.out.ww e.symm)).trans ((below_new W2 _).block wk hlt4)
        have z3 : w4.frozen? ⟨wk, 3, none⟩ = false := frozen_of_row _ _ 3 _ _ (hw4.trans HM2.out.row)
        have y3 : w4.cell? ⟨wk, 3, none⟩ = some wv := cell_of_row _ _ 3 _ _ _ (hw4.trans HM2.out.row)
        have HF := Lib.hid hpush.1
        have HK := Lib.hid (HK2.out.trans hpush.2)
        clear hown' hgrow ho' hpush hat' hw4
        go_wp2_with fail
        go_end0
        refine ⟨rfl, .slice av nv cv, O, ?_, HK.out⟩
        rw [HY.out, ← HXw.out]
        exact HF.out
      have h1 : ((s.k : Int) == 1) = false := beq_eq_false_iff_ne.2 (by omega)
      have E1 := Lib.hid (E0.out.trans (if_neg k1))
      clear E0
      by_cases k2 : s.k = 2
      · have E2 := Lib.hid (E1.out.trans (if_pos k2))
        have h2 : ((s.k : Int) == 2) = true := by rw [k2]; rfl
        clear k0 k1 k2 hbN
        by_cases hp : place = 0
        · have HY := Lib.hid (E2.out.trans (if_pos hp))
          have hp0 : ((place : Int) == 0) = true := by rw [hp]; rfl
          have HC := Lib.hid (HIH.out P s.nx X wv O W2 HM2.out hrn huX hwX htX)
          clear hp
          go_wp2_with fail
          refine HC.out.mono ?_
          rintro e w3 ⟨rfl, wv', O', hm, hk⟩
          have HF := Lib.hid hm
          have HK := Lib.hid (HK2.out.trans hk)
          clear hm hk
          go_wp2_with fail
          go_end0
          exact ⟨rfl, wv', O', by rw [HY.out]; exact HF.out, HK.out⟩
        · have HY := Lib.hid (E2.out.trans (if_neg hp))
          have hp0 : ((place : Int) == 0) = false := beq_eq_false_iff_ne.2 (by omega)
          clear hp
          go_wp2_with fail
          go_end0
          exact ⟨rfl, wv, O, by rw [HY.out]; exact HM2.out, HK2.out⟩
      have h2 : ((s.k : Int) == 2) = false := beq_eq_false_iff_ne.2 (by omega)
      have E2 := Lib.hid (E1.out.trans (if_neg k2))
      clear E1
      by_cases k3 : s.k = 3
      · have E2 := Lib.hid (E2.out.trans (if_pos k3))
        have h3 : ((s.k : Int) == 3) = true := by rw [k3]; rfl
        clear k0 k1 k2 k3 hbN
        by_cases hp : place = size
        · have HY := Lib.hid (E2.out.trans (if_pos hp))
          have hp0 : ((place : Int) == (size : Int)) = true := by rw [hp]; exact beq_self_eq_true _
          have HC := Lib.hid (HIH.out P s.nx X wv O W2 HM2.out hrn huX hwX htX)
          clear hp
          go_wp2_with fail
          refine HC.out.mono ?_
          rintro e w3 ⟨rfl, wv', O', hm, hk⟩
          have HF := Lib.hid hm
          have HK := Lib.hid (HK2.out.trans hk)
          clear hm hk
          go_wp2_with fail
          go_end0
          exact ⟨rfl, wv', O', by rw [HY.out]; exact HF.out, HK.out⟩
        · have HY := Lib.hid (E2.out.trans (if_neg hp))
          have hp0 : ((place : Int) == (size : Int)) = false := beq_eq_false_iff_ne.2 (by omega)
          clear hp
          go_wp2_with fail
          go_end0
          exact ⟨rfl, wv, O, by rw [HY.out]; exact HM2.out, HK2.out⟩
      have h3 : ((s.k : Int) == 3) = false := beq_eq_false_iff_ne.2 (by omega)
      have E3 := Lib.hid (E2.out.trans (if_neg k3))
      clear E2
      by_cases k4 : s.k = 4
      · have HY := Lib.hid (E3.out.trans (if_pos k4))
        have h4 : ((s.k : Int) == 4) = true := by rw [k4]; rfl
        have M3 := HM1.out.more hT hbN (Nat.le_refl W1.heap.size) (by rw [World.size_alloc]; omega)
        rw [← HW2.out] at M3
        have HC := Lib.hid (HIH.out (AndP P W1.heap.size) s.nx X wv O W2 M3 hrn huX hwX htX)
        have HPG := Lib.hid HM2.out.pg
        have hc := comeN_ok ss size d s.nx place X (by rw [HM2.out.len]; exact hrn) (fun s hs => by rw [HM2.out.len]; exact HR.out s hs)
        obtain ⟨Y, hY⟩ : ∃ Y, Y = comeN ss size d s.nx place X := ⟨_, rfl⟩
        rw [← hY] at HC hc HY
        have huY : unseen Y.seen (place + 1) ≤ d := Nat.le_trans hc.unseen huX
        have hwY : Y.wait.length + unseen Y.seen (place + 1) ≤ 1000000000 := Nat.le_trans hc.wait hwX
        have htY : Y.told.length + unseen Y.seen (place + 1) ≤ 1000000000000 := Nat.le_trans hc.told htX
        clear k0 k1 k2 k3 k4 hbN M3 hc hY
        go_wp2_with fail
        refine HC.out.mono ?_
        rintro e w3 ⟨rfl, wv', O', hm, hk⟩
        have HR3 := hk.block W1.heap.size (Or.inr rfl)
        have q6 : w3.cell? ⟨W1.heap.size, 6, none⟩ = some (.int .i64 s.ot) := cell_of_row _ _ 6 _ _ _ (HR3.trans HR2.out)
        have HC2 := Lib.hid (HIH.out P s.ot Y wv' O' w3 (hm.less HPG.out) hro huY hwY htY)
        have HK := Lib.hid (HK2.out.trans hk.less)
        clear hm hk HR3 r0 r5 r6
        go_wp2_with fail
        refine HC2.out.mono ?_
        rintro e w5 ⟨rfl, wv2, O2, hm, hk⟩
        have HF2 := Lib.hid hm
        have HK3 := Lib.hid (HK.out.trans hk)
        clear hm hk
        go_wp2_with fail
        go_end0
        exact ⟨rfl, wv2, O2, by rw [HY.out]; exact HF2.out, HK3.out⟩
      have h4 : ((s.k : Int) == 4) = false := beq_eq_false_iff_ne.2 (by omega)
      have HY := Lib.hid (E3.out.trans (if_neg k4))
      clear k0 k1 k2 k3 k4 hbN
      go_wp2_with fail
      go_end0
      exact ⟨rfl, wv, O, by rw [HY.out]; exact HM2.out, HK2.out⟩
end Go.Proofs.YtimipfdknfdbdaaGreat

/- A machine that is read: its two cells, wherever they lie; a pattern in memory. -/
namespace Go.Proofs.YtimipfdknfdbdaaGreat
open Go.RowKit

/-- A machine to be read. -/
structure MchR (w : World) (p o : Nat) (ss : List St) (sv : Value) (st : Int) : Prop where
  c0 : w.cell? ⟨p, o, none⟩ = some sv
  c1 : w.cell? ⟨p, o + 1, none⟩ = some (.int .i64 st)
  own : w.ownsRow 0 69 7 sv ss.length (flatS ss)
theorem MchR.lt {w : World} {p o : Nat} {ss : List St} {sv : Value} {st : Int} (h : MchR w p o ss sv st) : p < w.heap.size := cell_lt h.c0
theorem MchR.after {w w' : World} {p o : Nat} {ss : List St} {sv : Value} {st : Int} (h : MchR w p o ss sv st) (hb : Below w.heap.size w w') : MchR w' p o ss sv st :=
  ⟨by rw [World.cell?_of_block (a := ⟨p, o, none⟩) (hb.block p h.lt)]; exact h.c0, by rw [World.cell?_of_block (a := ⟨p, o + 1, none⟩) (hb.block p h.lt)]; exact h.c1, owns_after h.own hb⟩

/-- A pattern in memory: its text, its machine. -/
structure PatM (w : World) (pp : Nat) (t : ByteArray) (ss : List St) (sv : Value) (st : Int) : Prop where
  row : w.heap[pp]? = some (.cells #[.string t, sv, .int .i64 st] 48 (0, 0))
  own : w.ownsRow 0 69 7 sv ss.length (flatS ss)
theorem PatM.lt {w : World} {pp : Nat} {t : ByteArray} {ss : List St} {sv : Value} {st : Int} (h : PatM w pp t ss sv st) : pp < w.heap.size := (Array.getElem?_eq_some_iff.1 h.row).1
theorem PatM.c0 {w : World} {pp : Nat} {t : ByteArray} {ss : List St} {sv : Value} {st : Int} (h : PatM w pp t ss sv st) : w.cell? ⟨pp, 0, none⟩ = some (.string t) := cell_of_row _ _ 0 _ _ _ h.row
theorem PatM.mch {w : World} {pp : Nat} {t : ByteArray} {ss : List St} {sv : Value} {st : Int} (h : PatM w pp t ss sv st) : MchR w pp 1 ss sv st :=
  ⟨cell_of_row _ _ 1 _ _ _ h.row, cell_of_row _ _ 2 _ _ _ h.row, h.own⟩
theorem PatM.after {w w' : World} {pp : Nat} {t : ByteArray} {ss : List St} {sv : Value} {st : Int} (h : PatM w pp t ss sv st) (hb : Below w.heap.size w w') : PatM w' pp t ss sv st :=
  ⟨by rw [hb.block pp h.lt]; exact h.row, owns_after h.own hb⟩
/-- The blocks that a pattern lies in. -/
def PatS (pp : Nat) (sv : Value) : Nat → Prop := fun k => k = pp ∨ sv.ownBlock = some k
theorem PatM.keep {w w' : World} {pp : Nat} {t : ByteArray} {ss : List St} {sv : Value} {st : Int} (h : PatM w pp t ss sv st) (e : ∀ k, PatS pp sv k → w'.heap[k]? = w.heap[k]?) : PatM w' pp t ss sv st := by
  refine ⟨by rw [e pp (Or.inl rfl)]; exact h.row, h.own.1, ?_⟩
  rcases h.own.2 with h0 | ⟨g', cap', cur, rfl, hb, hg, rest⟩
  · exact Or.inl h0
  · exact Or.inr ⟨g', cap', cur, rfl, hb, by rw [e g' (Or.inr rfl)]; exact hg, rest⟩
theorem PatM.low {w : World} {pp : Nat} {t : ByteArray} {ss : List St} {sv : Value} {st : Int} (h : PatM w pp t ss sv st) : ∀ k, PatS pp sv k → k < w.heap.size := by
  rintro k (rfl | hk)
  · exact h.lt
  · exact (h.own.lt k hk).2
end Go.Proofs.YtimipfdknfdbdaaGreat
