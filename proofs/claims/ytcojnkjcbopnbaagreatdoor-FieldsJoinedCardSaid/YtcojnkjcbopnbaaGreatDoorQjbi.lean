/- Merged by program: PPattern, PParse. -/
import Derived.Test.YtcojnkjcbopnbaaGreatDoorQjbh
import Derived.Test.YtcojnkjcbopnbaaGreatDoorQjbb
import Derived.Test.YtcojnkjcbopnbaaGreatDoorQjas
/- aukletref05.P.pattern at any text: a walk. -/
namespace Go.Proofs.YtcojnkjcbopnbaaGreatDoor
open Go.RowKit

theorem BrQ.next {s : ByteArray} {k deep kk x : Nat} {ts : List Tree} (h : BrQ s k deep kk 0 x ts) {t : Tree} {k2 : Nat} {e2 : Int} (ht : Fine (-1) t) (h1 : kk + 1 ≤ vP s k2 e2) (h2 : t.kids.length ≤ vP s k2 e2 - (kk + 1)) (h3 : PosOk s k2 e2 deep) : BrQ s k deep k2 e2 x (ts ++ [t]) :=
  h.more ht (by omega) (by omega) h3

set_option maxRecDepth 100000 in
set_option maxHeartbeats 4000000 in
theorem ppatternP (deep : Nat) (hBr : BranchesP deep) : PatsP deep := by
  intro p s k b w hk hs hm
  have HBr := Lib.hid hBr
  have HI := info_re
  have hlt := hm.lt
  have HC := Lib.hid (fun k b e V h => pc_any p s k b e V h)
  obtain ⟨W, hW, hX, hB, hsz⟩ := re_box w zeroR
  have R := Lib.hid (hm.after hB.out)
  have HC0 := Lib.hid (HBr.out p s k b W hk hs R.out)
  clear hBr hm
  go_enter Tryz.func71, Tryz.ntmps71
  go_upto_region 1 with (fail)
  change Code.wp _ _ _ _ (w.alloc (Obj.cells zeroR 68))
  rw [← hW]
  clear hW
  go_wp2_with fail
  refine HC0.out.mono ?_
  rintro e w1 ⟨t, ds, k1, b1, e1, rfl, hat, hf, pm1, bu1⟩
  obtain ⟨f1, f2, f3, f4⟩ := hf.out
  have X1 := Lib.hid (hX.out.but bu1 (by omega))
  have B1 := Lib.hid ((But.of hB.out).trans bu1)
  have R2 := Lib.hid pm1
  have T1 := Lib.hid hat
  have hw1 := bu1.size
  have hx1 := hX.out.lt
  obtain ⟨a, c, e, _⟩ := hat.opens
  subst e
  clear bu1 pm1 hat HC0 hf
  simp only [reC]
  go_wp2_with fail
  obtain ⟨U, hU, hY, hBU, hszU⟩ := re_box w1 (reC t.k t.f t.lo t.hi (.slice a t.kids.length c))
  change Code.wp _ _ _ _ (w1.alloc (Obj.cells (reC t.k t.f t.lo t.hi (.slice a t.kids.length c)) 68))
  have M0 : Hid (BrMP U w p s k1 b1 e1 (.slice (some ⟨w1.heap.size, 0, none⟩) 1 1) [t] (fun _ => reC t.k t.f t.lo t.hi (.slice a t.kids.length c))) := Lib.hid ⟨R2.out.after hBU.out, X1.out.after hBU.out, ⟨by
    rw [hU]
    exact World.ownsRow_lit w1 _ 1 (by omega) (by unfold maxLen; omega) rfl, fun j hj => by
    obtain rfl : j = 0 := by simp at hj; omega
    exact (T1.out.inWorld.after hBU.out).weakS fun b hb => ⟨by have h' : W.heap.size ≤ b := hb.1; omega, fun e => by have := hb.2; simp [Value.ownBlock] at e; omega⟩⟩, B1.out.then hBU.out⟩
  rw [← hU]
  clear hU
  have P0 : Hid (BrQ s k deep k1 e1 1 [t]) := Lib.hid (by
    refine ⟨fun u hu => by rw [List.mem_singleton.1 hu]; exact f1, ?_, ?_, by omega, f4⟩
    · show wide t + 0 ≤ _
      unfold wide
      omega
    · show 1 ≤ _
      omega)
  clear f1 f2 f3 f4 hY hBU hszU T1 X1 B1 R2 R hX hB hsz
  go_loopg [5] (s.size + 30 - vP s k1 e1) (fun q lv wr => ∃ (ts : List Tree) (kk : Nat) (bb ee : Int) (cs : Nat → Array Value), Hid (s.size + 30 - vP s kk ee = q) ∧ Hid (BrQ s k deep kk ee 1 ts) ∧ Hid (BrMP wr w p s kk bb ee lv ts cs))
  case atStart => exact ⟨[t], k1, b1, e1, _, Lib.hid rfl, P0, M0⟩
  case round =>
    clear M0 P0
    obtain ⟨ts, kk, bb, ee, cs, hq, hP, hM⟩ := hrel
    have HC1 := Lib.hid (HC.out kk bb ee wr hM.out.pm)
    have hin := Lib.hid (fun h => chP_in (s := s) (k := kk) (e := ee) h)
    obtain ⟨x, hx⟩ : ∃ x, x = chP s kk ee := ⟨_, rfl⟩
    rw [← hx] at HC1 hin
    clear hx
    go_wp2_with fail
    refine HC1.out.mono ?_
    rintro e wc ⟨rfl, b1⟩
    have M1 := Lib.hid (hM.out.after b1)
    clear b1 HC1 hM
    by_cases h124 : x = 124
    rotate_left
    · have hxb : (x == 124) = false := beq_eq_false_iff_ne.2 h124
      clear h124 hin HC
      have hv := vP_le hP.out.pos
      have HJ := Lib.hid (pjoin_sl 5 ts u5 (Up (w.heap.size + 1)) wc (by have := hP.out.len; omega) (by have := hP.out.sum; omega) M1.out.own.slAt hP.out.fine (Or.inr rfl))
      have hDw := M1.out.box.lt
      go_wp2_with fail
      refine HJ.out.mono ?_
      rintro e w1 ⟨tt, ds, rfl, hat, hf, b1⟩
      have M3 := Lib.hid (M1.out.after b1)
      have T3 := Lib.hid hat
      obtain ⟨a, c, e, _⟩ := hat.opens
      subst e
      clear b1 hat HJ
      go_wp2_with (refine wpList_store_row rfl 68 (.tmp 4) (.tmp 29) rfl w.heap.size (reC tt.k tt.f tt.lo tt.hi (.slice a tt.kids.length c)) rfl rfl 68 zeroR M3.out.box.row HI rfl (re_one _ _ _ _ _ _ _) ?_)
      refine bodyPost_ret (v := .agg (reC tt.k tt.f tt.lo tt.hi (.slice a tt.kids.length c))) (results_cell_row (by rfl) _ _ w.heap.size 68 _ (0, 0) _ (by rfl) (M3.out.box.setRow _).row Tryz.underlying68 (by rfl) HI) rfl ?_
      have hsum := hP.out.sum
      have hkd := hf.out.2
      refine ⟨tt, _, kk, bb, ee, rfl, (T3.out.setRowS (fun h => by rcases h with h | h; (· have h' : w.heap.size + 1 ≤ w.heap.size := h; omega); (· omega)) _).weakS fun j hj => ?_, Lib.hid ⟨hf.out.1, by omega, by have := hP.out.ge; omega, hP.out.pos⟩, M3.out.pm.setRow (by omega) _, M3.out.but.setRow (Nat.le_refl _) _⟩
      rcases hj with h | h
      · have h' : w.heap.size + 1 ≤ j := h
        show w.heap.size ≤ j
        omega
      · show w.heap.size ≤ j
        omega
    have hin2 : ee = 0 ∧ kk < s.size := by obtain ⟨h1, h2, _⟩ := hin.out (by omega); exact ⟨h1, h2⟩
    subst h124
    obtain ⟨he0, hkk⟩ := hin2
    subst he0
    clear hin HC
    have C1 := M1.out.pm.c1; have Z1 := M1.out.pm.z 1
    go_upto_region 4 with (fail)
    rw [show ((kk : Int) + 1) = ((kk + 1 : Nat) : Int) from by omega]
    obtain ⟨D, hD, MD⟩ : ∃ D, D = wc.setCell ⟨p, 1, none⟩ (.int .i64 ((kk + 1 : Nat) : Int)) ∧ Hid (BrMP D w p s (kk + 1) bb 0 u5 ts cs) :=
      ⟨_, rfl, Lib.hid ⟨M1.out.pm.put1 _, M1.out.box.but (but_put _ _ _ _) (by omega), M1.out.own.but (but_put _ _ _ _) (by omega), M1.out.but.put _ _⟩⟩
    rw [← hD]
    clear hD C1 Z1 M1
    have HC1 := Lib.hid (HBr.out p s (kk + 1) bb D hkk hs MD.out.pm)
    go_wp2_with fail
    refine HC1.out.mono ?_
    rintro e w1 ⟨t2, ds, k2, b2, e2, rfl, hat, hf, pm1, bu1⟩
    obtain ⟨g1, g2, g3, g4⟩ := hf.out
    have T1 := Lib.hid hat
    have hw1 := bu1.size
    have hx1 := MD.out.box.lt
    have hvl : Hid (∀ k, u5.ownBlock = some k → k < D.heap.size) := Lib.hid fun k hk => (MD.out.own.row.lt k hk).2
    have X0 := Lib.hid (MD.out.box.but bu1 (by omega))
    have O0 := Lib.hid (MD.out.own.but bu1 (by omega))
    have B0 := Lib.hid (MD.out.but.trans bu1)
    have PM0 := Lib.hid pm1
    obtain ⟨a2, c2, e, _⟩ := hat.opens
    subst e
    clear bu1 pm1 hat HC1 hf
    simp only [reC]
    go_upto_region 5 with (fail)
    obtain ⟨w3, hw3, hY, hBV, hs3⟩ := re_box w1 (reC t2.k t2.f t2.lo t2.hi (.slice a2 t2.kids.length c2))
    change Code.wp _ _ _ _ (w1.alloc (Obj.cells (reC t2.k t2.f t2.lo t2.hi (.slice a2 t2.kids.length c2)) 68))
    rw [← hw3]
    clear hw3
    have Y3 := hY
    have T3 : Hid (At w3 (Up D.heap.size) t2 (reC t2.k t2.f t2.lo t2.hi (.slice a2 t2.kids.length c2))) := Lib.hid (T1.out.after hBV.out)
    have PM3 := Lib.hid (PM0.out.after hBV.out)
    have X1 := Lib.hid (X0.out.after hBV.out)
    have O1 := Lib.hid (O0.out.after hBV.out)
    have B1 := Lib.hid (B0.out.then hBV.out)
    clear hBV hY X0 O0 B0 PM0 T1 MD
    obtain ⟨d0, d1, d2, d3, d4, d5, d6, d7⟩ := eight_re Y3.out.eight
    have hbe := below_new w3 (.cells (reC t2.k t2.f t2.lo t2.hi (.slice a2 t2.kids.length c2)) 68)
    have hse : (w3.alloc (.cells (reC t2.k t2.f t2.lo t2.hi (.slice a2 t2.kids.length c2)) 68)).heap.size = w3.heap.size + 1 := World.size_alloc _ _
    have O2 := Lib.hid (O1.out.after hbe)
    have row5 : Hid ((w3.alloc (.cells (reC t2.k t2.f t2.lo t2.hi (.slice a2 t2.kids.length c2)) 68)).heap[w3.heap.size]? = some (.cells (reC t2.k t2.f t2.lo t2.hi (.slice a2 t2.kids.length c2)) 68 (0, 0))) := Lib.hid (heap_alloc_last w3 _)
    obtain ⟨i0, hi0', hz0, hz1, hz2⟩ := info_parts info_re3
    have hdl : Hid (ts.length + 1 ≤ 1000) := Lib.hid (by have := hP.out.len; have := vP_le hP.out.pos; omega)
    have BE := Lib.hid hbe
    clear hbe
    go_wp2_with (at_builtin; refine wpList_append_own_at _ rfl _ _ 66 rfl (w.heap.size + 1) 68 i0 (.agg #[.int .i64 0, .int .u64 0, .int .u64 0, .int .u64 0, .int .u64 0, .int .i64 0, .int .i64 0, .slice none 0 0]) 8 80 Tryz.underlying66 hi0' hz0 hz1 hz2 rfl (by decide) _ _ _ rfl O2.out.row ⟨w3.heap.size, 0, none⟩ 1 1 (reC t2.k t2.f t2.lo t2.hi (.slice a2 t2.kids.length c2)).toList rfl rfl ?c1 ?c2 ?c3 ?c4 ?c5 ?_)
    case c1 =>
      intro j u hj
      have e : (⟨w3.heap.size, 0, none⟩ : Addr).add j = ⟨w3.heap.size, j, none⟩ := by unfold Addr.add; split <;> simp_all
      first
        | (rw [e]; exact (cell_of_row _ _ j _ _ _ row5.out).trans (by simpa using hj))
        | simpa [reC] using hj
    case c2 =>
      intro u hu
      have h := re_one t2.k t2.f t2.lo t2.hi a2 t2.kids.length c2
      rw [Array.all_eq_true_iff_forall_mem] at h
      exact h u (by simpa using hu)
    case c3 => have := hdl.out; unfold maxLen; omega
    case c4 => have := hdl.out; omega
    case c5 => rw [World.size_alloc]; have := hs3.out; omega
    intro v' w4 hown' hgrow _ hwhere
    have hs3' := hs3.out
    have hgrow' : (w3.alloc (.cells (reC t2.k t2.f t2.lo t2.hi (.slice a2 t2.kids.length c2)) 68)).grownBy w4 _ := hgrow
    have hwhere' : v'.ownBlock = u5.ownBlock ∨ v'.ownBlock = some (w3.alloc (.cells (reC t2.k t2.f t2.lo t2.hi (.slice a2 t2.kids.length c2)) 68)).heap.size := hwhere.imp id (fun h => by rw [World.size_alloc]; exact h)
    have OW := Lib.hid (O2.out.snoc (T3.out.after BE.out) (by omega) hvl.out hown' hgrow' hwhere')
    have hng : ∀ k, k < w3.heap.size → (∀ j, u5.ownBlock = some j → j ≠ k) → w4.heap[k]? = w3.heap[k]? := fun k hk hne =>
      (hgrow'.block k (by omega) (fun e => hne k e.symm rfl)).trans (BE.out.block k hk)
    have hge3 : ∀ k, u5.ownBlock = some k → w.heap.size + 1 ≤ k := fun k hk => (O2.out.row.lt k hk).1
    have hBw4 : But p w w4 := ⟨hgrow'.os.trans (BE.out.os.trans B1.out.os), hgrow'.tape.trans (BE.out.tape.trans B1.out.tape), hgrow'.output.trans (BE.out.output.trans B1.out.output), Nat.le_trans B1.out.size (Nat.le_trans BE.out.size hgrow'.size), fun k hk hp =>
      (hng k (by omega) (fun j hj e => by have := hge3 j hj; omega)).trans (B1.out.block k hk hp)⟩
    have M4 : Hid (BrMP w4 w p s k2 b2 e2 v' (ts ++ [t2]) (fun j => if j = ts.length then reC t2.k t2.f t2.lo t2.hi (.slice a2 t2.kids.length c2) else cs j)) := Lib.hid ⟨⟨by
        rw [hng p (by omega) (fun j hj e => by have := hge3 j hj; omega)]; exact PM3.out.row⟩, ⟨by
        rw [hng _ (by omega) (fun j hj e => by have := hge3 j hj; omega)]; exact X1.out.row⟩, OW.out, hBw4⟩
    have P4 := Lib.hid (hP.out.next g1 (t := t2) (k2 := k2) (e2 := e2) (by omega) (by omega) g4)
    have hv2 := vP_le g4
    have hv0 : vP s kk 0 = kk := vP_ok _ _
    clear hown' hgrow hgrow' hwhere hwhere' hng hge3 hBw4 hs3'
    go_wp2_with fail
    go_roundg (s.size + 30 - vP s k2 e2)
    case measure => have := hq.out; omega
    case rel => exact ⟨ts ++ [t2], k2, b2, e2, _, Lib.hid rfl, P4, M4⟩

theorem ppat_any (n : Nat) : ∀ deep, deep + n = 20 → PatsP deep := by
  induction n with
  | zero => intro deep h; exact ppatternP deep (pbranchP deep (by omega) (patomP deep (by omega) (fun h2 => by omega)))
  | succ n ih => intro deep h; exact ppatternP deep (pbranchP deep (by omega) (patomP deep (by omega) (fun _ => ih (deep + 1) (by omega))))
end Go.Proofs.YtcojnkjcbopnbaaGreatDoor

/- aukletref05.Parse at any text: a walk. -/
namespace Go.Proofs.YtcojnkjcbopnbaaGreatDoor
open Go.RowKit

theorem pm_box (w : World) (s : ByteArray) : ∃ V, V = w.alloc (.cells #[.string s, .int .i64 0, .int .i64 0, .int .i64 0] 127) ∧ Hid (PM V w.heap.size s 0 0 0) ∧ Hid (Below w.heap.size w V) :=
  ⟨_, rfl, Lib.hid ⟨heap_alloc_last w _⟩, Lib.hid (below_new _ _)⟩

theorem par_put {w V : World} {p : Nat} {b1 e1 : Int} (hp : p ≠ w.heap.size) (h : Hid (Below w.heap.size w V) ∧ V.heap[w.heap.size]? = some (.cells #[.int .i64 0, .int .u64 0, .int .u64 0, .int .u64 0, .int .u64 0, .int .i64 0, .int .i64 0, .slice none 0 0] 68 (0, 0)) ∧ V.cell? ⟨p, 2, none⟩ = some (.int .i64 b1) ∧ V.cell? ⟨p, 3, none⟩ = some (.int .i64 e1)) :
    Hid (Below w.heap.size w (V.setRow w.heap.size #[.int .i64 0, .int .u64 0, .int .u64 0, .int .u64 0, .int .u64 0, .int .i64 0, .int .i64 0, .slice none 0 0])) ∧ (V.setRow w.heap.size #[.int .i64 0, .int .u64 0, .int .u64 0, .int .u64 0, .int .u64 0, .int .i64 0, .int .i64 0, .slice none 0 0]).heap[w.heap.size]? = some (.cells #[.int .i64 0, .int .u64 0, .int .u64 0, .int .u64 0, .int .u64 0, .int .i64 0, .int .i64 0, .slice none 0 0] 68 (0, 0)) ∧ (V.setRow w.heap.size #[.int .i64 0, .int .u64 0, .int .u64 0, .int .u64 0, .int .u64 0, .int .i64 0, .int .i64 0, .slice none 0 0]).cell? ⟨p, 2, none⟩ = some (.int .i64 b1) ∧ (V.setRow w.heap.size #[.int .i64 0, .int .u64 0, .int .u64 0, .int .u64 0, .int .u64 0, .int .i64 0, .int .i64 0, .slice none 0 0]).cell? ⟨p, 3, none⟩ = some (.int .i64 e1) := by
  have hb : Box V w.heap.size #[.int .i64 0, .int .u64 0, .int .u64 0, .int .u64 0, .int .u64 0, .int .i64 0, .int .i64 0, .slice none 0 0] := ⟨h.2.1⟩
  refine ⟨Lib.hid (below_setRow h.1.out (Nat.le_refl _) _), (hb.setRow _).row, ?_, ?_⟩
  · rw [World.cell?_of_block (a := ⟨p, 2, none⟩) (Go.setRow_other _ _ _ _ hp)]; exact h.2.2.1
  · rw [World.cell?_of_block (a := ⟨p, 3, none⟩) (Go.setRow_other _ _ _ _ hp)]; exact h.2.2.2
theorem par_drew {w V : World} {p : Nat} {b1 e1 : Int} (h : Hid (Below w.heap.size w V) ∧ V.heap[w.heap.size]? = some (.cells #[.int .i64 0, .int .u64 0, .int .u64 0, .int .u64 0, .int .u64 0, .int .i64 0, .int .i64 0, .slice none 0 0] 68 (0, 0)) ∧ V.cell? ⟨p, 2, none⟩ = some (.int .i64 b1) ∧ V.cell? ⟨p, 3, none⟩ = some (.int .i64 e1)) :
    Hid (Below w.heap.size w V.drew) ∧ V.drew.heap[w.heap.size]? = some (.cells #[.int .i64 0, .int .u64 0, .int .u64 0, .int .u64 0, .int .u64 0, .int .i64 0, .int .i64 0, .slice none 0 0] 68 (0, 0)) ∧ V.drew.cell? ⟨p, 2, none⟩ = some (.int .i64 b1) ∧ V.drew.cell? ⟨p, 3, none⟩ = some (.int .i64 e1) := ⟨Lib.hid (h.1.out.trans ((below_drew V).mono (h.1.out.size))), h.2.1, h.2.2.1, h.2.2.2⟩

set_option maxRecDepth 100000 in
set_option maxHeartbeats 2000000 in
theorem rparse5_any (s : ByteArray) (w : World) :
    Calls Tryz.prog 46 #[.string s] w (ParseOut w) := by
  have HI := info_re
  obtain ⟨W, hW, hX, hB, hsz⟩ := re_box w zeroR
  have hwl := hX.out.lt
  by_cases hz : 400 < s.size
  · have hd : decide (400 < (s.size : Int)) = true := decide_eq_true (by omega)
    go_enter Tryz.func46, Tryz.ntmps46
    go_upto_region 1 with (fail)
    change Code.wp _ _ _ _ (w.alloc (Obj.cells zeroR 68))
    rw [← hW]
    clear hW
    go_wp2_with (refine wpList_store_row rfl 68 (.tmp 2) (.tmp 10) rfl w.heap.size zeroR rfl rfl 68 zeroR hX.out.row HI rfl (re_one _ _ _ _ _ _ _) ?_)
    obtain ⟨Y, hY, XY, BY⟩ : ∃ Y, Y = W.setRow w.heap.size zeroR ∧ Hid (Box Y w.heap.size zeroR) ∧ Hid (Below w.heap.size w Y) := ⟨_, rfl, Lib.hid (hX.out.setRow zeroR), Lib.hid (below_setRow hB.out (Nat.le_refl _) _)⟩
    change bodyPost _ _ _ _ _ (W.setRow w.heap.size zeroR)
    rw [← hY]
    clear hY
    obtain ⟨d0, d1, d2, d3, d4, d5, d6, d7⟩ := eight_zero XY.out.eight
    refine bodyPost_ret (v := .tuple #[.agg zeroR, .int .i64 0, .int .i64 2]) (by simp [results, Tryz.results46, go_sem, d0, d1, d2, d3, d4, d5, d6, d7, zeroR, reC, zero4]) rfl ?_
    exact ⟨emptyT, zeroR, 0, 2, rfl, .leaf _ _ _ _ _ _, Lib.hid fine_empty, BY.out⟩
  have hd : decide (400 < (s.size : Int)) = false := decide_eq_false (by omega)
  have hs : s.size ≤ 400 := by omega
  obtain ⟨V, hV, hP, hBV⟩ := pm_box W s
  have X0 := Lib.hid (hX.out.after hBV.out)
  have B0 := Lib.hid (Below.step hB.out hBV.out)
  have HPt := Lib.hid (ppat_any 20 0 rfl W.heap.size s 0 0 V (Nat.zero_le _) hs hP.out)
  have hVl := hP.out.lt
  go_enter Tryz.func46, Tryz.ntmps46
  go_upto_region 1 with (fail)
  change Code.wp _ _ _ _ (w.alloc (Obj.cells zeroR 68))
  rw [← hW]
  clear hW hX hB hsz
  go_upto_region 4 with (fail)
  change Code.wp _ _ _ _ (W.alloc (.cells #[.string s, .int .i64 0, .int .i64 0, .int .i64 0] 127))
  rw [← hV]
  clear hV hP hBV
  go_wp2_with fail
  refine HPt.out.mono ?_
  rintro e w1 ⟨t, cs, k1, b1, e1, rfl, hat, hf, pm1, bu1⟩
  have X1 := Lib.hid (X0.out.but bu1 (by omega))
  have B1 := Lib.hid (B0.out.trans (bu1.below (B := w.heap.size) (by omega) (by omega)))
  have PM1 := Lib.hid pm1
  have T1 := Lib.hid hat
  have f1 := Lib.hid hf.out.1
  have hw1 := bu1.size
  obtain ⟨a, c, e, _⟩ := hat.opens
  subst e
  clear pm1 bu1 hat hf HPt X0 B0
  simp only [reC]
  go_upto_region 5 with (fail)
  obtain ⟨U, hU, hY, hBU, hszU⟩ := re_box w1 (reC t.k t.f t.lo t.hi (.slice a t.kids.length c))
  change Code.wp _ _ _ _ (w1.alloc (Obj.cells (reC t.k t.f t.lo t.hi (.slice a t.kids.length c)) 68))
  rw [← hU]
  clear hU
  have X2 := Lib.hid (X1.out.after hBU.out)
  have B2 := Lib.hid (Below.step B1.out hBU.out)
  have PM2 := Lib.hid (PM1.out.after hBU.out)
  have T2 : Hid (At U (fun j => V.heap.size ≤ j ∧ j ≠ w1.heap.size) t (reC t.k t.f t.lo t.hi (.slice a t.kids.length c))) := Lib.hid ((T1.out.inWorld.after hBU.out).weakS fun j hj => ⟨hj.1, by have := hj.2; omega⟩)
  clear X1 B1 PM1 T1 hBU
  have c3 := PM2.out.c3
  have c2 := PM2.out.c2
  by_cases he : e1 = 0
  · subst he
    obtain ⟨d0, d1, d2, d3, d4, d5, d6, d7⟩ := eight_re hY.out.eight
    go_wp2_with (refine wpList_store_row rfl 68 (.tmp 2) (.tmp 30) rfl w.heap.size (reC t.k t.f t.lo t.hi (.slice a t.kids.length c)) rfl rfl 68 zeroR X2.out.row HI rfl (re_one _ _ _ _ _ _ _) ?_)
    clear d0 d1 d2 d3 d4 d5 d6 d7
    obtain ⟨Y, hY', XY, TY, BY⟩ : ∃ Y, Y = U.setRow w.heap.size (reC t.k t.f t.lo t.hi (.slice a t.kids.length c)) ∧ Hid (Box Y w.heap.size (reC t.k t.f t.lo t.hi (.slice a t.kids.length c))) ∧ Hid (At Y (Up w.heap.size) t (reC t.k t.f t.lo t.hi (.slice a t.kids.length c))) ∧ Hid (Below w.heap.size w Y) :=
      ⟨_, rfl, Lib.hid (X2.out.setRow _), Lib.hid ((T2.out.setRowS (fun h => by have := h.1; omega) _).weakS (fun j hj => by have := hj.1; unfold Up; omega)), Lib.hid (below_setRow B2.out (Nat.le_refl _) _)⟩
    change bodyPost _ _ _ _ _ (U.setRow w.heap.size (reC t.k t.f t.lo t.hi (.slice a t.kids.length c)))
    rw [← hY']
    clear hY'
    obtain ⟨d0, d1, d2, d3, d4, d5, d6, d7⟩ := eight_re XY.out.eight
    refine bodyPost_ret (v := .tuple #[.agg (reC t.k t.f t.lo t.hi (.slice a t.kids.length c)), .int .i64 0, .int .i64 0]) (by simp [results, Tryz.results46, go_sem, d0, d1, d2, d3, d4, d5, d6, d7, reC]) rfl ?_
    exact ⟨t, _, 0, 0, rfl, TY.out, f1, BY.out⟩
  · have hd2 : (e1 != 0) = true := by simpa using he
    have HE := Lib.hid he; clear he
    go_upto_region 6 with (fail)
    have hS : Hid (Below w.heap.size w U) ∧ U.heap[w.heap.size]? = some (.cells #[.int .i64 0, .int .u64 0, .int .u64 0, .int .u64 0, .int .u64 0, .int .i64 0, .int .i64 0, .slice none 0 0] 68 (0, 0)) ∧ U.cell? ⟨W.heap.size, 2, none⟩ = some (.int .i64 b1) ∧ U.cell? ⟨W.heap.size, 3, none⟩ = some (.int .i64 e1) := ⟨B2, X2.out.row, c2, c3⟩
    have hne : W.heap.size ≠ w.heap.size := by omega
    refine wp_region_held_drew (S := fun w' => Hid (Below w.heap.size w w') ∧ w'.heap[w.heap.size]? = some (.cells #[.int .i64 0, .int .u64 0, .int .u64 0, .int .u64 0, .int .u64 0, .int .i64 0, .int .i64 0, .slice none 0 0] 68 (0, 0)) ∧ w'.cell? ⟨W.heap.size, 2, none⟩ = some (.int .i64 b1) ∧ w'.cell? ⟨W.heap.size, 3, none⟩ = some (.int .i64 e1)) (by kernel_rfl) (par_drew hS) (fun hD => ?_)
    clear hS
    refine takeW (i := 0) (d := 21) (v := .agg #[.int .i64 0, .int .u64 0, .int .u64 0, .int .u64 0, .int .u64 0, .int .i64 0, .int .i64 0, .slice none 0 0]) rfl rfl (by kernel_rfl) (by kernel_rfl) (by kernel_rfl) (fun _ _ _ h => h) (by rfl) (fun w' hSw => by obtain ⟨_, s2, s3, s4⟩ := hSw; go_simp) hD ?_
    simp only [List.setIfInBounds_toArray, List.set_cons_zero, List.set_cons_succ]
    refine takeW (i := 1) (d := 22) (v := .pointer (some ⟨W.heap.size, 0, none⟩)) rfl rfl (by kernel_rfl) (by kernel_rfl) (by kernel_rfl) (fun _ _ _ h => h) (by rfl) (fun w' hSw => by obtain ⟨_, s2, s3, s4⟩ := hSw; go_simp) hD ?_
    simp only [List.setIfInBounds_toArray, List.set_cons_zero, List.set_cons_succ]
    refine takeW (i := 2) (d := 23) (v := .pointer (some ⟨W.heap.size, 0, none⟩)) rfl rfl (by kernel_rfl) (by kernel_rfl) (by kernel_rfl) (fun _ _ _ h => h) (by rfl) (fun w' hSw => by obtain ⟨_, s2, s3, s4⟩ := hSw; go_simp) hD ?_
    simp only [List.setIfInBounds_toArray, List.set_cons_zero, List.set_cons_succ]
    refine takeW (i := 3) (d := 24) (v := .pointer (some ⟨W.heap.size, 2, none⟩)) rfl rfl (by kernel_rfl) (by kernel_rfl) (by kernel_rfl) (fun _ _ _ h => h) (by rfl) (fun w' hSw => by obtain ⟨_, s2, s3, s4⟩ := hSw; go_simp) hD ?_
    simp only [List.setIfInBounds_toArray, List.set_cons_zero, List.set_cons_succ]
    refine takeW (i := 4) (d := 25) (v := .int .i64 b1) rfl rfl (by kernel_rfl) (by kernel_rfl) (by kernel_rfl) (fun _ _ _ h => h) (by rfl) (fun w' hSw => by obtain ⟨_, s2, s3, s4⟩ := hSw; go_simp) hD ?_
    simp only [List.setIfInBounds_toArray, List.set_cons_zero, List.set_cons_succ]
    refine takeW (i := 5) (d := 26) (v := .pointer (some ⟨W.heap.size, 0, none⟩)) rfl rfl (by kernel_rfl) (by kernel_rfl) (by kernel_rfl) (fun _ _ _ h => h) (by rfl) (fun w' hSw => by obtain ⟨_, s2, s3, s4⟩ := hSw; go_simp) hD ?_
    simp only [List.setIfInBounds_toArray, List.set_cons_zero, List.set_cons_succ]
    refine takeW (i := 6) (d := 27) (v := .pointer (some ⟨W.heap.size, 0, none⟩)) rfl rfl (by kernel_rfl) (by kernel_rfl) (by kernel_rfl) (fun _ _ _ h => h) (by rfl) (fun w' hSw => by obtain ⟨_, s2, s3, s4⟩ := hSw; go_simp) hD ?_
    simp only [List.setIfInBounds_toArray, List.set_cons_zero, List.set_cons_succ]
    refine takeW (i := 7) (d := 28) (v := .pointer (some ⟨W.heap.size, 3, none⟩)) rfl rfl (by kernel_rfl) (by kernel_rfl) (by kernel_rfl) (fun _ _ _ h => h) (by rfl) (fun w' hSw => by obtain ⟨_, s2, s3, s4⟩ := hSw; go_simp) hD ?_
    simp only [List.setIfInBounds_toArray, List.set_cons_zero, List.set_cons_succ]
    refine takeW (i := 8) (d := 29) (v := .int .i64 e1) rfl rfl (by kernel_rfl) (by kernel_rfl) (by kernel_rfl) (fun _ _ _ h => h) (by rfl) (fun w' hSw => by obtain ⟨_, s2, s3, s4⟩ := hSw; go_simp) hD ?_
    simp only [List.setIfInBounds_toArray, List.set_cons_zero, List.set_cons_succ]
    refine wpAnyH_ready (rs := [9]) (by kernel_rfl) (by simp) ?_
    refine AllReadyH.cons rfl (fun X hX => ?_) AllReadyH.nil
    rw [if_pos (by rfl)]
    refine wp_store_row 68 (.tmp 2) (.tmp 21) rfl w.heap.size #[.int .i64 0, .int .u64 0, .int .u64 0, .int .u64 0, .int .u64 0, .int .i64 0, .int .i64 0, .slice none 0 0] rfl rfl 68 _ hD.2.1 HI rfl (re_one 0 zero4 0 0 none 0 0) ?_
    have hD2 := par_put hne hD
    refine hX.out _ _ hD2 (fun _ => ?_)
    clear hX X
    refine takeW (i := 10) (d := 3) (v := .int .i64 b1) rfl rfl (by kernel_rfl) (by kernel_rfl) (by kernel_rfl) (fun _ _ _ h => h) (by rfl) (fun w' hSw => by obtain ⟨_, s2, s3, s4⟩ := hSw; go_simp) hD2 ?_
    simp only [Act.put, List.setIfInBounds_toArray]
    refine takeW (i := 11) (d := 4) (v := .int .i64 e1) rfl rfl (by kernel_rfl) (by kernel_rfl) (by kernel_rfl) (fun _ _ _ h => h) (by rfl) (fun w' hSw => by obtain ⟨_, s2, s3, s4⟩ := hSw; go_simp) hD2 ?_
    dsimp only
    refine wpAnyH_done (by kernel_rfl) ?_ _
    obtain ⟨Y, hY'⟩ : ∃ Y, Y = U.drew.setRow w.heap.size #[.int .i64 0, .int .u64 0, .int .u64 0, .int .u64 0, .int .u64 0, .int .i64 0, .int .i64 0, .slice none 0 0] := ⟨_, rfl⟩
    rw [← hY'] at hD2 ⊢
    clear hY' hD
    go_wp2_with fail
    have XY : Box Y w.heap.size zeroR := ⟨hD2.2.1⟩
    have BY := hD2.1
    obtain ⟨d0, d1, d2, d3, d4, d5, d6, d7⟩ := eight_zero XY.eight
    refine bodyPost_ret (v := .tuple #[.agg zeroR, .int .i64 b1, .int .i64 e1]) (by simp [results, Tryz.results46, go_sem, d0, d1, d2, d3, d4, d5, d6, d7, zeroR, reC, zero4]) rfl ?_
    exact ⟨emptyT, zeroR, b1, e1, rfl, .leaf _ _ _ _ _ _, Lib.hid fine_empty, BY.out⟩
end Go.Proofs.YtcojnkjcbopnbaaGreatDoor
