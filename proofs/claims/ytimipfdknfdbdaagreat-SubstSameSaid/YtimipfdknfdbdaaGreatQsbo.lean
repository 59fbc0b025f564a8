/- Merged by program: PBranch, PPattern. -/
import Derived.Test.YtimipfdknfdbdaaGreatQsbl
import Derived.Test.YtimipfdknfdbdaaGreatQsbm
import Derived.Test.YtimipfdknfdbdaaGreatQsbn
/- aukletref05.P.branch at any text: a walk. -/
namespace Go.Proofs.YtimipfdknfdbdaaGreat
open Go.RowKit

def BranchesP (deep : Nat) : Prop := ∀ (p : Nat) (s : ByteArray) (k : Nat) (b : Int) (w : World), k ≤ s.size → s.size ≤ 400 → PM w p s k b 0 → Calls Tryz.prog 58 #[.pointer (some ⟨p, 0, none⟩), .int .i64 deep] w (POut 0 0 deep p s k w)
/-- Where the reading of parts stands: memory. -/
structure BrMP (wr w : World) (p : Nat) (s : ByteArray) (kk : Nat) (b e : Int) (lv : Value) (ts : List Tree) (cs : Nat → Array Value) : Prop where
  pm : PM wr p s kk b e
  box : Box wr w.heap.size zeroR
  own : OwnTrees wr (w.heap.size + 1) lv ts cs
  but : But p w wr
theorem BrMP.after {wr w V : World} {p : Nat} {s : ByteArray} {kk : Nat} {b e : Int} {lv : Value} {ts : List Tree} {cs : Nat → Array Value} (h : BrMP wr w p s kk b e lv ts cs) (hb : Below wr.heap.size wr V) : BrMP V w p s kk b e lv ts cs :=
  ⟨h.pm.after hb, h.box.after hb, h.own.after hb, h.but.then hb⟩
/-- What was read so far; x more than bytes at most. -/
structure BrQ (s : ByteArray) (k : Nat) (deep kk : Nat) (e : Int) (x : Nat) (ts : List Tree) : Prop where
  fine : ∀ t, t ∈ ts → Fine (-1) t
  sum : wides ts ≤ vP s kk e - k + x
  len : ts.length ≤ vP s kk e - k + x
  ge : k ≤ vP s kk e
  pos : PosOk s kk e deep
theorem BrQ.more {s : ByteArray} {k deep kk x : Nat} {ts : List Tree} (h : BrQ s k deep kk 0 x ts) {t : Tree} {k2 : Nat} {e2 : Int} (ht : Fine (-1) t) (h1 : kk < vP s k2 e2) (h2 : t.kids.length ≤ max (vP s k2 e2 - kk) 1) (h3 : PosOk s k2 e2 deep) : BrQ s k deep k2 e2 x (ts ++ [t]) := by
  have hw : wide t ≤ vP s k2 e2 - kk := by unfold wide; omega
  have hk := h.ge
  rw [vP_ok] at hk
  have hs := h.sum
  have hl := h.len
  rw [vP_ok] at hs hl
  refine ⟨fun u hu => ?_, by rw [wides_snoc]; omega, by rw [List.length_append, List.length_singleton]; omega, by omega, h3⟩
  rcases List.mem_append.1 hu with hu | hu
  · exact h.fine u hu
  · rw [List.mem_singleton.1 hu]; exact ht

set_option maxRecDepth 100000 in
set_option maxHeartbeats 4000000 in
theorem pbranchP (deep : Nat) (hdeep : deep ≤ 20) (hA : AtomsP deep) : BranchesP deep := by
  intro p s k b w hk hs hm
  have HA := Lib.hid hA
  have HI := info_re
  have hlt := hm.lt
  have HC := Lib.hid (fun k b e V h => pc_any p s k b e V h)
  obtain ⟨W, hW, hX, hB, hsz⟩ := re_box w zeroR
  have bK := below_new W (.cells #[] 38)
  have hWlt := hX.out.lt
  have O0 : OwnTrees (W.alloc (.cells #[] 38)) (w.heap.size + 1) (.slice (some ⟨W.heap.size, 0, none⟩) 0 0) [] (fun _ => zeroR) := ⟨World.ownsRow_made W #[] 0 (by omega) (by unfold maxLen; omega) rfl, fun j h => absurd h (by simp)⟩
  have M0 : Hid (BrMP (W.alloc (.cells #[] 38)) w p s k b 0 (.slice (some ⟨W.heap.size, 0, none⟩) 0 0) [] (fun _ => zeroR)) := Lib.hid ⟨(hm.after hB.out).after bK, hX.out.after bK, O0, (But.of hB.out).then bK⟩
  have P0 : Hid (BrQ s k deep k 0 0 []) := Lib.hid ⟨fun t ht => (by cases ht), by simp [wides], by simp, by rw [vP_ok]; exact Nat.le_refl _, ⟨fun _ => hk, fun h => absurd rfl h⟩⟩
  clear hA hm O0 bK
  go_enter Tryz.func58, Tryz.ntmps58
  go_upto_region 1 with (fail)
  change Code.wp _ _ _ _ (w.alloc (Obj.cells zeroR 38))
  rw [← hW]
  clear hW hX hB hsz
  go_wp2_with fail
  go_loopg [5] (s.size + 30 - k) (fun q lv wr => ∃ (ts : List Tree) (kk : Nat) (bb ee : Int) (cs : Nat → Array Value), Hid (s.size + 30 - vP s kk ee = q) ∧ Hid (BrQ s k deep kk ee 0 ts) ∧ Hid (BrMP wr w p s kk bb ee lv ts cs))
  case atStart => exact ⟨[], k, b, 0, _, Lib.hid (by rw [vP_ok]), P0, M0⟩
  case round =>
    clear M0 P0
    obtain ⟨ts, kk, bb, ee, cs, hq, hP, hM⟩ := hrel
    have HC1 := Lib.hid (fun V h => HC.out kk bb ee V h)
    have hin := Lib.hid (fun h => chP_in (s := s) (k := kk) (e := ee) h)
    obtain ⟨x, hx⟩ : ∃ x, x = chP s kk ee := ⟨_, rfl⟩
    rw [← hx] at HC1 hin
    clear hx
    go_upto_region 2 with (fail)
    go_cut [25] from 8 to 35 (fun y wx => ∃ bq, y = .bool bq ∧ Hid (bq = true → ee = 0 ∧ kk < s.size) ∧ Hid (BrMP wx w p s kk bb ee u5 ts cs))
    case first =>
      have HC2 := Lib.hid (HC1.out _ hM.out.pm)
      go_wp2_with fail
      refine HC2.out.mono ?_
      rintro e w1 ⟨rfl, b1⟩
      have M1 := Lib.hid (hM.out.after b1)
      clear b1 HC2 hM
      by_cases hx0 : 0 ≤ x
      rotate_left
      · have hd : decide (0 ≤ x) = false := decide_eq_false hx0
        go_wp2_with fail
        go_meet
        exact ⟨_, rfl, Lib.hid (fun h => by cases h), M1⟩
      have hd : decide (0 ≤ x) = true := decide_eq_true hx0
      have hin2 : Hid (ee = 0 ∧ kk < s.size) := Lib.hid (by obtain ⟨h1, h2, _⟩ := hin.out hx0; exact ⟨h1, h2⟩)
      have HC2 := Lib.hid (HC1.out _ M1.out.pm)
      clear hin
      go_wp2_with fail
      refine HC2.out.mono ?_
      rintro e w2 ⟨rfl, b1⟩
      have M2 := Lib.hid (M1.out.after b1)
      clear b1 HC2 M1
      by_cases h124 : x = 124
      · subst h124
        go_wp2_with fail
        go_meet
        exact ⟨_, rfl, Lib.hid (fun h => by cases h), M2⟩
      have hd2 : (x != 124) = true := by simpa using h124
      have H124 := Lib.hid h124; clear h124
      have HC2 := Lib.hid (HC1.out _ M2.out.pm)
      go_wp2_with fail
      refine HC2.out.mono ?_
      rintro e w3 ⟨rfl, b1⟩
      have M3 := Lib.hid (M2.out.after b1)
      clear b1 HC2 M2
      by_cases h41 : x = 41
      · subst h41
        go_wp2_with fail
        go_meet
        exact ⟨_, rfl, Lib.hid (fun _ => hin2.out), M3⟩
      have hd3 : (x == 41) = false := beq_eq_false_iff_ne.2 h41
      have H41 := Lib.hid h41; clear h41
      go_wp2_with fail
      go_meet
      exact ⟨_, rfl, Lib.hid (fun _ => hin2.out), M3⟩
    case rest =>
    obtain ⟨bq, rfl, hbq, M1⟩ := hcut
    clear hM HC1 hin
    cases bq with
    | false =>
      clear hbq HA HC
      have hv := vP_le hP.out.pos
      have HJ := Lib.hid (pjoin_sl 4 ts u5 (Up (w.heap.size + 1)) wc (by have := hP.out.len; omega) (by have := hP.out.sum; omega) M1.out.own.slAt hP.out.fine (Or.inl rfl))
      have hDw := M1.out.box.lt
      go_wp2_with fail
      refine HJ.out.mono ?_
      rintro e w1 ⟨tt, ds, rfl, hat, hf, b1⟩
      have M3 := Lib.hid (M1.out.after b1)
      have T3 := Lib.hid hat
      obtain ⟨a, c, e, _⟩ := hat.opens
      subst e
      clear b1 hat HJ
      go_wp2_with (refine wpList_store_row rfl 38 (.tmp 4) (.tmp 37) rfl w.heap.size (reC tt.k tt.f tt.lo tt.hi (.slice a tt.kids.length c)) rfl rfl 38 zeroR M3.out.box.row HI rfl (re_one _ _ _ _ _ _ _) ?_)
      refine bodyPost_ret (v := .agg (reC tt.k tt.f tt.lo tt.hi (.slice a tt.kids.length c))) (results_cell_row (by rfl) _ _ w.heap.size 38 _ (0, 0) _ (by rfl) (M3.out.box.setRow _).row Tryz.underlying38 (by rfl) HI) rfl ?_
      have hsum := hP.out.sum
      have hkd := hf.out.2
      refine ⟨tt, _, kk, bb, ee, rfl, (T3.out.setRowS (fun h => by rcases h with h | h; (· have h' : w.heap.size + 1 ≤ w.heap.size := h; omega); (· omega)) _).weakS fun j hj => ?_, Lib.hid ⟨hf.out.1, by omega, by have := hP.out.ge; omega, hP.out.pos⟩, M3.out.pm.setRow (by omega) _, M3.out.but.setRow (Nat.le_refl _) _⟩
      rcases hj with h | h
      · have h' : w.heap.size + 1 ≤ j := h
        show w.heap.size ≤ j
        omega
      · show w.heap.size ≤ j
        omega
    | true =>
      obtain ⟨he0, hkk⟩ := hbq.out rfl
      subst he0
      clear hbq HC
      have HC1 := Lib.hid (HA.out p s kk bb wc hkk hs M1.out.pm)
      go_wp2_with fail
      refine HC1.out.mono ?_
      rintro e w1 ⟨t, ds, k1, b1, e1, rfl, hat, hf, pm1, bu1⟩
      obtain ⟨f1, f2, f3, f4⟩ := hf.out
      have T1 := Lib.hid hat
      have PM1 := Lib.hid pm1
      have BU1 := Lib.hid bu1
      have hw1 := bu1.size
      have hx1 := M1.out.box.lt
      have hvl : Hid (∀ k, u5.ownBlock = some k → k < wc.heap.size) := Lib.hid fun k hk => (M1.out.own.row.lt k hk).2
      obtain ⟨a, c, e, _⟩ := hat.opens
      subst e
      clear bu1 pm1 hat HC1 hf
      simp only [reC]
      go_upto_region 4 with (fail)
      obtain ⟨V, hV, hY, hBV, hszV⟩ := re_box w1 (reC t.k t.f t.lo t.hi (.slice a t.kids.length c))
      change Code.wp _ _ _ _ (w1.alloc (Obj.cells (reC t.k t.f t.lo t.hi (.slice a t.kids.length c)) 38))
      rw [← hV]
      clear hV
      have hV1 : w1.heap.size < V.heap.size := hY.out.lt
      have TV : At V (fun j => wc.heap.size ≤ j ∧ j ≠ w1.heap.size) t (reC t.k t.f t.lo t.hi (.slice a t.kids.length c)) := (T1.out.inWorld.after hBV.out).weakS fun j hj => ⟨hj.1, by have := hj.2; omega⟩
      have HR := Lib.hid (preps_any (fun j => wc.heap.size ≤ j ∧ j ≠ w1.heap.size) deep p s k1 b1 e1 t _ V hdeep hs f4 (PM1.out.after hBV.out) TV (fun h => by have := h.1; omega) (by omega) f1)
      simp only [reC] at HR
      clear TV
      obtain ⟨d0, d1, d2, d3, d4, d5, d6, d7⟩ := eight_re hY.out.eight
      go_wp2_with fail
      refine HR.out.mono ?_
      rintro e w2 ⟨t2, ds2, k2, b2, e2, rfl, hat2, hf2, pm2, bu2⟩
      obtain ⟨g1, g2, g3, g4⟩ := hf2.out
      have T2 := Lib.hid hat2
      have PM2 := Lib.hid pm2
      have BU2 := Lib.hid ((BU1.out.then hBV.out).trans bu2)
      have Y2 := Lib.hid (hY.out.but bu2 (by omega))
      have hw2 := bu2.size
      obtain ⟨a2, c2, e, _⟩ := hat2.opens
      subst e
      clear hat2 pm2 bu2 HR hf2 d0 d1 d2 d3 d4 d5 d6 d7 hY hBV BU1 PM1 T1
      simp only [reC]
      go_upto_region 5 with (refine wpList_store_row rfl 38 (.tmp 6) (.tmp 31) rfl w1.heap.size (reC t2.k t2.f t2.lo t2.hi (.slice a2 t2.kids.length c2)) rfl rfl 38 (reC t.k t.f t.lo t.hi (.slice a t.kids.length c)) Y2.out.row HI rfl (re_one _ _ _ _ _ _ _) ?_)
      obtain ⟨w3, hw3, BU3, T3, PM3, Y3, hs3⟩ : ∃ w3, w3 = w2.setRow w1.heap.size (reC t2.k t2.f t2.lo t2.hi (.slice a2 t2.kids.length c2)) ∧ Hid (But p wc w3) ∧ Hid (At w3 (Up wc.heap.size) t2 (reC t2.k t2.f t2.lo t2.hi (.slice a2 t2.kids.length c2))) ∧ Hid (PM w3 p s k2 b2 e2) ∧ Hid (Box w3 w1.heap.size (reC t2.k t2.f t2.lo t2.hi (.slice a2 t2.kids.length c2))) ∧ Hid (w3.heap.size = w2.heap.size) :=
        ⟨_, rfl, Lib.hid (BU2.out.setRow hw1 _), Lib.hid ((T2.out.setRowS (fun h => by rcases h with h | h; (· exact h.2 rfl); (· omega)) _).weakS fun j hj => by
          rcases hj with h | h
          · exact h.1
          · show wc.heap.size ≤ j
            omega), Lib.hid (PM2.out.setRow (by omega) _), Lib.hid (Y2.out.setRow _), Lib.hid (by simp [World.setRow])⟩
      change Code.wp _ _ _ _ (w2.setRow w1.heap.size (reC t2.k t2.f t2.lo t2.hi (.slice a2 t2.kids.length c2)))
      rw [← hw3]
      clear hw3 BU2 T2 PM2 Y2
      have X1 := Lib.hid (M1.out.box.but BU3.out (by omega))
      have O1 := Lib.hid (M1.out.own.but BU3.out (by omega))
      have B1 := Lib.hid (M1.out.but.trans BU3.out)
      clear M1
      obtain ⟨d0, d1, d2, d3, d4, d5, d6, d7⟩ := eight_re Y3.out.eight
      have hbe := below_new w3 (.cells (reC t2.k t2.f t2.lo t2.hi (.slice a2 t2.kids.length c2)) 38)
      have hse : (w3.alloc (.cells (reC t2.k t2.f t2.lo t2.hi (.slice a2 t2.kids.length c2)) 38)).heap.size = w3.heap.size + 1 := World.size_alloc _ _
      have O2 := Lib.hid (O1.out.after hbe)
      have row5 : Hid ((w3.alloc (.cells (reC t2.k t2.f t2.lo t2.hi (.slice a2 t2.kids.length c2)) 38)).heap[w3.heap.size]? = some (.cells (reC t2.k t2.f t2.lo t2.hi (.slice a2 t2.kids.length c2)) 38 (0, 0))) := Lib.hid (heap_alloc_last w3 _)
      obtain ⟨i0, hi0', hz0, hz1, hz2⟩ := info_parts info_re3
      have hdl : Hid (ts.length + 1 ≤ 1000) := Lib.hid (by have := hP.out.len; have := vP_le hP.out.pos; omega)
      have BE := Lib.hid hbe
      clear hbe
      go_wp2_with (at_builtin; refine wpList_append_own_at _ rfl _ _ 36 rfl (w.heap.size + 1) 38 i0 (.agg #[.int .i64 0, .int .u64 0, .int .u64 0, .int .u64 0, .int .u64 0, .int .i64 0, .int .i64 0, .slice none 0 0]) 8 80 Tryz.underlying36 hi0' hz0 hz1 hz2 rfl (by decide) _ _ _ rfl O2.out.row ⟨w3.heap.size, 0, none⟩ 1 1 (reC t2.k t2.f t2.lo t2.hi (.slice a2 t2.kids.length c2)).toList rfl rfl ?c1 ?c2 ?c3 ?c4 ?c5 ?_)
      case c1 =>
        intro j u hj
        have e : (⟨w3.heap.size, 0, none⟩ : Addr).add j = ⟨w3.heap.size, j, none⟩ := by unfold Addr.add; split <;> simp_all
        first
          | (rw [e]; exact (cell_of_row _ _ j _ _ _ row5.out).trans (by simpa using hj))
          | simpa [reC] using hj
      case c2 =>
        intro u hu
        have h := re_one t2.k t2.f t2.lo t2.hi a2 t2.kids.length c2
        rw [Array.all_eq_true_iff_forall_mem] at h
        exact h u (by simpa using hu)
      case c3 => have := hdl.out; unfold maxLen; omega
      case c4 => have := hdl.out; omega
      case c5 => have := hs3.out; omega
      intro v' w4 hown' hgrow _ hwhere
      have hs3' := hs3.out
      have hgrow' : (w3.alloc (.cells (reC t2.k t2.f t2.lo t2.hi (.slice a2 t2.kids.length c2)) 38)).grownBy w4 _ := hgrow
      have hwhere' : v'.ownBlock = u5.ownBlock ∨ v'.ownBlock = some (w3.alloc (.cells (reC t2.k t2.f t2.lo t2.hi (.slice a2 t2.kids.length c2)) 38)).heap.size := hwhere.imp id (fun h => by rw [World.size_alloc]; exact h)
      have OW := Lib.hid (O2.out.snoc (T3.out.after BE.out) (by omega) hvl.out hown' hgrow' hwhere')
      have hng : ∀ k, k < w3.heap.size → (∀ j, u5.ownBlock = some j → j ≠ k) → w4.heap[k]? = w3.heap[k]? := fun k hk hne =>
        (hgrow'.block k (by omega) (fun e => hne k e.symm rfl)).trans (BE.out.block k hk)
      have hge3 : ∀ k, u5.ownBlock = some k → w.heap.size + 1 ≤ k := fun k hk => (O2.out.row.lt k hk).1
      have hBw4 : But p w w4 := ⟨hgrow'.os.trans (BE.out.os.trans B1.out.os), hgrow'.tape.trans (BE.out.tape.trans B1.out.tape), hgrow'.output.trans (BE.out.output.trans B1.out.output), Nat.le_trans B1.out.size (Nat.le_trans BE.out.size hgrow'.size), fun k hk hp =>
        (hng k (by omega) (fun j hj e => by have := hge3 j hj; omega)).trans (B1.out.block k hk hp)⟩
      have M4 : Hid (BrMP w4 w p s k2 b2 e2 v' (ts ++ [t2]) (fun j => if j = ts.length then reC t2.k t2.f t2.lo t2.hi (.slice a2 t2.kids.length c2) else cs j)) := Lib.hid ⟨⟨by
          rw [hng p (by omega) (fun j hj e => by have := hge3 j hj; omega)]; exact PM3.out.row⟩, ⟨by
          rw [hng _ (by omega) (fun j hj e => by have := hge3 j hj; omega)]; exact X1.out.row⟩, OW.out, hBw4⟩
      have P4 := Lib.hid (hP.out.more g1 (t := t2) (k2 := k2) (e2 := e2) (by omega) (by omega) g4)
      have hv2 := vP_le g4
      have hv0 : vP s kk 0 = kk := vP_ok _ _
      clear hown' hgrow hgrow' hwhere hwhere' hng hge3 hBw4 hs3'
      go_wp2_with fail
      go_roundg (s.size + 30 - vP s k2 e2)
      case measure => have := hq.out; omega
      case rel => exact ⟨ts ++ [t2], k2, b2, e2, _, Lib.hid rfl, P4, M4⟩
end Go.Proofs.YtimipfdknfdbdaaGreat

/- aukletref05.P.pattern at any text: a walk. -/
namespace Go.Proofs.YtimipfdknfdbdaaGreat
open Go.RowKit

theorem BrQ.next {s : ByteArray} {k deep kk x : Nat} {ts : List Tree} (h : BrQ s k deep kk 0 x ts) {t : Tree} {k2 : Nat} {e2 : Int} (ht : Fine (-1) t) (h1 : kk + 1 ≤ vP s k2 e2) (h2 : t.kids.length ≤ vP s k2 e2 - (kk + 1)) (h3 : PosOk s k2 e2 deep) : BrQ s k deep k2 e2 x (ts ++ [t]) :=
  h.more ht (by omega) (by omega) h3

set_option maxRecDepth 100000 in
set_option maxHeartbeats 4000000 in
theorem ppatternP (deep : Nat) (hBr : BranchesP deep) : PatsP deep := by
  intro p s k b w hk hs hm
  have HBr := Lib.hid hBr
  have HI := info_re
  have hlt := hm.lt
  have HC := Lib.hid (fun k b e V h => pc_any p s k b e V h)
  obtain ⟨W, hW, hX, hB, hsz⟩ := re_box w zeroR
  have R := Lib.hid (hm.after hB.out)
  have HC0 := Lib.hid (HBr.out p s k b W hk hs R.out)
  clear hBr hm
  go_enter Tryz.func45, Tryz.ntmps45
  go_upto_region 1 with (fail)
  change Code.wp _ _ _ _ (w.alloc (Obj.cells zeroR 38))
  rw [← hW]
  clear hW
  go_wp2_with fail
  refine HC0.out.mono ?_
  rintro e w1 ⟨t, ds, k1, b1, e1, rfl, hat, hf, pm1, bu1⟩
  obtain ⟨f1, f2, f3, f4⟩ := hf.out
  have X1 := Lib.hid (hX.out.but bu1 (by omega))
  have B1 := Lib.hid ((But.of hB.out).trans bu1)
  have R2 := Lib.hid pm1
  have T1 := Lib.hid hat
  have hw1 := bu1.size
  have hx1 := hX.out.lt
  obtain ⟨a, c, e, _⟩ := hat.opens
  subst e
  clear bu1 pm1 hat HC0 hf
  simp only [reC]
  go_wp2_with fail
  obtain ⟨U, hU, hY, hBU, hszU⟩ := re_box w1 (reC t.k t.f t.lo t.hi (.slice a t.kids.length c))
  change Code.wp _ _ _ _ (w1.alloc (Obj.cells (reC t.k t.f t.lo t.hi (.slice a t.kids.length c)) 38))
  have M0 : Hid (BrMP U w p s k1 b1 e1 (.slice (some ⟨w1.heap.size, 0, none⟩) 1 1) [t] (fun _ => reC t.k t.f t.lo t.hi (.slice a t.kids.length c))) := Lib.hid ⟨R2.out.after hBU.out, X1.out.after hBU.out, ⟨by
    rw [hU]
    exact World.ownsRow_lit w1 _ 1 (by omega) (by unfold maxLen; omega) rfl, fun j hj => by
    obtain rfl : j = 0 := by simp at hj; omega
    exact (T1.out.inWorld.after hBU.out).weakS fun b hb => ⟨by have h' : W.heap.size ≤ b := hb.1; omega, fun e => by have := hb.2; simp [Value.ownBlock] at e; omega⟩⟩, B1.out.then hBU.out⟩
  rw [← hU]
  clear hU
  have P0 : Hid (BrQ s k deep k1 e1 1 [t]) := Lib.hid (by
    refine ⟨fun u hu => by rw [List.mem_singleton.1 hu]; exact f1, ?_, ?_, by omega, f4⟩
    · show wide t + 0 ≤ _
      unfold wide
      omega
    · show 1 ≤ _
      omega)
  clear f1 f2 f3 f4 hY hBU hszU T1 X1 B1 R2 R hX hB hsz
  go_loopg [5] (s.size + 30 - vP s k1 e1) (fun q lv wr => ∃ (ts : List Tree) (kk : Nat) (bb ee : Int) (cs : Nat → Array Value), Hid (s.size + 30 - vP s kk ee = q) ∧ Hid (BrQ s k deep kk ee 1 ts) ∧ Hid (BrMP wr w p s kk bb ee lv ts cs))
  case atStart => exact ⟨[t], k1, b1, e1, _, Lib.hid rfl, P0, M0⟩
  case round =>
    clear M0 P0
    obtain ⟨ts, kk, bb, ee, cs, hq, hP, hM⟩ := hrel
    have HC1 := Lib.hid (HC.out kk bb ee wr hM.out.pm)
    have hin := Lib.hid (fun h => chP_in (s := s) (k := kk) (e := ee) h)
    obtain ⟨x, hx⟩ : ∃ x, x = chP s kk ee := ⟨_, rfl⟩
    rw [← hx] at HC1 hin
    clear hx
    go_wp2_with fail
    refine HC1.out.mono ?_
    rintro e wc ⟨rfl, b1⟩
    have M1 := Lib.hid (hM.out.after b1)
    clear b1 HC1 hM
    by_cases h124 : x = 124
    rotate_left
    · have hxb : (x == 124) = false := beq_eq_false_iff_ne.2 h124
      clear h124 hin HC
      have hv := vP_le hP.out.pos
      have HJ := Lib.hid (pjoin_sl 5 ts u5 (Up (w.heap.size + 1)) wc (by have := hP.out.len; omega) (by have := hP.out.sum; omega) M1.out.own.slAt hP.out.fine (Or.inr rfl))
      have hDw := M1.out.box.lt
      go_wp2_with fail
      refine HJ.out.mono ?_
      rintro e w1 ⟨tt, ds, rfl, hat, hf, b1⟩
      have M3 := Lib.hid (M1.out.after b1)
      have T3 := Lib.hid hat
      obtain ⟨a, c, e, _⟩ := hat.opens
      subst e
      clear b1 hat HJ
      go_wp2_with (refine wpList_store_row rfl 38 (.tmp 4) (.tmp 29) rfl w.heap.size (reC tt.k tt.f tt.lo tt.hi (.slice a tt.kids.length c)) rfl rfl 38 zeroR M3.out.box.row HI rfl (re_one _ _ _ _ _ _ _) ?_)
      refine bodyPost_ret (v := .agg (reC tt.k tt.f tt.lo tt.hi (.slice a tt.kids.length c))) (results_cell_row (by rfl) _ _ w.heap.size 38 _ (0, 0) _ (by rfl) (M3.out.box.setRow _).row Tryz.underlying38 (by rfl) HI) rfl ?_
      have hsum := hP.out.sum
      have hkd := hf.out.2
      refine ⟨tt, _, kk, bb, ee, rfl, (T3.out.setRowS (fun h => by rcases h with h | h; (· have h' : w.heap.size + 1 ≤ w.heap.size := h; omega); (· omega)) _).weakS fun j hj => ?_, Lib.hid ⟨hf.out.1, by omega, by have := hP.out.ge; omega, hP.out.pos⟩, M3.out.pm.setRow (by omega) _, M3.out.but.setRow (Nat.le_refl _) _⟩
      rcases hj with h | h
      · have h' : w.heap.size + 1 ≤ j := h
        show w.heap.size ≤ j
        omega
      · show w.heap.size ≤ j
        omega
    have hin2 : ee = 0 ∧ kk < s.size := by obtain ⟨h1, h2, _⟩ := hin.out (by omega); exact ⟨h1, h2⟩
    subst h124
    obtain ⟨he0, hkk⟩ := hin2
    subst he0
    clear hin HC
    have C1 := M1.out.pm.c1; have Z1 := M1.out.pm.z 1
    go_upto_region 4 with (fail)
    rw [show ((kk : Int) + 1) = ((kk + 1 : Nat) : Int) from by omega]
    obtain ⟨D, hD, MD⟩ : ∃ D, D = wc.setCell ⟨p, 1, none⟩ (.int .i64 ((kk + 1 : Nat) : Int)) ∧ Hid (BrMP D w p s (kk + 1) bb 0 u5 ts cs) :=
      ⟨_, rfl, Lib.hid ⟨M1.out.pm.put1 _, M1.out.box.but (but_put _ _ _ _) (by omega), M1.out.own.but (but_put _ _ _ _) (by omega), M1.out.but.put _ _⟩⟩
    rw [← hD]
    clear hD C1 Z1 M1
    have HC1 := Lib.hid (HBr.out p s (kk + 1) bb D hkk hs MD.out.pm)
    go_wp2_with fail
    refine HC1.out.mono ?_
    rintro e w1 ⟨t2, ds, k2, b2, e2, rfl, hat, hf, pm1, bu1⟩
    obtain ⟨g1, g2, g3, g4⟩ := hf.out
    have T1 := Lib.hid hat
    have hw1 := bu1.size
    have hx1 := MD.out.box.lt
    have hvl : Hid (∀ k, u5.ownBlock = some k → k < D.heap.size) := Lib.hid fun k hk => (MD.out.own.row.lt k hk).2
    have X0 := Lib.hid (MD.out.box.but bu1 (by omega))
    have O0 := Lib.hid (MD.out.own.but bu1 (by omega))
    have B0 := Lib.hid (MD.out.but.trans bu1)
    have PM0 := Lib.hid pm1
    obtain ⟨a2, c2, e, _⟩ := hat.opens
    subst e
    clear bu1 pm1 hat HC1 hf
    simp only [reC]
    go_upto_region 5 with (fail)
    obtain ⟨w3, hw3, hY, hBV, hs3⟩ := re_box w1 (reC t2.k t2.f t2.lo t2.hi (.slice a2 t2.kids.length c2))
    change Code.wp _ _ _ _ (w1.alloc (Obj.cells (reC t2.k t2.f t2.lo t2.hi (.slice a2 t2.kids.length c2)) 38))
    rw [← hw3]
    clear hw3
    have Y3 := hY
    have T3 : Hid (At w3 (Up D.heap.size) t2 (reC t2.k t2.f t2.lo t2.hi (.slice a2 t2.kids.length c2))) := Lib.hid (T1.out.after hBV.out)
    have PM3 := Lib.hid (PM0.out.after hBV.out)
    have X1 := Lib.hid (X0.out.after hBV.out)
    have O1 := Lib.hid (O0.out.after hBV.out)
    have B1 := Lib.hid (B0.out.then hBV.out)
    clear hBV hY X0 O0 B0 PM0 T1 MD
    obtain ⟨d0, d1, d2, d3, d4, d5, d6, d7⟩ := eight_re Y3.out.eight
    have hbe := below_new w3 (.cells (reC t2.k t2.f t2.lo t2.hi (.slice a2 t2.kids.length c2)) 38)
    have hse : (w3.alloc (.cells (reC t2.k t2.f t2.lo t2.hi (.slice a2 t2.kids.length c2)) 38)).heap.size = w3.heap.size + 1 := World.size_alloc _ _
    have O2 := Lib.hid (O1.out.after hbe)
    have row5 : Hid ((w3.alloc (.cells (reC t2.k t2.f t2.lo t2.hi (.slice a2 t2.kids.length c2)) 38)).heap[w3.heap.size]? = some (.cells (reC t2.k t2.f t2.lo t2.hi (.slice a2 t2.kids.length c2)) 38 (0, 0))) := Lib.hid (heap_alloc_last w3 _)
    obtain ⟨i0, hi0', hz0, hz1, hz2⟩ := info_parts info_re3
    have hdl : Hid (ts.length + 1 ≤ 1000) := Lib.hid (by have := hP.out.len; have := vP_le hP.out.pos; omega)
    have BE := Lib.hid hbe
    clear hbe
    go_wp2_with (at_builtin; refine wpList_append_own_at _ rfl _ _ 36 rfl (w.heap.size + 1) 38 i0 (.agg #[.int .i64 0, .int .u64 0, .int .u64 0, .int .u64 0, .int .u64 0, .int .i64 0, .int .i64 0, .slice none 0 0]) 8 80 Tryz.underlying36 hi0' hz0 hz1 hz2 rfl (by decide) _ _ _ rfl O2.out.row ⟨w3.heap.size, 0, none⟩ 1 1 (reC t2.k t2.f t2.lo t2.hi (.slice a2 t2.kids.length c2)).toList rfl rfl ?c1 ?c2 ?c3 ?c4 ?c5 ?_)
    case c1 =>
      intro j u hj
      have e : (⟨w3.heap.size, 0, none⟩ : Addr).add j = ⟨w3.heap.size, j, none⟩ := by unfold Addr.add; split <;> simp_all
      first
        | (rw [e]; exact (cell_of_row _ _ j _ _ _ row5.out).trans (by simpa using hj))
        | simpa [reC] using hj
    case c2 =>
      intro u hu
      have h := re_one t2.k t2.f t2.lo t2.hi a2 t2.kids.length c2
      rw [Array.all_eq_true_iff_forall_mem] at h
      exact h u (by simpa using hu)
    case c3 => have := hdl.out; unfold maxLen; omega
    case c4 => have := hdl.out; omega
    case c5 => rw [World.size_alloc]; have := hs3.out; omega
    intro v' w4 hown' hgrow _ hwhere
    have hs3' := hs3.out
    have hgrow' : (w3.alloc (.cells (reC t2.k t2.f t2.lo t2.hi (.slice a2 t2.kids.length c2)) 38)).grownBy w4 _ := hgrow
    have hwhere' : v'.ownBlock = u5.ownBlock ∨ v'.ownBlock = some (w3.alloc (.cells (reC t2.k t2.f t2.lo t2.hi (.slice a2 t2.kids.length c2)) 38)).heap.size := hwhere.imp id (fun h => by rw [World.size_alloc]; exact h)
    have OW := Lib.hid (O2.out.snoc (T3.out.after BE.out) (by omega) hvl.out hown' hgrow' hwhere')
    have hng : ∀ k, k < w3.heap.size → (∀ j, u5.ownBlock = some j → j ≠ k) → w4.heap[k]? = w3.heap[k]? := fun k hk hne =>
      (hgrow'.block k (by omega) (fun e => hne k e.symm rfl)).trans (BE.out.block k hk)
    have hge3 : ∀ k, u5.ownBlock = some k → w.heap.size + 1 ≤ k := fun k hk => (O2.out.row.lt k hk).1
    have hBw4 : But p w w4 := ⟨hgrow'.os.trans (BE.out.os.trans B1.out.os), hgrow'.tape.trans (BE.out.tape.trans B1.out.tape), hgrow'.output.trans (BE.out.output.trans B1.out.output), Nat.le_trans B1.out.size (Nat.le_trans BE.out.size hgrow'.size), fun k hk hp =>
      (hng k (by omega) (fun j hj e => by have := hge3 j hj; omega)).trans (B1.out.block k hk hp)⟩
    have M4 : Hid (BrMP w4 w p s k2 b2 e2 v' (ts ++ [t2]) (fun j => if j = ts.length then reC t2.k t2.f t2.lo t2.hi (.slice a2 t2.kids.length c2) else cs j)) := Lib.hid ⟨⟨by
        rw [hng p (by omega) (fun j hj e => by have := hge3 j hj; omega)]; exact PM3.out.row⟩, ⟨by
        rw [hng _ (by omega) (fun j hj e => by have := hge3 j hj; omega)]; exact X1.out.row⟩, OW.out, hBw4⟩
    have P4 := Lib.hid (hP.out.next g1 (t := t2) (k2 := k2) (e2 := e2) (by omega) (by omega) g4)
    have hv2 := vP_le g4
    have hv0 : vP s kk 0 = kk := vP_ok _ _
    clear hown' hgrow hgrow' hwhere hwhere' hng hge3 hBw4 hs3'
    go_wp2_with fail
    go_roundg (s.size + 30 - vP s k2 e2)
    case measure => have := hq.out; omega
    case rel => exact ⟨ts ++ [t2], k2, b2, e2, _, Lib.hid rfl, P4, M4⟩

theorem ppat_any (n : Nat) : ∀ deep, deep + n = 20 → PatsP deep := by
  induction n with
  | zero => intro deep h; exact ppatternP deep (pbranchP deep (by omega) (patomP deep (by omega) (fun h2 => by omega)))
  | succ n ih => intro deep h; exact ppatternP deep (pbranchP deep (by omega) (patomP deep (by omega) (fun _ => ih (deep + 1) (by omega))))
end Go.Proofs.YtimipfdknfdbdaaGreat
