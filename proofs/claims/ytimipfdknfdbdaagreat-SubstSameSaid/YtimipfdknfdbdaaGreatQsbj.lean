/- Merged by program: ReadC, PReps. -/
import Derived.Deep.LoopGhost
import Derived.Deep.CutBlock
import Derived.Test.YtimipfdknfdbdaaGreatQsbi
import Derived.Test.YtimipfdknfdbdaaGreatQsbg
/- reader.piece at any text: a walk. -/
namespace Go.Proofs.YtimipfdknfdbdaaGreat
open Go.RowKit

/-- All blocks from C on but one. -/
def UpBut (C g : Nat) : Nat → Prop := fun b => C ≤ b ∧ b ≠ g
theorem comesB_lt {s : ByteArray} {k : Nat} {l : List UInt8} (h : comesB s k l = true) : k < s.size := by
  unfold comesB at h
  rcases Nat.lt_or_ge k s.size with h' | h'
  · exact h'
  · rw [List.getElem?_eq_none (by simpa using h')] at h
    cases h
theorem fine_rep {t : Tree} (h : Fine (-1) t) {lo hi : Int} (ho : OkTimes (lo, hi)) : Fine (-1) (.mk 6 zero4 lo hi [t]) := by
  refine .mk _ _ ⟨fits_zero, by show (0 : Int) ≤ 6; decide, by show (6 : Int) ≤ 6; decide, fun _ _ _ => rfl, fun h => absurd rfl h, fun h => ?_, fun _ => by decide, fun h => ?_, fun _ => ⟨rfl, ho.1, ho.2.1, ho.2.2⟩, by show 1 ≤ 1000000; decide⟩ (fun c hc => ?_)
  · have h' : (6 : Int) < 4 := h; omega
  · have h' : (6 : Int) = 4 ∨ (6 : Int) = 5 := h; omega
  · rw [List.mem_singleton.1 hc]
    refine h.to 6 (fun _ => by decide) ?_
    by_cases e : t.k = 6
    · exact Or.inr ⟨by omega, by omega⟩
    · exact Or.inl e

def AtomsA (d : Nat) : Prop := ∀ (p : Nat) (s : ByteArray) (k : Nat) (w : World), k < s.size → s.size ≤ 400 → RdX w p s k d → Calls Tryz.prog 61 #[.pointer (some ⟨p, 0, none⟩)] w (ReadA 1 0 p s k d w)
def PiecesA (d : Nat) : Prop := ∀ (p : Nat) (s : ByteArray) (k : Nat) (w : World), k < s.size → s.size ≤ 400 → RdX w p s k d → Calls Tryz.prog 49 #[.pointer (some ⟨p, 0, none⟩)] w (ReadA 1 0 p s k d w)

/-- Where the reading of a piece stands. -/
structure PcI (wr w : World) (W1 U1 p : Nat) (s : ByteArray) (k kk d : Nat) (t : Tree) (cs : Array Value) : Prop where
  rd : RdX wr p s kk d
  box : Box wr w.heap.size zeroR
  cur : Box wr U1 cs
  at_ : At wr (UpBut W1 U1) t cs
  but : But p w wr
  fine : Fine (-1) t
  kids : t.kids.length ≤ kk - k
  ge : k + 1 ≤ kk
  le : kk ≤ s.size

set_option maxRecDepth 100000 in
set_option maxHeartbeats 2000000 in
theorem pieceA (d : Nat) (hA : AtomsA d) : PiecesA d := by
  intro p s k w hk hs hx
  have HA := Lib.hid hA
  have HI := info_re
  have hlt := hx.r.lt
  have HX := Lib.hid hx
  clear hA hx
  go_enter Tryz.func49, Tryz.ntmps49
  go_upto_region 1 with (fail)
  obtain ⟨W, hW, hX, hB, hsz⟩ := re_box w zeroR
  change Code.wp _ _ _ _ (w.alloc (Obj.cells zeroR 38))
  rw [← hW]
  clear hW
  have R := Lib.hid (HX.out.after hB.out)
  have HC := Lib.hid (HA.out p s k W hk hs R.out)
  clear HA
  go_wp2_with fail
  refine HC.out.mono ?_
  rintro e w1 (⟨t0, cs, k1, rfl, hat, hf, R1, b1⟩ | hfell)
  rotate_left
  · obtain ⟨a, x, hx0, rfl, b1⟩ := hfell
    have B2 := Lib.hid ((But.of hB.out).trans b1)
    have HX0 := Lib.hid hx0
    clear b1 hx0
    go_wp2_with fail
    exact ⟨rfl, Or.inr ⟨a, x, HX0.out, rfl, B2.out⟩⟩
  have X1 := Lib.hid (hX.out.but b1 (by omega))
  have R2 := Lib.hid (R.out.go b1 R1)
  have B1 := Lib.hid ((But.of hB.out).trans b1)
  have hg : w.heap.size < W.heap.size := hX.out.lt
  have hW1 := b1.size
  have T := Lib.hid hat
  obtain ⟨a0, c0, rfl, _⟩ := hat.opens
  clear b1 R1 hat HC
  simp only [reC]
  go_wp2_with fail
  obtain ⟨U, hU, hY, hBU, _⟩ := re_box w1 (reC t0.k t0.f t0.lo t0.hi (.slice a0 t0.kids.length c0))
  change Code.wp _ _ _ _ (w1.alloc (Obj.cells (reC t0.k t0.f t0.lo t0.hi (.slice a0 t0.kids.length c0)) 38))
  rw [← hU]
  clear hU
  have S0 : Hid (PcI U w W.heap.size w1.heap.size p s k k1 d t0 (reC t0.k t0.f t0.lo t0.hi (.slice a0 t0.kids.length c0))) :=
    Lib.hid ⟨R2.out.after hBU.out, X1.out.after hBU.out, hY.out, (T.out.inWorld.after hBU.out).weakS fun b hb => ⟨hb.1, by have := hb.2; omega⟩, B1.out.then hBU.out, hf.out.1, hf.out.2.1, hf.out.2.2.1, hf.out.2.2.2⟩
  go_loopg [9] (s.size - k1) (fun q _ wr => ∃ (t : Tree) (kk : Nat) (cs : Array Value), Hid (s.size - kk = q) ∧ Hid (PcI wr w W.heap.size w1.heap.size p s k kk d t cs))
  case atStart => exact ⟨t0, k1, _, Lib.hid rfl, S0⟩
  case round =>
    obtain ⟨t, kk, cs, hq, hM⟩ := hrel
    obtain ⟨a1, c1, e, _⟩ := hM.out.at_.opens
    subst e
    have HC := Lib.hid (comes_spec p s ⟨#[42, 43, 63, 123]⟩ kk d wr hM.out.rd.r hM.out.le)
    obtain ⟨b, hb⟩ : ∃ b, b = comesB s kk (⟨#[42, 43, 63, 123]⟩ : ByteArray).data.toList := ⟨_, rfl⟩
    rw [← hb] at HC
    have HBt : Hid (b = true → kk < s.size) := Lib.hid (fun e => comesB_lt (hb.symm.trans e))
    clear hb
    go_wp2_with fail
    refine HC.out.mono ?_
    rintro e w2 ⟨rfl, q2, hq2⟩
    have bE : Below wr.heap.size wr w2 := by rw [hq2]; exact drewN_below wr q2
    clear hq2
    have X2 := Lib.hid (hM.out.box.after bE)
    have Y2 := Lib.hid (hM.out.cur.after bE)
    have R3 := Lib.hid (hM.out.rd.after bE)
    have B3 := Lib.hid (hM.out.but.then bE)
    have T3 := Lib.hid (hM.out.at_.after bE)
    have hw2 := bE.size
    have hy2 := hM.out.cur.lt
    clear bE
    cases b with
    | false =>
      obtain ⟨d0, d1, d2, d3, d4, d5, d6, d7⟩ := eight_re Y2.out.eight
      go_wp2_with (refine wpList_store_row rfl 38 (.tmp 2) (.tmp 20) rfl w.heap.size (reC t.k t.f t.lo t.hi (.slice a1 t.kids.length c1)) rfl rfl 38 zeroR X2.out.row HI rfl (re_one _ _ _ _ _ _ _) ?_)
      refine bodyPost_ret (v := .agg (reC t.k t.f t.lo t.hi (.slice a1 t.kids.length c1))) (results_cell_row (by rfl) _ _ w.heap.size 38 _ (0, 0) _ (by rfl) (X2.out.setRow _).row Tryz.underlying38 (by rfl) HI) rfl ?_
      exact Or.inl ⟨t, _, kk, rfl, (T3.out.setRowS (fun h => by have := h.1; omega) _).weakS (fun b hb => by have := hb.1; unfold Up; omega), Lib.hid ⟨hM.out.fine, hM.out.kids, hM.out.ge, hM.out.le⟩, R3.out.r.setRow (by omega) _, B3.out.setRow (Nat.le_refl _) _⟩
    | true =>
      have hkk := HBt.out rfl
      have HT := Lib.hid (timesA p s kk d w2 hkk hs R3.out)
      go_wp2_with fail
      refine HT.out.mono ?_
      rintro e w3 (⟨lo, hi, k3, rfl, ho, R4, b4⟩ | hfell)
      rotate_left
      · obtain ⟨a, x, hx0, rfl, b4⟩ := hfell
        have B5 := Lib.hid (B3.out.trans b4)
        have HX0 := Lib.hid hx0
        clear b4 hx0
        go_wp2_with fail
        exact ⟨rfl, Or.inr ⟨a, x, HX0.out, rfl, B5.out⟩⟩
      have X4 := Lib.hid (X2.out.but b4 (by omega))
      have Y4 := Lib.hid (Y2.out.but b4 (by omega))
      have R5 := Lib.hid (R3.out.go b4 R4)
      have B5 := Lib.hid (B3.out.trans b4)
      have T5 := Lib.hid (T3.out.butS b4 (fun h => by have := h.1; omega))
      have hw3 := b4.size
      clear b4 R4 HT
      obtain ⟨d0, d1, d2, d3, d4, d5, d6, d7⟩ := eight_re Y4.out.eight
      have YA := Lib.hid (Y4.out.after (below_new w3 (.cells (reC t.k t.f t.lo t.hi (.slice a1 t.kids.length c1)) 38)))
      have hw4 : (w3.alloc (.cells (reC t.k t.f t.lo t.hi (.slice a1 t.kids.length c1)) 38)).heap.size = w3.heap.size + 1 := World.size_alloc _ _
      go_wp2_with (refine wpList_store_row rfl 38 (.tmp 3) (.tmp 19) rfl w1.heap.size (reC 6 zero4 lo hi (.slice (some ⟨w3.heap.size, 0, none⟩) 1 1)) rfl rfl 38 (reC t.k t.f t.lo t.hi (.slice a1 t.kids.length c1)) YA.out.row HI rfl (re_one _ _ _ _ _ _ _) ?_)
      have bA := below_new w3 (.cells (reC t.k t.f t.lo t.hi (.slice a1 t.kids.length c1)) 38)
      go_roundg (s.size - k3)
      case measure => have := ho.out.2.1; have := hq.out; omega
      case rel =>
        have h1 := ho.out.2.1
        have h2 := hM.out.ge
        have hr : Rdr ((w3.alloc (.cells (reC t.k t.f t.lo t.hi (.slice a1 t.kids.length c1)) 38)).setRow w1.heap.size (reC 6 zero4 lo hi (.slice (some ⟨w3.heap.size, 0, none⟩) 1 1))) p s k3 d := (R5.out.r.after bA).setRow (by omega) _
        have hbw := (B5.out.then bA).setRow (g := w1.heap.size) (by omega) (reC 6 zero4 lo hi (.slice (some ⟨w3.heap.size, 0, none⟩) 1 1))
        refine ⟨.mk 6 zero4 lo hi [t], k3, _, Lib.hid rfl, Lib.hid ⟨HX.out.go hbw hr, ⟨by rw [Go.setRow_other _ _ _ _ (by omega)]; exact (X4.out.after bA).row⟩, YA.out.setRow _, ?_, hbw, fine_rep hM.out.fine ho.out.1, by show 1 ≤ _; omega, by omega, ho.out.2.2⟩⟩
        refine .node 6 zero4 lo hi [t] w3.heap.size 0 1 (fun _ => reC t.k t.f t.lo t.hi (.slice a1 t.kids.length c1)) (by simp) (Nat.le_refl _) ⟨by omega, by omega⟩ (fun i hi => ?_) (fun i hi => ?_)
        · obtain rfl : i = 0 := by simp at hi; omega
          exact (box_new w3 _).eight.keep (Go.setRow_other _ _ _ _ (by omega))
        · obtain rfl : i = 0 := by simp at hi; omega
          exact (T5.out.after bA).setRowS (fun h => h.2 rfl) _
end Go.Proofs.YtimipfdknfdbdaaGreat

/- aukletref05.P.reps at any text and tree: a walk. -/
namespace Go.Proofs.YtimipfdknfdbdaaGreat
open Go.RowKit

/-- How far a reading came: its place, or beyond all where a fault was told. -/
def vP (s : ByteArray) (k : Nat) (e : Int) : Nat := if e = 0 then k else s.size + 30
/-- Where a reader may stand. -/
structure PosOk (s : ByteArray) (k : Nat) (e : Int) (deep : Nat) : Prop where
  ok : e = 0 → k ≤ s.size
  bad : e ≠ 0 → k + deep ≤ s.size + 21
/-- Blocks of S, and all from g on, but two. -/
def UpTwo (S : Nat → Prop) (g h : Nat) : Nat → Prop := fun b => (S b ∨ g ≤ b) ∧ b ≠ g ∧ b ≠ h
/-- What reps tells. -/
def RepsOut (S : Nat → Prop) (deep : Nat) (p : Nat) (s : ByteArray) (k : Nat) (e : Int) (n : Nat) (w : World) (en : Ending) (w' : World) : Prop :=
  ∃ t cs k' b' e', en = .returned (.agg cs) ∧ At w' (fun j => S j ∨ w.heap.size ≤ j) t cs ∧ Hid (Fine (-1) t ∧ t.kids.length ≤ max n 1 ∧ vP s k e ≤ vP s k' e' ∧ PosOk s k' e' deep) ∧ PM w' p s k' b' e' ∧ But p w w'
/-- Where reps stands. -/
structure RpI (wr w : World) (S : Nat → Prop) (p : Nat) (s : ByteArray) (k kk : Nat) (e0 b e : Int) (deep n : Nat) (t : Tree) (cs : Array Value) : Prop where
  pm : PM wr p s kk b e
  pos : PosOk s kk e deep
  box : Box wr (w.heap.size + 1) zeroR
  cur : Box wr w.heap.size cs
  at_ : At wr (UpTwo S w.heap.size (w.heap.size + 1)) t cs
  but : But p w wr
  fine : Fine (-1) t
  kids : t.kids.length ≤ max n 1
  ge : vP s k e0 ≤ vP s kk e

theorem RpI.after {wr w V : World} {S : Nat → Prop} {p : Nat} {s : ByteArray} {k kk : Nat} {e0 b e : Int} {deep n : Nat} {t : Tree} {cs : Array Value} (h : RpI wr w S p s k kk e0 b e deep n t cs) (hb : Below wr.heap.size wr V) : RpI V w S p s k kk e0 b e deep n t cs :=
  ⟨h.pm.after hb, h.pos, h.box.after hb, h.cur.after hb, h.at_.after hb, h.but.then hb, h.fine, h.kids, h.ge⟩
theorem RpI.go {wr w V : World} {S : Nat → Prop} {p : Nat} {s : ByteArray} {k kk kk' : Nat} {e0 b e b' e' : Int} {deep n : Nat} {t : Tree} {cs : Array Value} (h : RpI wr w S p s k kk e0 b e deep n t cs) (hpC : ¬ S p) (hC : p < w.heap.size) (hb : But p wr V) (hm : PM V p s kk' b' e') (hp : PosOk s kk' e' deep) (hge : vP s kk e ≤ vP s kk' e') : RpI V w S p s k kk' e0 b' e' deep n t cs :=
  ⟨hm, hp, h.box.but hb (by omega), h.cur.but hb (by omega), h.at_.butS hb (fun hh => by rcases hh.1 with h1 | h1; (· exact hpC h1); (· omega)), h.but.trans hb, h.fine, h.kids, Nat.le_trans h.ge hge⟩
theorem RpI.next {wr w : World} {S : Nat → Prop} {p : Nat} {s : ByteArray} {k kk : Nat} {e0 b : Int} {deep n : Nat} {t : Tree} {cs : Array Value} (h : RpI wr w S p s k kk e0 b 0 deep n t cs) (hpC : ¬ S p) (hC : p < w.heap.size) (hk : kk < s.size) : RpI (wr.setCell ⟨p, 1, none⟩ (.int .i64 ((kk + 1 : Nat) : Int))) w S p s k (kk + 1) e0 b 0 deep n t cs :=
  h.go hpC hC (but_put _ _ _ _) (h.pm.put1 _) ⟨fun _ => hk, fun h => absurd rfl h⟩ (by unfold vP; rw [if_pos rfl, if_pos rfl]; omega)
theorem RpI.done {wr w : World} {S : Nat → Prop} {p : Nat} {s : ByteArray} {k kk : Nat} {e0 b e : Int} {deep n : Nat} {t : Tree} {cs : Array Value} (h : RpI wr w S p s k kk e0 b e deep n t cs) (hC : p < w.heap.size) (ds : Array Value) : RepsOut S deep p s k e0 n w (.returned (.agg cs)) (wr.setRow (w.heap.size + 1) ds) :=
  ⟨t, cs, kk, b, e, rfl, (h.at_.setRowS (fun hh => hh.2.2 rfl) _).weakS (fun b hb => hb.1), Lib.hid ⟨h.fine, h.kids, h.ge, h.pos⟩, h.pm.setRow (by omega) _, h.but.setRow (by omega) _⟩

set_option maxRecDepth 100000 in
set_option maxHeartbeats 2000000 in
theorem preps_any (S : Nat → Prop) (deep p : Nat) (s : ByteArray) (k : Nat) (b e : Int) (t : Tree) (cs : Array Value) (w : World) (hdeep : deep ≤ 20) (hs : s.size ≤ 400) (hp : PosOk s k e deep) (hm : PM w p s k b e) (hat : At w S t cs) (hpC : ¬ S p) (hC : p < w.heap.size) (hF : Fine (-1) t) :
    Calls Tryz.prog 71 #[.pointer (some ⟨p, 0, none⟩), .agg cs] w (RepsOut S deep p s k e t.kids.length w) := by
  have HI := info_re
  have HC := Lib.hid (fun k b e V h => pc_any p s k b e V h)
  have hlt := hm.lt
  obtain ⟨a0, c0, rfl, _⟩ := hat.opens
  obtain ⟨W, hW, hX, hB, hsz⟩ := re_box w (reC t.k t.f t.lo t.hi (.slice a0 t.kids.length c0))
  obtain ⟨U, hU, hY, hBU, hszU⟩ := re_box W zeroR
  have S0 : Hid (RpI U w S p s k k e b e deep t.kids.length t (reC t.k t.f t.lo t.hi (.slice a0 t.kids.length c0))) :=
    Lib.hid ⟨(hm.after hB.out).after hBU.out, hp, by have h := hY.out; rw [hsz.out] at h; exact h, hX.out.after hBU.out, ((hat.inWorld.after hB.out).after hBU.out).weakS fun b hb => ⟨Or.inl hb.1, by have := hb.2; omega, by have := hb.2; omega⟩, (But.of hB.out).then hBU.out, hF, Nat.le_max_left _ _, Nat.le_refl _⟩
  clear hm hat hF hp
  simp only [reC]
  go_enter Tryz.func71, Tryz.ntmps71
  go_wp2_with fail
  change Code.wp _ _ _ _ ((w.alloc (Obj.cells (reC t.k t.f t.lo t.hi (Value.slice a0 t.kids.length c0)) 38)).alloc (Obj.cells zeroR 38))
  rw [← hW, ← hU]
  clear hW hU hX hB hsz hY hBU hszU
  go_loopg [5, 6, 7] (s.size + 30 - vP s k e) (fun q _ _ _ wr => ∃ (tt : Tree) (kk : Nat) (bb ee : Int) (cc : Array Value), Hid (s.size + 30 - vP s kk ee = q) ∧ Hid (RpI wr w S p s k kk e bb ee deep t.kids.length tt cc))
  case atStart => exact ⟨t, k, b, e, _, Lib.hid rfl, S0⟩
  case round =>
    clear S0
    obtain ⟨tt, kk, bb, ee, cc, hq, hM⟩ := hrel
    obtain ⟨a1, c1, ecc, _⟩ := hM.out.at_.opens
    subst ecc
    have C1 := hM.out.pm.c1
    have HC1 := Lib.hid (HC.out kk bb ee wr hM.out.pm)
    have hin := Lib.hid (fun h => chP_in (s := s) (k := kk) (e := ee) h)
    obtain ⟨x, hx⟩ : ∃ x, x = chP s kk ee := ⟨_, rfl⟩
    rw [← hx] at HC1 hin
    clear hx
    go_wp2_with fail
    refine HC1.out.mono ?_
    rintro e w1 ⟨rfl, b1⟩
    have M1 := Lib.hid (hM.out.after b1)
    clear HC1 C1 hM b1
    go_upto_block 2 with fail
    go_cut [6, 7] from 8 to 98 (fun y z wx => ∃ (lo hi : Int) (k3 : Nat), y = .int .i64 lo ∧ z = .int .i64 hi ∧ Hid (OkTimes (lo, hi) ∧ ee = 0 ∧ kk < k3 ∧ k3 ≤ s.size) ∧ Hid (RpI wx w S p s k k3 e bb 0 deep t.kids.length tt (reC tt.k tt.f tt.lo tt.hi (.slice a1 tt.kids.length c1))))
    case first =>
      by_cases hx0 : x < 0
      · have n1 : (x == 42) = false := beq_eq_false_iff_ne.2 (by omega)
        have n2 : (x == 43) = false := beq_eq_false_iff_ne.2 (by omega)
        have n3 : (x == 63) = false := beq_eq_false_iff_ne.2 (by omega)
        have n4 : (x == 123) = false := beq_eq_false_iff_ne.2 (by omega)
        obtain ⟨d0, d1, d2, d3, d4, d5, d6, d7⟩ := eight_re M1.out.cur.eight
        go_wp2_with (refine wpList_store_row rfl 38 (.tmp 4) (.tmp 14) rfl (w.heap.size + 1) (reC tt.k tt.f tt.lo tt.hi (.slice a1 tt.kids.length c1)) rfl rfl 38 zeroR M1.out.box.row HI rfl (re_one _ _ _ _ _ _ _) ?_)
        refine bodyPost_ret (v := .agg (reC tt.k tt.f tt.lo tt.hi (.slice a1 tt.kids.length c1))) (results_cell_row (by rfl) _ _ (w.heap.size + 1) 38 _ (0, 0) _ (by rfl) (M1.out.box.setRow _).row Tryz.underlying38 (by rfl) HI) rfl ?_
        exact M1.out.done hC _
      obtain ⟨he0, hkk, _⟩ := hin.out (by omega)
      subst he0
      have hee : Hid (True) := Lib.hid trivial
      have C1 := M1.out.pm.c1
      have Z1 := M1.out.pm.z 1
      have e1 : ((kk : Int) + 1) = ((kk + 1 : Nat) : Int) := by omega
      have M2 := Lib.hid (M1.out.next hpC hC hkk)
      rw [← e1] at M2
      clear hin hx0 e1 hee
      by_cases h1 : x = 42
      · subst h1
        go_wp2_with fail
        go_meet
        exact ⟨0, -1, kk + 1, rfl, rfl, Lib.hid ⟨⟨by decide, by decide, Or.inl rfl⟩, trivial, by omega, by omega⟩, M2⟩
      have n1 : (x == 42) = false := beq_eq_false_iff_ne.2 h1
      clear h1
      by_cases h1 : x = 43
      · subst h1
        go_wp2_with fail
        go_meet
        exact ⟨1, -1, kk + 1, rfl, rfl, Lib.hid ⟨⟨by decide, by decide, Or.inl rfl⟩, trivial, by omega, by omega⟩, M2⟩
      have n2 : (x == 43) = false := beq_eq_false_iff_ne.2 h1
      clear h1
      by_cases h1 : x = 63
      · subst h1
        go_wp2_with fail
        go_meet
        exact ⟨0, 1, kk + 1, rfl, rfl, Lib.hid ⟨⟨by decide, by decide, Or.inr ⟨by decide, by decide⟩⟩, trivial, by omega, by omega⟩, M2⟩
      have n3 : (x == 63) = false := beq_eq_false_iff_ne.2 h1
      clear h1
      by_cases h1 : x = 123
      rotate_left
      · have n4 : (x == 123) = false := beq_eq_false_iff_ne.2 h1
        clear h1 M2
        obtain ⟨d0, d1, d2, d3, d4, d5, d6, d7⟩ := eight_re M1.out.cur.eight
        go_wp2_with (refine wpList_store_row rfl 38 (.tmp 4) (.tmp 14) rfl (w.heap.size + 1) (reC tt.k tt.f tt.lo tt.hi (.slice a1 tt.kids.length c1)) rfl rfl 38 zeroR M1.out.box.row HI rfl (re_one _ _ _ _ _ _ _) ?_)
        refine bodyPost_ret (v := .agg (reC tt.k tt.f tt.lo tt.hi (.slice a1 tt.kids.length c1))) (results_cell_row (by rfl) _ _ (w.heap.size + 1) 38 _ (0, 0) _ (by rfl) (M1.out.box.setRow _).row Tryz.underlying38 (by rfl) HI) rfl ?_
        exact M1.out.done hC _
      subst h1
      clear n1 n2 n3
      have HN := Lib.hid (pnum_any p s (kk + 1) bb _ M2.out.pm hkk hs)
      go_wp2_with fail
      refine HN.out.mono ?_
      rintro e w2 ⟨lo, k2, rfl, hlo, pm2, b2⟩
      obtain ⟨l1, l2, l3, l4⟩ := hlo.out
      have M3 := Lib.hid (M2.out.go hpC hC b2 pm2 ⟨fun _ => l4, fun h => absurd rfl h⟩ (by unfold vP; rw [if_pos rfl, if_pos rfl]; exact l3))
      clear HN C1 Z1 M1 M2 hlo b2 pm2
      have HC1 := Lib.hid (fun V h => HC.out k2 bb 0 V h)
      have hin := Lib.hid (fun h => chP_in (s := s) (k := k2) (e := 0) h)
      obtain ⟨x, hx⟩ : ∃ x, x = chP s k2 0 := ⟨_, rfl⟩
      rw [← hx] at HC1 hin
      clear hx
      go_upto_region 16 with (fail)
      go_cut [60] from 8 to 98 (fun y wx => ∃ bq, y = .bool bq ∧ Hid (bq = true → 0 ≤ lo ∧ k2 < s.size) ∧ Hid (RpI wx w S p s k k2 e bb 0 deep t.kids.length tt (reC tt.k tt.f tt.lo tt.hi (.slice a1 tt.kids.length c1))))
      case first =>
        by_cases hl0 : 0 ≤ lo
        rotate_left
        · have hd : decide (0 ≤ lo) = false := decide_eq_false hl0
          go_wp2_with fail
          go_meet
          exact ⟨_, rfl, Lib.hid (fun h => by cases h), M3⟩
        have hd : decide (0 ≤ lo) = true := decide_eq_true hl0
        have HC2 := Lib.hid (HC1.out _ M3.out.pm)
        go_wp2_with fail
        refine HC2.out.mono ?_
        rintro e w3 ⟨rfl, b3⟩
        have M4 := Lib.hid (M3.out.after b3)
        clear HC2 b3
        go_wp2_with fail
        go_meet
        exact ⟨_, rfl, Lib.hid (fun h => ⟨hl0, by obtain ⟨_, h3, _⟩ := hin.out (by have h2 : x = 44 := (by simpa using h); omega); exact h3⟩), M4⟩
      case rest =>
      obtain ⟨bq, rfl, hbq, M4⟩ := hcut
      clear M3 HC1 hin
      go_upto_if 60 with (fail)
      go_cut [6, 7] from 8 to 98 (fun y z wx => ∃ (lo2 hi2 : Int) (k3 : Nat), y = .int .i64 lo2 ∧ z = .int .i64 hi2 ∧ Hid ((lo2 < 0 ∨ OkTimes (lo2, hi2)) ∧ kk < k3 ∧ k3 ≤ s.size) ∧ Hid (RpI wx w S p s k k3 e bb 0 deep t.kids.length tt (reC tt.k tt.f tt.lo tt.hi (.slice a1 tt.kids.length c1))))
      case first =>
        cases bq with
        | false =>
          go_wp2_with fail
          go_meet
          refine ⟨lo, lo, k2, rfl, rfl, Lib.hid ⟨?_, by omega, by omega⟩, M4⟩
          rcases Int.lt_or_le lo 0 with h | h
          · exact Or.inl h
          · exact Or.inr ⟨h, l2, Or.inr ⟨Int.le_refl _, l2⟩⟩
        | true =>
          obtain ⟨hl0, hk2⟩ := hbq.out rfl
          have C1 := M4.out.pm.c1
          have Z1 := M4.out.pm.z 1
          have e1 : ((k2 : Int) + 1) = ((k2 + 1 : Nat) : Int) := by omega
          have M5 := Lib.hid (M4.out.next hpC hC hk2)
          rw [← e1] at M5
          have HC1 := Lib.hid (HC.out (k2 + 1) bb 0 _ M5.out.pm)
          have hin := Lib.hid (fun h => chP_in (s := s) (k := k2 + 1) (e := 0) h)
          obtain ⟨x, hx⟩ : ∃ x, x = chP s (k2 + 1) 0 := ⟨_, rfl⟩
          rw [← hx] at HC1 hin
          clear hx e1 hbq
          go_wp2_with fail
          refine HC1.out.mono ?_
          rintro e w3 ⟨rfl, b3⟩
          have M6 := Lib.hid (M5.out.after b3)
          clear HC1 b3 C1 Z1 M4 M5
          by_cases h1 : x = 125
          · subst h1
            go_wp2_with fail
            go_meet
            exact ⟨lo, -1, k2 + 1, rfl, rfl, Lib.hid ⟨Or.inr ⟨hl0, l2, Or.inl rfl⟩, by omega, by omega⟩, M6⟩
          have hxb : (x == 125) = false := beq_eq_false_iff_ne.2 h1
          clear h1
          have HN := Lib.hid (pnum_any p s (k2 + 1) bb _ M6.out.pm (by omega) hs)
          go_wp2_with fail
          refine HN.out.mono ?_
          rintro e w4 ⟨hi, k4, rfl, hhi, pm4, b4⟩
          obtain ⟨g1, g2, g3, g4⟩ := hhi.out
          have M7 := Lib.hid (M6.out.go hpC hC b4 pm4 ⟨fun _ => g4, fun h => absurd rfl h⟩ (by unfold vP; rw [if_pos rfl, if_pos rfl]; exact g3))
          clear HN M6 b4 pm4 hhi
          by_cases hh : hi < lo
          · have hd : decide (hi < lo) = true := decide_eq_true hh
            go_wp2_with fail
            go_meet
            exact ⟨-1, hi, k4, rfl, rfl, Lib.hid ⟨Or.inl (by decide), by omega, by omega⟩, M7⟩
          · have hd : decide (hi < lo) = false := decide_eq_false hh
            go_wp2_with fail
            go_meet
            exact ⟨lo, hi, k4, rfl, rfl, Lib.hid ⟨Or.inr ⟨hl0, l2, Or.inr ⟨by omega, g2⟩⟩, by omega, by omega⟩, M7⟩
      case rest =>
      obtain ⟨lo2, hi2, k3, rfl, rfl, ho, M5⟩ := hcut
      clear M4 hbq
      have HC1 := Lib.hid (fun V h => HC.out k3 bb 0 V h)
      have hin := Lib.hid (fun h => chP_in (s := s) (k := k3) (e := 0) h)
      obtain ⟨x, hx⟩ : ∃ x, x = chP s k3 0 := ⟨_, rfl⟩
      rw [← hx] at HC1 hin
      clear hx
      go_upto_region 23 with (fail)
      go_cut [82] from 8 to 98 (fun y wx => ∃ bq, y = .bool bq ∧ Hid (bq = false → 0 ≤ lo2 ∧ k3 < s.size) ∧ Hid (RpI wx w S p s k k3 e bb 0 deep t.kids.length tt (reC tt.k tt.f tt.lo tt.hi (.slice a1 tt.kids.length c1))))
      case first =>
        by_cases hl0 : lo2 < 0
        · have hd : decide (lo2 < 0) = true := decide_eq_true hl0
          go_wp2_with fail
          go_meet
          exact ⟨_, rfl, Lib.hid (fun h => by cases h), M5⟩
        have hd : decide (lo2 < 0) = false := decide_eq_false hl0
        have HC2 := Lib.hid (HC1.out _ M5.out.pm)
        go_wp2_with fail
        refine HC2.out.mono ?_
        rintro e w3 ⟨rfl, b3⟩
        have M6 := Lib.hid (M5.out.after b3)
        clear HC2 b3
        go_wp2_with fail
        go_meet
        exact ⟨_, rfl, Lib.hid (fun h => ⟨by omega, by obtain ⟨_, h3, _⟩ := hin.out (by have h2 : x = 125 := (by simpa using h); omega); exact h3⟩), M6⟩
      case rest =>
      obtain ⟨bq, rfl, hbq, M6⟩ := hcut
      clear M5 HC1 hin
      cases bq with
      | true =>
        have HB := Lib.hid (pbad_any p s k3 bb 0 kk 50 _ M6.out.pm (by decide))
        have hk3 := ho.out.2
        clear hbq
        go_wp2_with fail
        refine HB.out.mono ?_
        rintro e w4 ⟨b4, e4, rfl, he4, pm4, bu4⟩
        have M7 := Lib.hid (M6.out.go hpC hC bu4 pm4 ⟨fun h => absurd h he4.out, fun _ => by omega⟩ (by unfold vP; rw [if_pos rfl, if_neg he4.out]; omega))
        clear HB M6 bu4 pm4
        obtain ⟨d0, d1, d2, d3, d4, d5, d6, d7⟩ := eight_re M7.out.cur.eight
        go_wp2_with (refine wpList_store_row rfl 38 (.tmp 4) (.tmp 86) rfl (w.heap.size + 1) (reC tt.k tt.f tt.lo tt.hi (.slice a1 tt.kids.length c1)) rfl rfl 38 zeroR M7.out.box.row HI rfl (re_one _ _ _ _ _ _ _) ?_)
        refine bodyPost_ret (v := .agg (reC tt.k tt.f tt.lo tt.hi (.slice a1 tt.kids.length c1))) (results_cell_row (by rfl) _ _ (w.heap.size + 1) 38 _ (0, 0) _ (by rfl) (M7.out.box.setRow _).row Tryz.underlying38 (by rfl) HI) rfl ?_
        exact M7.out.done hC _
      | false =>
        obtain ⟨hl0, hk3⟩ := hbq.out rfl
        have C1 := M6.out.pm.c1
        have Z1 := M6.out.pm.z 1
        have e1 : ((k3 : Int) + 1) = ((k3 + 1 : Nat) : Int) := by omega
        have M7 := Lib.hid (M6.out.next hpC hC hk3)
        rw [← e1] at M7
        clear e1 hbq
        have hok : Hid (OkTimes (lo2, hi2) ∧ True ∧ kk < k3 + 1 ∧ k3 + 1 ≤ s.size) := Lib.hid ⟨by rcases ho.out.1 with h | h; (· omega); (· exact h), trivial, by have := ho.out.2; omega, by omega⟩
        go_wp2_with fail
        go_meet
        exact ⟨lo2, hi2, k3 + 1, rfl, rfl, hok, M7⟩
    case rest =>
      obtain ⟨lo, hi, k3, rfl, rfl, ho, M3⟩ := hcut
      have he0 := ho.out.2.1
      subst he0
      have hk3 := ho.out.2.2
      have hwl := M3.out.cur.lt
      have hwl2 := M3.out.box.lt
      clear M1 hin
      obtain ⟨d0, d1, d2, d3, d4, d5, d6, d7⟩ := eight_re M3.out.cur.eight
      have bA := below_new wc (.cells (reC tt.k tt.f tt.lo tt.hi (.slice a1 tt.kids.length c1)) 38)
      have M4 := Lib.hid (M3.out.after bA)
      have hw4 : (wc.alloc (.cells (reC tt.k tt.f tt.lo tt.hi (.slice a1 tt.kids.length c1)) 38)).heap.size = wc.heap.size + 1 := World.size_alloc _ _
      clear bA
      go_wp2_with (refine wpList_store_row rfl 38 (.tmp 3) (.tmp 98) rfl w.heap.size (reC 6 zero4 lo hi (.slice (some ⟨wc.heap.size, 0, none⟩) 1 1)) rfl rfl 38 (reC tt.k tt.f tt.lo tt.hi (.slice a1 tt.kids.length c1)) M4.out.cur.row HI rfl (re_one _ _ _ _ _ _ _) ?_)
      go_roundg (s.size + 30 - vP s k3 0)
      case measure =>
        have h1 := hq.out
        have h2 : vP s kk 0 = kk := by unfold vP; rw [if_pos rfl]
        have h3 : vP s k3 0 = k3 := by unfold vP; rw [if_pos rfl]
        omega
      case rel =>
        refine ⟨.mk 6 zero4 lo hi [tt], k3, bb, 0, _, Lib.hid rfl, Lib.hid ⟨M4.out.pm.setRow (by omega) _, M4.out.pos, ⟨by rw [Go.setRow_other _ _ _ _ (by omega)]; exact M4.out.box.row⟩, M4.out.cur.setRow _, ?_, M4.out.but.setRow (Nat.le_refl _) _, fine_rep M4.out.fine ho.out.1, by show 1 ≤ _; exact Nat.le_max_right _ _, M4.out.ge⟩⟩
        refine .node 6 zero4 lo hi [tt] wc.heap.size 0 1 (fun _ => reC tt.k tt.f tt.lo tt.hi (.slice a1 tt.kids.length c1)) (by simp) (Nat.le_refl _) ⟨Or.inr (by omega), by omega, by omega⟩ (fun i hi => ?_) (fun i hi => ?_)
        · obtain rfl : i = 0 := by simp at hi; omega
          exact (box_new wc _).eight.keep (Go.setRow_other _ _ _ _ (by omega))
        · obtain rfl : i = 0 := by simp at hi; omega
          exact M4.out.at_.setRowS (fun h => h.2.1 rfl) _
end Go.Proofs.YtimipfdknfdbdaaGreat
