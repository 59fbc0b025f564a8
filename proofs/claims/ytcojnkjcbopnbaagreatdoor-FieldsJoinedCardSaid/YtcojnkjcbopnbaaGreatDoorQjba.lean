/- Merged by program: ReadC, ReadD. -/
import Derived.Deep.LoopGhost
import Derived.Test.YtcojnkjcbopnbaaGreatDoorQjaz
/- reader.piece at any text: a walk. -/
namespace Go.Proofs.YtcojnkjcbopnbaaGreatDoor
open Go.RowKit

/-- All blocks from C on but one. -/
def UpBut (C g : Nat) : Nat → Prop := fun b => C ≤ b ∧ b ≠ g
theorem comesB_lt {s : ByteArray} {k : Nat} {l : List UInt8} (h : comesB s k l = true) : k < s.size := by
  unfold comesB at h
  rcases Nat.lt_or_ge k s.size with h' | h'
  · exact h'
  · rw [List.getElem?_eq_none (by simpa using h')] at h
    cases h
theorem fine_rep {t : Tree} (h : Fine (-1) t) {lo hi : Int} (ho : OkTimes (lo, hi)) : Fine (-1) (.mk 6 zero4 lo hi [t]) := by
  refine .mk _ _ ⟨fits_zero, by show (0 : Int) ≤ 6; decide, by show (6 : Int) ≤ 6; decide, fun _ _ _ => rfl, fun h => absurd rfl h, fun h => ?_, fun _ => by decide, fun h => ?_, fun _ => ⟨rfl, ho.1, ho.2.1, ho.2.2⟩, by show 1 ≤ 1000000; decide⟩ (fun c hc => ?_)
  · have h' : (6 : Int) < 4 := h; omega
  · have h' : (6 : Int) = 4 ∨ (6 : Int) = 5 := h; omega
  · rw [List.mem_singleton.1 hc]
    refine h.to 6 (fun _ => by decide) ?_
    by_cases e : t.k = 6
    · exact Or.inr ⟨by omega, by omega⟩
    · exact Or.inl e

def AtomsA (d : Nat) : Prop := ∀ (p : Nat) (s : ByteArray) (k : Nat) (w : World), k < s.size → s.size ≤ 400 → RdX w p s k d → Calls Tryz.prog 128 #[.pointer (some ⟨p, 0, none⟩)] w (ReadA 1 0 p s k d w)
def PiecesA (d : Nat) : Prop := ∀ (p : Nat) (s : ByteArray) (k : Nat) (w : World), k < s.size → s.size ≤ 400 → RdX w p s k d → Calls Tryz.prog 115 #[.pointer (some ⟨p, 0, none⟩)] w (ReadA 1 0 p s k d w)

/-- Where the reading of a piece stands. -/
structure PcI (wr w : World) (W1 U1 p : Nat) (s : ByteArray) (k kk d : Nat) (t : Tree) (cs : Array Value) : Prop where
  rd : RdX wr p s kk d
  box : Box wr w.heap.size zeroR
  cur : Box wr U1 cs
  at_ : At wr (UpBut W1 U1) t cs
  but : But p w wr
  fine : Fine (-1) t
  kids : t.kids.length ≤ kk - k
  ge : k + 1 ≤ kk
  le : kk ≤ s.size

set_option maxRecDepth 100000 in
set_option maxHeartbeats 2000000 in
theorem pieceA (d : Nat) (hA : AtomsA d) : PiecesA d := by
  intro p s k w hk hs hx
  have HA := Lib.hid hA
  have HI := info_re
  have hlt := hx.r.lt
  have HX := Lib.hid hx
  clear hA hx
  go_enter Tryz.func115, Tryz.ntmps115
  go_upto_region 1 with (fail)
  obtain ⟨W, hW, hX, hB, hsz⟩ := re_box w zeroR
  change Code.wp _ _ _ _ (w.alloc (Obj.cells zeroR 68))
  rw [← hW]
  clear hW
  have R := Lib.hid (HX.out.after hB.out)
  have HC := Lib.hid (HA.out p s k W hk hs R.out)
  clear HA
  go_wp2_with fail
  refine HC.out.mono ?_
  rintro e w1 (⟨t0, cs, k1, rfl, hat, hf, R1, b1⟩ | hfell)
  rotate_left
  · obtain ⟨a, x, hx0, rfl, b1⟩ := hfell
    have B2 := Lib.hid ((But.of hB.out).trans b1)
    have HX0 := Lib.hid hx0
    clear b1 hx0
    go_wp2_with fail
    exact ⟨rfl, Or.inr ⟨a, x, HX0.out, rfl, B2.out⟩⟩
  have X1 := Lib.hid (hX.out.but b1 (by omega))
  have R2 := Lib.hid (R.out.go b1 R1)
  have B1 := Lib.hid ((But.of hB.out).trans b1)
  have hg : w.heap.size < W.heap.size := hX.out.lt
  have hW1 := b1.size
  have T := Lib.hid hat
  obtain ⟨a0, c0, rfl, _⟩ := hat.opens
  clear b1 R1 hat HC
  simp only [reC]
  go_wp2_with fail
  obtain ⟨U, hU, hY, hBU, _⟩ := re_box w1 (reC t0.k t0.f t0.lo t0.hi (.slice a0 t0.kids.length c0))
  change Code.wp _ _ _ _ (w1.alloc (Obj.cells (reC t0.k t0.f t0.lo t0.hi (.slice a0 t0.kids.length c0)) 68))
  rw [← hU]
  clear hU
  have S0 : Hid (PcI U w W.heap.size w1.heap.size p s k k1 d t0 (reC t0.k t0.f t0.lo t0.hi (.slice a0 t0.kids.length c0))) :=
    Lib.hid ⟨R2.out.after hBU.out, X1.out.after hBU.out, hY.out, (T.out.inWorld.after hBU.out).weakS fun b hb => ⟨hb.1, by have := hb.2; omega⟩, B1.out.then hBU.out, hf.out.1, hf.out.2.1, hf.out.2.2.1, hf.out.2.2.2⟩
  go_loopg [9] (s.size - k1) (fun q _ wr => ∃ (t : Tree) (kk : Nat) (cs : Array Value), Hid (s.size - kk = q) ∧ Hid (PcI wr w W.heap.size w1.heap.size p s k kk d t cs))
  case atStart => exact ⟨t0, k1, _, Lib.hid rfl, S0⟩
  case round =>
    obtain ⟨t, kk, cs, hq, hM⟩ := hrel
    obtain ⟨a1, c1, e, _⟩ := hM.out.at_.opens
    subst e
    have HC := Lib.hid (comes_spec p s ⟨#[42, 43, 63, 123]⟩ kk d wr hM.out.rd.r hM.out.le)
    obtain ⟨b, hb⟩ : ∃ b, b = comesB s kk (⟨#[42, 43, 63, 123]⟩ : ByteArray).data.toList := ⟨_, rfl⟩
    rw [← hb] at HC
    have HBt : Hid (b = true → kk < s.size) := Lib.hid (fun e => comesB_lt (hb.symm.trans e))
    clear hb
    go_wp2_with fail
    refine HC.out.mono ?_
    rintro e w2 ⟨rfl, q2, hq2⟩
    have bE : Below wr.heap.size wr w2 := by rw [hq2]; exact drewN_below wr q2
    clear hq2
    have X2 := Lib.hid (hM.out.box.after bE)
    have Y2 := Lib.hid (hM.out.cur.after bE)
    have R3 := Lib.hid (hM.out.rd.after bE)
    have B3 := Lib.hid (hM.out.but.then bE)
    have T3 := Lib.hid (hM.out.at_.after bE)
    have hw2 := bE.size
    have hy2 := hM.out.cur.lt
    clear bE
    cases b with
    | false =>
      obtain ⟨d0, d1, d2, d3, d4, d5, d6, d7⟩ := eight_re Y2.out.eight
      go_wp2_with (refine wpList_store_row rfl 68 (.tmp 2) (.tmp 20) rfl w.heap.size (reC t.k t.f t.lo t.hi (.slice a1 t.kids.length c1)) rfl rfl 68 zeroR X2.out.row HI rfl (re_one _ _ _ _ _ _ _) ?_)
      refine bodyPost_ret (v := .agg (reC t.k t.f t.lo t.hi (.slice a1 t.kids.length c1))) (results_cell_row (by rfl) _ _ w.heap.size 68 _ (0, 0) _ (by rfl) (X2.out.setRow _).row Tryz.underlying68 (by rfl) HI) rfl ?_
      exact Or.inl ⟨t, _, kk, rfl, (T3.out.setRowS (fun h => by have := h.1; omega) _).weakS (fun b hb => by have := hb.1; unfold Up; omega), Lib.hid ⟨hM.out.fine, hM.out.kids, hM.out.ge, hM.out.le⟩, R3.out.r.setRow (by omega) _, B3.out.setRow (Nat.le_refl _) _⟩
    | true =>
      have hkk := HBt.out rfl
      have HT := Lib.hid (timesA p s kk d w2 hkk hs R3.out)
      go_wp2_with fail
      refine HT.out.mono ?_
      rintro e w3 (⟨lo, hi, k3, rfl, ho, R4, b4⟩ | hfell)
      rotate_left
      · obtain ⟨a, x, hx0, rfl, b4⟩ := hfell
        have B5 := Lib.hid (B3.out.trans b4)
        have HX0 := Lib.hid hx0
        clear b4 hx0
        go_wp2_with fail
        exact ⟨rfl, Or.inr ⟨a, x, HX0.out, rfl, B5.out⟩⟩
      have X4 := Lib.hid (X2.out.but b4 (by omega))
      have Y4 := Lib.hid (Y2.out.but b4 (by omega))
      have R5 := Lib.hid (R3.out.go b4 R4)
      have B5 := Lib.hid (B3.out.trans b4)
      have T5 := Lib.hid (T3.out.butS b4 (fun h => by have := h.1; omega))
      have hw3 := b4.size
      clear b4 R4 HT
      obtain ⟨d0, d1, d2, d3, d4, d5, d6, d7⟩ := eight_re Y4.out.eight
      have YA := Lib.hid (Y4.out.after (below_new w3 (.cells (reC t.k t.f t.lo t.hi (.slice a1 t.kids.length c1)) 68)))
      have hw4 : (w3.alloc (.cells (reC t.k t.f t.lo t.hi (.slice a1 t.kids.length c1)) 68)).heap.size = w3.heap.size + 1 := World.size_alloc _ _
      go_wp2_with (refine wpList_store_row rfl 68 (.tmp 3) (.tmp 19) rfl w1.heap.size (reC 6 zero4 lo hi (.slice (some ⟨w3.heap.size, 0, none⟩) 1 1)) rfl rfl 68 (reC t.k t.f t.lo t.hi (.slice a1 t.kids.length c1)) YA.out.row HI rfl (re_one _ _ _ _ _ _ _) ?_)
      have bA := below_new w3 (.cells (reC t.k t.f t.lo t.hi (.slice a1 t.kids.length c1)) 68)
      go_roundg (s.size - k3)
      case measure => have := ho.out.2.1; have := hq.out; omega
      case rel =>
        have h1 := ho.out.2.1
        have h2 := hM.out.ge
        have hr : Rdr ((w3.alloc (.cells (reC t.k t.f t.lo t.hi (.slice a1 t.kids.length c1)) 68)).setRow w1.heap.size (reC 6 zero4 lo hi (.slice (some ⟨w3.heap.size, 0, none⟩) 1 1))) p s k3 d := (R5.out.r.after bA).setRow (by omega) _
        have hbw := (B5.out.then bA).setRow (g := w1.heap.size) (by omega) (reC 6 zero4 lo hi (.slice (some ⟨w3.heap.size, 0, none⟩) 1 1))
        refine ⟨.mk 6 zero4 lo hi [t], k3, _, Lib.hid rfl, Lib.hid ⟨HX.out.go hbw hr, ⟨by rw [Go.setRow_other _ _ _ _ (by omega)]; exact (X4.out.after bA).row⟩, YA.out.setRow _, ?_, hbw, fine_rep hM.out.fine ho.out.1, by show 1 ≤ _; omega, by omega, ho.out.2.2⟩⟩
        refine .node 6 zero4 lo hi [t] w3.heap.size 0 1 (fun _ => reC t.k t.f t.lo t.hi (.slice a1 t.kids.length c1)) (by simp) (Nat.le_refl _) ⟨by omega, by omega⟩ (fun i hi => ?_) (fun i hi => ?_)
        · obtain rfl : i = 0 := by simp at hi; omega
          exact (box_new w3 _).eight.keep (Go.setRow_other _ _ _ _ (by omega))
        · obtain rfl : i = 0 := by simp at hi; omega
          exact (T5.out.after bA).setRowS (fun h => h.2 rfl) _
end Go.Proofs.YtcojnkjcbopnbaaGreatDoor

/- reader.branch, pattern at any text: walks. -/
namespace Go.Proofs.YtcojnkjcbopnbaaGreatDoor
open Go.RowKit

def BranchesA (d : Nat) : Prop := ∀ (p : Nat) (s : ByteArray) (k : Nat) (w : World), k ≤ s.size → s.size ≤ 400 → RdX w p s k d → Calls Tryz.prog 92 #[.pointer (some ⟨p, 0, none⟩)] w (ReadA 0 0 p s k d w)
/-- Where the reading of parts stands: memory. -/
structure BrMA (wr w : World) (p : Nat) (s : ByteArray) (kk d : Nat) (lv : Value) (ts : List Tree) (cs : Nat → Array Value) : Prop where
  rd : RdX wr p s kk d
  box : Box wr w.heap.size zeroR
  own : OwnTrees wr (w.heap.size + 1) lv ts cs
  but : But p w wr
theorem BrMA.after {wr w V : World} {p : Nat} {s : ByteArray} {kk d : Nat} {lv : Value} {ts : List Tree} {cs : Nat → Array Value} (h : BrMA wr w p s kk d lv ts cs) (hb : Below wr.heap.size wr V) : BrMA V w p s kk d lv ts cs :=
  ⟨h.rd.after hb, h.box.after hb, h.own.after hb, h.but.then hb⟩
/-- What was read so far; x more than bytes at most. -/
structure BrP (s : ByteArray) (k kk x : Nat) (ts : List Tree) : Prop where
  fine : ∀ t, t ∈ ts → Fine (-1) t
  sum : wides ts ≤ kk - k + x
  len : ts.length ≤ kk - k + x
  ge : k ≤ kk
  le : kk ≤ s.size
theorem wides_snoc (ts : List Tree) (t : Tree) : wides (ts ++ [t]) = wides ts + wide t := by unfold wides; rw [List.map_append, List.sum_append]; simp
theorem BrP.more {s : ByteArray} {k kk x : Nat} {ts : List Tree} (h : BrP s k kk x ts) {t : Tree} {k2 : Nat} (ht : Fine (-1) t) (h1 : kk < k2) (h2 : t.kids.length ≤ k2 - kk) (h3 : k2 ≤ s.size) : BrP s k k2 x (ts ++ [t]) := by
  have hw : wide t ≤ k2 - kk := by unfold wide; omega
  refine ⟨fun u hu => ?_, by rw [wides_snoc]; have := h.sum; have := h.ge; omega, by rw [List.length_append, List.length_singleton]; have := h.len; have := h.ge; omega, by have := h.ge; omega, h3⟩
  rcases List.mem_append.1 hu with hu | hu
  · exact h.fine u hu
  · rw [List.mem_singleton.1 hu]; exact ht

set_option maxRecDepth 100000 in
set_option maxHeartbeats 4000000 in
theorem branchA (d : Nat) (hPc : PiecesA d) : BranchesA d := by
  intro p s k w hk hs hx
  have HPc := Lib.hid hPc
  have HI := info_re
  have hlt := hx.r.lt
  have HX := Lib.hid hx
  clear hPc hx
  go_enter Tryz.func92, Tryz.ntmps92
  go_upto_region 1 with (fail)
  obtain ⟨W, hW, hX, hB, hsz⟩ := re_box w zeroR
  change Code.wp _ _ _ _ (w.alloc (Obj.cells zeroR 68))
  rw [← hW]
  clear hW
  have M0 : Hid (BrMA W w p s k d (.slice none 0 0) [] (fun _ => zeroR)) := Lib.hid ⟨HX.out.after hB.out, hX.out, own_nil _ _ _, .of hB.out⟩
  have P0 : Hid (BrP s k k 0 []) := Lib.hid ⟨fun t ht => (by cases ht), by simp [wides], by simp, Nat.le_refl _, hk⟩
  go_wp2_with fail
  go_loopg [3] (s.size - k) (fun q lv wr => ∃ (ts : List Tree) (kk : Nat) (cs : Nat → Array Value), Hid (s.size - kk = q) ∧ Hid (BrP s k kk 0 ts) ∧ Hid (BrMA wr w p s kk d lv ts cs))
  case atStart => exact ⟨[], k, _, Lib.hid rfl, P0, M0⟩
  case round =>
    obtain ⟨ts, kk, cs, hq, hP, hM⟩ := hrel
    have c0 := hM.out.rd.r.c0; have c1 := hM.out.rd.r.c1
    have HC := Lib.hid (fun w (h : Rdr w p s kk d) => comes_spec p s ⟨#[124, 41]⟩ kk d w h hP.out.le)
    obtain ⟨b, hb⟩ : ∃ b, b = comesB s kk (⟨#[124, 41]⟩ : ByteArray).data.toList := ⟨_, rfl⟩
    rw [← hb] at HC
    clear hb
    have hkle := hP.out.le
    by_cases hend : kk = s.size
    · have hdd : decide ((kk : Int) < s.size) = false := decide_eq_false (by omega)
      go_wp2_with fail
      go_quiet (fail)
      clear c0 c1 hdd
      obtain ⟨D, hD, bD⟩ : ∃ D, D = wr.drewN _ ∧ Below wr.heap.size wr D := ⟨_, rfl, drewN_below wr _⟩
      rw [← hD]
      clear hD
      have M1 := Lib.hid (hM.out.after bD)
      clear bD
      have bK := below_new D (.cells #[.int .i64 0] 3)
      have M2 := Lib.hid (M1.out.after bK)
      have HJ := Lib.hid (joined_sl 4 ts u3 (Up (w.heap.size + 1)) (.slice (some ⟨D.heap.size, 0, none⟩) 1 1) [0] (D.alloc (.cells #[.int .i64 0] 3)) (by have := hP.out.len; have := hP.out.le; omega) (by have := hP.out.sum; have := hP.out.le; omega) M2.out.own.slAt hP.out.fine (Or.inl ⟨rfl, rfl⟩) (Or.inr ⟨_, _, rfl, by simp, heap_alloc_last D _⟩))
      have hD1 : (D.alloc (.cells #[.int .i64 0] 3)).heap.size = D.heap.size + 1 := World.size_alloc _ _
      clear bK
      have hDw := M1.out.box.lt
      go_wp2_with fail
      refine HJ.out.mono ?_
      rintro e w1 ⟨tt, ds, rfl, hat, hf, b1⟩
      have M3 := Lib.hid (M2.out.after b1)
      have T3 := Lib.hid hat
      obtain ⟨a, c, e, _⟩ := hat.opens
      subst e
      clear b1 hat
      go_wp2_with (refine wpList_store_row rfl 68 (.tmp 2) (.tmp 26) rfl w.heap.size (reC tt.k tt.f tt.lo tt.hi (.slice a tt.kids.length c)) rfl rfl 68 zeroR M3.out.box.row HI rfl (re_one _ _ _ _ _ _ _) ?_)
      refine bodyPost_ret (v := .agg (reC tt.k tt.f tt.lo tt.hi (.slice a tt.kids.length c))) (results_cell_row (by rfl) _ _ w.heap.size 68 _ (0, 0) _ (by rfl) (M3.out.box.setRow _).row Tryz.underlying68 (by rfl) HI) rfl ?_
      have hsum := hP.out.sum
      have hkd := hf.out.2
      refine Or.inl ⟨tt, _, kk, rfl, (T3.out.setRowS (fun h => by rcases h with h | h; (· have h' : w.heap.size + 1 ≤ w.heap.size := h; omega); (· omega)) _).weakS fun k hk => ?_, Lib.hid ⟨hf.out.1, by omega, hP.out.ge, hP.out.le⟩, M3.out.rd.r.setRow (by omega) _, M3.out.but.setRow (Nat.le_refl _) _⟩
      rcases hk with h | h
      · have h' : w.heap.size + 1 ≤ k := h
        show w.heap.size ≤ k
        omega
      · show w.heap.size ≤ k
        omega
    · have hlt2 : kk < s.size := by omega
      have hdd : decide ((kk : Int) < s.size) = true := decide_eq_true (by omega)
      cases b with
      | true =>
        go_wp2_with fail
        go_quiet ((go_at_call 93; exact Calls.quiet_of (HC.out _ (hM.out.rd.r.after (drewN_below _ _)))))
        clear HC
        clear c0 c1 hdd
        obtain ⟨D, hD, bD⟩ : ∃ D, D = wr.drewN _ ∧ Below wr.heap.size wr D := ⟨_, rfl, drewN_below wr _⟩
        rw [← hD]
        clear hD
        have M1 := Lib.hid (hM.out.after bD)
        clear bD
        have bK := below_new D (.cells #[.int .i64 0] 3)
        have M2 := Lib.hid (M1.out.after bK)
        have HJ := Lib.hid (joined_sl 4 ts u3 (Up (w.heap.size + 1)) (.slice (some ⟨D.heap.size, 0, none⟩) 1 1) [0] (D.alloc (.cells #[.int .i64 0] 3)) (by have := hP.out.len; have := hP.out.le; omega) (by have := hP.out.sum; have := hP.out.le; omega) M2.out.own.slAt hP.out.fine (Or.inl ⟨rfl, rfl⟩) (Or.inr ⟨_, _, rfl, by simp, heap_alloc_last D _⟩))
        have hD1 : (D.alloc (.cells #[.int .i64 0] 3)).heap.size = D.heap.size + 1 := World.size_alloc _ _
        clear bK
        have hDw := M1.out.box.lt
        go_wp2_with fail
        refine HJ.out.mono ?_
        rintro e w1 ⟨tt, ds, rfl, hat, hf, b1⟩
        have M3 := Lib.hid (M2.out.after b1)
        have T3 := Lib.hid hat
        obtain ⟨a, c, e, _⟩ := hat.opens
        subst e
        clear b1 hat
        go_wp2_with (refine wpList_store_row rfl 68 (.tmp 2) (.tmp 26) rfl w.heap.size (reC tt.k tt.f tt.lo tt.hi (.slice a tt.kids.length c)) rfl rfl 68 zeroR M3.out.box.row HI rfl (re_one _ _ _ _ _ _ _) ?_)
        refine bodyPost_ret (v := .agg (reC tt.k tt.f tt.lo tt.hi (.slice a tt.kids.length c))) (results_cell_row (by rfl) _ _ w.heap.size 68 _ (0, 0) _ (by rfl) (M3.out.box.setRow _).row Tryz.underlying68 (by rfl) HI) rfl ?_
        have hsum := hP.out.sum
        have hkd := hf.out.2
        refine Or.inl ⟨tt, _, kk, rfl, (T3.out.setRowS (fun h => by rcases h with h | h; (· have h' : w.heap.size + 1 ≤ w.heap.size := h; omega); (· omega)) _).weakS fun k hk => ?_, Lib.hid ⟨hf.out.1, by omega, hP.out.ge, hP.out.le⟩, M3.out.rd.r.setRow (by omega) _, M3.out.but.setRow (Nat.le_refl _) _⟩
        rcases hk with h | h
        · have h' : w.heap.size + 1 ≤ k := h
          show w.heap.size ≤ k
          omega
        · show w.heap.size ≤ k
          omega
      | false =>
        go_wp2_with fail
        go_quiet ((go_at_call 93; exact Calls.quiet_of (HC.out _ (hM.out.rd.r.after (drewN_below _ _)))))
        clear c0 c1 HC hdd
        obtain ⟨D, hD, bD⟩ : ∃ D, D = wr.drewN _ ∧ Below wr.heap.size wr D := ⟨_, rfl, drewN_below wr _⟩
        rw [← hD]
        clear hD
        have M1 := Lib.hid (hM.out.after bD)
        clear bD
        have HC1 := Lib.hid (HPc.out p s kk D (by omega) hs M1.out.rd)
        go_wp2_with fail
        refine HC1.out.mono ?_
        rintro e w1 (⟨t, ds, k2, rfl, hat, hf, R1, b1⟩ | hfell)
        rotate_left
        · obtain ⟨a, x, hx0, rfl, b1⟩ := hfell
          have B1 := Lib.hid (M1.out.but.trans b1)
          have HX0 := Lib.hid hx0
          clear b1 hx0
          go_wp2_with fail
          exact ⟨rfl, Or.inr ⟨a, x, HX0.out, rfl, B1.out⟩⟩
        have X1 := Lib.hid (M1.out.box.but b1 (by omega))
        have O1 := Lib.hid (M1.out.own.but b1 (by omega))
        have B1 := Lib.hid (M1.out.but.trans b1)
        have R2 := Lib.hid (M1.out.rd.go b1 R1)
        have T1 := Lib.hid hat
        have hw1 := b1.size
        have hx1 := M1.out.box.lt
        have hvl : Hid (∀ k, u3.ownBlock = some k → k < D.heap.size) := Lib.hid fun k hk => (M1.out.own.row.lt k hk).2
        obtain ⟨a, c, e, _⟩ := hat.opens
        subst e
        clear b1 R1 hat
        have hbe := below_new w1 (.cells (reC t.k t.f t.lo t.hi (.slice a t.kids.length c)) 68)
        have hse : (w1.alloc (.cells (reC t.k t.f t.lo t.hi (.slice a t.kids.length c)) 68)).heap.size = w1.heap.size + 1 := World.size_alloc _ _
        have O2 := Lib.hid (O1.out.after hbe)
        have row5 : Hid ((w1.alloc (.cells (reC t.k t.f t.lo t.hi (.slice a t.kids.length c)) 68)).heap[w1.heap.size]? = some (.cells (reC t.k t.f t.lo t.hi (.slice a t.kids.length c)) 68 (0, 0))) := Lib.hid (heap_alloc_last w1 _)
        obtain ⟨i0, hi0', hz0, hz1, hz2⟩ := info_parts info_re3
        have hdl : Hid (ts.length + 1 ≤ 402) := Lib.hid (by have := hP.out.len; have := hP.out.le; omega)
        have BE := Lib.hid hbe
        clear hbe
        simp only [reC]
        go_wp2_with (at_builtin; refine wpList_append_own_at _ rfl _ _ 66 rfl (w.heap.size + 1) 68 i0 (.agg #[.int .i64 0, .int .u64 0, .int .u64 0, .int .u64 0, .int .u64 0, .int .i64 0, .int .i64 0, .slice none 0 0]) 8 80 Tryz.underlying66 hi0' hz0 hz1 hz2 rfl (by decide) _ _ _ rfl O2.out.row ⟨w1.heap.size, 0, none⟩ 1 1 (reC t.k t.f t.lo t.hi (.slice a t.kids.length c)).toList rfl rfl ?c1 ?c2 ?c3 ?c4 ?c5 ?_)
        case c1 =>
          intro j u hj
          have e : (⟨w1.heap.size, 0, none⟩ : Addr).add j = ⟨w1.heap.size, j, none⟩ := by unfold Addr.add; split <;> simp_all
          rw [e]
          exact (cell_of_row _ _ j _ _ _ row5.out).trans (by simpa using hj)
        case c2 =>
          intro u hu
          have h := re_one t.k t.f t.lo t.hi a t.kids.length c
          rw [Array.all_eq_true_iff_forall_mem] at h
          exact h u (by simpa using hu)
        case c3 => have := hdl.out; unfold maxLen; omega
        case c4 => have := hdl.out; omega
        case c5 => rw [World.size_alloc]; omega
        intro v' w4 hown' hgrow _ hwhere
        have hgrow' : (w1.alloc (.cells (reC t.k t.f t.lo t.hi (.slice a t.kids.length c)) 68)).grownBy w4 _ := hgrow
        have hwhere' : v'.ownBlock = u3.ownBlock ∨ v'.ownBlock = some (w1.alloc (.cells (reC t.k t.f t.lo t.hi (.slice a t.kids.length c)) 68)).heap.size := hwhere.imp id (fun h => by rw [World.size_alloc]; exact h)
        have OW := Lib.hid (O2.out.snoc (T1.out.after BE.out) (by omega) hvl.out hown' hgrow' hwhere')
        have hng : ∀ k, k < w1.heap.size → (∀ j, u3.ownBlock = some j → j ≠ k) → w4.heap[k]? = w1.heap[k]? := fun k hk hne =>
          (hgrow'.block k (by omega) (fun e => hne k e.symm rfl)).trans (BE.out.block k hk)
        have hge3 : ∀ k, u3.ownBlock = some k → w.heap.size + 1 ≤ k := fun k hk => (O2.out.row.lt k hk).1
        have hBw4 : But p w w4 := ⟨hgrow'.os.trans (BE.out.os.trans B1.out.os), hgrow'.tape.trans (BE.out.tape.trans B1.out.tape), hgrow'.output.trans (BE.out.output.trans B1.out.output), Nat.le_trans B1.out.size (Nat.le_trans BE.out.size hgrow'.size), fun k hk hp =>
          (hng k (by omega) (fun j hj e => by have := hge3 j hj; omega)).trans (B1.out.block k hk hp)⟩
        have M4 : Hid (BrMA w4 w p s k2 d v' (ts ++ [t]) (fun j => if j = ts.length then reC t.k t.f t.lo t.hi (.slice a t.kids.length c) else cs j)) := Lib.hid ⟨HX.out.go hBw4 ⟨by
            rw [hng p (by omega) (fun j hj e => by have := hge3 j hj; omega)]; exact R2.out.r.row⟩, ⟨by
            rw [hng _ (by omega) (fun j hj e => by have := hge3 j hj; omega)]; exact X1.out.row⟩, OW.out, hBw4⟩
        have hf1 := hf.out.2.1
        have hf2 := hf.out.2.2.1
        have hf3 := hf.out.2.2.2
        have P4 := Lib.hid (hP.out.more hf.out.1 (t := t) (k2 := k2) (by omega) (by omega) hf3)
        clear hown' hgrow hgrow' hwhere hwhere' hng hge3 hBw4
        go_wp2_with fail
        go_roundg (s.size - k2)
        case measure => have := hq.out; omega
        case rel => exact ⟨ts ++ [t], k2, _, Lib.hid rfl, P4, M4⟩

set_option maxRecDepth 100000 in
set_option maxHeartbeats 4000000 in
theorem patternA (d : Nat) (hBr : BranchesA d) : PatA d := by
  intro p s k w hk hs hx
  have HBr := Lib.hid hBr
  have HI := info_re
  have hlt := hx.r.lt
  have HX := Lib.hid hx
  clear hBr hx
  go_enter Tryz.func65, Tryz.ntmps65
  go_upto_region 1 with (fail)
  obtain ⟨W, hW, hX, hB, hsz⟩ := re_box w zeroR
  change Code.wp _ _ _ _ (w.alloc (Obj.cells zeroR 68))
  rw [← hW]
  clear hW
  have R := Lib.hid (HX.out.after hB.out)
  have HC0 := Lib.hid (HBr.out p s k W hk hs R.out)
  go_wp2_with fail
  refine HC0.out.mono ?_
  rintro e w1 (⟨t, ds, k1, rfl, hat, hf, R1, b1⟩ | hfell)
  rotate_left
  · obtain ⟨a, x, hx0, rfl, b1⟩ := hfell
    have B1 := Lib.hid ((But.of hB.out).trans b1)
    have HX0 := Lib.hid hx0
    clear b1 hx0
    go_wp2_with fail
    exact ⟨rfl, Or.inr ⟨a, x, HX0.out, rfl, B1.out⟩⟩
  have X1 := Lib.hid (hX.out.but b1 (by omega))
  have B1 := Lib.hid ((But.of hB.out).trans b1)
  have R2 := Lib.hid (R.out.go b1 R1)
  have T1 := Lib.hid hat
  have hw1 := b1.size
  have hx1 := hX.out.lt
  obtain ⟨a, c, e, _⟩ := hat.opens
  subst e
  clear b1 R1 hat HC0
  simp only [reC]
  go_wp2_with fail
  obtain ⟨U, hU, hY, hBU, hszU⟩ := re_box w1 (reC t.k t.f t.lo t.hi (.slice a t.kids.length c))
  change Code.wp _ _ _ _ (w1.alloc (Obj.cells (reC t.k t.f t.lo t.hi (.slice a t.kids.length c)) 68))
  have M0 : Hid (BrMA U w p s k1 d (.slice (some ⟨w1.heap.size, 0, none⟩) 1 1) [t] (fun _ => reC t.k t.f t.lo t.hi (.slice a t.kids.length c))) := Lib.hid ⟨R2.out.after hBU.out, X1.out.after hBU.out, ⟨by
    rw [hU]
    exact World.ownsRow_lit w1 _ 1 (by omega) (by unfold maxLen; omega) rfl, fun j hj => by
    obtain rfl : j = 0 := by simp at hj; omega
    exact (T1.out.inWorld.after hBU.out).weakS fun b hb => ⟨by have h' : W.heap.size ≤ b := hb.1; omega, fun e => by have := hb.2; simp [Value.ownBlock] at e; omega⟩⟩, B1.out.then hBU.out⟩
  rw [← hU]
  clear hU
  have P0 : Hid (BrP s k k1 1 [t]) := Lib.hid (by
    have h1 := hf.out.2.1
    have h2 := hf.out.2.2.1
    refine ⟨fun u hu => by rw [List.mem_singleton.1 hu]; exact hf.out.1, ?_, ?_, by omega, hf.out.2.2.2⟩
    · show wide t + 0 ≤ _
      unfold wide
      omega
    · show 1 ≤ _
      omega)
  go_loopg [3] (s.size - k1) (fun q lv wr => ∃ (ts : List Tree) (kk : Nat) (cs : Nat → Array Value), Hid (s.size - kk = q) ∧ Hid (BrP s k kk 1 ts) ∧ Hid (BrMA wr w p s kk d lv ts cs))
  case atStart => exact ⟨[t], k1, _, Lib.hid rfl, P0, M0⟩
  case round =>
    clear hf P0 M0 hY hBU hszU T1 X1 B1 R2
    obtain ⟨ts, kk, cs, hq, hP, hM⟩ := hrel
    have HC := Lib.hid (comes_spec p s ⟨#[124]⟩ kk d wr hM.out.rd.r hP.out.le)
    obtain ⟨b, hb⟩ : ∃ b, b = comesB s kk (⟨#[124]⟩ : ByteArray).data.toList := ⟨_, rfl⟩
    rw [← hb] at HC
    have HBt : Hid (b = true → kk < s.size) := Lib.hid (fun e => comesB_lt (hb.symm.trans e))
    clear hb
    cases b with
    | false =>
      go_wp2_with fail
      refine HC.out.mono ?_
      rintro e D ⟨rfl, q2, hq2⟩
      have bD : Below wr.heap.size wr D := by rw [hq2]; exact drewN_below wr q2
      clear hq2
      have M1 := Lib.hid (hM.out.after bD)
      clear bD
      have M2 := M1
      have HJ := Lib.hid (joined_sl 5 ts u3 (Up (w.heap.size + 1)) (.slice none 0 0) [] D (by have := hP.out.len; have := hP.out.le; omega) (by have := hP.out.sum; have := hP.out.le; omega) M2.out.own.slAt hP.out.fine (Or.inr ⟨rfl, rfl⟩) (ints_none _))
      have hDw := M1.out.box.lt
      go_wp2_with fail
      refine HJ.out.mono ?_
      rintro e w1 ⟨tt, ds, rfl, hat, hf, b1⟩
      have M3 := Lib.hid (M2.out.after b1)
      have T3 := Lib.hid hat
      obtain ⟨a, c, e, _⟩ := hat.opens
      subst e
      clear b1 hat
      go_wp2_with (refine wpList_store_row rfl 68 (.tmp 2) (.tmp 22) rfl w.heap.size (reC tt.k tt.f tt.lo tt.hi (.slice a tt.kids.length c)) rfl rfl 68 zeroR M3.out.box.row HI rfl (re_one _ _ _ _ _ _ _) ?_)
      refine bodyPost_ret (v := .agg (reC tt.k tt.f tt.lo tt.hi (.slice a tt.kids.length c))) (results_cell_row (by rfl) _ _ w.heap.size 68 _ (0, 0) _ (by rfl) (M3.out.box.setRow _).row Tryz.underlying68 (by rfl) HI) rfl ?_
      have hsum := hP.out.sum
      have hkd := hf.out.2
      refine Or.inl ⟨tt, _, kk, rfl, (T3.out.setRowS (fun h => by rcases h with h | h; (· have h' : w.heap.size + 1 ≤ w.heap.size := h; omega); (· omega)) _).weakS fun k hk => ?_, Lib.hid ⟨hf.out.1, by omega, hP.out.ge, hP.out.le⟩, M3.out.rd.r.setRow (by omega) _, M3.out.but.setRow (Nat.le_refl _) _⟩
      rcases hk with h | h
      · have h' : w.heap.size + 1 ≤ k := h
        show w.heap.size ≤ k
        omega
      · show w.heap.size ≤ k
        omega
    | true =>
      have hkk := HBt.out rfl
      go_wp2_with fail
      refine HC.out.mono ?_
      rintro e E ⟨rfl, q2, hq2⟩
      have bE : Below wr.heap.size wr E := by rw [hq2]; exact drewN_below wr q2
      clear hq2
      have ME := Lib.hid (hM.out.after bE)
      clear bE
      have c1 := ME.out.rd.r.c1; have z1 := ME.out.rd.r.z 1
      go_upto_region 4 with (fail)
      obtain ⟨D, hD, M1⟩ : ∃ D, D = E.setCell ⟨p, 1, none⟩ (.int .i64 ((kk : Int) + 1)) ∧ Hid (BrMA D w p s (kk + 1) d u3 ts cs) :=
        ⟨_, rfl, Lib.hid ⟨ME.out.rd.go (but_put _ _ _ _) (ME.out.rd.r.put1 (kk + 1)), ME.out.box.but (but_put _ _ _ _) (by omega), ME.out.own.but (but_put _ _ _ _) (by omega), ME.out.but.put _ _⟩⟩
      rw [← hD]
      clear hD c1 z1
      have HC1 := Lib.hid (HBr.out p s (kk + 1) D (by omega) hs M1.out.rd)
      go_wp2_with fail
      refine HC1.out.mono ?_
      rintro e w1 (⟨t, ds, k2, rfl, hat, hf, R1, b1⟩ | hfell)
      rotate_left
      · obtain ⟨a, x, hx0, rfl, b1⟩ := hfell
        have B1 := Lib.hid (M1.out.but.trans b1)
        have HX0 := Lib.hid hx0
        clear b1 hx0
        go_wp2_with fail
        exact ⟨rfl, Or.inr ⟨a, x, HX0.out, rfl, B1.out⟩⟩
      have X1 := Lib.hid (M1.out.box.but b1 (by omega))
      have O1 := Lib.hid (M1.out.own.but b1 (by omega))
      have B1 := Lib.hid (M1.out.but.trans b1)
      have R2 := Lib.hid (M1.out.rd.go b1 R1)
      have T1 := Lib.hid hat
      have hw1 := b1.size
      have hx1 := M1.out.box.lt
      have hvl : Hid (∀ k, u3.ownBlock = some k → k < D.heap.size) := Lib.hid fun k hk => (M1.out.own.row.lt k hk).2
      obtain ⟨a, c, e, _⟩ := hat.opens
      subst e
      clear b1 R1 hat
      have hbe := below_new w1 (.cells (reC t.k t.f t.lo t.hi (.slice a t.kids.length c)) 68)
      have hse : (w1.alloc (.cells (reC t.k t.f t.lo t.hi (.slice a t.kids.length c)) 68)).heap.size = w1.heap.size + 1 := World.size_alloc _ _
      have O2 := Lib.hid (O1.out.after hbe)
      have row5 : Hid ((w1.alloc (.cells (reC t.k t.f t.lo t.hi (.slice a t.kids.length c)) 68)).heap[w1.heap.size]? = some (.cells (reC t.k t.f t.lo t.hi (.slice a t.kids.length c)) 68 (0, 0))) := Lib.hid (heap_alloc_last w1 _)
      obtain ⟨i0, hi0', hz0, hz1, hz2⟩ := info_parts info_re3
      have hdl : Hid (ts.length + 1 ≤ 402) := Lib.hid (by have := hP.out.len; have := hP.out.le; omega)
      have BE := Lib.hid hbe
      clear hbe
      simp only [reC]
      go_wp2_with (at_builtin; refine wpList_append_own_at _ rfl _ _ 66 rfl (w.heap.size + 1) 68 i0 (.agg #[.int .i64 0, .int .u64 0, .int .u64 0, .int .u64 0, .int .u64 0, .int .i64 0, .int .i64 0, .slice none 0 0]) 8 80 Tryz.underlying66 hi0' hz0 hz1 hz2 rfl (by decide) _ _ _ rfl O2.out.row ⟨w1.heap.size, 0, none⟩ 1 1 (reC t.k t.f t.lo t.hi (.slice a t.kids.length c)).toList rfl rfl ?c1 ?c2 ?c3 ?c4 ?c5 ?_)
      case c1 =>
        intro j u hj
        have e : (⟨w1.heap.size, 0, none⟩ : Addr).add j = ⟨w1.heap.size, j, none⟩ := by unfold Addr.add; split <;> simp_all
        rw [e]
        exact (cell_of_row _ _ j _ _ _ row5.out).trans (by simpa using hj)
      case c2 =>
        intro u hu
        have h := re_one t.k t.f t.lo t.hi a t.kids.length c
        rw [Array.all_eq_true_iff_forall_mem] at h
        exact h u (by simpa using hu)
      case c3 => have := hdl.out; unfold maxLen; omega
      case c4 => have := hdl.out; omega
      case c5 => rw [World.size_alloc]; omega
      intro v' w4 hown' hgrow _ hwhere
      have hgrow' : (w1.alloc (.cells (reC t.k t.f t.lo t.hi (.slice a t.kids.length c)) 68)).grownBy w4 _ := hgrow
      have hwhere' : v'.ownBlock = u3.ownBlock ∨ v'.ownBlock = some (w1.alloc (.cells (reC t.k t.f t.lo t.hi (.slice a t.kids.length c)) 68)).heap.size := hwhere.imp id (fun h => by rw [World.size_alloc]; exact h)
      have OW := Lib.hid (O2.out.snoc (T1.out.after BE.out) (by omega) hvl.out hown' hgrow' hwhere')
      have hng : ∀ k, k < w1.heap.size → (∀ j, u3.ownBlock = some j → j ≠ k) → w4.heap[k]? = w1.heap[k]? := fun k hk hne =>
        (hgrow'.block k (by omega) (fun e => hne k e.symm rfl)).trans (BE.out.block k hk)
      have hge3 : ∀ k, u3.ownBlock = some k → w.heap.size + 1 ≤ k := fun k hk => (O2.out.row.lt k hk).1
      have hBw4 : But p w w4 := ⟨hgrow'.os.trans (BE.out.os.trans B1.out.os), hgrow'.tape.trans (BE.out.tape.trans B1.out.tape), hgrow'.output.trans (BE.out.output.trans B1.out.output), Nat.le_trans B1.out.size (Nat.le_trans BE.out.size hgrow'.size), fun k hk hp =>
        (hng k (by omega) (fun j hj e => by have := hge3 j hj; omega)).trans (B1.out.block k hk hp)⟩
      have M4 : Hid (BrMA w4 w p s k2 d v' (ts ++ [t]) (fun j => if j = ts.length then reC t.k t.f t.lo t.hi (.slice a t.kids.length c) else cs j)) := Lib.hid ⟨HX.out.go hBw4 ⟨by
          rw [hng p (by omega) (fun j hj e => by have := hge3 j hj; omega)]; exact R2.out.r.row⟩, ⟨by
          rw [hng _ (by omega) (fun j hj e => by have := hge3 j hj; omega)]; exact X1.out.row⟩, OW.out, hBw4⟩
      have hf1 := hf.out.2.1
      have hf2 := hf.out.2.2.1
      have hf3 := hf.out.2.2.2
      have P4 := Lib.hid (hP.out.more hf.out.1 (t := t) (k2 := k2) (by omega) (by omega) hf3)
      clear hown' hgrow hgrow' hwhere hwhere' hng hge3 hBw4
      go_wp2_with fail
      go_roundg (s.size - k2)
      case measure => have := hq.out; omega
      case rel => exact ⟨ts ++ [t], k2, _, Lib.hid rfl, P4, M4⟩

/-- Patterns in so many brackets. -/
theorem patA (m : Nat) : ∀ d, d + m = 20 → PatA d := by
  induction m with
  | zero =>
    intro d hd
    exact patternA d (branchA d (pieceA d fun p s k w hk hs hx => atomA d (fun h => by omega) (by omega) p s k w hk hs hx))
  | succ m ih =>
    intro d hd
    exact patternA d (branchA d (pieceA d fun p s k w hk hs hx => atomA d (fun _ => ih (d + 1) (by omega)) (by omega) p s k w hk hs hx))
end Go.Proofs.YtcojnkjcbopnbaaGreatDoor
