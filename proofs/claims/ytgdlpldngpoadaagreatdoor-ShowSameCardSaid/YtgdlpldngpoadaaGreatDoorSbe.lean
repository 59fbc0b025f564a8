/- Merged by program: LexLw, SyN, SyO. -/
import Derived.Defers
import Derived.Recover
import Derived.Test.YtgdlpldngpoadaaGreatDoorSbd
import Derived.Test.YtgdlpldngpoadaaGreatDoorSbb
import Derived.Test.YtgdlpldngpoadaaGreatDoorSbc
/- lex.Words of any text (LexLv's, by itself). -/
namespace Go.Proofs.YtgdlpldngpoadaaGreatDoor
open Go.RowKit

theorem words_any (s : ByteArray) (hs : s.size ≤ 9223372036854775807) (w : World) :
    Calls Tryz.prog 74 #[.string s] w (OutW w (wordsTop s.data.toList)) := by
  unfold wordsTop
  by_cases h : 8000 < s.size
  · rw [if_pos (by rw [← Lib.size_eq]; exact h)]
    refine (words_long s h hs w).mono ?_
    rintro e w' ⟨rfl, hb⟩
    exact ⟨hb, rfl⟩
  · rw [if_neg (by rw [← Lib.size_eq]; exact h)]
    exact words_walk s (by omega) w
theorem words_is (s : ByteArray) (l : List Tp) (n : Nat) (hl : wordsTop s.data.toList = .ok l) (hn : l.length = n) (hs : s.size ≤ 9223372036854775807) (w : World) :
    Calls Tryz.prog 74 #[.string s] w fun e w' => ∃ g cap, e = .returned (.tuple #[.slice (some ⟨g, 0, none⟩) n cap, .int .i64 0, .int .i64 0]) ∧ Hid (ToksAt w' g cap l) ∧ Below w.heap.size w w' := by
  subst hn
  refine (words_any s hs w).mono ?_
  rintro e w' ⟨hb, ho⟩
  rw [hl] at ho
  obtain ⟨g, cap, rfl, ht⟩ := ho
  exact ⟨g, cap, rfl, Lib.hid ht, hb⟩

end Go.Proofs.YtgdlpldngpoadaaGreatDoor

/- syntax.reader reads an expression, where nothing is wrong: read, Expr (gen_sy.py). -/
namespace Go.Proofs.YtgdlpldngpoadaaGreatDoor
open Go.RowKit
variable {m : Nat}

set_option maxRecDepth 100000 in
theorem sread_idle (a b : Addr) (w : World) :
    CallsD Tryz.prog 75 #[.pointer (some a), .pointer (some b)] .returning w fun e u' w' => e = .returned (.tuple #[]) ∧ u' = .returning ∧ w' = w := by
  refine callsD_of_wpS Tryz.func75 rfl fun c₀ cs hu => ?_
  apply wpS_seq
  apply wpS_region
  simp [wpOpsS, go_sem, recoverD, hu, Tryz.ntmps75, Exit.thenS]
  refine wpS_of_wp ?_
  go_wp2_with fail
  cases c₀
  simp_all [bodyPostS, results, Tryz.results75]
set_option maxRecDepth 100000 in
set_option maxHeartbeats 1000000 in
theorem qtop (X : Tx) (k k' : Nat) (t : Nd) (T : Tp) (hT : X.L[k']? = some T) (h0 : (T.1 == 0) = true) (hin : QReads m 38 X k t k') : QReads m 37 X k t k' := by
  intro w B d h hd1 hd2
  have HI := info_nd
  obtain ⟨W, hW, HR, HWs⟩ := rq_new w B X k d h
  have HD := Lib.hid (And.intro hd1 hd2)
  have HIn := Lib.hid (fun w h => hin w B d h hd1 hd2)
  have HEn := Lib.hid (fun w (h : QS w B X k' d) => qend w B X k' d h T hT h0)
  clear h hd1 hd2 hin hT h0
  go_enter Tryz.func37, Tryz.ntmps37
  go_upto_region 1 with (fail)
  change Code.wp _ _ _ _ (w.alloc (.cells zeroN 25))
  rw [← hW]
  clear hW
  have HU : Hid (w.heap.size < W.heap.size) := Lib.hid HR.out.res.lt
  go_wp2_with fail
  refine (HIn.out _ HR.out.qs).mono ?_
  rintro e w1 ⟨cs, rfl, hA, hP, hBt⟩
  obtain ⟨xa, xc, ya, yc, hcs, _⟩ := hA.opens
  subst hcs
  have HRa1 := Lib.hid (HR.out.on hP hBt)
  have HBa1 := Lib.hid hBt
  have HA1 := Lib.hid hA
  clear hA hP hBt
  go_upto_region 2 with (refine wpList_store_row rfl 25 (.tmp 3) (.tmp 5) rfl w1.heap.size (ndC t.k t.s t.n t.a (.slice xa t.kids.length xc) (.slice ya t.p.length yc)) rfl rfl 25 zeroN (heap_alloc_last _ _) HI rfl (nd_one _ _ _ _ _ _ _ _ _ _) ?_)
  obtain ⟨V1, hV1, HR1, TB1, BV1⟩ := tb_new HRa1.out (u := W) (by have := HU.out; omega) (by have := HU.out; omega) HA1.out
  change Code.wp _ _ _ _ ((w1.alloc (Obj.cells zeroN 25)).setRow w1.heap.size (ndC t.k t.s t.n t.a (.slice xa t.kids.length xc) (.slice ya t.p.length yc)))
  rw [← hV1]
  obtain ⟨xb, hxb⟩ : ∃ xb, xb = w1.heap.size := ⟨_, rfl⟩
  rw [← hxb] at TB1 ⊢
  clear hV1 hxb HRa1 HA1
  go_wp2_with fail
  refine (HEn.out _ HR1.out.qs).mono ?_
  rintro e w2 ⟨rfl, b2⟩
  have HR2 := Lib.hid (HR1.out.after b2)
  have TB2 := Lib.hid (TB1.out.after b2)
  clear b2
  obtain ⟨e0, e1, e2, e3, e4, e5⟩ := six_nd TB2.out.six
  go_wp2_with (refine wpList_store_row rfl 25 (.tmp 2) (.tmp 8) rfl w.heap.size (ndC t.k t.s t.n t.a (.slice xa t.kids.length xc) (.slice ya t.p.length yc)) rfl rfl 25 zeroN HR2.out.res.row HI rfl (nd_one _ _ _ _ _ _ _ _ _ _) ?_)
  refine bodyPost_ret (v := .agg (ndC t.k t.s t.n t.a (.slice xa t.kids.length xc) (.slice ya t.p.length yc))) (results_cell_row (by rfl) _ _ (w.heap.size) 25 _ (0, 0) _ (by rfl) (HR2.out.res.setRow _).row Tryz.underlying25 (by rfl) HI) rfl ?_
  exact TB2.out.ret HR2.out

/-- The three results' variables. -/
structure R3 (w V : World) (cs : Array Value) : Prop where
  nx : Box V w.heap.size cs
  ax : V.heap[w.heap.size + 1]? = some (.cells #[.int .i64 0] 3 (0, 0))
  ex : V.heap[w.heap.size + 1 + 1]? = some (.cells #[.int .i64 0] 28 (0, 0))
  below : Below w.heap.size w V
theorem R3.lt {w V : World} {cs : Array Value} (h : R3 w V cs) : w.heap.size + 3 ≤ V.heap.size := (Array.getElem?_eq_some_iff.1 h.ex).1
theorem R3.bt {w V W : World} {cs : Array Value} (h : R3 w V cs) {p : Nat} (hb : Bt p V W) (hp : w.heap.size + 3 ≤ p) : R3 w W cs := by
  have hl := h.lt
  exact ⟨h.nx.bt hb (by omega), by rw [hb.block _ (by omega) (by omega)]; exact h.ax, by rw [hb.block _ (by omega) (by omega)]; exact h.ex, ⟨hb.os.trans h.below.os, hb.tape.trans h.below.tape, hb.output.trans h.below.output, Nat.le_trans h.below.size hb.size, fun i hi => (hb.block i (by omega) (by omega)).trans (h.below.block i hi)⟩⟩
theorem R3.after {w V W : World} {cs : Array Value} (h : R3 w V cs) (hb : Below V.heap.size V W) : R3 w W cs := h.bt (p := V.heap.size) (.of hb) h.lt
theorem r3_new (w : World) : ∃ W, W = ((w.alloc (.cells zeroN 25)).alloc (.cells #[.int .i64 0] 3)).alloc (.cells #[.int .i64 0] 28) ∧ Hid (R3 w W zeroN) := by
  have s1 : (w.alloc (.cells zeroN 25)).heap.size = w.heap.size + 1 := World.size_alloc _ _
  have s2 : ((w.alloc (.cells zeroN 25)).alloc (.cells #[.int .i64 0] 3)).heap.size = w.heap.size + 1 + 1 := by rw [World.size_alloc, s1]
  have b1 := below_new w (.cells zeroN 25)
  have b2 := below_new (w.alloc (.cells zeroN 25)) (.cells #[.int .i64 0] 3)
  have b3 := below_new ((w.alloc (.cells zeroN 25)).alloc (.cells #[.int .i64 0] 3)) (.cells #[.int .i64 0] 28)
  have h2 := heap_alloc_last (w.alloc (.cells zeroN 25)) (.cells #[.int .i64 0] 3)
  have h3 := heap_alloc_last ((w.alloc (.cells zeroN 25)).alloc (.cells #[.int .i64 0] 3)) (.cells #[.int .i64 0] 28)
  rw [s1] at h2
  rw [s2] at h3
  exact ⟨_, rfl, Lib.hid ⟨((box_new w zeroN).after b2).after b3, (b3.block (w.heap.size + 1) (by omega)).trans h2, h3, Below.step (Below.step b1 b2) b3⟩⟩
theorem setCell_one (w : World) (b : Nat) (v : Value) (T : TypeId) (h : w.heap[b]? = some (.cells #[v] T (0, 0))) (u : Value) : (w.setCell ⟨b, 0, none⟩ u).heap[b]? = some (.cells #[u] T (0, 0)) := by
  rw [heap_setCell_same _ _ 0 _ _ _ h]; rfl
theorem R3.put {w V : World} {cs : Array Value} (h : R3 w V cs) (ds : Array Value) : R3 w (V.setRow w.heap.size ds) ds := by
  have hl := h.lt
  have b1 := bt_row V w.heap.size ds
  exact ⟨h.nx.setRow _, by rw [b1.block _ (by omega) (by omega)]; exact h.ax, by rw [b1.block _ (by omega) (by omega)]; exact h.ex, below_setRow h.below (Nat.le_refl _) _⟩
theorem toks_one {w : World} {g c : Nat} {L : List Tp} (h : ToksAt w g c L) (hL : 0 < L.length) : ∃ s, w.cell? ⟨g, 1, none⟩ = some (.string s) := by
  cases L with
  | nil => simp at hL
  | cons T L => exact ⟨_, h.cell 1 _ rfl⟩
/-- The places of the fault and of the error are stored once more. -/
theorem R3.again {w V : World} {cs : Array Value} (h : R3 w V cs) : R3 w ((V.setCell ⟨w.heap.size + 1, 0, none⟩ (.int .i64 0)).setCell ⟨w.heap.size + 1 + 1, 0, none⟩ (.int .i64 0)) cs := by
  have hl := h.lt
  have b1 := bt_set V (w.heap.size + 1) 0 (.int .i64 0)
  have b2 := bt_set (V.setCell ⟨w.heap.size + 1, 0, none⟩ (.int .i64 0)) (w.heap.size + 1 + 1) 0 (.int .i64 0)
  have e1 := setCell_one V _ _ _ h.ax (.int .i64 0)
  have e2 : (V.setCell ⟨w.heap.size + 1, 0, none⟩ (.int .i64 0)).heap[w.heap.size + 1 + 1]? = some (.cells #[.int .i64 0] 28 (0, 0)) := by rw [b1.block _ (by omega) (by omega)]; exact h.ex
  exact ⟨(h.nx.bt b1 (by omega)).bt b2 (by omega), by rw [b2.block _ (by have := b1.size; omega) (by omega)]; exact e1, setCell_one _ _ _ _ e2 _, ⟨h.below.os, h.below.tape, h.below.output, by rw [World.size_setCell, World.size_setCell]; exact h.below.size, fun i hi => by
    have := h.below.size
    rw [b2.block i (by have := b1.size; omega) (by omega), b1.block i (by omega) (by omega)]; exact h.below.block i hi⟩⟩
set_option maxRecDepth 100000 in
set_option maxHeartbeats 2000000 in
theorem sread (s : ByteArray) (hs : s.size ≤ 9223372036854775807) (L : List Tp) (hL : wordsTop s.data.toList = .ok L) (hL0 : 0 < L.length) (hL2 : L.length ≤ 3001) (hno : ∀ (i : Nat) (T : Tp), L[i]? = some T → sgB [⟨#[44]⟩] T = false) (t : Nd) (k' : Nat)
    (hin : QReads m 37 ⟨L, scanC 0 L [] (List.replicate L.length 0), List.replicate L.length false⟩ 0 t k') (hm : m ≤ 100) (w : World) :
    Calls Tryz.prog 36 #[.string s, .func (.func 37) #[] #[]] w fun e w' => ∃ cs, e = .returned (.tuple #[.agg cs, .int .i64 0, .int .i64 0]) ∧ At w' (Up w.heap.size) t cs ∧ Below w.heap.size w w' := by
  have hmf := hmf
  have HI := info_nd
  have HWd := Lib.hid (fun w => words_is s L L.length hL rfl hs w)
  have HNR := Lib.hid (fun w g c ht => newReader_spec L hL0 hL2 hno w g c ht)
  have HIn := Lib.hid (fun w B h => hin w B (-1) h (by omega) (by omega))
  have HLp := Lib.hid hL0
  clear hL hL0 hL2 hno hin hs hm
  obtain ⟨W, hW, HR⟩ := r3_new w
  have a1 : W.cell? ⟨w.heap.size + 1, 0, none⟩ = some (.int .i64 0) := cell_of_row _ _ 0 _ _ _ HR.out.ax
  have a2 : W.cell? ⟨w.heap.size + 1 + 1, 0, none⟩ = some (.int .i64 0) := cell_of_row _ _ 0 _ _ _ HR.out.ex
  go_enter_defers Tryz.func36, Tryz.ntmps36
  go_upto_region 1 with (fail)
  change Code.wp _ _ _ _ (((w.alloc (.cells zeroN 25)).alloc (.cells #[.int .i64 0] 3)).alloc (.cells #[.int .i64 0] 28))
  rw [← hW]
  clear hW
  go_wp2_with fail
  refine (HWd.out _).mono ?_
  rintro e w1 ⟨g, cap, rfl, ht, b1⟩
  have HR1 := Lib.hid (HR.out.after b1)
  clear b1 a1 a2
  have a1 : w1.cell? ⟨w.heap.size + 1, 0, none⟩ = some (.int .i64 0) := cell_of_row _ _ 0 _ _ _ HR1.out.ax
  have a2 : w1.cell? ⟨w.heap.size + 1 + 1, 0, none⟩ = some (.int .i64 0) := cell_of_row _ _ 0 _ _ _ HR1.out.ex
  have z1 : w1.frozen? ⟨w.heap.size + 1, 0, none⟩ = false := frozen_of_row _ _ 0 _ _ HR1.out.ax
  have z2 : w1.frozen? ⟨w.heap.size + 1 + 1, 0, none⟩ = false := frozen_of_row _ _ 0 _ _ HR1.out.ex
  go_upto_region 2 with (fail)
  obtain ⟨V, hV, HV, HTV⟩ : ∃ V, V = (w1.setCell ⟨w.heap.size + 1, 0, none⟩ (.int .i64 0)).setCell ⟨w.heap.size + 1 + 1, 0, none⟩ (.int .i64 0) ∧ Hid (R3 w V zeroN) ∧ Hid (ToksAt V g cap L) := ⟨_, rfl, Lib.hid HR1.out.again, Lib.hid (by
    have hT := ht.out
    obtain ⟨s1, hc⟩ := toks_one hT HLp.out
    have n1 : g ≠ w.heap.size + 1 := fun e => by rw [e, cell_of_row _ _ 1 _ _ _ HR1.out.ax] at hc; simp at hc
    have n2 : g ≠ w.heap.size + 1 + 1 := fun e => by rw [e, cell_of_row _ _ 1 _ _ _ HR1.out.ex] at hc; simp at hc
    have c1 := bt_set w1 (w.heap.size + 1) 0 (.int .i64 0)
    have c2 := bt_set (w1.setCell ⟨w.heap.size + 1, 0, none⟩ (.int .i64 0)) (w.heap.size + 1 + 1) 0 (.int .i64 0)
    exact (hT.keep (c1.block g hT.lt n1) c1.size).keep (c2.block g (Nat.lt_of_lt_of_le hT.lt c1.size) n2) c2.size)⟩
  rw [← hV]
  clear hV a1 a2 z1 z2 ht HR1
  have a2 : V.cell? ⟨w.heap.size + 1 + 1, 0, none⟩ = some (.int .i64 0) := cell_of_row _ _ 0 _ _ _ HV.out.ex
  go_wp2_with fail
  refine (HNR.out _ _ _ HTV.out).mono ?_
  rintro e w2 ⟨B, rfl, hQ, hB, hlow⟩
  have HV2 := Lib.hid (HV.out.after hB.out)
  have HQ2 := hQ
  have HLo : Hid (w.heap.size + 3 ≤ B.p) := Lib.hid (by have := hlow.out.1; have := HV.out.lt; omega)
  clear hQ hB hlow a2
  go_wp2_with fail
  refine (HIn.out _ _ HQ2.out).mono ?_
  rintro e w3 ⟨cs, rfl, hA, hP, hBt⟩
  obtain ⟨xa, xc, ya, yc, hcs, _⟩ := hA.opens
  subst hcs
  have HV3 := Lib.hid (HV2.out.bt hBt HLo.out)
  have HA3 : Hid (At w3 (Up (w.heap.size + 3)) t (ndC t.k t.s t.n t.a (.slice xa t.kids.length xc) (.slice ya t.p.length yc))) := Lib.hid (hA.weak (by have := HV2.out.lt; omega))
  clear hA hP hBt
  have a1 : (w3.setRow w.heap.size (ndC t.k t.s t.n t.a (.slice xa t.kids.length xc) (.slice ya t.p.length yc))).cell? ⟨w.heap.size + 1, 0, none⟩ = some (.int .i64 0) := by rw [World.cell?_of_block (w := w3) (Go.setRow_other _ _ _ _ (by show w.heap.size + 1 ≠ _; omega))]; exact cell_of_row _ _ 0 _ _ _ HV3.out.ax
  have z1 : (w3.setRow w.heap.size (ndC t.k t.s t.n t.a (.slice xa t.kids.length xc) (.slice ya t.p.length yc))).frozen? ⟨w.heap.size + 1, 0, none⟩ = false := by rw [World.frozen?_of_block (w := w3) (Go.setRow_other _ _ _ _ (by show w.heap.size + 1 ≠ _; omega))]; exact frozen_of_row _ _ 0 _ _ HV3.out.ax
  have a2 : (w3.setRow w.heap.size (ndC t.k t.s t.n t.a (.slice xa t.kids.length xc) (.slice ya t.p.length yc))).cell? ⟨w.heap.size + 1 + 1, 0, none⟩ = some (.int .i64 0) := by rw [World.cell?_of_block (w := w3) (Go.setRow_other _ _ _ _ (by show w.heap.size + 1 + 1 ≠ _; omega))]; exact cell_of_row _ _ 0 _ _ _ HV3.out.ex
  have z2 : (w3.setRow w.heap.size (ndC t.k t.s t.n t.a (.slice xa t.kids.length xc) (.slice ya t.p.length yc))).frozen? ⟨w.heap.size + 1 + 1, 0, none⟩ = false := by rw [World.frozen?_of_block (w := w3) (Go.setRow_other _ _ _ _ (by show w.heap.size + 1 + 1 ≠ _; omega))]; exact frozen_of_row _ _ 0 _ _ HV3.out.ex
  go_wp2_with (refine wpList_store_row rfl 25 (.tmp 4) (.tmp 23) rfl w.heap.size (ndC t.k t.s t.n t.a (.slice xa t.kids.length xc) (.slice ya t.p.length yc)) rfl rfl 25 zeroN HV3.out.nx.row HI rfl (nd_one _ _ _ _ _ _ _ _ _ _) ?_)
  obtain ⟨Z, hZ, HZ, HAZ⟩ : ∃ Z, Z = ((w3.setRow w.heap.size (ndC t.k t.s t.n t.a (.slice xa t.kids.length xc) (.slice ya t.p.length yc))).setCell ⟨w.heap.size + 1, 0, none⟩ (.int .i64 0)).setCell ⟨w.heap.size + 1 + 1, 0, none⟩ (.int .i64 0) ∧ Hid (R3 w Z (ndC t.k t.s t.n t.a (.slice xa t.kids.length xc) (.slice ya t.p.length yc))) ∧ Hid (At Z (Up (w.heap.size + 3)) t (ndC t.k t.s t.n t.a (.slice xa t.kids.length xc) (.slice ya t.p.length yc))) := ⟨_, rfl, Lib.hid (HV3.out.put _).again, Lib.hid (by
    refine HA3.out.keep fun k hk hl => ?_
    have hk2 : w.heap.size + 3 ≤ k := hk
    have c1 := bt_set (w3.setRow w.heap.size (ndC t.k t.s t.n t.a (.slice xa t.kids.length xc) (.slice ya t.p.length yc))) (w.heap.size + 1) 0 (.int .i64 0)
    have c2 := bt_set ((w3.setRow w.heap.size (ndC t.k t.s t.n t.a (.slice xa t.kids.length xc) (.slice ya t.p.length yc))).setCell ⟨w.heap.size + 1, 0, none⟩ (.int .i64 0)) (w.heap.size + 1 + 1) 0 (.int .i64 0)
    have c0 := bt_row w3 w.heap.size (ndC t.k t.s t.n t.a (.slice xa t.kids.length xc) (.slice ya t.p.length yc))
    rw [c2.block k (by have := c1.size; have := c0.size; omega) (by omega), c1.block k (by have := c0.size; omega) (by omega), c0.block k hl (by omega)])⟩
  rw [← hZ]
  clear hZ a1 a2 z1 z2
  refine leaves_cons (f := 75) (args := #[.pointer (some ⟨w.heap.size + 1, 0, none⟩), .pointer (some ⟨w.heap.size + 1 + 1, 0, none⟩)]) (by simp) (by simp [go_sem]) ?_
  refine (sread_idle ⟨w.heap.size + 1, 0, none⟩ ⟨w.heap.size + 1 + 1, 0, none⟩ Z).mono ?_
  rintro e u' w'' ⟨rfl, rfl, rfl⟩
  obtain ⟨d0, d1, d2, d3, d4, d5⟩ := six_nd HZ.out.nx.six
  have eA : w''.cell? ⟨w.heap.size + 1, 0, none⟩ = some (.int .i64 0) := cell_of_row _ _ 0 _ _ _ HZ.out.ax
  have eE : w''.cell? ⟨w.heap.size + 1 + 1, 0, none⟩ = some (.int .i64 0) := cell_of_row _ _ 0 _ _ _ HZ.out.ex
  refine ⟨.tuple #[.agg (ndC t.k t.s t.n t.a (.slice xa t.kids.length xc) (.slice ya t.p.length yc)), .int .i64 0, .int .i64 0], ?_, ?_⟩
  · simp [results, Tryz.results36, go_sem, d0, d1, d2, d3, d4, d5, eA, eE, ndC]
  · exact ⟨_, rfl, HAZ.out.weak (by omega), HZ.out.below⟩
set_option maxRecDepth 100000 in
set_option maxHeartbeats 1000000 in
theorem sexpr (s : ByteArray) (hs : s.size ≤ 9223372036854775807) (L : List Tp) (hL : wordsTop s.data.toList = .ok L) (hL0 : 0 < L.length) (hL2 : L.length ≤ 3001) (hno : ∀ (i : Nat) (T : Tp), L[i]? = some T → sgB [⟨#[44]⟩] T = false) (t : Nd) (k' : Nat) (T : Tp) (hT : L[k']? = some T) (h0 : (T.1 == 0) = true)
    (hin : QReads m 38 ⟨L, scanC 0 L [] (List.replicate L.length 0), List.replicate L.length false⟩ 0 t k') (hm : m ≤ 100) (w : World) :
    Calls Tryz.prog 17 #[.string s] w fun e w' => ∃ cs, e = .returned (.tuple #[.agg cs, .int .i64 0, .int .i64 0]) ∧ At w' (Up w.heap.size) t cs ∧ Below w.heap.size w w' := by
  have HI := info_nd
  have HRd := Lib.hid (fun w => sread s hs L hL hL0 hL2 hno t k' (qtop _ 0 k' t T hT h0 hin) hm w)
  clear hs hL hL0 hL2 hno hT h0 hin hm
  obtain ⟨W, hW, hX, hB, hsz⟩ := nd_box w zeroN
  go_enter Tryz.func17, Tryz.ntmps17
  go_upto_region 1 with (fail)
  change Code.wp _ _ _ _ (w.alloc (Obj.cells zeroN 25))
  rw [← hW]
  clear hW
  go_wp2_with fail
  refine (HRd.out _).mono ?_
  rintro e w1 ⟨cs, rfl, hA, b1⟩
  obtain ⟨xa, xc, ya, yc, hcs, _⟩ := hA.opens
  subst hcs
  have HX := Lib.hid (hX.out.after b1)
  have HA := Lib.hid hA
  have B1 := Lib.hid (Below.step hB.out b1)
  clear hA b1
  go_wp2_with (refine wpList_store_row rfl 25 (.tmp 2) (.tmp 7) rfl w.heap.size (ndC t.k t.s t.n t.a (.slice xa t.kids.length xc) (.slice ya t.p.length yc)) rfl rfl 25 zeroN HX.out.row HI rfl (nd_one _ _ _ _ _ _ _ _ _ _) ?_)
  obtain ⟨Z, hZ, HZ⟩ : ∃ Z, Z = w1.setRow w.heap.size (ndC t.k t.s t.n t.a (.slice xa t.kids.length xc) (.slice ya t.p.length yc)) ∧ Hid (Box Z w.heap.size (ndC t.k t.s t.n t.a (.slice xa t.kids.length xc) (.slice ya t.p.length yc))) := ⟨_, rfl, Lib.hid (HX.out.setRow _)⟩
  have HF : Hid (At Z (Up w.heap.size) t (ndC t.k t.s t.n t.a (.slice xa t.kids.length xc) (.slice ya t.p.length yc)) ∧ Below w.heap.size w Z) := Lib.hid ⟨by rw [hZ]; exact (HA.out.keep fun k hk hl => (bt_row w1 w.heap.size _).block k hl (by have h1 : W.heap.size ≤ k := hk; have := hsz.out; omega)).weak (by have := hsz.out; omega), by rw [hZ]; exact below_setRow B1.out (Nat.le_refl _) _⟩
  rw [← hZ]
  clear hZ
  obtain ⟨d0, d1, d2, d3, d4, d5⟩ := six_nd HZ.out.six
  refine bodyPost_ret (v := .tuple #[.agg (ndC t.k t.s t.n t.a (.slice xa t.kids.length xc) (.slice ya t.p.length yc)), .int .i64 0, .int .i64 0]) ?_ rfl ?_
  · simp [results, Tryz.results17, go_sem, d0, d1, d2, d3, d4, d5, ndC]
  · exact ⟨_, rfl, HF.out.1, HF.out.2⟩
end Go.Proofs.YtgdlpldngpoadaaGreatDoor

/- syntax.reader reads an expression, where nothing is wrong: the tree of x = (y (z + 1)) (gen_sy.py). -/
namespace Go.Proofs.YtgdlpldngpoadaaGreatDoor
open Go.RowKit
variable {m : Nat}

/-- A token behind which nothing goes on that is within an expression. -/
structure Quiet (T : Tp) : Prop where
  mu : sgB [⟨#[42]⟩, ⟨#[47]⟩, ⟨#[37]⟩] T = false
  pl : sgB [⟨#[43]⟩, ⟨#[45]⟩] T = false
  cm : sgB [⟨#[60]⟩, ⟨#[60, 61]⟩, ⟨#[61, 61]⟩, ⟨#[33, 61]⟩, ⟨#[62, 61]⟩] T = false
  gt : sgB [⟨#[62]⟩] T = false
  ti : sgB [⟨#[126]⟩, ⟨#[33, 126]⟩] T = false
  an : sgB [⟨#[38, 38]⟩] T = false
  or : sgB [⟨#[124, 124]⟩] T = false
  qu : sgB [⟨#[63]⟩] T = false
  st : sgB [⟨#[43, 43]⟩, ⟨#[45, 45]⟩] T = false
  jo : sgB [⟨#[36]⟩, ⟨#[40]⟩, ⟨#[43, 43]⟩, ⟨#[45, 45]⟩] T = false
  k2 : (T.1 == 2) = false
  k3 : (T.1 == 3) = false
  k5 : (T.1 == 5) = false
  k6 : (T.1 == 6) = false
  k7 : (T.1 == 7) = false
  k8 : (T.1 == 8) = false
theorem Quiet.no {T : Tp} (q : Quiet T) {X : Tx} {k : Nat} (hT : X.L[k]? = some T) : ∀ w B d, QS w B X k d → Calls Tryz.prog 110 #[.pointer (some ⟨B.p, 0, none⟩)] w fun e w' => e = .returned (.bool false) ∧ Below w.heap.size w w' :=
  fun w B d h => qanother_sign w B X k d h T hT q.k2 q.k3 q.k5 q.k6 q.k8 false q.jo
/-- From a cat to a cond. -/
theorem qup (X : Tx) (k k' : Nat) (t : Nd) (U T : Tp) (hU : X.L[k]? = some U) (hT : X.L[k']? = some T) (q : Quiet T) (hb : sgB [⟨#[40]⟩] U = false ∨ (sgB [⟨#[40]⟩] U = true ∧ X.M[k]? = some false)) (h : QReads m 211 X k t k') : QReads m 83 X k t k' := by
  have h1 := qmatch_one X k k' t T hT q.ti (qcmp_one X k k' t T hT q.cm q.gt h)
  have h2 : QReads m 172 X k t k' := by
    rcases hb with hb | hb
    · exact qin_plain X k k' t U T hU hT hb q.k7 h1
    · exact qin_open X k k' t U T hU hT hb.1 hb.2 q.k7 h1
  exact qcond_one X k k' t T hT q.qu (qor_one X k k' t T hT q.or (qand_one X k k' t T hT q.an h2))
/-- A name. -/
structure NameT (T : Tp) : Prop where
  k2 : (T.1 == 2) = false
  k3 : (T.1 == 3) = false
  k5 : (T.1 == 5) = true
  ne : sgB [⟨#[33]⟩, ⟨#[45]⟩, ⟨#[43]⟩] T = false
  dl : sgB [⟨#[36]⟩] T = false
theorem NameT.yes {T : Tp} (q : NameT T) {X : Tx} {k : Nat} (hT : X.L[k]? = some T) : ∀ w B d, QS w B X k d → Calls Tryz.prog 110 #[.pointer (some ⟨B.p, 0, none⟩)] w fun e w' => e = .returned (.bool true) ∧ Below w.heap.size w w' :=
  fun w B d h => qanother_name w B X k d h T hT q.k2 q.k3 q.k5
theorem qplaceN (X : Tx) (k : Nat) (T U : Tp) (hT : X.L[k]? = some T) (hU : X.L[k + 1]? = some U) (q : NameT T) (hz : sgB [⟨#[91]⟩] U = false) : QReads m 115 X k (.mk 3 ⟨T.2.1.toArray⟩ 0 (T.2.2 : Nat) [] []) (k + 1) :=
  qplace_name X k T U hT hU (List.getElem?_eq_some_iff.1 hU).1 q.k5 q.dl hz
theorem qunaryN (X : Tx) (k : Nat) (T U : Tp) (hT : X.L[k]? = some T) (hU : X.L[k + 1]? = some U) (q : NameT T) (hz : sgB [⟨#[91]⟩] U = false) (hs : sgB [⟨#[43, 43]⟩, ⟨#[45, 45]⟩] U = false) : QReads m 222 X k (.mk 3 ⟨T.2.1.toArray⟩ 0 (T.2.2 : Nat) [] []) (k + 1) :=
  qunary X k (k + 1) _ T hT (fun w B d h => q.yes hT w B d h) q.ne (qpost_place X k (k + 1) _ T U hT hU q.k5 hs (qplaceN X k T U hT hU q hz))
/-- A bracket that opens. -/
structure OpenT (T : Tp) : Prop where
  k2 : (T.1 == 2) = false
  k3 : (T.1 == 3) = false
  k4 : (T.1 == 4) = false
  k5 : (T.1 == 5) = false
  k6 : (T.1 == 6) = false
  k7 : (T.1 == 7) = false
  k8 : (T.1 == 8) = false
  jo : sgB [⟨#[36]⟩, ⟨#[40]⟩, ⟨#[43, 43]⟩, ⟨#[45, 45]⟩] T = true
  ne : sgB [⟨#[33]⟩, ⟨#[45]⟩, ⟨#[43]⟩] T = false
  dl : sgB [⟨#[36]⟩] T = false
  st : sgB [⟨#[43, 43]⟩, ⟨#[45, 45]⟩] T = false
  op : sgB [⟨#[40]⟩] T = true
theorem OpenT.yes {T : Tp} (q : OpenT T) {X : Tx} {k : Nat} (hT : X.L[k]? = some T) : ∀ w B d, QS w B X k d → Calls Tryz.prog 110 #[.pointer (some ⟨B.p, 0, none⟩)] w fun e w' => e = .returned (.bool true) ∧ Below w.heap.size w w' :=
  fun w B d h => qanother_sign w B X k d h T hT q.k2 q.k3 q.k5 q.k6 q.k8 true q.jo
theorem qunaryB (X : Tx) (k k' : Nat) (t : Nd) (T U V : Tp) (hT : X.L[k]? = some T) (hU : X.L[k']? = some U) (hV : X.L[k' + 1]? = some V) (q : OpenT T) (hy : sgB [⟨#[41]⟩] U = true) (h : QReads m 38 X (k + 1) t k') (hk : k + 1 ≤ k') : QReads m 222 X k (.mk t.k t.s t.n (T.2.2 : Nat) t.kids t.p) (k' + 1) := by
  have hl := (List.getElem?_eq_some_iff.1 hV).1
  exact qunary X k (k' + 1) _ T hT (fun w B d h => q.yes hT w B d h) q.ne (qpost_step X k (k' + 1) _ T hT q.k5 q.dl (qstepped X k (k' + 1) _ T hT q.st (qprim_group X k (k' + 1) _ T hT q.k2 q.k3 q.k4 q.k6 q.k8
    (qgrouped X k (k' + 1) t T hT q.k5 q.k7 q.dl (qasked X k k' t T U hT hU (by omega) hl q.op hy h)))))

def xText : ByteArray := ⟨#[120, 32, 61, 32, 40, 121, 32, 40, 122, 32, 43, 32, 49, 41, 41]⟩
def xToks : List Tp := [(5, [120], 0), (9, [61], 2), (9, [40], 4), (5, [121], 5), (9, [40], 7), (5, [122], 8), (9, [43], 10), (2, [49], 12), (9, [41], 13), (9, [41], 14), (0, [], 15)]
theorem xToks_eq : wordsTop xText.data.toList = .ok xToks := by kernel_rfl
def xX : Tx := ⟨xToks, scanC 0 xToks [] (List.replicate xToks.length 0), List.replicate xToks.length false⟩
def xTree : Nd := .mk 6 ⟨#[61]⟩ 0 0 [.mk 3 ⟨#[120]⟩ 0 0 [] [], .mk 13 ⟨#[]⟩ 0 4 [.mk 3 ⟨#[121]⟩ 0 5 [] [], .mk 14 ⟨#[43]⟩ 0 7 [.mk 3 ⟨#[122]⟩ 0 8 [] [], .mk 0 ⟨#[]⟩ 1000000 12 [] []] []] []] []
theorem nx : NameT (5, [120], 0) := ⟨by kernel_rfl, by kernel_rfl, by kernel_rfl, by kernel_rfl, by kernel_rfl⟩
theorem ny : NameT (5, [121], 5) := ⟨by kernel_rfl, by kernel_rfl, by kernel_rfl, by kernel_rfl, by kernel_rfl⟩
theorem nz : NameT (5, [122], 8) := ⟨by kernel_rfl, by kernel_rfl, by kernel_rfl, by kernel_rfl, by kernel_rfl⟩
theorem q8 : Quiet (9, [41], 13) := ⟨by kernel_rfl, by kernel_rfl, by kernel_rfl, by kernel_rfl, by kernel_rfl, by kernel_rfl, by kernel_rfl, by kernel_rfl, by kernel_rfl, by kernel_rfl, by kernel_rfl, by kernel_rfl, by kernel_rfl, by kernel_rfl, by kernel_rfl, by kernel_rfl⟩
theorem q9 : Quiet (9, [41], 14) := ⟨by kernel_rfl, by kernel_rfl, by kernel_rfl, by kernel_rfl, by kernel_rfl, by kernel_rfl, by kernel_rfl, by kernel_rfl, by kernel_rfl, by kernel_rfl, by kernel_rfl, by kernel_rfl, by kernel_rfl, by kernel_rfl, by kernel_rfl, by kernel_rfl⟩
theorem q10 : Quiet (0, [], 15) := ⟨by kernel_rfl, by kernel_rfl, by kernel_rfl, by kernel_rfl, by kernel_rfl, by kernel_rfl, by kernel_rfl, by kernel_rfl, by kernel_rfl, by kernel_rfl, by kernel_rfl, by kernel_rfl, by kernel_rfl, by kernel_rfl, by kernel_rfl, by kernel_rfl⟩
theorem o2 : OpenT (9, [40], 4) := ⟨by kernel_rfl, by kernel_rfl, by kernel_rfl, by kernel_rfl, by kernel_rfl, by kernel_rfl, by kernel_rfl, by kernel_rfl, by kernel_rfl, by kernel_rfl, by kernel_rfl, by kernel_rfl⟩
theorem o4 : OpenT (9, [40], 7) := ⟨by kernel_rfl, by kernel_rfl, by kernel_rfl, by kernel_rfl, by kernel_rfl, by kernel_rfl, by kernel_rfl, by kernel_rfl, by kernel_rfl, by kernel_rfl, by kernel_rfl, by kernel_rfl⟩

theorem x_expr5 (hp : ∀ w : World, Calls Tryz.prog 196 #[.string ⟨#[49]⟩] w fun e w' => e = .returned (.tuple #[.int .i64 1000000, .int .i64 1, .int .i64 0]) ∧ Below w.heap.size w w') :
    QReads (m + 1) 38 xX 5 (.mk 14 ⟨#[43]⟩ 0 8 [.mk 3 ⟨#[122]⟩ 0 8 [] [], .mk 0 ⟨#[]⟩ 1000000 12 [] []] []) 8 := by
  have h5 := qterm_one (m := m) xX 5 6 _ (9, [43], 10) rfl (by kernel_rfl) (qunaryN xX 5 (5, [122], 8) (9, [43], 10) rfl rfl nz (by kernel_rfl) (by kernel_rfl))
  have h7 := qterm_one (m := m) xX 7 8 _ (9, [41], 13) rfl q8.mu (qunary xX 7 8 _ (2, [49], 12) rfl (fun w B d h => qanother_num w B xX 7 d h (2, [49], 12) rfl (by kernel_rfl)) (by kernel_rfl) (qpost_step xX 7 8 _ (2, [49], 12) rfl (by kernel_rfl) (by kernel_rfl) (qstepped xX 7 8 _ (2, [49], 12) rfl (by kernel_rfl) (qprim_num xX 7 (2, [49], 12) 1000000 1 rfl (by decide) (by kernel_rfl) hp))))
  have hc := qcat_one xX 5 8 _ (q8.no rfl) (qsum_two xX 5 6 8 _ _ (9, [43], 10) (9, [41], 13) rfl rfl (by decide) (by kernel_rfl) q8.pl h5 h7)
  exact qexpr xX 5 8 _ (cexpr_cond xX 5 8 _ (nz.yes rfl) (fun w B d h => qisassign w B xX 5 d h (5, [122], 8) rfl (9, [43], 10) rfl nz.k5 (by kernel_rfl) false (by kernel_rfl)) (qup xX 5 8 _ (5, [122], 8) (9, [41], 13) rfl rfl q8 (Or.inl (by kernel_rfl)) hc))
theorem x_expr3 (hp : ∀ w : World, Calls Tryz.prog 196 #[.string ⟨#[49]⟩] w fun e w' => e = .returned (.tuple #[.int .i64 1000000, .int .i64 1, .int .i64 0]) ∧ Below w.heap.size w w') :
    QReads (m + 1 + 1) 38 xX 3 (.mk 13 ⟨#[]⟩ 0 5 [.mk 3 ⟨#[121]⟩ 0 5 [] [], .mk 14 ⟨#[43]⟩ 0 7 [.mk 3 ⟨#[122]⟩ 0 8 [] [], .mk 0 ⟨#[]⟩ 1000000 12 [] []] []] []) 9 := by
  have h3 := qsum_one (m := m + 1) xX 3 4 _ (9, [40], 7) rfl (by kernel_rfl) (qterm_one xX 3 4 _ (9, [40], 7) rfl (by kernel_rfl) (qunaryN xX 3 (5, [121], 5) (9, [40], 7) rfl rfl ny (by kernel_rfl) (by kernel_rfl)))
  have h4 := qsum_one (m := m + 1) xX 4 9 _ (9, [41], 14) rfl q9.pl (qterm_one xX 4 9 _ (9, [41], 14) rfl q9.mu (qunaryB xX 4 8 _ (9, [40], 7) (9, [41], 13) (9, [41], 14) rfl rfl rfl o4 (by kernel_rfl) (x_expr5 (m := m) hp) (by decide)))
  have hc := qcat_two xX 3 4 9 _ _ (o4.yes rfl) (q9.no rfl) h3 h4
  exact qexpr xX 3 9 _ (cexpr_cond xX 3 9 _ (ny.yes rfl) (fun w B d h => qisassign w B xX 3 d h (5, [121], 5) rfl (9, [40], 7) rfl ny.k5 (by kernel_rfl) false (by kernel_rfl)) (qup xX 3 9 _ (5, [121], 5) (9, [41], 14) rfl rfl q9 (Or.inl (by kernel_rfl)) hc))
theorem x_expr2 (hp : ∀ w : World, Calls Tryz.prog 196 #[.string ⟨#[49]⟩] w fun e w' => e = .returned (.tuple #[.int .i64 1000000, .int .i64 1, .int .i64 0]) ∧ Below w.heap.size w w') :
    QReads (m + 1 + 1 + 1) 38 xX 2 (.mk 13 ⟨#[]⟩ 0 4 [.mk 3 ⟨#[121]⟩ 0 5 [] [], .mk 14 ⟨#[43]⟩ 0 7 [.mk 3 ⟨#[122]⟩ 0 8 [] [], .mk 0 ⟨#[]⟩ 1000000 12 [] []] []] []) 10 := by
  have hc := qcat_one (m := m + 1 + 1) xX 2 10 _ (q10.no rfl) (qsum_one xX 2 10 _ (0, [], 15) rfl q10.pl (qterm_one xX 2 10 _ (0, [], 15) rfl q10.mu (qunaryB xX 2 9 _ (9, [40], 4) (9, [41], 14) (0, [], 15) rfl rfl rfl o2 (by kernel_rfl) (x_expr3 (m := m) hp) (by decide))))
  exact qexpr xX 2 10 _ (cexpr_cond xX 2 10 _ (o2.yes rfl) (fun w B d h => qisassign_no w B xX 2 d h (9, [40], 4) rfl o2.k5 o2.dl) (qup xX 2 10 _ (9, [40], 4) (0, [], 15) rfl rfl q10 (Or.inr ⟨by kernel_rfl, by kernel_rfl⟩) hc))
theorem x_expr0 (hp : ∀ w : World, Calls Tryz.prog 196 #[.string ⟨#[49]⟩] w fun e w' => e = .returned (.tuple #[.int .i64 1000000, .int .i64 1, .int .i64 0]) ∧ Below w.heap.size w w') :
    QReads (m + 1 + 1 + 1 + 1) 38 xX 0 xTree 10 :=
  qexpr xX 0 10 _ (cexpr_assign xX 0 10 _ (nx.yes rfl) (fun w B d h => qisassign w B xX 0 d h (5, [120], 0) rfl (9, [61], 2) rfl nx.k5 (by kernel_rfl) true (by kernel_rfl))
    (qassign xX 0 1 10 _ _ (9, [61], 2) (9, [40], 4) rfl rfl (by decide) rfl (by kernel_rfl) (qplaceN xX 0 (5, [120], 0) (9, [61], 2) rfl rfl nx (by kernel_rfl)) (x_expr2 (m := m) hp)))
/-- The program's reading of x = (y (z + 1)). -/
theorem x_read (hp : ∀ w : World, Calls Tryz.prog 196 #[.string ⟨#[49]⟩] w fun e w' => e = .returned (.tuple #[.int .i64 1000000, .int .i64 1, .int .i64 0]) ∧ Below w.heap.size w w') (w : World) :
    Calls Tryz.prog 17 #[.string xText] w fun e w' => ∃ cs, e = .returned (.tuple #[.agg cs, .int .i64 0, .int .i64 0]) ∧ At w' (Up w.heap.size) xTree cs ∧ Below w.heap.size w w' :=
  sexpr xText (by decide) xToks xToks_eq (by decide) (by decide) (fun i T hT => by
    have h : ∀ T ∈ xToks, sgB [⟨#[44]⟩] T = false := by decide
    exact h T (List.mem_of_getElem? hT)) xTree 10 (0, [], 15) rfl (by kernel_rfl) (x_expr0 (m := 0) hp) (by decide) w
end Go.Proofs.YtgdlpldngpoadaaGreatDoor
