/- Merged by program: SyC, SyD. -/
import Derived.Test.YtgdlpldngpoadaaGreatDoorSav
/- syntax.reader reads an expression, where nothing is wrong: what a reading answers; closures, leftward, deeper (gen_sy.py). -/
namespace Go.Proofs.YtgdlpldngpoadaaGreatDoor
open Go.RowKit

/-- A tree was read: the next token's place. -/
def QOut (B : Bk) (X : Tx) (t : Nd) (k : Nat) (d : Int) (w : World) (e : Ending) (w' : World) : Prop := ∃ cs, e = .returned (.agg cs) ∧ At w' (Up w.heap.size) t cs ∧ QS w' B X k d ∧ Bt B.p w w'
def QReads (m : Nat) (f : FuncId) (X : Tx) (k : Nat) (t : Nd) (k' : Nat) : Prop := ∀ (w : World) (B : Bk) (d : Int), QS w B X k d → -1 ≤ d → d + m ≤ 100 → Calls Tryz.prog f #[.pointer (some ⟨B.p, 0, none⟩)] w (QOut B X t k' d w)
/-- A variable that holds the reader's pointer. -/
structure RBox (w : World) (B : Bk) (b : Nat) : Prop where
  row : w.heap[b]? = some (.cells #[.pointer (some ⟨B.p, 0, none⟩)] 60 (0, 0))
  ne : b ≠ B.p
theorem RBox.lt {w : World} {B : Bk} {b : Nat} (h : RBox w B b) : b < w.heap.size := (Array.getElem?_eq_some_iff.1 h.row).1
theorem RBox.c {w : World} {B : Bk} {b : Nat} (h : RBox w B b) : w.cell? ⟨b, 0, none⟩ = some (.pointer (some ⟨B.p, 0, none⟩)) := cell_of_row _ _ 0 _ _ _ h.row
theorem RBox.bt {w w' : World} {B : Bk} {b : Nat} (h : RBox w B b) (hb : Bt B.p w w') : RBox w' B b := ⟨by rw [hb.block b h.lt h.ne]; exact h.row, h.ne⟩
theorem RBox.after {w w' : World} {B : Bk} {b : Nat} (h : RBox w B b) (hb : Below w.heap.size w w') : RBox w' B b := h.bt (.of hb)
theorem RBox.other {w w' : World} {B : Bk} {b q : Nat} (h : RBox w B b) (hb : Bt q w w') (e : b ≠ q) : RBox w' B b := ⟨by rw [hb.block b h.lt e]; exact h.row, h.ne⟩
/-- The same of a closure over that variable. -/
def CReads (m : Nat) (f : FuncId) (X : Tx) (k : Nat) (t : Nd) (k' : Nat) : Prop := ∀ (w : World) (B : Bk) (d : Int) (b : Nat), QS w B X k d → RBox w B b → -1 ≤ d → d + m ≤ 100 → Calls Tryz.prog f #[.pointer (some ⟨b, 0, none⟩)] w (QOut B X t k' d w)

variable {m : Nat}
/-- A reading's world: its result's box rb. -/
structure RQ (w V : World) (B : Bk) (X : Tx) (k : Nat) (d : Int) (rb : Nat) : Prop where
  res : Box V rb zeroN
  qs : QS V B X k d
  bt : Bt B.p w V
  p4 : B.p < w.heap.size
  g4 : B.g < w.heap.size
  c4 : B.gc < w.heap.size
  m4 : B.gm < w.heap.size
  rle : w.heap.size ≤ rb
theorem RQ.after {w V W : World} {B : Bk} {X : Tx} {k : Nat} {d : Int} {rb : Nat} (h : RQ w V B X k d rb) (hb : Below V.heap.size V W) : RQ w W B X k d rb := ⟨h.res.after hb, h.qs.after hb, h.bt.trans (.of hb), h.p4, h.g4, h.c4, h.m4, h.rle⟩
theorem RQ.on {w V W : World} {B : Bk} {X : Tx} {k k' : Nat} {d d' : Int} {rb : Nat} (h : RQ w V B X k d rb) (hp : QS W B X k' d') (hb : Bt B.p V W) : RQ w W B X k' d' rb := ⟨h.res.bt hb (by have := h.p4; have := h.rle; omega), hp, h.bt.trans hb, h.p4, h.g4, h.c4, h.m4, h.rle⟩
/-- .. a block of the reading's own is written. -/
theorem RQ.own {w V W : World} {B : Bk} {X : Tx} {k : Nat} {d : Int} {rb b : Nat} (h : RQ w V B X k d rb) (hb : Bt b V W) (hne : b ≠ rb) (hw : w.heap.size ≤ b) : RQ w W B X k d rb := by
  have h1 := h.p4; have h2 := h.g4; have h3 := h.c4; have h4 := h.m4
  exact ⟨⟨by rw [hb.block rb h.res.lt (Ne.symm hne)]; exact h.res.row⟩, h.qs.other hb (by omega) (by omega) (by omega) (by omega),
    ⟨hb.os.trans h.bt.os, hb.tape.trans h.bt.tape, hb.output.trans h.bt.output, Nat.le_trans h.bt.size hb.size, fun i hi hp => (hb.block i (Nat.lt_of_lt_of_le hi h.bt.size) (by omega)).trans (h.bt.block i hi hp)⟩, h1, h2, h3, h4, h.rle⟩
theorem bt_row (w : World) (b : Nat) (cs : Array Value) : Bt b w (w.setRow b cs) := ⟨rfl, rfl, rfl, by simp [World.setRow], fun i _ hi => Go.setRow_other _ _ _ _ hi⟩
theorem RQ.ret {w V : World} {B : Bk} {X : Tx} {k : Nat} {d : Int} {rb : Nat} {t : Nd} {cs : Array Value} {S : Nat → Prop} (h : RQ w V B X k d rb) (hA : At V S t cs) (hS : ∀ j, S j → w.heap.size ≤ j ∧ j ≠ rb) : QOut B X t k d w (.returned (.agg cs)) (V.setRow rb cs) := by
  have h1 := h.p4; have h2 := h.g4; have h3 := h.c4; have h4 := h.m4; have h5 := h.rle
  have hb := bt_row V rb cs
  exact ⟨cs, rfl, (hA.keep fun j hj hl => hb.block j hl (hS j hj).2).weakS fun j hj => (hS j hj).1, h.qs.other hb (by omega) (by omega) (by omega) (by omega),
    ⟨hb.os.trans h.bt.os, hb.tape.trans h.bt.tape, hb.output.trans h.bt.output, Nat.le_trans h.bt.size hb.size, fun i hi hp => (hb.block i (Nat.lt_of_lt_of_le hi h.bt.size) (by omega)).trans (h.bt.block i hi hp)⟩⟩
theorem rq_new (w : World) (B : Bk) (X : Tx) (k : Nat) (d : Int) (h : QS w B X k d) : ∃ W, W = w.alloc (.cells zeroN 25) ∧ Hid (RQ w W B X k d w.heap.size) ∧ Hid (W.heap.size = w.heap.size + 1) :=
  ⟨_, rfl, Lib.hid ⟨box_new w zeroN, h.after (below_new _ _), .of (below_new _ _), h.plt, h.toks.lt, h.clt, h.mlt, Nat.le_refl _⟩, Lib.hid (World.size_alloc _ _)⟩
/-- .. with the reader's pointer in a variable ahead of it. -/
theorem rq_box (w : World) (B : Bk) (X : Tx) (k : Nat) (d : Int) (h : QS w B X k d) : ∃ W, W = (w.alloc (.cells #[.pointer (some ⟨B.p, 0, none⟩)] 60)).alloc (.cells zeroN 25) ∧ Hid (RQ w W B X k d (w.heap.size + 1)) ∧ Hid (RBox W B w.heap.size) ∧ Hid (W.heap.size = w.heap.size + 1 + 1) := by
  have hb1 := below_new w (.cells #[.pointer (some ⟨B.p, 0, none⟩)] 60)
  have hs : (w.alloc (.cells #[.pointer (some ⟨B.p, 0, none⟩)] 60)).heap.size = w.heap.size + 1 := World.size_alloc _ _
  have hb2 := below_new (w.alloc (.cells #[.pointer (some ⟨B.p, 0, none⟩)] 60)) (.cells zeroN 25)
  have hb := Below.step hb1 hb2
  have hx := box_new (w.alloc (.cells #[.pointer (some ⟨B.p, 0, none⟩)] 60)) zeroN
  rw [hs] at hx
  have hp := h.plt
  refine ⟨_, rfl, Lib.hid ⟨hx, h.after hb, .of hb, hp, h.toks.lt, h.clt, h.mlt, by omega⟩, Lib.hid ⟨?_, by omega⟩, Lib.hid ?_⟩
  · rw [hb2.block w.heap.size (by omega)]; exact heap_alloc_last w _
  · rw [World.size_alloc, hs]

set_option maxRecDepth 100000 in
set_option maxHeartbeats 1000000 in
theorem cterm1_pass (X : Tx) (k k' : Nat) (t : Nd) (hin : QReads m 222 X k t k') : CReads m 221 X k t k' := by
  intro w B d b h hb hd1 hd2
  have HI := info_nd
  obtain ⟨W, hW, HR, HWs⟩ := rq_new w B X k d h
  have c0 := (hb.bt HR.out.bt).c
  have HIn := Lib.hid (fun w h => hin w B d h hd1 hd2)
  clear h hd1 hd2 hin hb
  go_enter Tryz.func221, Tryz.ntmps221
  go_upto_region 1 with (fail)
  change Code.wp _ _ _ _ (w.alloc (.cells zeroN 25))
  rw [← hW]
  clear hW
  go_wp2_with fail
  refine (HIn.out _ HR.out.qs).mono ?_
  rintro e w1 ⟨cs, rfl, hA, hP, hBt⟩
  obtain ⟨xa, xc, ya, yc, hcs, _⟩ := hA.opens
  subst hcs
  have HR1 := Lib.hid (HR.out.on hP hBt)
  have HA := Lib.hid hA
  clear hA hP hBt
  go_wp2_with (refine wpList_store_row rfl 25 (.tmp 1) (.tmp 3) rfl w.heap.size (ndC t.k t.s t.n t.a (.slice xa t.kids.length xc) (.slice ya t.p.length yc)) rfl rfl 25 zeroN HR1.out.res.row HI rfl (nd_one _ _ _ _ _ _ _ _ _ _) ?_)
  refine bodyPost_ret (v := .agg (ndC t.k t.s t.n t.a (.slice xa t.kids.length xc) (.slice ya t.p.length yc))) (results_cell_row (by rfl) _ _ w.heap.size 25 _ (0, 0) _ (by rfl) (HR1.out.res.setRow _).row Tryz.underlying25 (by rfl) HI) rfl ?_
  exact HR1.out.ret HA.out (fun j hj => by have h1 : W.heap.size ≤ j := hj; have h2 := HWs.out; exact ⟨by omega, by omega⟩)
set_option maxRecDepth 100000 in
set_option maxHeartbeats 1000000 in
theorem csum1_pass (X : Tx) (k k' : Nat) (t : Nd) (hin : QReads m 218 X k t k') : CReads m 217 X k t k' := by
  intro w B d b h hb hd1 hd2
  have HI := info_nd
  obtain ⟨W, hW, HR, HWs⟩ := rq_new w B X k d h
  have c0 := (hb.bt HR.out.bt).c
  have HIn := Lib.hid (fun w h => hin w B d h hd1 hd2)
  clear h hd1 hd2 hin hb
  go_enter Tryz.func217, Tryz.ntmps217
  go_upto_region 1 with (fail)
  change Code.wp _ _ _ _ (w.alloc (.cells zeroN 25))
  rw [← hW]
  clear hW
  go_wp2_with fail
  refine (HIn.out _ HR.out.qs).mono ?_
  rintro e w1 ⟨cs, rfl, hA, hP, hBt⟩
  obtain ⟨xa, xc, ya, yc, hcs, _⟩ := hA.opens
  subst hcs
  have HR1 := Lib.hid (HR.out.on hP hBt)
  have HA := Lib.hid hA
  clear hA hP hBt
  go_wp2_with (refine wpList_store_row rfl 25 (.tmp 1) (.tmp 3) rfl w.heap.size (ndC t.k t.s t.n t.a (.slice xa t.kids.length xc) (.slice ya t.p.length yc)) rfl rfl 25 zeroN HR1.out.res.row HI rfl (nd_one _ _ _ _ _ _ _ _ _ _) ?_)
  refine bodyPost_ret (v := .agg (ndC t.k t.s t.n t.a (.slice xa t.kids.length xc) (.slice ya t.p.length yc))) (results_cell_row (by rfl) _ _ w.heap.size 25 _ (0, 0) _ (by rfl) (HR1.out.res.setRow _).row Tryz.underlying25 (by rfl) HI) rfl ?_
  exact HR1.out.ret HA.out (fun j hj => by have h1 : W.heap.size ≤ j := hj; have h2 := HWs.out; exact ⟨by omega, by omega⟩)
set_option maxRecDepth 100000 in
set_option maxHeartbeats 1000000 in
theorem cmatch1_pass (X : Tx) (k k' : Nat) (t : Nd) (hin : QReads m 203 X k t k') : CReads m 202 X k t k' := by
  intro w B d b h hb hd1 hd2
  have HI := info_nd
  obtain ⟨W, hW, HR, HWs⟩ := rq_new w B X k d h
  have c0 := (hb.bt HR.out.bt).c
  have HIn := Lib.hid (fun w h => hin w B d h hd1 hd2)
  clear h hd1 hd2 hin hb
  go_enter Tryz.func202, Tryz.ntmps202
  go_upto_region 1 with (fail)
  change Code.wp _ _ _ _ (w.alloc (.cells zeroN 25))
  rw [← hW]
  clear hW
  go_wp2_with fail
  refine (HIn.out _ HR.out.qs).mono ?_
  rintro e w1 ⟨cs, rfl, hA, hP, hBt⟩
  obtain ⟨xa, xc, ya, yc, hcs, _⟩ := hA.opens
  subst hcs
  have HR1 := Lib.hid (HR.out.on hP hBt)
  have HA := Lib.hid hA
  clear hA hP hBt
  go_wp2_with (refine wpList_store_row rfl 25 (.tmp 1) (.tmp 3) rfl w.heap.size (ndC t.k t.s t.n t.a (.slice xa t.kids.length xc) (.slice ya t.p.length yc)) rfl rfl 25 zeroN HR1.out.res.row HI rfl (nd_one _ _ _ _ _ _ _ _ _ _) ?_)
  refine bodyPost_ret (v := .agg (ndC t.k t.s t.n t.a (.slice xa t.kids.length xc) (.slice ya t.p.length yc))) (results_cell_row (by rfl) _ _ w.heap.size 25 _ (0, 0) _ (by rfl) (HR1.out.res.setRow _).row Tryz.underlying25 (by rfl) HI) rfl ?_
  exact HR1.out.ret HA.out (fun j hj => by have h1 : W.heap.size ≤ j := hj; have h2 := HWs.out; exact ⟨by omega, by omega⟩)
set_option maxRecDepth 100000 in
set_option maxHeartbeats 1000000 in
theorem cand1_pass (X : Tx) (k k' : Nat) (t : Nd) (hin : QReads m 172 X k t k') : CReads m 171 X k t k' := by
  intro w B d b h hb hd1 hd2
  have HI := info_nd
  obtain ⟨W, hW, HR, HWs⟩ := rq_new w B X k d h
  have c0 := (hb.bt HR.out.bt).c
  have HIn := Lib.hid (fun w h => hin w B d h hd1 hd2)
  clear h hd1 hd2 hin hb
  go_enter Tryz.func171, Tryz.ntmps171
  go_upto_region 1 with (fail)
  change Code.wp _ _ _ _ (w.alloc (.cells zeroN 25))
  rw [← hW]
  clear hW
  go_wp2_with fail
  refine (HIn.out _ HR.out.qs).mono ?_
  rintro e w1 ⟨cs, rfl, hA, hP, hBt⟩
  obtain ⟨xa, xc, ya, yc, hcs, _⟩ := hA.opens
  subst hcs
  have HR1 := Lib.hid (HR.out.on hP hBt)
  have HA := Lib.hid hA
  clear hA hP hBt
  go_wp2_with (refine wpList_store_row rfl 25 (.tmp 1) (.tmp 3) rfl w.heap.size (ndC t.k t.s t.n t.a (.slice xa t.kids.length xc) (.slice ya t.p.length yc)) rfl rfl 25 zeroN HR1.out.res.row HI rfl (nd_one _ _ _ _ _ _ _ _ _ _) ?_)
  refine bodyPost_ret (v := .agg (ndC t.k t.s t.n t.a (.slice xa t.kids.length xc) (.slice ya t.p.length yc))) (results_cell_row (by rfl) _ _ w.heap.size 25 _ (0, 0) _ (by rfl) (HR1.out.res.setRow _).row Tryz.underlying25 (by rfl) HI) rfl ?_
  exact HR1.out.ret HA.out (fun j hj => by have h1 : W.heap.size ≤ j := hj; have h2 := HWs.out; exact ⟨by omega, by omega⟩)
set_option maxRecDepth 100000 in
set_option maxHeartbeats 1000000 in
theorem cor1_pass (X : Tx) (k k' : Nat) (t : Nd) (hin : QReads m 141 X k t k') : CReads m 140 X k t k' := by
  intro w B d b h hb hd1 hd2
  have HI := info_nd
  obtain ⟨W, hW, HR, HWs⟩ := rq_new w B X k d h
  have c0 := (hb.bt HR.out.bt).c
  have HIn := Lib.hid (fun w h => hin w B d h hd1 hd2)
  clear h hd1 hd2 hin hb
  go_enter Tryz.func140, Tryz.ntmps140
  go_upto_region 1 with (fail)
  change Code.wp _ _ _ _ (w.alloc (.cells zeroN 25))
  rw [← hW]
  clear hW
  go_wp2_with fail
  refine (HIn.out _ HR.out.qs).mono ?_
  rintro e w1 ⟨cs, rfl, hA, hP, hBt⟩
  obtain ⟨xa, xc, ya, yc, hcs, _⟩ := hA.opens
  subst hcs
  have HR1 := Lib.hid (HR.out.on hP hBt)
  have HA := Lib.hid hA
  clear hA hP hBt
  go_wp2_with (refine wpList_store_row rfl 25 (.tmp 1) (.tmp 3) rfl w.heap.size (ndC t.k t.s t.n t.a (.slice xa t.kids.length xc) (.slice ya t.p.length yc)) rfl rfl 25 zeroN HR1.out.res.row HI rfl (nd_one _ _ _ _ _ _ _ _ _ _) ?_)
  refine bodyPost_ret (v := .agg (ndC t.k t.s t.n t.a (.slice xa t.kids.length xc) (.slice ya t.p.length yc))) (results_cell_row (by rfl) _ _ w.heap.size 25 _ (0, 0) _ (by rfl) (HR1.out.res.setRow _).row Tryz.underlying25 (by rfl) HI) rfl ?_
  exact HR1.out.ret HA.out (fun j hj => by have h1 : W.heap.size ≤ j := hj; have h2 := HWs.out; exact ⟨by omega, by omega⟩)
end Go.Proofs.YtgdlpldngpoadaaGreatDoor

/- syntax.reader reads an expression, where nothing is wrong: a tree in a variable; leftward, deeper (gen_sy.py). -/
namespace Go.Proofs.YtgdlpldngpoadaaGreatDoor
open Go.RowKit
variable {m : Nat}

/-- A tree in a variable b of a reading's own. -/
structure TB (w V : World) (B : Bk) (rb : Nat) (t : Nd) (b : Nat) (cs : Array Value) : Prop where
  box : Box V b cs
  tree : At V (fun j => w.heap.size ≤ j ∧ j ≠ rb ∧ j ≠ b) t cs
  np : b ≠ B.p
  nr : b ≠ rb
  le : w.heap.size ≤ b
  plt : B.p < w.heap.size
theorem TB.after {w V W : World} {B : Bk} {rb : Nat} {t : Nd} {b : Nat} {cs : Array Value} (h : TB w V B rb t b cs) (hb : Below V.heap.size V W) : TB w W B rb t b cs := ⟨h.box.after hb, h.tree.after hb, h.np, h.nr, h.le, h.plt⟩
theorem TB.on {w V W : World} {B : Bk} {rb : Nat} {t : Nd} {b : Nat} {cs : Array Value} (h : TB w V B rb t b cs) (hb : Bt B.p V W) : TB w W B rb t b cs := ⟨h.box.bt hb h.np, h.tree.btS hb (fun e => by have := h.plt; have := e.1; omega), h.np, h.nr, h.le, h.plt⟩
theorem TB.put {w V : World} {B : Bk} {rb : Nat} {t u : Nd} {b : Nat} {cs ds : Array Value} (h : TB w V B rb t b cs) (hu : At V (fun j => w.heap.size ≤ j ∧ j ≠ rb ∧ j ≠ b) u ds) : TB w (V.setRow b ds) B rb u b ds :=
  ⟨h.box.setRow ds, hu.keep (fun j hj hl => (bt_row V b ds).block j hl hj.2.2), h.np, h.nr, h.le, h.plt⟩
/-- What was read is laid into a new variable. -/
theorem tb_new {w V : World} {B : Bk} {X : Tx} {k : Nat} {d : Int} {rb : Nat} (h : RQ w V B X k d rb) {u : World} (hu : w.heap.size ≤ u.heap.size) (hr : rb < u.heap.size) {t : Nd} {cs : Array Value} (hA : At V (Up u.heap.size) t cs) :
    ∃ W, W = (V.alloc (.cells zeroN 25)).setRow V.heap.size cs ∧ Hid (RQ w W B X k d rb) ∧ Hid (TB w W B rb t V.heap.size cs) ∧ Hid (Below V.heap.size V W) := by
  have hb : Below V.heap.size V ((V.alloc (.cells zeroN 25)).setRow V.heap.size cs) := below_setRow (below_new V _) (Nat.le_refl _) _
  have h1 := h.res.lt
  have h2 := h.p4
  have h3 := h.bt.size
  exact ⟨_, rfl, Lib.hid (h.after hb), Lib.hid ⟨(box_new V zeroN).setRow cs, (hA.inWorld.weakS (fun j hj => by have h4 : u.heap.size ≤ j := hj.1; have h5 := hj.2; exact ⟨by omega, by omega, by omega⟩)).after hb, by omega, by omega, by omega, h2⟩, Lib.hid hb⟩
theorem TB.six {w V : World} {B : Bk} {rb : Nat} {t : Nd} {b : Nat} {cs : Array Value} (h : TB w V B rb t b cs) : Six V b 0 cs := h.box.six
theorem TB.ret {w V : World} {B : Bk} {X : Tx} {k : Nat} {d : Int} {rb : Nat} {t : Nd} {b : Nat} {cs : Array Value} (h : TB w V B rb t b cs) (hr : RQ w V B X k d rb) : QOut B X t k d w (.returned (.agg cs)) (V.setRow rb cs) := hr.ret h.tree fun _ hj => ⟨hj.1, hj.2.1⟩

set_option maxRecDepth 100000 in
set_option maxHeartbeats 1000000 in
theorem qleft_one (f : FuncId) (hE : Enters Tryz.prog f) (X : Tx) (k k' : Nat) (t : Nd) (T : Tp) (hT : X.L[k']? = some T) (zs : List ByteArray) (n : Nat) (hn : zs.length = n) (hM : n ≤ 1000) (hz : sgB zs T = false) (hin : CReads m f X k t k')
    (w : World) (B : Bk) (d : Int) (b sb cap : Nat) (q : Int) (h : QS w B X k d) (hb : RBox w B b) (hsb : sb < w.heap.size) (hsp : sb ≠ B.p) (hc : ∀ j, j < zs.length → w.cell? ⟨sb, 0 + j, none⟩ = some (.string (zs.getD j ByteArray.empty))) (hd1 : -1 ≤ d) (hd2 : d + m ≤ 100) :
    Calls Tryz.prog 139 #[.pointer (some ⟨B.p, 0, none⟩), .int .i64 q, .func (.func f) #[] #[.pointer (some ⟨b, 0, none⟩)], .slice (some ⟨sb, 0, none⟩) n cap] w (QOut B X t k' d w) := by
  have HI := info_nd
  obtain ⟨W, hW, HR, HWs⟩ := rq_new w B X k d h
  have HIn := Lib.hid (fun w h hb => hin w B d b h hb hd1 hd2)
  have HB := Lib.hid (hb.bt HR.out.bt)
  have HC := Lib.hid (fun (w1 : World) (hbt : Bt B.p w w1) => (show ∀ j, j < zs.length → w1.cell? ⟨sb, 0 + j, none⟩ = some (.string (zs.getD j ByteArray.empty)) from fun j hj => by rw [World.cell?_of_block (a := ⟨sb, 0 + j, none⟩) (hbt.block sb hsb hsp)]; exact hc j hj))
  have HNo := Lib.hid (fun (w : World) (h : QS w B X k' d) hc => qsign w B X k' d h T hT zs n cap sb hn hM hc)
  simp only [hz] at HNo
  clear h hd1 hd2 hin hb hsb hsp hc hn hM hz hT
  go_enter Tryz.func139, Tryz.ntmps139
  go_upto_region 1 with (fail)
  change Code.wp _ _ _ _ (w.alloc (.cells zeroN 25))
  rw [← hW]
  clear hW
  go_wp2_with fail
  rw [hE]
  simp only [Oper.upon]
  refine (HIn.out _ HR.out.qs HB.out).mono ?_
  rintro e w1 ⟨cs, rfl, hA, hP, hBt⟩
  obtain ⟨xa, xc, ya, yc, hcs, _⟩ := hA.opens
  subst hcs
  have HRa1 := Lib.hid (HR.out.on hP hBt)
  have HBa1 := Lib.hid hBt
  have HA1 := Lib.hid hA
  clear hA hP hBt
  go_upto_region 2 with (refine wpList_store_row rfl 25 (.tmp 9) (.tmp 11) rfl w1.heap.size (ndC t.k t.s t.n t.a (.slice xa t.kids.length xc) (.slice ya t.p.length yc)) rfl rfl 25 zeroN (heap_alloc_last _ _) HI rfl (nd_one _ _ _ _ _ _ _ _ _ _) ?_)
  obtain ⟨V1, hV1, HR1, TB1, BV1⟩ := tb_new HRa1.out (u := W) (by have := HWs.out; omega) (by have := HWs.out; omega) HA1.out
  change Code.wp _ _ _ _ ((w1.alloc (Obj.cells zeroN 25)).setRow w1.heap.size (ndC t.k t.s t.n t.a (.slice xa t.kids.length xc) (.slice ya t.p.length yc)))
  rw [← hV1]
  obtain ⟨xb, hxb⟩ : ∃ xb, xb = w1.heap.size := ⟨_, rfl⟩
  rw [← hxb] at TB1 ⊢
  clear hV1 hxb HRa1 HA1
  go_wp2_with fail
  refine wp_loop_rounds 1 ?_
  rw [rounds_succ]
  go_wp2_with fail
  refine (HNo.out _ HR1.out.qs (HC.out _ HR1.out.bt)).mono ?_
  rintro e w2 ⟨rfl, b2⟩
  have HR2 := Lib.hid (HR1.out.after b2)
  have TB2 := Lib.hid (TB1.out.after b2)
  clear b2
  obtain ⟨e0, e1, e2, e3, e4, e5⟩ := six_nd TB2.out.six
  go_wp2_with (refine wpList_store_row rfl 25 (.tmp 8) (.tmp 20) rfl w.heap.size (ndC t.k t.s t.n t.a (.slice xa t.kids.length xc) (.slice ya t.p.length yc)) rfl rfl 25 zeroN HR2.out.res.row HI rfl (nd_one _ _ _ _ _ _ _ _ _ _) ?_)
  refine bodyPost_ret (v := .agg (ndC t.k t.s t.n t.a (.slice xa t.kids.length xc) (.slice ya t.p.length yc))) (results_cell_row (by rfl) _ _ (w.heap.size) 25 _ (0, 0) _ (by rfl) (HR2.out.res.setRow _).row Tryz.underlying25 (by rfl) HI) rfl ?_
  exact TB2.out.ret HR2.out

set_option maxRecDepth 100000 in
set_option maxHeartbeats 1000000 in
theorem qdeeper (f : FuncId) (hE : Enters Tryz.prog f) (X : Tx) (k k' : Nat) (t : Nd) (hin : CReads m f X k t k') (w : World) (B : Bk) (d : Int) (b : Nat) (h : QS w B X k d) (hb : RBox w B b) (hd1 : -1 ≤ d) (hd2 : d + (m + 1 : Nat) ≤ 100) :
    Calls Tryz.prog 77 #[.pointer (some ⟨B.p, 0, none⟩), .func (.func f) #[] #[.pointer (some ⟨b, 0, none⟩)]] w (QOut B X t k' d w) := by
  have HI := info_nd
  obtain ⟨W, hW, HR, HWs⟩ := rq_new w B X k d h
  have HB := Lib.hid (hb.bt HR.out.bt)
  obtain ⟨d2, hd⟩ : ∃ d2, d2 = d + 1 := ⟨_, rfl⟩
  have HIn := Lib.hid (fun w h hb => hin w B d2 b h hb (by omega) (by omega))
  have c4 := HR.out.qs.c4
  have z4 := HR.out.qs.z 4
  obtain ⟨Z, hZ, HZ, BZ⟩ : ∃ Z, Z = W.setCell ⟨B.p, 4, none⟩ (.int .i64 d2) ∧ Hid (QS Z B X k d2) ∧ Hid (Bt B.p W Z) := ⟨_, rfl, Lib.hid (HR.out.qs.to d2), Lib.hid (bt_set _ _ _ _)⟩
  have HD := Lib.hid hd
  have hd3 : d2 - 1 = d := by omega
  clear h hin hb
  go_enter Tryz.func77, Tryz.ntmps77
  go_upto_region 1 with (fail)
  change Code.wp _ _ _ _ (w.alloc (.cells zeroN 25))
  rw [← hW]
  clear hW
  go_upto_region 2 with (fail)
  rw [← hd, ← hZ]
  have HRZ := Lib.hid (HR.out.on HZ.out BZ.out)
  have HBZ := Lib.hid (HB.out.bt BZ.out)
  have HZs : Hid (Z.heap.size = W.heap.size) := Lib.hid (by rw [hZ, World.size_setCell])
  clear hZ c4 z4 hd
  go_wp2_with fail
  rw [hE]
  simp only [Oper.upon]
  refine (HIn.out _ HRZ.out.qs HBZ.out).mono ?_
  rintro e w1 ⟨cs, rfl, hA, hP, hBt⟩
  obtain ⟨xa, xc, ya, yc, hcs, _⟩ := hA.opens
  subst hcs
  have HRa1 := Lib.hid (HRZ.out.on hP hBt)
  have HBa1 := Lib.hid hBt
  have HA1 := Lib.hid hA
  clear hA hP hBt
  go_upto_region 3 with (refine wpList_store_row rfl 25 (.tmp 5) (.tmp 14) rfl w1.heap.size (ndC t.k t.s t.n t.a (.slice xa t.kids.length xc) (.slice ya t.p.length yc)) rfl rfl 25 zeroN (heap_alloc_last _ _) HI rfl (nd_one _ _ _ _ _ _ _ _ _ _) ?_)
  obtain ⟨V1, hV1, HR1, TB1, BV1⟩ := tb_new HRa1.out (u := Z) (by have := HZs.out; have := HWs.out; omega) (by have := HZs.out; have := HWs.out; omega) HA1.out
  change Code.wp _ _ _ _ ((w1.alloc (Obj.cells zeroN 25)).setRow w1.heap.size (ndC t.k t.s t.n t.a (.slice xa t.kids.length xc) (.slice ya t.p.length yc)))
  rw [← hV1]
  obtain ⟨xb, hxb⟩ : ∃ xb, xb = w1.heap.size := ⟨_, rfl⟩
  rw [← hxb] at TB1 ⊢
  clear hV1 hxb HRa1 HA1
  have c4 := HR1.out.qs.c4
  have z4 := HR1.out.qs.z 4
  go_upto_region 4 with (fail)
  obtain ⟨Y, hY, HRY, TBY⟩ : ∃ Y, Y = V1.setCell ⟨B.p, 4, none⟩ (.int .i64 d) ∧ Hid (RQ w Y B X k' d w.heap.size) ∧ Hid (TB w Y B w.heap.size t xb (ndC t.k t.s t.n t.a (.slice xa t.kids.length xc) (.slice ya t.p.length yc))) := ⟨_, rfl, Lib.hid (HR1.out.on (HR1.out.qs.to d) (bt_set _ _ _ _)), Lib.hid (TB1.out.on (bt_set _ _ _ _))⟩
  rw [← hY]
  clear hY c4 z4
  obtain ⟨e0, e1, e2, e3, e4, e5⟩ := six_nd TBY.out.six
  go_wp2_with (refine wpList_store_row rfl 25 (.tmp 4) (.tmp 22) rfl w.heap.size (ndC t.k t.s t.n t.a (.slice xa t.kids.length xc) (.slice ya t.p.length yc)) rfl rfl 25 zeroN HRY.out.res.row HI rfl (nd_one _ _ _ _ _ _ _ _ _ _) ?_)
  refine bodyPost_ret (v := .agg (ndC t.k t.s t.n t.a (.slice xa t.kids.length xc) (.slice ya t.p.length yc))) (results_cell_row (by rfl) _ _ (w.heap.size) 25 _ (0, 0) _ (by rfl) (HRY.out.res.setRow _).row Tryz.underlying25 (by rfl) HI) rfl ?_
  exact TBY.out.ret HRY.out

end Go.Proofs.YtgdlpldngpoadaaGreatDoor
