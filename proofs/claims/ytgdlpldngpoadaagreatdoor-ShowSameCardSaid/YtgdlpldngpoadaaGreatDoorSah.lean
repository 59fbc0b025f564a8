/- Merged by program: RPb. -/
import Derived.Test.YtgdlpldngpoadaaGreatDoorSag
/- The document's reader of expressions, where nothing is wrong: walks (gen_rpb.py). -/
namespace Go.Proofs.YtgdlpldngpoadaaGreatDoor
open Go.RowKit

/-- A tree was read: the next token's place. -/
def ReadOut (p g c : Nat) (L : List Tok) (t : Nd) (k : Nat) (w : World) (e : Ending) (w' : World) : Prop := ∃ cs, e = .returned (.agg cs) ∧ At w' (Up w.heap.size) t cs ∧ PS w' p g c L k ∧ Bt p w w'
def Reads (f : FuncId) (L : List Tok) (k : Nat) (t : Nd) (k' : Nat) : Prop := ∀ (w : World) (p g c d : Nat), PS w p g c L k → d ≤ 100 → Calls Tryz.prog f #[.pointer (some ⟨p, 0, none⟩), .int .i64 d] w (ReadOut p g c L t k' w)

/-- A reading's world: its result's box. -/
structure RV (w V : World) (p g c : Nat) (L : List Tok) (k : Nat) : Prop where
  res : Box V w.heap.size zeroN
  ps : PS V p g c L k
  bt : Bt p w V
  plt : p < w.heap.size
  glt : g < w.heap.size
theorem RV.after {w V W : World} {p g c k : Nat} {L : List Tok} (h : RV w V p g c L k) (hb : Below V.heap.size V W) : RV w W p g c L k := ⟨h.res.after hb, h.ps.after hb, h.bt.trans (.of hb), h.plt, h.glt⟩
theorem RV.on {w V W : World} {p g c k k' : Nat} {L : List Tok} (h : RV w V p g c L k) (hp : PS W p g c L k') (hb : Bt p V W) : RV w W p g c L k' := ⟨h.res.bt hb (by have := h.plt; omega), hp, h.bt.trans hb, h.plt, h.glt⟩
/-- Blocks that a reading makes, but one. -/
def Tr (w : World) (b : Nat) : Nat → Prop := fun j => w.heap.size + 1 ≤ j ∧ j ≠ b
/-- .. and a tree in a box. -/
structure RX (w V : World) (p g c : Nat) (L : List Tok) (k : Nat) (t : Nd) (b : Nat) (cs : Array Value) : Prop where
  rv : RV w V p g c L k
  box : Box V b cs
  tree : At V (Tr w b) t cs
  ne : b ≠ p ∧ w.heap.size < b
theorem RX.after {w V W : World} {p g c k b : Nat} {L : List Tok} {t : Nd} {cs : Array Value} (h : RX w V p g c L k t b cs) (hb : Below V.heap.size V W) : RX w W p g c L k t b cs := ⟨h.rv.after hb, h.box.after hb, h.tree.after hb, h.ne⟩
theorem RX.on {w V W : World} {p g c k k' b : Nat} {L : List Tok} {t : Nd} {cs : Array Value} (h : RX w V p g c L k t b cs) (hp : PS W p g c L k') (hb : Bt p V W) : RX w W p g c L k' t b cs := ⟨h.rv.on hp hb, h.box.bt hb h.ne.1, h.tree.btS hb (fun e => by have := h.rv.plt; have := e.1; omega), h.ne⟩
theorem RX.ret {w V : World} {p g c k b : Nat} {L : List Tok} {t : Nd} {cs : Array Value} (h : RX w V p g c L k t b cs) : ReadOut p g c L t k w (.returned (.agg cs)) (V.setRow w.heap.size cs) := by
  have other : ∀ j, j ≠ w.heap.size → (V.setRow w.heap.size cs).heap[j]? = V.heap[j]? := fun j hj => Go.setRow_other _ _ _ _ hj
  have hp := h.rv.plt
  have hg := h.rv.glt
  exact ⟨cs, rfl, (h.tree.keep (fun k hk _ => other k (by have := hk.1; omega))).weakS (fun k hk => by have := hk.1; show w.heap.size ≤ k; omega),
    ⟨by rw [other p (by omega)]; exact h.rv.ps.row, h.rv.ps.toks.keep (other g (by omega)), by simp [World.setRow]; exact h.rv.ps.there, h.rv.ps.lt, h.rv.ps.few, h.rv.ps.ne⟩,
    ⟨h.rv.bt.os, h.rv.bt.tape, h.rv.bt.output, by simp [World.setRow]; exact h.rv.bt.size, fun j hj hjp => by rw [other j (by omega)]; exact h.rv.bt.block j hj hjp⟩⟩

set_option maxRecDepth 100000 in
set_option maxHeartbeats 1000000 in
theorem pterm_one (L : List Tok) (k k' : Nat) (t : Nd) (T : Tok) (hT : L[k']? = some T) (hn : isB [[42], [47], [37]] T = false) (hin : Reads 216 L k t k') : Reads 213 L k t k' := by
  intro w p g c d h hd
  have HI := info_nd
  have H0 := Lib.hid h
  have HIn := Lib.hid (fun w h => hin w p g c d h hd)
  have HNo := Lib.hid (fun (w : World) (h : PS w p g c L k') => (show Calls Tryz.prog 54 #[.pointer (some ⟨p, 0, none⟩), .slice (some ⟨w.heap.size, 0, none⟩) 3 3] (w.alloc (.cells #[.string ⟨#[42]⟩, .string ⟨#[47]⟩, .string ⟨#[37]⟩] 9)) (fun e w' => e = .returned (.bool false) ∧ Below w.heap.size w w') from pis_alloc w p g c k' L h T hT [[42], [47], [37]] 3 rfl false hn))
  clear hin hn hT hd
  clear h
  go_enter Tryz.func213, Tryz.ntmps213
  go_upto_region 1 with (fail)
  obtain ⟨W, hW, hX, hB, hsz⟩ := nd_box w zeroN
  change Code.wp _ _ _ _ (w.alloc (Obj.cells zeroN 25))
  rw [← hW]
  clear hW
  have RV1 : Hid (RV w W p g c L k) := Lib.hid ⟨hX.out, H0.out.after hB.out, .of hB.out, H0.out.plt, H0.out.there⟩
  have hWs : W.heap.size = w.heap.size + 1 := hsz.out
  have HWs := Lib.hid hWs
  clear hX hB hsz hWs
  go_wp2_with fail
  refine ((HIn).out _ RV1.out.ps).mono ?_
  rintro e w1 ⟨cs, rfl, hA, hP, hBt⟩
  obtain ⟨xa, xc, ya, yc, hcs, _⟩ := hA.opens
  subst hcs
  have HR := Lib.hid (RV1.out.on hP hBt)
  have HA := Lib.hid (hA.weak (C := w.heap.size + 1) (by have := RV1.out.res.lt; omega))
  have hle : w.heap.size + 1 ≤ w1.heap.size := by have := RV1.out.res.lt; have := hBt.size; omega
  have HLE := Lib.hid hle
  clear hA hP hBt hle
  go_upto_region 2 with (refine wpList_store_row rfl 25 (.tmp 5) (.tmp 10) rfl w1.heap.size (ndC t.k t.s t.n t.a (.slice xa t.kids.length xc) (.slice ya t.p.length yc)) rfl rfl 25 zeroN (heap_alloc_last _ _) HI rfl (nd_one _ _ _ _ _ _ _ _ _ _) ?_)
  obtain ⟨W2, hW2, X3, B3, hs3⟩ := nd_boxed w1 zeroN (ndC t.k t.s t.n t.a (.slice xa t.kids.length xc) (.slice ya t.p.length yc))
  change Code.wp _ _ _ _ ((w1.alloc (Obj.cells zeroN 25)).setRow w1.heap.size (ndC t.k t.s t.n t.a (.slice xa t.kids.length xc) (.slice ya t.p.length yc)))
  rw [← hW2]
  obtain ⟨xb, hxb⟩ : ∃ xb, xb = w1.heap.size := ⟨_, rfl⟩
  rw [← hxb] at X3 ⊢
  have HX : Hid (RX w W2 p g c L k' t xb (ndC t.k t.s t.n t.a (.slice xa t.kids.length xc) (.slice ya t.p.length yc))) := Lib.hid ⟨HR.out.after B3.out, X3.out, (HA.out.inWorld.weakS (fun j hj => ⟨hj.1, by have := hj.2; omega⟩)).after B3.out, by have := HR.out.plt; have := HR.out.bt.size; have := HLE.out; omega, by have := HLE.out; omega⟩
  clear hW2 hxb X3 B3 hs3 HR HA HLE RV1
  go_wp2_with fail
  refine wp_loop_rounds 1 ?_
  rw [rounds_succ]
  go_wp2_with fail
  refine ((HNo).out _ HX.out.rv.ps).mono ?_
  rintro e w3 ⟨rfl, b3⟩
  have HX3 := Lib.hid (HX.out.after b3)
  clear b3
  obtain ⟨e0, e1, e2, e3, e4, e5⟩ := six_nd HX3.out.box.six
  go_wp2_with (refine wpList_store_row rfl 25 (.tmp 4) (.tmp 29) rfl w.heap.size (ndC t.k t.s t.n t.a (.slice xa t.kids.length xc) (.slice ya t.p.length yc)) rfl rfl 25 zeroN HX3.out.rv.res.row HI rfl (nd_one _ _ _ _ _ _ _ _ _ _) ?_)
  refine bodyPost_ret (v := .agg (ndC t.k t.s t.n t.a (.slice xa t.kids.length xc) (.slice ya t.p.length yc))) (results_cell_row (by rfl) _ _ w.heap.size 25 _ (0, 0) _ (by rfl) (HX3.out.rv.res.setRow _).row Tryz.underlying25 (by rfl) HI) rfl ?_
  exact HX3.out.ret

set_option maxRecDepth 100000 in
set_option maxHeartbeats 1000000 in
theorem psum_one (L : List Tok) (k k' : Nat) (t : Nd) (T : Tok) (hT : L[k']? = some T) (hn : isB [[43], [45]] T = false) (hin : Reads 213 L k t k') : Reads 204 L k t k' := by
  intro w p g c d h hd
  have HI := info_nd
  have H0 := Lib.hid h
  have HIn := Lib.hid (fun w h => hin w p g c d h hd)
  have HNo := Lib.hid (fun (w : World) (h : PS w p g c L k') => (show Calls Tryz.prog 54 #[.pointer (some ⟨p, 0, none⟩), .slice (some ⟨w.heap.size, 0, none⟩) 2 2] (w.alloc (.cells #[.string ⟨#[43]⟩, .string ⟨#[45]⟩] 9)) (fun e w' => e = .returned (.bool false) ∧ Below w.heap.size w w') from pis_alloc w p g c k' L h T hT [[43], [45]] 2 rfl false hn))
  clear hin hn hT hd
  clear h
  go_enter Tryz.func204, Tryz.ntmps204
  go_upto_region 1 with (fail)
  obtain ⟨W, hW, hX, hB, hsz⟩ := nd_box w zeroN
  change Code.wp _ _ _ _ (w.alloc (Obj.cells zeroN 25))
  rw [← hW]
  clear hW
  have RV1 : Hid (RV w W p g c L k) := Lib.hid ⟨hX.out, H0.out.after hB.out, .of hB.out, H0.out.plt, H0.out.there⟩
  have hWs : W.heap.size = w.heap.size + 1 := hsz.out
  have HWs := Lib.hid hWs
  clear hX hB hsz hWs
  go_wp2_with fail
  refine ((HIn).out _ RV1.out.ps).mono ?_
  rintro e w1 ⟨cs, rfl, hA, hP, hBt⟩
  obtain ⟨xa, xc, ya, yc, hcs, _⟩ := hA.opens
  subst hcs
  have HR := Lib.hid (RV1.out.on hP hBt)
  have HA := Lib.hid (hA.weak (C := w.heap.size + 1) (by have := RV1.out.res.lt; omega))
  have hle : w.heap.size + 1 ≤ w1.heap.size := by have := RV1.out.res.lt; have := hBt.size; omega
  have HLE := Lib.hid hle
  clear hA hP hBt hle
  go_upto_region 2 with (refine wpList_store_row rfl 25 (.tmp 5) (.tmp 10) rfl w1.heap.size (ndC t.k t.s t.n t.a (.slice xa t.kids.length xc) (.slice ya t.p.length yc)) rfl rfl 25 zeroN (heap_alloc_last _ _) HI rfl (nd_one _ _ _ _ _ _ _ _ _ _) ?_)
  obtain ⟨W2, hW2, X3, B3, hs3⟩ := nd_boxed w1 zeroN (ndC t.k t.s t.n t.a (.slice xa t.kids.length xc) (.slice ya t.p.length yc))
  change Code.wp _ _ _ _ ((w1.alloc (Obj.cells zeroN 25)).setRow w1.heap.size (ndC t.k t.s t.n t.a (.slice xa t.kids.length xc) (.slice ya t.p.length yc)))
  rw [← hW2]
  obtain ⟨xb, hxb⟩ : ∃ xb, xb = w1.heap.size := ⟨_, rfl⟩
  rw [← hxb] at X3 ⊢
  have HX : Hid (RX w W2 p g c L k' t xb (ndC t.k t.s t.n t.a (.slice xa t.kids.length xc) (.slice ya t.p.length yc))) := Lib.hid ⟨HR.out.after B3.out, X3.out, (HA.out.inWorld.weakS (fun j hj => ⟨hj.1, by have := hj.2; omega⟩)).after B3.out, by have := HR.out.plt; have := HR.out.bt.size; have := HLE.out; omega, by have := HLE.out; omega⟩
  clear hW2 hxb X3 B3 hs3 HR HA HLE RV1
  go_wp2_with fail
  refine wp_loop_rounds 1 ?_
  rw [rounds_succ]
  go_wp2_with fail
  refine ((HNo).out _ HX.out.rv.ps).mono ?_
  rintro e w3 ⟨rfl, b3⟩
  have HX3 := Lib.hid (HX.out.after b3)
  clear b3
  obtain ⟨e0, e1, e2, e3, e4, e5⟩ := six_nd HX3.out.box.six
  go_wp2_with (refine wpList_store_row rfl 25 (.tmp 4) (.tmp 29) rfl w.heap.size (ndC t.k t.s t.n t.a (.slice xa t.kids.length xc) (.slice ya t.p.length yc)) rfl rfl 25 zeroN HX3.out.rv.res.row HI rfl (nd_one _ _ _ _ _ _ _ _ _ _) ?_)
  refine bodyPost_ret (v := .agg (ndC t.k t.s t.n t.a (.slice xa t.kids.length xc) (.slice ya t.p.length yc))) (results_cell_row (by rfl) _ _ w.heap.size 25 _ (0, 0) _ (by rfl) (HX3.out.rv.res.setRow _).row Tryz.underlying25 (by rfl) HI) rfl ?_
  exact HX3.out.ret

set_option maxRecDepth 100000 in
set_option maxHeartbeats 1000000 in
theorem pmatch_one (L : List Tok) (k k' : Nat) (t : Nd) (T : Tok) (hT : L[k']? = some T) (hn : isB [[126], [33, 126]] T = false) (hin : Reads 174 L k t k') : Reads 147 L k t k' := by
  intro w p g c d h hd
  have HI := info_nd
  have H0 := Lib.hid h
  have HIn := Lib.hid (fun w h => hin w p g c d h hd)
  have HNo := Lib.hid (fun (w : World) (h : PS w p g c L k') => (show Calls Tryz.prog 54 #[.pointer (some ⟨p, 0, none⟩), .slice (some ⟨w.heap.size, 0, none⟩) 2 2] (w.alloc (.cells #[.string ⟨#[126]⟩, .string ⟨#[33, 126]⟩] 9)) (fun e w' => e = .returned (.bool false) ∧ Below w.heap.size w w') from pis_alloc w p g c k' L h T hT [[126], [33, 126]] 2 rfl false hn))
  clear hin hn hT hd
  clear h
  go_enter Tryz.func147, Tryz.ntmps147
  go_upto_region 1 with (fail)
  obtain ⟨W, hW, hX, hB, hsz⟩ := nd_box w zeroN
  change Code.wp _ _ _ _ (w.alloc (Obj.cells zeroN 25))
  rw [← hW]
  clear hW
  have RV1 : Hid (RV w W p g c L k) := Lib.hid ⟨hX.out, H0.out.after hB.out, .of hB.out, H0.out.plt, H0.out.there⟩
  have hWs : W.heap.size = w.heap.size + 1 := hsz.out
  have HWs := Lib.hid hWs
  clear hX hB hsz hWs
  go_wp2_with fail
  refine ((HIn).out _ RV1.out.ps).mono ?_
  rintro e w1 ⟨cs, rfl, hA, hP, hBt⟩
  obtain ⟨xa, xc, ya, yc, hcs, _⟩ := hA.opens
  subst hcs
  have HR := Lib.hid (RV1.out.on hP hBt)
  have HA := Lib.hid (hA.weak (C := w.heap.size + 1) (by have := RV1.out.res.lt; omega))
  have hle : w.heap.size + 1 ≤ w1.heap.size := by have := RV1.out.res.lt; have := hBt.size; omega
  have HLE := Lib.hid hle
  clear hA hP hBt hle
  go_upto_region 2 with (refine wpList_store_row rfl 25 (.tmp 5) (.tmp 10) rfl w1.heap.size (ndC t.k t.s t.n t.a (.slice xa t.kids.length xc) (.slice ya t.p.length yc)) rfl rfl 25 zeroN (heap_alloc_last _ _) HI rfl (nd_one _ _ _ _ _ _ _ _ _ _) ?_)
  obtain ⟨W2, hW2, X3, B3, hs3⟩ := nd_boxed w1 zeroN (ndC t.k t.s t.n t.a (.slice xa t.kids.length xc) (.slice ya t.p.length yc))
  change Code.wp _ _ _ _ ((w1.alloc (Obj.cells zeroN 25)).setRow w1.heap.size (ndC t.k t.s t.n t.a (.slice xa t.kids.length xc) (.slice ya t.p.length yc)))
  rw [← hW2]
  obtain ⟨xb, hxb⟩ : ∃ xb, xb = w1.heap.size := ⟨_, rfl⟩
  rw [← hxb] at X3 ⊢
  have HX : Hid (RX w W2 p g c L k' t xb (ndC t.k t.s t.n t.a (.slice xa t.kids.length xc) (.slice ya t.p.length yc))) := Lib.hid ⟨HR.out.after B3.out, X3.out, (HA.out.inWorld.weakS (fun j hj => ⟨hj.1, by have := hj.2; omega⟩)).after B3.out, by have := HR.out.plt; have := HR.out.bt.size; have := HLE.out; omega, by have := HLE.out; omega⟩
  clear hW2 hxb X3 B3 hs3 HR HA HLE RV1
  go_wp2_with fail
  refine wp_loop_rounds 1 ?_
  rw [rounds_succ]
  go_wp2_with fail
  refine ((HNo).out _ HX.out.rv.ps).mono ?_
  rintro e w3 ⟨rfl, b3⟩
  have HX3 := Lib.hid (HX.out.after b3)
  clear b3
  obtain ⟨e0, e1, e2, e3, e4, e5⟩ := six_nd HX3.out.box.six
  go_wp2_with (refine wpList_store_row rfl 25 (.tmp 4) (.tmp 29) rfl w.heap.size (ndC t.k t.s t.n t.a (.slice xa t.kids.length xc) (.slice ya t.p.length yc)) rfl rfl 25 zeroN HX3.out.rv.res.row HI rfl (nd_one _ _ _ _ _ _ _ _ _ _) ?_)
  refine bodyPost_ret (v := .agg (ndC t.k t.s t.n t.a (.slice xa t.kids.length xc) (.slice ya t.p.length yc))) (results_cell_row (by rfl) _ _ w.heap.size 25 _ (0, 0) _ (by rfl) (HX3.out.rv.res.setRow _).row Tryz.underlying25 (by rfl) HI) rfl ?_
  exact HX3.out.ret

set_option maxRecDepth 100000 in
set_option maxHeartbeats 1000000 in
theorem pand_one (L : List Tok) (k k' : Nat) (t : Nd) (T : Tok) (hT : L[k']? = some T) (hn : isB [[38, 38]] T = false) (hin : Reads 121 L k t k') : Reads 96 L k t k' := by
  intro w p g c d h hd
  have HI := info_nd
  have H0 := Lib.hid h
  have HIn := Lib.hid (fun w h => hin w p g c d h hd)
  have HNo := Lib.hid (fun (w : World) (h : PS w p g c L k') => pgoes_no w p g c k' L h T hT ⟨#[38, 38]⟩ [38, 38] rfl hn)
  clear hin hn hT hd
  clear h
  go_enter Tryz.func96, Tryz.ntmps96
  go_upto_region 1 with (fail)
  obtain ⟨W, hW, hX, hB, hsz⟩ := nd_box w zeroN
  change Code.wp _ _ _ _ (w.alloc (Obj.cells zeroN 25))
  rw [← hW]
  clear hW
  have RV1 : Hid (RV w W p g c L k) := Lib.hid ⟨hX.out, H0.out.after hB.out, .of hB.out, H0.out.plt, H0.out.there⟩
  have hWs : W.heap.size = w.heap.size + 1 := hsz.out
  have HWs := Lib.hid hWs
  clear hX hB hsz hWs
  go_wp2_with fail
  refine ((HIn).out _ RV1.out.ps).mono ?_
  rintro e w1 ⟨cs, rfl, hA, hP, hBt⟩
  obtain ⟨xa, xc, ya, yc, hcs, _⟩ := hA.opens
  subst hcs
  have HR := Lib.hid (RV1.out.on hP hBt)
  have HA := Lib.hid (hA.weak (C := w.heap.size + 1) (by have := RV1.out.res.lt; omega))
  have hle : w.heap.size + 1 ≤ w1.heap.size := by have := RV1.out.res.lt; have := hBt.size; omega
  have HLE := Lib.hid hle
  clear hA hP hBt hle
  go_upto_region 2 with (refine wpList_store_row rfl 25 (.tmp 5) (.tmp 9) rfl w1.heap.size (ndC t.k t.s t.n t.a (.slice xa t.kids.length xc) (.slice ya t.p.length yc)) rfl rfl 25 zeroN (heap_alloc_last _ _) HI rfl (nd_one _ _ _ _ _ _ _ _ _ _) ?_)
  obtain ⟨W2, hW2, X3, B3, hs3⟩ := nd_boxed w1 zeroN (ndC t.k t.s t.n t.a (.slice xa t.kids.length xc) (.slice ya t.p.length yc))
  change Code.wp _ _ _ _ ((w1.alloc (Obj.cells zeroN 25)).setRow w1.heap.size (ndC t.k t.s t.n t.a (.slice xa t.kids.length xc) (.slice ya t.p.length yc)))
  rw [← hW2]
  obtain ⟨xb, hxb⟩ : ∃ xb, xb = w1.heap.size := ⟨_, rfl⟩
  rw [← hxb] at X3 ⊢
  have HX : Hid (RX w W2 p g c L k' t xb (ndC t.k t.s t.n t.a (.slice xa t.kids.length xc) (.slice ya t.p.length yc))) := Lib.hid ⟨HR.out.after B3.out, X3.out, (HA.out.inWorld.weakS (fun j hj => ⟨hj.1, by have := hj.2; omega⟩)).after B3.out, by have := HR.out.plt; have := HR.out.bt.size; have := HLE.out; omega, by have := HLE.out; omega⟩
  clear hW2 hxb X3 B3 hs3 HR HA HLE RV1
  go_wp2_with fail
  refine wp_loop_rounds 1 ?_
  rw [rounds_succ]
  go_wp2_with fail
  refine ((HNo).out _ HX.out.rv.ps).mono ?_
  rintro e w3 ⟨rfl, b3⟩
  have HX3 := Lib.hid (HX.out.after b3)
  clear b3
  obtain ⟨e0, e1, e2, e3, e4, e5⟩ := six_nd HX3.out.box.six
  go_wp2_with (refine wpList_store_row rfl 25 (.tmp 4) (.tmp 23) rfl w.heap.size (ndC t.k t.s t.n t.a (.slice xa t.kids.length xc) (.slice ya t.p.length yc)) rfl rfl 25 zeroN HX3.out.rv.res.row HI rfl (nd_one _ _ _ _ _ _ _ _ _ _) ?_)
  refine bodyPost_ret (v := .agg (ndC t.k t.s t.n t.a (.slice xa t.kids.length xc) (.slice ya t.p.length yc))) (results_cell_row (by rfl) _ _ w.heap.size 25 _ (0, 0) _ (by rfl) (HX3.out.rv.res.setRow _).row Tryz.underlying25 (by rfl) HI) rfl ?_
  exact HX3.out.ret

set_option maxRecDepth 100000 in
set_option maxHeartbeats 1000000 in
theorem por_one (L : List Tok) (k k' : Nat) (t : Nd) (T : Tok) (hT : L[k']? = some T) (hn : isB [[124, 124]] T = false) (hin : Reads 96 L k t k') : Reads 52 L k t k' := by
  intro w p g c d h hd
  have HI := info_nd
  have H0 := Lib.hid h
  have HIn := Lib.hid (fun w h => hin w p g c d h hd)
  have HNo := Lib.hid (fun (w : World) (h : PS w p g c L k') => pgoes_no w p g c k' L h T hT ⟨#[124, 124]⟩ [124, 124] rfl hn)
  clear hin hn hT hd
  clear h
  go_enter Tryz.func52, Tryz.ntmps52
  go_upto_region 1 with (fail)
  obtain ⟨W, hW, hX, hB, hsz⟩ := nd_box w zeroN
  change Code.wp _ _ _ _ (w.alloc (Obj.cells zeroN 25))
  rw [← hW]
  clear hW
  have RV1 : Hid (RV w W p g c L k) := Lib.hid ⟨hX.out, H0.out.after hB.out, .of hB.out, H0.out.plt, H0.out.there⟩
  have hWs : W.heap.size = w.heap.size + 1 := hsz.out
  have HWs := Lib.hid hWs
  clear hX hB hsz hWs
  go_wp2_with fail
  refine ((HIn).out _ RV1.out.ps).mono ?_
  rintro e w1 ⟨cs, rfl, hA, hP, hBt⟩
  obtain ⟨xa, xc, ya, yc, hcs, _⟩ := hA.opens
  subst hcs
  have HR := Lib.hid (RV1.out.on hP hBt)
  have HA := Lib.hid (hA.weak (C := w.heap.size + 1) (by have := RV1.out.res.lt; omega))
  have hle : w.heap.size + 1 ≤ w1.heap.size := by have := RV1.out.res.lt; have := hBt.size; omega
  have HLE := Lib.hid hle
  clear hA hP hBt hle
  go_upto_region 2 with (refine wpList_store_row rfl 25 (.tmp 5) (.tmp 9) rfl w1.heap.size (ndC t.k t.s t.n t.a (.slice xa t.kids.length xc) (.slice ya t.p.length yc)) rfl rfl 25 zeroN (heap_alloc_last _ _) HI rfl (nd_one _ _ _ _ _ _ _ _ _ _) ?_)
  obtain ⟨W2, hW2, X3, B3, hs3⟩ := nd_boxed w1 zeroN (ndC t.k t.s t.n t.a (.slice xa t.kids.length xc) (.slice ya t.p.length yc))
  change Code.wp _ _ _ _ ((w1.alloc (Obj.cells zeroN 25)).setRow w1.heap.size (ndC t.k t.s t.n t.a (.slice xa t.kids.length xc) (.slice ya t.p.length yc)))
  rw [← hW2]
  obtain ⟨xb, hxb⟩ : ∃ xb, xb = w1.heap.size := ⟨_, rfl⟩
  rw [← hxb] at X3 ⊢
  have HX : Hid (RX w W2 p g c L k' t xb (ndC t.k t.s t.n t.a (.slice xa t.kids.length xc) (.slice ya t.p.length yc))) := Lib.hid ⟨HR.out.after B3.out, X3.out, (HA.out.inWorld.weakS (fun j hj => ⟨hj.1, by have := hj.2; omega⟩)).after B3.out, by have := HR.out.plt; have := HR.out.bt.size; have := HLE.out; omega, by have := HLE.out; omega⟩
  clear hW2 hxb X3 B3 hs3 HR HA HLE RV1
  go_wp2_with fail
  refine wp_loop_rounds 1 ?_
  rw [rounds_succ]
  go_wp2_with fail
  refine ((HNo).out _ HX.out.rv.ps).mono ?_
  rintro e w3 ⟨rfl, b3⟩
  have HX3 := Lib.hid (HX.out.after b3)
  clear b3
  obtain ⟨e0, e1, e2, e3, e4, e5⟩ := six_nd HX3.out.box.six
  go_wp2_with (refine wpList_store_row rfl 25 (.tmp 4) (.tmp 23) rfl w.heap.size (ndC t.k t.s t.n t.a (.slice xa t.kids.length xc) (.slice ya t.p.length yc)) rfl rfl 25 zeroN HX3.out.rv.res.row HI rfl (nd_one _ _ _ _ _ _ _ _ _ _) ?_)
  refine bodyPost_ret (v := .agg (ndC t.k t.s t.n t.a (.slice xa t.kids.length xc) (.slice ya t.p.length yc))) (results_cell_row (by rfl) _ _ w.heap.size 25 _ (0, 0) _ (by rfl) (HX3.out.rv.res.setRow _).row Tryz.underlying25 (by rfl) HI) rfl ?_
  exact HX3.out.ret

set_option maxRecDepth 100000 in
set_option maxHeartbeats 1000000 in
theorem pcmp_one (L : List Tok) (k k' : Nat) (t : Nd) (T : Tok) (hT : L[k']? = some T) (hn : isB [[60], [60, 61], [61, 61], [33, 61], [62, 61]] T = false) (hg : isB [[62]] T = false) (hin : Reads 195 L k t k') : Reads 174 L k t k' := by
  intro w p g c d h hd
  have HI := info_nd
  have H0 := Lib.hid h
  have HIn := Lib.hid (fun w h => hin w p g c d h hd)
  have HNo := Lib.hid (fun (w : World) (h : PS w p g c L k') => (show Calls Tryz.prog 54 #[.pointer (some ⟨p, 0, none⟩), .slice (some ⟨w.heap.size, 0, none⟩) 5 5] (w.alloc (.cells #[.string ⟨#[60]⟩, .string ⟨#[60, 61]⟩, .string ⟨#[61, 61]⟩, .string ⟨#[33, 61]⟩, .string ⟨#[62, 61]⟩] 9)) (fun e w' => e = .returned (.bool false) ∧ Below w.heap.size w w') from pis_alloc w p g c k' L h T hT [[60], [60, 61], [61, 61], [33, 61], [62, 61]] 5 rfl false hn))
  have HGt := Lib.hid (fun (w : World) (h : PS w p g c L k') => pone w p g c k' L h T hT ⟨#[62]⟩ [62] rfl false hg)
  clear hin hn hg hT hd
  clear h
  go_enter Tryz.func174, Tryz.ntmps174
  go_upto_region 1 with (fail)
  obtain ⟨W, hW, hX, hB, hsz⟩ := nd_box w zeroN
  change Code.wp _ _ _ _ (w.alloc (Obj.cells zeroN 25))
  rw [← hW]
  clear hW
  have RV1 : Hid (RV w W p g c L k) := Lib.hid ⟨hX.out, H0.out.after hB.out, .of hB.out, H0.out.plt, H0.out.there⟩
  have hWs : W.heap.size = w.heap.size + 1 := hsz.out
  have HWs := Lib.hid hWs
  clear hX hB hsz hWs
  go_wp2_with fail
  refine ((HIn).out _ RV1.out.ps).mono ?_
  rintro e w1 ⟨cs, rfl, hA, hP, hBt⟩
  obtain ⟨xa, xc, ya, yc, hcs, _⟩ := hA.opens
  subst hcs
  have HR := Lib.hid (RV1.out.on hP hBt)
  have HA := Lib.hid (hA.weak (C := w.heap.size + 1) (by have := RV1.out.res.lt; omega))
  have hle : w.heap.size + 1 ≤ w1.heap.size := by have := RV1.out.res.lt; have := hBt.size; omega
  have HLE := Lib.hid hle
  clear hA hP hBt hle
  go_upto_region 2 with (refine wpList_store_row rfl 25 (.tmp 5) (.tmp 10) rfl w1.heap.size (ndC t.k t.s t.n t.a (.slice xa t.kids.length xc) (.slice ya t.p.length yc)) rfl rfl 25 zeroN (heap_alloc_last _ _) HI rfl (nd_one _ _ _ _ _ _ _ _ _ _) ?_)
  obtain ⟨W2, hW2, X3, B3, hs3⟩ := nd_boxed w1 zeroN (ndC t.k t.s t.n t.a (.slice xa t.kids.length xc) (.slice ya t.p.length yc))
  change Code.wp _ _ _ _ ((w1.alloc (Obj.cells zeroN 25)).setRow w1.heap.size (ndC t.k t.s t.n t.a (.slice xa t.kids.length xc) (.slice ya t.p.length yc)))
  rw [← hW2]
  obtain ⟨xb, hxb⟩ : ∃ xb, xb = w1.heap.size := ⟨_, rfl⟩
  rw [← hxb] at X3 ⊢
  have HX : Hid (RX w W2 p g c L k' t xb (ndC t.k t.s t.n t.a (.slice xa t.kids.length xc) (.slice ya t.p.length yc))) := Lib.hid ⟨HR.out.after B3.out, X3.out, (HA.out.inWorld.weakS (fun j hj => ⟨hj.1, by have := hj.2; omega⟩)).after B3.out, by have := HR.out.plt; have := HR.out.bt.size; have := HLE.out; omega, by have := HLE.out; omega⟩
  clear hW2 hxb X3 B3 hs3 HR HA HLE RV1
  go_wp2_with fail
  refine ((HNo).out _ HX.out.rv.ps).mono ?_
  rintro e w3 ⟨rfl, b3⟩
  have HX3 := Lib.hid (HX.out.after b3)
  clear b3
  go_wp2_with fail
  refine ((HGt).out _ HX3.out.rv.ps).mono ?_
  rintro e w4 ⟨rfl, b4⟩
  have HX4 := Lib.hid (HX3.out.after b4)
  clear b4
  obtain ⟨e0, e1, e2, e3, e4, e5⟩ := six_nd HX4.out.box.six
  go_wp2_with (refine wpList_store_row rfl 25 (.tmp 4) (.tmp 40) rfl w.heap.size (ndC t.k t.s t.n t.a (.slice xa t.kids.length xc) (.slice ya t.p.length yc)) rfl rfl 25 zeroN HX4.out.rv.res.row HI rfl (nd_one _ _ _ _ _ _ _ _ _ _) ?_)
  refine bodyPost_ret (v := .agg (ndC t.k t.s t.n t.a (.slice xa t.kids.length xc) (.slice ya t.p.length yc))) (results_cell_row (by rfl) _ _ w.heap.size 25 _ (0, 0) _ (by rfl) (HX4.out.rv.res.setRow _).row Tryz.underlying25 (by rfl) HI) rfl ?_
  exact HX4.out.ret

theorem RX.put {w V : World} {p g c k b : Nat} {L : List Tok} {t u : Nd} {cs ds : Array Value} (h : RX w V p g c L k t b cs) (hu : At V (Tr w b) u ds) : RX w (V.setRow b ds) p g c L k u b ds := by
  have other : ∀ j, j ≠ b → (V.setRow b ds).heap[j]? = V.heap[j]? := fun j hj => Go.setRow_other _ _ _ _ hj
  have hne := h.ne
  have hp := h.rv.plt
  have hg := h.rv.glt
  refine ⟨⟨⟨by rw [other _ (by omega)]; exact h.rv.res.row⟩, ⟨by rw [other p (by omega)]; exact h.rv.ps.row, h.rv.ps.toks.keep (other g (by omega)), by simp [World.setRow]; exact h.rv.ps.there, h.rv.ps.lt, h.rv.ps.few, h.rv.ps.ne⟩,
    ⟨h.rv.bt.os, h.rv.bt.tape, h.rv.bt.output, by simp [World.setRow]; exact h.rv.bt.size, fun j hj hjp => by rw [other j (by omega)]; exact h.rv.bt.block j hj hjp⟩, hp, hg⟩, h.box.setRow ds, ?_, hne⟩
  exact hu.keep (fun k hk _ => other k hk.2)
def zNd : Nd := .mk 0 ⟨#[]⟩ 0 0 [] []
theorem zero_at (w : World) (S : Nat → Prop) : At w S zNd zeroN := .leaf _ _ _ _ _ _ _ _ (.zero _ _)

set_option maxRecDepth 100000 in
set_option maxHeartbeats 1000000 in
theorem pin_one (L : List Tok) (k k' : Nat) (t : Nd) (T0 T : Tok) (hT0 : L[k]? = some T0) (hT : L[k']? = some T) (h0 : isB [[40]] T0 = false) (hn : isB [[105, 110]] T = false) (hin : Reads 147 L k t k') : Reads 121 L k t k' := by
  intro w p g c d h hd
  have HI := info_nd
  have H0 := Lib.hid h
  have HIn := Lib.hid (fun w h => hin w p g c d h hd)
  have HNo := Lib.hid (fun (w : World) (h : PS w p g c L k') => pgoes_no w p g c k' L h T hT ⟨#[105, 110]⟩ [105, 110] rfl hn)
  have HSh := Lib.hid (fun (w : World) (h : PS w p g c L k) => pshut_no w p g c k L h T0 hT0 h0)
  have HTk := Lib.hid (fun (w : World) (h : PS w p g c L k) => ptok w p g c k L h T0 hT0)
  have f2 := tfield2 T0
  clear hin hn h0 hT hT0 hd
  clear h
  go_enter Tryz.func121, Tryz.ntmps121
  go_upto_region 1 with (fail)
  obtain ⟨W, hW, hX, hB, hsz⟩ := nd_box w zeroN
  change Code.wp _ _ _ _ (w.alloc (Obj.cells zeroN 25))
  rw [← hW]
  clear hW
  have RV1 : Hid (RV w W p g c L k) := Lib.hid ⟨hX.out, H0.out.after hB.out, .of hB.out, H0.out.plt, H0.out.there⟩
  have hWs : W.heap.size = w.heap.size + 1 := hsz.out
  have HWs := Lib.hid hWs
  clear hX hB hsz hWs
  go_wp2_with fail
  refine (HTk.out _ RV1.out.ps).mono ?_
  rintro e w1 ⟨rfl, b1⟩
  have RV2 := Lib.hid (RV1.out.after b1)
  have hle : w.heap.size + 1 ≤ w1.heap.size := by have := HWs.out; have := b1.size; omega
  have HLE := Lib.hid hle
  clear b1 hle
  go_upto_region 2 with (fail)
  obtain ⟨W2, hW2, X2, B2, hs2⟩ := nd_box w1 zeroN
  change Code.wp _ _ _ _ (w1.alloc (Obj.cells zeroN 25))
  rw [← hW2]
  obtain ⟨xb, hxb⟩ : ∃ xb, xb = w1.heap.size := ⟨_, rfl⟩
  rw [← hxb] at X2 hs2 ⊢
  have RX0 : Hid (RX w W2 p g c L k zNd xb zeroN) := Lib.hid ⟨RV2.out.after B2.out, X2.out, zero_at _ _, by have := RV2.out.plt; have := HLE.out; omega, by have := HLE.out; omega⟩
  clear hW2 hxb X2 B2 hs2 RV1 RV2
  go_wp2_with fail
  refine ((HSh).out _ RX0.out.rv.ps).mono ?_
  rintro e w3 ⟨rfl, b3⟩
  have RX3 := Lib.hid (RX0.out.after b3)
  clear b3
  have HXB : Hid (xb < w3.heap.size) := Lib.hid RX3.out.box.lt
  go_wp2_with fail
  refine (HIn.out _ RX3.out.rv.ps).mono ?_
  rintro e w4 ⟨cs, rfl, hA, hP, hBt⟩
  obtain ⟨xa, xc, ya, yc, hcs, _⟩ := hA.opens
  subst hcs
  have RX4 := Lib.hid (RX3.out.on hP hBt)
  have RX5 := Lib.hid (RX4.out.put (hA.weakS (fun j hj => by have h1 : w3.heap.size ≤ j := hj; have h2 := HXB.out; have h3 := RX3.out.ne.2; exact ⟨by omega, by omega⟩)))
  clear hA hP hBt
  go_wp2_with (refine wpList_store_row rfl 25 (.tmp 6) (.tmp 39) rfl xb (ndC t.k t.s t.n t.a (.slice xa t.kids.length xc) (.slice ya t.p.length yc)) rfl rfl 25 zeroN RX4.out.box.row HI rfl (nd_one _ _ _ _ _ _ _ _ _ _) ?_)
  refine wp_loop_rounds 1 ?_
  rw [rounds_succ]
  go_wp2_with fail
  refine ((HNo).out _ RX5.out.rv.ps).mono ?_
  rintro e w6 ⟨rfl, b6⟩
  have HX6 := Lib.hid (RX5.out.after b6)
  clear b6
  obtain ⟨e0, e1, e2, e3, e4, e5⟩ := six_nd HX6.out.box.six
  go_wp2_with (refine wpList_store_row rfl 25 (.tmp 4) (.tmp 48) rfl w.heap.size (ndC t.k t.s t.n t.a (.slice xa t.kids.length xc) (.slice ya t.p.length yc)) rfl rfl 25 zeroN HX6.out.rv.res.row HI rfl (nd_one _ _ _ _ _ _ _ _ _ _) ?_)
  refine bodyPost_ret (v := .agg (ndC t.k t.s t.n t.a (.slice xa t.kids.length xc) (.slice ya t.p.length yc))) (results_cell_row (by rfl) _ _ w.heap.size 25 _ (0, 0) _ (by rfl) (HX6.out.rv.res.setRow _).row Tryz.underlying25 (by rfl) HI) rfl ?_
  exact HX6.out.ret
end Go.Proofs.YtgdlpldngpoadaaGreatDoor
