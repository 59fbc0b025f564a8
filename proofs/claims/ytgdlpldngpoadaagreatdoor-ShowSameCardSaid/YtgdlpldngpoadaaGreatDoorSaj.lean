/- Merged by program: RPe. -/
import Derived.Test.YtgdlpldngpoadaaGreatDoorSai
/- The document's reader of expressions, where nothing is wrong: operands (gen_rpb.py). -/
namespace Go.Proofs.YtgdlpldngpoadaaGreatDoor
open Go.RowKit

theorem RV.ret {w V : World} {p g c k : Nat} {L : List Tok} {t : Nd} {cs : Array Value} {S : Nat → Prop} (h : RV w V p g c L k) (hA : At V S t cs) (hS : ∀ j, S j → w.heap.size + 1 ≤ j) : ReadOut p g c L t k w (.returned (.agg cs)) (V.setRow w.heap.size cs) := by
  have other : ∀ j, j ≠ w.heap.size → (V.setRow w.heap.size cs).heap[j]? = V.heap[j]? := fun j hj => Go.setRow_other _ _ _ _ hj
  have hp := h.plt
  have hg := h.glt
  exact ⟨cs, rfl, (hA.keep (fun k hk _ => other k (by have := hS k hk; omega))).weakS (fun k hk => by have := hS k hk; show w.heap.size ≤ k; omega),
    ⟨by rw [other p (by omega)]; exact h.ps.row, h.ps.toks.keep (other g (by omega)), by simp [World.setRow]; exact h.ps.there, h.ps.lt, h.ps.few, h.ps.ne⟩,
    ⟨h.bt.os, h.bt.tape, h.bt.output, by simp [World.setRow]; exact h.bt.size, fun j hj hjp => by rw [other j (by omega)]; exact h.bt.block j hj hjp⟩⟩
/-- .. and a token in a box. -/
structure RT (w V : World) (p g c : Nat) (L : List Tok) (k tb : Nat) (T : Tok) : Prop where
  rv : RV w V p g c L k
  tok : V.heap[tb]? = some (.cells (tkC T.K T.S T.A) 68 (0, 0))
  ne : tb ≠ p
theorem RT.after {w V W : World} {p g c k tb : Nat} {L : List Tok} {T : Tok} (h : RT w V p g c L k tb T) (hb : Below V.heap.size V W) : RT w W p g c L k tb T := ⟨h.rv.after hb, by rw [hb.block _ ((Array.getElem?_eq_some_iff.1 h.tok).1)]; exact h.tok, h.ne⟩
theorem RT.on {w V W : World} {p g c k k' tb : Nat} {L : List Tok} {T : Tok} (h : RT w V p g c L k tb T) (hp : PS W p g c L k') (hb : Bt p V W) : RT w W p g c L k' tb T := ⟨h.rv.on hp hb, by rw [hb.block _ ((Array.getElem?_eq_some_iff.1 h.tok).1) h.ne]; exact h.tok, h.ne⟩
theorem RT.c0 {w V : World} {p g c k tb : Nat} {L : List Tok} {T : Tok} (h : RT w V p g c L k tb T) : V.cell? ⟨tb, 0, none⟩ = some (.int .i64 T.K) := cell_of_row _ _ 0 _ _ _ h.tok
theorem RT.c1 {w V : World} {p g c k tb : Nat} {L : List Tok} {T : Tok} (h : RT w V p g c L k tb T) : V.cell? ⟨tb, 1, none⟩ = some (.string T.S) := cell_of_row _ _ 1 _ _ _ h.tok
theorem RT.c2 {w V : World} {p g c k tb : Nat} {L : List Tok} {T : Tok} (h : RT w V p g c L k tb T) : V.cell? ⟨tb, 2, none⟩ = some (.int .i64 T.A) := cell_of_row _ _ 2 _ _ _ h.tok

set_option maxRecDepth 100000 in
set_option maxHeartbeats 2000000 in
theorem pprim_name (L : List Tok) (k : Nat) (T T1 : Tok) (hT0 : L[k]? = some T) (hT10 : L[k + 1]? = some T1) (hT : T.K = 5) (hk : k + 1 < L.length) (hn : isB [[91]] T1 = false) : Reads 220 L k (.mk 3 T.S 0 T.A [] []) (k + 1) := by
  intro w p g c d h hd
  have HI := info_nd
  have H0 := Lib.hid h
  have HTk := Lib.hid (fun (w : World) (h : PS w p g c L k) => ptok w p g c k L h T hT0)
  have HOn := Lib.hid (fun w h => pon w p g c k L h hk)
  have HNo := Lib.hid (fun (w : World) (h : PS w p g c L (k + 1)) => pgoes_no w p g c (k + 1) L h T1 hT10 ⟨#[91]⟩ [91] rfl hn)
  have k2 : (T.K == 2) = false := by rw [hT]; rfl
  have k3 : (T.K == 3) = false := by rw [hT]; rfl
  have k4 : (T.K == 4) = false := by rw [hT]; rfl
  have k5 : (T.K == 5) = true := by rw [hT]; rfl
  clear hT hT0 hT10 hk hn hd
  clear h
  go_enter Tryz.func220, Tryz.ntmps220
  go_upto_region 1 with (fail)
  obtain ⟨W, hW, hX, hB, hsz⟩ := nd_box w zeroN
  change Code.wp _ _ _ _ (w.alloc (Obj.cells zeroN 25))
  rw [← hW]
  clear hW
  have RV1 : Hid (RV w W p g c L k) := Lib.hid ⟨hX.out, H0.out.after hB.out, .of hB.out, H0.out.plt, H0.out.there⟩
  have hWs : W.heap.size = w.heap.size + 1 := hsz.out
  have HWs := Lib.hid hWs
  clear hX hB hsz hWs
  go_wp2_with fail
  refine (HTk.out _ RV1.out.ps).mono ?_
  rintro e w1 ⟨rfl, b1⟩
  have RV2 := Lib.hid (RV1.out.after b1)
  clear b1
  go_upto_region 2 with (fail)
  obtain ⟨W2, hW2, RT2⟩ : ∃ W2, W2 = w1.alloc (.cells #[.int .i64 T.K, .string T.S, .int .i64 T.A] 68) ∧ Hid (RT w W2 p g c L k w1.heap.size T) :=
    ⟨_, rfl, Lib.hid ⟨RV2.out.after (below_new _ _), heap_alloc_last w1 _, by have := RV2.out.plt; have := RV2.out.bt.size; omega⟩⟩
  change Code.wp _ _ _ _ (w1.alloc (.cells #[.int .i64 T.K, .string T.S, .int .i64 T.A] 68))
  rw [← hW2]
  obtain ⟨tb, htb⟩ : ∃ tb, tb = w1.heap.size := ⟨_, rfl⟩
  rw [← htb] at RT2 ⊢
  clear hW2 htb RV1 RV2
  have c0 := RT2.out.c0; have c1 := RT2.out.c1; have c2 := RT2.out.c2
  have c3 := RT2.out.rv.ps.c3
  go_wp2_with fail
  refine (HOn.out _ RT2.out.rv.ps).mono ?_
  rintro e w3 ⟨rfl, hP, hBt⟩
  have RT3 := Lib.hid (RT2.out.on hP hBt)
  clear hP hBt c0 c1 c2 c3
  go_wp2_with fail
  refine (HNo.out _ RT3.out.rv.ps).mono ?_
  rintro e w4 ⟨rfl, b4⟩
  have RT4 := Lib.hid (RT3.out.after b4)
  clear b4
  have c1 := RT4.out.c1; have c2 := RT4.out.c2
  go_wp2_with fail
  refine (pnode 3 T.A T.S none 0 0 _).mono ?_
  rintro e w5 ⟨rfl, b5⟩
  have RT5 := Lib.hid (RT4.out.after b5)
  clear b5
  go_wp2_with (refine wpList_store_row rfl 25 (.tmp 4) (.tmp 71) rfl w.heap.size (ndC 3 T.S 0 T.A (.slice none 0 0) (.slice none 0 0)) rfl rfl 25 zeroN RT5.out.rv.res.row HI rfl (nd_one _ _ _ _ _ _ _ _ _ _) ?_)
  refine bodyPost_ret (v := .agg (ndC 3 T.S 0 T.A (.slice none 0 0) (.slice none 0 0))) (results_cell_row (by rfl) _ _ w.heap.size 25 _ (0, 0) _ (by rfl) (RT5.out.rv.res.setRow _).row Tryz.underlying25 (by rfl) HI) rfl ?_
  exact RT5.out.rv.ret (.leaf (S := fun j => w.heap.size + 1 ≤ j) _ _ _ _ _ _ _ _ (.zero _ _)) (fun j hj => hj)

set_option maxRecDepth 100000 in
set_option maxHeartbeats 2000000 in
theorem pprim_num (L : List Tok) (k : Nat) (T : Tok) (n r : Int) (hT0 : L[k]? = some T) (hT : T.K = 2) (hk : k + 1 < L.length) (hp : ∀ w : World, Calls Tryz.prog 223 #[.string T.S] w fun e w' => e = .returned (.tuple #[.int .i64 n, .int .i64 r, .int .i64 0]) ∧ Below w.heap.size w w') : Reads 220 L k (.mk 0 ⟨#[]⟩ n T.A [] []) (k + 1) := by
  intro w p g c d h hd
  have HI := info_nd
  have H0 := Lib.hid h
  have HTk := Lib.hid (fun (w : World) (h : PS w p g c L k) => ptok w p g c k L h T hT0)
  have HOn := Lib.hid (fun w h => pon w p g c k L h hk)
  have HPa := Lib.hid hp
  have HBd := Lib.hid (fun w => pbad p 0 w)
  have k2 : (T.K == 2) = true := by rw [hT]; rfl
  clear hT hT0 hk hp hd
  clear h
  go_enter Tryz.func220, Tryz.ntmps220
  go_upto_region 1 with (fail)
  obtain ⟨W, hW, hX, hB, hsz⟩ := nd_box w zeroN
  change Code.wp _ _ _ _ (w.alloc (Obj.cells zeroN 25))
  rw [← hW]
  clear hW
  have RV1 : Hid (RV w W p g c L k) := Lib.hid ⟨hX.out, H0.out.after hB.out, .of hB.out, H0.out.plt, H0.out.there⟩
  have hWs : W.heap.size = w.heap.size + 1 := hsz.out
  have HWs := Lib.hid hWs
  clear hX hB hsz hWs
  go_wp2_with fail
  refine (HTk.out _ RV1.out.ps).mono ?_
  rintro e w1 ⟨rfl, b1⟩
  have RV2 := Lib.hid (RV1.out.after b1)
  clear b1
  go_upto_region 2 with (fail)
  obtain ⟨W2, hW2, RT2⟩ : ∃ W2, W2 = w1.alloc (.cells #[.int .i64 T.K, .string T.S, .int .i64 T.A] 68) ∧ Hid (RT w W2 p g c L k w1.heap.size T) :=
    ⟨_, rfl, Lib.hid ⟨RV2.out.after (below_new _ _), heap_alloc_last w1 _, by have := RV2.out.plt; have := RV2.out.bt.size; omega⟩⟩
  change Code.wp _ _ _ _ (w1.alloc (.cells #[.int .i64 T.K, .string T.S, .int .i64 T.A] 68))
  rw [← hW2]
  obtain ⟨tb, htb⟩ : ∃ tb, tb = w1.heap.size := ⟨_, rfl⟩
  rw [← htb] at RT2 ⊢
  clear hW2 htb RV1 RV2
  have c0 := RT2.out.c0; have c1 := RT2.out.c1; have c2 := RT2.out.c2
  have c3 := RT2.out.rv.ps.c3
  go_wp2_with fail
  refine (HPa.out _).mono ?_
  rintro e w3 ⟨rfl, b3⟩
  have RT3 := Lib.hid (RT2.out.after b3)
  clear b3 c0 c1 c2 c3
  go_wp2_with fail
  refine (HBd.out _).mono ?_
  rintro e w4 ⟨rfl, rfl⟩
  go_wp2_with fail
  refine (HOn.out _ RT3.out.rv.ps).mono ?_
  rintro e w5 ⟨rfl, hP, hBt⟩
  have RT5 := Lib.hid (RT3.out.on hP hBt)
  clear hP hBt
  have c2 := RT5.out.c2
  go_wp2_with (refine wpList_store_row rfl 25 (.tmp 4) (.tmp 46) rfl w.heap.size (ndC 0 ⟨#[]⟩ n T.A (.slice none 0 0) (.slice none 0 0)) rfl rfl 25 zeroN RT5.out.rv.res.row HI rfl (nd_one _ _ _ _ _ _ _ _ _ _) ?_)
  refine bodyPost_ret (v := .agg (ndC 0 ⟨#[]⟩ n T.A (.slice none 0 0) (.slice none 0 0))) (results_cell_row (by rfl) _ _ w.heap.size 25 _ (0, 0) _ (by rfl) (RT5.out.rv.res.setRow _).row Tryz.underlying25 (by rfl) HI) rfl ?_
  exact RT5.out.rv.ret (.leaf (S := fun j => w.heap.size + 1 ≤ j) _ _ _ _ _ _ _ _ (.zero _ _)) (fun j hj => hj)

set_option maxRecDepth 100000 in
set_option maxHeartbeats 2000000 in
theorem punary_true (L : List Tok) (k k' : Nat) (t : Nd) (T T' : Tok) (hT0 : L[k]? = some T) (hT0' : L[k']? = some T') (h0 : isB [[33], [45], [43]] T = false) (h1 : isB [[43, 43], [45, 45]] T = false) (h2 : isB [[40]] T = false) (h3 : isB [[43, 43], [45, 45]] T' = false) (hl : (decide (3 ≤ t.k) && decide (t.k ≤ 5)) = true) (hin : Reads 220 L k t k') : Reads 216 L k t k' := by
  intro w p g c d h hd
  have HI := info_nd
  have H0 := Lib.hid h
  have HIn := Lib.hid (fun w h => hin w p g c d h hd)
  have HTk := Lib.hid (fun (w : World) (h : PS w p g c L k) => ptok w p g c k L h T hT0)
  have HDp := Lib.hid (fun w => pdeep p d (by omega) w)
  have f1 := tfield1 T
  have f2 := tfield2 T
  have HNe := Lib.hid (fun (w : World) (h : PS w p g c L k) => (show Calls Tryz.prog 54 #[.pointer (some ⟨p, 0, none⟩), .slice (some ⟨w.heap.size, 0, none⟩) 3 3] (w.alloc (.cells #[.string ⟨#[33]⟩, .string ⟨#[45]⟩, .string ⟨#[43]⟩] 9)) (fun e w' => e = .returned (.bool false) ∧ Below w.heap.size w w') from pis_alloc w p g c k L h T hT0 [[33], [45], [43]] 3 rfl false h0))
  have HSt := Lib.hid (fun (w : World) (h : PS w p g c L k) => (show Calls Tryz.prog 54 #[.pointer (some ⟨p, 0, none⟩), .slice (some ⟨w.heap.size, 0, none⟩) 2 2] (w.alloc (.cells #[.string ⟨#[43, 43]⟩, .string ⟨#[45, 45]⟩] 9)) (fun e w' => e = .returned (.bool false) ∧ Below w.heap.size w w') from pis_alloc w p g c k L h T hT0 [[43, 43], [45, 45]] 2 rfl false h1))
  have HSt' := Lib.hid (fun (w : World) (h : PS w p g c L k') => (show Calls Tryz.prog 54 #[.pointer (some ⟨p, 0, none⟩), .slice (some ⟨w.heap.size, 0, none⟩) 2 2] (w.alloc (.cells #[.string ⟨#[43, 43]⟩, .string ⟨#[45, 45]⟩] 9)) (fun e w' => e = .returned (.bool false) ∧ Below w.heap.size w w') from pis_alloc w p g c k' L h T' hT0' [[43, 43], [45, 45]] 2 rfl false h3))
  have HBr := Lib.hid (fun (w : World) (h : PS w p g c L k) => pone w p g c k L h T hT0 ⟨#[40]⟩ [40] rfl false h2)
  have HLf := Lib.hid (fun (w : World) sl sp => pleft t.k t.s t.n t.a sl sp w true hl)
  clear hin h0 h1 h2 h3 hT0 hT0' hd hl
  clear h
  go_enter Tryz.func216, Tryz.ntmps216
  go_upto_region 1 with (fail)
  obtain ⟨W, hW, hX, hB, hsz⟩ := nd_box w zeroN
  change Code.wp _ _ _ _ (w.alloc (Obj.cells zeroN 25))
  rw [← hW]
  clear hW
  have RV1 : Hid (RV w W p g c L k) := Lib.hid ⟨hX.out, H0.out.after hB.out, .of hB.out, H0.out.plt, H0.out.there⟩
  have hWs : W.heap.size = w.heap.size + 1 := hsz.out
  have HWs := Lib.hid hWs
  clear hX hB hsz hWs
  go_wp2_with fail
  refine (HDp.out _).mono ?_
  rintro e w1 ⟨rfl, rfl⟩
  go_wp2_with fail
  refine (HTk.out _ RV1.out.ps).mono ?_
  rintro e w1 ⟨rfl, b1⟩
  have RV2 := Lib.hid (RV1.out.after b1)
  clear b1
  go_wp2_with fail
  refine (HTk.out _ RV2.out.ps).mono ?_
  rintro e w2 ⟨rfl, b2⟩
  have RV3 := Lib.hid (RV2.out.after b2)
  clear b2
  go_wp2_with fail
  refine (HNe.out _ RV3.out.ps).mono ?_
  rintro e w3 ⟨rfl, b3⟩
  have RV4 := Lib.hid (RV3.out.after b3)
  clear b3
  go_wp2_with fail
  refine (HSt.out _ RV4.out.ps).mono ?_
  rintro e w4 ⟨rfl, b4⟩
  have RV5 := Lib.hid (RV4.out.after b4)
  clear b4
  go_wp2_with fail
  refine (HBr.out _ RV5.out.ps).mono ?_
  rintro e w5 ⟨rfl, b5⟩
  have RV6 := Lib.hid (RV5.out.after b5)
  clear b5
  go_wp2_with fail
  refine ((HIn).out _ RV6.out.ps).mono ?_
  rintro e w1 ⟨cs, rfl, hA, hP, hBt⟩
  obtain ⟨xa, xc, ya, yc, hcs, _⟩ := hA.opens
  subst hcs
  have HR := Lib.hid (RV6.out.on hP hBt)
  have HA := Lib.hid (hA.weak (C := w.heap.size + 1) (by have := RV6.out.res.lt; omega))
  have hle : w.heap.size + 1 ≤ w1.heap.size := by have := RV6.out.res.lt; have := hBt.size; omega
  have HLE := Lib.hid hle
  clear hA hP hBt hle
  go_upto_region 11 with (refine wpList_store_row rfl 25 (.tmp 9) (.tmp 43) rfl w1.heap.size (ndC t.k t.s t.n t.a (.slice xa t.kids.length xc) (.slice ya t.p.length yc)) rfl rfl 25 zeroN (heap_alloc_last _ _) HI rfl (nd_one _ _ _ _ _ _ _ _ _ _) ?_)
  obtain ⟨W7, hW7, X3, B3, hs3⟩ := nd_boxed w1 zeroN (ndC t.k t.s t.n t.a (.slice xa t.kids.length xc) (.slice ya t.p.length yc))
  change Code.wp _ _ _ _ ((w1.alloc (Obj.cells zeroN 25)).setRow w1.heap.size (ndC t.k t.s t.n t.a (.slice xa t.kids.length xc) (.slice ya t.p.length yc)))
  rw [← hW7]
  obtain ⟨xb, hxb⟩ : ∃ xb, xb = w1.heap.size := ⟨_, rfl⟩
  rw [← hxb] at X3 ⊢
  have HX : Hid (RX w W7 p g c L k' t xb (ndC t.k t.s t.n t.a (.slice xa t.kids.length xc) (.slice ya t.p.length yc))) := Lib.hid ⟨HR.out.after B3.out, X3.out, (HA.out.inWorld.weakS (fun j hj => ⟨hj.1, by have := hj.2; omega⟩)).after B3.out, by have := HR.out.plt; have := HR.out.bt.size; have := HLE.out; omega, by have := HLE.out; omega⟩
  clear hW7 hxb X3 B3 hs3 HR HA HLE RV6
  obtain ⟨e0, e1, e2, e3, e4, e5⟩ := six_nd HX.out.box.six
  go_wp2_with fail
  refine (HLf.out _ _ _).mono ?_
  rintro e w8 ⟨rfl, b8⟩
  have HX8 := Lib.hid (HX.out.after b8)
  clear b8 e0 e1 e2 e3 e4 e5
  go_wp2_with fail
  refine ((HSt').out _ HX8.out.rv.ps).mono ?_
  rintro e w9 ⟨rfl, b9⟩
  have HX9 := Lib.hid (HX8.out.after b9)
  clear b9
  obtain ⟨e0, e1, e2, e3, e4, e5⟩ := six_nd HX9.out.box.six
  go_wp2_with (refine wpList_store_row rfl 25 (.tmp 4) (.tmp 67) rfl w.heap.size (ndC t.k t.s t.n t.a (.slice xa t.kids.length xc) (.slice ya t.p.length yc)) rfl rfl 25 zeroN HX9.out.rv.res.row HI rfl (nd_one _ _ _ _ _ _ _ _ _ _) ?_)
  refine bodyPost_ret (v := .agg (ndC t.k t.s t.n t.a (.slice xa t.kids.length xc) (.slice ya t.p.length yc))) (results_cell_row (by rfl) _ _ w.heap.size 25 _ (0, 0) _ (by rfl) (HX9.out.rv.res.setRow _).row Tryz.underlying25 (by rfl) HI) rfl ?_
  exact HX9.out.ret

set_option maxRecDepth 100000 in
set_option maxHeartbeats 2000000 in
theorem punary_false (L : List Tok) (k k' : Nat) (t : Nd) (T T' : Tok) (hT0 : L[k]? = some T) (hT0' : L[k']? = some T') (h0 : isB [[33], [45], [43]] T = false) (h1 : isB [[43, 43], [45, 45]] T = false) (h2 : isB [[40]] T = false) (h3 : isB [[43, 43], [45, 45]] T' = false) (hl : (decide (3 ≤ t.k) && decide (t.k ≤ 5)) = false) (hin : Reads 220 L k t k') : Reads 216 L k t k' := by
  intro w p g c d h hd
  have HI := info_nd
  have H0 := Lib.hid h
  have HIn := Lib.hid (fun w h => hin w p g c d h hd)
  have HTk := Lib.hid (fun (w : World) (h : PS w p g c L k) => ptok w p g c k L h T hT0)
  have HDp := Lib.hid (fun w => pdeep p d (by omega) w)
  have f1 := tfield1 T
  have f2 := tfield2 T
  have HNe := Lib.hid (fun (w : World) (h : PS w p g c L k) => (show Calls Tryz.prog 54 #[.pointer (some ⟨p, 0, none⟩), .slice (some ⟨w.heap.size, 0, none⟩) 3 3] (w.alloc (.cells #[.string ⟨#[33]⟩, .string ⟨#[45]⟩, .string ⟨#[43]⟩] 9)) (fun e w' => e = .returned (.bool false) ∧ Below w.heap.size w w') from pis_alloc w p g c k L h T hT0 [[33], [45], [43]] 3 rfl false h0))
  have HSt := Lib.hid (fun (w : World) (h : PS w p g c L k) => (show Calls Tryz.prog 54 #[.pointer (some ⟨p, 0, none⟩), .slice (some ⟨w.heap.size, 0, none⟩) 2 2] (w.alloc (.cells #[.string ⟨#[43, 43]⟩, .string ⟨#[45, 45]⟩] 9)) (fun e w' => e = .returned (.bool false) ∧ Below w.heap.size w w') from pis_alloc w p g c k L h T hT0 [[43, 43], [45, 45]] 2 rfl false h1))
  have HSt' := Lib.hid (fun (w : World) (h : PS w p g c L k') => (show Calls Tryz.prog 54 #[.pointer (some ⟨p, 0, none⟩), .slice (some ⟨w.heap.size, 0, none⟩) 2 2] (w.alloc (.cells #[.string ⟨#[43, 43]⟩, .string ⟨#[45, 45]⟩] 9)) (fun e w' => e = .returned (.bool false) ∧ Below w.heap.size w w') from pis_alloc w p g c k' L h T' hT0' [[43, 43], [45, 45]] 2 rfl false h3))
  have HBr := Lib.hid (fun (w : World) (h : PS w p g c L k) => pone w p g c k L h T hT0 ⟨#[40]⟩ [40] rfl false h2)
  have HLf := Lib.hid (fun (w : World) sl sp => pleft t.k t.s t.n t.a sl sp w false hl)
  clear hin h0 h1 h2 h3 hT0 hT0' hd hl
  clear h
  go_enter Tryz.func216, Tryz.ntmps216
  go_upto_region 1 with (fail)
  obtain ⟨W, hW, hX, hB, hsz⟩ := nd_box w zeroN
  change Code.wp _ _ _ _ (w.alloc (Obj.cells zeroN 25))
  rw [← hW]
  clear hW
  have RV1 : Hid (RV w W p g c L k) := Lib.hid ⟨hX.out, H0.out.after hB.out, .of hB.out, H0.out.plt, H0.out.there⟩
  have hWs : W.heap.size = w.heap.size + 1 := hsz.out
  have HWs := Lib.hid hWs
  clear hX hB hsz hWs
  go_wp2_with fail
  refine (HDp.out _).mono ?_
  rintro e w1 ⟨rfl, rfl⟩
  go_wp2_with fail
  refine (HTk.out _ RV1.out.ps).mono ?_
  rintro e w1 ⟨rfl, b1⟩
  have RV2 := Lib.hid (RV1.out.after b1)
  clear b1
  go_wp2_with fail
  refine (HTk.out _ RV2.out.ps).mono ?_
  rintro e w2 ⟨rfl, b2⟩
  have RV3 := Lib.hid (RV2.out.after b2)
  clear b2
  go_wp2_with fail
  refine (HNe.out _ RV3.out.ps).mono ?_
  rintro e w3 ⟨rfl, b3⟩
  have RV4 := Lib.hid (RV3.out.after b3)
  clear b3
  go_wp2_with fail
  refine (HSt.out _ RV4.out.ps).mono ?_
  rintro e w4 ⟨rfl, b4⟩
  have RV5 := Lib.hid (RV4.out.after b4)
  clear b4
  go_wp2_with fail
  refine (HBr.out _ RV5.out.ps).mono ?_
  rintro e w5 ⟨rfl, b5⟩
  have RV6 := Lib.hid (RV5.out.after b5)
  clear b5
  go_wp2_with fail
  refine ((HIn).out _ RV6.out.ps).mono ?_
  rintro e w1 ⟨cs, rfl, hA, hP, hBt⟩
  obtain ⟨xa, xc, ya, yc, hcs, _⟩ := hA.opens
  subst hcs
  have HR := Lib.hid (RV6.out.on hP hBt)
  have HA := Lib.hid (hA.weak (C := w.heap.size + 1) (by have := RV6.out.res.lt; omega))
  have hle : w.heap.size + 1 ≤ w1.heap.size := by have := RV6.out.res.lt; have := hBt.size; omega
  have HLE := Lib.hid hle
  clear hA hP hBt hle
  go_upto_region 11 with (refine wpList_store_row rfl 25 (.tmp 9) (.tmp 43) rfl w1.heap.size (ndC t.k t.s t.n t.a (.slice xa t.kids.length xc) (.slice ya t.p.length yc)) rfl rfl 25 zeroN (heap_alloc_last _ _) HI rfl (nd_one _ _ _ _ _ _ _ _ _ _) ?_)
  obtain ⟨W7, hW7, X3, B3, hs3⟩ := nd_boxed w1 zeroN (ndC t.k t.s t.n t.a (.slice xa t.kids.length xc) (.slice ya t.p.length yc))
  change Code.wp _ _ _ _ ((w1.alloc (Obj.cells zeroN 25)).setRow w1.heap.size (ndC t.k t.s t.n t.a (.slice xa t.kids.length xc) (.slice ya t.p.length yc)))
  rw [← hW7]
  obtain ⟨xb, hxb⟩ : ∃ xb, xb = w1.heap.size := ⟨_, rfl⟩
  rw [← hxb] at X3 ⊢
  have HX : Hid (RX w W7 p g c L k' t xb (ndC t.k t.s t.n t.a (.slice xa t.kids.length xc) (.slice ya t.p.length yc))) := Lib.hid ⟨HR.out.after B3.out, X3.out, (HA.out.inWorld.weakS (fun j hj => ⟨hj.1, by have := hj.2; omega⟩)).after B3.out, by have := HR.out.plt; have := HR.out.bt.size; have := HLE.out; omega, by have := HLE.out; omega⟩
  clear hW7 hxb X3 B3 hs3 HR HA HLE RV6
  obtain ⟨e0, e1, e2, e3, e4, e5⟩ := six_nd HX.out.box.six
  go_wp2_with fail
  refine (HLf.out _ _ _).mono ?_
  rintro e w8 ⟨rfl, b8⟩
  have HX8 := Lib.hid (HX.out.after b8)
  clear b8 e0 e1 e2 e3 e4 e5
  obtain ⟨e0, e1, e2, e3, e4, e5⟩ := six_nd HX8.out.box.six
  go_wp2_with (refine wpList_store_row rfl 25 (.tmp 4) (.tmp 67) rfl w.heap.size (ndC t.k t.s t.n t.a (.slice xa t.kids.length xc) (.slice ya t.p.length yc)) rfl rfl 25 zeroN HX8.out.rv.res.row HI rfl (nd_one _ _ _ _ _ _ _ _ _ _) ?_)
  refine bodyPost_ret (v := .agg (ndC t.k t.s t.n t.a (.slice xa t.kids.length xc) (.slice ya t.p.length yc))) (results_cell_row (by rfl) _ _ w.heap.size 25 _ (0, 0) _ (by rfl) (HX8.out.rv.res.setRow _).row Tryz.underlying25 (by rfl) HI) rfl ?_
  exact HX8.out.ret
end Go.Proofs.YtgdlpldngpoadaaGreatDoor
