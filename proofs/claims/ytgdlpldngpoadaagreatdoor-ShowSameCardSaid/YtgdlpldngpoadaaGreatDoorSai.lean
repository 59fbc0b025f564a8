/- Merged by program: RPc, RPd. -/
import Derived.Test.YtgdlpldngpoadaaGreatDoorSah
/- The document's reader of expressions, where nothing is wrong: sums (gen_rpb.py). -/
namespace Go.Proofs.YtgdlpldngpoadaaGreatDoor
open Go.RowKit

set_option maxRecDepth 100000 in
set_option maxHeartbeats 2000000 in
theorem psum_two (L : List Tok) (k k1 k2 : Nat) (t u : Nd) (T1 T2 : Tok) (hT1 : L[k1]? = some T1) (hT2 : L[k2]? = some T2) (hk : k1 + 1 < L.length) (hy : isB [[43], [45]] T1 = true) (hn : isB [[43], [45]] T2 = false) (hin : Reads 213 L k t k1) (hin2 : Reads 213 L (k1 + 1) u k2) : Reads 204 L k (.mk 14 T1.S 0 t.a [t, u] []) k2 := by
  intro w p g c d h hd
  have HI := info_nd
  have H0 := Lib.hid h
  have HIn := Lib.hid (fun w h => hin w p g c d h hd)
  have HIn2 := Lib.hid (fun w h => hin2 w p g c d h hd)
  have HOn := Lib.hid (fun w h => pon w p g c k1 L h hk)
  have HTk := Lib.hid (fun (w : World) (h : PS w p g c L k1) => ptok w p g c k1 L h T1 hT1)
  have f1 := tfield1 T1
  have HYes := Lib.hid (fun (w : World) (h : PS w p g c L k1) => (show Calls Tryz.prog 54 #[.pointer (some ⟨p, 0, none⟩), .slice (some ⟨w.heap.size, 0, none⟩) 2 2] (w.alloc (.cells #[.string ⟨#[43]⟩, .string ⟨#[45]⟩] 9)) (fun e w' => e = .returned (.bool true) ∧ Below w.heap.size w w') from pis_alloc w p g c k1 L h T1 hT1 [[43], [45]] 2 rfl true hy))
  have HNo := Lib.hid (fun (w : World) (h : PS w p g c L k2) => (show Calls Tryz.prog 54 #[.pointer (some ⟨p, 0, none⟩), .slice (some ⟨w.heap.size, 0, none⟩) 2 2] (w.alloc (.cells #[.string ⟨#[43]⟩, .string ⟨#[45]⟩] 9)) (fun e w' => e = .returned (.bool false) ∧ Below w.heap.size w w') from pis_alloc w p g c k2 L h T2 hT2 [[43], [45]] 2 rfl false hn))
  clear hin hin2 hy hn hT1 hT2 hd hk
  clear h
  go_enter Tryz.func204, Tryz.ntmps204
  go_upto_region 1 with (fail)
  obtain ⟨W, hW, hX, hB, hsz⟩ := nd_box w zeroN
  change Code.wp _ _ _ _ (w.alloc (Obj.cells zeroN 25))
  rw [← hW]
  clear hW
  have RV1 : Hid (RV w W p g c L k) := Lib.hid ⟨hX.out, H0.out.after hB.out, .of hB.out, H0.out.plt, H0.out.there⟩
  have hWs : W.heap.size = w.heap.size + 1 := hsz.out
  have HWs := Lib.hid hWs
  clear hX hB hsz hWs
  go_wp2_with fail
  refine ((HIn).out _ RV1.out.ps).mono ?_
  rintro e w1 ⟨cs, rfl, hA, hP, hBt⟩
  obtain ⟨xa, xc, ya, yc, hcs, _⟩ := hA.opens
  subst hcs
  have HR := Lib.hid (RV1.out.on hP hBt)
  have HA := Lib.hid (hA.weak (C := w.heap.size + 1) (by have := RV1.out.res.lt; omega))
  have hle : w.heap.size + 1 ≤ w1.heap.size := by have := RV1.out.res.lt; have := hBt.size; omega
  have HLE := Lib.hid hle
  clear hA hP hBt hle
  go_upto_region 2 with (refine wpList_store_row rfl 25 (.tmp 5) (.tmp 10) rfl w1.heap.size (ndC t.k t.s t.n t.a (.slice xa t.kids.length xc) (.slice ya t.p.length yc)) rfl rfl 25 zeroN (heap_alloc_last _ _) HI rfl (nd_one _ _ _ _ _ _ _ _ _ _) ?_)
  obtain ⟨W2, hW2, X3, B3, hs3⟩ := nd_boxed w1 zeroN (ndC t.k t.s t.n t.a (.slice xa t.kids.length xc) (.slice ya t.p.length yc))
  change Code.wp _ _ _ _ ((w1.alloc (Obj.cells zeroN 25)).setRow w1.heap.size (ndC t.k t.s t.n t.a (.slice xa t.kids.length xc) (.slice ya t.p.length yc)))
  rw [← hW2]
  obtain ⟨xb, hxb⟩ : ∃ xb, xb = w1.heap.size := ⟨_, rfl⟩
  rw [← hxb] at X3 ⊢
  have HX : Hid (RX w W2 p g c L k1 t xb (ndC t.k t.s t.n t.a (.slice xa t.kids.length xc) (.slice ya t.p.length yc))) := Lib.hid ⟨HR.out.after B3.out, X3.out, (HA.out.inWorld.weakS (fun j hj => ⟨hj.1, by have := hj.2; omega⟩)).after B3.out, by have := HR.out.plt; have := HR.out.bt.size; have := HLE.out; omega, by have := HLE.out; omega⟩
  clear hW2 hxb X3 B3 hs3 HR HA HLE RV1
  go_wp2_with fail
  refine wp_loop_rounds 2 ?_
  rw [rounds_succ]
  go_wp2_with fail
  refine ((HYes).out _ HX.out.rv.ps).mono ?_
  rintro e w3 ⟨rfl, b3⟩
  have HX3 := Lib.hid (HX.out.after b3)
  clear b3
  go_wp2_with fail
  refine ((HTk).out _ HX3.out.rv.ps).mono ?_
  rintro e w4 ⟨rfl, b4⟩
  have HX4 := Lib.hid (HX3.out.after b4)
  clear b4
  go_wp2_with fail
  refine ((HOn).out _ HX4.out.rv.ps).mono ?_
  rintro e w5 ⟨rfl, hP, hBt⟩
  have HX5 := Lib.hid (HX4.out.on hP hBt)
  clear hP hBt
  have HXB : Hid (xb < w5.heap.size) := Lib.hid HX5.out.box.lt
  go_wp2_with fail
  refine ((HIn2).out _ HX5.out.rv.ps).mono ?_
  rintro e w6 ⟨ds, rfl, hA, hP, hBt⟩
  obtain ⟨xa2, xc2, ya2, yc2, hds, _⟩ := hA.opens
  subst hds
  have HRa := Lib.hid (HX5.out.on hP hBt)
  have HAU : Hid (At w6 (Tr w xb) u (ndC u.k u.s u.n u.a (.slice xa2 u.kids.length xc2) (.slice ya2 u.p.length yc2))) := Lib.hid (hA.weakS (fun j hj => by have h1 : w5.heap.size ≤ j := hj; have h2 := HXB.out; have h3 := HX5.out.ne.2; exact ⟨by omega, by omega⟩))
  clear hA hP hBt
  go_upto_region 6 with (refine wpList_store_row rfl 25 (.tmp 7) (.tmp 21) rfl w6.heap.size (ndC u.k u.s u.n u.a (.slice xa2 u.kids.length xc2) (.slice ya2 u.p.length yc2)) rfl rfl 25 zeroN (heap_alloc_last _ _) HI rfl (nd_one _ _ _ _ _ _ _ _ _ _) ?_)
  obtain ⟨V6, hV6, YB, B6, hs6⟩ := nd_boxed w6 zeroN (ndC u.k u.s u.n u.a (.slice xa2 u.kids.length xc2) (.slice ya2 u.p.length yc2))
  change Code.wp _ _ _ _ ((w6.alloc (Obj.cells zeroN 25)).setRow w6.heap.size (ndC u.k u.s u.n u.a (.slice xa2 u.kids.length xc2) (.slice ya2 u.p.length yc2)))
  rw [← hV6]
  have HXb := Lib.hid (HRa.out.after B6.out)
  have HAV := Lib.hid (HAU.out.after B6.out)
  obtain ⟨yb, hyb⟩ : ∃ yb, yb = w6.heap.size := ⟨_, rfl⟩
  rw [← hyb] at YB ⊢
  clear hV6 hyb hs6 B6 HRa HAU
  obtain ⟨e0, e1, e2, e3, e4, e5⟩ := six_nd HXb.out.box.six
  obtain ⟨d0, d1, d2, d3, d4, d5⟩ := six_nd YB.out.six
  go_wp2_with fail
  refine (pnode 14 t.a T1.S _ 2 2 _).mono ?_
  rintro e w7 ⟨rfl, b7⟩
  have HTP := Lib.hid ((pair_at 14 T1.S t.a HXb.out.tree HAV.out ⟨by have := HXb.out.rv.res.lt; omega, by have := HXb.out.box.lt; omega⟩).after b7)
  have HX7 := Lib.hid (HXb.out.after (Below.step (below_new _ _) b7))
  clear b7 e0 e1 e2 e3 e4 e5 d0 d1 d2 d3 d4 d5 HAV YB HXb
  go_wp2_with (refine wpList_store_row rfl 25 (.tmp 5) (.tmp 28) rfl xb (ndC 14 T1.S 0 t.a (.slice (some ⟨V6.heap.size, 0, none⟩) 2 2) (.slice none 0 0)) rfl rfl 25 _ HX7.out.box.row HI rfl (nd_one _ _ _ _ _ _ _ _ _ _) ?_)
  obtain ⟨V8, hV8, HX8⟩ : ∃ V8, V8 = w7.setRow xb (ndC 14 T1.S 0 t.a (.slice (some ⟨V6.heap.size, 0, none⟩) 2 2) (.slice none 0 0)) ∧ Hid (RX w V8 p g c L k2 (.mk 14 T1.S 0 t.a [t, u] []) xb (ndC 14 T1.S 0 t.a (.slice (some ⟨V6.heap.size, 0, none⟩) 2 2) (.slice none 0 0))) := ⟨_, rfl, Lib.hid (HX7.out.put HTP.out)⟩
  rw [← hV8]
  clear HTP HX7 hV8
  rw [rounds_succ]
  go_wp2_with fail
  refine ((HNo).out _ HX8.out.rv.ps).mono ?_
  rintro e w9 ⟨rfl, b9⟩
  have HX9 := Lib.hid (HX8.out.after b9)
  clear b9
  obtain ⟨e0, e1, e2, e3, e4, e5⟩ := six_nd HX9.out.box.six
  go_wp2_with (refine wpList_store_row rfl 25 (.tmp 4) (.tmp 29) rfl w.heap.size (ndC 14 T1.S 0 t.a (.slice (some ⟨V6.heap.size, 0, none⟩) 2 2) (.slice none 0 0)) rfl rfl 25 zeroN HX9.out.rv.res.row HI rfl (nd_one _ _ _ _ _ _ _ _ _ _) ?_)
  refine bodyPost_ret (v := .agg (ndC 14 T1.S 0 t.a (.slice (some ⟨V6.heap.size, 0, none⟩) 2 2) (.slice none 0 0))) (results_cell_row (by rfl) _ _ w.heap.size 25 _ (0, 0) _ (by rfl) (HX9.out.rv.res.setRow _).row Tryz.underlying25 (by rfl) HI) rfl ?_
  exact HX9.out.ret
end Go.Proofs.YtgdlpldngpoadaaGreatDoor

/- The document's reader of expressions, where nothing is wrong: joins (gen_rpb.py). -/
namespace Go.Proofs.YtgdlpldngpoadaaGreatDoor
open Go.RowKit

set_option maxRecDepth 100000 in
set_option maxHeartbeats 2000000 in
theorem pcat_one (L : List Tok) (k k' : Nat) (t : Nd) (T : Tok) (hT0 : L[k']? = some T) (hT : T.K ≠ 2 ∧ T.K ≠ 3 ∧ T.K ≠ 5 ∧ T.K ≠ 6 ∧ T.K ≠ 8) (hn : isB [[36], [40], [43, 43], [45, 45]] T = false) (hin : Reads 204 L k t k') : Reads 195 L k t k' := by
  intro w p g c d h hd
  have HI := info_nd
  have H0 := Lib.hid h
  have HIn := Lib.hid (fun w h => hin w p g c d h hd)
  have HTk := Lib.hid (fun (w : World) (h : PS w p g c L k') => ptok w p g c k' L h T hT0)
  have f0 := tfield0 T
  have HNo := Lib.hid (fun (w : World) (h : PS w p g c L k') => (show Calls Tryz.prog 54 #[.pointer (some ⟨p, 0, none⟩), .slice (some ⟨w.heap.size, 0, none⟩) 4 4] (w.alloc (.cells #[.string ⟨#[36]⟩, .string ⟨#[40]⟩, .string ⟨#[43, 43]⟩, .string ⟨#[45, 45]⟩] 9)) (fun e w' => e = .returned (.bool false) ∧ Below w.heap.size w w') from pis_alloc w p g c k' L h T hT0 [[36], [40], [43, 43], [45, 45]] 4 rfl false hn))
  have kT2 : (T.K == 2) = false := by have h := hT; simp; omega
  have kT3 : (T.K == 3) = false := by have h := hT; simp; omega
  have kT5 : (T.K == 5) = false := by have h := hT; simp; omega
  have kT6 : (T.K == 6) = false := by have h := hT; simp; omega
  have kT8 : (T.K == 8) = false := by have h := hT; simp; omega
  clear hin hn hT hT0 hd
  clear h
  go_enter Tryz.func195, Tryz.ntmps195
  go_upto_region 1 with (fail)
  obtain ⟨W, hW, hX, hB, hsz⟩ := nd_box w zeroN
  change Code.wp _ _ _ _ (w.alloc (Obj.cells zeroN 25))
  rw [← hW]
  clear hW
  have RV1 : Hid (RV w W p g c L k) := Lib.hid ⟨hX.out, H0.out.after hB.out, .of hB.out, H0.out.plt, H0.out.there⟩
  have hWs : W.heap.size = w.heap.size + 1 := hsz.out
  have HWs := Lib.hid hWs
  clear hX hB hsz hWs
  go_wp2_with fail
  refine ((HIn).out _ RV1.out.ps).mono ?_
  rintro e w1 ⟨cs, rfl, hA, hP, hBt⟩
  obtain ⟨xa, xc, ya, yc, hcs, _⟩ := hA.opens
  subst hcs
  have HR := Lib.hid (RV1.out.on hP hBt)
  have HA := Lib.hid (hA.weak (C := w.heap.size + 1) (by have := RV1.out.res.lt; omega))
  have hle : w.heap.size + 1 ≤ w1.heap.size := by have := RV1.out.res.lt; have := hBt.size; omega
  have HLE := Lib.hid hle
  clear hA hP hBt hle
  go_upto_region 2 with (refine wpList_store_row rfl 25 (.tmp 5) (.tmp 10) rfl w1.heap.size (ndC t.k t.s t.n t.a (.slice xa t.kids.length xc) (.slice ya t.p.length yc)) rfl rfl 25 zeroN (heap_alloc_last _ _) HI rfl (nd_one _ _ _ _ _ _ _ _ _ _) ?_)
  obtain ⟨W2, hW2, X3, B3, hs3⟩ := nd_boxed w1 zeroN (ndC t.k t.s t.n t.a (.slice xa t.kids.length xc) (.slice ya t.p.length yc))
  change Code.wp _ _ _ _ ((w1.alloc (Obj.cells zeroN 25)).setRow w1.heap.size (ndC t.k t.s t.n t.a (.slice xa t.kids.length xc) (.slice ya t.p.length yc)))
  rw [← hW2]
  obtain ⟨xb, hxb⟩ : ∃ xb, xb = w1.heap.size := ⟨_, rfl⟩
  rw [← hxb] at X3 ⊢
  have HX : Hid (RX w W2 p g c L k' t xb (ndC t.k t.s t.n t.a (.slice xa t.kids.length xc) (.slice ya t.p.length yc))) := Lib.hid ⟨HR.out.after B3.out, X3.out, (HA.out.inWorld.weakS (fun j hj => ⟨hj.1, by have := hj.2; omega⟩)).after B3.out, by have := HR.out.plt; have := HR.out.bt.size; have := HLE.out; omega, by have := HLE.out; omega⟩
  clear hW2 hxb X3 B3 hs3 HR HA HLE RV1
  go_wp2_with fail
  refine ((HTk).out _ HX.out.rv.ps).mono ?_
  rintro e w3 ⟨rfl, b3⟩
  have HX3 := Lib.hid (HX.out.after b3)
  clear b3
  have c3 := HX3.out.rv.ps.c3
  go_wp2_with fail
  refine wp_loop_rounds 1 ?_
  rw [rounds_succ]
  go_wp2_with fail
  refine ((HNo).out _ HX3.out.rv.ps).mono ?_
  rintro e w4 ⟨rfl, b4⟩
  have HX4 := Lib.hid (HX3.out.after b4)
  clear b4
  obtain ⟨e0, e1, e2, e3, e4, e5⟩ := six_nd HX4.out.box.six
  go_wp2_with (refine wpList_store_row rfl 25 (.tmp 4) (.tmp 56) rfl w.heap.size (ndC t.k t.s t.n t.a (.slice xa t.kids.length xc) (.slice ya t.p.length yc)) rfl rfl 25 zeroN HX4.out.rv.res.row HI rfl (nd_one _ _ _ _ _ _ _ _ _ _) ?_)
  refine bodyPost_ret (v := .agg (ndC t.k t.s t.n t.a (.slice xa t.kids.length xc) (.slice ya t.p.length yc))) (results_cell_row (by rfl) _ _ w.heap.size 25 _ (0, 0) _ (by rfl) (HX4.out.rv.res.setRow _).row Tryz.underlying25 (by rfl) HI) rfl ?_
  exact HX4.out.ret

set_option maxRecDepth 100000 in
set_option maxHeartbeats 2000000 in
theorem pcat_two (L : List Tok) (k k1 k2 : Nat) (t u : Nd) (T1 T2 : Tok) (hT10 : L[k1]? = some T1) (hT20 : L[k2]? = some T2) (hT1 : T1.K = 5) (hT2 : T2.K ≠ 2 ∧ T2.K ≠ 3 ∧ T2.K ≠ 5 ∧ T2.K ≠ 6 ∧ T2.K ≠ 8) (hn : isB [[36], [40], [43, 43], [45, 45]] T2 = false) (hin : Reads 204 L k t k1) (hin2 : Reads 204 L k1 u k2) : Reads 195 L k (.mk 13 ⟨#[]⟩ 0 t.a [t, u] []) k2 := by
  intro w p g c d h hd
  have HI := info_nd
  have H0 := Lib.hid h
  have HIn := Lib.hid (fun w h => hin w p g c d h hd)
  have HIn2 := Lib.hid (fun w h => hin2 w p g c d h hd)
  have HTk1 := Lib.hid (fun (w : World) (h : PS w p g c L k1) => ptok w p g c k1 L h T1 hT10)
  have HTk2 := Lib.hid (fun (w : World) (h : PS w p g c L k2) => ptok w p g c k2 L h T2 hT20)
  have f0 := tfield0 T1
  have f0' := tfield0 T2
  have HNo := Lib.hid (fun (w : World) (h : PS w p g c L k2) => (show Calls Tryz.prog 54 #[.pointer (some ⟨p, 0, none⟩), .slice (some ⟨w.heap.size, 0, none⟩) 4 4] (w.alloc (.cells #[.string ⟨#[36]⟩, .string ⟨#[40]⟩, .string ⟨#[43, 43]⟩, .string ⟨#[45, 45]⟩] 9)) (fun e w' => e = .returned (.bool false) ∧ Below w.heap.size w w') from pis_alloc w p g c k2 L h T2 hT20 [[36], [40], [43, 43], [45, 45]] 4 rfl false hn))
  have kT12 : (T1.K == 2) = false := by rw [hT1]; rfl
  have kT13 : (T1.K == 3) = false := by rw [hT1]; rfl
  have kT15 : (T1.K == 5) = true := by rw [hT1]; rfl
  have kT22 : (T2.K == 2) = false := by have h := hT2; simp; omega
  have kT23 : (T2.K == 3) = false := by have h := hT2; simp; omega
  have kT25 : (T2.K == 5) = false := by have h := hT2; simp; omega
  have kT26 : (T2.K == 6) = false := by have h := hT2; simp; omega
  have kT28 : (T2.K == 8) = false := by have h := hT2; simp; omega
  clear hin hin2 hn hT1 hT2 hT10 hT20 hd
  clear h
  go_enter Tryz.func195, Tryz.ntmps195
  go_upto_region 1 with (fail)
  obtain ⟨W, hW, hX, hB, hsz⟩ := nd_box w zeroN
  change Code.wp _ _ _ _ (w.alloc (Obj.cells zeroN 25))
  rw [← hW]
  clear hW
  have RV1 : Hid (RV w W p g c L k) := Lib.hid ⟨hX.out, H0.out.after hB.out, .of hB.out, H0.out.plt, H0.out.there⟩
  have hWs : W.heap.size = w.heap.size + 1 := hsz.out
  have HWs := Lib.hid hWs
  clear hX hB hsz hWs
  go_wp2_with fail
  refine ((HIn).out _ RV1.out.ps).mono ?_
  rintro e w1 ⟨cs, rfl, hA, hP, hBt⟩
  obtain ⟨xa, xc, ya, yc, hcs, _⟩ := hA.opens
  subst hcs
  have HR := Lib.hid (RV1.out.on hP hBt)
  have HA := Lib.hid (hA.weak (C := w.heap.size + 1) (by have := RV1.out.res.lt; omega))
  have hle : w.heap.size + 1 ≤ w1.heap.size := by have := RV1.out.res.lt; have := hBt.size; omega
  have HLE := Lib.hid hle
  clear hA hP hBt hle
  go_upto_region 2 with (refine wpList_store_row rfl 25 (.tmp 5) (.tmp 10) rfl w1.heap.size (ndC t.k t.s t.n t.a (.slice xa t.kids.length xc) (.slice ya t.p.length yc)) rfl rfl 25 zeroN (heap_alloc_last _ _) HI rfl (nd_one _ _ _ _ _ _ _ _ _ _) ?_)
  obtain ⟨W2, hW2, X3, B3, hs3⟩ := nd_boxed w1 zeroN (ndC t.k t.s t.n t.a (.slice xa t.kids.length xc) (.slice ya t.p.length yc))
  change Code.wp _ _ _ _ ((w1.alloc (Obj.cells zeroN 25)).setRow w1.heap.size (ndC t.k t.s t.n t.a (.slice xa t.kids.length xc) (.slice ya t.p.length yc)))
  rw [← hW2]
  obtain ⟨xb, hxb⟩ : ∃ xb, xb = w1.heap.size := ⟨_, rfl⟩
  rw [← hxb] at X3 ⊢
  have HX : Hid (RX w W2 p g c L k1 t xb (ndC t.k t.s t.n t.a (.slice xa t.kids.length xc) (.slice ya t.p.length yc))) := Lib.hid ⟨HR.out.after B3.out, X3.out, (HA.out.inWorld.weakS (fun j hj => ⟨hj.1, by have := hj.2; omega⟩)).after B3.out, by have := HR.out.plt; have := HR.out.bt.size; have := HLE.out; omega, by have := HLE.out; omega⟩
  clear hW2 hxb X3 B3 hs3 HR HA HLE RV1
  go_wp2_with fail
  refine ((HTk1).out _ HX.out.rv.ps).mono ?_
  rintro e w5 ⟨rfl, b5⟩
  have HX5 := Lib.hid (HX.out.after b5)
  clear b5
  have c3 := HX5.out.rv.ps.c3
  go_wp2_with fail
  refine wp_loop_rounds 2 ?_
  rw [rounds_succ]
  have HXB : Hid (xb < w5.heap.size) := Lib.hid HX5.out.box.lt
  go_wp2_with fail
  refine ((HIn2).out _ HX5.out.rv.ps).mono ?_
  rintro e w6 ⟨ds, rfl, hA, hP, hBt⟩
  obtain ⟨xa2, xc2, ya2, yc2, hds, _⟩ := hA.opens
  subst hds
  have HRa := Lib.hid (HX5.out.on hP hBt)
  have HAU : Hid (At w6 (Tr w xb) u (ndC u.k u.s u.n u.a (.slice xa2 u.kids.length xc2) (.slice ya2 u.p.length yc2))) := Lib.hid (hA.weakS (fun j hj => by have h1 : w5.heap.size ≤ j := hj; have h2 := HXB.out; have h3 := HX5.out.ne.2; exact ⟨by omega, by omega⟩))
  clear hA hP hBt
  go_upto_region 6 with (refine wpList_store_row rfl 25 (.tmp 7) (.tmp 49) rfl w6.heap.size (ndC u.k u.s u.n u.a (.slice xa2 u.kids.length xc2) (.slice ya2 u.p.length yc2)) rfl rfl 25 zeroN (heap_alloc_last _ _) HI rfl (nd_one _ _ _ _ _ _ _ _ _ _) ?_)
  obtain ⟨V6, hV6, YB, B6, hs6⟩ := nd_boxed w6 zeroN (ndC u.k u.s u.n u.a (.slice xa2 u.kids.length xc2) (.slice ya2 u.p.length yc2))
  change Code.wp _ _ _ _ ((w6.alloc (Obj.cells zeroN 25)).setRow w6.heap.size (ndC u.k u.s u.n u.a (.slice xa2 u.kids.length xc2) (.slice ya2 u.p.length yc2)))
  rw [← hV6]
  have HXb := Lib.hid (HRa.out.after B6.out)
  have HAV := Lib.hid (HAU.out.after B6.out)
  obtain ⟨yb, hyb⟩ : ∃ yb, yb = w6.heap.size := ⟨_, rfl⟩
  rw [← hyb] at YB ⊢
  clear hV6 hyb hs6 B6 HRa HAU
  obtain ⟨e0, e1, e2, e3, e4, e5⟩ := six_nd HXb.out.box.six
  obtain ⟨d0, d1, d2, d3, d4, d5⟩ := six_nd YB.out.six
  go_wp2_with fail
  refine (pnode 13 t.a ⟨#[]⟩ _ 2 2 _).mono ?_
  rintro e w7 ⟨rfl, b7⟩
  have HTP := Lib.hid ((pair_at 13 ⟨#[]⟩ t.a HXb.out.tree HAV.out ⟨by have := HXb.out.rv.res.lt; omega, by have := HXb.out.box.lt; omega⟩).after b7)
  have HX7 := Lib.hid (HXb.out.after (Below.step (below_new _ _) b7))
  clear b7 e0 e1 e2 e3 e4 e5 d0 d1 d2 d3 d4 d5 HAV YB HXb
  go_wp2_with (refine wpList_store_row rfl 25 (.tmp 5) (.tmp 55) rfl xb (ndC 13 ⟨#[]⟩ 0 t.a (.slice (some ⟨V6.heap.size, 0, none⟩) 2 2) (.slice none 0 0)) rfl rfl 25 _ HX7.out.box.row HI rfl (nd_one _ _ _ _ _ _ _ _ _ _) ?_)
  obtain ⟨V8, hV8, HX8⟩ : ∃ V8, V8 = w7.setRow xb (ndC 13 ⟨#[]⟩ 0 t.a (.slice (some ⟨V6.heap.size, 0, none⟩) 2 2) (.slice none 0 0)) ∧ Hid (RX w V8 p g c L k2 (.mk 13 ⟨#[]⟩ 0 t.a [t, u] []) xb (ndC 13 ⟨#[]⟩ 0 t.a (.slice (some ⟨V6.heap.size, 0, none⟩) 2 2) (.slice none 0 0))) := ⟨_, rfl, Lib.hid (HX7.out.put HTP.out)⟩
  rw [← hV8]
  clear HTP HX7 hV8 c3
  go_wp2_with fail
  refine ((HTk2).out _ HX8.out.rv.ps).mono ?_
  rintro e w9 ⟨rfl, b9⟩
  have HX9 := Lib.hid (HX8.out.after b9)
  clear b9
  have c3 := HX9.out.rv.ps.c3
  go_wp2_with fail
  rw [rounds_succ]
  go_wp2_with fail
  refine ((HNo).out _ HX9.out.rv.ps).mono ?_
  rintro e w10 ⟨rfl, b10⟩
  have HX10 := Lib.hid (HX9.out.after b10)
  clear b10
  obtain ⟨e0, e1, e2, e3, e4, e5⟩ := six_nd HX10.out.box.six
  go_wp2_with (refine wpList_store_row rfl 25 (.tmp 4) (.tmp 56) rfl w.heap.size (ndC 13 ⟨#[]⟩ 0 t.a (.slice (some ⟨V6.heap.size, 0, none⟩) 2 2) (.slice none 0 0)) rfl rfl 25 zeroN HX10.out.rv.res.row HI rfl (nd_one _ _ _ _ _ _ _ _ _ _) ?_)
  refine bodyPost_ret (v := .agg (ndC 13 ⟨#[]⟩ 0 t.a (.slice (some ⟨V6.heap.size, 0, none⟩) 2 2) (.slice none 0 0))) (results_cell_row (by rfl) _ _ w.heap.size 25 _ (0, 0) _ (by rfl) (HX10.out.rv.res.setRow _).row Tryz.underlying25 (by rfl) HI) rfl ?_
  exact HX10.out.ret
end Go.Proofs.YtgdlpldngpoadaaGreatDoor
