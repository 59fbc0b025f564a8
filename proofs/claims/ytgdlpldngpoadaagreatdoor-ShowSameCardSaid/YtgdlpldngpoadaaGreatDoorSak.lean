/- Merged by program: RPf, RPg, RPh. -/
import Derived.Test.YtgdlpldngpoadaaGreatDoorSaj
/- The document's reader of expressions, where nothing is wrong: expressions (gen_rpb.py). -/
namespace Go.Proofs.YtgdlpldngpoadaaGreatDoor
open Go.RowKit

set_option maxRecDepth 100000 in
set_option maxHeartbeats 2000000 in
theorem pexpr_plain (L : List Tok) (k k' : Nat) (t : Nd) (T T' : Tok) (hT0 : L[k]? = some T) (hT0' : L[k']? = some T') (h2 : isB [[40]] T = false) (hl : (decide (3 ≤ t.k) && decide (t.k ≤ 5)) = false) (hn : isB [[63]] T' = false) (hin : Reads 52 L k t k') : Reads 26 L k t k' := by
  intro w p g c d h hd
  have HI := info_nd
  have H0 := Lib.hid h
  have HIn := Lib.hid (fun w h => hin w p g c d h hd)
  have HDp := Lib.hid (fun w => pdeep p d (by omega) w)
  have HNo := Lib.hid (fun (w : World) (h : PS w p g c L k') => pgoes_no w p g c k' L h T' hT0' ⟨#[63]⟩ [63] rfl hn)
  have HBr := Lib.hid (fun (w : World) (h : PS w p g c L k) => pone w p g c k L h T hT0 ⟨#[40]⟩ [40] rfl false h2)
  have HLf := Lib.hid (fun (w : World) sl sp => pleft t.k t.s t.n t.a sl sp w false hl)
  clear hin h2 hn hT0 hT0' hd hl
  clear h
  go_enter Tryz.func26, Tryz.ntmps26
  go_upto_region 1 with (fail)
  obtain ⟨W, hW, hX, hB, hsz⟩ := nd_box w zeroN
  change Code.wp _ _ _ _ (w.alloc (Obj.cells zeroN 25))
  rw [← hW]
  clear hW
  have RV1 : Hid (RV w W p g c L k) := Lib.hid ⟨hX.out, H0.out.after hB.out, .of hB.out, H0.out.plt, H0.out.there⟩
  have hWs : W.heap.size = w.heap.size + 1 := hsz.out
  have HWs := Lib.hid hWs
  clear hX hB hsz hWs
  go_wp2_with fail
  refine (HDp.out _).mono ?_
  rintro e w1 ⟨rfl, rfl⟩
  have c3 := RV1.out.ps.c3
  go_wp2_with fail
  refine (HBr.out _ RV1.out.ps).mono ?_
  rintro e w2 ⟨rfl, b2⟩
  have RV2 := Lib.hid (RV1.out.after b2)
  clear b2 c3
  go_wp2_with fail
  refine ((HIn).out _ RV2.out.ps).mono ?_
  rintro e w1 ⟨cs, rfl, hA, hP, hBt⟩
  obtain ⟨xa, xc, ya, yc, hcs, _⟩ := hA.opens
  subst hcs
  have HR := Lib.hid (RV2.out.on hP hBt)
  have HA := Lib.hid (hA.weak (C := w.heap.size + 1) (by have := RV2.out.res.lt; omega))
  have hle : w.heap.size + 1 ≤ w1.heap.size := by have := RV2.out.res.lt; have := hBt.size; omega
  have HLE := Lib.hid hle
  clear hA hP hBt hle
  go_upto_region 6 with (refine wpList_store_row rfl 25 (.tmp 6) (.tmp 24) rfl w1.heap.size (ndC t.k t.s t.n t.a (.slice xa t.kids.length xc) (.slice ya t.p.length yc)) rfl rfl 25 zeroN (heap_alloc_last _ _) HI rfl (nd_one _ _ _ _ _ _ _ _ _ _) ?_)
  obtain ⟨W7, hW7, X3, B3, hs3⟩ := nd_boxed w1 zeroN (ndC t.k t.s t.n t.a (.slice xa t.kids.length xc) (.slice ya t.p.length yc))
  change Code.wp _ _ _ _ ((w1.alloc (Obj.cells zeroN 25)).setRow w1.heap.size (ndC t.k t.s t.n t.a (.slice xa t.kids.length xc) (.slice ya t.p.length yc)))
  rw [← hW7]
  obtain ⟨xb, hxb⟩ : ∃ xb, xb = w1.heap.size := ⟨_, rfl⟩
  rw [← hxb] at X3 ⊢
  have HX : Hid (RX w W7 p g c L k' t xb (ndC t.k t.s t.n t.a (.slice xa t.kids.length xc) (.slice ya t.p.length yc))) := Lib.hid ⟨HR.out.after B3.out, X3.out, (HA.out.inWorld.weakS (fun j hj => ⟨hj.1, by have := hj.2; omega⟩)).after B3.out, by have := HR.out.plt; have := HR.out.bt.size; have := HLE.out; omega, by have := HLE.out; omega⟩
  clear hW7 hxb X3 B3 hs3 HR HA HLE RV2
  obtain ⟨e0, e1, e2, e3, e4, e5⟩ := six_nd HX.out.box.six
  go_wp2_with fail
  refine (HLf.out _ _ _).mono ?_
  rintro e w8 ⟨rfl, b8⟩
  have HX8 := Lib.hid (HX.out.after b8)
  clear b8 e0 e1 e2 e3 e4 e5
  go_wp2_with fail
  refine ((HNo).out _ HX8.out.rv.ps).mono ?_
  rintro e w9 ⟨rfl, b9⟩
  have HX9 := Lib.hid (HX8.out.after b9)
  clear b9
  obtain ⟨e0, e1, e2, e3, e4, e5⟩ := six_nd HX9.out.box.six
  go_wp2_with (refine wpList_store_row rfl 25 (.tmp 4) (.tmp 78) rfl w.heap.size (ndC t.k t.s t.n t.a (.slice xa t.kids.length xc) (.slice ya t.p.length yc)) rfl rfl 25 zeroN HX9.out.rv.res.row HI rfl (nd_one _ _ _ _ _ _ _ _ _ _) ?_)
  refine bodyPost_ret (v := .agg (ndC t.k t.s t.n t.a (.slice xa t.kids.length xc) (.slice ya t.p.length yc))) (results_cell_row (by rfl) _ _ w.heap.size 25 _ (0, 0) _ (by rfl) (HX9.out.rv.res.setRow _).row Tryz.underlying25 (by rfl) HI) rfl ?_
  exact HX9.out.ret

set_option maxRecDepth 100000 in
set_option maxHeartbeats 2000000 in
theorem pexpr_assign (L : List Tok) (k k1 k2 : Nat) (t u : Nd) (s1 : ByteArray) (T T1 T2 : Tok) (hT0 : L[k]? = some T) (hT1 : L[k1]? = some T1) (hT2 : L[k1 + 1]? = some T2) (hk : k1 + 1 < L.length) (h2 : isB [[40]] T = false) (hl : (decide (3 ≤ t.k) && decide (t.k ≤ 5)) = true) (hy : isB [[61], [43, 61], [45, 61], [42, 61], [47, 61], [37, 61]] T1 = true) (hs : T1.S.extract 0 1 = s1) (hz : 1 ≤ T1.S.size) (hf : T2.K ≠ 1) (hin : Reads 52 L k t k1) (hin2 : Reads 26 L (k1 + 1) u k2)
    (w : World) (p g c d : Nat) (h : PS w p g c L k) (hd : d ≤ 99) : Calls Tryz.prog 26 #[.pointer (some ⟨p, 0, none⟩), .int .i64 d] w (ReadOut p g c L (.mk 6 s1 0 t.a [t, u] []) k2 w) := by
  have HI := info_nd
  have H0 := Lib.hid h
  obtain ⟨d1, hd1⟩ : ∃ d1, d1 = d + 1 := ⟨_, rfl⟩
  have hdi : (d : Int) + 1 = d1 := by omega
  have HIn := Lib.hid (fun w h => hin w p g c d h (by omega))
  have HIn2 := Lib.hid (fun w h => hin2 w p g c d1 h (by omega))
  have HDp := Lib.hid (fun w => pdeep p d (by omega) w)
  have HYes := Lib.hid (fun (w : World) (h : PS w p g c L k1) => (show Calls Tryz.prog 54 #[.pointer (some ⟨p, 0, none⟩), .slice (some ⟨w.heap.size, 0, none⟩) 6 6] (w.alloc (.cells #[.string ⟨#[61]⟩, .string ⟨#[43, 61]⟩, .string ⟨#[45, 61]⟩, .string ⟨#[42, 61]⟩, .string ⟨#[47, 61]⟩, .string ⟨#[37, 61]⟩] 9)) (fun e w' => e = .returned (.bool true) ∧ Below w.heap.size w w') from pis_alloc w p g c k1 L h T1 hT1 [[61], [43, 61], [45, 61], [42, 61], [47, 61], [37, 61]] 6 rfl true hy))
  have HTk := Lib.hid (fun (w : World) (h : PS w p g c L k1) => ptok w p g c k1 L h T1 hT1)
  have f1 := tfield1 T1
  have HOn := Lib.hid (fun w h => pon w p g c k1 L h hk)
  have HLi := Lib.hid (fun (w : World) (h : PS w p g c L (k1 + 1)) => plines_no w p g c (k1 + 1) L h T2 hT2 hf)
  have HBr := Lib.hid (fun (w : World) (h : PS w p g c L k) => pone w p g c k L h T hT0 ⟨#[40]⟩ [40] rfl false h2)
  have HLf := Lib.hid (fun (w : World) sl sp => pleft t.k t.s t.n t.a sl sp w true hl)
  have hzi : (1 : Int) ≤ T1.S.size := by omega
  have hd9 : (d : Int) ≤ 99 := by omega
  clear hin hin2 h2 hy hT0 hT1 hT2 hd hl hk hf hd1
  clear h
  go_enter Tryz.func26, Tryz.ntmps26
  go_upto_region 1 with (fail)
  obtain ⟨W, hW, hX, hB, hsz⟩ := nd_box w zeroN
  change Code.wp _ _ _ _ (w.alloc (Obj.cells zeroN 25))
  rw [← hW]
  clear hW
  have RV1 : Hid (RV w W p g c L k) := Lib.hid ⟨hX.out, H0.out.after hB.out, .of hB.out, H0.out.plt, H0.out.there⟩
  have hWs : W.heap.size = w.heap.size + 1 := hsz.out
  have HWs := Lib.hid hWs
  clear hX hB hsz hWs
  go_wp2_with fail
  refine (HDp.out _).mono ?_
  rintro e w1 ⟨rfl, rfl⟩
  have c3 := RV1.out.ps.c3
  go_wp2_with fail
  refine (HBr.out _ RV1.out.ps).mono ?_
  rintro e w2 ⟨rfl, b2⟩
  have RV2 := Lib.hid (RV1.out.after b2)
  clear b2 c3
  go_wp2_with fail
  refine ((HIn).out _ RV2.out.ps).mono ?_
  rintro e w1 ⟨cs, rfl, hA, hP, hBt⟩
  obtain ⟨xa, xc, ya, yc, hcs, _⟩ := hA.opens
  subst hcs
  have HR := Lib.hid (RV2.out.on hP hBt)
  have HA := Lib.hid (hA.weak (C := w.heap.size + 1) (by have := RV2.out.res.lt; omega))
  have hle : w.heap.size + 1 ≤ w1.heap.size := by have := RV2.out.res.lt; have := hBt.size; omega
  have HLE := Lib.hid hle
  clear hA hP hBt hle
  go_upto_region 6 with (refine wpList_store_row rfl 25 (.tmp 6) (.tmp 24) rfl w1.heap.size (ndC t.k t.s t.n t.a (.slice xa t.kids.length xc) (.slice ya t.p.length yc)) rfl rfl 25 zeroN (heap_alloc_last _ _) HI rfl (nd_one _ _ _ _ _ _ _ _ _ _) ?_)
  obtain ⟨W7, hW7, X3, B3, hs3⟩ := nd_boxed w1 zeroN (ndC t.k t.s t.n t.a (.slice xa t.kids.length xc) (.slice ya t.p.length yc))
  change Code.wp _ _ _ _ ((w1.alloc (Obj.cells zeroN 25)).setRow w1.heap.size (ndC t.k t.s t.n t.a (.slice xa t.kids.length xc) (.slice ya t.p.length yc)))
  rw [← hW7]
  obtain ⟨xb, hxb⟩ : ∃ xb, xb = w1.heap.size := ⟨_, rfl⟩
  rw [← hxb] at X3 ⊢
  have HX : Hid (RX w W7 p g c L k1 t xb (ndC t.k t.s t.n t.a (.slice xa t.kids.length xc) (.slice ya t.p.length yc))) := Lib.hid ⟨HR.out.after B3.out, X3.out, (HA.out.inWorld.weakS (fun j hj => ⟨hj.1, by have := hj.2; omega⟩)).after B3.out, by have := HR.out.plt; have := HR.out.bt.size; have := HLE.out; omega, by have := HLE.out; omega⟩
  clear hW7 hxb X3 B3 hs3 HR HA HLE RV2
  obtain ⟨e0, e1, e2, e3, e4, e5⟩ := six_nd HX.out.box.six
  go_wp2_with fail
  refine (HLf.out _ _ _).mono ?_
  rintro e w8 ⟨rfl, b8⟩
  have HX8 := Lib.hid (HX.out.after b8)
  clear b8 e0 e1 e2 e3 e4 e5
  go_wp2_with fail
  refine ((HYes).out _ HX8.out.rv.ps).mono ?_
  rintro e w9 ⟨rfl, b9⟩
  have HX9 := Lib.hid (HX8.out.after b9)
  clear b9
  go_wp2_with fail
  refine ((HTk).out _ HX9.out.rv.ps).mono ?_
  rintro e w10 ⟨rfl, b10⟩
  have HX10 := Lib.hid (HX9.out.after b10)
  clear b10
  go_wp2_with fail
  refine ((HOn).out _ HX10.out.rv.ps).mono ?_
  rintro e w12 ⟨rfl, hP, hBt⟩
  have HX12 := Lib.hid (HX10.out.on hP hBt)
  clear hP hBt
  go_wp2_with fail
  refine ((HLi).out _ HX12.out.rv.ps).mono ?_
  rintro e w13 ⟨rfl, b13⟩
  have HX13 := Lib.hid (HX12.out.after b13)
  clear b13
  have HXB : Hid (xb < w13.heap.size) := Lib.hid HX13.out.box.lt
  go_wp2_with fail
  refine ((HIn2).out _ HX13.out.rv.ps).mono ?_
  rintro e w14 ⟨ds, rfl, hA, hP, hBt⟩
  obtain ⟨xa2, xc2, ya2, yc2, hds, _⟩ := hA.opens
  subst hds
  have HRa := Lib.hid (HX13.out.on hP hBt)
  have HAU : Hid (At w14 (Tr w xb) u (ndC u.k u.s u.n u.a (.slice xa2 u.kids.length xc2) (.slice ya2 u.p.length yc2))) := Lib.hid (hA.weakS (fun j hj => by have h1 : w13.heap.size ≤ j := hj; have h2 := HXB.out; have h3 := HX13.out.ne.2; exact ⟨by omega, by omega⟩))
  clear hA hP hBt
  go_upto_region 11 with (refine wpList_store_row rfl 25 (.tmp 8) (.tmp 47) rfl w14.heap.size (ndC u.k u.s u.n u.a (.slice xa2 u.kids.length xc2) (.slice ya2 u.p.length yc2)) rfl rfl 25 zeroN (heap_alloc_last _ _) HI rfl (nd_one _ _ _ _ _ _ _ _ _ _) ?_)
  obtain ⟨V14, hV14, YB, B14, hs14⟩ := nd_boxed w14 zeroN (ndC u.k u.s u.n u.a (.slice xa2 u.kids.length xc2) (.slice ya2 u.p.length yc2))
  change Code.wp _ _ _ _ ((w14.alloc (Obj.cells zeroN 25)).setRow w14.heap.size (ndC u.k u.s u.n u.a (.slice xa2 u.kids.length xc2) (.slice ya2 u.p.length yc2)))
  rw [← hV14]
  have HXb := Lib.hid (HRa.out.after B14.out)
  have HAV := Lib.hid (HAU.out.after B14.out)
  obtain ⟨yb, hyb⟩ : ∃ yb, yb = w14.heap.size := ⟨_, rfl⟩
  rw [← hyb] at YB ⊢
  clear hV14 hyb hs14 B14 HRa HAU
  obtain ⟨e0, e1, e2, e3, e4, e5⟩ := six_nd HXb.out.box.six
  obtain ⟨d0, d1, d2, d3, d4, d5⟩ := six_nd YB.out.six
  go_wp2_with fail
  refine (pnode 6 t.a s1 _ 2 2 _).mono ?_
  rintro e w15 ⟨rfl, b15⟩
  have HTP := Lib.hid ((pair_at 6 s1 t.a HXb.out.tree HAV.out ⟨by have := HXb.out.rv.res.lt; omega, by have := HXb.out.box.lt; omega⟩).after b15)
  have HX15 := Lib.hid (HXb.out.after (Below.step (below_new _ _) b15))
  clear b15 e0 e1 e2 e3 e4 e5 d0 d1 d2 d3 d4 d5 HAV YB HXb
  go_wp2_with (refine wpList_store_row rfl 25 (.tmp 4) (.tmp 54) rfl w.heap.size (ndC 6 s1 0 t.a (.slice (some ⟨V14.heap.size, 0, none⟩) 2 2) (.slice none 0 0)) rfl rfl 25 zeroN HX15.out.rv.res.row HI rfl (nd_one _ _ _ _ _ _ _ _ _ _) ?_)
  refine bodyPost_ret (v := .agg (ndC 6 s1 0 t.a (.slice (some ⟨V14.heap.size, 0, none⟩) 2 2) (.slice none 0 0))) (results_cell_row (by rfl) _ _ w.heap.size 25 _ (0, 0) _ (by rfl) (HX15.out.rv.res.setRow _).row Tryz.underlying25 (by rfl) HI) rfl ?_
  exact HX15.out.rv.ret HTP.out (fun j hj => hj.1)

set_option maxRecDepth 100000 in
set_option maxHeartbeats 2000000 in
theorem pdone (w : World) (p g c k : Nat) (L : List Tok) (h : PS w p g c L k) (T : Tok) (hT0 : L[k]? = some T) (hT : T.K = 0) (t : Nd) (cs : Array Value) (S : Nat → Prop) (hA : At w S t cs) : Calls Tryz.prog 25 #[.pointer (some ⟨p, 0, none⟩), .agg cs] w fun e w' => e = .returned (.tuple #[.agg cs, .int .i64 0, .int .i64 0]) ∧ Below w.heap.size w w' := by
  have HTk := Lib.hid (fun (w : World) (h : PS w p g c L k) => ptok w p g c k L h T hT0)
  have HBd := Lib.hid (fun w => pbad p 4 w)
  have f0 := tfield0 T
  have HI := info_nd
  have kz : (T.K != 0) = false := by rw [hT]; rfl
  have H0 := Lib.hid h
  obtain ⟨xa, xc, ya, yc, hcs, _⟩ := hA.opens
  subst hcs
  clear h hT hT0 hA
  go_enter Tryz.func25, Tryz.ntmps25
  go_upto_region 1 with (fail)
  obtain ⟨W, hW, hX, hB, hsz⟩ := nd_box w (ndC t.k t.s t.n t.a (.slice xa t.kids.length xc) (.slice ya t.p.length yc))
  obtain ⟨V, hV, hY, hBV, _⟩ := nd_box W zeroN
  rw [hsz.out] at hY
  change Code.wp _ _ _ _ ((w.alloc (Obj.cells (ndC t.k t.s t.n t.a (.slice xa t.kids.length xc) (.slice ya t.p.length yc)) 25)).alloc (Obj.cells zeroN 25))
  rw [← hW, ← hV]
  have HB := Lib.hid (Below.step hB.out hBV.out)
  have HX := Lib.hid (hX.out.after hBV.out)
  have H1 := Lib.hid (H0.out.after HB.out)
  clear hW hV hX hB hBV hsz
  go_wp2_with fail
  refine (HTk.out _ H1.out).mono ?_
  rintro e w1 ⟨rfl, b1⟩
  have HX1 := Lib.hid (HX.out.after b1)
  have HY1 := Lib.hid (hY.out.after b1)
  have HB1 := Lib.hid (Below.step HB.out b1)
  have H2 := Lib.hid (H1.out.after b1)
  clear b1
  go_wp2_with fail
  refine (HBd.out _).mono ?_
  rintro e w2 ⟨rfl, rfl⟩
  have c3 := H2.out.c3
  obtain ⟨e0, e1, e2, e3, e4, e5⟩ := six_nd HX1.out.six
  go_wp2_with (refine wpList_store_row rfl 25 (.tmp 4) (.tmp 27) rfl (w.heap.size + 1) (ndC t.k t.s t.n t.a (.slice xa t.kids.length xc) (.slice ya t.p.length yc)) rfl rfl 25 zeroN HY1.out.row HI rfl (nd_one _ _ _ _ _ _ _ _ _ _) ?_)
  refine bodyPost_ret (v := .tuple #[.agg (ndC t.k t.s t.n t.a (.slice xa t.kids.length xc) (.slice ya t.p.length yc)), .int .i64 0, .int .i64 0]) ?_ rfl ⟨rfl, below_setRow HB1.out (by omega) _⟩
  obtain ⟨d0, d1, d2, d3, d4, d5⟩ := six_nd (HY1.out.setRow (ndC t.k t.s t.n t.a (.slice xa t.kids.length xc) (.slice ya t.p.length yc))).six
  simp only [Nat.zero_add] at d0 d1 d2 d3 d4 d5
  obtain ⟨Z, hZ⟩ : ∃ Z, Z = w2.setRow (w.heap.size + 1) (ndC t.k t.s t.n t.a (.slice xa t.kids.length xc) (.slice ya t.p.length yc)) := ⟨_, rfl⟩
  rw [← hZ] at d0 d1 d2 d3 d4 d5 ⊢
  clear hZ
  simp [results, Tryz.results25, go_sem, d0, d1, d2, d3, d4, d5, ndC]
end Go.Proofs.YtgdlpldngpoadaaGreatDoor

/- The document's reader of expressions, where nothing is wrong: Expr (gen_rpb.py). -/
namespace Go.Proofs.YtgdlpldngpoadaaGreatDoor
open Go.RowKit

theorem ps_new (w : World) (g c : Nat) (L : List Tok) (hT : TkAt w g L) (hg : g < w.heap.size) (hl : 0 < L.length) (hf : L.length ≤ 3000) :
    PS (w.alloc (.cells #[.slice (some ⟨g, 0, none⟩) L.length c, .int .i64 0, .int .i64 0, .int .i64 0, .bool false] 51)) w.heap.size g c L 0 :=
  ⟨heap_alloc_last w _, hT.keep ((below_new w _).block g hg), by rw [World.size_alloc]; omega, hl, hf, by omega⟩
set_option maxRecDepth 100000 in
set_option maxHeartbeats 2000000 in
theorem rexpr_of (s : ByteArray) (L : List Tok) (hl : 0 < L.length) (hf : L.length ≤ 3000) (hw : ∀ w : World, Calls Tryz.prog 24 #[.string s] w (WordsOut w L)) (t : Nd) (k' : Nat) (T : Tok) (hT0 : L[k']? = some T) (hT : T.K = 0)
    (he : ∀ (w : World) (p g c : Nat), PS w p g c L 0 → Calls Tryz.prog 26 #[.pointer (some ⟨p, 0, none⟩), .int .i64 0] w (ReadOut p g c L t k' w)) (w : World) :
    Calls Tryz.prog 14 #[.string s] w fun e w' => ∃ cs, e = .returned (.tuple #[.agg cs, .int .i64 0, .int .i64 0]) ∧ At w' (Up w.heap.size) t cs ∧ Below w.heap.size w w' := by
  have HW := Lib.hid hw
  have HE := Lib.hid he
  have HI := info_nd
  have HD := Lib.hid (fun w p g c (h : PS w p g c L k') cs S hA => pdone w p g c k' L h T hT0 hT t cs S hA)
  have HL := Lib.hid (And.intro hl hf)
  clear hw he hT0 hT hl hf
  go_enter Tryz.func14, Tryz.ntmps14
  go_upto_region 1 with (fail)
  obtain ⟨W, hW, hX, hB, hsz⟩ := nd_box w zeroN
  change Code.wp _ _ _ _ (w.alloc (Obj.cells zeroN 25))
  rw [← hW]
  clear hW
  go_wp2_with fail
  refine (HW.out _).mono ?_
  rintro e w1 ⟨g, c, rfl, hTk, hc, hg1, hg2, b1⟩
  have HX1 := Lib.hid (hX.out.after b1)
  have HB1 := Lib.hid (Below.step hB.out b1)
  have HT := Lib.hid (And.intro hTk hg2)
  have HG : Hid (w.heap.size + 1 ≤ g) := Lib.hid (by rw [← hsz.out]; exact hg1)
  clear hTk hc hg1 hg2 b1 hX hB hsz
  go_upto_region 5 with (fail)
  obtain ⟨V, hV, HP, HBV, hs⟩ : ∃ V, V = w1.alloc (.cells #[.slice (some ⟨g, 0, none⟩) L.length c, .int .i64 0, .int .i64 0, .int .i64 0, .bool false] 51) ∧ Hid (PS V w1.heap.size g c L 0) ∧ Hid (Below w1.heap.size w1 V) ∧ Hid (V.heap.size = w1.heap.size + 1) :=
    ⟨_, rfl, Lib.hid (ps_new w1 g c L HT.out.1 HT.out.2 HL.out.1 HL.out.2), Lib.hid (below_new _ _), Lib.hid (World.size_alloc _ _)⟩
  change Code.wp _ _ _ _ (w1.alloc (.cells #[.slice (some ⟨g, 0, none⟩) L.length c, .int .i64 0, .int .i64 0, .int .i64 0, .bool false] 51))
  rw [← hV]
  have HX2 := Lib.hid (HX1.out.after HBV.out)
  have HB2 := Lib.hid (Below.step HB1.out HBV.out)
  obtain ⟨p, hp⟩ : ∃ p, p = w1.heap.size := ⟨_, rfl⟩
  rw [← hp] at HP hs ⊢
  have hwp : Hid (w.heap.size < p) := Lib.hid (by rw [hp]; exact HX1.out.lt)
  clear hV hp
  go_wp2_with fail
  refine (HE.out _ _ _ _ HP.out).mono ?_
  rintro e w3 ⟨cs, rfl, hA, hP, hBt⟩
  have HA := Lib.hid hA
  have HP3 := Lib.hid hP
  have HX3 := Lib.hid (HX2.out.bt hBt (by have := hwp.out; omega))
  have HB3 : Hid (Below w.heap.size w w3) := Lib.hid (HB2.out.trans (hBt.below (by have := hwp.out; omega) (by have := HX2.out.lt; omega)))
  have HVs : Hid (w.heap.size + 1 ≤ V.heap.size) := Lib.hid HX2.out.lt
  clear hA hP hBt
  go_wp2_with fail
  refine (HD.out _ _ _ _ HP3.out _ _ HA.out).mono ?_
  rintro e w4 ⟨rfl, b4⟩
  have HA4 := Lib.hid (HA.out.after b4)
  have HX4 := Lib.hid (HX3.out.after b4)
  have HB4 := Lib.hid (Below.step HB3.out b4)
  obtain ⟨xa, xc, ya, yc, hcs, _⟩ := HA.out.opens
  subst hcs
  clear b4
  go_wp2_with (refine wpList_store_row rfl 25 (.tmp 2) (.tmp 27) rfl w.heap.size (ndC t.k t.s t.n t.a (.slice xa t.kids.length xc) (.slice ya t.p.length yc)) rfl rfl 25 zeroN HX4.out.row HI rfl (nd_one _ _ _ _ _ _ _ _ _ _) ?_)
  refine bodyPost_ret (v := .tuple #[.agg (ndC t.k t.s t.n t.a (.slice xa t.kids.length xc) (.slice ya t.p.length yc)), .int .i64 0, .int .i64 0]) ?_ rfl ⟨_, rfl, ?_, below_setRow HB4.out (Nat.le_refl _) _⟩
  · obtain ⟨d0, d1, d2, d3, d4, d5⟩ := six_nd (HX4.out.setRow (ndC t.k t.s t.n t.a (.slice xa t.kids.length xc) (.slice ya t.p.length yc))).six
    simp only [Nat.zero_add] at d0 d1 d2 d3 d4 d5
    obtain ⟨Z, hZ⟩ : ∃ Z, Z = w4.setRow w.heap.size (ndC t.k t.s t.n t.a (.slice xa t.kids.length xc) (.slice ya t.p.length yc)) := ⟨_, rfl⟩
    rw [← hZ] at d0 d1 d2 d3 d4 d5 ⊢
    clear hZ
    simp [results, Tryz.results14, go_sem, d0, d1, d2, d3, d4, d5, ndC]
  · exact (HA4.out.keep (fun k hk _ => Go.setRow_other _ _ _ _ (by have : V.heap.size ≤ k := hk; have := HVs.out; omega))).weak (by have := HVs.out; omega)
end Go.Proofs.YtgdlpldngpoadaaGreatDoor

/- The document's reading of x=y z+1. -/
namespace Go.Proofs.YtgdlpldngpoadaaGreatDoor
open Go.RowKit

def liveS : ByteArray := ⟨#[120, 61, 121, 32, 122, 43, 49]⟩
def tokX : Tok := ⟨5, ⟨#[120]⟩, (0 : Nat)⟩
def tokE : Tok := ⟨9, ⟨#[61]⟩, (1 : Nat)⟩
def tokY : Tok := ⟨5, ⟨#[121]⟩, (2 : Nat)⟩
def tokZ : Tok := ⟨5, ⟨#[122]⟩, (4 : Nat)⟩
def tokP : Tok := ⟨9, ⟨#[43]⟩, (5 : Nat)⟩
def tok1 : Tok := ⟨2, ⟨#[49]⟩, (6 : Nat)⟩
def liveL : List Tok := [tokX, tokE, tokY, tokZ, tokP, tok1]
theorem step_of {s : ByteArray} {i j : Nat} {T : Tok} (h : ∀ (v : Value) (w : World), Calls Tryz.prog 47 #[.string s, .int .i64 i, v] w (NextOut T.K T.S i (i + 1) w)) (hA : T.A = i)
    (hs : ∀ w : World, Calls Tryz.prog 46 #[.string s, .int .i64 ((i + 1 : Nat) : Int)] w fun e w' => e = .returned (.int .i64 j) ∧ w' = w) : RStep s i T j := by
  refine ⟨i + 1, fun v w => (h v w).mono ?_, hs⟩
  rintro e w' ⟨rfl, hb⟩
  exact ⟨by rw [hA], hb⟩
theorem liveZ : liveS.size = 7 := rfl
theorem live_steps : RSteps liveS 0 liveL := by
  have h8 : liveS.size ≤ 8000 := by decide
  have here : ∀ i, i ≤ 7 → (i < 7 → (atB liveS i).toNat ≠ 32 ∧ (atB liveS i).toNat ≠ 9 ∧ (atB liveS i).toNat ≠ 92 ∧ (atB liveS i).toNat ≠ 35) → ∀ w : World, Calls Tryz.prog 46 #[.string liveS, .int .i64 i] w fun e w' => e = .returned (.int .i64 i) ∧ w' = w :=
    fun i hi h w => rskip_here liveS i hi h w
  refine .step 0 1 tokX _ (by decide) (step_of (fun v w => rnext_name liveS h8 0 (by decide) (by decide) (by decide) ⟨#[120]⟩ (by rfl) (by decide) (by decide) v w) rfl (here 1 (by decide) (by decide))) ?_
  refine .step 1 2 tokE _ (by decide) (step_of (fun v w => rnext_sign liveS h8 1 (by decide) (by decide) (by decide) (by decide) ⟨#[61]⟩ ⟨#[61, 121]⟩ (by rfl) (by rfl) (by decide) (by decide) v w) rfl (here 2 (by decide) (by decide))) ?_
  refine .step 2 4 tokY _ (by decide) (step_of (fun v w => rnext_name liveS h8 2 (by decide) (by decide) (by decide) ⟨#[121]⟩ (by rfl) (by decide) (by decide) v w) rfl (fun w => rskip_one liveS 3 h8 (by decide) (by decide) (by decide) w)) ?_
  refine .step 4 5 tokZ _ (by decide) (step_of (fun v w => rnext_name liveS h8 4 (by decide) (by decide) (by decide) ⟨#[122]⟩ (by rfl) (by decide) (by decide) v w) rfl (here 5 (by decide) (by decide))) ?_
  refine .step 5 6 tokP _ (by decide) (step_of (fun v w => rnext_sign liveS h8 5 (by decide) (by decide) (by decide) (by decide) ⟨#[43]⟩ ⟨#[43, 49]⟩ (by rfl) (by rfl) (by decide) (by decide) v w) rfl (here 6 (by decide) (by decide))) ?_
  refine .step 6 7 tok1 _ (by decide) (step_of (fun v w => rnext_num liveS h8 6 (by decide) (by decide) (by decide) (by decide) (by decide) ⟨#[49]⟩ (by rfl) v w) rfl (here 7 (by decide) (fun h => absurd h (by decide)))) ?_
  exact .done
theorem live_words (w : World) : Calls Tryz.prog 24 #[.string liveS] w (WordsOut w (liveL ++ [endT liveS.size])) :=
  rwords_spec liveS (by decide) 0 liveL (by decide) (fun w => rskip_here liveS 0 (by decide) (by decide) w) live_steps w
def liveA : List Tok := liveL ++ [endT liveS.size]
def ndX : Nd := .mk 3 ⟨#[120]⟩ 0 (0 : Nat) [] []
def ndY : Nd := .mk 3 ⟨#[121]⟩ 0 (2 : Nat) [] []
def ndZ : Nd := .mk 3 ⟨#[122]⟩ 0 (4 : Nat) [] []
def nd1 : Nd := .mk 0 ⟨#[]⟩ 1000000 (6 : Nat) [] []
def ndP : Nd := .mk 14 ⟨#[43]⟩ 0 (4 : Nat) [ndZ, nd1] []
def ndJ : Nd := .mk 13 ⟨#[]⟩ 0 (2 : Nat) [ndY, ndP] []
/-- The tree of x=y z+1. -/
def liveT : Nd := .mk 6 ⟨#[61]⟩ 0 (0 : Nat) [ndX, ndJ] []
theorem live_expr (hp : ∀ w : World, Calls Tryz.prog 223 #[.string ⟨#[49]⟩] w fun e w' => e = .returned (.tuple #[.int .i64 1000000, .int .i64 1, .int .i64 0]) ∧ Below w.heap.size w w')
    (w : World) (p g c : Nat) (h : PS w p g c liveA 0) : Calls Tryz.prog 26 #[.pointer (some ⟨p, 0, none⟩), .int .i64 0] w (ReadOut p g c liveA liveT 6 w) := by
  have e0 : liveA[0]? = some tokX := rfl
  have e1 : liveA[1]? = some tokE := rfl
  have e2 : liveA[2]? = some tokY := rfl
  have e3 : liveA[3]? = some tokZ := rfl
  have e4 : liveA[4]? = some tokP := rfl
  have e5 : liveA[5]? = some tok1 := rfl
  have e6 : liveA[6]? = some (endT 7) := rfl
  have x1 := pprim_name liveA 0 tokX tokE e0 e1 rfl (by decide) (by decide)
  have x2 := punary_true liveA 0 1 _ tokX tokE e0 e1 (by decide) (by decide) (by decide) (by decide) (by decide) x1
  have x3 := psum_one liveA 0 1 _ tokE e1 (by decide) (pterm_one liveA 0 1 _ tokE e1 (by decide) x2)
  have x4 := pcat_one liveA 0 1 _ tokE e1 (by decide) (by decide) x3
  have x5 := pmatch_one liveA 0 1 _ tokE e1 (by decide) (pcmp_one liveA 0 1 _ tokE e1 (by decide) (by decide) x4)
  have x6 := por_one liveA 0 1 _ tokE e1 (by decide) (pand_one liveA 0 1 _ tokE e1 (by decide) (pin_one liveA 0 1 _ tokX tokE e0 e1 (by decide) (by decide) x5))
  have y1 := pprim_name liveA 2 tokY tokZ e2 e3 rfl (by decide) (by decide)
  have y2 := punary_true liveA 2 3 _ tokY tokZ e2 e3 (by decide) (by decide) (by decide) (by decide) (by decide) y1
  have y3 := psum_one liveA 2 3 _ tokZ e3 (by decide) (pterm_one liveA 2 3 _ tokZ e3 (by decide) y2)
  have z1 := pprim_name liveA 3 tokZ tokP e3 e4 rfl (by decide) (by decide)
  have z2 := punary_true liveA 3 4 _ tokZ tokP e3 e4 (by decide) (by decide) (by decide) (by decide) (by decide) z1
  have z3 := pterm_one liveA 3 4 _ tokP e4 (by decide) z2
  have n1 := pprim_num liveA 5 tok1 1000000 1 e5 rfl (by decide) hp
  have n2 := punary_false liveA 5 6 _ tok1 (endT 7) e5 e6 (by decide) (by decide) (by decide) (by decide) (by decide) n1
  have n3 := pterm_one liveA 5 6 _ (endT 7) e6 (by decide) n2
  have s1 := psum_two liveA 3 4 6 _ _ tokP (endT 7) e4 e6 (by decide) (by decide) (by decide) z3 n3
  have c1 := pcat_two liveA 2 3 6 _ _ tokZ (endT 7) e3 e6 rfl (by decide) (by decide) y3 s1
  have c2 := pmatch_one liveA 2 6 _ (endT 7) e6 (by decide) (pcmp_one liveA 2 6 _ (endT 7) e6 (by decide) (by decide) c1)
  have c3 := por_one liveA 2 6 _ (endT 7) e6 (by decide) (pand_one liveA 2 6 _ (endT 7) e6 (by decide) (pin_one liveA 2 6 _ tokY (endT 7) e2 e6 (by decide) (by decide) c2))
  have c4 := pexpr_plain liveA 2 6 _ tokY (endT 7) e2 e6 (by decide) (by decide) (by decide) c3
  exact pexpr_assign liveA 0 1 6 _ _ ⟨#[61]⟩ tokX tokE tokY e0 e1 e2 (by decide) (by decide) (by decide) (by decide) rfl (by decide) (by decide) x6 c4 w p g c 0 h (by decide)
theorem live_ref (hp : ∀ w : World, Calls Tryz.prog 223 #[.string ⟨#[49]⟩] w fun e w' => e = .returned (.tuple #[.int .i64 1000000, .int .i64 1, .int .i64 0]) ∧ Below w.heap.size w w') (w : World) :
    Calls Tryz.prog 14 #[.string liveS] w fun e w' => ∃ cs, e = .returned (.tuple #[.agg cs, .int .i64 0, .int .i64 0]) ∧ At w' (Up w.heap.size) liveT cs ∧ Below w.heap.size w w' :=
  rexpr_of liveS liveA (by decide) (by decide) live_words liveT 6 (endT 7) rfl rfl (live_expr hp) w
end Go.Proofs.YtgdlpldngpoadaaGreatDoor
