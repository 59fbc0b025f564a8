/- Merged by program: SyH. -/
import Derived.Test.YtgdlpldngpoadaaGreatDoorSay
import Derived.Test.YtgdlpldngpoadaaGreatDoorSab
/- syntax.reader reads an expression, where nothing is wrong: joins, comparisons, conditions, expressions (gen_sy.py). -/
namespace Go.Proofs.YtgdlpldngpoadaaGreatDoor
open Go.RowKit
variable {m : Nat}

set_option maxRecDepth 100000 in
set_option maxHeartbeats 1000000 in
theorem qcat_one (X : Tx) (k k' : Nat) (t : Nd) (hn : ∀ w B d, QS w B X k' d → Calls Tryz.prog 110 #[.pointer (some ⟨B.p, 0, none⟩)] w fun e w' => e = .returned (.bool false) ∧ Below w.heap.size w w') (hin : QReads m 215 X k t k') : QReads m 211 X k t k' := by
  intro w B d h hd1 hd2
  have HI := info_nd
  obtain ⟨W, hW, HR, HWs⟩ := rq_new w B X k d h
  have HD := Lib.hid (And.intro hd1 hd2)
  have HIn := Lib.hid (fun w h => hin w B d h hd1 hd2)
  have HNo := Lib.hid (fun w h => hn w B d h)
  clear h hd1 hd2 hin hn
  go_enter Tryz.func211, Tryz.ntmps211
  go_upto_region 1 with (fail)
  change Code.wp _ _ _ _ (w.alloc (.cells zeroN 25))
  rw [← hW]
  clear hW
  have HU : Hid (w.heap.size < W.heap.size) := Lib.hid HR.out.res.lt
  go_wp2_with fail
  refine (HIn.out _ HR.out.qs).mono ?_
  rintro e w1 ⟨cs, rfl, hA, hP, hBt⟩
  obtain ⟨xa, xc, ya, yc, hcs, _⟩ := hA.opens
  subst hcs
  have HRa1 := Lib.hid (HR.out.on hP hBt)
  have HBa1 := Lib.hid hBt
  have HA1 := Lib.hid hA
  clear hA hP hBt
  go_upto_region 2 with (refine wpList_store_row rfl 25 (.tmp 3) (.tmp 5) rfl w1.heap.size (ndC t.k t.s t.n t.a (.slice xa t.kids.length xc) (.slice ya t.p.length yc)) rfl rfl 25 zeroN (heap_alloc_last _ _) HI rfl (nd_one _ _ _ _ _ _ _ _ _ _) ?_)
  obtain ⟨V1, hV1, HR1, TB1, BV1⟩ := tb_new HRa1.out (u := W) (by have := HU.out; omega) (by have := HU.out; omega) HA1.out
  change Code.wp _ _ _ _ ((w1.alloc (Obj.cells zeroN 25)).setRow w1.heap.size (ndC t.k t.s t.n t.a (.slice xa t.kids.length xc) (.slice ya t.p.length yc)))
  rw [← hV1]
  obtain ⟨xb, hxb⟩ : ∃ xb, xb = w1.heap.size := ⟨_, rfl⟩
  rw [← hxb] at TB1 ⊢
  clear hV1 hxb HRa1 HA1
  go_wp2_with fail
  refine wp_loop_rounds 1 ?_
  rw [rounds_succ]
  go_wp2_with fail
  refine (HNo.out _ HR1.out.qs).mono ?_
  rintro e w2 ⟨rfl, b2⟩
  have HR2 := Lib.hid (HR1.out.after b2)
  have TB2 := Lib.hid (TB1.out.after b2)
  clear b2
  obtain ⟨e0, e1, e2, e3, e4, e5⟩ := six_nd TB2.out.six
  go_wp2_with (refine wpList_store_row rfl 25 (.tmp 2) (.tmp 15) rfl w.heap.size (ndC t.k t.s t.n t.a (.slice xa t.kids.length xc) (.slice ya t.p.length yc)) rfl rfl 25 zeroN HR2.out.res.row HI rfl (nd_one _ _ _ _ _ _ _ _ _ _) ?_)
  refine bodyPost_ret (v := .agg (ndC t.k t.s t.n t.a (.slice xa t.kids.length xc) (.slice ya t.p.length yc))) (results_cell_row (by rfl) _ _ (w.heap.size) 25 _ (0, 0) _ (by rfl) (HR2.out.res.setRow _).row Tryz.underlying25 (by rfl) HI) rfl ?_
  exact TB2.out.ret HR2.out

set_option maxRecDepth 100000 in
set_option maxHeartbeats 1000000 in
theorem qcond_one (X : Tx) (k k' : Nat) (t : Nd) (T : Tp) (hT : X.L[k']? = some T) (hz : sgB [⟨#[63]⟩] T = false) (hin : QReads m 118 X k t k') : QReads m 83 X k t k' := by
  intro w B d h hd1 hd2
  have HI := info_nd
  obtain ⟨W, hW, HR, HWs⟩ := rq_new w B X k d h
  have HD := Lib.hid (And.intro hd1 hd2)
  have HIn := Lib.hid (fun w h => hin w B d h hd1 hd2)
  have HNo := Lib.hid (fun (w : World) (h : QS w B X k' d) => (show Calls Tryz.prog 111 #[.pointer (some ⟨B.p, 0, none⟩), .slice (some ⟨w.heap.size, 0, none⟩) 1 1] (w.alloc (.cells #[.string ⟨#[63]⟩] 9)) (fun e w' => e = .returned (.bool false) ∧ Below w.heap.size w w') from qsign_row w B X k' d h T hT [⟨#[63]⟩] 1 rfl false hz))
  clear h hd1 hd2 hin hz hT
  go_enter Tryz.func83, Tryz.ntmps83
  go_upto_region 1 with (fail)
  change Code.wp _ _ _ _ (w.alloc (.cells zeroN 25))
  rw [← hW]
  clear hW
  have HU : Hid (w.heap.size < W.heap.size) := Lib.hid HR.out.res.lt
  go_wp2_with fail
  refine (HIn.out _ HR.out.qs).mono ?_
  rintro e w1 ⟨cs, rfl, hA, hP, hBt⟩
  obtain ⟨xa, xc, ya, yc, hcs, _⟩ := hA.opens
  subst hcs
  have HRa1 := Lib.hid (HR.out.on hP hBt)
  have HBa1 := Lib.hid hBt
  have HA1 := Lib.hid hA
  clear hA hP hBt
  go_upto_region 2 with (refine wpList_store_row rfl 25 (.tmp 3) (.tmp 6) rfl w1.heap.size (ndC t.k t.s t.n t.a (.slice xa t.kids.length xc) (.slice ya t.p.length yc)) rfl rfl 25 zeroN (heap_alloc_last _ _) HI rfl (nd_one _ _ _ _ _ _ _ _ _ _) ?_)
  obtain ⟨V1, hV1, HR1, TB1, BV1⟩ := tb_new HRa1.out (u := W) (by have := HU.out; omega) (by have := HU.out; omega) HA1.out
  change Code.wp _ _ _ _ ((w1.alloc (Obj.cells zeroN 25)).setRow w1.heap.size (ndC t.k t.s t.n t.a (.slice xa t.kids.length xc) (.slice ya t.p.length yc)))
  rw [← hV1]
  obtain ⟨xb, hxb⟩ : ∃ xb, xb = w1.heap.size := ⟨_, rfl⟩
  rw [← hxb] at TB1 ⊢
  clear hV1 hxb HRa1 HA1
  go_wp2_with fail
  refine (HNo.out _ HR1.out.qs).mono ?_
  rintro e w2 ⟨rfl, b2⟩
  have HR2 := Lib.hid (HR1.out.after b2)
  have TB2 := Lib.hid (TB1.out.after b2)
  clear b2
  obtain ⟨e0, e1, e2, e3, e4, e5⟩ := six_nd TB2.out.six
  go_wp2_with (refine wpList_store_row rfl 25 (.tmp 2) (.tmp 11) rfl w.heap.size (ndC t.k t.s t.n t.a (.slice xa t.kids.length xc) (.slice ya t.p.length yc)) rfl rfl 25 zeroN HR2.out.res.row HI rfl (nd_one _ _ _ _ _ _ _ _ _ _) ?_)
  refine bodyPost_ret (v := .agg (ndC t.k t.s t.n t.a (.slice xa t.kids.length xc) (.slice ya t.p.length yc))) (results_cell_row (by rfl) _ _ (w.heap.size) 25 _ (0, 0) _ (by rfl) (HR2.out.res.setRow _).row Tryz.underlying25 (by rfl) HI) rfl ?_
  exact TB2.out.ret HR2.out

set_option maxRecDepth 100000 in
set_option maxHeartbeats 1000000 in
theorem qcmp_one (X : Tx) (k k' : Nat) (t : Nd) (T : Tp) (hT : X.L[k']? = some T) (hz : sgB [⟨#[60]⟩, ⟨#[60, 61]⟩, ⟨#[61, 61]⟩, ⟨#[33, 61]⟩, ⟨#[62, 61]⟩] T = false) (hy : sgB [⟨#[62]⟩] T = false) (hin : QReads m 211 X k t k') : QReads m 203 X k t k' := by
  intro w B d h hd1 hd2
  have HI := info_nd
  obtain ⟨W, hW, HR, HB, HWs⟩ := rq_box w B X k d h
  have HIn := Lib.hid (fun w h => hin w B d h hd1 hd2)
  have HNo := Lib.hid (fun (w : World) (h : QS w B X k' d) => (show Calls Tryz.prog 111 #[.pointer (some ⟨B.p, 0, none⟩), .slice (some ⟨w.heap.size, 0, none⟩) 5 5] (w.alloc (.cells #[.string ⟨#[60]⟩, .string ⟨#[60, 61]⟩, .string ⟨#[61, 61]⟩, .string ⟨#[33, 61]⟩, .string ⟨#[62, 61]⟩] 9)) (fun e w' => e = .returned (.bool false) ∧ Below w.heap.size w w') from qsign_row w B X k' d h T hT [⟨#[60]⟩, ⟨#[60, 61]⟩, ⟨#[61, 61]⟩, ⟨#[33, 61]⟩, ⟨#[62, 61]⟩] 5 rfl false hz))
  have HGt := Lib.hid (fun (w : World) (h : QS w B X k' d) => (show Calls Tryz.prog 111 #[.pointer (some ⟨B.p, 0, none⟩), .slice (some ⟨w.heap.size, 0, none⟩) 1 1] (w.alloc (.cells #[.string ⟨#[62]⟩] 9)) (fun e w' => e = .returned (.bool false) ∧ Below w.heap.size w w') from qsign_row w B X k' d h T hT [⟨#[62]⟩] 1 rfl false hy))
  have c0 := HB.out.c
  clear h hd1 hd2 hin hz hy hT
  go_enter Tryz.func203, Tryz.ntmps203
  go_upto_region 1 with (fail)
  change Code.wp _ _ _ _ ((w.alloc (.cells #[.pointer (some ⟨B.p, 0, none⟩)] 60)).alloc (.cells zeroN 25))
  rw [← hW]
  clear hW
  have HU : Hid (w.heap.size + 1 < W.heap.size) := Lib.hid HR.out.res.lt
  go_wp2_with fail
  refine (HIn.out _ HR.out.qs).mono ?_
  rintro e w1 ⟨cs, rfl, hA, hP, hBt⟩
  obtain ⟨xa, xc, ya, yc, hcs, _⟩ := hA.opens
  subst hcs
  have HRa1 := Lib.hid (HR.out.on hP hBt)
  have HBa1 := Lib.hid hBt
  have HA1 := Lib.hid hA
  clear hA hP hBt
  go_upto_region 2 with (refine wpList_store_row rfl 25 (.tmp 3) (.tmp 5) rfl w1.heap.size (ndC t.k t.s t.n t.a (.slice xa t.kids.length xc) (.slice ya t.p.length yc)) rfl rfl 25 zeroN (heap_alloc_last _ _) HI rfl (nd_one _ _ _ _ _ _ _ _ _ _) ?_)
  obtain ⟨V1, hV1, HR1, TB1, BV1⟩ := tb_new HRa1.out (u := W) (by have := HU.out; omega) (by have := HU.out; omega) HA1.out
  change Code.wp _ _ _ _ ((w1.alloc (Obj.cells zeroN 25)).setRow w1.heap.size (ndC t.k t.s t.n t.a (.slice xa t.kids.length xc) (.slice ya t.p.length yc)))
  rw [← hV1]
  obtain ⟨xb, hxb⟩ : ∃ xb, xb = w1.heap.size := ⟨_, rfl⟩
  rw [← hxb] at TB1 ⊢
  have HB1 := Lib.hid ((HB.out.bt HBa1.out).after BV1.out)
  clear hV1 hxb c0 HRa1 HA1
  have c0 := HB1.out.c
  have c5 := HR1.out.qs.c5
  go_wp2_with fail
  refine (HNo.out _ HR1.out.qs).mono ?_
  rintro e w2 ⟨rfl, b2⟩
  have HR2 := Lib.hid (HR1.out.after b2)
  have TB2 := Lib.hid (TB1.out.after b2)
  have HB2 := Lib.hid (HB1.out.after b2)
  clear b2
  have c0 := HB2.out.c
  have c5 := HR2.out.qs.c5
  go_wp2_with fail
  refine (HGt.out _ HR2.out.qs).mono ?_
  rintro e w3 ⟨rfl, b3⟩
  have HR3 := Lib.hid (HR2.out.after b3)
  have TB3 := Lib.hid (TB2.out.after b3)
  have HB3 := Lib.hid (HB2.out.after b3)
  clear b3
  obtain ⟨e0, e1, e2, e3, e4, e5⟩ := six_nd TB3.out.six
  go_wp2_with (refine wpList_store_row rfl 25 (.tmp 2) (.tmp 25) rfl (w.heap.size + 1) (ndC t.k t.s t.n t.a (.slice xa t.kids.length xc) (.slice ya t.p.length yc)) rfl rfl 25 zeroN HR3.out.res.row HI rfl (nd_one _ _ _ _ _ _ _ _ _ _) ?_)
  refine bodyPost_ret (v := .agg (ndC t.k t.s t.n t.a (.slice xa t.kids.length xc) (.slice ya t.p.length yc))) (results_cell_row (by rfl) _ _ ((w.heap.size + 1)) 25 _ (0, 0) _ (by rfl) (HR3.out.res.setRow _).row Tryz.underlying25 (by rfl) HI) rfl ?_
  exact TB3.out.ret HR3.out

set_option maxRecDepth 100000 in
set_option maxHeartbeats 1000000 in
theorem qin_plain (X : Tx) (k k' : Nat) (t : Nd) (T U : Tp) (hT : X.L[k]? = some T) (hU : X.L[k']? = some U) (hz : sgB [⟨#[40]⟩] T = false) (h7 : (U.1 == 7) = false) (hin : QReads m 194 X k t k') : QReads m 172 X k t k' := by
  intro w B d h hd1 hd2
  have HI := info_nd
  obtain ⟨W, hW, HR, HWs⟩ := rq_new w B X k d h
  obtain ⟨V, hV, HX, HBV, HVs⟩ := nd_box W zeroN
  have HRV := Lib.hid (HR.out.after HBV.out)
  have HIn := Lib.hid (fun w h => hin w B d h hd1 hd2)
  have HWo := Lib.hid (fun w (h : QS w B X k' d) sl => qword_no w B X k' d h U hU h7 sl)
  have HSg := Lib.hid (fun (w : World) (h : QS w B X k d) => (show Calls Tryz.prog 111 #[.pointer (some ⟨B.p, 0, none⟩), .slice (some ⟨w.heap.size, 0, none⟩) 1 1] (w.alloc (.cells #[.string ⟨#[40]⟩] 9)) (fun e w' => e = .returned (.bool false) ∧ Below w.heap.size w w') from qsign_row w B X k d h T hT [⟨#[40]⟩] 1 rfl false hz))
  clear h hd1 hd2 hin hz hT hU h7
  go_enter Tryz.func172, Tryz.ntmps172
  go_upto_region 2 with (fail)
  change Code.wp _ _ _ _ ((w.alloc (.cells zeroN 25)).alloc (.cells zeroN 25))
  rw [← hW, ← hV]
  have HNB : Hid (W.heap.size = w.heap.size + 1) := HWs
  obtain ⟨nb, hnb⟩ : ∃ nb, nb = w.heap.size + 1 := ⟨_, rfl⟩
  rw [HNB.out] at HX
  rw [← hnb] at HX HNB ⊢
  have HNE := Lib.hid hnb
  clear hW hV hnb
  refine wp_region_held_drew (S := fun w' => Hid (QS w' B X k d)) (by kernel_rfl) (Lib.hid (HRV.out.qs.after (below_drew _))) (fun hS => ?_)
  obtain ⟨Z, hZ, HBZ⟩ : ∃ Z, Z = V.drew ∧ Hid (Below V.heap.size V Z) := ⟨_, rfl, Lib.hid (below_drew _)⟩
  rw [← hZ] at hS ⊢
  clear hZ
  refine takeW (i := 0) (d := 5) (v := .pointer (some ⟨B.p, 0, none⟩)) rfl rfl (by kernel_rfl) (by kernel_rfl) (by kernel_rfl) (fun _ _ _ h => h) (by rfl) (fun w' hSw => by go_simp) (by assumption) ?_
  simp only [List.setIfInBounds_toArray, List.set_cons_zero, List.set_cons_succ]
  refine wpAnyH_ready (rs := [1]) (by kernel_rfl) (by simp) ?_
  refine AllReadyH.cons rfl (fun K hK => ?_) AllReadyH.nil
  rw [if_pos (by rfl)]
  go_simp
  have HBy := Lib.hid (Below.step HBZ.out (below_new Z (.cells #[.string ⟨#[40]⟩] 9)))
  refine hK.out _ _ (Lib.hid (hS.out.after (below_new _ _))) (fun hS1 => ?_)
  clear hK K
  refine wpAnyH_ready (rs := [2]) (by kernel_rfl) (by simp) ?_
  refine AllReadyH.cons rfl (fun K hK => ?_) AllReadyH.nil
  rw [if_pos (by rfl)]
  go_simp
  refine (HSg.out _ hS.out).mono ?_
  rintro e w1 ⟨rfl, b1⟩
  have HB1 := Lib.hid (Below.step HBZ.out b1)
  have HQ1 := Lib.hid (hS.out.after b1)
  clear b1
  go_wp2_with fail
  refine hK.out _ _ HQ1 (fun hS2 => ?_)
  clear hK K hS hS1 HBy HBZ
  refine takeW (i := 3) (d := 8) (v := .bool false) rfl rfl (by kernel_rfl) (by kernel_rfl) (by kernel_rfl) (fun _ _ _ h => h) (by rfl) (fun w' hSw => by go_simp) (by assumption) ?_
  simp only [List.setIfInBounds_toArray, List.set_cons_zero, List.set_cons_succ]
  refine skipW (i := 4) (d := 9) rfl rfl (by kernel_rfl) (by kernel_rfl) (by kernel_rfl) (fun _ _ _ h => h) (by rfl) (by assumption) ?_
  simp only [List.setIfInBounds_toArray, List.set_cons_zero, List.set_cons_succ]
  refine skipW (i := 5) (d := 10) rfl rfl (by kernel_rfl) (by kernel_rfl) (by kernel_rfl) (fun _ _ _ h => h) (by rfl) (by assumption) ?_
  simp only [List.setIfInBounds_toArray, List.set_cons_zero, List.set_cons_succ]
  refine skipW (i := 6) (d := 11) rfl rfl (by kernel_rfl) (by kernel_rfl) (by kernel_rfl) (fun _ _ _ h => h) (by rfl) (by assumption) ?_
  simp only [List.setIfInBounds_toArray, List.set_cons_zero, List.set_cons_succ]
  refine skipW (i := 7) (d := 12) rfl rfl (by kernel_rfl) (by kernel_rfl) (by kernel_rfl) (fun _ _ _ h => h) (by rfl) (by assumption) ?_
  simp only [List.setIfInBounds_toArray, List.set_cons_zero, List.set_cons_succ]
  refine skipW (i := 8) (d := 13) rfl rfl (by kernel_rfl) (by kernel_rfl) (by kernel_rfl) (fun _ _ _ h => h) (by rfl) (by assumption) ?_
  simp only [List.setIfInBounds_toArray, List.set_cons_zero, List.set_cons_succ]
  refine skipW (i := 9) (d := 14) rfl rfl (by kernel_rfl) (by kernel_rfl) (by kernel_rfl) (fun _ _ _ h => h) (by rfl) (by assumption) ?_
  simp only [List.setIfInBounds_toArray, List.set_cons_zero, List.set_cons_succ]
  refine skipW (i := 10) (d := 15) rfl rfl (by kernel_rfl) (by kernel_rfl) (by kernel_rfl) (fun _ _ _ h => h) (by rfl) (by assumption) ?_
  simp only [List.setIfInBounds_toArray, List.set_cons_zero, List.set_cons_succ]
  refine skipW (i := 11) (d := 16) rfl rfl (by kernel_rfl) (by kernel_rfl) (by kernel_rfl) (fun _ _ _ h => h) (by rfl) (by assumption) ?_
  simp only [List.setIfInBounds_toArray, List.set_cons_zero, List.set_cons_succ]
  refine skipW (i := 12) (d := 17) rfl rfl (by kernel_rfl) (by kernel_rfl) (by kernel_rfl) (fun _ _ _ h => h) (by rfl) (by assumption) ?_
  simp only [List.setIfInBounds_toArray, List.set_cons_zero, List.set_cons_succ]
  refine skipW (i := 13) (d := 18) rfl rfl (by kernel_rfl) (by kernel_rfl) (by kernel_rfl) (fun _ _ _ h => h) (by rfl) (by assumption) ?_
  simp only [List.setIfInBounds_toArray, List.set_cons_zero, List.set_cons_succ]
  refine takeW (i := 14) (d := 19) (v := .bool false) rfl rfl (by kernel_rfl) (by kernel_rfl) (by kernel_rfl) (fun _ _ _ h => h) (by rfl) (fun w' hSw => by go_simp) (by assumption) ?_
  simp only [List.setIfInBounds_toArray, List.set_cons_zero, List.set_cons_succ]
  refine wpAnyH_done (by kernel_rfl) ?_ _
  have HR1 := Lib.hid (HRV.out.after HB1.out)
  have HX1 := Lib.hid (HX.out.after HB1.out)
  have HU : Hid (nb < w1.heap.size ∧ w.heap.size < w1.heap.size) := Lib.hid ⟨HX1.out.lt, HR1.out.res.lt⟩
  go_wp2_with fail
  refine (HIn.out _ HR1.out.qs).mono ?_
  rintro e w2 ⟨cs, rfl, hA, hP, hBt⟩
  obtain ⟨xa, xc, ya, yc, hcs, _⟩ := hA.opens
  subst hcs
  have HR2 := Lib.hid (HR1.out.on hP hBt)
  have HX2 := Lib.hid (HX1.out.bt hBt (by have := HRV.out.p4; have := HNE.out; omega))
  have HA2 : Hid (At w2 (fun j => w.heap.size ≤ j ∧ j ≠ w.heap.size ∧ j ≠ nb) t (ndC t.k t.s t.n t.a (.slice xa t.kids.length xc) (.slice ya t.p.length yc))) := Lib.hid (hA.weakS (fun j hj => by have h1 : w1.heap.size ≤ j := hj; have := HU.out; exact ⟨by omega, by omega, by omega⟩))
  clear hA hP hBt
  go_wp2_with (refine wpList_store_row rfl 25 (.tmp 3) (.tmp 29) rfl nb (ndC t.k t.s t.n t.a (.slice xa t.kids.length xc) (.slice ya t.p.length yc)) rfl rfl 25 zeroN HX2.out.row HI rfl (nd_one _ _ _ _ _ _ _ _ _ _) ?_)
  obtain ⟨V3, hV3, HR3, TB3⟩ : ∃ V3, V3 = w2.setRow nb (ndC t.k t.s t.n t.a (.slice xa t.kids.length xc) (.slice ya t.p.length yc)) ∧ Hid (RQ w V3 B X k' d w.heap.size) ∧ Hid (TB w V3 B w.heap.size t nb (ndC t.k t.s t.n t.a (.slice xa t.kids.length xc) (.slice ya t.p.length yc))) :=
    ⟨_, rfl, Lib.hid (HR2.out.own (bt_row _ _ _) (by have := HNE.out; omega) (by have := HNE.out; omega)), Lib.hid ⟨HX2.out.setRow _, HA2.out.keep (fun j hj hl => (bt_row w2 nb _).block j hl hj.2.2), by have := HRV.out.p4; have := HNE.out; omega, by have := HNE.out; omega, by have := HNE.out; omega, HRV.out.p4⟩⟩
  rw [← hV3]
  clear hV3 HA2 HX2
  refine wp_loop_rounds 1 ?_
  rw [rounds_succ]
  go_wp2_with fail
  refine (HWo.out _ (HR3.out.qs.after (below_new _ _)) _).mono ?_
  rintro e w4 ⟨rfl, b4⟩
  have HR4 := Lib.hid (HR3.out.after (Below.step (below_new _ _) b4))
  have TB4 := Lib.hid (TB3.out.after (Below.step (below_new _ _) b4))
  clear b4
  obtain ⟨e0, e1, e2, e3, e4, e5⟩ := six_nd TB4.out.six
  go_wp2_with (refine wpList_store_row rfl 25 (.tmp 2) (.tmp 39) rfl w.heap.size (ndC t.k t.s t.n t.a (.slice xa t.kids.length xc) (.slice ya t.p.length yc)) rfl rfl 25 zeroN HR4.out.res.row HI rfl (nd_one _ _ _ _ _ _ _ _ _ _) ?_)
  refine bodyPost_ret (v := .agg (ndC t.k t.s t.n t.a (.slice xa t.kids.length xc) (.slice ya t.p.length yc))) (results_cell_row (by rfl) _ _ (w.heap.size) 25 _ (0, 0) _ (by rfl) (HR4.out.res.setRow _).row Tryz.underlying25 (by rfl) HI) rfl ?_
  exact TB4.out.ret HR4.out

set_option maxRecDepth 100000 in
set_option maxHeartbeats 1000000 in
theorem qin_open (X : Tx) (k k' : Nat) (t : Nd) (T U : Tp) (hT : X.L[k]? = some T) (hU : X.L[k']? = some U) (hz : sgB [⟨#[40]⟩] T = true) (hm : X.M[k]? = some false) (h7 : (U.1 == 7) = false) (hin : QReads m 194 X k t k') : QReads m 172 X k t k' := by
  intro w B d h hd1 hd2
  have HI := info_nd
  obtain ⟨W, hW, HR, HWs⟩ := rq_new w B X k d h
  obtain ⟨V, hV, HX, HBV, HVs⟩ := nd_box W zeroN
  have HRV := Lib.hid (HR.out.after HBV.out)
  have HIn := Lib.hid (fun w h => hin w B d h hd1 hd2)
  have HWo := Lib.hid (fun w (h : QS w B X k' d) sl => qword_no w B X k' d h U hU h7 sl)
  have HSg := Lib.hid (fun (w : World) (h : QS w B X k d) => (show Calls Tryz.prog 111 #[.pointer (some ⟨B.p, 0, none⟩), .slice (some ⟨w.heap.size, 0, none⟩) 1 1] (w.alloc (.cells #[.string ⟨#[40]⟩] 9)) (fun e w' => e = .returned (.bool true) ∧ Below w.heap.size w w') from qsign_row w B X k d h T hT [⟨#[40]⟩] 1 rfl true hz))
  have HMk := Lib.hid (fun w (h : QS w B X k d) => (show w.cell? ⟨B.gm, k, none⟩ = some (.bool false) from by obtain ⟨h1, h2⟩ := List.getElem?_eq_some_iff.1 hm; have h3 := h.com k h1; rw [h2] at h3; exact h3))
  have hkl := h.lt
  have hkf := h.few
  clear hm
  clear h hd1 hd2 hin hz hT hU h7
  go_enter Tryz.func172, Tryz.ntmps172
  go_upto_region 2 with (fail)
  change Code.wp _ _ _ _ ((w.alloc (.cells zeroN 25)).alloc (.cells zeroN 25))
  rw [← hW, ← hV]
  have HNB : Hid (W.heap.size = w.heap.size + 1) := HWs
  obtain ⟨nb, hnb⟩ : ∃ nb, nb = w.heap.size + 1 := ⟨_, rfl⟩
  rw [HNB.out] at HX
  rw [← hnb] at HX HNB ⊢
  have HNE := Lib.hid hnb
  clear hW hV hnb
  refine wp_region_held_drew (S := fun w' => Hid (QS w' B X k d)) (by kernel_rfl) (Lib.hid (HRV.out.qs.after (below_drew _))) (fun hS => ?_)
  obtain ⟨Z, hZ, HBZ⟩ : ∃ Z, Z = V.drew ∧ Hid (Below V.heap.size V Z) := ⟨_, rfl, Lib.hid (below_drew _)⟩
  rw [← hZ] at hS ⊢
  clear hZ
  refine takeW (i := 0) (d := 5) (v := .pointer (some ⟨B.p, 0, none⟩)) rfl rfl (by kernel_rfl) (by kernel_rfl) (by kernel_rfl) (fun _ _ _ h => h) (by rfl) (fun w' hSw => by go_simp) (by assumption) ?_
  simp only [List.setIfInBounds_toArray, List.set_cons_zero, List.set_cons_succ]
  refine wpAnyH_ready (rs := [1]) (by kernel_rfl) (by simp) ?_
  refine AllReadyH.cons rfl (fun K hK => ?_) AllReadyH.nil
  rw [if_pos (by rfl)]
  go_simp
  have HBy := Lib.hid (Below.step HBZ.out (below_new Z (.cells #[.string ⟨#[40]⟩] 9)))
  refine hK.out _ _ (Lib.hid (hS.out.after (below_new _ _))) (fun hS1 => ?_)
  clear hK K
  refine wpAnyH_ready (rs := [2]) (by kernel_rfl) (by simp) ?_
  refine AllReadyH.cons rfl (fun K hK => ?_) AllReadyH.nil
  rw [if_pos (by rfl)]
  go_simp
  refine (HSg.out _ hS.out).mono ?_
  rintro e w1 ⟨rfl, b1⟩
  have HB1 := Lib.hid (Below.step HBZ.out b1)
  have HQ1 := Lib.hid (hS.out.after b1)
  clear b1
  go_wp2_with fail
  refine hK.out _ _ HQ1 (fun hS2 => ?_)
  clear hK K hS hS1 HBy HBZ
  refine takeW (i := 3) (d := 8) (v := .bool true) rfl rfl (by kernel_rfl) (by kernel_rfl) (by kernel_rfl) (fun _ _ _ h => h) (by rfl) (fun w' hSw => by go_simp) (by assumption) ?_
  simp only [List.setIfInBounds_toArray, List.set_cons_zero, List.set_cons_succ]
  refine takeW (i := 4) (d := 9) (v := .pointer (some ⟨B.p, 0, none⟩)) rfl rfl (by kernel_rfl) (by kernel_rfl) (by kernel_rfl) (fun _ _ _ h => h) (by rfl) (fun w' hSw => by go_simp) (by assumption) ?_
  simp only [List.setIfInBounds_toArray, List.set_cons_zero, List.set_cons_succ]
  refine takeW (i := 5) (d := 10) (v := .pointer (some ⟨B.p, 0, none⟩)) rfl rfl (by kernel_rfl) (by kernel_rfl) (by kernel_rfl) (fun _ _ _ h => h) (by rfl) (fun w' hSw => by go_simp) (by assumption) ?_
  simp only [List.setIfInBounds_toArray, List.set_cons_zero, List.set_cons_succ]
  refine takeW (i := 6) (d := 11) (v := .pointer (some ⟨B.p, 2, none⟩)) rfl rfl (by kernel_rfl) (by kernel_rfl) (by kernel_rfl) (fun _ _ _ h => h) (by rfl) (fun w' hSw => by go_simp) (by assumption) ?_
  simp only [List.setIfInBounds_toArray, List.set_cons_zero, List.set_cons_succ]
  refine takeW (i := 7) (d := 12) (v := .slice (some ⟨B.gm, 0, none⟩) X.L.length B.cm) rfl rfl (by kernel_rfl) (by kernel_rfl) (by kernel_rfl) (fun _ _ _ h => h) (by rfl) (fun w' hSw => by have c2 := hSw.out.c2; have c3 := hSw.out.c3; have m0 := HMk.out _ hSw.out; go_simp) (by assumption) ?_
  simp only [List.setIfInBounds_toArray, List.set_cons_zero, List.set_cons_succ]
  refine takeW (i := 8) (d := 13) (v := .pointer (some ⟨B.p, 0, none⟩)) rfl rfl (by kernel_rfl) (by kernel_rfl) (by kernel_rfl) (fun _ _ _ h => h) (by rfl) (fun w' hSw => by go_simp) (by assumption) ?_
  simp only [List.setIfInBounds_toArray, List.set_cons_zero, List.set_cons_succ]
  refine takeW (i := 9) (d := 14) (v := .pointer (some ⟨B.p, 0, none⟩)) rfl rfl (by kernel_rfl) (by kernel_rfl) (by kernel_rfl) (fun _ _ _ h => h) (by rfl) (fun w' hSw => by go_simp) (by assumption) ?_
  simp only [List.setIfInBounds_toArray, List.set_cons_zero, List.set_cons_succ]
  refine takeW (i := 10) (d := 15) (v := .pointer (some ⟨B.p, 3, none⟩)) rfl rfl (by kernel_rfl) (by kernel_rfl) (by kernel_rfl) (fun _ _ _ h => h) (by rfl) (fun w' hSw => by go_simp) (by assumption) ?_
  simp only [List.setIfInBounds_toArray, List.set_cons_zero, List.set_cons_succ]
  refine takeW (i := 11) (d := 16) (v := .int .i64 k) rfl rfl (by kernel_rfl) (by kernel_rfl) (by kernel_rfl) (fun _ _ _ h => h) (by rfl) (fun w' hSw => by have c2 := hSw.out.c2; have c3 := hSw.out.c3; have m0 := HMk.out _ hSw.out; go_simp) (by assumption) ?_
  simp only [List.setIfInBounds_toArray, List.set_cons_zero, List.set_cons_succ]
  refine takeW (i := 12) (d := 17) (v := .pointer (some ⟨B.gm, k, none⟩)) rfl rfl (by kernel_rfl) (by kernel_rfl) (by kernel_rfl) (fun _ _ _ h => h) (by rfl) (fun w' hSw => by have c2 := hSw.out.c2; have c3 := hSw.out.c3; have m0 := HMk.out _ hSw.out; go_simp) (by assumption) ?_
  simp only [List.setIfInBounds_toArray, List.set_cons_zero, List.set_cons_succ]
  refine takeW (i := 13) (d := 18) (v := .bool false) rfl rfl (by kernel_rfl) (by kernel_rfl) (by kernel_rfl) (fun _ _ _ h => h) (by rfl) (fun w' hSw => by have c2 := hSw.out.c2; have c3 := hSw.out.c3; have m0 := HMk.out _ hSw.out; go_simp) (by assumption) ?_
  simp only [List.setIfInBounds_toArray, List.set_cons_zero, List.set_cons_succ]
  refine takeW (i := 14) (d := 19) (v := .bool false) rfl rfl (by kernel_rfl) (by kernel_rfl) (by kernel_rfl) (fun _ _ _ h => h) (by rfl) (fun w' hSw => by go_simp) (by assumption) ?_
  simp only [List.setIfInBounds_toArray, List.set_cons_zero, List.set_cons_succ]
  refine wpAnyH_done (by kernel_rfl) ?_ _
  have HR1 := Lib.hid (HRV.out.after HB1.out)
  have HX1 := Lib.hid (HX.out.after HB1.out)
  have HU : Hid (nb < w1.heap.size ∧ w.heap.size < w1.heap.size) := Lib.hid ⟨HX1.out.lt, HR1.out.res.lt⟩
  go_wp2_with fail
  refine (HIn.out _ HR1.out.qs).mono ?_
  rintro e w2 ⟨cs, rfl, hA, hP, hBt⟩
  obtain ⟨xa, xc, ya, yc, hcs, _⟩ := hA.opens
  subst hcs
  have HR2 := Lib.hid (HR1.out.on hP hBt)
  have HX2 := Lib.hid (HX1.out.bt hBt (by have := HRV.out.p4; have := HNE.out; omega))
  have HA2 : Hid (At w2 (fun j => w.heap.size ≤ j ∧ j ≠ w.heap.size ∧ j ≠ nb) t (ndC t.k t.s t.n t.a (.slice xa t.kids.length xc) (.slice ya t.p.length yc))) := Lib.hid (hA.weakS (fun j hj => by have h1 : w1.heap.size ≤ j := hj; have := HU.out; exact ⟨by omega, by omega, by omega⟩))
  clear hA hP hBt
  go_wp2_with (refine wpList_store_row rfl 25 (.tmp 3) (.tmp 29) rfl nb (ndC t.k t.s t.n t.a (.slice xa t.kids.length xc) (.slice ya t.p.length yc)) rfl rfl 25 zeroN HX2.out.row HI rfl (nd_one _ _ _ _ _ _ _ _ _ _) ?_)
  obtain ⟨V3, hV3, HR3, TB3⟩ : ∃ V3, V3 = w2.setRow nb (ndC t.k t.s t.n t.a (.slice xa t.kids.length xc) (.slice ya t.p.length yc)) ∧ Hid (RQ w V3 B X k' d w.heap.size) ∧ Hid (TB w V3 B w.heap.size t nb (ndC t.k t.s t.n t.a (.slice xa t.kids.length xc) (.slice ya t.p.length yc))) :=
    ⟨_, rfl, Lib.hid (HR2.out.own (bt_row _ _ _) (by have := HNE.out; omega) (by have := HNE.out; omega)), Lib.hid ⟨HX2.out.setRow _, HA2.out.keep (fun j hj hl => (bt_row w2 nb _).block j hl hj.2.2), by have := HRV.out.p4; have := HNE.out; omega, by have := HNE.out; omega, by have := HNE.out; omega, HRV.out.p4⟩⟩
  rw [← hV3]
  clear hV3 HA2 HX2
  refine wp_loop_rounds 1 ?_
  rw [rounds_succ]
  go_wp2_with fail
  refine (HWo.out _ (HR3.out.qs.after (below_new _ _)) _).mono ?_
  rintro e w4 ⟨rfl, b4⟩
  have HR4 := Lib.hid (HR3.out.after (Below.step (below_new _ _) b4))
  have TB4 := Lib.hid (TB3.out.after (Below.step (below_new _ _) b4))
  clear b4
  obtain ⟨e0, e1, e2, e3, e4, e5⟩ := six_nd TB4.out.six
  go_wp2_with (refine wpList_store_row rfl 25 (.tmp 2) (.tmp 39) rfl w.heap.size (ndC t.k t.s t.n t.a (.slice xa t.kids.length xc) (.slice ya t.p.length yc)) rfl rfl 25 zeroN HR4.out.res.row HI rfl (nd_one _ _ _ _ _ _ _ _ _ _) ?_)
  refine bodyPost_ret (v := .agg (ndC t.k t.s t.n t.a (.slice xa t.kids.length xc) (.slice ya t.p.length yc))) (results_cell_row (by rfl) _ _ (w.heap.size) 25 _ (0, 0) _ (by rfl) (HR4.out.res.setRow _).row Tryz.underlying25 (by rfl) HI) rfl ?_
  exact TB4.out.ret HR4.out

set_option maxRecDepth 100000 in
set_option maxHeartbeats 1000000 in
theorem cexpr_cond (X : Tx) (k k' : Nat) (t : Nd) (ha : ∀ w B d, QS w B X k d → Calls Tryz.prog 110 #[.pointer (some ⟨B.p, 0, none⟩)] w fun e w' => e = .returned (.bool true) ∧ Below w.heap.size w w') (hA : ∀ w B d, QS w B X k d → Calls Tryz.prog 81 #[.pointer (some ⟨B.p, 0, none⟩)] w fun e w' => e = .returned (.bool false) ∧ Below w.heap.size w w') (hin : QReads m 83 X k t k') : CReads m 78 X k t k' := by
  intro w B d b h hb hd1 hd2
  have HI := info_nd
  obtain ⟨W, hW, HR, HWs⟩ := rq_new w B X k d h
  have HB := Lib.hid (hb.bt HR.out.bt)
  have HIn := Lib.hid (fun w h => hin w B d h hd1 hd2)
  have HOp := Lib.hid (fun w (h : QS w B X k d) => qoperand w B X k d h (fun w h => ha w B d h))
  have HBe := Lib.hid (fun w (h : QS w B X k d) => qbegin w B X k d h (by omega))
  have HAs := Lib.hid (fun w (h : QS w B X k d) => hA w B d h)
  clear h hd1 hd2 hin hb ha hA
  go_enter Tryz.func78, Tryz.ntmps78
  go_upto_region 1 with (fail)
  change Code.wp _ _ _ _ (w.alloc (.cells zeroN 25))
  rw [← hW]
  clear hW
  refine wp_region_held_drew (S := fun w' => Hid (QS w' B X k d) ∧ Hid (RBox w' B b)) (by kernel_rfl) ⟨Lib.hid (HR.out.qs.after (below_drew _)), Lib.hid (HB.out.after (below_drew _))⟩ (fun hS => ?_)
  obtain ⟨Z, hZ, HBZ⟩ : ∃ Z, Z = W.drew ∧ Hid (Below W.heap.size W Z) := ⟨_, rfl, Lib.hid (below_drew _)⟩
  rw [← hZ] at hS ⊢
  clear hZ
  refine takeW (i := 0) (d := 2) (v := .pointer (some ⟨B.p, 0, none⟩)) rfl rfl (by kernel_rfl) (by kernel_rfl) (by kernel_rfl) (fun _ _ _ h => h) (by rfl) (fun w' hSw => by have c0 := hSw.2.out.c; go_simp) (by assumption) ?_
  simp only [List.setIfInBounds_toArray, List.set_cons_zero, List.set_cons_succ]
  refine takeW (i := 1) (d := 3) (v := .pointer (some ⟨B.p, 0, none⟩)) rfl rfl (by kernel_rfl) (by kernel_rfl) (by kernel_rfl) (fun _ _ _ h => h) (by rfl) (fun w' hSw => by have c0 := hSw.2.out.c; go_simp) (by assumption) ?_
  simp only [List.setIfInBounds_toArray, List.set_cons_zero, List.set_cons_succ]
  refine wpAnyH_ready (rs := [2]) (by kernel_rfl) (by simp) ?_
  refine AllReadyH.cons rfl (fun K hK => ?_) AllReadyH.nil
  rw [if_pos (by rfl)]
  go_simp
  refine (HOp.out _ hS.1.out).mono ?_
  rintro e w1 ⟨rfl, b1⟩
  have HB1 := Lib.hid (Below.step HBZ.out b1)
  have HS1 : Hid (QS w1 B X k d) ∧ Hid (RBox w1 B b) := ⟨Lib.hid (hS.1.out.after b1), Lib.hid (hS.2.out.after b1)⟩
  clear b1
  go_wp2_with fail
  refine hK.out _ _ HS1 (fun hS2 => ?_)
  clear hK K hS
  refine wpAnyH_ready (rs := [3]) (by kernel_rfl) (by simp) ?_
  refine AllReadyH.cons rfl (fun K hK => ?_) AllReadyH.nil
  rw [if_pos (by rfl)]
  go_simp
  refine (HBe.out _ HS1.1.out).mono ?_
  rintro e w2 ⟨rfl, rfl⟩
  go_wp2_with fail
  refine hK.out _ _ HS1 (fun hS3 => ?_)
  clear hK K hS2 hS3
  refine wpAnyH_done (by kernel_rfl) ?_ _
  have HR1 := Lib.hid (HR.out.after HB1.out)
  have HRB := HS1.2
  have c0 := HRB.out.c
  go_wp2_with fail
  refine (HAs.out _ HR1.out.qs).mono ?_
  rintro e w2 ⟨rfl, b2⟩
  have HR2 := Lib.hid (HR1.out.after b2)
  have c0 := (HRB.out.after b2).c
  clear b2
  go_wp2_with fail
  refine (HIn.out _ HR2.out.qs).mono ?_
  rintro e w3 ⟨cs, rfl, hA, hP, hBt⟩
  have HU : Hid (w.heap.size < w2.heap.size) := Lib.hid (by have := HR2.out.res.lt; omega)
  obtain ⟨xa, xc, ya, yc, hcs, _⟩ := hA.opens
  subst hcs
  have HRn := Lib.hid (HR2.out.on hP hBt)
  have HA := Lib.hid hA
  clear hA hP hBt
  go_wp2_with (refine wpList_store_row rfl 25 (.tmp 1) (.tmp 11) rfl w.heap.size (ndC t.k t.s t.n t.a (.slice xa t.kids.length xc) (.slice ya t.p.length yc)) rfl rfl 25 zeroN HRn.out.res.row HI rfl (nd_one _ _ _ _ _ _ _ _ _ _) ?_)
  refine bodyPost_ret (v := .agg (ndC t.k t.s t.n t.a (.slice xa t.kids.length xc) (.slice ya t.p.length yc))) (results_cell_row (by rfl) _ _ w.heap.size 25 _ (0, 0) _ (by rfl) (HRn.out.res.setRow _).row Tryz.underlying25 (by rfl) HI) rfl ?_
  exact HRn.out.ret HA.out (fun j hj => by have h1 : w2.heap.size ≤ j := hj; have h2 := HU.out; exact ⟨by omega, by omega⟩)

set_option maxRecDepth 100000 in
set_option maxHeartbeats 1000000 in
theorem cexpr_assign (X : Tx) (k k' : Nat) (t : Nd) (ha : ∀ w B d, QS w B X k d → Calls Tryz.prog 110 #[.pointer (some ⟨B.p, 0, none⟩)] w fun e w' => e = .returned (.bool true) ∧ Below w.heap.size w w') (hA : ∀ w B d, QS w B X k d → Calls Tryz.prog 81 #[.pointer (some ⟨B.p, 0, none⟩)] w fun e w' => e = .returned (.bool true) ∧ Below w.heap.size w w') (hin : QReads m 82 X k t k') : CReads m 78 X k t k' := by
  intro w B d b h hb hd1 hd2
  have HI := info_nd
  obtain ⟨W, hW, HR, HWs⟩ := rq_new w B X k d h
  have HB := Lib.hid (hb.bt HR.out.bt)
  have HIn := Lib.hid (fun w h => hin w B d h hd1 hd2)
  have HOp := Lib.hid (fun w (h : QS w B X k d) => qoperand w B X k d h (fun w h => ha w B d h))
  have HBe := Lib.hid (fun w (h : QS w B X k d) => qbegin w B X k d h (by omega))
  have HAs := Lib.hid (fun w (h : QS w B X k d) => hA w B d h)
  clear h hd1 hd2 hin hb ha hA
  go_enter Tryz.func78, Tryz.ntmps78
  go_upto_region 1 with (fail)
  change Code.wp _ _ _ _ (w.alloc (.cells zeroN 25))
  rw [← hW]
  clear hW
  refine wp_region_held_drew (S := fun w' => Hid (QS w' B X k d) ∧ Hid (RBox w' B b)) (by kernel_rfl) ⟨Lib.hid (HR.out.qs.after (below_drew _)), Lib.hid (HB.out.after (below_drew _))⟩ (fun hS => ?_)
  obtain ⟨Z, hZ, HBZ⟩ : ∃ Z, Z = W.drew ∧ Hid (Below W.heap.size W Z) := ⟨_, rfl, Lib.hid (below_drew _)⟩
  rw [← hZ] at hS ⊢
  clear hZ
  refine takeW (i := 0) (d := 2) (v := .pointer (some ⟨B.p, 0, none⟩)) rfl rfl (by kernel_rfl) (by kernel_rfl) (by kernel_rfl) (fun _ _ _ h => h) (by rfl) (fun w' hSw => by have c0 := hSw.2.out.c; go_simp) (by assumption) ?_
  simp only [List.setIfInBounds_toArray, List.set_cons_zero, List.set_cons_succ]
  refine takeW (i := 1) (d := 3) (v := .pointer (some ⟨B.p, 0, none⟩)) rfl rfl (by kernel_rfl) (by kernel_rfl) (by kernel_rfl) (fun _ _ _ h => h) (by rfl) (fun w' hSw => by have c0 := hSw.2.out.c; go_simp) (by assumption) ?_
  simp only [List.setIfInBounds_toArray, List.set_cons_zero, List.set_cons_succ]
  refine wpAnyH_ready (rs := [2]) (by kernel_rfl) (by simp) ?_
  refine AllReadyH.cons rfl (fun K hK => ?_) AllReadyH.nil
  rw [if_pos (by rfl)]
  go_simp
  refine (HOp.out _ hS.1.out).mono ?_
  rintro e w1 ⟨rfl, b1⟩
  have HB1 := Lib.hid (Below.step HBZ.out b1)
  have HS1 : Hid (QS w1 B X k d) ∧ Hid (RBox w1 B b) := ⟨Lib.hid (hS.1.out.after b1), Lib.hid (hS.2.out.after b1)⟩
  clear b1
  go_wp2_with fail
  refine hK.out _ _ HS1 (fun hS2 => ?_)
  clear hK K hS
  refine wpAnyH_ready (rs := [3]) (by kernel_rfl) (by simp) ?_
  refine AllReadyH.cons rfl (fun K hK => ?_) AllReadyH.nil
  rw [if_pos (by rfl)]
  go_simp
  refine (HBe.out _ HS1.1.out).mono ?_
  rintro e w2 ⟨rfl, rfl⟩
  go_wp2_with fail
  refine hK.out _ _ HS1 (fun hS3 => ?_)
  clear hK K hS2 hS3
  refine wpAnyH_done (by kernel_rfl) ?_ _
  have HR1 := Lib.hid (HR.out.after HB1.out)
  have HRB := HS1.2
  have c0 := HRB.out.c
  go_wp2_with fail
  refine (HAs.out _ HR1.out.qs).mono ?_
  rintro e w2 ⟨rfl, b2⟩
  have HR2 := Lib.hid (HR1.out.after b2)
  have c0 := (HRB.out.after b2).c
  clear b2
  go_wp2_with fail
  refine (HIn.out _ HR2.out.qs).mono ?_
  rintro e w3 ⟨cs, rfl, hA, hP, hBt⟩
  have HU : Hid (w.heap.size < w2.heap.size) := Lib.hid (by have := HR2.out.res.lt; omega)
  obtain ⟨xa, xc, ya, yc, hcs, _⟩ := hA.opens
  subst hcs
  have HRn := Lib.hid (HR2.out.on hP hBt)
  have HA := Lib.hid hA
  clear hA hP hBt
  go_wp2_with (refine wpList_store_row rfl 25 (.tmp 1) (.tmp 9) rfl w.heap.size (ndC t.k t.s t.n t.a (.slice xa t.kids.length xc) (.slice ya t.p.length yc)) rfl rfl 25 zeroN HRn.out.res.row HI rfl (nd_one _ _ _ _ _ _ _ _ _ _) ?_)
  refine bodyPost_ret (v := .agg (ndC t.k t.s t.n t.a (.slice xa t.kids.length xc) (.slice ya t.p.length yc))) (results_cell_row (by rfl) _ _ w.heap.size 25 _ (0, 0) _ (by rfl) (HRn.out.res.setRow _).row Tryz.underlying25 (by rfl) HI) rfl ?_
  exact HRn.out.ret HA.out (fun j hj => by have h1 : w2.heap.size ≤ j := hj; have h2 := HU.out; exact ⟨by omega, by omega⟩)

set_option maxRecDepth 100000 in
set_option maxHeartbeats 1000000 in
theorem qexpr (X : Tx) (k k' : Nat) (t : Nd) (hin : CReads m 78 X k t k') : QReads (m + 1) 38 X k t k' := by
  intro w B d h hd1 hd2
  have HI := info_nd
  have hmf := hmf
  obtain ⟨W, hW, HR, HB, HWs⟩ := rq_box w B X k d h
  have HIn := Lib.hid (qdeeper _ (enters_of Tryz.func78 (by kernel_rfl) rfl) X k k' t hin W B d w.heap.size HR.out.qs HB.out hd1 hd2)
  have c0 := HB.out.c
  clear h hd1 hd2 hin
  go_enter Tryz.func38, Tryz.ntmps38
  go_upto_region 1 with (fail)
  change Code.wp _ _ _ _ ((w.alloc (.cells #[.pointer (some ⟨B.p, 0, none⟩)] 60)).alloc (.cells zeroN 25))
  rw [← hW]
  clear hW
  go_wp2_with fail
  refine HIn.out.mono ?_
  rintro e w1 ⟨cs, rfl, hA, hP, hBt⟩
  obtain ⟨xa, xc, ya, yc, hcs, _⟩ := hA.opens
  subst hcs
  have HR1 := Lib.hid (HR.out.on hP hBt)
  have HA := Lib.hid hA
  clear hA hP hBt c0
  go_wp2_with (refine wpList_store_row rfl 25 (.tmp 2) (.tmp 5) rfl (w.heap.size + 1) (ndC t.k t.s t.n t.a (.slice xa t.kids.length xc) (.slice ya t.p.length yc)) rfl rfl 25 zeroN HR1.out.res.row HI rfl (nd_one _ _ _ _ _ _ _ _ _ _) ?_)
  refine bodyPost_ret (v := .agg (ndC t.k t.s t.n t.a (.slice xa t.kids.length xc) (.slice ya t.p.length yc))) (results_cell_row (by rfl) _ _ (w.heap.size + 1) 25 _ (0, 0) _ (by rfl) (HR1.out.res.setRow _).row Tryz.underlying25 (by rfl) HI) rfl ?_
  exact HR1.out.ret HA.out (fun j hj => by have h1 : W.heap.size ≤ j := hj; have h2 := HWs.out; exact ⟨by omega, by omega⟩)

end Go.Proofs.YtgdlpldngpoadaaGreatDoor
