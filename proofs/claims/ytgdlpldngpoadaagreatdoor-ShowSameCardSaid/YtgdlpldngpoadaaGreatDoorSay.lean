/- Merged by program: SyF, SyG. -/
import Derived.Test.YtgdlpldngpoadaaGreatDoorSax
/- syntax.reader reads an expression, where nothing is wrong: places, numbers, brackets, what is compared and joined (gen_sy.py). -/
namespace Go.Proofs.YtgdlpldngpoadaaGreatDoor
open Go.RowKit
variable {m : Nat}

theorem TB.cell {w V : World} {B : Bk} {rb : Nat} {t u : Nd} {b : Nat} {cs ds : Array Value} (h : TB w V B rb t b cs) (j : Nat) (v : Value) (hd : ∀ T m, Obj.cells (cs.setIfInBounds j v) T m = Obj.cells ds T m) (hu : At V (fun j => w.heap.size ≤ j ∧ j ≠ rb ∧ j ≠ b) u ds) : TB w (V.setCell ⟨b, j, none⟩ v) B rb u b ds :=
  ⟨⟨by rw [heap_setCell_same _ _ j _ _ _ h.box.row, hd]⟩, hu.keep (fun i hj hl => (bt_set V b j v).block i hl hj.2.2), h.np, h.nr, h.le, h.plt⟩
theorem At.moved {w : World} {S : Nat → Prop} {t : Nd} {a : Int} {x : Option Addr} {c : Nat} {y : Option Addr} {d : Nat} (h : At w S t (ndC t.k t.s t.n t.a (.slice x t.kids.length c) (.slice y t.p.length d))) : At w S (.mk t.k t.s t.n a t.kids t.p) (ndC t.k t.s t.n a (.slice x t.kids.length c) (.slice y t.p.length d)) := by
  obtain ⟨x2, c2, y2, d2, e, hs, hp⟩ := h.opens
  have e1 : Value.slice x t.kids.length c = .slice x2 t.kids.length c2 := congrArg (fun a : Array Value => a.getD 4 .nilIface) e
  have e2 : Value.slice y t.p.length d = .slice y2 t.p.length d2 := congrArg (fun a : Array Value => a.getD 5 .nilIface) e
  rw [e1, e2]
  exact hs.shut hp _ _ _ _
theorem leaf_at (w : World) (S : Nat → Prop) (k : Int) (s : ByteArray) (n a : Int) : At w S (.mk k s n a [] []) (ndC k s n a (.slice none 0 0) (.slice none 0 0)) := .leaf _ _ _ _ _ _ _ _ (.zero _ _)
set_option maxRecDepth 100000 in
theorem qvariable (w : World) (B : Bk) (X : Tx) (k : Nat) (d : Int) (h : QS w B X k d) (T : Tp) (hT : X.L[k]? = some T) (U : Tp) (hU : X.L[k + 1]? = some U) (hk : k + 1 < X.L.length) (h5 : (T.1 == 5) = true) (hz : sgB [⟨#[91]⟩] U = false) :
    Calls Tryz.prog 138 #[.pointer (some ⟨B.p, 0, none⟩)] w fun e w' => e = .returned (.tuple #[.string ⟨T.2.1.toArray⟩, .slice none 0 0]) ∧ QS w' B X (k + 1) d ∧ Bt B.p w w' := by
  have H := Lib.hid h
  have HN := Lib.hid (fun w h => qname w B X k d h T hT hk h5)
  have HNo := Lib.hid (fun (w : World) (h : QS w B X (k + 1) d) => (show Calls Tryz.prog 111 #[.pointer (some ⟨B.p, 0, none⟩), .slice (some ⟨w.heap.size, 0, none⟩) 1 1] (w.alloc (.cells #[.string ⟨#[91]⟩] 9)) (fun e w' => e = .returned (.bool false) ∧ Below w.heap.size w w') from qsign_row w B X (k + 1) d h U hU [⟨#[91]⟩] 1 rfl false hz))
  clear h hT hU hk h5 hz
  go_enter Tryz.func138, Tryz.ntmps138
  go_wp2_with fail
  refine (HN.out _ H.out).mono ?_
  rintro e w1 ⟨rfl, hP, hBt⟩
  have HQ := Lib.hid hP
  have HBt := Lib.hid hBt
  clear hP hBt
  go_wp2_with fail
  refine (HNo.out _ HQ.out).mono ?_
  rintro e w2 ⟨rfl, b2⟩
  have HQ2 := Lib.hid (HQ.out.after b2)
  have HBt2 := Lib.hid (HBt.out.trans (.of b2))
  clear b2
  go_wp2_with fail
  refine bodyPost_ret (results_tmp2 rfl _ _ _) rfl ?_
  exact ⟨rfl, HQ2.out, HBt2.out⟩
set_option maxRecDepth 100000 in
set_option maxHeartbeats 1000000 in
theorem qplace_name (X : Tx) (k : Nat) (T U : Tp) (hT : X.L[k]? = some T) (hU : X.L[k + 1]? = some U) (hk : k + 1 < X.L.length) (h5 : (T.1 == 5) = true) (hd0 : sgB [⟨#[36]⟩] T = false) (hz : sgB [⟨#[91]⟩] U = false) : QReads m 115 X k (.mk 3 ⟨T.2.1.toArray⟩ 0 (T.2.2 : Nat) [] []) (k + 1) := by
  intro w B d h hd1 hd2
  have HI := info_nd
  obtain ⟨W, hW, HR, HWs⟩ := rq_new w B X k d h
  have HD := Lib.hid (And.intro hd1 hd2)
  have HNd := Lib.hid (fun w (h : QS w B X k d) => qnode w B X k d h T hT 5)
  have HVa := Lib.hid (fun w (h : QS w B X k d) => qvariable w B X k d h T hT U hU hk h5 hz)
  have HDo := Lib.hid (fun (w : World) (h : QS w B X k d) => (show Calls Tryz.prog 111 #[.pointer (some ⟨B.p, 0, none⟩), .slice (some ⟨w.heap.size, 0, none⟩) 1 1] (w.alloc (.cells #[.string ⟨#[36]⟩] 9)) (fun e w' => e = .returned (.bool false) ∧ Below w.heap.size w w') from qsign_row w B X k d h T hT [⟨#[36]⟩] 1 rfl false hd0))
  clear h hd1 hd2 hT hU hk h5 hd0 hz
  go_enter Tryz.func115, Tryz.ntmps115
  go_upto_region 1 with (fail)
  change Code.wp _ _ _ _ (w.alloc (.cells zeroN 25))
  rw [← hW]
  clear hW
  go_wp2_with fail
  refine (HNd.out _ HR.out.qs).mono ?_
  rintro e w1 ⟨rfl, b1⟩
  have HRa := Lib.hid (HR.out.after b1)
  have HAa := Lib.hid (leaf_at w1 (Up W.heap.size) 5 ⟨#[]⟩ 0 (T.2.2 : Nat))
  clear b1
  go_upto_region 2 with (refine wpList_store_row rfl 25 (.tmp 3) (.tmp 5) rfl w1.heap.size (ndC 5 ⟨#[]⟩ 0 (T.2.2 : Nat) (.slice none 0 0) (.slice none 0 0)) rfl rfl 25 zeroN (heap_alloc_last _ _) HI rfl (nd_one _ _ _ _ _ _ _ _ _ _) ?_)
  obtain ⟨V1, hV1, HR1, TB1, BV1⟩ := tb_new HRa.out (u := W) (by have := HWs.out; omega) (by have := HWs.out; omega) HAa.out
  change Code.wp _ _ _ _ ((w1.alloc (Obj.cells zeroN 25)).setRow w1.heap.size (ndC 5 ⟨#[]⟩ 0 (T.2.2 : Nat) (.slice none 0 0) (.slice none 0 0)))
  rw [← hV1]
  obtain ⟨xb, hxb⟩ : ∃ xb, xb = w1.heap.size := ⟨_, rfl⟩
  rw [← hxb] at TB1 ⊢
  clear hV1 hxb HRa HAa BV1
  go_wp2_with fail
  refine (HDo.out _ HR1.out.qs).mono ?_
  rintro e w2 ⟨rfl, b2⟩
  have HR2 := Lib.hid (HR1.out.after b2)
  have TB2 := Lib.hid (TB1.out.after b2)
  clear b2
  go_wp2_with fail
  refine (HVa.out _ HR2.out.qs).mono ?_
  rintro e w3 ⟨rfl, hP, hBt⟩
  have HR3 := Lib.hid (HR2.out.on hP hBt)
  have TB3 := Lib.hid (TB2.out.on hBt)
  clear hP hBt
  have hxw : xb < w3.heap.size := TB3.out.box.lt
  have z0 := TB3.out.box.z 0
  have z1 := TB3.out.box.z 1
  have z4 := TB3.out.box.z 4
  obtain ⟨e0, e1, e2, e3, e4, e5⟩ := six_nd TB3.out.six
  go_upto_region 8 with (fail)
  obtain ⟨V4, hV4, HR4, TB4⟩ : ∃ V4, V4 = ((w3.setCell ⟨xb, 1, none⟩ (.string ⟨T.2.1.toArray⟩)).setCell ⟨xb, 4, none⟩ (.slice none 0 0)).setCell ⟨xb, 0, none⟩ (.int .i64 3) ∧ Hid (RQ w V4 B X (k + 1) d w.heap.size) ∧ Hid (TB w V4 B w.heap.size (.mk 3 ⟨T.2.1.toArray⟩ 0 (T.2.2 : Nat) [] []) xb (ndC 3 ⟨T.2.1.toArray⟩ 0 (T.2.2 : Nat) (.slice none 0 0) (.slice none 0 0))) :=
    ⟨_, rfl, Lib.hid (((HR3.out.own (bt_set _ xb _ _) TB3.out.nr TB3.out.le).own (bt_set _ xb _ _) TB3.out.nr TB3.out.le).own (bt_set _ xb _ _) TB3.out.nr TB3.out.le),
      Lib.hid (((TB3.out.cell 1 _ (ds := (ndC 5 ⟨T.2.1.toArray⟩ 0 (T.2.2 : Nat) (.slice none 0 0) (.slice none 0 0))) (u := .mk 5 ⟨T.2.1.toArray⟩ 0 (T.2.2 : Nat) [] []) (fun _ _ => rfl) (leaf_at _ _ _ _ _ _)).cell 4 _ (ds := (ndC 5 ⟨T.2.1.toArray⟩ 0 (T.2.2 : Nat) (.slice none 0 0) (.slice none 0 0))) (u := .mk 5 ⟨T.2.1.toArray⟩ 0 (T.2.2 : Nat) [] []) (fun _ _ => rfl) (leaf_at _ _ _ _ _ _)).cell 0 _ (fun _ _ => rfl) (leaf_at _ _ _ _ _ _))⟩
  rw [← hV4]
  clear hV4 z0 z1 z4 e0 e1 e2 e3 e4 e5 hxw
  obtain ⟨e0, e1, e2, e3, e4, e5⟩ := six_nd TB4.out.six
  go_wp2_with (refine wpList_store_row rfl 25 (.tmp 2) (.tmp 30) rfl w.heap.size (ndC 3 ⟨T.2.1.toArray⟩ 0 (T.2.2 : Nat) (.slice none 0 0) (.slice none 0 0)) rfl rfl 25 zeroN HR4.out.res.row HI rfl (nd_one _ _ _ _ _ _ _ _ _ _) ?_)
  refine bodyPost_ret (v := .agg (ndC 3 ⟨T.2.1.toArray⟩ 0 (T.2.2 : Nat) (.slice none 0 0) (.slice none 0 0))) (results_cell_row (by rfl) _ _ (w.heap.size) 25 _ (0, 0) _ (by rfl) (HR4.out.res.setRow _).row Tryz.underlying25 (by rfl) HI) rfl ?_
  exact TB4.out.ret HR4.out

set_option maxRecDepth 100000 in
theorem qnumber (w : World) (B : Bk) (X : Tx) (k : Nat) (d : Int) (h : QS w B X k d) (T : Tp) (hT : X.L[k]? = some T) (hk : k + 1 < X.L.length) (n r : Int) (hp : ∀ w : World, Calls Tryz.prog 196 #[.string ⟨T.2.1.toArray⟩] w fun e w' => e = .returned (.tuple #[.int .i64 n, .int .i64 r, .int .i64 0]) ∧ Below w.heap.size w w') :
    Calls Tryz.prog 186 #[.pointer (some ⟨B.p, 0, none⟩)] w fun e w' => e = .returned (.int .i64 n) ∧ QS w' B X (k + 1) d ∧ Bt B.p w w' := by
  have H := Lib.hid h
  have HN := Lib.hid (fun w h => qhere w B X k d h T hT)
  have HTk := Lib.hid (fun w h => qtake w B X k d h T hT hk)
  have HPa := Lib.hid hp
  have f1 := qfield1 T
  clear h hT hk hp
  go_enter Tryz.func186, Tryz.ntmps186
  go_wp2_with fail
  refine (HN.out _ H.out).mono ?_
  rintro e w1 ⟨rfl, b1⟩
  have H1 := Lib.hid (H.out.after b1)
  have B1 := Lib.hid b1
  clear b1
  go_wp2_with fail
  refine (HPa.out _).mono ?_
  rintro e w2 ⟨rfl, b2⟩
  have H2 := Lib.hid (H1.out.after b2)
  have B2 := Lib.hid (Below.step B1.out b2)
  clear b2
  go_wp2_with fail
  refine (HTk.out _ H2.out).mono ?_
  rintro e w3 ⟨rfl, hP, hBt⟩
  have HQ := Lib.hid hP
  have HBt := Lib.hid ((Bt.of B2.out).trans hBt)
  clear hP hBt
  go_wp2_with fail
  go_ret
  exact ⟨rfl, HQ.out, HBt.out⟩
set_option maxRecDepth 100000 in
set_option maxHeartbeats 1000000 in
theorem qprim_num (X : Tx) (k : Nat) (T : Tp) (n r : Int) (hT : X.L[k]? = some T) (hk : k + 1 < X.L.length) (k2 : (T.1 == 2) = true) (hp : ∀ w : World, Calls Tryz.prog 196 #[.string ⟨T.2.1.toArray⟩] w fun e w' => e = .returned (.tuple #[.int .i64 n, .int .i64 r, .int .i64 0]) ∧ Below w.heap.size w w') : QReads m 167 X k (.mk 0 ⟨#[]⟩ n (T.2.2 : Nat) [] []) (k + 1) := by
  intro w B d h hd1 hd2
  have HI := info_nd
  obtain ⟨W, hW, HR, HWs⟩ := rq_new w B X k d h
  have HD := Lib.hid (And.intro hd1 hd2)
  have HNd := Lib.hid (fun w (h : QS w B X k d) => qnode w B X k d h T hT 0)
  have HHe := Lib.hid (fun w (h : QS w B X k d) => qhere w B X k d h T hT)
  have HNu := Lib.hid (fun w (h : QS w B X k d) => qnumber w B X k d h T hT hk n r hp)
  have f0 := qfield0 T
  clear h hd1 hd2 hT hk hp
  go_enter Tryz.func167, Tryz.ntmps167
  go_upto_region 1 with (fail)
  change Code.wp _ _ _ _ (w.alloc (.cells zeroN 25))
  rw [← hW]
  clear hW
  go_wp2_with fail
  refine (HNd.out _ HR.out.qs).mono ?_
  rintro e w1 ⟨rfl, b1⟩
  have HRa := Lib.hid (HR.out.after b1)
  have HAa := Lib.hid (leaf_at w1 (Up W.heap.size) 0 ⟨#[]⟩ 0 (T.2.2 : Nat))
  clear b1
  go_upto_region 2 with (refine wpList_store_row rfl 25 (.tmp 3) (.tmp 5) rfl w1.heap.size (ndC 0 ⟨#[]⟩ 0 (T.2.2 : Nat) (.slice none 0 0) (.slice none 0 0)) rfl rfl 25 zeroN (heap_alloc_last _ _) HI rfl (nd_one _ _ _ _ _ _ _ _ _ _) ?_)
  obtain ⟨V1, hV1, HR1, TB1, BV1⟩ := tb_new HRa.out (u := W) (by have := HWs.out; omega) (by have := HWs.out; omega) HAa.out
  change Code.wp _ _ _ _ ((w1.alloc (Obj.cells zeroN 25)).setRow w1.heap.size (ndC 0 ⟨#[]⟩ 0 (T.2.2 : Nat) (.slice none 0 0) (.slice none 0 0)))
  rw [← hV1]
  obtain ⟨xb, hxb⟩ : ∃ xb, xb = w1.heap.size := ⟨_, rfl⟩
  rw [← hxb] at TB1 ⊢
  clear hV1 hxb HRa HAa BV1
  go_wp2_with fail
  refine (HHe.out _ HR1.out.qs).mono ?_
  rintro e w2 ⟨rfl, b2⟩
  have HR2 := Lib.hid (HR1.out.after b2)
  have TB2 := Lib.hid (TB1.out.after b2)
  clear b2
  go_wp2_with fail
  refine (HNu.out _ HR2.out.qs).mono ?_
  rintro e w3 ⟨rfl, hP, hBt⟩
  have HR3 := Lib.hid (HR2.out.on hP hBt)
  have TB3 := Lib.hid (TB2.out.on hBt)
  clear hP hBt
  have z2 := TB3.out.box.z 2
  obtain ⟨e0, e1, e2, e3, e4, e5⟩ := six_nd TB3.out.six
  go_upto_region 18 with (fail)
  obtain ⟨V4, hV4, HR4, TB4⟩ : ∃ V4, V4 = w3.setCell ⟨xb, 2, none⟩ (.int .i64 n) ∧ Hid (RQ w V4 B X (k + 1) d w.heap.size) ∧ Hid (TB w V4 B w.heap.size (.mk 0 ⟨#[]⟩ n (T.2.2 : Nat) [] []) xb (ndC 0 ⟨#[]⟩ n (T.2.2 : Nat) (.slice none 0 0) (.slice none 0 0))) :=
    ⟨_, rfl, Lib.hid (HR3.out.own (bt_set _ xb _ _) TB3.out.nr TB3.out.le), Lib.hid (TB3.out.cell 2 _ (fun _ _ => rfl) (leaf_at _ _ _ _ _ _))⟩
  rw [← hV4]
  clear hV4 z2 e0 e1 e2 e3 e4 e5
  obtain ⟨e0, e1, e2, e3, e4, e5⟩ := six_nd TB4.out.six
  go_wp2_with (refine wpList_store_row rfl 25 (.tmp 2) (.tmp 44) rfl w.heap.size (ndC 0 ⟨#[]⟩ n (T.2.2 : Nat) (.slice none 0 0) (.slice none 0 0)) rfl rfl 25 zeroN HR4.out.res.row HI rfl (nd_one _ _ _ _ _ _ _ _ _ _) ?_)
  refine bodyPost_ret (v := .agg (ndC 0 ⟨#[]⟩ n (T.2.2 : Nat) (.slice none 0 0) (.slice none 0 0))) (results_cell_row (by rfl) _ _ (w.heap.size) 25 _ (0, 0) _ (by rfl) (HR4.out.res.setRow _).row Tryz.underlying25 (by rfl) HI) rfl ?_
  exact TB4.out.ret HR4.out

set_option maxRecDepth 100000 in
set_option maxHeartbeats 1000000 in
theorem qprim_group (X : Tx) (k k' : Nat) (t : Nd) (T : Tp) (hT : X.L[k]? = some T) (k2 : (T.1 == 2) = false) (k3 : (T.1 == 3) = false) (k4 : (T.1 == 4) = false) (k6 : (T.1 == 6) = false) (k8 : (T.1 == 8) = false) (hin : QReads m 189 X k t k') : QReads m 167 X k t k' := by
  intro w B d h hd1 hd2
  have HI := info_nd
  obtain ⟨W, hW, HR, HWs⟩ := rq_new w B X k d h
  have HD := Lib.hid (And.intro hd1 hd2)
  have HNd := Lib.hid (fun w (h : QS w B X k d) => qnode w B X k d h T hT 0)
  have HHe := Lib.hid (fun w (h : QS w B X k d) => qhere w B X k d h T hT)
  have HIn := Lib.hid (fun w h => hin w B d h hd1 hd2)
  have f0 := qfield0 T
  clear h hd1 hd2 hT hin
  go_enter Tryz.func167, Tryz.ntmps167
  go_upto_region 1 with (fail)
  change Code.wp _ _ _ _ (w.alloc (.cells zeroN 25))
  rw [← hW]
  clear hW
  go_wp2_with fail
  refine (HNd.out _ HR.out.qs).mono ?_
  rintro e w1 ⟨rfl, b1⟩
  have HRa := Lib.hid (HR.out.after b1)
  have HAa := Lib.hid (leaf_at w1 (Up W.heap.size) 0 ⟨#[]⟩ 0 (T.2.2 : Nat))
  clear b1
  go_upto_region 2 with (refine wpList_store_row rfl 25 (.tmp 3) (.tmp 5) rfl w1.heap.size (ndC 0 ⟨#[]⟩ 0 (T.2.2 : Nat) (.slice none 0 0) (.slice none 0 0)) rfl rfl 25 zeroN (heap_alloc_last _ _) HI rfl (nd_one _ _ _ _ _ _ _ _ _ _) ?_)
  obtain ⟨V1, hV1, HR1, TB1, BV1⟩ := tb_new HRa.out (u := W) (by have := HWs.out; omega) (by have := HWs.out; omega) HAa.out
  change Code.wp _ _ _ _ ((w1.alloc (Obj.cells zeroN 25)).setRow w1.heap.size (ndC 0 ⟨#[]⟩ 0 (T.2.2 : Nat) (.slice none 0 0) (.slice none 0 0)))
  rw [← hV1]
  obtain ⟨xb, hxb⟩ : ∃ xb, xb = w1.heap.size := ⟨_, rfl⟩
  rw [← hxb] at TB1 ⊢
  clear hV1 hxb HRa HAa BV1
  go_wp2_with fail
  refine (HHe.out _ HR1.out.qs).mono ?_
  rintro e w2 ⟨rfl, b2⟩
  have HR2 := Lib.hid (HR1.out.after b2)
  clear b2
  go_wp2_with fail
  refine (HIn.out _ HR2.out.qs).mono ?_
  rintro e w3 ⟨cs, rfl, hA, hP, hBt⟩
  have HU : Hid (w.heap.size < w2.heap.size) := Lib.hid (by have := HR2.out.res.lt; omega)
  obtain ⟨xa, xc, ya, yc, hcs, _⟩ := hA.opens
  subst hcs
  have HRn := Lib.hid (HR2.out.on hP hBt)
  have HA := Lib.hid hA
  clear hA hP hBt
  go_wp2_with (refine wpList_store_row rfl 25 (.tmp 2) (.tmp 10) rfl w.heap.size (ndC t.k t.s t.n t.a (.slice xa t.kids.length xc) (.slice ya t.p.length yc)) rfl rfl 25 zeroN HRn.out.res.row HI rfl (nd_one _ _ _ _ _ _ _ _ _ _) ?_)
  refine bodyPost_ret (v := .agg (ndC t.k t.s t.n t.a (.slice xa t.kids.length xc) (.slice ya t.p.length yc))) (results_cell_row (by rfl) _ _ w.heap.size 25 _ (0, 0) _ (by rfl) (HRn.out.res.setRow _).row Tryz.underlying25 (by rfl) HI) rfl ?_
  exact HRn.out.ret HA.out (fun j hj => by have h1 : w2.heap.size ≤ j := hj; have h2 := HU.out; exact ⟨by omega, by omega⟩)

end Go.Proofs.YtgdlpldngpoadaaGreatDoor

/- syntax.reader reads an expression, where nothing is wrong: brackets, what is compared, joined, asked (gen_sy.py). -/
namespace Go.Proofs.YtgdlpldngpoadaaGreatDoor
open Go.RowKit
variable {m : Nat}

/-- All that was there stands, but two blocks. -/
structure Bt2 (p q : Nat) (w w' : World) : Prop where
  os : w'.os = w.os
  tape : w'.tape = w.tape
  output : w'.output = w.output
  size : w.heap.size ≤ w'.heap.size
  block : ∀ k, k < w.heap.size → k ≠ p → k ≠ q → w'.heap[k]? = w.heap[k]?
theorem Bt2.of {p q : Nat} {w w' : World} (h : Bt p w w') : Bt2 p q w w' := ⟨h.os, h.tape, h.output, h.size, fun k hk h1 _ => h.block k hk h1⟩
theorem Bt2.ofq {p q : Nat} {w w' : World} (h : Bt q w w') : Bt2 p q w w' := ⟨h.os, h.tape, h.output, h.size, fun k hk _ h1 => h.block k hk h1⟩
theorem Bt2.trans {p q : Nat} {w w1 w2 : World} (h : Bt2 p q w w1) (g : Bt2 p q w1 w2) : Bt2 p q w w2 :=
  ⟨g.os.trans h.os, g.tape.trans h.tape, g.output.trans h.output, Nat.le_trans h.size g.size, fun k hk h1 h2 => (g.block k (Nat.lt_of_lt_of_le hk h.size) h1 h2).trans (h.block k hk h1 h2)⟩
/-- A tree was read into the variable nb. -/
def NOut (B : Bk) (X : Tx) (t : Nd) (k : Nat) (d : Int) (nb : Nat) (u w : World) (e : Ending) (w' : World) : Prop := e = .returned (.tuple #[]) ∧ ∃ cs, Box w' nb cs ∧ At w' (fun j => u.heap.size ≤ j ∧ j ≠ nb) t cs ∧ QS w' B X k d ∧ Bt2 B.p nb w w'
set_option maxRecDepth 100000 in
set_option maxHeartbeats 1000000 in
theorem casked1 (X : Tx) (k k' : Nat) (t : Nd) (hin : QReads m 38 X k t k') (w : World) (B : Bk) (d : Int) (b nb : Nat) (h : QS w B X k d) (hb : RBox w B b) (hn : Box w nb zeroN) (n1 : nb ≠ B.p) (n2 : nb ≠ B.g) (n3 : nb ≠ B.gc) (n4 : nb ≠ B.gm) (hd1 : -1 ≤ d) (hd2 : d + m ≤ 100) :
    Calls Tryz.prog 210 #[.pointer (some ⟨b, 0, none⟩), .pointer (some ⟨nb, 0, none⟩)] w (NOut B X t k' d nb w w) := by
  have HI := info_nd
  have c0 := hb.c
  have HIn := Lib.hid (hin w B d h hd1 hd2)
  have HN := Lib.hid hn
  have HNE : Hid (nb ≠ B.p ∧ nb ≠ B.g ∧ nb ≠ B.gc ∧ nb ≠ B.gm) := Lib.hid ⟨n1, n2, n3, n4⟩
  clear h hd1 hd2 hin hb hn n1 n2 n3 n4
  go_enter Tryz.func210, Tryz.ntmps210
  go_wp2_with fail
  refine HIn.out.mono ?_
  rintro e w1 ⟨cs, rfl, hA, hP, hBt⟩
  obtain ⟨xa, xc, ya, yc, hcs, _⟩ := hA.opens
  subst hcs
  have HQ := Lib.hid hP
  have HBt := Lib.hid hBt
  have HA := Lib.hid hA
  have HN1 := Lib.hid (HN.out.bt hBt HNE.out.1)
  clear hA hP hBt c0
  go_wp2_with (refine wpList_store_row rfl 25 (.tmp 1) (.tmp 3) rfl nb (ndC t.k t.s t.n t.a (.slice xa t.kids.length xc) (.slice ya t.p.length yc)) rfl rfl 25 zeroN HN1.out.row HI rfl (nd_one _ _ _ _ _ _ _ _ _ _) ?_)
  go_end0
  have hbt := bt_row w1 nb (ndC t.k t.s t.n t.a (.slice xa t.kids.length xc) (.slice ya t.p.length yc))
  exact ⟨rfl, _, HN1.out.setRow _, (HA.out.keep fun j hj hl => hbt.block j hl (by have h1 : w.heap.size ≤ j := hj; have := HN.out.lt; omega)).weakS (fun j hj => by have h1 : w.heap.size ≤ j := hj; have := HN.out.lt; exact ⟨h1, by omega⟩),
    HQ.out.other hbt HNE.out.1 HNE.out.2.1 HNE.out.2.2.1 HNE.out.2.2.2, (Bt2.of HBt.out).trans (.ofq hbt)⟩
set_option maxRecDepth 100000 in
set_option maxHeartbeats 1000000 in
theorem qwithin (X : Tx) (k k' : Nat) (t : Nd) (T U : Tp) (hT : X.L[k]? = some T) (hU : X.L[k']? = some U) (hk : k + 1 < X.L.length) (hk' : k' + 1 < X.L.length) (hz : sgB [⟨#[40]⟩] T = true) (hy : sgB [⟨#[41]⟩] U = true) (hin : QReads m 38 X (k + 1) t k')
    (w : World) (B : Bk) (d : Int) (b nb : Nat) (h : QS w B X k d) (hb : RBox w B b) (hn : Box w nb zeroN) (n1 : nb ≠ B.p) (n2 : nb ≠ B.g) (n3 : nb ≠ B.gc) (n4 : nb ≠ B.gm) (hd1 : -1 ≤ d) (hd2 : d + m ≤ 100) :
    Calls Tryz.prog 190 #[.pointer (some ⟨B.p, 0, none⟩), .string ⟨#[40]⟩, .func (.func 210) #[] #[.pointer (some ⟨b, 0, none⟩), .pointer (some ⟨nb, 0, none⟩)], .string ⟨#[41]⟩] w (NOut B X t (k' + 1) d nb w w) := by
  have c5 := h.c5
  have z5 := h.z 5
  have HS1 := Lib.hid (fun w h => qsgn w B X k d h T hT hk ⟨#[40]⟩ hz)
  have HS2 := Lib.hid (fun w h => qsgn w B X k' d h U hU hk' ⟨#[41]⟩ hy)
  have HAs := Lib.hid (fun w h hb hn => casked1 X (k + 1) k' t hin w B d b nb h hb hn n1 n2 n3 n4 hd1 hd2)
  obtain ⟨W, hW, HW, BW⟩ : ∃ W, W = w.setCell ⟨B.p, 5, none⟩ (.bool false) ∧ Hid (QS W B X k d) ∧ Hid (Bt B.p w W) := ⟨_, rfl, Lib.hid h.same, Lib.hid (bt_set _ _ _ _)⟩
  have HRB := Lib.hid (hb.bt BW.out)
  have HNB := Lib.hid (hn.bt BW.out n1)
  have HNE := Lib.hid n1
  have HLT := Lib.hid hn.lt
  clear h hb hn n1 n2 n3 n4 hd1 hd2 hT hU hk hk' hz hy hin
  go_enter Tryz.func190, Tryz.ntmps190
  go_upto_region 2 with (fail)
  rw [← hW]
  clear hW c5 z5
  go_wp2_with fail
  refine (HS1.out _ HW.out).mono ?_
  rintro e w1 ⟨rfl, hP, hBt⟩
  have HQ1 := Lib.hid hP
  have B1 := Lib.hid (BW.out.trans hBt)
  have HRB1 := Lib.hid (HRB.out.bt hBt)
  have HNB1 := Lib.hid (HNB.out.bt hBt HNE.out)
  clear hP hBt
  go_wp2_with fail
  refine (HAs.out _ HQ1.out HRB1.out HNB1.out).mono ?_
  rintro e w2 ⟨rfl, cs, hX, hA, hP, hBt⟩
  have HQ2 := Lib.hid hP
  have HX2 := Lib.hid hX
  have HA2 := Lib.hid hA
  have B2 := Lib.hid ((Bt2.of B1.out).trans hBt)
  clear hP hBt hX hA
  go_wp2_with fail
  refine (HS2.out _ HQ2.out).mono ?_
  rintro e w3 ⟨rfl, hP, hBt⟩
  have HQ3 := Lib.hid hP
  have HX3 := Lib.hid (HX2.out.bt hBt HNE.out)
  have HA3 := Lib.hid (HA2.out.btS hBt (fun e => by have := HQ1.out.plt; have := e.1; omega))
  have B3 := Lib.hid (B2.out.trans (.of hBt))
  have c5 := hP.c5
  have z5 := hP.z 5
  clear hP hBt
  go_wp2_with fail
  go_end0
  have hbt := bt_set w3 B.p 5 (.bool false)
  have hlt := HQ1.out.plt
  exact ⟨rfl, cs, HX3.out.bt hbt HNE.out, ((HA3.out.btS hbt (fun e => by have := e.1; omega)).weakS (fun j hj => ⟨Nat.le_trans B1.out.size hj.1, hj.2⟩)), HQ3.out.same, B3.out.trans (.of hbt)⟩
set_option maxRecDepth 100000 in
set_option maxHeartbeats 1000000 in
theorem qasked (X : Tx) (k k' : Nat) (t : Nd) (T U : Tp) (hT : X.L[k]? = some T) (hU : X.L[k']? = some U) (hk : k + 1 < X.L.length) (hk' : k' + 1 < X.L.length) (hz : sgB [⟨#[40]⟩] T = true) (hy : sgB [⟨#[41]⟩] U = true) (hin : QReads m 38 X (k + 1) t k') : QReads m 200 X k t (k' + 1) := by
  intro w B d h hd1 hd2
  have HI := info_nd
  have hmf := hmf
  obtain ⟨W, hW, HR, HB, HWs⟩ := rq_box w B X k d h
  obtain ⟨V, hV, HX, HBV, HVs⟩ := nd_box W zeroN
  have HRV := Lib.hid (HR.out.after HBV.out)
  have HRB := Lib.hid (HB.out.after HBV.out)
  have c0 := HRB.out.c
  have hp := HR.out.p4; have hg := HR.out.g4; have hc := HR.out.c4; have hm := HR.out.m4
  have hws := HWs.out
  have HIn := Lib.hid (qwithin X k k' t T U hT hU hk hk' hz hy hin V B d w.heap.size W.heap.size HRV.out.qs HRB.out HX.out (by omega) (by omega) (by omega) (by omega) hd1 hd2)
  have HNP : Hid (W.heap.size ≠ B.p ∧ W.heap.size ≠ B.g ∧ W.heap.size ≠ B.gc ∧ W.heap.size ≠ B.gm) := Lib.hid ⟨by omega, by omega, by omega, by omega⟩
  clear h hd1 hd2 hin hT hU hk hk' hz hy hp hg hc hm hws
  go_enter Tryz.func200, Tryz.ntmps200
  go_upto_region 2 with (fail)
  change Code.wp _ _ _ _ (((w.alloc (.cells #[.pointer (some ⟨B.p, 0, none⟩)] 60)).alloc (.cells zeroN 25)).alloc (.cells zeroN 25))
  rw [← hW, ← hV]
  obtain ⟨nb, hnb⟩ : ∃ nb, nb = w.heap.size + 1 + 1 := ⟨_, rfl⟩
  rw [← hnb]
  have HNB : Hid (nb = W.heap.size) := Lib.hid (hnb.trans HWs.out.symm)
  rw [← HNB.out] at HIn HNP
  clear hW hV hnb
  go_wp2_with fail
  refine HIn.out.mono ?_
  rintro e w1 ⟨rfl, cs, hX, hA, hP, hBt⟩
  obtain ⟨xa, xc, ya, yc, hcs, _⟩ := hA.opens
  subst hcs
  have HX1 := Lib.hid hX
  have HA1 := Lib.hid hA
  have HRn : Hid (RQ w w1 B X (k' + 1) d (w.heap.size + 1)) := Lib.hid (by
    have h1 := HRV.out.p4; have h2 := HRV.out.g4; have h3 := HRV.out.c4; have h4 := HRV.out.m4; have h5 := HWs.out; have h6 := HNB.out; have h7 := HRV.out.res.lt
    exact ⟨⟨by rw [hBt.block _ HRV.out.res.lt (by omega) (by omega)]; exact HRV.out.res.row⟩, hP, ⟨hBt.os.trans HRV.out.bt.os, hBt.tape.trans HRV.out.bt.tape, hBt.output.trans HRV.out.bt.output, Nat.le_trans HRV.out.bt.size hBt.size, fun i hi hp => (hBt.block i (Nat.lt_of_lt_of_le hi HRV.out.bt.size) hp (by omega)).trans (HRV.out.bt.block i hi hp)⟩, h1, h2, h3, h4, by omega⟩)
  clear hX hA hP hBt c0
  obtain ⟨e0, e1, e2, e3, e4, e5⟩ := six_nd HX1.out.six
  go_wp2_with (refine wpList_store_row rfl 25 (.tmp 2) (.tmp 7) rfl (w.heap.size + 1) (ndC t.k t.s t.n t.a (.slice xa t.kids.length xc) (.slice ya t.p.length yc)) rfl rfl 25 zeroN HRn.out.res.row HI rfl (nd_one _ _ _ _ _ _ _ _ _ _) ?_)
  refine bodyPost_ret (v := .agg (ndC t.k t.s t.n t.a (.slice xa t.kids.length xc) (.slice ya t.p.length yc))) (results_cell_row (by rfl) _ _ (w.heap.size + 1) 25 _ (0, 0) _ (by rfl) (HRn.out.res.setRow _).row Tryz.underlying25 (by rfl) HI) rfl ?_
  exact HRn.out.ret HA1.out (fun j hj => by have h1 := hj.1; have h2 := HVs.out; have h3 := HWs.out; exact ⟨by omega, by omega⟩)

set_option maxRecDepth 100000 in
set_option maxHeartbeats 1000000 in
theorem qgrouped (X : Tx) (k k' : Nat) (t : Nd) (T : Tp) (hT : X.L[k]? = some T) (h5 : (T.1 == 5) = false) (h7 : (T.1 == 7) = false) (hz : sgB [⟨#[36]⟩] T = false) (hin : QReads m 200 X k t k') : QReads m 189 X k (.mk t.k t.s t.n (T.2.2 : Nat) t.kids t.p) k' := by
  intro w B d h hd1 hd2
  have HI := info_nd
  obtain ⟨W, hW, HR, HWs⟩ := rq_new w B X k d h
  have HD := Lib.hid (And.intro hd1 hd2)
  have HPl := Lib.hid (fun w (h : QS w B X k d) => qplace_no w B X k d h T hT h5 hz)
  have HWo := Lib.hid (fun w (h : QS w B X k d) sl => qword_no w B X k d h T hT h7 sl)
  have HHe := Lib.hid (fun w (h : QS w B X k d) => qhere w B X k d h T hT)
  have HIn := Lib.hid (fun w h => hin w B d h hd1 hd2)
  have f2 := qfield2 T
  clear h hd1 hd2 hT hin h5 h7 hz
  go_enter Tryz.func189, Tryz.ntmps189
  go_upto_region 1 with (fail)
  change Code.wp _ _ _ _ (w.alloc (.cells zeroN 25))
  rw [← hW]
  clear hW
  go_wp2_with fail
  refine (HPl.out _ HR.out.qs).mono ?_
  rintro e w1 ⟨rfl, b1⟩
  have HR1 := Lib.hid (HR.out.after b1)
  clear b1
  go_wp2_with fail
  refine (HWo.out _ (HR1.out.qs.after (below_new _ _)) _).mono ?_
  rintro e w2 ⟨rfl, b2⟩
  have HR2 := Lib.hid (HR1.out.after (Below.step (below_new _ _) b2))
  clear b2
  go_wp2_with fail
  refine (HHe.out _ HR2.out.qs).mono ?_
  rintro e w3 ⟨rfl, b3⟩
  have HR3 := Lib.hid (HR2.out.after b3)
  have HU : Hid (w.heap.size < w3.heap.size) := Lib.hid HR3.out.res.lt
  clear b3
  go_wp2_with fail
  refine (HIn.out _ HR3.out.qs).mono ?_
  rintro e w4 ⟨cs, rfl, hA, hP, hBt⟩
  obtain ⟨xa, xc, ya, yc, hcs, _⟩ := hA.opens
  subst hcs
  have HRa4 := Lib.hid (HR3.out.on hP hBt)
  have HBa4 := Lib.hid hBt
  have HA4 := Lib.hid hA
  clear hA hP hBt
  go_upto_region 7 with (refine wpList_store_row rfl 25 (.tmp 4) (.tmp 20) rfl w4.heap.size (ndC t.k t.s t.n t.a (.slice xa t.kids.length xc) (.slice ya t.p.length yc)) rfl rfl 25 zeroN (heap_alloc_last _ _) HI rfl (nd_one _ _ _ _ _ _ _ _ _ _) ?_)
  obtain ⟨V4, hV4, HR4, TB4, BV4⟩ := tb_new HRa4.out (u := w3) (by have := HU.out; omega) (by have := HU.out; omega) HA4.out
  change Code.wp _ _ _ _ ((w4.alloc (Obj.cells zeroN 25)).setRow w4.heap.size (ndC t.k t.s t.n t.a (.slice xa t.kids.length xc) (.slice ya t.p.length yc)))
  rw [← hV4]
  obtain ⟨xb, hxb⟩ : ∃ xb, xb = w4.heap.size := ⟨_, rfl⟩
  rw [← hxb] at TB4 ⊢
  clear hV4 hxb HRa4 HA4
  have z3 := TB4.out.box.z 3
  obtain ⟨e0, e1, e2, e3, e4, e5⟩ := six_nd TB4.out.six
  go_upto_region 8 with (fail)
  obtain ⟨V5, hV5, HR5, TB5⟩ : ∃ V5, V5 = V4.setCell ⟨xb, 3, none⟩ (.int .i64 (T.2.2 : Nat)) ∧ Hid (RQ w V5 B X k' d w.heap.size) ∧ Hid (TB w V5 B w.heap.size (.mk t.k t.s t.n (T.2.2 : Nat) t.kids t.p) xb (ndC t.k t.s t.n (T.2.2 : Nat) (.slice xa t.kids.length xc) (.slice ya t.p.length yc))) :=
    ⟨_, rfl, Lib.hid (HR4.out.own (bt_set _ xb _ _) TB4.out.nr TB4.out.le), Lib.hid (TB4.out.cell 3 _ (fun _ _ => rfl) TB4.out.tree.moved)⟩
  rw [← hV5]
  clear hV5 z3 e0 e1 e2 e3 e4 e5
  obtain ⟨e0, e1, e2, e3, e4, e5⟩ := six_nd TB5.out.six
  go_wp2_with (refine wpList_store_row rfl 25 (.tmp 2) (.tmp 23) rfl w.heap.size (ndC t.k t.s t.n (T.2.2 : Nat) (.slice xa t.kids.length xc) (.slice ya t.p.length yc)) rfl rfl 25 zeroN HR5.out.res.row HI rfl (nd_one _ _ _ _ _ _ _ _ _ _) ?_)
  refine bodyPost_ret (v := .agg (ndC t.k t.s t.n (T.2.2 : Nat) (.slice xa t.kids.length xc) (.slice ya t.p.length yc))) (results_cell_row (by rfl) _ _ (w.heap.size) 25 _ (0, 0) _ (by rfl) (HR5.out.res.setRow _).row Tryz.underlying25 (by rfl) HI) rfl ?_
  exact TB5.out.ret HR5.out

end Go.Proofs.YtgdlpldngpoadaaGreatDoor
