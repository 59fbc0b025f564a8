/- Merged by program: SyI, SyJ, SyK. -/
import Derived.Test.YtgdlpldngpoadaaGreatDoorSaz
/- syntax.reader reads an expression, where nothing is wrong: sums, joins, assignments (gen_sy.py). -/
namespace Go.Proofs.YtgdlpldngpoadaaGreatDoor
open Go.RowKit
variable {m : Nat}

/-- A call that joins two trees to one. -/
def JOut (B : Bk) (X : Tx) (S : Nat → Prop) (n : Nd) (k : Nat) (d : Int) (w : World) (e : Ending) (w' : World) : Prop := ∃ g, e = .returned (.agg (ndC n.k n.s n.n n.a (.slice (some ⟨g, 0, none⟩) 2 2) (.slice none 0 0))) ∧ At w' (fun j => S j ∨ w.heap.size ≤ j) n (ndC n.k n.s n.n n.a (.slice (some ⟨g, 0, none⟩) 2 2) (.slice none 0 0)) ∧ QS w' B X k d ∧ Bt B.p w w'
set_option maxRecDepth 100000 in
set_option maxHeartbeats 2000000 in
theorem qpair (f : FuncId) (hE : Enters Tryz.prog f) (X : Tx) (k k' : Nat) (t u : Nd) (T : Tp) (hT : X.L[k]? = some T) (hk : k + 1 < X.L.length) (q : Int) (q8 : (q == 8) = false) (q9 : (q == 9) = false) (hin : CReads m f X (k + 1) u k') (w : World) (B : Bk) (d : Int) (b : Nat) (S : Nat → Prop) (xa : Option Addr) (xc : Nat) (ya : Option Addr) (yc : Nat)
    (h : QS w B X k d) (hb : RBox w B b) (hA : At w S t (ndC t.k t.s t.n t.a (.slice xa t.kids.length xc) (.slice ya t.p.length yc))) (hS : ¬ S B.p) (hS2 : ∀ j, S j → j < w.heap.size) (hd1 : -1 ≤ d) (hd2 : d + m ≤ 100) :
    Calls Tryz.prog 170 #[.pointer (some ⟨B.p, 0, none⟩), .int .i64 q, .agg (ndC t.k t.s t.n t.a (.slice xa t.kids.length xc) (.slice ya t.p.length yc)), .func (.func f) #[] #[.pointer (some ⟨b, 0, none⟩)]] w (JOut B X S (.mk q ⟨T.2.1.toArray⟩ 0 t.a [t, u] []) k' d w) := by
  have HI := info_nd
  obtain ⟨V, hV, HA0, HBV, HVs⟩ := nd_box w (ndC t.k t.s t.n t.a (.slice xa t.kids.length xc) (.slice ya t.p.length yc))
  obtain ⟨W, hW, HRB0, HBW, HWs⟩ := nd_box V zeroN
  have HQ := Lib.hid ((h.after HBV.out).after HBW.out)
  have HB := Lib.hid ((hb.after HBV.out).after HBW.out)
  have HAB := Lib.hid (HA0.out.after HBW.out)
  have HBt : Hid (Bt B.p w W) := Lib.hid ((Bt.of HBV.out).trans (.of HBW.out))
  have HAt := Lib.hid ((hA.after HBV.out).after HBW.out)
  have HTk := Lib.hid (fun w h => qtake w B X k d h T hT hk)
  have HIn := Lib.hid (fun w h hb => hin w B d b h hb hd1 hd2)
  have f1 := qfield1 T
  have HP : Hid (B.p < w.heap.size ∧ B.g < w.heap.size ∧ B.gc < w.heap.size ∧ B.gm < w.heap.size) := Lib.hid ⟨h.plt, h.toks.lt, h.clt, h.mlt⟩
  have HNS := Lib.hid hS
  have HSL := Lib.hid hS2
  clear h hb hA hS hS2 hd1 hd2 hin hT hk HA0
  go_enter Tryz.func170, Tryz.ntmps170
  go_upto_region 1 with (fail)
  change Code.wp _ _ _ _ ((w.alloc (.cells (ndC t.k t.s t.n t.a (.slice xa t.kids.length xc) (.slice ya t.p.length yc)) 25)).alloc (.cells zeroN 25))
  rw [← hV, ← hW]
  have hvs := HVs.out
  obtain ⟨rb, hrb⟩ : ∃ rb, rb = w.heap.size + 1 := ⟨_, rfl⟩
  rw [hvs, ← hrb] at HRB0
  rw [← hrb]
  obtain ⟨ab, hab⟩ : ∃ ab, ab = w.heap.size := ⟨_, rfl⟩
  have HNE : Hid (rb = w.heap.size + 1 ∧ ab = w.heap.size) := Lib.hid ⟨hrb, hab⟩
  rw [← hab] at HAB
  clear hV hW hvs hrb
  rw [← hab]
  clear hab
  go_wp2_with fail
  refine (HTk.out _ HQ.out).mono ?_
  rintro e w1 ⟨rfl, hP, hBt⟩
  have HQ1 := Lib.hid hP
  have HB1 := Lib.hid (HB.out.bt hBt)
  have HAB1 := Lib.hid (HAB.out.bt hBt (by have := HP.out; have := HNE.out; omega))
  have HRB1 := Lib.hid (HRB0.out.bt hBt (by have := HP.out; have := HNE.out; omega))
  have HBt1 := Lib.hid (HBt.out.trans hBt)
  have HAt1 := Lib.hid (HAt.out.btS hBt HNS.out)
  clear hP hBt
  go_upto_region 5 with (fail)
  refine wp_region_held_drew (S := fun w' => Hid (Box w' ab (ndC t.k t.s t.n t.a (.slice xa t.kids.length xc) (.slice ya t.p.length yc)))) (by kernel_rfl) (Lib.hid (HAB1.out.after (below_drew _))) (fun hS => ?_)
  obtain ⟨Z, hZ, HBZ⟩ : ∃ Z, Z = w1.drew ∧ Hid (Below w1.heap.size w1 Z) := ⟨_, rfl, Lib.hid (below_drew _)⟩
  rw [← hZ] at hS ⊢
  clear hZ
  refine takeW (i := 0) (d := 21) (v := .int .i64 q) rfl rfl (by kernel_rfl) (by kernel_rfl) (by kernel_rfl) (fun _ _ _ h => h) (by rfl) (fun w' hSw => by go_simp) (by assumption) ?_
  simp only [List.setIfInBounds_toArray, List.set_cons_zero, List.set_cons_succ]
  refine takeW (i := 1) (d := 22) (v := .string ⟨T.2.1.toArray⟩) rfl rfl (by kernel_rfl) (by kernel_rfl) (by kernel_rfl) (fun _ _ _ h => h) (by rfl) (fun w' hSw => by go_simp) (by assumption) ?_
  simp only [List.setIfInBounds_toArray, List.set_cons_zero, List.set_cons_succ]
  refine takeW (i := 2) (d := 23) (v := .pointer (some ⟨ab, 3, none⟩)) rfl rfl (by kernel_rfl) (by kernel_rfl) (by kernel_rfl) (fun _ _ _ h => h) (by rfl) (fun w' hSw => by go_simp) (by assumption) ?_
  simp only [List.setIfInBounds_toArray, List.set_cons_zero, List.set_cons_succ]
  refine takeW (i := 3) (d := 24) (v := .int .i64 t.a) rfl rfl (by kernel_rfl) (by kernel_rfl) (by kernel_rfl) (fun _ _ _ h => h) (by rfl) (fun w' hSw => by obtain ⟨e0, e1, e2, e3, e4, e5⟩ := six_nd hSw.out.six; go_simp) (by assumption) ?_
  simp only [List.setIfInBounds_toArray, List.set_cons_zero, List.set_cons_succ]
  refine takeW (i := 4) (d := 25) (v := .agg #[.int .i64 t.k, .string t.s, .int .i64 t.n, .int .i64 t.a, .slice xa t.kids.length xc, .slice ya t.p.length yc]) rfl rfl (by kernel_rfl) (by kernel_rfl) (by kernel_rfl) (fun _ _ _ h => h) (by rfl) (fun w' hSw => by obtain ⟨e0, e1, e2, e3, e4, e5⟩ := six_nd hSw.out.six; go_simp) (by assumption) ?_
  simp only [List.setIfInBounds_toArray, List.set_cons_zero, List.set_cons_succ]
  refine takeW (i := 5) (d := 26) (v := .func (.func f) #[] #[.pointer (some ⟨b, 0, none⟩)]) rfl rfl (by kernel_rfl) (by kernel_rfl) (by kernel_rfl) (fun _ _ _ h => h) (by rfl) (fun w' hSw => by go_simp) (by assumption) ?_
  simp only [List.setIfInBounds_toArray, List.set_cons_zero, List.set_cons_succ]
  refine wpAnyH_ready (rs := [6]) (by kernel_rfl) (by simp) ?_
  refine AllReadyH.cons rfl (fun K hK => ?_) AllReadyH.nil
  rw [if_pos (by rfl)]
  go_simp
  rw [hE]
  simp only [Oper.upon]
  refine (HIn.out _ (HQ1.out.after HBZ.out) (HB1.out.after HBZ.out)).mono ?_
  rintro e w2 ⟨cs, rfl, hA, hP, hBt⟩
  obtain ⟨xa2, xc2, ya2, yc2, hcs0, _⟩ := hA.opens
  have hcs : cs = #[.int .i64 u.k, .string u.s, .int .i64 u.n, .int .i64 u.a, .slice xa2 u.kids.length xc2, .slice ya2 u.p.length yc2] := hcs0
  clear hcs0
  subst hcs
  have HQ2 := Lib.hid hP
  have HAB2 := Lib.hid ((HAB1.out.after HBZ.out).bt hBt (by have := HP.out; have := HNE.out; omega))
  have HRB2 := Lib.hid ((HRB1.out.after HBZ.out).bt hBt (by have := HP.out; have := HNE.out; omega))
  have HBt2 := Lib.hid ((HBt1.out.trans (.of HBZ.out)).trans hBt)
  have HLE : Hid (rb < Z.heap.size) := Lib.hid (HRB1.out.after HBZ.out).lt
  have HAt2 : Hid (At w2 (fun j => S j ∨ w.heap.size ≤ j ∧ j ≠ rb) t (ndC t.k t.s t.n t.a (.slice xa t.kids.length xc) (.slice ya t.p.length yc))) := Lib.hid (((HAt1.out.after HBZ.out).btS hBt HNS.out).weakS (fun j hj => Or.inl hj))
  have HAu2 : Hid (At w2 (fun j => S j ∨ w.heap.size ≤ j ∧ j ≠ rb) u (ndC u.k u.s u.n u.a (.slice xa2 u.kids.length xc2) (.slice ya2 u.p.length yc2))) := Lib.hid (hA.weakS (fun j hj => by have h1 : Z.heap.size ≤ j := hj; have := HLE.out; have := HNE.out; exact Or.inr ⟨by omega, by omega⟩))
  clear hA hP hBt
  refine hK.out _ _ HAB2 (fun hS2 => ?_)
  clear hK K hS
  refine wpAnyH_ready (rs := [7]) (by kernel_rfl) (by simp) ?_
  refine AllReadyH.cons rfl (fun K hK => ?_) AllReadyH.nil
  rw [if_pos (by rfl)]
  go_simp
  obtain ⟨V3, hV3, HJ3, HB3⟩ : ∃ V3, V3 = w2.alloc (.cells #[.int .i64 t.k, .string t.s, .int .i64 t.n, .int .i64 t.a, .slice xa t.kids.length xc, .slice ya t.p.length yc, .int .i64 u.k, .string u.s, .int .i64 u.n, .int .i64 u.a, .slice xa2 u.kids.length xc2, .slice ya2 u.p.length yc2] 25) ∧ Hid (At V3 (fun j => S j ∨ w.heap.size ≤ j ∧ j ≠ rb) (.mk q ⟨T.2.1.toArray⟩ 0 t.a [t, u] []) (ndC q ⟨T.2.1.toArray⟩ 0 t.a (.slice (some ⟨w2.heap.size, 0, none⟩) 2 2) (.slice none 0 0))) ∧ Hid (Below w2.heap.size w2 V3) :=
    ⟨_, rfl, Lib.hid (pair_at q ⟨T.2.1.toArray⟩ t.a HAt2.out HAu2.out (Or.inr (by have := HRB2.out.lt; have := HNE.out; exact ⟨by omega, by omega⟩))), Lib.hid (below_new _ _)⟩
  change K _ (w2.alloc (.cells #[.int .i64 t.k, .string t.s, .int .i64 t.n, .int .i64 t.a, .slice xa t.kids.length xc, .slice ya t.p.length yc, .int .i64 u.k, .string u.s, .int .i64 u.n, .int .i64 u.a, .slice xa2 u.kids.length xc2, .slice ya2 u.p.length yc2] 25))
  rw [← hV3]
  have HAB3 := Lib.hid (HAB2.out.after HB3.out)
  have HRB3 := Lib.hid (HRB2.out.after HB3.out)
  have HQ3 := Lib.hid (HQ2.out.after HB3.out)
  have HBt3 := Lib.hid (HBt2.out.trans (.of HB3.out))
  refine hK.out _ _ HAB3 (fun hS3 => ?_)
  clear hK K hS2
  try simp only [Act.put, List.setIfInBounds_toArray, List.set_cons_zero, List.set_cons_succ]
  obtain ⟨g, hg⟩ : ∃ g, g = w2.heap.size := ⟨_, rfl⟩
  rw [← hg] at HJ3 ⊢
  clear hV3 hg
  refine takeW (i := 8) (d := 29) (v := .agg #[.int .i64 q, .string ⟨T.2.1.toArray⟩, .int .i64 0, .int .i64 t.a, .slice (some ⟨g, 0, none⟩) 2 2, .slice none 0 0]) rfl rfl (by kernel_rfl) (by kernel_rfl) (by kernel_rfl) (fun _ _ _ h => h) (by rfl) (fun w' hSw => by go_simp) (by assumption) ?_
  simp only [List.setIfInBounds_toArray, List.set_cons_zero, List.set_cons_succ]
  refine wpAnyH_ready (rs := [9]) (by kernel_rfl) (by simp) ?_
  refine AllReadyH.cons rfl (fun K hK => ?_) AllReadyH.nil
  rw [if_pos (by rfl)]
  refine wp_store_row 25 (.tmp 8) (.tmp 29) rfl rb (ndC q ⟨T.2.1.toArray⟩ 0 t.a (.slice (some ⟨g, 0, none⟩) 2 2) (.slice none 0 0)) rfl rfl 25 zeroN HRB3.out.row HI rfl (nd_one _ _ _ _ _ _ _ _ _ _) ?_
  have hbt := bt_row V3 rb (ndC q ⟨T.2.1.toArray⟩ 0 t.a (.slice (some ⟨g, 0, none⟩) 2 2) (.slice none 0 0))
  refine hK.out _ _ (Lib.hid ⟨by rw [hbt.block ab HAB3.out.lt (by have := HNE.out; omega)]; exact HAB3.out.row⟩) (fun hS4 => ?_)
  clear hK K hS3 hS4
  refine wpAnyH_done (by kernel_rfl) ?_ _
  try simp only [Act.put]
  go_wp2_with fail
  refine bodyPost_ret (v := .agg (ndC q ⟨T.2.1.toArray⟩ 0 t.a (.slice (some ⟨g, 0, none⟩) 2 2) (.slice none 0 0))) (results_cell_row (by rfl) _ _ rb 25 _ (0, 0) _ (by rfl) (HRB3.out.setRow _).row Tryz.underlying25 (by rfl) HI) rfl ?_
  have hp := HP.out
  have hne := HNE.out
  refine ⟨g, rfl, (HJ3.out.keep fun j hj hl => hbt.block j hl ?_).weakS (fun j hj => hj.imp id (fun h => h.1)), HQ3.out.other hbt (by omega) (by omega) (by omega) (by omega), ⟨hbt.os.trans HBt3.out.os, hbt.tape.trans HBt3.out.tape, hbt.output.trans HBt3.out.output, Nat.le_trans HBt3.out.size hbt.size, fun i hi hpi => (hbt.block i (Nat.lt_of_lt_of_le hi HBt3.out.size) (by omega)).trans (HBt3.out.block i hi hpi)⟩⟩
  rcases hj with hj | hj
  · intro e; have := HSL.out j hj; omega
  · exact hj.2
end Go.Proofs.YtgdlpldngpoadaaGreatDoor

/- syntax.reader reads an expression, where nothing is wrong: two operands: sums, joins; assignments (gen_sy.py). -/
namespace Go.Proofs.YtgdlpldngpoadaaGreatDoor
open Go.RowKit
variable {m : Nat}

set_option maxRecDepth 100000 in
set_option maxHeartbeats 2000000 in
theorem qleft_two (f : FuncId) (hE : Enters Tryz.prog f) (X : Tx) (k k1 k2 : Nat) (t u : Nd) (T1 T2 : Tp) (hT1 : X.L[k1]? = some T1) (hT2 : X.L[k2]? = some T2) (hk : k1 + 1 < X.L.length) (zs : List ByteArray) (n : Nat) (hn : zs.length = n) (hM : n ≤ 1000) (hy : sgB zs T1 = true) (hz : sgB zs T2 = false) (hin : CReads m f X k t k1) (hin2 : CReads m f X (k1 + 1) u k2) (q : Int) (q8 : (q == 8) = false) (q9 : (q == 9) = false)
    (w : World) (B : Bk) (d : Int) (b sb cap : Nat) (h : QS w B X k d) (hb : RBox w B b) (hsb : sb < w.heap.size) (hsp : sb ≠ B.p) (hc : ∀ j, j < zs.length → w.cell? ⟨sb, 0 + j, none⟩ = some (.string (zs.getD j ByteArray.empty))) (hd1 : -1 ≤ d) (hd2 : d + m ≤ 100) :
    Calls Tryz.prog 139 #[.pointer (some ⟨B.p, 0, none⟩), .int .i64 q, .func (.func f) #[] #[.pointer (some ⟨b, 0, none⟩)], .slice (some ⟨sb, 0, none⟩) n cap] w (QOut B X (.mk q ⟨T1.2.1.toArray⟩ 0 t.a [t, u] []) k2 d w) := by
  have HI := info_nd
  obtain ⟨W, hW, HR, HWs⟩ := rq_new w B X k d h
  have HIn := Lib.hid (fun w h hb => hin w B d b h hb hd1 hd2)
  have HPr := Lib.hid (fun w S xa xc ya yc h hb hA hS hS2 => qpair f hE X k1 k2 t u T1 hT1 hk q q8 q9 hin2 w B d b S xa xc ya yc h hb hA hS hS2 hd1 hd2)
  have HB := Lib.hid (hb.bt HR.out.bt)
  have HC := Lib.hid (fun (w1 : World) (hbt : Bt B.p w w1) => (show ∀ j, j < zs.length → w1.cell? ⟨sb, 0 + j, none⟩ = some (.string (zs.getD j ByteArray.empty)) from fun j hj => by rw [World.cell?_of_block (a := ⟨sb, 0 + j, none⟩) (hbt.block sb hsb hsp)]; exact hc j hj))
  have HYes := Lib.hid (fun (w : World) (h : QS w B X k1 d) hc => qsign w B X k1 d h T1 hT1 zs n cap sb hn hM hc)
  have HNo := Lib.hid (fun (w : World) (h : QS w B X k2 d) hc => qsign w B X k2 d h T2 hT2 zs n cap sb hn hM hc)
  simp only [hz] at HNo
  simp only [hy] at HYes
  clear h hd1 hd2 hin hin2 hb hsb hsp hc hn hM hz hy hT1 hT2 hk
  go_enter Tryz.func139, Tryz.ntmps139
  go_upto_region 1 with (fail)
  change Code.wp _ _ _ _ (w.alloc (.cells zeroN 25))
  rw [← hW]
  clear hW
  go_wp2_with fail
  rw [hE]
  simp only [Oper.upon]
  refine (HIn.out _ HR.out.qs HB.out).mono ?_
  rintro e w1 ⟨cs, rfl, hA, hP, hBt⟩
  obtain ⟨xa, xc, ya, yc, hcs, _⟩ := hA.opens
  subst hcs
  have HRa1 := Lib.hid (HR.out.on hP hBt)
  have HBa1 := Lib.hid hBt
  have HA1 := Lib.hid hA
  clear hA hP hBt
  go_upto_region 2 with (refine wpList_store_row rfl 25 (.tmp 9) (.tmp 11) rfl w1.heap.size (ndC t.k t.s t.n t.a (.slice xa t.kids.length xc) (.slice ya t.p.length yc)) rfl rfl 25 zeroN (heap_alloc_last _ _) HI rfl (nd_one _ _ _ _ _ _ _ _ _ _) ?_)
  obtain ⟨V1, hV1, HR1, TB1, BV1⟩ := tb_new HRa1.out (u := W) (by have := HWs.out; omega) (by have := HWs.out; omega) HA1.out
  change Code.wp _ _ _ _ ((w1.alloc (Obj.cells zeroN 25)).setRow w1.heap.size (ndC t.k t.s t.n t.a (.slice xa t.kids.length xc) (.slice ya t.p.length yc)))
  rw [← hV1]
  obtain ⟨xb, hxb⟩ : ∃ xb, xb = w1.heap.size := ⟨_, rfl⟩
  rw [← hxb] at TB1 ⊢
  have HB1 := Lib.hid ((HB.out.bt HBa1.out).after BV1.out)
  have HXB : Hid (xb < V1.heap.size) := Lib.hid TB1.out.box.lt
  have HXW : Hid (W.heap.size ≤ xb) := Lib.hid (by rw [hxb]; exact HBa1.out.size)
  clear hV1 hxb HRa1 HA1
  go_wp2_with fail
  refine wp_loop_rounds 2 ?_
  rw [rounds_succ]
  go_wp2_with fail
  refine (HYes.out _ HR1.out.qs (HC.out _ HR1.out.bt)).mono ?_
  rintro e w2 ⟨rfl, b2⟩
  have HR2 := Lib.hid (HR1.out.after b2)
  have TB2 := Lib.hid (TB1.out.after b2)
  have HB2 := Lib.hid (HB1.out.after b2)
  have HLE2 := Lib.hid b2.size
  clear b2
  obtain ⟨e0, e1, e2, e3, e4, e5⟩ := six_nd TB2.out.six
  go_wp2_with fail
  refine (HPr.out _ _ xa xc ya yc HR2.out.qs HB2.out TB2.out.tree.inWorld (fun e => by have := HR.out.p4; have := e.1.1; omega) (fun j hj => hj.2)).mono ?_
  rintro e w3 ⟨g, rfl, hA, hP, hBt⟩
  have HR3 := Lib.hid (HR2.out.on hP hBt)
  have TB3 := Lib.hid ((TB2.out.on hBt))
  have HA3 : Hid (At w3 (fun j => w.heap.size ≤ j ∧ j ≠ w.heap.size ∧ j ≠ xb) (.mk q ⟨T1.2.1.toArray⟩ 0 t.a [t, u] []) (ndC q ⟨T1.2.1.toArray⟩ 0 t.a (.slice (some ⟨g, 0, none⟩) 2 2) (.slice none 0 0))) := Lib.hid (hA.weakS (fun j hj => by
    rcases hj with hj | hj
    · exact hj.1
    · have h1 := HLE2.out; have h2 := HXB.out; have h3 := HXW.out; have h4 := HWs.out; exact ⟨by omega, by omega, by omega⟩))
  clear hA hP hBt e0 e1 e2 e3 e4 e5
  go_wp2_with (refine wpList_store_row rfl 25 (.tmp 9) (.tmp 19) rfl xb (ndC q ⟨T1.2.1.toArray⟩ 0 t.a (.slice (some ⟨g, 0, none⟩) 2 2) (.slice none 0 0)) rfl rfl 25 _ TB3.out.box.row HI rfl (nd_one _ _ _ _ _ _ _ _ _ _) ?_)
  obtain ⟨V4, hV4, HR4, TB4⟩ : ∃ V4, V4 = w3.setRow xb (ndC q ⟨T1.2.1.toArray⟩ 0 t.a (.slice (some ⟨g, 0, none⟩) 2 2) (.slice none 0 0)) ∧ Hid (RQ w V4 B X k2 d w.heap.size) ∧ Hid (TB w V4 B w.heap.size (.mk q ⟨T1.2.1.toArray⟩ 0 t.a [t, u] []) xb (ndC q ⟨T1.2.1.toArray⟩ 0 t.a (.slice (some ⟨g, 0, none⟩) 2 2) (.slice none 0 0))) := ⟨_, rfl, Lib.hid (HR3.out.own (bt_row _ _ _) TB3.out.nr TB3.out.le), Lib.hid (TB3.out.put HA3.out)⟩
  rw [← hV4]
  clear hV4 HA3
  rw [rounds_succ]
  go_wp2_with fail
  refine (HNo.out _ HR4.out.qs (HC.out _ HR4.out.bt)).mono ?_
  rintro e w5 ⟨rfl, b5⟩
  have HR5 := Lib.hid (HR4.out.after b5)
  have TB5 := Lib.hid (TB4.out.after b5)
  clear b5
  obtain ⟨e0, e1, e2, e3, e4, e5⟩ := six_nd TB5.out.six
  go_wp2_with (refine wpList_store_row rfl 25 (.tmp 8) (.tmp 20) rfl w.heap.size (ndC q ⟨T1.2.1.toArray⟩ 0 t.a (.slice (some ⟨g, 0, none⟩) 2 2) (.slice none 0 0)) rfl rfl 25 zeroN HR5.out.res.row HI rfl (nd_one _ _ _ _ _ _ _ _ _ _) ?_)
  refine bodyPost_ret (v := .agg (ndC q ⟨T1.2.1.toArray⟩ 0 t.a (.slice (some ⟨g, 0, none⟩) 2 2) (.slice none 0 0))) (results_cell_row (by rfl) _ _ (w.heap.size) 25 _ (0, 0) _ (by rfl) (HR5.out.res.setRow _).row Tryz.underlying25 (by rfl) HI) rfl ?_
  exact TB5.out.ret HR5.out

end Go.Proofs.YtgdlpldngpoadaaGreatDoor

/- syntax.reader reads an expression, where nothing is wrong: sums, joins, assignments (gen_sy.py). -/
namespace Go.Proofs.YtgdlpldngpoadaaGreatDoor
open Go.RowKit
variable {m : Nat}

set_option maxRecDepth 100000 in
set_option maxHeartbeats 1000000 in
theorem qsum_two (X : Tx) (k k1 k2 : Nat) (t u : Nd) (T1 T2 : Tp) (hT1 : X.L[k1]? = some T1) (hT2 : X.L[k2]? = some T2) (hk : k1 + 1 < X.L.length) (hy : sgB [⟨#[43]⟩, ⟨#[45]⟩] T1 = true) (hz : sgB [⟨#[43]⟩, ⟨#[45]⟩] T2 = false) (hin : QReads m 218 X k t k1) (hin2 : QReads m 218 X (k1 + 1) u k2) : QReads m 215 X k (.mk 14 ⟨T1.2.1.toArray⟩ 0 t.a [t, u] []) k2 := by
  intro w B d h hd1 hd2
  have HI := info_nd
  have hmf := hmf
  obtain ⟨W, hW, HR, HB, HWs⟩ := rq_box w B X k d h
  have c0 := HB.out.c
  have HL : Hid (Calls Tryz.prog 139 #[.pointer (some ⟨B.p, 0, none⟩), .int .i64 14, .func (.func 217) #[] #[.pointer (some ⟨w.heap.size, 0, none⟩)], .slice (some ⟨W.heap.size, 0, none⟩) 2 2] (W.alloc (.cells #[.string ⟨#[43]⟩, .string ⟨#[45]⟩] 9)) (QOut B X (.mk 14 ⟨T1.2.1.toArray⟩ 0 t.a [t, u] []) k2 d (W.alloc (.cells #[.string ⟨#[43]⟩, .string ⟨#[45]⟩] 9)))) := Lib.hid (by
    refine qleft_two _ (enters_of Tryz.func217 (by kernel_rfl) rfl) X k k1 k2 t u T1 T2 hT1 hT2 hk [⟨#[43]⟩, ⟨#[45]⟩] 2 rfl (by decide) hy hz (csum1_pass X k k1 t hin) (csum1_pass X (k1 + 1) k2 u hin2) 14 rfl rfl _ B d w.heap.size W.heap.size 2 (HR.out.qs.after (below_new _ _)) (HB.out.after (below_new _ _)) (by rw [World.size_alloc]; omega) (by have := HR.out.p4; have := HWs.out; omega) (fun j hj => ?_) hd1 hd2
    rw [Nat.zero_add, cell_of_row _ _ j _ _ (0, 0) (heap_alloc_last W _)]
    match j, hj with
    | 0, _ => rfl
    | 1, _ => rfl)
  clear h hd1 hd2 hin hin2 hz hy hT1 hT2 hk
  go_enter Tryz.func215, Tryz.ntmps215
  go_upto_region 1 with (fail)
  change Code.wp _ _ _ _ ((w.alloc (.cells #[.pointer (some ⟨B.p, 0, none⟩)] 60)).alloc (.cells zeroN 25))
  rw [← hW]
  clear hW
  go_wp2_with fail
  refine HL.out.mono ?_
  rintro e w1 ⟨cs, rfl, hA, hP, hBt⟩
  obtain ⟨xa, xc, ya, yc, hcs, _⟩ := hA.opens
  have hcs2 : cs = (ndC 14 ⟨T1.2.1.toArray⟩ 0 t.a (.slice xa 2 xc) (.slice ya 0 yc)) := hcs
  clear hcs
  subst hcs2
  have HR1 := Lib.hid ((HR.out.after (below_new W _)).on hP hBt)
  have HA := Lib.hid hA
  clear hA hP hBt c0
  go_wp2_with (refine wpList_store_row rfl 25 (.tmp 2) (.tmp 6) rfl (w.heap.size + 1) (ndC 14 ⟨T1.2.1.toArray⟩ 0 t.a (.slice xa 2 xc) (.slice ya 0 yc)) rfl rfl 25 zeroN HR1.out.res.row HI rfl (nd_one _ _ _ _ _ _ _ _ _ _) ?_)
  refine bodyPost_ret (v := .agg (ndC 14 ⟨T1.2.1.toArray⟩ 0 t.a (.slice xa 2 xc) (.slice ya 0 yc))) (results_cell_row (by rfl) _ _ (w.heap.size + 1) 25 _ (0, 0) _ (by rfl) (HR1.out.res.setRow _).row Tryz.underlying25 (by rfl) HI) rfl ?_
  exact HR1.out.ret HA.out (fun j hj => by have h1 := hj; unfold Up at h1; rw [World.size_alloc] at h1; have h2 := HWs.out; exact ⟨by omega, by omega⟩)

set_option maxRecDepth 100000 in
set_option maxHeartbeats 2000000 in
theorem qassign (X : Tx) (k k1 k2 : Nat) (t u : Nd) (T1 T2 : Tp) (hT1 : X.L[k1]? = some T1) (hT2 : X.L[k1 + 1]? = some T2) (hk : k1 + 1 < X.L.length) (h1 : T1.2.1 = [61]) (h2 : (T2.1 == 1) = false) (hin : QReads m 115 X k t k1) (hin2 : QReads m 38 X (k1 + 1) u k2) : QReads m 82 X k (.mk 6 ⟨#[61]⟩ 0 t.a [t, u] []) k2 := by
  intro w B d h hd1 hd2
  have HI := info_nd
  obtain ⟨W, hW, HR, HWs⟩ := rq_new w B X k d h
  have HD := Lib.hid (And.intro hd1 hd2)
  have HIn := Lib.hid (fun w h => hin w B d h hd1 hd2)
  have HIn2 := Lib.hid (fun w h => hin2 w B d h hd1 hd2)
  have HTk := Lib.hid (fun w (h : QS w B X k1 d) => qtake w B X k1 d h T1 hT1 hk)
  have HLi := Lib.hid (fun w (h : QS w B X (k1 + 1) d) => qlines w B X (k1 + 1) d h T2 hT2 h2)
  have f1 := qfield1 T1
  rw [h1] at f1
  clear h hd1 hd2 hin hin2 hT1 hT2 hk h1 h2
  go_enter Tryz.func82, Tryz.ntmps82
  go_upto_region 1 with (fail)
  change Code.wp _ _ _ _ (w.alloc (.cells zeroN 25))
  rw [← hW]
  clear hW
  have HU : Hid (w.heap.size < W.heap.size) := Lib.hid HR.out.res.lt
  go_wp2_with fail
  refine (HIn.out _ HR.out.qs).mono ?_
  rintro e w1 ⟨cs, rfl, hA, hP, hBt⟩
  obtain ⟨xa, xc, ya, yc, hcs, _⟩ := hA.opens
  subst hcs
  have HRa1 := Lib.hid (HR.out.on hP hBt)
  have HBa1 := Lib.hid hBt
  have HA1 := Lib.hid hA
  clear hA hP hBt
  go_upto_region 2 with (refine wpList_store_row rfl 25 (.tmp 3) (.tmp 6) rfl w1.heap.size (ndC t.k t.s t.n t.a (.slice xa t.kids.length xc) (.slice ya t.p.length yc)) rfl rfl 25 zeroN (heap_alloc_last _ _) HI rfl (nd_one _ _ _ _ _ _ _ _ _ _) ?_)
  obtain ⟨V1, hV1, HR1, TB1, BV1⟩ := tb_new HRa1.out (u := W) (by have := HU.out; omega) (by have := HU.out; omega) HA1.out
  change Code.wp _ _ _ _ ((w1.alloc (Obj.cells zeroN 25)).setRow w1.heap.size (ndC t.k t.s t.n t.a (.slice xa t.kids.length xc) (.slice ya t.p.length yc)))
  rw [← hV1]
  obtain ⟨xb, hxb⟩ : ∃ xb, xb = w1.heap.size := ⟨_, rfl⟩
  rw [← hxb] at TB1 ⊢
  clear hV1 hxb HRa1 HA1
  go_wp2_with fail
  refine (HTk.out _ HR1.out.qs).mono ?_
  rintro e w2 ⟨rfl, hP, hBt⟩
  have HR2 := Lib.hid (HR1.out.on hP hBt)
  have TB2 := Lib.hid (TB1.out.on hBt)
  clear hP hBt
  go_wp2_with fail
  refine (HLi.out _ HR2.out.qs).mono ?_
  rintro e w3 ⟨rfl, b3⟩
  have HR3 := Lib.hid (HR2.out.after b3)
  have TB3 := Lib.hid (TB2.out.after b3)
  clear b3
  go_upto_region 6 with (fail)
  refine wp_region_held_drew (S := fun w' => Hid (Box w' xb (ndC t.k t.s t.n t.a (.slice xa t.kids.length xc) (.slice ya t.p.length yc)))) (by kernel_rfl) (Lib.hid (TB3.out.box.after (below_drew _))) (fun hS => ?_)
  obtain ⟨Z, hZ, HBZ⟩ : ∃ Z, Z = w3.drew ∧ Hid (Below w3.heap.size w3 Z) := ⟨_, rfl, Lib.hid (below_drew _)⟩
  rw [← hZ] at hS ⊢
  clear hZ
  have HRZ := Lib.hid (HR3.out.after HBZ.out)
  have TBZ := Lib.hid (TB3.out.after HBZ.out)
  have HLZ : Hid (xb < Z.heap.size ∧ w.heap.size < Z.heap.size) := Lib.hid ⟨TBZ.out.box.lt, HRZ.out.res.lt⟩
  refine takeW (i := 0) (d := 16) (v := .string ⟨#[61]⟩) rfl rfl (by kernel_rfl) (by kernel_rfl) (by kernel_rfl) (fun _ _ _ h => h) (by rfl) (fun w' hSw => by go_simp) (by assumption) ?_
  simp only [List.setIfInBounds_toArray, List.set_cons_zero, List.set_cons_succ]
  refine takeW (i := 1) (d := 17) (v := .pointer (some ⟨xb, 3, none⟩)) rfl rfl (by kernel_rfl) (by kernel_rfl) (by kernel_rfl) (fun _ _ _ h => h) (by rfl) (fun w' hSw => by go_simp) (by assumption) ?_
  simp only [List.setIfInBounds_toArray, List.set_cons_zero, List.set_cons_succ]
  refine takeW (i := 2) (d := 18) (v := .int .i64 t.a) rfl rfl (by kernel_rfl) (by kernel_rfl) (by kernel_rfl) (fun _ _ _ h => h) (by rfl) (fun w' hSw => by obtain ⟨e0, e1, e2, e3, e4, e5⟩ := six_nd hSw.out.six; go_simp) (by assumption) ?_
  simp only [List.setIfInBounds_toArray, List.set_cons_zero, List.set_cons_succ]
  refine takeW (i := 3) (d := 19) (v := .agg #[.int .i64 t.k, .string t.s, .int .i64 t.n, .int .i64 t.a, .slice xa t.kids.length xc, .slice ya t.p.length yc]) rfl rfl (by kernel_rfl) (by kernel_rfl) (by kernel_rfl) (fun _ _ _ h => h) (by rfl) (fun w' hSw => by obtain ⟨e0, e1, e2, e3, e4, e5⟩ := six_nd hSw.out.six; go_simp) (by assumption) ?_
  simp only [List.setIfInBounds_toArray, List.set_cons_zero, List.set_cons_succ]
  refine takeW (i := 4) (d := 20) (v := .pointer (some ⟨B.p, 0, none⟩)) rfl rfl (by kernel_rfl) (by kernel_rfl) (by kernel_rfl) (fun _ _ _ h => h) (by rfl) (fun w' hSw => by go_simp) (by assumption) ?_
  simp only [List.setIfInBounds_toArray, List.set_cons_zero, List.set_cons_succ]
  refine wpAnyH_ready (rs := [5]) (by kernel_rfl) (by simp) ?_
  refine AllReadyH.cons rfl (fun K hK => ?_) AllReadyH.nil
  rw [if_pos (by rfl)]
  go_simp
  refine (HIn2.out _ HRZ.out.qs).mono ?_
  rintro e w4 ⟨cs, rfl, hA, hP, hBt⟩
  obtain ⟨xa2, xc2, ya2, yc2, hcs0, _⟩ := hA.opens
  have hcs : cs = #[.int .i64 u.k, .string u.s, .int .i64 u.n, .int .i64 u.a, .slice xa2 u.kids.length xc2, .slice ya2 u.p.length yc2] := hcs0
  clear hcs0
  subst hcs
  have HR4 := Lib.hid (HRZ.out.on hP hBt)
  have TB4 := Lib.hid (TBZ.out.on hBt)
  have HAu : Hid (At w4 (fun j => w.heap.size ≤ j ∧ j ≠ w.heap.size ∧ j ≠ xb) u (ndC u.k u.s u.n u.a (.slice xa2 u.kids.length xc2) (.slice ya2 u.p.length yc2))) := Lib.hid (hA.weakS (fun j hj => by have h1 : Z.heap.size ≤ j := hj; have := HLZ.out; exact ⟨by omega, by omega, by omega⟩))
  clear hA hP hBt
  go_wp2_with fail
  refine hK.out _ _ (Lib.hid TB4.out.box) (fun hS2 => ?_)
  clear hK K hS
  refine wpAnyH_ready (rs := [6]) (by kernel_rfl) (by simp) ?_
  refine AllReadyH.cons rfl (fun K hK => ?_) AllReadyH.nil
  rw [if_pos (by rfl)]
  go_simp
  obtain ⟨V5, hV5, HJ5, HB5⟩ : ∃ V5, V5 = w4.alloc (.cells #[.int .i64 t.k, .string t.s, .int .i64 t.n, .int .i64 t.a, .slice xa t.kids.length xc, .slice ya t.p.length yc, .int .i64 u.k, .string u.s, .int .i64 u.n, .int .i64 u.a, .slice xa2 u.kids.length xc2, .slice ya2 u.p.length yc2] 25) ∧ Hid (At V5 (fun j => w.heap.size ≤ j ∧ j ≠ w.heap.size ∧ j ≠ xb) (.mk 6 ⟨#[61]⟩ 0 t.a [t, u] []) (ndC 6 ⟨#[61]⟩ 0 t.a (.slice (some ⟨w4.heap.size, 0, none⟩) 2 2) (.slice none 0 0))) ∧ Hid (Below w4.heap.size w4 V5) :=
    ⟨_, rfl, Lib.hid (pair_at 6 ⟨#[61]⟩ t.a TB4.out.tree HAu.out (by have := TB4.out.box.lt; have := HR4.out.res.lt; exact ⟨by omega, by omega, by omega⟩)), Lib.hid (below_new _ _)⟩
  change K _ (w4.alloc (.cells #[.int .i64 t.k, .string t.s, .int .i64 t.n, .int .i64 t.a, .slice xa t.kids.length xc, .slice ya t.p.length yc, .int .i64 u.k, .string u.s, .int .i64 u.n, .int .i64 u.a, .slice xa2 u.kids.length xc2, .slice ya2 u.p.length yc2] 25))
  rw [← hV5]
  have HR5 := Lib.hid (HR4.out.after HB5.out)
  have TB5 := Lib.hid (TB4.out.after HB5.out)
  refine hK.out _ _ (Lib.hid TB5.out.box) (fun hS3 => ?_)
  clear hK K hS2
  try simp only [Act.put, List.setIfInBounds_toArray, List.set_cons_zero, List.set_cons_succ]
  obtain ⟨g, hg⟩ : ∃ g, g = w4.heap.size := ⟨_, rfl⟩
  rw [← hg] at HJ5 ⊢
  clear hV5 hg
  refine takeW (i := 7) (d := 23) (v := .agg #[.int .i64 6, .string ⟨#[61]⟩, .int .i64 0, .int .i64 t.a, .slice (some ⟨g, 0, none⟩) 2 2, .slice none 0 0]) rfl rfl (by kernel_rfl) (by kernel_rfl) (by kernel_rfl) (fun _ _ _ h => h) (by rfl) (fun w' hSw => by go_simp) (by assumption) ?_
  simp only [List.setIfInBounds_toArray, List.set_cons_zero, List.set_cons_succ]
  refine wpAnyH_ready (rs := [8]) (by kernel_rfl) (by simp) ?_
  refine AllReadyH.cons rfl (fun K hK => ?_) AllReadyH.nil
  rw [if_pos (by rfl)]
  refine wp_store_row 25 (.tmp 2) (.tmp 23) rfl w.heap.size (ndC 6 ⟨#[61]⟩ 0 t.a (.slice (some ⟨g, 0, none⟩) 2 2) (.slice none 0 0)) rfl rfl 25 zeroN HR5.out.res.row HI rfl (nd_one _ _ _ _ _ _ _ _ _ _) ?_
  have hbt := bt_row V5 w.heap.size (ndC 6 ⟨#[61]⟩ 0 t.a (.slice (some ⟨g, 0, none⟩) 2 2) (.slice none 0 0))
  refine hK.out _ _ (Lib.hid ⟨by rw [hbt.block xb TB5.out.box.lt (by have := TB5.out.nr; omega)]; exact TB5.out.box.row⟩) (fun hS4 => ?_)
  clear hK K hS3 hS4
  refine wpAnyH_done (by kernel_rfl) ?_ _
  try simp only [Act.put]
  go_wp2_with fail
  refine bodyPost_ret (v := .agg (ndC 6 ⟨#[61]⟩ 0 t.a (.slice (some ⟨g, 0, none⟩) 2 2) (.slice none 0 0))) (results_cell_row (by rfl) _ _ w.heap.size 25 _ (0, 0) _ (by rfl) (HR5.out.res.setRow _).row Tryz.underlying25 (by rfl) HI) rfl ?_
  exact HR5.out.ret HJ5.out (fun j hj => ⟨hj.1, hj.2.1⟩)
end Go.Proofs.YtgdlpldngpoadaaGreatDoor
