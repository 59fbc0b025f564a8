/- Merged by program: SyL. -/
import Derived.Test.YtgdlpldngpoadaaGreatDoorSba
/- syntax.reader reads an expression, where nothing is wrong: two operands joined (gen_sy.py). -/
namespace Go.Proofs.YtgdlpldngpoadaaGreatDoor
open Go.RowKit
variable {m : Nat}

set_option maxRecDepth 100000 in
set_option maxHeartbeats 4000000 in
theorem qcat_two (X : Tx) (k k1 k2 : Nat) (t u : Nd) (hy : ∀ w B d, QS w B X k1 d → Calls Tryz.prog 110 #[.pointer (some ⟨B.p, 0, none⟩)] w fun e w' => e = .returned (.bool true) ∧ Below w.heap.size w w') (hn : ∀ w B d, QS w B X k2 d → Calls Tryz.prog 110 #[.pointer (some ⟨B.p, 0, none⟩)] w fun e w' => e = .returned (.bool false) ∧ Below w.heap.size w w') (hin : QReads m 215 X k t k1) (hin2 : QReads m 215 X k1 u k2) : QReads m 211 X k (.mk 13 ⟨#[]⟩ 0 t.a [t, u] []) k2 := by
  intro w B d h hd1 hd2
  have HI := info_nd
  obtain ⟨W, hW, HR, HWs⟩ := rq_new w B X k d h
  have HD := Lib.hid (And.intro hd1 hd2)
  have HIn := Lib.hid (fun w h => hin w B d h hd1 hd2)
  have HIn2 := Lib.hid (fun w h => hin2 w B d h hd1 hd2)
  have HYes := Lib.hid (fun w h => hy w B d h)
  have HNo := Lib.hid (fun w h => hn w B d h)
  clear h hd1 hd2 hin hin2 hy hn
  go_enter Tryz.func211, Tryz.ntmps211
  go_upto_region 1 with (fail)
  change Code.wp _ _ _ _ (w.alloc (.cells zeroN 25))
  rw [← hW]
  clear hW
  have HU : Hid (w.heap.size < W.heap.size) := Lib.hid HR.out.res.lt
  go_wp2_with fail
  refine (HIn.out _ HR.out.qs).mono ?_
  rintro e w1 ⟨cs, rfl, hA, hP, hBt⟩
  obtain ⟨xa, xc, ya, yc, hcs, _⟩ := hA.opens
  subst hcs
  have HRa1 := Lib.hid (HR.out.on hP hBt)
  have HBa1 := Lib.hid hBt
  have HA1 := Lib.hid hA
  clear hA hP hBt
  go_upto_region 2 with (refine wpList_store_row rfl 25 (.tmp 3) (.tmp 5) rfl w1.heap.size (ndC t.k t.s t.n t.a (.slice xa t.kids.length xc) (.slice ya t.p.length yc)) rfl rfl 25 zeroN (heap_alloc_last _ _) HI rfl (nd_one _ _ _ _ _ _ _ _ _ _) ?_)
  obtain ⟨V1, hV1, HR1, TB1, BV1⟩ := tb_new HRa1.out (u := W) (by have := HU.out; omega) (by have := HU.out; omega) HA1.out
  change Code.wp _ _ _ _ ((w1.alloc (Obj.cells zeroN 25)).setRow w1.heap.size (ndC t.k t.s t.n t.a (.slice xa t.kids.length xc) (.slice ya t.p.length yc)))
  rw [← hV1]
  obtain ⟨xb, hxb⟩ : ∃ xb, xb = w1.heap.size := ⟨_, rfl⟩
  rw [← hxb] at TB1 ⊢
  clear hV1 hxb HRa1 HA1
  go_wp2_with fail
  refine wp_loop_rounds 2 ?_
  rw [rounds_succ]
  go_wp2_with fail
  refine (HYes.out _ HR1.out.qs).mono ?_
  rintro e w2 ⟨rfl, b2⟩
  have HR2 := Lib.hid (HR1.out.after b2)
  have TB2 := Lib.hid (TB1.out.after b2)
  clear b2
  go_upto_region 3 with (fail)
  refine wp_region_held_drew (S := fun w' => Hid (w'.cell? ⟨xb, 3, none⟩ = some (.int .i64 t.a))) (by kernel_rfl) (Lib.hid (six_nd (TB2.out.after (below_drew _)).six).2.2.2.1) (fun hS => ?_)
  obtain ⟨Z, hZ, HBZ⟩ : ∃ Z, Z = w2.drew ∧ Hid (Below w2.heap.size w2 Z) := ⟨_, rfl, Lib.hid (below_drew _)⟩
  rw [← hZ] at hS ⊢
  clear hZ
  have HRZ := Lib.hid (HR2.out.after HBZ.out)
  have TBZ := Lib.hid (TB2.out.after HBZ.out)
  have HLZ : Hid (xb < Z.heap.size ∧ w.heap.size < Z.heap.size) := Lib.hid ⟨TBZ.out.box.lt, HRZ.out.res.lt⟩
  obtain ⟨e0, e1, e2, e3, e4, e5⟩ := six_nd TBZ.out.six
  refine takeW (i := 0) (d := 8) (v := .pointer (some ⟨xb, 3, none⟩)) rfl rfl (by kernel_rfl) (by kernel_rfl) (by kernel_rfl) (fun _ _ _ h => h) (by rfl) (fun w' hSw => by have hSw := hSw.out; go_simp) (by assumption) ?_
  simp only [List.setIfInBounds_toArray, List.set_cons_zero, List.set_cons_succ]
  refine takeW (i := 1) (d := 9) (v := .int .i64 t.a) rfl rfl (by kernel_rfl) (by kernel_rfl) (by kernel_rfl) (fun _ _ _ h => h) (by rfl) (fun w' hSw => by have hSw := hSw.out; go_simp) (by assumption) ?_
  simp only [List.setIfInBounds_toArray, List.set_cons_zero, List.set_cons_succ]
  refine takeW (i := 3) (d := 11) (v := .pointer (some ⟨B.p, 0, none⟩)) rfl rfl (by kernel_rfl) (by kernel_rfl) (by kernel_rfl) (fun _ _ _ h => h) (by rfl) (fun w' hSw => by have hSw := hSw.out; go_simp) (by assumption) ?_
  simp only [List.setIfInBounds_toArray, List.set_cons_zero, List.set_cons_succ]
  refine wpAnyH_ready (rs := [2, 4]) (by kernel_rfl) (by simp) ?_
  refine AllReadyH.cons rfl (fun K hK => ?_) ?_
  · rw [if_pos (by rfl)]
    go_simp
    refine hK.out _ _ (Lib.hid e3) (fun hSb2 => ?_)
    clear hK K
    try simp only [Act.put, List.setIfInBounds_toArray, List.set_cons_zero, List.set_cons_succ]
    refine wpAnyH_ready (rs := [4]) (by kernel_rfl) (by simp) ?_
    refine AllReadyH.cons rfl (fun K hK => ?_) AllReadyH.nil
    rw [if_pos (by rfl)]
    go_simp
    refine (HIn2.out _ HRZ.out.qs).mono ?_
    rintro e w4 ⟨cs, rfl, hA, hP, hBt⟩
    obtain ⟨xa2, xc2, ya2, yc2, hcs0, _⟩ := hA.opens
    have hcs : cs = #[.int .i64 u.k, .string u.s, .int .i64 u.n, .int .i64 u.a, .slice xa2 u.kids.length xc2, .slice ya2 u.p.length yc2] := hcs0
    clear hcs0
    subst hcs
    have HR4 := Lib.hid (HRZ.out.on hP hBt)
    have TB4 := Lib.hid (TBZ.out.on hBt)
    have HAu : Hid (At w4 (fun j => w.heap.size ≤ j ∧ j ≠ w.heap.size ∧ j ≠ xb) u (ndC u.k u.s u.n u.a (.slice xa2 u.kids.length xc2) (.slice ya2 u.p.length yc2))) := Lib.hid (hA.weakS (fun j hj => by have h1 : Z.heap.size ≤ j := hj; have := HLZ.out; exact ⟨by omega, by omega, by omega⟩))
    clear hA hP hBt e0 e1 e2 e3 e4 e5
    obtain ⟨e0, e1, e2, e3, e4, e5⟩ := six_nd TB4.out.six
    go_wp2_with fail
    refine hK.out _ _ (Lib.hid e3) (fun hSc => ?_)
    clear hK K
    try simp only [Act.put, List.setIfInBounds_toArray, List.set_cons_zero, List.set_cons_succ]
    refine wpAnyH_ready (rs := [5]) (by kernel_rfl) (by simp) ?_
    refine AllReadyH.cons rfl (fun K hK => ?_) AllReadyH.nil
    rw [if_pos (by rfl)]
    go_simp
    obtain ⟨V5, hV5, HJ5, HB5⟩ : ∃ V5, V5 = w4.alloc (.cells #[.int .i64 t.k, .string t.s, .int .i64 t.n, .int .i64 t.a, .slice xa t.kids.length xc, .slice ya t.p.length yc, .int .i64 u.k, .string u.s, .int .i64 u.n, .int .i64 u.a, .slice xa2 u.kids.length xc2, .slice ya2 u.p.length yc2] 25) ∧ Hid (At V5 (fun j => w.heap.size ≤ j ∧ j ≠ w.heap.size ∧ j ≠ xb) (.mk 13 ⟨#[]⟩ 0 t.a [t, u] []) (ndC 13 ⟨#[]⟩ 0 t.a (.slice (some ⟨w4.heap.size, 0, none⟩) 2 2) (.slice none 0 0))) ∧ Hid (Below w4.heap.size w4 V5) :=
      ⟨_, rfl, Lib.hid (pair_at 13 ⟨#[]⟩ t.a TB4.out.tree HAu.out (by have := TB4.out.box.lt; have := HR4.out.res.lt; exact ⟨by omega, by omega, by omega⟩)), Lib.hid (below_new _ _)⟩
    change K _ (w4.alloc (.cells #[.int .i64 t.k, .string t.s, .int .i64 t.n, .int .i64 t.a, .slice xa t.kids.length xc, .slice ya t.p.length yc, .int .i64 u.k, .string u.s, .int .i64 u.n, .int .i64 u.a, .slice xa2 u.kids.length xc2, .slice ya2 u.p.length yc2] 25))
    rw [← hV5]
    have HR5 := Lib.hid (HR4.out.after HB5.out)
    have TB5 := Lib.hid (TB4.out.after HB5.out)
    refine hK.out _ _ (Lib.hid (six_nd TB5.out.six).2.2.2.1) (fun hS5 => ?_)
    clear hK K
    try simp only [Act.put, List.setIfInBounds_toArray, List.set_cons_zero, List.set_cons_succ]
    obtain ⟨g, hg⟩ : ∃ g, g = w4.heap.size := ⟨_, rfl⟩
    rw [← hg] at HJ5 ⊢
    clear hV5 hg
    refine takeW (i := 6) (d := 14) (v := .agg #[.int .i64 13, .string ⟨#[]⟩, .int .i64 0, .int .i64 t.a, .slice (some ⟨g, 0, none⟩) 2 2, .slice none 0 0]) rfl rfl (by kernel_rfl) (by kernel_rfl) (by kernel_rfl) (fun _ _ _ h => h) (by rfl) (fun w' hSw => by have hSw := hSw.out; go_simp) (by assumption) ?_
    simp only [List.setIfInBounds_toArray, List.set_cons_zero, List.set_cons_succ]
    refine wpAnyH_ready (rs := [7]) (by kernel_rfl) (by simp) ?_
    refine AllReadyH.cons rfl (fun K hK => ?_) AllReadyH.nil
    rw [if_pos (by rfl)]
    refine wp_store_row 25 (.tmp 3) (.tmp 14) rfl xb (ndC 13 ⟨#[]⟩ 0 t.a (.slice (some ⟨g, 0, none⟩) 2 2) (.slice none 0 0)) rfl rfl 25 _ TB5.out.box.row HI rfl (nd_one _ _ _ _ _ _ _ _ _ _) ?_
    refine hK.out _ _ (Lib.hid (six_nd (TB5.out.put HJ5.out).six).2.2.2.1) (fun hS6 => ?_)
    clear hK K
    refine wpAnyH_done (by kernel_rfl) ?_ _
    try simp only [Act.put]
    obtain ⟨V6, hV6, HR6, TB6⟩ : ∃ V6, V6 = V5.setRow xb (ndC 13 ⟨#[]⟩ 0 t.a (.slice (some ⟨g, 0, none⟩) 2 2) (.slice none 0 0)) ∧ Hid (RQ w V6 B X k2 d w.heap.size) ∧ Hid (TB w V6 B w.heap.size (.mk 13 ⟨#[]⟩ 0 t.a [t, u] []) xb (ndC 13 ⟨#[]⟩ 0 t.a (.slice (some ⟨g, 0, none⟩) 2 2) (.slice none 0 0))) := ⟨_, rfl, Lib.hid (HR5.out.own (bt_row _ _ _) TB5.out.nr TB5.out.le), Lib.hid (TB5.out.put HJ5.out)⟩
    rw [← hV6]
    clear hV6 HJ5 e0 e1 e2 e3 e4 e5
    go_wp2_with fail
    rw [rounds_succ]
    go_wp2_with fail
    refine (HNo.out _ HR6.out.qs).mono ?_
    rintro e w7 ⟨rfl, b7⟩
    have HR7 := Lib.hid (HR6.out.after b7)
    have TB7 := Lib.hid (TB6.out.after b7)
    clear b7
    obtain ⟨e0, e1, e2, e3, e4, e5⟩ := six_nd TB7.out.six
    go_wp2_with (refine wpList_store_row rfl 25 (.tmp 2) (.tmp 15) rfl w.heap.size (ndC 13 ⟨#[]⟩ 0 t.a (.slice (some ⟨g, 0, none⟩) 2 2) (.slice none 0 0)) rfl rfl 25 zeroN HR7.out.res.row HI rfl (nd_one _ _ _ _ _ _ _ _ _ _) ?_)
    refine bodyPost_ret (v := .agg (ndC 13 ⟨#[]⟩ 0 t.a (.slice (some ⟨g, 0, none⟩) 2 2) (.slice none 0 0))) (results_cell_row (by rfl) _ _ (w.heap.size) 25 _ (0, 0) _ (by rfl) (HR7.out.res.setRow _).row Tryz.underlying25 (by rfl) HI) rfl ?_
    exact TB7.out.ret HR7.out
  refine AllReadyH.cons rfl (fun K hK => ?_) AllReadyH.nil
  rw [if_pos (by rfl)]
  go_simp
  refine (HIn2.out _ HRZ.out.qs).mono ?_
  rintro e w4 ⟨cs, rfl, hA, hP, hBt⟩
  obtain ⟨xa2, xc2, ya2, yc2, hcs0, _⟩ := hA.opens
  have hcs : cs = #[.int .i64 u.k, .string u.s, .int .i64 u.n, .int .i64 u.a, .slice xa2 u.kids.length xc2, .slice ya2 u.p.length yc2] := hcs0
  clear hcs0
  subst hcs
  have HR4 := Lib.hid (HRZ.out.on hP hBt)
  have TB4 := Lib.hid (TBZ.out.on hBt)
  have HAu : Hid (At w4 (fun j => w.heap.size ≤ j ∧ j ≠ w.heap.size ∧ j ≠ xb) u (ndC u.k u.s u.n u.a (.slice xa2 u.kids.length xc2) (.slice ya2 u.p.length yc2))) := Lib.hid (hA.weakS (fun j hj => by have h1 : Z.heap.size ≤ j := hj; have := HLZ.out; exact ⟨by omega, by omega, by omega⟩))
  clear hA hP hBt e0 e1 e2 e3 e4 e5
  obtain ⟨e0, e1, e2, e3, e4, e5⟩ := six_nd TB4.out.six
  go_wp2_with fail
  refine hK.out _ _ (Lib.hid e3) (fun hSc => ?_)
  clear hK K
  try simp only [Act.put, List.setIfInBounds_toArray, List.set_cons_zero, List.set_cons_succ]
  refine wpAnyH_ready (rs := [2]) (by kernel_rfl) (by simp) ?_
  refine AllReadyH.cons rfl (fun K hK => ?_) AllReadyH.nil
  rw [if_pos (by rfl)]
  go_simp
  refine hK.out _ _ (Lib.hid e3) (fun hSb2 => ?_)
  clear hK K
  try simp only [Act.put, List.setIfInBounds_toArray, List.set_cons_zero, List.set_cons_succ]
  refine wpAnyH_ready (rs := [5]) (by kernel_rfl) (by simp) ?_
  refine AllReadyH.cons rfl (fun K hK => ?_) AllReadyH.nil
  rw [if_pos (by rfl)]
  go_simp
  obtain ⟨V5, hV5, HJ5, HB5⟩ : ∃ V5, V5 = w4.alloc (.cells #[.int .i64 t.k, .string t.s, .int .i64 t.n, .int .i64 t.a, .slice xa t.kids.length xc, .slice ya t.p.length yc, .int .i64 u.k, .string u.s, .int .i64 u.n, .int .i64 u.a, .slice xa2 u.kids.length xc2, .slice ya2 u.p.length yc2] 25) ∧ Hid (At V5 (fun j => w.heap.size ≤ j ∧ j ≠ w.heap.size ∧ j ≠ xb) (.mk 13 ⟨#[]⟩ 0 t.a [t, u] []) (ndC 13 ⟨#[]⟩ 0 t.a (.slice (some ⟨w4.heap.size, 0, none⟩) 2 2) (.slice none 0 0))) ∧ Hid (Below w4.heap.size w4 V5) :=
    ⟨_, rfl, Lib.hid (pair_at 13 ⟨#[]⟩ t.a TB4.out.tree HAu.out (by have := TB4.out.box.lt; have := HR4.out.res.lt; exact ⟨by omega, by omega, by omega⟩)), Lib.hid (below_new _ _)⟩
  change K _ (w4.alloc (.cells #[.int .i64 t.k, .string t.s, .int .i64 t.n, .int .i64 t.a, .slice xa t.kids.length xc, .slice ya t.p.length yc, .int .i64 u.k, .string u.s, .int .i64 u.n, .int .i64 u.a, .slice xa2 u.kids.length xc2, .slice ya2 u.p.length yc2] 25))
  rw [← hV5]
  have HR5 := Lib.hid (HR4.out.after HB5.out)
  have TB5 := Lib.hid (TB4.out.after HB5.out)
  refine hK.out _ _ (Lib.hid (six_nd TB5.out.six).2.2.2.1) (fun hS5 => ?_)
  clear hK K
  try simp only [Act.put, List.setIfInBounds_toArray, List.set_cons_zero, List.set_cons_succ]
  obtain ⟨g, hg⟩ : ∃ g, g = w4.heap.size := ⟨_, rfl⟩
  rw [← hg] at HJ5 ⊢
  clear hV5 hg
  refine takeW (i := 6) (d := 14) (v := .agg #[.int .i64 13, .string ⟨#[]⟩, .int .i64 0, .int .i64 t.a, .slice (some ⟨g, 0, none⟩) 2 2, .slice none 0 0]) rfl rfl (by kernel_rfl) (by kernel_rfl) (by kernel_rfl) (fun _ _ _ h => h) (by rfl) (fun w' hSw => by have hSw := hSw.out; go_simp) (by assumption) ?_
  simp only [List.setIfInBounds_toArray, List.set_cons_zero, List.set_cons_succ]
  refine wpAnyH_ready (rs := [7]) (by kernel_rfl) (by simp) ?_
  refine AllReadyH.cons rfl (fun K hK => ?_) AllReadyH.nil
  rw [if_pos (by rfl)]
  refine wp_store_row 25 (.tmp 3) (.tmp 14) rfl xb (ndC 13 ⟨#[]⟩ 0 t.a (.slice (some ⟨g, 0, none⟩) 2 2) (.slice none 0 0)) rfl rfl 25 _ TB5.out.box.row HI rfl (nd_one _ _ _ _ _ _ _ _ _ _) ?_
  refine hK.out _ _ (Lib.hid (six_nd (TB5.out.put HJ5.out).six).2.2.2.1) (fun hS6 => ?_)
  clear hK K
  refine wpAnyH_done (by kernel_rfl) ?_ _
  try simp only [Act.put]
  obtain ⟨V6, hV6, HR6, TB6⟩ : ∃ V6, V6 = V5.setRow xb (ndC 13 ⟨#[]⟩ 0 t.a (.slice (some ⟨g, 0, none⟩) 2 2) (.slice none 0 0)) ∧ Hid (RQ w V6 B X k2 d w.heap.size) ∧ Hid (TB w V6 B w.heap.size (.mk 13 ⟨#[]⟩ 0 t.a [t, u] []) xb (ndC 13 ⟨#[]⟩ 0 t.a (.slice (some ⟨g, 0, none⟩) 2 2) (.slice none 0 0))) := ⟨_, rfl, Lib.hid (HR5.out.own (bt_row _ _ _) TB5.out.nr TB5.out.le), Lib.hid (TB5.out.put HJ5.out)⟩
  rw [← hV6]
  clear hV6 HJ5 e0 e1 e2 e3 e4 e5
  go_wp2_with fail
  rw [rounds_succ]
  go_wp2_with fail
  refine (HNo.out _ HR6.out.qs).mono ?_
  rintro e w7 ⟨rfl, b7⟩
  have HR7 := Lib.hid (HR6.out.after b7)
  have TB7 := Lib.hid (TB6.out.after b7)
  clear b7
  obtain ⟨e0, e1, e2, e3, e4, e5⟩ := six_nd TB7.out.six
  go_wp2_with (refine wpList_store_row rfl 25 (.tmp 2) (.tmp 15) rfl w.heap.size (ndC 13 ⟨#[]⟩ 0 t.a (.slice (some ⟨g, 0, none⟩) 2 2) (.slice none 0 0)) rfl rfl 25 zeroN HR7.out.res.row HI rfl (nd_one _ _ _ _ _ _ _ _ _ _) ?_)
  refine bodyPost_ret (v := .agg (ndC 13 ⟨#[]⟩ 0 t.a (.slice (some ⟨g, 0, none⟩) 2 2) (.slice none 0 0))) (results_cell_row (by rfl) _ _ (w.heap.size) 25 _ (0, 0) _ (by rfl) (HR7.out.res.setRow _).row Tryz.underlying25 (by rfl) HI) rfl ?_
  exact TB7.out.ret HR7.out
end Go.Proofs.YtgdlpldngpoadaaGreatDoor
