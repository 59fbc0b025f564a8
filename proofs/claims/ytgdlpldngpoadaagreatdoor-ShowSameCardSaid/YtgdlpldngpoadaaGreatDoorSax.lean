/- Merged by program: SyE. -/
import Derived.Test.YtgdlpldngpoadaaGreatDoorSaw
/- syntax.reader reads an expression, where nothing is wrong: operators, operands (gen_sy.py). -/
namespace Go.Proofs.YtgdlpldngpoadaaGreatDoor
open Go.RowKit
variable {m : Nat}

theorem hmf : ∀ (fn : Fn) (first cap : Array Value) (w : World), (Instr.makeFunc fn first cap).run Tryz.prog w = .ok (.func fn first cap) w := fun _ _ _ _ => rfl
set_option maxRecDepth 100000 in
set_option maxHeartbeats 1000000 in
theorem qterm_one (X : Tx) (k k' : Nat) (t : Nd) (T : Tp) (hT : X.L[k']? = some T) (hz : sgB [⟨#[42]⟩, ⟨#[47]⟩, ⟨#[37]⟩] T = false) (hin : QReads m 222 X k t k') : QReads m 218 X k t k' := by
  intro w B d h hd1 hd2
  have HI := info_nd
  have hmf := hmf
  obtain ⟨W, hW, HR, HB, HWs⟩ := rq_box w B X k d h
  have c0 := HB.out.c
  have HL : Hid (Calls Tryz.prog 139 #[.pointer (some ⟨B.p, 0, none⟩), .int .i64 14, .func (.func 221) #[] #[.pointer (some ⟨w.heap.size, 0, none⟩)], .slice (some ⟨W.heap.size, 0, none⟩) 3 3] (W.alloc (.cells #[.string ⟨#[42]⟩, .string ⟨#[47]⟩, .string ⟨#[37]⟩] 9)) (QOut B X t k' d (W.alloc (.cells #[.string ⟨#[42]⟩, .string ⟨#[47]⟩, .string ⟨#[37]⟩] 9)))) := Lib.hid (by
    refine qleft_one _ (enters_of Tryz.func221 (by kernel_rfl) rfl) X k k' t T hT [⟨#[42]⟩, ⟨#[47]⟩, ⟨#[37]⟩] 3 rfl (by decide) hz (cterm1_pass X k k' t hin) _ B d w.heap.size W.heap.size 3 14 (HR.out.qs.after (below_new _ _)) (HB.out.after (below_new _ _)) (by rw [World.size_alloc]; omega) (by have := HR.out.p4; have := HWs.out; omega) (fun j hj => ?_) hd1 hd2
    rw [Nat.zero_add, cell_of_row _ _ j _ _ (0, 0) (heap_alloc_last W _)]
    match j, hj with
    | 0, _ => rfl
    | 1, _ => rfl
    | 2, _ => rfl)
  clear h hd1 hd2 hin hz hT
  go_enter Tryz.func218, Tryz.ntmps218
  go_upto_region 1 with (fail)
  change Code.wp _ _ _ _ ((w.alloc (.cells #[.pointer (some ⟨B.p, 0, none⟩)] 60)).alloc (.cells zeroN 25))
  rw [← hW]
  clear hW
  go_wp2_with fail
  refine HL.out.mono ?_
  rintro e w1 ⟨cs, rfl, hA, hP, hBt⟩
  obtain ⟨xa, xc, ya, yc, hcs, _⟩ := hA.opens
  subst hcs
  have HR1 := Lib.hid ((HR.out.after (below_new W _)).on hP hBt)
  have HA := Lib.hid hA
  clear hA hP hBt c0
  go_wp2_with (refine wpList_store_row rfl 25 (.tmp 2) (.tmp 6) rfl (w.heap.size + 1) (ndC t.k t.s t.n t.a (.slice xa t.kids.length xc) (.slice ya t.p.length yc)) rfl rfl 25 zeroN HR1.out.res.row HI rfl (nd_one _ _ _ _ _ _ _ _ _ _) ?_)
  refine bodyPost_ret (v := .agg (ndC t.k t.s t.n t.a (.slice xa t.kids.length xc) (.slice ya t.p.length yc))) (results_cell_row (by rfl) _ _ (w.heap.size + 1) 25 _ (0, 0) _ (by rfl) (HR1.out.res.setRow _).row Tryz.underlying25 (by rfl) HI) rfl ?_
  exact HR1.out.ret HA.out (fun j hj => by have h1 := hj; unfold Up at h1; rw [World.size_alloc] at h1; have h2 := HWs.out; exact ⟨by omega, by omega⟩)

set_option maxRecDepth 100000 in
set_option maxHeartbeats 1000000 in
theorem qsum_one (X : Tx) (k k' : Nat) (t : Nd) (T : Tp) (hT : X.L[k']? = some T) (hz : sgB [⟨#[43]⟩, ⟨#[45]⟩] T = false) (hin : QReads m 218 X k t k') : QReads m 215 X k t k' := by
  intro w B d h hd1 hd2
  have HI := info_nd
  have hmf := hmf
  obtain ⟨W, hW, HR, HB, HWs⟩ := rq_box w B X k d h
  have c0 := HB.out.c
  have HL : Hid (Calls Tryz.prog 139 #[.pointer (some ⟨B.p, 0, none⟩), .int .i64 14, .func (.func 217) #[] #[.pointer (some ⟨w.heap.size, 0, none⟩)], .slice (some ⟨W.heap.size, 0, none⟩) 2 2] (W.alloc (.cells #[.string ⟨#[43]⟩, .string ⟨#[45]⟩] 9)) (QOut B X t k' d (W.alloc (.cells #[.string ⟨#[43]⟩, .string ⟨#[45]⟩] 9)))) := Lib.hid (by
    refine qleft_one _ (enters_of Tryz.func217 (by kernel_rfl) rfl) X k k' t T hT [⟨#[43]⟩, ⟨#[45]⟩] 2 rfl (by decide) hz (csum1_pass X k k' t hin) _ B d w.heap.size W.heap.size 2 14 (HR.out.qs.after (below_new _ _)) (HB.out.after (below_new _ _)) (by rw [World.size_alloc]; omega) (by have := HR.out.p4; have := HWs.out; omega) (fun j hj => ?_) hd1 hd2
    rw [Nat.zero_add, cell_of_row _ _ j _ _ (0, 0) (heap_alloc_last W _)]
    match j, hj with
    | 0, _ => rfl
    | 1, _ => rfl)
  clear h hd1 hd2 hin hz hT
  go_enter Tryz.func215, Tryz.ntmps215
  go_upto_region 1 with (fail)
  change Code.wp _ _ _ _ ((w.alloc (.cells #[.pointer (some ⟨B.p, 0, none⟩)] 60)).alloc (.cells zeroN 25))
  rw [← hW]
  clear hW
  go_wp2_with fail
  refine HL.out.mono ?_
  rintro e w1 ⟨cs, rfl, hA, hP, hBt⟩
  obtain ⟨xa, xc, ya, yc, hcs, _⟩ := hA.opens
  subst hcs
  have HR1 := Lib.hid ((HR.out.after (below_new W _)).on hP hBt)
  have HA := Lib.hid hA
  clear hA hP hBt c0
  go_wp2_with (refine wpList_store_row rfl 25 (.tmp 2) (.tmp 6) rfl (w.heap.size + 1) (ndC t.k t.s t.n t.a (.slice xa t.kids.length xc) (.slice ya t.p.length yc)) rfl rfl 25 zeroN HR1.out.res.row HI rfl (nd_one _ _ _ _ _ _ _ _ _ _) ?_)
  refine bodyPost_ret (v := .agg (ndC t.k t.s t.n t.a (.slice xa t.kids.length xc) (.slice ya t.p.length yc))) (results_cell_row (by rfl) _ _ (w.heap.size + 1) 25 _ (0, 0) _ (by rfl) (HR1.out.res.setRow _).row Tryz.underlying25 (by rfl) HI) rfl ?_
  exact HR1.out.ret HA.out (fun j hj => by have h1 := hj; unfold Up at h1; rw [World.size_alloc] at h1; have h2 := HWs.out; exact ⟨by omega, by omega⟩)

set_option maxRecDepth 100000 in
set_option maxHeartbeats 1000000 in
theorem qmatch_one (X : Tx) (k k' : Nat) (t : Nd) (T : Tp) (hT : X.L[k']? = some T) (hz : sgB [⟨#[126]⟩, ⟨#[33, 126]⟩] T = false) (hin : QReads m 203 X k t k') : QReads m 194 X k t k' := by
  intro w B d h hd1 hd2
  have HI := info_nd
  have hmf := hmf
  obtain ⟨W, hW, HR, HB, HWs⟩ := rq_box w B X k d h
  have c0 := HB.out.c
  have HL : Hid (Calls Tryz.prog 139 #[.pointer (some ⟨B.p, 0, none⟩), .int .i64 11, .func (.func 202) #[] #[.pointer (some ⟨w.heap.size, 0, none⟩)], .slice (some ⟨W.heap.size, 0, none⟩) 2 2] (W.alloc (.cells #[.string ⟨#[126]⟩, .string ⟨#[33, 126]⟩] 9)) (QOut B X t k' d (W.alloc (.cells #[.string ⟨#[126]⟩, .string ⟨#[33, 126]⟩] 9)))) := Lib.hid (by
    refine qleft_one _ (enters_of Tryz.func202 (by kernel_rfl) rfl) X k k' t T hT [⟨#[126]⟩, ⟨#[33, 126]⟩] 2 rfl (by decide) hz (cmatch1_pass X k k' t hin) _ B d w.heap.size W.heap.size 2 11 (HR.out.qs.after (below_new _ _)) (HB.out.after (below_new _ _)) (by rw [World.size_alloc]; omega) (by have := HR.out.p4; have := HWs.out; omega) (fun j hj => ?_) hd1 hd2
    rw [Nat.zero_add, cell_of_row _ _ j _ _ (0, 0) (heap_alloc_last W _)]
    match j, hj with
    | 0, _ => rfl
    | 1, _ => rfl)
  clear h hd1 hd2 hin hz hT
  go_enter Tryz.func194, Tryz.ntmps194
  go_upto_region 1 with (fail)
  change Code.wp _ _ _ _ ((w.alloc (.cells #[.pointer (some ⟨B.p, 0, none⟩)] 60)).alloc (.cells zeroN 25))
  rw [← hW]
  clear hW
  go_wp2_with fail
  refine HL.out.mono ?_
  rintro e w1 ⟨cs, rfl, hA, hP, hBt⟩
  obtain ⟨xa, xc, ya, yc, hcs, _⟩ := hA.opens
  subst hcs
  have HR1 := Lib.hid ((HR.out.after (below_new W _)).on hP hBt)
  have HA := Lib.hid hA
  clear hA hP hBt c0
  go_wp2_with (refine wpList_store_row rfl 25 (.tmp 2) (.tmp 6) rfl (w.heap.size + 1) (ndC t.k t.s t.n t.a (.slice xa t.kids.length xc) (.slice ya t.p.length yc)) rfl rfl 25 zeroN HR1.out.res.row HI rfl (nd_one _ _ _ _ _ _ _ _ _ _) ?_)
  refine bodyPost_ret (v := .agg (ndC t.k t.s t.n t.a (.slice xa t.kids.length xc) (.slice ya t.p.length yc))) (results_cell_row (by rfl) _ _ (w.heap.size + 1) 25 _ (0, 0) _ (by rfl) (HR1.out.res.setRow _).row Tryz.underlying25 (by rfl) HI) rfl ?_
  exact HR1.out.ret HA.out (fun j hj => by have h1 := hj; unfold Up at h1; rw [World.size_alloc] at h1; have h2 := HWs.out; exact ⟨by omega, by omega⟩)

set_option maxRecDepth 100000 in
set_option maxHeartbeats 1000000 in
theorem qand_one (X : Tx) (k k' : Nat) (t : Nd) (T : Tp) (hT : X.L[k']? = some T) (hz : sgB [⟨#[38, 38]⟩] T = false) (hin : QReads m 172 X k t k') : QReads m 141 X k t k' := by
  intro w B d h hd1 hd2
  have HI := info_nd
  have hmf := hmf
  obtain ⟨W, hW, HR, HB, HWs⟩ := rq_box w B X k d h
  have c0 := HB.out.c
  have HL : Hid (Calls Tryz.prog 139 #[.pointer (some ⟨B.p, 0, none⟩), .int .i64 9, .func (.func 171) #[] #[.pointer (some ⟨w.heap.size, 0, none⟩)], .slice (some ⟨W.heap.size, 0, none⟩) 1 1] (W.alloc (.cells #[.string ⟨#[38, 38]⟩] 9)) (QOut B X t k' d (W.alloc (.cells #[.string ⟨#[38, 38]⟩] 9)))) := Lib.hid (by
    refine qleft_one _ (enters_of Tryz.func171 (by kernel_rfl) rfl) X k k' t T hT [⟨#[38, 38]⟩] 1 rfl (by decide) hz (cand1_pass X k k' t hin) _ B d w.heap.size W.heap.size 1 9 (HR.out.qs.after (below_new _ _)) (HB.out.after (below_new _ _)) (by rw [World.size_alloc]; omega) (by have := HR.out.p4; have := HWs.out; omega) (fun j hj => ?_) hd1 hd2
    rw [Nat.zero_add, cell_of_row _ _ j _ _ (0, 0) (heap_alloc_last W _)]
    match j, hj with
    | 0, _ => rfl)
  clear h hd1 hd2 hin hz hT
  go_enter Tryz.func141, Tryz.ntmps141
  go_upto_region 1 with (fail)
  change Code.wp _ _ _ _ ((w.alloc (.cells #[.pointer (some ⟨B.p, 0, none⟩)] 60)).alloc (.cells zeroN 25))
  rw [← hW]
  clear hW
  go_wp2_with fail
  refine HL.out.mono ?_
  rintro e w1 ⟨cs, rfl, hA, hP, hBt⟩
  obtain ⟨xa, xc, ya, yc, hcs, _⟩ := hA.opens
  subst hcs
  have HR1 := Lib.hid ((HR.out.after (below_new W _)).on hP hBt)
  have HA := Lib.hid hA
  clear hA hP hBt c0
  go_wp2_with (refine wpList_store_row rfl 25 (.tmp 2) (.tmp 6) rfl (w.heap.size + 1) (ndC t.k t.s t.n t.a (.slice xa t.kids.length xc) (.slice ya t.p.length yc)) rfl rfl 25 zeroN HR1.out.res.row HI rfl (nd_one _ _ _ _ _ _ _ _ _ _) ?_)
  refine bodyPost_ret (v := .agg (ndC t.k t.s t.n t.a (.slice xa t.kids.length xc) (.slice ya t.p.length yc))) (results_cell_row (by rfl) _ _ (w.heap.size + 1) 25 _ (0, 0) _ (by rfl) (HR1.out.res.setRow _).row Tryz.underlying25 (by rfl) HI) rfl ?_
  exact HR1.out.ret HA.out (fun j hj => by have h1 := hj; unfold Up at h1; rw [World.size_alloc] at h1; have h2 := HWs.out; exact ⟨by omega, by omega⟩)

set_option maxRecDepth 100000 in
set_option maxHeartbeats 1000000 in
theorem qor_one (X : Tx) (k k' : Nat) (t : Nd) (T : Tp) (hT : X.L[k']? = some T) (hz : sgB [⟨#[124, 124]⟩] T = false) (hin : QReads m 141 X k t k') : QReads m 118 X k t k' := by
  intro w B d h hd1 hd2
  have HI := info_nd
  have hmf := hmf
  obtain ⟨W, hW, HR, HB, HWs⟩ := rq_box w B X k d h
  have c0 := HB.out.c
  have HL : Hid (Calls Tryz.prog 139 #[.pointer (some ⟨B.p, 0, none⟩), .int .i64 8, .func (.func 140) #[] #[.pointer (some ⟨w.heap.size, 0, none⟩)], .slice (some ⟨W.heap.size, 0, none⟩) 1 1] (W.alloc (.cells #[.string ⟨#[124, 124]⟩] 9)) (QOut B X t k' d (W.alloc (.cells #[.string ⟨#[124, 124]⟩] 9)))) := Lib.hid (by
    refine qleft_one _ (enters_of Tryz.func140 (by kernel_rfl) rfl) X k k' t T hT [⟨#[124, 124]⟩] 1 rfl (by decide) hz (cor1_pass X k k' t hin) _ B d w.heap.size W.heap.size 1 8 (HR.out.qs.after (below_new _ _)) (HB.out.after (below_new _ _)) (by rw [World.size_alloc]; omega) (by have := HR.out.p4; have := HWs.out; omega) (fun j hj => ?_) hd1 hd2
    rw [Nat.zero_add, cell_of_row _ _ j _ _ (0, 0) (heap_alloc_last W _)]
    match j, hj with
    | 0, _ => rfl)
  clear h hd1 hd2 hin hz hT
  go_enter Tryz.func118, Tryz.ntmps118
  go_upto_region 1 with (fail)
  change Code.wp _ _ _ _ ((w.alloc (.cells #[.pointer (some ⟨B.p, 0, none⟩)] 60)).alloc (.cells zeroN 25))
  rw [← hW]
  clear hW
  go_wp2_with fail
  refine HL.out.mono ?_
  rintro e w1 ⟨cs, rfl, hA, hP, hBt⟩
  obtain ⟨xa, xc, ya, yc, hcs, _⟩ := hA.opens
  subst hcs
  have HR1 := Lib.hid ((HR.out.after (below_new W _)).on hP hBt)
  have HA := Lib.hid hA
  clear hA hP hBt c0
  go_wp2_with (refine wpList_store_row rfl 25 (.tmp 2) (.tmp 6) rfl (w.heap.size + 1) (ndC t.k t.s t.n t.a (.slice xa t.kids.length xc) (.slice ya t.p.length yc)) rfl rfl 25 zeroN HR1.out.res.row HI rfl (nd_one _ _ _ _ _ _ _ _ _ _) ?_)
  refine bodyPost_ret (v := .agg (ndC t.k t.s t.n t.a (.slice xa t.kids.length xc) (.slice ya t.p.length yc))) (results_cell_row (by rfl) _ _ (w.heap.size + 1) 25 _ (0, 0) _ (by rfl) (HR1.out.res.setRow _).row Tryz.underlying25 (by rfl) HI) rfl ?_
  exact HR1.out.ret HA.out (fun j hj => by have h1 := hj; unfold Up at h1; rw [World.size_alloc] at h1; have h2 := HWs.out; exact ⟨by omega, by omega⟩)

set_option maxRecDepth 100000 in
set_option maxHeartbeats 1000000 in
theorem qunary (X : Tx) (k k' : Nat) (t : Nd) (T : Tp) (hT : X.L[k]? = some T) (ha : ∀ w B d, QS w B X k d → Calls Tryz.prog 110 #[.pointer (some ⟨B.p, 0, none⟩)] w fun e w' => e = .returned (.bool true) ∧ Below w.heap.size w w') (hz : sgB [⟨#[33]⟩, ⟨#[45]⟩, ⟨#[43]⟩] T = false) (hin : QReads m 226 X k t k') : QReads m 222 X k t k' := by
  intro w B d h hd1 hd2
  have HI := info_nd
  obtain ⟨W, hW, HR, HWs⟩ := rq_new w B X k d h
  have HD := Lib.hid (And.intro hd1 hd2)
  have HOp := Lib.hid (fun w (h : QS w B X k d) => qoperand w B X k d h (fun w h => ha w B d h))
  have HBe := Lib.hid (fun w (h : QS w B X k d) => qbegin w B X k d h (by omega))
  have HIn := Lib.hid (fun w h => hin w B d h hd1 hd2)
  have HNo := Lib.hid (fun (w : World) (h : QS w B X k d) => (show Calls Tryz.prog 111 #[.pointer (some ⟨B.p, 0, none⟩), .slice (some ⟨w.heap.size, 0, none⟩) 3 3] (w.alloc (.cells #[.string ⟨#[33]⟩, .string ⟨#[45]⟩, .string ⟨#[43]⟩] 9)) (fun e w' => e = .returned (.bool false) ∧ Below w.heap.size w w') from qsign_row w B X k d h T hT [⟨#[33]⟩, ⟨#[45]⟩, ⟨#[43]⟩] 3 rfl false hz))
  clear h hd1 hd2 hin ha hz hT
  go_enter Tryz.func222, Tryz.ntmps222
  go_upto_region 1 with (fail)
  change Code.wp _ _ _ _ (w.alloc (.cells zeroN 25))
  rw [← hW]
  clear hW
  go_wp2_with fail
  refine (HOp.out _ HR.out.qs).mono ?_
  rintro e w1 ⟨rfl, b1⟩
  have HR1 := Lib.hid (HR.out.after b1)
  clear b1
  go_wp2_with fail
  refine (HBe.out _ HR1.out.qs).mono ?_
  rintro e w2 ⟨rfl, rfl⟩
  go_wp2_with fail
  refine (HNo.out _ HR1.out.qs).mono ?_
  rintro e w3 ⟨rfl, b3⟩
  have HR3 := Lib.hid (HR1.out.after b3)
  clear b3
  go_wp2_with fail
  refine (HIn.out _ HR3.out.qs).mono ?_
  rintro e w4 ⟨cs, rfl, hA, hP, hBt⟩
  have HU : Hid (w.heap.size < w3.heap.size) := Lib.hid (by have := HR3.out.res.lt; omega)
  obtain ⟨xa, xc, ya, yc, hcs, _⟩ := hA.opens
  subst hcs
  have HRn := Lib.hid (HR3.out.on hP hBt)
  have HA := Lib.hid hA
  clear hA hP hBt
  go_wp2_with (refine wpList_store_row rfl 25 (.tmp 2) (.tmp 13) rfl w.heap.size (ndC t.k t.s t.n t.a (.slice xa t.kids.length xc) (.slice ya t.p.length yc)) rfl rfl 25 zeroN HRn.out.res.row HI rfl (nd_one _ _ _ _ _ _ _ _ _ _) ?_)
  refine bodyPost_ret (v := .agg (ndC t.k t.s t.n t.a (.slice xa t.kids.length xc) (.slice ya t.p.length yc))) (results_cell_row (by rfl) _ _ w.heap.size 25 _ (0, 0) _ (by rfl) (HRn.out.res.setRow _).row Tryz.underlying25 (by rfl) HI) rfl ?_
  exact HRn.out.ret HA.out (fun j hj => by have h1 : w3.heap.size ≤ j := hj; have h2 := HU.out; exact ⟨by omega, by omega⟩)

set_option maxRecDepth 100000 in
set_option maxHeartbeats 1000000 in
theorem qstepped (X : Tx) (k k' : Nat) (t : Nd) (T : Tp) (hT : X.L[k]? = some T) (hz : sgB [⟨#[43, 43]⟩, ⟨#[45, 45]⟩] T = false) (hin : QReads m 167 X k t k') : QReads m 137 X k t k' := by
  intro w B d h hd1 hd2
  have HI := info_nd
  obtain ⟨W, hW, HR, HWs⟩ := rq_new w B X k d h
  have HD := Lib.hid (And.intro hd1 hd2)
  have HIn := Lib.hid (fun w h => hin w B d h hd1 hd2)
  have HNo := Lib.hid (fun (w : World) (h : QS w B X k d) => (show Calls Tryz.prog 111 #[.pointer (some ⟨B.p, 0, none⟩), .slice (some ⟨w.heap.size, 0, none⟩) 2 2] (w.alloc (.cells #[.string ⟨#[43, 43]⟩, .string ⟨#[45, 45]⟩] 9)) (fun e w' => e = .returned (.bool false) ∧ Below w.heap.size w w') from qsign_row w B X k d h T hT [⟨#[43, 43]⟩, ⟨#[45, 45]⟩] 2 rfl false hz))
  clear h hd1 hd2 hin hz hT
  go_enter Tryz.func137, Tryz.ntmps137
  go_upto_region 1 with (fail)
  change Code.wp _ _ _ _ (w.alloc (.cells zeroN 25))
  rw [← hW]
  clear hW
  go_wp2_with fail
  refine (HNo.out _ HR.out.qs).mono ?_
  rintro e w1 ⟨rfl, b1⟩
  have HR1 := Lib.hid (HR.out.after b1)
  clear b1
  go_wp2_with fail
  refine (HIn.out _ HR1.out.qs).mono ?_
  rintro e w2 ⟨cs, rfl, hA, hP, hBt⟩
  have HU : Hid (w.heap.size < w1.heap.size) := Lib.hid (by have := HR1.out.res.lt; omega)
  obtain ⟨xa, xc, ya, yc, hcs, _⟩ := hA.opens
  subst hcs
  have HRn := Lib.hid (HR1.out.on hP hBt)
  have HA := Lib.hid hA
  clear hA hP hBt
  go_wp2_with (refine wpList_store_row rfl 25 (.tmp 2) (.tmp 9) rfl w.heap.size (ndC t.k t.s t.n t.a (.slice xa t.kids.length xc) (.slice ya t.p.length yc)) rfl rfl 25 zeroN HRn.out.res.row HI rfl (nd_one _ _ _ _ _ _ _ _ _ _) ?_)
  refine bodyPost_ret (v := .agg (ndC t.k t.s t.n t.a (.slice xa t.kids.length xc) (.slice ya t.p.length yc))) (results_cell_row (by rfl) _ _ w.heap.size 25 _ (0, 0) _ (by rfl) (HRn.out.res.setRow _).row Tryz.underlying25 (by rfl) HI) rfl ?_
  exact HRn.out.ret HA.out (fun j hj => by have h1 : w1.heap.size ≤ j := hj; have h2 := HU.out; exact ⟨by omega, by omega⟩)

set_option maxRecDepth 100000 in
set_option maxHeartbeats 1000000 in
theorem qpost_step (X : Tx) (k k' : Nat) (t : Nd) (T : Tp) (hT : X.L[k]? = some T) (h5 : (T.1 == 5) = false) (hz : sgB [⟨#[36]⟩] T = false) (hin : QReads m 137 X k t k') : QReads m 226 X k t k' := by
  intro w B d h hd1 hd2
  have HI := info_nd
  obtain ⟨W, hW, HR, HWs⟩ := rq_new w B X k d h
  have HD := Lib.hid (And.intro hd1 hd2)
  have HIn := Lib.hid (fun w h => hin w B d h hd1 hd2)
  have HNo := Lib.hid (fun w (h : QS w B X k d) => qplace_no w B X k d h T hT h5 hz)
  clear h hd1 hd2 hin hz hT h5
  go_enter Tryz.func226, Tryz.ntmps226
  go_upto_region 1 with (fail)
  change Code.wp _ _ _ _ (w.alloc (.cells zeroN 25))
  rw [← hW]
  clear hW
  go_wp2_with fail
  refine (HNo.out _ HR.out.qs).mono ?_
  rintro e w1 ⟨rfl, b1⟩
  have HR1 := Lib.hid (HR.out.after b1)
  clear b1
  go_wp2_with fail
  refine (HIn.out _ HR1.out.qs).mono ?_
  rintro e w2 ⟨cs, rfl, hA, hP, hBt⟩
  have HU : Hid (w.heap.size < w1.heap.size) := Lib.hid (by have := HR1.out.res.lt; omega)
  obtain ⟨xa, xc, ya, yc, hcs, _⟩ := hA.opens
  subst hcs
  have HRn := Lib.hid (HR1.out.on hP hBt)
  have HA := Lib.hid hA
  clear hA hP hBt
  go_wp2_with (refine wpList_store_row rfl 25 (.tmp 2) (.tmp 8) rfl w.heap.size (ndC t.k t.s t.n t.a (.slice xa t.kids.length xc) (.slice ya t.p.length yc)) rfl rfl 25 zeroN HRn.out.res.row HI rfl (nd_one _ _ _ _ _ _ _ _ _ _) ?_)
  refine bodyPost_ret (v := .agg (ndC t.k t.s t.n t.a (.slice xa t.kids.length xc) (.slice ya t.p.length yc))) (results_cell_row (by rfl) _ _ w.heap.size 25 _ (0, 0) _ (by rfl) (HRn.out.res.setRow _).row Tryz.underlying25 (by rfl) HI) rfl ?_
  exact HRn.out.ret HA.out (fun j hj => by have h1 : w1.heap.size ≤ j := hj; have h2 := HU.out; exact ⟨by omega, by omega⟩)

set_option maxRecDepth 100000 in
set_option maxHeartbeats 1000000 in
theorem qpost_place (X : Tx) (k k' : Nat) (t : Nd) (T U : Tp) (hT : X.L[k]? = some T) (hU : X.L[k']? = some U) (h5 : (T.1 == 5) = true) (hz : sgB [⟨#[43, 43]⟩, ⟨#[45, 45]⟩] U = false) (hin : QReads m 115 X k t k') : QReads m 226 X k t k' := by
  intro w B d h hd1 hd2
  have HI := info_nd
  obtain ⟨W, hW, HR, HWs⟩ := rq_new w B X k d h
  have HD := Lib.hid (And.intro hd1 hd2)
  have HIn := Lib.hid (fun w h => hin w B d h hd1 hd2)
  have HNo := Lib.hid (fun w (h : QS w B X k d) => qplace_yes w B X k d h T hT h5)
  have HSt := Lib.hid (fun (w : World) (h : QS w B X k' d) => (show Calls Tryz.prog 111 #[.pointer (some ⟨B.p, 0, none⟩), .slice (some ⟨w.heap.size, 0, none⟩) 2 2] (w.alloc (.cells #[.string ⟨#[43, 43]⟩, .string ⟨#[45, 45]⟩] 9)) (fun e w' => e = .returned (.bool false) ∧ Below w.heap.size w w') from qsign_row w B X k' d h U hU [⟨#[43, 43]⟩, ⟨#[45, 45]⟩] 2 rfl false hz))
  clear h hd1 hd2 hin hz hT hU h5
  go_enter Tryz.func226, Tryz.ntmps226
  go_upto_region 1 with (fail)
  change Code.wp _ _ _ _ (w.alloc (.cells zeroN 25))
  rw [← hW]
  clear hW
  go_wp2_with fail
  refine (HNo.out _ HR.out.qs).mono ?_
  rintro e w1 ⟨rfl, b1⟩
  have HR1 := Lib.hid (HR.out.after b1)
  clear b1
  have HU : Hid (w.heap.size < w1.heap.size) := Lib.hid HR1.out.res.lt
  go_wp2_with fail
  refine (HIn.out _ HR1.out.qs).mono ?_
  rintro e w2 ⟨cs, rfl, hA, hP, hBt⟩
  obtain ⟨xa, xc, ya, yc, hcs, _⟩ := hA.opens
  subst hcs
  have HRa2 := Lib.hid (HR1.out.on hP hBt)
  have HBa2 := Lib.hid hBt
  have HA2 := Lib.hid hA
  clear hA hP hBt
  go_upto_region 4 with (refine wpList_store_row rfl 25 (.tmp 3) (.tmp 10) rfl w2.heap.size (ndC t.k t.s t.n t.a (.slice xa t.kids.length xc) (.slice ya t.p.length yc)) rfl rfl 25 zeroN (heap_alloc_last _ _) HI rfl (nd_one _ _ _ _ _ _ _ _ _ _) ?_)
  obtain ⟨V2, hV2, HR2, TB2, BV2⟩ := tb_new HRa2.out (u := w1) (by have := HU.out; omega) (by have := HU.out; omega) HA2.out
  change Code.wp _ _ _ _ ((w2.alloc (Obj.cells zeroN 25)).setRow w2.heap.size (ndC t.k t.s t.n t.a (.slice xa t.kids.length xc) (.slice ya t.p.length yc)))
  rw [← hV2]
  obtain ⟨xb, hxb⟩ : ∃ xb, xb = w2.heap.size := ⟨_, rfl⟩
  rw [← hxb] at TB2 ⊢
  clear hV2 hxb HRa2 HA2
  go_wp2_with fail
  refine (HSt.out _ HR2.out.qs).mono ?_
  rintro e w3 ⟨rfl, b3⟩
  have HR3 := Lib.hid (HR2.out.after b3)
  have TB3 := Lib.hid (TB2.out.after b3)
  clear b3
  obtain ⟨e0, e1, e2, e3, e4, e5⟩ := six_nd TB3.out.six
  go_wp2_with (refine wpList_store_row rfl 25 (.tmp 2) (.tmp 23) rfl w.heap.size (ndC t.k t.s t.n t.a (.slice xa t.kids.length xc) (.slice ya t.p.length yc)) rfl rfl 25 zeroN HR3.out.res.row HI rfl (nd_one _ _ _ _ _ _ _ _ _ _) ?_)
  refine bodyPost_ret (v := .agg (ndC t.k t.s t.n t.a (.slice xa t.kids.length xc) (.slice ya t.p.length yc))) (results_cell_row (by rfl) _ _ (w.heap.size) 25 _ (0, 0) _ (by rfl) (HR3.out.res.setRow _).row Tryz.underlying25 (by rfl) HI) rfl ?_
  exact TB3.out.ret HR3.out

end Go.Proofs.YtgdlpldngpoadaaGreatDoor
