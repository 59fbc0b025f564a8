/- Merged by program: SyB. -/
import Derived.Test.YtgdlpldngpoadaaGreatDoorSau
/- syntax.reader: need, sign, name, node, lines, end, begin; what comes; what stands behind a place: walks, where nothing is wrong (gen_sy.py). -/
namespace Go.Proofs.YtgdlpldngpoadaaGreatDoor
open Go.RowKit

set_option maxRecDepth 100000 in
set_option maxHeartbeats 1000000 in
theorem qneed (w : World) (B : Bk) (X : Tx) (k : Nat) (d : Int) (h : QS w B X k d) (T : Tp) (hT : X.L[k]? = some T) (hk : k + 1 < X.L.length) :
    Calls Tryz.prog 142 #[.pointer (some ⟨B.p, 0, none⟩), .bool true] w fun e w' => e = .returned (.agg (tkA T)) ∧ QS w' B X (k + 1) d ∧ Bt B.p w w' := by
  have HI := info_tk
  obtain ⟨W, hW, HR, HB⟩ : ∃ W, W = w.alloc (.cells zTk 68) ∧ Hid (W.heap[w.heap.size]? = some (.cells zTk 68 (0, 0))) ∧ Hid (Below w.heap.size w W) := ⟨_, rfl, Lib.hid (heap_alloc_last w _), Lib.hid (below_new w _)⟩
  have hpw := h.plt
  have H0 := Lib.hid h
  have H := Lib.hid (h.after HB.out)
  have HH := Lib.hid (fun w h => qtake w B X k d h T hT hk)
  clear h hT hk
  go_enter Tryz.func142, Tryz.ntmps142
  go_upto_region 1 with (fail)
  change Code.wp _ _ _ _ (w.alloc (.cells zTk 68))
  rw [← hW]
  clear hW
  go_wp2_with fail
  refine (HH.out _ H.out).mono ?_
  rintro e w1 ⟨rfl, hq, hb⟩
  have HR1 : Hid (w1.heap[w.heap.size]? = some (.cells zTk 68 (0, 0))) := Lib.hid (by rw [hb.block _ (Array.getElem?_eq_some_iff.1 HR.out).1 (by omega)]; exact HR.out)
  have HQ := Lib.hid hq
  have HBt := Lib.hid ((Bt.of HB.out).trans hb)
  clear hq hb
  go_wp2_with (refine wpList_store_row rfl 68 (.tmp 4) (.tmp 10) rfl w.heap.size (tkA T) rfl rfl 68 zTk HR1.out HI rfl (tka_one _) ?_)
  refine bodyPost_ret (v := .agg (tkA T)) (results_cell_row (by rfl) _ _ w.heap.size 68 _ (0, 0) _ (by rfl) (setRow_heap _ _ _ _ _ _ HR1.out) Tryz.underlying68 (by rfl) HI) rfl ?_
  have hbw : Bt w.heap.size w1 (w1.setRow w.heap.size (tkA T)) := ⟨rfl, rfl, rfl, by simp [World.setRow], fun i _ hi => Go.setRow_other _ _ _ _ hi⟩
  refine ⟨rfl, HQ.out.other hbw (by omega) ?_ ?_ ?_, ?_⟩
  · have := H0.out.toks.lt; omega
  · have := H0.out.clt; omega
  · have := H0.out.mlt; omega
  · exact ⟨HBt.out.os, HBt.out.tape, HBt.out.output, by simp [World.setRow]; exact HBt.out.size, fun i hi hip => by rw [Go.setRow_other _ _ _ _ (by omega)]; exact HBt.out.block i hi hip⟩
set_option maxRecDepth 100000 in
set_option maxHeartbeats 1000000 in
theorem qsgn (w : World) (B : Bk) (X : Tx) (k : Nat) (d : Int) (h : QS w B X k d) (T : Tp) (hT : X.L[k]? = some T) (hk : k + 1 < X.L.length) (s : ByteArray) (hs : sgB [s] T = true) :
    Calls Tryz.prog 119 #[.pointer (some ⟨B.p, 0, none⟩), .string s] w fun e w' => e = .returned (.agg (tkA T)) ∧ QS w' B X (k + 1) d ∧ Bt B.p w w' := by
  have HI := info_tk
  obtain ⟨W, hW, HR, HB⟩ : ∃ W, W = w.alloc (.cells zTk 68) ∧ Hid (W.heap[w.heap.size]? = some (.cells zTk 68 (0, 0))) ∧ Hid (Below w.heap.size w W) := ⟨_, rfl, Lib.hid (heap_alloc_last w _), Lib.hid (below_new w _)⟩
  have hpw := h.plt
  have H0 := Lib.hid h
  have H := Lib.hid (h.after HB.out)
  have HH := Lib.hid (fun w h => qneed w B X k d h T hT hk)
  have HS := Lib.hid (fun (w : World) (h : QS w B X k d) => (show Calls Tryz.prog 111 #[.pointer (some ⟨B.p, 0, none⟩), .slice (some ⟨w.heap.size, 0, none⟩) 1 1] (w.alloc (.cells #[.string s] 9)) (fun e w' => e = .returned (.bool true) ∧ Below w.heap.size w w') from qsign_row w B X k d h T hT [s] 1 rfl true hs))
  clear h hT hk hs
  go_enter Tryz.func119, Tryz.ntmps119
  go_upto_region 1 with (fail)
  change Code.wp _ _ _ _ (w.alloc (.cells zTk 68))
  rw [← hW]
  clear hW
  go_wp2_with fail
  refine (HS.out _ H.out).mono ?_
  rintro e w1 ⟨rfl, b1⟩
  have H1 := Lib.hid (H.out.after b1)
  have B1 := Lib.hid (Below.step HB.out b1)
  have HRa : Hid (w1.heap[w.heap.size]? = some (.cells zTk 68 (0, 0))) := Lib.hid (by rw [b1.block _ ((Array.getElem?_eq_some_iff.1 HR.out).1)]; exact HR.out)
  clear b1
  go_wp2_with fail
  refine (HH.out _ H1.out).mono ?_
  rintro e w2 ⟨rfl, hq, hb⟩
  have HR1 : Hid (w2.heap[w.heap.size]? = some (.cells zTk 68 (0, 0))) := Lib.hid (by rw [hb.block _ (Array.getElem?_eq_some_iff.1 HRa.out).1 (by omega)]; exact HRa.out)
  have HQ := Lib.hid hq
  have HBt := Lib.hid ((Bt.of B1.out).trans hb)
  clear hq hb
  go_wp2_with (refine wpList_store_row rfl 68 (.tmp 4) (.tmp 10) rfl w.heap.size (tkA T) rfl rfl 68 zTk HR1.out HI rfl (tka_one _) ?_)
  refine bodyPost_ret (v := .agg (tkA T)) (results_cell_row (by rfl) _ _ w.heap.size 68 _ (0, 0) _ (by rfl) (setRow_heap _ _ _ _ _ _ HR1.out) Tryz.underlying68 (by rfl) HI) rfl ?_
  have hbw : Bt w.heap.size w2 (w2.setRow w.heap.size (tkA T)) := ⟨rfl, rfl, rfl, by simp [World.setRow], fun i _ hi => Go.setRow_other _ _ _ _ hi⟩
  refine ⟨rfl, HQ.out.other hbw (by omega) ?_ ?_ ?_, ?_⟩
  · have := H0.out.toks.lt; omega
  · have := H0.out.clt; omega
  · have := H0.out.mlt; omega
  · exact ⟨HBt.out.os, HBt.out.tape, HBt.out.output, by simp [World.setRow]; exact HBt.out.size, fun i hi hip => by rw [Go.setRow_other _ _ _ _ (by omega)]; exact HBt.out.block i hi hip⟩
set_option maxRecDepth 100000 in
theorem qname (w : World) (B : Bk) (X : Tx) (k : Nat) (d : Int) (h : QS w B X k d) (T : Tp) (hT : X.L[k]? = some T) (hk : k + 1 < X.L.length) (h5 : (T.1 == 5) = true) :
    Calls Tryz.prog 168 #[.pointer (some ⟨B.p, 0, none⟩)] w fun e w' => e = .returned (.string ⟨T.2.1.toArray⟩) ∧ QS w' B X (k + 1) d ∧ Bt B.p w w' := by
  have H := Lib.hid h
  have HH := Lib.hid (fun w h => qneed w B X k d h T hT hk)
  have HS := Lib.hid (fun w h => qis w B X k d h T hT 5)
  rw [h5] at HS
  have f1 := qfield1 T
  clear h hT hk h5
  go_enter Tryz.func168, Tryz.ntmps168
  go_wp2_with fail
  refine (HS.out _ H.out).mono ?_
  rintro e w1 ⟨rfl, b1⟩
  have H1 := Lib.hid (H.out.after b1)
  have B1 := Lib.hid b1
  clear b1
  go_wp2_with fail
  refine (HH.out _ H1.out).mono ?_
  rintro e w2 ⟨rfl, hq, hb⟩
  have HQ := Lib.hid hq
  have HBt := Lib.hid ((Bt.of B1.out).trans hb)
  clear hq hb
  go_wp2_with fail
  go_ret
  exact ⟨rfl, HQ.out, HBt.out⟩
set_option maxRecDepth 100000 in
theorem qnode (w : World) (B : Bk) (X : Tx) (k : Nat) (d : Int) (h : QS w B X k d) (T : Tp) (hT : X.L[k]? = some T) (q : Int) :
    Calls Tryz.prog 136 #[.pointer (some ⟨B.p, 0, none⟩), .int .i64 q] w fun e w' => e = .returned (.agg (ndC q ⟨#[]⟩ 0 (T.2.2 : Nat) (.slice none 0 0) (.slice none 0 0))) ∧ Below w.heap.size w w' := by
  have HI := info_nd
  obtain ⟨W, hW, hX, hB, hsz⟩ := nd_box w zeroN
  have H := Lib.hid (h.after hB.out)
  have HH := Lib.hid (fun w h => qhere w B X k d h T hT)
  have f2 := qfield2 T
  clear h hT
  go_enter Tryz.func136, Tryz.ntmps136
  go_upto_region 1 with (fail)
  change Code.wp _ _ _ _ (w.alloc (Obj.cells zeroN 25))
  rw [← hW]
  clear hW
  go_wp2_with fail
  refine (HH.out _ H.out).mono ?_
  rintro e w1 ⟨rfl, b1⟩
  have HX := Lib.hid (hX.out.after b1)
  have B1 := Lib.hid (Below.step hB.out b1)
  clear b1
  go_wp2_with (refine wpList_store_row rfl 25 (.tmp 4) (.tmp 9) rfl w.heap.size (ndC q ⟨#[]⟩ 0 (T.2.2 : Nat) (.slice none 0 0) (.slice none 0 0)) rfl rfl 25 zeroN HX.out.row HI rfl (nd_one _ _ _ _ _ _ _ _ _ _) ?_)
  refine bodyPost_ret (v := .agg (ndC q ⟨#[]⟩ 0 (T.2.2 : Nat) (.slice none 0 0) (.slice none 0 0))) (results_cell_row (by rfl) _ _ w.heap.size 25 _ (0, 0) _ (by rfl) (HX.out.setRow _).row Tryz.underlying25 (by rfl) HI) rfl ⟨rfl, ?_⟩
  exact below_setRow B1.out (Nat.le_refl _) _
set_option maxRecDepth 100000 in
theorem qlines (w : World) (B : Bk) (X : Tx) (k : Nat) (d : Int) (h : QS w B X k d) (T : Tp) (hT : X.L[k]? = some T) (h1 : (T.1 == 1) = false) :
    Calls Tryz.prog 117 #[.pointer (some ⟨B.p, 0, none⟩)] w fun e w' => e = .returned (.tuple #[]) ∧ Below w.heap.size w w' := by
  have HT := Lib.hid (qis w B X k d h T hT 1)
  rw [h1] at HT
  clear h hT h1
  go_enter Tryz.func117, Tryz.ntmps117
  go_wp2_with fail
  refine wp_loop_rounds 1 ?_
  rw [rounds_succ]
  go_wp2_with fail
  refine HT.out.mono ?_
  rintro e w1 ⟨rfl, b1⟩
  have B1 := Lib.hid b1
  clear b1
  go_wp2_with fail
  go_end0
  exact ⟨rfl, B1.out⟩
set_option maxRecDepth 100000 in
theorem qend (w : World) (B : Bk) (X : Tx) (k : Nat) (d : Int) (h : QS w B X k d) (T : Tp) (hT : X.L[k]? = some T) (h1 : (T.1 == 0) = true) :
    Calls Tryz.prog 39 #[.pointer (some ⟨B.p, 0, none⟩)] w fun e w' => e = .returned (.tuple #[]) ∧ Below w.heap.size w w' := by
  have HT := Lib.hid (qis w B X k d h T hT 0)
  rw [h1] at HT
  clear h hT h1
  go_enter Tryz.func39, Tryz.ntmps39
  go_wp2_with fail
  refine HT.out.mono ?_
  rintro e w1 ⟨rfl, b1⟩
  have B1 := Lib.hid b1
  clear b1
  go_wp2_with fail
  go_end0
  exact ⟨rfl, B1.out⟩
set_option maxRecDepth 100000 in
theorem qbegin (w : World) (B : Bk) (X : Tx) (k : Nat) (d : Int) (h : QS w B X k d) (hd : d ≤ 200) :
    Calls Tryz.prog 79 #[.pointer (some ⟨B.p, 0, none⟩), .bool true] w fun e w' => e = .returned (.tuple #[]) ∧ w' = w := by
  have c4 := h.c4
  have hb : decide ((200 : Int) < d) = false := decide_eq_false (by omega)
  clear h hd
  go_enter Tryz.func79, Tryz.ntmps79
  go_wp2_with fail
  go_end0
  exact ⟨rfl, rfl⟩
set_option maxRecDepth 100000 in
theorem qanother_num (w : World) (B : Bk) (X : Tx) (k : Nat) (d : Int) (h : QS w B X k d) (T : Tp) (hT : X.L[k]? = some T) (k2 : (T.1 == 2) = true) :
    Calls Tryz.prog 110 #[.pointer (some ⟨B.p, 0, none⟩)] w fun e w' => e = .returned (.bool true) ∧ Below w.heap.size w w' := by
  have H := Lib.hid h
  have HT := Lib.hid (fun w h => qhere w B X k d h T hT)
  have f0 := qfield0 T
  clear h hT
  go_enter Tryz.func110, Tryz.ntmps110
  go_wp2_with fail
  refine (HT.out _ H.out).mono ?_
  rintro e w1 ⟨rfl, b1⟩
  have H1 := Lib.hid (H.out.after b1)
  have B1 := Lib.hid (b1)
  clear b1
  go_wp2_with fail
  go_ret
  exact ⟨rfl, B1.out⟩
set_option maxRecDepth 100000 in
theorem qanother_name (w : World) (B : Bk) (X : Tx) (k : Nat) (d : Int) (h : QS w B X k d) (T : Tp) (hT : X.L[k]? = some T) (k2 : (T.1 == 2) = false) (k3 : (T.1 == 3) = false) (k5 : (T.1 == 5) = true) :
    Calls Tryz.prog 110 #[.pointer (some ⟨B.p, 0, none⟩)] w fun e w' => e = .returned (.bool true) ∧ Below w.heap.size w w' := by
  have H := Lib.hid h
  have HT := Lib.hid (fun w h => qhere w B X k d h T hT)
  have f0 := qfield0 T
  clear h hT
  go_enter Tryz.func110, Tryz.ntmps110
  go_wp2_with fail
  refine (HT.out _ H.out).mono ?_
  rintro e w1 ⟨rfl, b1⟩
  have H1 := Lib.hid (H.out.after b1)
  have B1 := Lib.hid (b1)
  clear b1
  go_wp2_with fail
  go_ret
  exact ⟨rfl, B1.out⟩
set_option maxRecDepth 100000 in
theorem qanother_sign (w : World) (B : Bk) (X : Tx) (k : Nat) (d : Int) (h : QS w B X k d) (T : Tp) (hT : X.L[k]? = some T) (k2 : (T.1 == 2) = false) (k3 : (T.1 == 3) = false) (k5 : (T.1 == 5) = false) (k6 : (T.1 == 6) = false) (k8 : (T.1 == 8) = false) (r : Bool) (hs : sgB [⟨#[36]⟩, ⟨#[40]⟩, ⟨#[43, 43]⟩, ⟨#[45, 45]⟩] T = r) :
    Calls Tryz.prog 110 #[.pointer (some ⟨B.p, 0, none⟩)] w fun e w' => e = .returned (.bool r) ∧ Below w.heap.size w w' := by
  have H := Lib.hid h
  have HT := Lib.hid (fun w h => qhere w B X k d h T hT)
  have f0 := qfield0 T
  have HS := Lib.hid (fun (w : World) (h : QS w B X k d) => (show Calls Tryz.prog 111 #[.pointer (some ⟨B.p, 0, none⟩), .slice (some ⟨w.heap.size, 0, none⟩) 4 4] (w.alloc (.cells #[.string ⟨#[36]⟩, .string ⟨#[40]⟩, .string ⟨#[43, 43]⟩, .string ⟨#[45, 45]⟩] 9)) (fun e w' => e = .returned (.bool r) ∧ Below w.heap.size w w') from qsign_row w B X k d h T hT [⟨#[36]⟩, ⟨#[40]⟩, ⟨#[43, 43]⟩, ⟨#[45, 45]⟩] 4 rfl r hs))
  clear h hT hs
  go_enter Tryz.func110, Tryz.ntmps110
  go_wp2_with fail
  refine (HT.out _ H.out).mono ?_
  rintro e w1 ⟨rfl, b1⟩
  have H1 := Lib.hid (H.out.after b1)
  have B1 := Lib.hid (b1)
  clear b1
  go_wp2_with fail
  refine (HS.out _ H1.out).mono ?_
  rintro e w2 ⟨rfl, b2⟩
  have H2 := Lib.hid (H1.out.after b2)
  have B2 := Lib.hid (Below.step B1.out b2)
  clear b2
  go_wp2_with fail
  go_ret
  exact ⟨rfl, B2.out⟩
set_option maxRecDepth 100000 in
theorem qoperand (w : World) (B : Bk) (X : Tx) (k : Nat) (d : Int) (h : QS w B X k d) (ha : ∀ w, QS w B X k d → Calls Tryz.prog 110 #[.pointer (some ⟨B.p, 0, none⟩)] w fun e w' => e = .returned (.bool true) ∧ Below w.heap.size w w') :
    Calls Tryz.prog 80 #[.pointer (some ⟨B.p, 0, none⟩)] w fun e w' => e = .returned (.bool true) ∧ Below w.heap.size w w' := by
  have H := Lib.hid h
  have HA := Lib.hid ha
  clear h ha
  go_enter Tryz.func80, Tryz.ntmps80
  go_wp2_with fail
  refine (HA.out _ H.out).mono ?_
  rintro e w1 ⟨rfl, b1⟩
  have H1 := Lib.hid (H.out.after b1)
  have B1 := Lib.hid (b1)
  clear b1
  go_wp2_with fail
  go_ret
  exact ⟨rfl, B1.out⟩
set_option maxRecDepth 100000 in
theorem qplace_yes (w : World) (B : Bk) (X : Tx) (k : Nat) (d : Int) (h : QS w B X k d) (T : Tp) (hT : X.L[k]? = some T) (h5 : (T.1 == 5) = true) :
    Calls Tryz.prog 113 #[.pointer (some ⟨B.p, 0, none⟩)] w fun e w' => e = .returned (.bool true) ∧ Below w.heap.size w w' := by
  have H := Lib.hid h
  have HA := Lib.hid (fun w h => qis w B X k d h T hT 5)
  rw [h5] at HA
  clear h hT h5
  go_enter Tryz.func113, Tryz.ntmps113
  go_wp2_with fail
  refine (HA.out _ H.out).mono ?_
  rintro e w1 ⟨rfl, b1⟩
  have H1 := Lib.hid (H.out.after b1)
  have B1 := Lib.hid (b1)
  clear b1
  go_wp2_with fail
  go_ret
  exact ⟨rfl, B1.out⟩
set_option maxRecDepth 100000 in
theorem qplace_no (w : World) (B : Bk) (X : Tx) (k : Nat) (d : Int) (h : QS w B X k d) (T : Tp) (hT : X.L[k]? = some T) (h5 : (T.1 == 5) = false) (hs : sgB [⟨#[36]⟩] T = false) :
    Calls Tryz.prog 113 #[.pointer (some ⟨B.p, 0, none⟩)] w fun e w' => e = .returned (.bool false) ∧ Below w.heap.size w w' := by
  have H := Lib.hid h
  have HA := Lib.hid (fun w h => qis w B X k d h T hT 5)
  rw [h5] at HA
  have HS := Lib.hid (fun (w : World) (h : QS w B X k d) => (show Calls Tryz.prog 111 #[.pointer (some ⟨B.p, 0, none⟩), .slice (some ⟨w.heap.size, 0, none⟩) 1 1] (w.alloc (.cells #[.string ⟨#[36]⟩] 9)) (fun e w' => e = .returned (.bool false) ∧ Below w.heap.size w w') from qsign_row w B X k d h T hT [⟨#[36]⟩] 1 rfl false hs))
  clear h hT h5 hs
  go_enter Tryz.func113, Tryz.ntmps113
  go_wp2_with fail
  refine (HA.out _ H.out).mono ?_
  rintro e w1 ⟨rfl, b1⟩
  have H1 := Lib.hid (H.out.after b1)
  have B1 := Lib.hid (b1)
  clear b1
  go_wp2_with fail
  refine (HS.out _ H1.out).mono ?_
  rintro e w2 ⟨rfl, b2⟩
  have H2 := Lib.hid (H1.out.after b2)
  have B2 := Lib.hid (Below.step B1.out b2)
  clear b2
  go_wp2_with fail
  go_ret
  exact ⟨rfl, B2.out⟩
set_option maxRecDepth 100000 in
theorem qbrackets_no (w : World) (B : Bk) (X : Tx) (k : Nat) (d : Int) (h : QS w B X k d) (i : Nat) (U : Tp) (hU : X.L[i]? = some U) (s : ByteArray) (hs : sgB [s] U = false) :
    Calls Tryz.prog 134 #[.pointer (some ⟨B.p, 0, none⟩), .int .i64 i, .string s] w fun e w' => e = .returned (.int .i64 i) ∧ Below w.heap.size w w' := by
  have H := Lib.hid h
  have HS := Lib.hid (fun (w : World) (h : QS w B X k d) => (show Calls Tryz.prog 109 #[.pointer (some ⟨B.p, 0, none⟩), .int .i64 i, .slice (some ⟨w.heap.size, 0, none⟩) 1 1] (w.alloc (.cells #[.string s] 9)) (fun e w' => e = .returned (.bool false) ∧ Below w.heap.size w w') from qsignAt_row w B X k d h i U hU [s] 1 rfl false hs))
  clear h hU hs
  go_enter Tryz.func134, Tryz.ntmps134
  go_wp2_with fail
  refine (HS.out _ H.out).mono ?_
  rintro e w1 ⟨rfl, b1⟩
  have H1 := Lib.hid (H.out.after b1)
  have B1 := Lib.hid (b1)
  clear b1
  go_wp2_with fail
  go_ret
  exact ⟨rfl, B1.out⟩
set_option maxRecDepth 100000 in
theorem qbehind_name (w : World) (B : Bk) (X : Tx) (k : Nat) (d : Int) (h : QS w B X k d) (T : Tp) (hT : X.L[k]? = some T) (U : Tp) (hU : X.L[k + 1]? = some U) (h5 : (T.1 == 5) = true) (hs : sgB [⟨#[91]⟩] U = false) :
    Calls Tryz.prog 114 #[.pointer (some ⟨B.p, 0, none⟩), .int .i64 k] w fun e w' => e = .returned (.int .i64 (k + 1 : Nat)) ∧ Below w.heap.size w w' := by
  have H := Lib.hid h
  have HB := Lib.hid (fun w h => qbrackets_no w B X k d h (k + 1) U hU ⟨#[91]⟩ hs)
  have c0 := h.c0
  obtain ⟨t0, t1, t2⟩ := h.t hT
  have hk := h.lt
  have hf := h.few
  obtain ⟨j, hj⟩ : ∃ j, j = k + 1 := ⟨_, rfl⟩
  have hjk : (k : Int) + 1 = j := by omega
  have hj3 : j ≤ 4000 := by omega
  rw [← hj] at HB ⊢
  clear h hT hU hs hj
  go_enter Tryz.func114, Tryz.ntmps114
  go_wp2_with fail
  refine (HB.out _ H.out).mono ?_
  rintro e w1 ⟨rfl, b1⟩
  have H1 := Lib.hid (H.out.after b1)
  have B1 := Lib.hid (b1)
  clear b1
  go_wp2_with fail
  go_ret
  exact ⟨rfl, B1.out⟩
set_option maxRecDepth 100000 in
theorem qisassign (w : World) (B : Bk) (X : Tx) (k : Nat) (d : Int) (h : QS w B X k d) (T : Tp) (hT : X.L[k]? = some T) (U : Tp) (hU : X.L[k + 1]? = some U) (h5 : (T.1 == 5) = true) (hs : sgB [⟨#[91]⟩] U = false) (r : Bool) (hr : sgB [⟨#[61]⟩, ⟨#[43, 61]⟩, ⟨#[45, 61]⟩, ⟨#[42, 61]⟩, ⟨#[47, 61]⟩, ⟨#[37, 61]⟩] U = r) :
    Calls Tryz.prog 81 #[.pointer (some ⟨B.p, 0, none⟩)] w fun e w' => e = .returned (.bool r) ∧ Below w.heap.size w w' := by
  have H := Lib.hid h
  have HP := Lib.hid (fun w h => qplace_yes w B X k d h T hT h5)
  have HB := Lib.hid (fun w h => qbehind_name w B X k d h T hT U hU h5 hs)
  have HS := Lib.hid (fun (w : World) (h : QS w B X k d) => (show Calls Tryz.prog 109 #[.pointer (some ⟨B.p, 0, none⟩), .int .i64 ((k + 1) : Nat), .slice (some ⟨w.heap.size, 0, none⟩) 6 6] (w.alloc (.cells #[.string ⟨#[61]⟩, .string ⟨#[43, 61]⟩, .string ⟨#[45, 61]⟩, .string ⟨#[42, 61]⟩, .string ⟨#[47, 61]⟩, .string ⟨#[37, 61]⟩] 9)) (fun e w' => e = .returned (.bool r) ∧ Below w.heap.size w w') from qsignAt_row w B X k d h (k + 1) U hU [⟨#[61]⟩, ⟨#[43, 61]⟩, ⟨#[45, 61]⟩, ⟨#[42, 61]⟩, ⟨#[47, 61]⟩, ⟨#[37, 61]⟩] 6 rfl r hr))
  have HC := Lib.hid (fun w (h : QS w B X k d) => h.c3)
  clear h hT hU hs hr h5
  go_enter Tryz.func81, Tryz.ntmps81
  go_wp2_with fail
  refine (HP.out _ H.out).mono ?_
  rintro e w1 ⟨rfl, b1⟩
  have H1 := Lib.hid (H.out.after b1)
  have B1 := Lib.hid (b1)
  clear b1
  have c3 := HC.out _ H1.out
  go_wp2_with fail
  refine (HB.out _ H1.out).mono ?_
  rintro e w2 ⟨rfl, b2⟩
  have H2 := Lib.hid (H1.out.after b2)
  have B2 := Lib.hid (Below.step B1.out b2)
  clear b2
  go_wp2_with fail
  refine (HS.out _ H2.out).mono ?_
  rintro e w3 ⟨rfl, b3⟩
  have H3 := Lib.hid (H2.out.after b3)
  have B3 := Lib.hid (Below.step B2.out b3)
  clear b3
  go_wp2_with fail
  go_ret
  exact ⟨rfl, B3.out⟩
set_option maxRecDepth 100000 in
theorem qisassign_no (w : World) (B : Bk) (X : Tx) (k : Nat) (d : Int) (h : QS w B X k d) (T : Tp) (hT : X.L[k]? = some T) (h5 : (T.1 == 5) = false) (hs : sgB [⟨#[36]⟩] T = false) :
    Calls Tryz.prog 81 #[.pointer (some ⟨B.p, 0, none⟩)] w fun e w' => e = .returned (.bool false) ∧ Below w.heap.size w w' := by
  have H := Lib.hid h
  have HP := Lib.hid (fun w h => qplace_no w B X k d h T hT h5 hs)
  clear h hT h5 hs
  go_enter Tryz.func81, Tryz.ntmps81
  go_wp2_with fail
  refine (HP.out _ H.out).mono ?_
  rintro e w1 ⟨rfl, b1⟩
  have H1 := Lib.hid (H.out.after b1)
  have B1 := Lib.hid (b1)
  clear b1
  go_wp2_with fail
  go_ret
  exact ⟨rfl, B1.out⟩
end Go.Proofs.YtgdlpldngpoadaaGreatDoor
