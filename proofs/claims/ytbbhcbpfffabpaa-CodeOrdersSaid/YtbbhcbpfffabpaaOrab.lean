/- Merged by program: C15J. -/
import Derived.Test.YtbbhcbpfffabpaaOraa
import Derived.Test.YtbbhcbpfffabpaaGba
/- The law CodeOrders over the program's contracts: the walk (gen_c15j.py). -/
namespace Go.Proofs.Ytbbhcbpfffabpaa
open Go.RowKit T3

theorem keepB6 {w0 w1 w2 : World} {a0 a1 a2 a3 a4 a5 : Addr} {v0 v1 v2 v3 v4 v5 : Value} (h : Hid (Below w0.heap.size w0 w1) ∧ w1.cell? a0 = some v0 ∧ w1.cell? a1 = some v1 ∧ w1.cell? a2 = some v2 ∧ w1.cell? a3 = some v3 ∧ w1.cell? a4 = some v4 ∧ w1.cell? a5 = some v5) (hb : Below w1.heap.size w1 w2) :
    Hid (Below w0.heap.size w0 w2) ∧ w2.cell? a0 = some v0 ∧ w2.cell? a1 = some v1 ∧ w2.cell? a2 = some v2 ∧ w2.cell? a3 = some v3 ∧ w2.cell? a4 = some v4 ∧ w2.cell? a5 = some v5 := by
  obtain ⟨h0, e0, e1, e2, e3, e4, e5⟩ := h
  have keep : ∀ {a : Addr} {v : Value}, w1.cell? a = some v → w2.cell? a = some v := fun {a v} e => by rw [hb.cell (p := a) (cell_lt e)]; exact e
  exact ⟨Lib.hid (Below.step h0.out hb), keep e0, keep e1, keep e2, keep e3, keep e4, keep e5⟩
theorem fit_can {k n : Int} {s : ByteArray} (h : fitB k n s = true) : canB k n s = true := by unfold fitB at h; simp at h; exact h.2
theorem turn_ref {k n : Int} {s : ByteArray} {k2 n2 : Int} {s2 : ByteArray} (ha : fitB k n s = true) (hb : fitB k2 n2 s2 = true) : refCmpC k2 n2 s2 k n s = - refCmpC k n s k2 n2 s2 := by
  rw [cmp_ref (fit_can hb) (fit_can ha), cmp_ref (fit_can ha) (fit_can hb), cmpC_turn]
theorem cases_ref {k n : Int} {s : ByteArray} {k2 n2 : Int} {s2 : ByteArray} (ha : fitB k n s = true) (hb : fitB k2 n2 s2 = true) : refCmpC k n s k2 n2 s2 = -1 ∨ refCmpC k n s k2 n2 s2 = 0 ∨ refCmpC k n s k2 n2 s2 = 1 := by
  rw [cmp_ref (fit_can ha) (fit_can hb)]; exact cmpC_cases _ _ _ _ _ _

set_option maxRecDepth 100000 in
set_option maxHeartbeats 4000000 in
theorem orders_below (H : CodeOk) (k n : Int) (s : ByteArray) (k2 n2 : Int) (s2 : ByteArray) (hn : Fits n) (hn2 : Fits n2) (ha : fitB k n s = true) (hb : fitB k2 n2 s2 = true) (hc : refCmpC k n s k2 n2 s2 = -1) (w : World) :
    Calls Try.prog 5 #[.agg (cellC k n s), .agg (cellC k2 n2 s2)] w fun e w' => e = .returned (.bool true) ∧ Below w.heap.size w w' := by
  have hc2 : refCmpC k2 n2 s2 k n s = 1 := by rw [turn_ref ha hb, hc]; rfl
  have H0 := Lib.hid (fun w => is_any H ⟨#[60]⟩ k n s k2 n2 s2 hn hn2 ha hb true (by rw [twoF_60_, hc]; rfl) w)
  have H1 := Lib.hid (fun w => is_any H ⟨#[62, 61]⟩ k n s k2 n2 s2 hn hn2 ha hb false (by rw [twoF_62_61_, hc]; rfl) w)
  have H2 := Lib.hid (fun w => is_any H ⟨#[62]⟩ k n s k2 n2 s2 hn hn2 ha hb false (by rw [twoF_62_, hc]; rfl) w)
  have H3 := Lib.hid (fun w => is_any H ⟨#[60, 61]⟩ k n s k2 n2 s2 hn hn2 ha hb true (by rw [twoF_60_61_, hc]; rfl) w)
  have H4 := Lib.hid (fun w => is_any H ⟨#[61, 61]⟩ k n s k2 n2 s2 hn hn2 ha hb false (by rw [twoF_61_61_, hc]; rfl) w)
  have H5 := Lib.hid (fun w => is_any H ⟨#[33, 61]⟩ k n s k2 n2 s2 hn hn2 ha hb true (by rw [twoF_33_61_, hc]; rfl) w)
  have H6 := Lib.hid (fun w => is_any H ⟨#[62]⟩ k2 n2 s2 k n s hn2 hn hb ha true (by rw [twoF_62_, hc2]; rfl) w)
  have HLV := Lib.hid (fun w => lives15 H w)
  have HF1 := Lib.hid (fun w => by have h := fits_any k n s w; rw [ha] at h; exact h)
  have HF2 := Lib.hid (fun w => by have h := fits_any k2 n2 s2 w; rw [hb] at h; exact h)
  clear H hn hn2 ha hb hc hc2
  obtain ⟨W, hW, HR⟩ := two_new w (cellC k n s) (cellC k2 n2 s2)
  go_enter Try.func5, Try.ntmps5
  go_upto_region 1 with (fail)
  change Code.wp _ _ _ _ ((w.alloc (.cells (cellC k n s) 23)).alloc (.cells (cellC k2 n2 s2) 23))
  rw [← hW]
  clear hW
  obtain ⟨a0, a1, a2⟩ := three_of HR.out.a
  obtain ⟨b0, b1, b2⟩ := three_of HR.out.r
  go_wp2_with fail
  refine (HF1.out _).mono ?_
  rintro e v1 ⟨rfl, bb⟩
  have R1 := Lib.hid (HR.out.after bb)
  clear bb a0 a1 a2 b0 b1 b2 HR
  obtain ⟨a0, a1, a2⟩ := three_of R1.out.a
  obtain ⟨b0, b1, b2⟩ := three_of R1.out.r
  go_wp2_with fail
  refine (HF2.out _).mono ?_
  rintro e v2 ⟨rfl, bb⟩
  have R2 := Lib.hid (R1.out.after bb)
  clear bb a0 a1 a2 b0 b1 b2 R1
  obtain ⟨a0, a1, a2⟩ := three_of R2.out.a
  obtain ⟨b0, b1, b2⟩ := three_of R2.out.r
  go_wp2_with fail
  refine (H0.out _).mono ?_
  rintro e v3 ⟨rfl, bb⟩
  have R3 := Lib.hid (R2.out.after bb)
  clear bb a0 a1 a2 b0 b1 b2 R2
  obtain ⟨a0, a1, a2⟩ := three_of R3.out.a
  obtain ⟨b0, b1, b2⟩ := three_of R3.out.r
  go_wp2_with fail
  refine (H4.out _).mono ?_
  rintro e v4 ⟨rfl, bb⟩
  have R4 := Lib.hid (R3.out.after bb)
  clear bb a0 a1 a2 b0 b1 b2 R3
  obtain ⟨a0, a1, a2⟩ := three_of R4.out.a
  obtain ⟨b0, b1, b2⟩ := three_of R4.out.r
  go_wp2_with fail
  refine (H2.out _).mono ?_
  rintro e v5 ⟨rfl, bb⟩
  have R5 := Lib.hid (R4.out.after bb)
  clear bb a0 a1 a2 b0 b1 b2 R4
  obtain ⟨a0, a1, a2⟩ := three_of R5.out.a
  obtain ⟨b0, b1, b2⟩ := three_of R5.out.r
  go_upto_region 10 with (fail)
  obtain ⟨w3, hw3⟩ : ∃ w3, w3 = v5 := ⟨_, rfl⟩
  rw [← hw3] at R5 a0 a1 a2 b0 b1 b2 ⊢
  clear hw3
  have H_0 : Hid (Hid (Below w3.heap.size w3 w3) ∧ w3.cell? ⟨w.heap.size, 0, none⟩ = some (.int .i64 k) ∧ w3.cell? ⟨w.heap.size, 1, none⟩ = some (.int .i64 n) ∧ w3.cell? ⟨w.heap.size, 2, none⟩ = some (.string s) ∧ w3.cell? ⟨w.heap.size + 1, 0, none⟩ = some (.int .i64 k2) ∧ w3.cell? ⟨w.heap.size + 1, 1, none⟩ = some (.int .i64 n2) ∧ w3.cell? ⟨w.heap.size + 1, 2, none⟩ = some (.string s2)) := Lib.hid ⟨Lib.hid (Below.refl _ _), by simpa using a0, by simpa using a1, by simpa using a2, by simpa using b0, by simpa using b1, by simpa using b2⟩
  clear a0 a1 a2 b0 b1 b2
  refine wp_region_held_drew (S := fun W' => Hid (Below w3.heap.size w3 W') ∧ W'.cell? ⟨w.heap.size, 0, none⟩ = some (.int .i64 k) ∧ W'.cell? ⟨w.heap.size, 1, none⟩ = some (.int .i64 n) ∧ W'.cell? ⟨w.heap.size, 2, none⟩ = some (.string s) ∧ W'.cell? ⟨w.heap.size + 1, 0, none⟩ = some (.int .i64 k2) ∧ W'.cell? ⟨w.heap.size + 1, 1, none⟩ = some (.int .i64 n2) ∧ W'.cell? ⟨w.heap.size + 1, 2, none⟩ = some (.string s2)) (by kernel_rfl) ?_ (fun hS => ?_)
  · exact keepB6 H_0.out (below_drew _)
  clear H_0
  refine takeW (i := 0) (d := 30) (v := .int .i64 1) rfl rfl (by kernel_rfl) (by kernel_rfl) (by kernel_rfl) (fun _ _ _ h => h) (by rfl) (fun w' hSw => by obtain ⟨x_, x0, x1, x2, y0, y1, y2⟩ := hSw; go_simp) hS ?_
  simp only [List.setIfInBounds_toArray, List.set_cons_zero, List.set_cons_succ]
  refine takeW (i := 1) (d := 31) (v := .bool true) rfl rfl (by kernel_rfl) (by kernel_rfl) (by kernel_rfl) (fun _ _ _ h => h) (by rfl) (fun w' hSw => by obtain ⟨x_, x0, x1, x2, y0, y1, y2⟩ := hSw; go_simp) hS ?_
  simp only [List.setIfInBounds_toArray, List.set_cons_zero, List.set_cons_succ]
  refine takeW (i := 2) (d := 32) (v := .bool true) rfl rfl (by kernel_rfl) (by kernel_rfl) (by kernel_rfl) (fun _ _ _ h => h) (by rfl) (fun w' hSw => by obtain ⟨x_, x0, x1, x2, y0, y1, y2⟩ := hSw; go_simp) hS ?_
  simp only [List.setIfInBounds_toArray, List.set_cons_zero, List.set_cons_succ]
  refine takeW (i := 3) (d := 33) (v := .agg #[.int .i64 k, .int .i64 n, .string s]) rfl rfl (by kernel_rfl) (by kernel_rfl) (by kernel_rfl) (fun _ _ _ h => h) (by rfl) (fun w' hSw => by obtain ⟨x_, x0, x1, x2, y0, y1, y2⟩ := hSw; go_simp) hS ?_
  simp only [List.setIfInBounds_toArray, List.set_cons_zero, List.set_cons_succ]
  refine takeW (i := 4) (d := 34) (v := .agg #[.int .i64 k2, .int .i64 n2, .string s2]) rfl rfl (by kernel_rfl) (by kernel_rfl) (by kernel_rfl) (fun _ _ _ h => h) (by rfl) (fun w' hSw => by obtain ⟨x_, x0, x1, x2, y0, y1, y2⟩ := hSw; go_simp) hS ?_
  simp only [List.setIfInBounds_toArray, List.set_cons_zero, List.set_cons_succ]
  refine takeW (i := 6) (d := 36) (v := .agg #[.int .i64 k, .int .i64 n, .string s]) rfl rfl (by kernel_rfl) (by kernel_rfl) (by kernel_rfl) (fun _ _ _ h => h) (by rfl) (fun w' hSw => by obtain ⟨x_, x0, x1, x2, y0, y1, y2⟩ := hSw; go_simp) hS ?_
  simp only [List.setIfInBounds_toArray, List.set_cons_zero, List.set_cons_succ]
  refine takeW (i := 7) (d := 37) (v := .agg #[.int .i64 k2, .int .i64 n2, .string s2]) rfl rfl (by kernel_rfl) (by kernel_rfl) (by kernel_rfl) (fun _ _ _ h => h) (by rfl) (fun w' hSw => by obtain ⟨x_, x0, x1, x2, y0, y1, y2⟩ := hSw; go_simp) hS ?_
  simp only [List.setIfInBounds_toArray, List.set_cons_zero, List.set_cons_succ]
  refine wpAnyH_ready (rs := [5]) (by kernel_rfl) (by simp) ?_
  refine AllReadyH.cons rfl (fun X hX => ?_) (AllReadyH.nil)
  rw [if_pos (by rfl)]
  go_simp
  refine (H0.out _).mono ?_; rintro e w1 ⟨rfl, b1⟩
  go_wp2_with fail
  refine hX.out _ _ (keepB6 hS b1) (fun hS7_5 => ?_)
  clear hX X hS b1
  refine wpAnyH_ready (rs := [8]) (by kernel_rfl) (by simp) ?_
  refine AllReadyH.cons rfl (fun X hX => ?_) (AllReadyH.nil)
  rw [if_pos (by rfl)]
  go_simp
  refine (H1.out _).mono ?_; rintro e w1 ⟨rfl, b1⟩
  go_wp2_with fail
  refine hX.out _ _ (keepB6 hS7_5 b1) (fun hS8_8 => ?_)
  clear hX X hS7_5 b1
  refine takeW (i := 9) (d := 39) (v := .bool true) rfl rfl (by kernel_rfl) (by kernel_rfl) (by kernel_rfl) (fun _ _ _ h => h) (by rfl) (fun w' hSw => by obtain ⟨x_, x0, x1, x2, y0, y1, y2⟩ := hSw; go_simp) hS8_8 ?_
  simp only [List.setIfInBounds_toArray, List.set_cons_zero, List.set_cons_succ]
  refine takeW (i := 10) (d := 40) (v := .bool true) rfl rfl (by kernel_rfl) (by kernel_rfl) (by kernel_rfl) (fun _ _ _ h => h) (by rfl) (fun w' hSw => by obtain ⟨x_, x0, x1, x2, y0, y1, y2⟩ := hSw; go_simp) hS8_8 ?_
  simp only [List.setIfInBounds_toArray, List.set_cons_zero, List.set_cons_succ]
  refine takeW (i := 11) (d := 41) (v := .bool true) rfl rfl (by kernel_rfl) (by kernel_rfl) (by kernel_rfl) (fun _ _ _ h => h) (by rfl) (fun w' hSw => by obtain ⟨x_, x0, x1, x2, y0, y1, y2⟩ := hSw; go_simp) hS8_8 ?_
  simp only [List.setIfInBounds_toArray, List.set_cons_zero, List.set_cons_succ]
  refine takeW (i := 12) (d := 42) (v := .agg #[.int .i64 k, .int .i64 n, .string s]) rfl rfl (by kernel_rfl) (by kernel_rfl) (by kernel_rfl) (fun _ _ _ h => h) (by rfl) (fun w' hSw => by obtain ⟨x_, x0, x1, x2, y0, y1, y2⟩ := hSw; go_simp) hS8_8 ?_
  simp only [List.setIfInBounds_toArray, List.set_cons_zero, List.set_cons_succ]
  refine takeW (i := 13) (d := 43) (v := .agg #[.int .i64 k2, .int .i64 n2, .string s2]) rfl rfl (by kernel_rfl) (by kernel_rfl) (by kernel_rfl) (fun _ _ _ h => h) (by rfl) (fun w' hSw => by obtain ⟨x_, x0, x1, x2, y0, y1, y2⟩ := hSw; go_simp) hS8_8 ?_
  simp only [List.setIfInBounds_toArray, List.set_cons_zero, List.set_cons_succ]
  refine takeW (i := 15) (d := 45) (v := .agg #[.int .i64 k, .int .i64 n, .string s]) rfl rfl (by kernel_rfl) (by kernel_rfl) (by kernel_rfl) (fun _ _ _ h => h) (by rfl) (fun w' hSw => by obtain ⟨x_, x0, x1, x2, y0, y1, y2⟩ := hSw; go_simp) hS8_8 ?_
  simp only [List.setIfInBounds_toArray, List.set_cons_zero, List.set_cons_succ]
  refine takeW (i := 16) (d := 46) (v := .agg #[.int .i64 k2, .int .i64 n2, .string s2]) rfl rfl (by kernel_rfl) (by kernel_rfl) (by kernel_rfl) (fun _ _ _ h => h) (by rfl) (fun w' hSw => by obtain ⟨x_, x0, x1, x2, y0, y1, y2⟩ := hSw; go_simp) hS8_8 ?_
  simp only [List.setIfInBounds_toArray, List.set_cons_zero, List.set_cons_succ]
  refine wpAnyH_ready (rs := [14]) (by kernel_rfl) (by simp) ?_
  refine AllReadyH.cons rfl (fun X hX => ?_) (AllReadyH.nil)
  rw [if_pos (by rfl)]
  go_simp
  refine (H2.out _).mono ?_; rintro e w1 ⟨rfl, b1⟩
  go_wp2_with fail
  refine hX.out _ _ (keepB6 hS8_8 b1) (fun hS16_14 => ?_)
  clear hX X hS8_8 b1
  refine wpAnyH_ready (rs := [17]) (by kernel_rfl) (by simp) ?_
  refine AllReadyH.cons rfl (fun X hX => ?_) (AllReadyH.nil)
  rw [if_pos (by rfl)]
  go_simp
  refine (H3.out _).mono ?_; rintro e w1 ⟨rfl, b1⟩
  go_wp2_with fail
  refine hX.out _ _ (keepB6 hS16_14 b1) (fun hS17_17 => ?_)
  clear hX X hS16_14 b1
  refine takeW (i := 18) (d := 48) (v := .bool true) rfl rfl (by kernel_rfl) (by kernel_rfl) (by kernel_rfl) (fun _ _ _ h => h) (by rfl) (fun w' hSw => by obtain ⟨x_, x0, x1, x2, y0, y1, y2⟩ := hSw; go_simp) hS17_17 ?_
  simp only [List.setIfInBounds_toArray, List.set_cons_zero, List.set_cons_succ]
  refine takeW (i := 19) (d := 49) (v := .bool true) rfl rfl (by kernel_rfl) (by kernel_rfl) (by kernel_rfl) (fun _ _ _ h => h) (by rfl) (fun w' hSw => by obtain ⟨x_, x0, x1, x2, y0, y1, y2⟩ := hSw; go_simp) hS17_17 ?_
  simp only [List.setIfInBounds_toArray, List.set_cons_zero, List.set_cons_succ]
  refine takeW (i := 20) (d := 50) (v := .bool true) rfl rfl (by kernel_rfl) (by kernel_rfl) (by kernel_rfl) (fun _ _ _ h => h) (by rfl) (fun w' hSw => by obtain ⟨x_, x0, x1, x2, y0, y1, y2⟩ := hSw; go_simp) hS17_17 ?_
  simp only [List.setIfInBounds_toArray, List.set_cons_zero, List.set_cons_succ]
  refine takeW (i := 21) (d := 51) (v := .agg #[.int .i64 k, .int .i64 n, .string s]) rfl rfl (by kernel_rfl) (by kernel_rfl) (by kernel_rfl) (fun _ _ _ h => h) (by rfl) (fun w' hSw => by obtain ⟨x_, x0, x1, x2, y0, y1, y2⟩ := hSw; go_simp) hS17_17 ?_
  simp only [List.setIfInBounds_toArray, List.set_cons_zero, List.set_cons_succ]
  refine takeW (i := 22) (d := 52) (v := .agg #[.int .i64 k2, .int .i64 n2, .string s2]) rfl rfl (by kernel_rfl) (by kernel_rfl) (by kernel_rfl) (fun _ _ _ h => h) (by rfl) (fun w' hSw => by obtain ⟨x_, x0, x1, x2, y0, y1, y2⟩ := hSw; go_simp) hS17_17 ?_
  simp only [List.setIfInBounds_toArray, List.set_cons_zero, List.set_cons_succ]
  refine takeW (i := 24) (d := 54) (v := .agg #[.int .i64 k, .int .i64 n, .string s]) rfl rfl (by kernel_rfl) (by kernel_rfl) (by kernel_rfl) (fun _ _ _ h => h) (by rfl) (fun w' hSw => by obtain ⟨x_, x0, x1, x2, y0, y1, y2⟩ := hSw; go_simp) hS17_17 ?_
  simp only [List.setIfInBounds_toArray, List.set_cons_zero, List.set_cons_succ]
  refine takeW (i := 25) (d := 55) (v := .agg #[.int .i64 k2, .int .i64 n2, .string s2]) rfl rfl (by kernel_rfl) (by kernel_rfl) (by kernel_rfl) (fun _ _ _ h => h) (by rfl) (fun w' hSw => by obtain ⟨x_, x0, x1, x2, y0, y1, y2⟩ := hSw; go_simp) hS17_17 ?_
  simp only [List.setIfInBounds_toArray, List.set_cons_zero, List.set_cons_succ]
  refine wpAnyH_ready (rs := [23]) (by kernel_rfl) (by simp) ?_
  refine AllReadyH.cons rfl (fun X hX => ?_) (AllReadyH.nil)
  rw [if_pos (by rfl)]
  go_simp
  refine (H4.out _).mono ?_; rintro e w1 ⟨rfl, b1⟩
  go_wp2_with fail
  refine hX.out _ _ (keepB6 hS17_17 b1) (fun hS25_23 => ?_)
  clear hX X hS17_17 b1
  refine wpAnyH_ready (rs := [26]) (by kernel_rfl) (by simp) ?_
  refine AllReadyH.cons rfl (fun X hX => ?_) (AllReadyH.nil)
  rw [if_pos (by rfl)]
  go_simp
  refine (H5.out _).mono ?_; rintro e w1 ⟨rfl, b1⟩
  go_wp2_with fail
  refine hX.out _ _ (keepB6 hS25_23 b1) (fun hS26_26 => ?_)
  clear hX X hS25_23 b1
  refine takeW (i := 27) (d := 57) (v := .bool true) rfl rfl (by kernel_rfl) (by kernel_rfl) (by kernel_rfl) (fun _ _ _ h => h) (by rfl) (fun w' hSw => by obtain ⟨x_, x0, x1, x2, y0, y1, y2⟩ := hSw; go_simp) hS26_26 ?_
  simp only [List.setIfInBounds_toArray, List.set_cons_zero, List.set_cons_succ]
  refine takeW (i := 28) (d := 58) (v := .bool true) rfl rfl (by kernel_rfl) (by kernel_rfl) (by kernel_rfl) (fun _ _ _ h => h) (by rfl) (fun w' hSw => by obtain ⟨x_, x0, x1, x2, y0, y1, y2⟩ := hSw; go_simp) hS26_26 ?_
  simp only [List.setIfInBounds_toArray, List.set_cons_zero, List.set_cons_succ]
  refine takeW (i := 29) (d := 59) (v := .bool true) rfl rfl (by kernel_rfl) (by kernel_rfl) (by kernel_rfl) (fun _ _ _ h => h) (by rfl) (fun w' hSw => by obtain ⟨x_, x0, x1, x2, y0, y1, y2⟩ := hSw; go_simp) hS26_26 ?_
  simp only [List.setIfInBounds_toArray, List.set_cons_zero, List.set_cons_succ]
  refine takeW (i := 30) (d := 60) (v := .agg #[.int .i64 k, .int .i64 n, .string s]) rfl rfl (by kernel_rfl) (by kernel_rfl) (by kernel_rfl) (fun _ _ _ h => h) (by rfl) (fun w' hSw => by obtain ⟨x_, x0, x1, x2, y0, y1, y2⟩ := hSw; go_simp) hS26_26 ?_
  simp only [List.setIfInBounds_toArray, List.set_cons_zero, List.set_cons_succ]
  refine takeW (i := 31) (d := 61) (v := .agg #[.int .i64 k2, .int .i64 n2, .string s2]) rfl rfl (by kernel_rfl) (by kernel_rfl) (by kernel_rfl) (fun _ _ _ h => h) (by rfl) (fun w' hSw => by obtain ⟨x_, x0, x1, x2, y0, y1, y2⟩ := hSw; go_simp) hS26_26 ?_
  simp only [List.setIfInBounds_toArray, List.set_cons_zero, List.set_cons_succ]
  refine takeW (i := 33) (d := 63) (v := .agg #[.int .i64 k2, .int .i64 n2, .string s2]) rfl rfl (by kernel_rfl) (by kernel_rfl) (by kernel_rfl) (fun _ _ _ h => h) (by rfl) (fun w' hSw => by obtain ⟨x_, x0, x1, x2, y0, y1, y2⟩ := hSw; go_simp) hS26_26 ?_
  simp only [List.setIfInBounds_toArray, List.set_cons_zero, List.set_cons_succ]
  refine takeW (i := 34) (d := 64) (v := .agg #[.int .i64 k, .int .i64 n, .string s]) rfl rfl (by kernel_rfl) (by kernel_rfl) (by kernel_rfl) (fun _ _ _ h => h) (by rfl) (fun w' hSw => by obtain ⟨x_, x0, x1, x2, y0, y1, y2⟩ := hSw; go_simp) hS26_26 ?_
  simp only [List.setIfInBounds_toArray, List.set_cons_zero, List.set_cons_succ]
  refine wpAnyH_ready (rs := [32]) (by kernel_rfl) (by simp) ?_
  refine AllReadyH.cons rfl (fun X hX => ?_) (AllReadyH.nil)
  rw [if_pos (by rfl)]
  go_simp
  refine (H0.out _).mono ?_; rintro e w1 ⟨rfl, b1⟩
  go_wp2_with fail
  refine hX.out _ _ (keepB6 hS26_26 b1) (fun hS34_32 => ?_)
  clear hX X hS26_26 b1
  refine wpAnyH_ready (rs := [35]) (by kernel_rfl) (by simp) ?_
  refine AllReadyH.cons rfl (fun X hX => ?_) (AllReadyH.nil)
  rw [if_pos (by rfl)]
  go_simp
  refine (H6.out _).mono ?_; rintro e w1 ⟨rfl, b1⟩
  go_wp2_with fail
  refine hX.out _ _ (keepB6 hS34_32 b1) (fun hS35_35 => ?_)
  clear hX X hS34_32 b1
  refine takeW (i := 36) (d := 66) (v := .bool true) rfl rfl (by kernel_rfl) (by kernel_rfl) (by kernel_rfl) (fun _ _ _ h => h) (by rfl) (fun w' hSw => by obtain ⟨x_, x0, x1, x2, y0, y1, y2⟩ := hSw; go_simp) hS35_35 ?_
  simp only [List.setIfInBounds_toArray, List.set_cons_zero, List.set_cons_succ]
  refine takeW (i := 37) (d := 67) (v := .bool true) rfl rfl (by kernel_rfl) (by kernel_rfl) (by kernel_rfl) (fun _ _ _ h => h) (by rfl) (fun w' hSw => by obtain ⟨x_, x0, x1, x2, y0, y1, y2⟩ := hSw; go_simp) hS35_35 ?_
  simp only [List.setIfInBounds_toArray, List.set_cons_zero, List.set_cons_succ]
  refine takeW (i := 38) (d := 68) (v := .bool true) rfl rfl (by kernel_rfl) (by kernel_rfl) (by kernel_rfl) (fun _ _ _ h => h) (by rfl) (fun w' hSw => by obtain ⟨x_, x0, x1, x2, y0, y1, y2⟩ := hSw; go_simp) hS35_35 ?_
  simp only [List.setIfInBounds_toArray, List.set_cons_zero, List.set_cons_succ]
  refine wpAnyH_ready (rs := [39]) (by kernel_rfl) (by simp) ?_
  refine AllReadyH.cons rfl (fun X hX => ?_) (AllReadyH.nil)
  rw [if_pos (by rfl)]
  go_simp
  refine (HLV.out _).mono ?_; rintro e w1 ⟨rfl, b1⟩
  go_wp2_with fail
  refine hX.out _ _ (keepB6 hS35_35 b1) (fun hS39_39 => ?_)
  clear hX X hS35_35 b1
  refine takeW (i := 40) (d := 70) (v := .bool true) rfl rfl (by kernel_rfl) (by kernel_rfl) (by kernel_rfl) (fun _ _ _ h => h) (by rfl) (fun w' hSw => by obtain ⟨x_, x0, x1, x2, y0, y1, y2⟩ := hSw; go_simp) hS39_39 ?_
  simp only [List.setIfInBounds_toArray, List.set_cons_zero, List.set_cons_succ]
  refine takeW (i := 41) (d := 4) (v := .bool true) rfl rfl (by kernel_rfl) (by kernel_rfl) (by kernel_rfl) (fun _ _ _ h => h) (by rfl) (fun w' hSw => by obtain ⟨x_, x0, x1, x2, y0, y1, y2⟩ := hSw; go_simp) hS39_39 ?_
  simp only [List.setIfInBounds_toArray, List.set_cons_zero, List.set_cons_succ]
  refine wpAnyH_done (by kernel_rfl) ?_ _
  have HEE := hS39_39.1
  clear hS39_39
  go_wp2_with fail
  go_ret
  exact ⟨rfl, Below.step R5.out.below HEE.out⟩

set_option maxRecDepth 100000 in
set_option maxHeartbeats 4000000 in
theorem orders_same (H : CodeOk) (k n : Int) (s : ByteArray) (k2 n2 : Int) (s2 : ByteArray) (hn : Fits n) (hn2 : Fits n2) (ha : fitB k n s = true) (hb : fitB k2 n2 s2 = true) (hc : refCmpC k n s k2 n2 s2 = 0) (w : World) :
    Calls Try.prog 5 #[.agg (cellC k n s), .agg (cellC k2 n2 s2)] w fun e w' => e = .returned (.bool true) ∧ Below w.heap.size w w' := by
  have hc2 : refCmpC k2 n2 s2 k n s = 0 := by rw [turn_ref ha hb, hc]; rfl
  have H0 := Lib.hid (fun w => is_any H ⟨#[60]⟩ k n s k2 n2 s2 hn hn2 ha hb false (by rw [twoF_60_, hc]; rfl) w)
  have H1 := Lib.hid (fun w => is_any H ⟨#[62, 61]⟩ k n s k2 n2 s2 hn hn2 ha hb true (by rw [twoF_62_61_, hc]; rfl) w)
  have H2 := Lib.hid (fun w => is_any H ⟨#[62]⟩ k n s k2 n2 s2 hn hn2 ha hb false (by rw [twoF_62_, hc]; rfl) w)
  have H3 := Lib.hid (fun w => is_any H ⟨#[60, 61]⟩ k n s k2 n2 s2 hn hn2 ha hb true (by rw [twoF_60_61_, hc]; rfl) w)
  have H4 := Lib.hid (fun w => is_any H ⟨#[61, 61]⟩ k n s k2 n2 s2 hn hn2 ha hb true (by rw [twoF_61_61_, hc]; rfl) w)
  have H5 := Lib.hid (fun w => is_any H ⟨#[33, 61]⟩ k n s k2 n2 s2 hn hn2 ha hb false (by rw [twoF_33_61_, hc]; rfl) w)
  have H6 := Lib.hid (fun w => is_any H ⟨#[62]⟩ k2 n2 s2 k n s hn2 hn hb ha false (by rw [twoF_62_, hc2]; rfl) w)
  have HLV := Lib.hid (fun w => lives15 H w)
  have HF1 := Lib.hid (fun w => by have h := fits_any k n s w; rw [ha] at h; exact h)
  have HF2 := Lib.hid (fun w => by have h := fits_any k2 n2 s2 w; rw [hb] at h; exact h)
  clear H hn hn2 ha hb hc hc2
  obtain ⟨W, hW, HR⟩ := two_new w (cellC k n s) (cellC k2 n2 s2)
  go_enter Try.func5, Try.ntmps5
  go_upto_region 1 with (fail)
  change Code.wp _ _ _ _ ((w.alloc (.cells (cellC k n s) 23)).alloc (.cells (cellC k2 n2 s2) 23))
  rw [← hW]
  clear hW
  obtain ⟨a0, a1, a2⟩ := three_of HR.out.a
  obtain ⟨b0, b1, b2⟩ := three_of HR.out.r
  go_wp2_with fail
  refine (HF1.out _).mono ?_
  rintro e v1 ⟨rfl, bb⟩
  have R1 := Lib.hid (HR.out.after bb)
  clear bb a0 a1 a2 b0 b1 b2 HR
  obtain ⟨a0, a1, a2⟩ := three_of R1.out.a
  obtain ⟨b0, b1, b2⟩ := three_of R1.out.r
  go_wp2_with fail
  refine (HF2.out _).mono ?_
  rintro e v2 ⟨rfl, bb⟩
  have R2 := Lib.hid (R1.out.after bb)
  clear bb a0 a1 a2 b0 b1 b2 R1
  obtain ⟨a0, a1, a2⟩ := three_of R2.out.a
  obtain ⟨b0, b1, b2⟩ := three_of R2.out.r
  go_wp2_with fail
  refine (H0.out _).mono ?_
  rintro e v3 ⟨rfl, bb⟩
  have R3 := Lib.hid (R2.out.after bb)
  clear bb a0 a1 a2 b0 b1 b2 R2
  obtain ⟨a0, a1, a2⟩ := three_of R3.out.a
  obtain ⟨b0, b1, b2⟩ := three_of R3.out.r
  go_wp2_with fail
  refine (H4.out _).mono ?_
  rintro e v4 ⟨rfl, bb⟩
  have R4 := Lib.hid (R3.out.after bb)
  clear bb a0 a1 a2 b0 b1 b2 R3
  obtain ⟨a0, a1, a2⟩ := three_of R4.out.a
  obtain ⟨b0, b1, b2⟩ := three_of R4.out.r
  go_wp2_with fail
  refine (H2.out _).mono ?_
  rintro e v5 ⟨rfl, bb⟩
  have R5 := Lib.hid (R4.out.after bb)
  clear bb a0 a1 a2 b0 b1 b2 R4
  obtain ⟨a0, a1, a2⟩ := three_of R5.out.a
  obtain ⟨b0, b1, b2⟩ := three_of R5.out.r
  go_upto_region 10 with (fail)
  obtain ⟨w3, hw3⟩ : ∃ w3, w3 = v5 := ⟨_, rfl⟩
  rw [← hw3] at R5 a0 a1 a2 b0 b1 b2 ⊢
  clear hw3
  have H_0 : Hid (Hid (Below w3.heap.size w3 w3) ∧ w3.cell? ⟨w.heap.size, 0, none⟩ = some (.int .i64 k) ∧ w3.cell? ⟨w.heap.size, 1, none⟩ = some (.int .i64 n) ∧ w3.cell? ⟨w.heap.size, 2, none⟩ = some (.string s) ∧ w3.cell? ⟨w.heap.size + 1, 0, none⟩ = some (.int .i64 k2) ∧ w3.cell? ⟨w.heap.size + 1, 1, none⟩ = some (.int .i64 n2) ∧ w3.cell? ⟨w.heap.size + 1, 2, none⟩ = some (.string s2)) := Lib.hid ⟨Lib.hid (Below.refl _ _), by simpa using a0, by simpa using a1, by simpa using a2, by simpa using b0, by simpa using b1, by simpa using b2⟩
  clear a0 a1 a2 b0 b1 b2
  refine wp_region_held_drew (S := fun W' => Hid (Below w3.heap.size w3 W') ∧ W'.cell? ⟨w.heap.size, 0, none⟩ = some (.int .i64 k) ∧ W'.cell? ⟨w.heap.size, 1, none⟩ = some (.int .i64 n) ∧ W'.cell? ⟨w.heap.size, 2, none⟩ = some (.string s) ∧ W'.cell? ⟨w.heap.size + 1, 0, none⟩ = some (.int .i64 k2) ∧ W'.cell? ⟨w.heap.size + 1, 1, none⟩ = some (.int .i64 n2) ∧ W'.cell? ⟨w.heap.size + 1, 2, none⟩ = some (.string s2)) (by kernel_rfl) ?_ (fun hS => ?_)
  · exact keepB6 H_0.out (below_drew _)
  clear H_0
  refine takeW (i := 0) (d := 30) (v := .int .i64 1) rfl rfl (by kernel_rfl) (by kernel_rfl) (by kernel_rfl) (fun _ _ _ h => h) (by rfl) (fun w' hSw => by obtain ⟨x_, x0, x1, x2, y0, y1, y2⟩ := hSw; go_simp) hS ?_
  simp only [List.setIfInBounds_toArray, List.set_cons_zero, List.set_cons_succ]
  refine takeW (i := 1) (d := 31) (v := .bool true) rfl rfl (by kernel_rfl) (by kernel_rfl) (by kernel_rfl) (fun _ _ _ h => h) (by rfl) (fun w' hSw => by obtain ⟨x_, x0, x1, x2, y0, y1, y2⟩ := hSw; go_simp) hS ?_
  simp only [List.setIfInBounds_toArray, List.set_cons_zero, List.set_cons_succ]
  refine takeW (i := 2) (d := 32) (v := .bool true) rfl rfl (by kernel_rfl) (by kernel_rfl) (by kernel_rfl) (fun _ _ _ h => h) (by rfl) (fun w' hSw => by obtain ⟨x_, x0, x1, x2, y0, y1, y2⟩ := hSw; go_simp) hS ?_
  simp only [List.setIfInBounds_toArray, List.set_cons_zero, List.set_cons_succ]
  refine takeW (i := 3) (d := 33) (v := .agg #[.int .i64 k, .int .i64 n, .string s]) rfl rfl (by kernel_rfl) (by kernel_rfl) (by kernel_rfl) (fun _ _ _ h => h) (by rfl) (fun w' hSw => by obtain ⟨x_, x0, x1, x2, y0, y1, y2⟩ := hSw; go_simp) hS ?_
  simp only [List.setIfInBounds_toArray, List.set_cons_zero, List.set_cons_succ]
  refine takeW (i := 4) (d := 34) (v := .agg #[.int .i64 k2, .int .i64 n2, .string s2]) rfl rfl (by kernel_rfl) (by kernel_rfl) (by kernel_rfl) (fun _ _ _ h => h) (by rfl) (fun w' hSw => by obtain ⟨x_, x0, x1, x2, y0, y1, y2⟩ := hSw; go_simp) hS ?_
  simp only [List.setIfInBounds_toArray, List.set_cons_zero, List.set_cons_succ]
  refine takeW (i := 6) (d := 36) (v := .agg #[.int .i64 k, .int .i64 n, .string s]) rfl rfl (by kernel_rfl) (by kernel_rfl) (by kernel_rfl) (fun _ _ _ h => h) (by rfl) (fun w' hSw => by obtain ⟨x_, x0, x1, x2, y0, y1, y2⟩ := hSw; go_simp) hS ?_
  simp only [List.setIfInBounds_toArray, List.set_cons_zero, List.set_cons_succ]
  refine takeW (i := 7) (d := 37) (v := .agg #[.int .i64 k2, .int .i64 n2, .string s2]) rfl rfl (by kernel_rfl) (by kernel_rfl) (by kernel_rfl) (fun _ _ _ h => h) (by rfl) (fun w' hSw => by obtain ⟨x_, x0, x1, x2, y0, y1, y2⟩ := hSw; go_simp) hS ?_
  simp only [List.setIfInBounds_toArray, List.set_cons_zero, List.set_cons_succ]
  refine wpAnyH_ready (rs := [5]) (by kernel_rfl) (by simp) ?_
  refine AllReadyH.cons rfl (fun X hX => ?_) (AllReadyH.nil)
  rw [if_pos (by rfl)]
  go_simp
  refine (H0.out _).mono ?_; rintro e w1 ⟨rfl, b1⟩
  go_wp2_with fail
  refine hX.out _ _ (keepB6 hS b1) (fun hS7_5 => ?_)
  clear hX X hS b1
  refine wpAnyH_ready (rs := [8]) (by kernel_rfl) (by simp) ?_
  refine AllReadyH.cons rfl (fun X hX => ?_) (AllReadyH.nil)
  rw [if_pos (by rfl)]
  go_simp
  refine (H1.out _).mono ?_; rintro e w1 ⟨rfl, b1⟩
  go_wp2_with fail
  refine hX.out _ _ (keepB6 hS7_5 b1) (fun hS8_8 => ?_)
  clear hX X hS7_5 b1
  refine takeW (i := 9) (d := 39) (v := .bool true) rfl rfl (by kernel_rfl) (by kernel_rfl) (by kernel_rfl) (fun _ _ _ h => h) (by rfl) (fun w' hSw => by obtain ⟨x_, x0, x1, x2, y0, y1, y2⟩ := hSw; go_simp) hS8_8 ?_
  simp only [List.setIfInBounds_toArray, List.set_cons_zero, List.set_cons_succ]
  refine takeW (i := 10) (d := 40) (v := .bool true) rfl rfl (by kernel_rfl) (by kernel_rfl) (by kernel_rfl) (fun _ _ _ h => h) (by rfl) (fun w' hSw => by obtain ⟨x_, x0, x1, x2, y0, y1, y2⟩ := hSw; go_simp) hS8_8 ?_
  simp only [List.setIfInBounds_toArray, List.set_cons_zero, List.set_cons_succ]
  refine takeW (i := 11) (d := 41) (v := .bool true) rfl rfl (by kernel_rfl) (by kernel_rfl) (by kernel_rfl) (fun _ _ _ h => h) (by rfl) (fun w' hSw => by obtain ⟨x_, x0, x1, x2, y0, y1, y2⟩ := hSw; go_simp) hS8_8 ?_
  simp only [List.setIfInBounds_toArray, List.set_cons_zero, List.set_cons_succ]
  refine takeW (i := 12) (d := 42) (v := .agg #[.int .i64 k, .int .i64 n, .string s]) rfl rfl (by kernel_rfl) (by kernel_rfl) (by kernel_rfl) (fun _ _ _ h => h) (by rfl) (fun w' hSw => by obtain ⟨x_, x0, x1, x2, y0, y1, y2⟩ := hSw; go_simp) hS8_8 ?_
  simp only [List.setIfInBounds_toArray, List.set_cons_zero, List.set_cons_succ]
  refine takeW (i := 13) (d := 43) (v := .agg #[.int .i64 k2, .int .i64 n2, .string s2]) rfl rfl (by kernel_rfl) (by kernel_rfl) (by kernel_rfl) (fun _ _ _ h => h) (by rfl) (fun w' hSw => by obtain ⟨x_, x0, x1, x2, y0, y1, y2⟩ := hSw; go_simp) hS8_8 ?_
  simp only [List.setIfInBounds_toArray, List.set_cons_zero, List.set_cons_succ]
  refine takeW (i := 15) (d := 45) (v := .agg #[.int .i64 k, .int .i64 n, .string s]) rfl rfl (by kernel_rfl) (by kernel_rfl) (by kernel_rfl) (fun _ _ _ h => h) (by rfl) (fun w' hSw => by obtain ⟨x_, x0, x1, x2, y0, y1, y2⟩ := hSw; go_simp) hS8_8 ?_
  simp only [List.setIfInBounds_toArray, List.set_cons_zero, List.set_cons_succ]
  refine takeW (i := 16) (d := 46) (v := .agg #[.int .i64 k2, .int .i64 n2, .string s2]) rfl rfl (by kernel_rfl) (by kernel_rfl) (by kernel_rfl) (fun _ _ _ h => h) (by rfl) (fun w' hSw => by obtain ⟨x_, x0, x1, x2, y0, y1, y2⟩ := hSw; go_simp) hS8_8 ?_
  simp only [List.setIfInBounds_toArray, List.set_cons_zero, List.set_cons_succ]
  refine wpAnyH_ready (rs := [14]) (by kernel_rfl) (by simp) ?_
  refine AllReadyH.cons rfl (fun X hX => ?_) (AllReadyH.nil)
  rw [if_pos (by rfl)]
  go_simp
  refine (H2.out _).mono ?_; rintro e w1 ⟨rfl, b1⟩
  go_wp2_with fail
  refine hX.out _ _ (keepB6 hS8_8 b1) (fun hS16_14 => ?_)
  clear hX X hS8_8 b1
  refine wpAnyH_ready (rs := [17]) (by kernel_rfl) (by simp) ?_
  refine AllReadyH.cons rfl (fun X hX => ?_) (AllReadyH.nil)
  rw [if_pos (by rfl)]
  go_simp
  refine (H3.out _).mono ?_; rintro e w1 ⟨rfl, b1⟩
  go_wp2_with fail
  refine hX.out _ _ (keepB6 hS16_14 b1) (fun hS17_17 => ?_)
  clear hX X hS16_14 b1
  refine takeW (i := 18) (d := 48) (v := .bool true) rfl rfl (by kernel_rfl) (by kernel_rfl) (by kernel_rfl) (fun _ _ _ h => h) (by rfl) (fun w' hSw => by obtain ⟨x_, x0, x1, x2, y0, y1, y2⟩ := hSw; go_simp) hS17_17 ?_
  simp only [List.setIfInBounds_toArray, List.set_cons_zero, List.set_cons_succ]
  refine takeW (i := 19) (d := 49) (v := .bool true) rfl rfl (by kernel_rfl) (by kernel_rfl) (by kernel_rfl) (fun _ _ _ h => h) (by rfl) (fun w' hSw => by obtain ⟨x_, x0, x1, x2, y0, y1, y2⟩ := hSw; go_simp) hS17_17 ?_
  simp only [List.setIfInBounds_toArray, List.set_cons_zero, List.set_cons_succ]
  refine takeW (i := 20) (d := 50) (v := .bool true) rfl rfl (by kernel_rfl) (by kernel_rfl) (by kernel_rfl) (fun _ _ _ h => h) (by rfl) (fun w' hSw => by obtain ⟨x_, x0, x1, x2, y0, y1, y2⟩ := hSw; go_simp) hS17_17 ?_
  simp only [List.setIfInBounds_toArray, List.set_cons_zero, List.set_cons_succ]
  refine takeW (i := 21) (d := 51) (v := .agg #[.int .i64 k, .int .i64 n, .string s]) rfl rfl (by kernel_rfl) (by kernel_rfl) (by kernel_rfl) (fun _ _ _ h => h) (by rfl) (fun w' hSw => by obtain ⟨x_, x0, x1, x2, y0, y1, y2⟩ := hSw; go_simp) hS17_17 ?_
  simp only [List.setIfInBounds_toArray, List.set_cons_zero, List.set_cons_succ]
  refine takeW (i := 22) (d := 52) (v := .agg #[.int .i64 k2, .int .i64 n2, .string s2]) rfl rfl (by kernel_rfl) (by kernel_rfl) (by kernel_rfl) (fun _ _ _ h => h) (by rfl) (fun w' hSw => by obtain ⟨x_, x0, x1, x2, y0, y1, y2⟩ := hSw; go_simp) hS17_17 ?_
  simp only [List.setIfInBounds_toArray, List.set_cons_zero, List.set_cons_succ]
  refine takeW (i := 24) (d := 54) (v := .agg #[.int .i64 k, .int .i64 n, .string s]) rfl rfl (by kernel_rfl) (by kernel_rfl) (by kernel_rfl) (fun _ _ _ h => h) (by rfl) (fun w' hSw => by obtain ⟨x_, x0, x1, x2, y0, y1, y2⟩ := hSw; go_simp) hS17_17 ?_
  simp only [List.setIfInBounds_toArray, List.set_cons_zero, List.set_cons_succ]
  refine takeW (i := 25) (d := 55) (v := .agg #[.int .i64 k2, .int .i64 n2, .string s2]) rfl rfl (by kernel_rfl) (by kernel_rfl) (by kernel_rfl) (fun _ _ _ h => h) (by rfl) (fun w' hSw => by obtain ⟨x_, x0, x1, x2, y0, y1, y2⟩ := hSw; go_simp) hS17_17 ?_
  simp only [List.setIfInBounds_toArray, List.set_cons_zero, List.set_cons_succ]
  refine wpAnyH_ready (rs := [23]) (by kernel_rfl) (by simp) ?_
  refine AllReadyH.cons rfl (fun X hX => ?_) (AllReadyH.nil)
  rw [if_pos (by rfl)]
  go_simp
  refine (H4.out _).mono ?_; rintro e w1 ⟨rfl, b1⟩
  go_wp2_with fail
  refine hX.out _ _ (keepB6 hS17_17 b1) (fun hS25_23 => ?_)
  clear hX X hS17_17 b1
  refine wpAnyH_ready (rs := [26]) (by kernel_rfl) (by simp) ?_
  refine AllReadyH.cons rfl (fun X hX => ?_) (AllReadyH.nil)
  rw [if_pos (by rfl)]
  go_simp
  refine (H5.out _).mono ?_; rintro e w1 ⟨rfl, b1⟩
  go_wp2_with fail
  refine hX.out _ _ (keepB6 hS25_23 b1) (fun hS26_26 => ?_)
  clear hX X hS25_23 b1
  refine takeW (i := 27) (d := 57) (v := .bool true) rfl rfl (by kernel_rfl) (by kernel_rfl) (by kernel_rfl) (fun _ _ _ h => h) (by rfl) (fun w' hSw => by obtain ⟨x_, x0, x1, x2, y0, y1, y2⟩ := hSw; go_simp) hS26_26 ?_
  simp only [List.setIfInBounds_toArray, List.set_cons_zero, List.set_cons_succ]
  refine takeW (i := 28) (d := 58) (v := .bool true) rfl rfl (by kernel_rfl) (by kernel_rfl) (by kernel_rfl) (fun _ _ _ h => h) (by rfl) (fun w' hSw => by obtain ⟨x_, x0, x1, x2, y0, y1, y2⟩ := hSw; go_simp) hS26_26 ?_
  simp only [List.setIfInBounds_toArray, List.set_cons_zero, List.set_cons_succ]
  refine takeW (i := 29) (d := 59) (v := .bool true) rfl rfl (by kernel_rfl) (by kernel_rfl) (by kernel_rfl) (fun _ _ _ h => h) (by rfl) (fun w' hSw => by obtain ⟨x_, x0, x1, x2, y0, y1, y2⟩ := hSw; go_simp) hS26_26 ?_
  simp only [List.setIfInBounds_toArray, List.set_cons_zero, List.set_cons_succ]
  refine takeW (i := 30) (d := 60) (v := .agg #[.int .i64 k, .int .i64 n, .string s]) rfl rfl (by kernel_rfl) (by kernel_rfl) (by kernel_rfl) (fun _ _ _ h => h) (by rfl) (fun w' hSw => by obtain ⟨x_, x0, x1, x2, y0, y1, y2⟩ := hSw; go_simp) hS26_26 ?_
  simp only [List.setIfInBounds_toArray, List.set_cons_zero, List.set_cons_succ]
  refine takeW (i := 31) (d := 61) (v := .agg #[.int .i64 k2, .int .i64 n2, .string s2]) rfl rfl (by kernel_rfl) (by kernel_rfl) (by kernel_rfl) (fun _ _ _ h => h) (by rfl) (fun w' hSw => by obtain ⟨x_, x0, x1, x2, y0, y1, y2⟩ := hSw; go_simp) hS26_26 ?_
  simp only [List.setIfInBounds_toArray, List.set_cons_zero, List.set_cons_succ]
  refine takeW (i := 33) (d := 63) (v := .agg #[.int .i64 k2, .int .i64 n2, .string s2]) rfl rfl (by kernel_rfl) (by kernel_rfl) (by kernel_rfl) (fun _ _ _ h => h) (by rfl) (fun w' hSw => by obtain ⟨x_, x0, x1, x2, y0, y1, y2⟩ := hSw; go_simp) hS26_26 ?_
  simp only [List.setIfInBounds_toArray, List.set_cons_zero, List.set_cons_succ]
  refine takeW (i := 34) (d := 64) (v := .agg #[.int .i64 k, .int .i64 n, .string s]) rfl rfl (by kernel_rfl) (by kernel_rfl) (by kernel_rfl) (fun _ _ _ h => h) (by rfl) (fun w' hSw => by obtain ⟨x_, x0, x1, x2, y0, y1, y2⟩ := hSw; go_simp) hS26_26 ?_
  simp only [List.setIfInBounds_toArray, List.set_cons_zero, List.set_cons_succ]
  refine wpAnyH_ready (rs := [32]) (by kernel_rfl) (by simp) ?_
  refine AllReadyH.cons rfl (fun X hX => ?_) (AllReadyH.nil)
  rw [if_pos (by rfl)]
  go_simp
  refine (H0.out _).mono ?_; rintro e w1 ⟨rfl, b1⟩
  go_wp2_with fail
  refine hX.out _ _ (keepB6 hS26_26 b1) (fun hS34_32 => ?_)
  clear hX X hS26_26 b1
  refine wpAnyH_ready (rs := [35]) (by kernel_rfl) (by simp) ?_
  refine AllReadyH.cons rfl (fun X hX => ?_) (AllReadyH.nil)
  rw [if_pos (by rfl)]
  go_simp
  refine (H6.out _).mono ?_; rintro e w1 ⟨rfl, b1⟩
  go_wp2_with fail
  refine hX.out _ _ (keepB6 hS34_32 b1) (fun hS35_35 => ?_)
  clear hX X hS34_32 b1
  refine takeW (i := 36) (d := 66) (v := .bool true) rfl rfl (by kernel_rfl) (by kernel_rfl) (by kernel_rfl) (fun _ _ _ h => h) (by rfl) (fun w' hSw => by obtain ⟨x_, x0, x1, x2, y0, y1, y2⟩ := hSw; go_simp) hS35_35 ?_
  simp only [List.setIfInBounds_toArray, List.set_cons_zero, List.set_cons_succ]
  refine takeW (i := 37) (d := 67) (v := .bool true) rfl rfl (by kernel_rfl) (by kernel_rfl) (by kernel_rfl) (fun _ _ _ h => h) (by rfl) (fun w' hSw => by obtain ⟨x_, x0, x1, x2, y0, y1, y2⟩ := hSw; go_simp) hS35_35 ?_
  simp only [List.setIfInBounds_toArray, List.set_cons_zero, List.set_cons_succ]
  refine takeW (i := 38) (d := 68) (v := .bool true) rfl rfl (by kernel_rfl) (by kernel_rfl) (by kernel_rfl) (fun _ _ _ h => h) (by rfl) (fun w' hSw => by obtain ⟨x_, x0, x1, x2, y0, y1, y2⟩ := hSw; go_simp) hS35_35 ?_
  simp only [List.setIfInBounds_toArray, List.set_cons_zero, List.set_cons_succ]
  refine wpAnyH_ready (rs := [39]) (by kernel_rfl) (by simp) ?_
  refine AllReadyH.cons rfl (fun X hX => ?_) (AllReadyH.nil)
  rw [if_pos (by rfl)]
  go_simp
  refine (HLV.out _).mono ?_; rintro e w1 ⟨rfl, b1⟩
  go_wp2_with fail
  refine hX.out _ _ (keepB6 hS35_35 b1) (fun hS39_39 => ?_)
  clear hX X hS35_35 b1
  refine takeW (i := 40) (d := 70) (v := .bool true) rfl rfl (by kernel_rfl) (by kernel_rfl) (by kernel_rfl) (fun _ _ _ h => h) (by rfl) (fun w' hSw => by obtain ⟨x_, x0, x1, x2, y0, y1, y2⟩ := hSw; go_simp) hS39_39 ?_
  simp only [List.setIfInBounds_toArray, List.set_cons_zero, List.set_cons_succ]
  refine takeW (i := 41) (d := 4) (v := .bool true) rfl rfl (by kernel_rfl) (by kernel_rfl) (by kernel_rfl) (fun _ _ _ h => h) (by rfl) (fun w' hSw => by obtain ⟨x_, x0, x1, x2, y0, y1, y2⟩ := hSw; go_simp) hS39_39 ?_
  simp only [List.setIfInBounds_toArray, List.set_cons_zero, List.set_cons_succ]
  refine wpAnyH_done (by kernel_rfl) ?_ _
  have HEE := hS39_39.1
  clear hS39_39
  go_wp2_with fail
  go_ret
  exact ⟨rfl, Below.step R5.out.below HEE.out⟩

set_option maxRecDepth 100000 in
set_option maxHeartbeats 4000000 in
theorem orders_above (H : CodeOk) (k n : Int) (s : ByteArray) (k2 n2 : Int) (s2 : ByteArray) (hn : Fits n) (hn2 : Fits n2) (ha : fitB k n s = true) (hb : fitB k2 n2 s2 = true) (hc : refCmpC k n s k2 n2 s2 = 1) (w : World) :
    Calls Try.prog 5 #[.agg (cellC k n s), .agg (cellC k2 n2 s2)] w fun e w' => e = .returned (.bool true) ∧ Below w.heap.size w w' := by
  have hc2 : refCmpC k2 n2 s2 k n s = -1 := by rw [turn_ref ha hb, hc]
  have H0 := Lib.hid (fun w => is_any H ⟨#[60]⟩ k n s k2 n2 s2 hn hn2 ha hb false (by rw [twoF_60_, hc]; rfl) w)
  have H1 := Lib.hid (fun w => is_any H ⟨#[62, 61]⟩ k n s k2 n2 s2 hn hn2 ha hb true (by rw [twoF_62_61_, hc]; rfl) w)
  have H2 := Lib.hid (fun w => is_any H ⟨#[62]⟩ k n s k2 n2 s2 hn hn2 ha hb true (by rw [twoF_62_, hc]; rfl) w)
  have H3 := Lib.hid (fun w => is_any H ⟨#[60, 61]⟩ k n s k2 n2 s2 hn hn2 ha hb false (by rw [twoF_60_61_, hc]; rfl) w)
  have H4 := Lib.hid (fun w => is_any H ⟨#[61, 61]⟩ k n s k2 n2 s2 hn hn2 ha hb false (by rw [twoF_61_61_, hc]; rfl) w)
  have H5 := Lib.hid (fun w => is_any H ⟨#[33, 61]⟩ k n s k2 n2 s2 hn hn2 ha hb true (by rw [twoF_33_61_, hc]; rfl) w)
  have H6 := Lib.hid (fun w => is_any H ⟨#[62]⟩ k2 n2 s2 k n s hn2 hn hb ha false (by rw [twoF_62_, hc2]; rfl) w)
  have HLV := Lib.hid (fun w => lives15 H w)
  have HF1 := Lib.hid (fun w => by have h := fits_any k n s w; rw [ha] at h; exact h)
  have HF2 := Lib.hid (fun w => by have h := fits_any k2 n2 s2 w; rw [hb] at h; exact h)
  clear H hn hn2 ha hb hc hc2
  obtain ⟨W, hW, HR⟩ := two_new w (cellC k n s) (cellC k2 n2 s2)
  go_enter Try.func5, Try.ntmps5
  go_upto_region 1 with (fail)
  change Code.wp _ _ _ _ ((w.alloc (.cells (cellC k n s) 23)).alloc (.cells (cellC k2 n2 s2) 23))
  rw [← hW]
  clear hW
  obtain ⟨a0, a1, a2⟩ := three_of HR.out.a
  obtain ⟨b0, b1, b2⟩ := three_of HR.out.r
  go_wp2_with fail
  refine (HF1.out _).mono ?_
  rintro e v1 ⟨rfl, bb⟩
  have R1 := Lib.hid (HR.out.after bb)
  clear bb a0 a1 a2 b0 b1 b2 HR
  obtain ⟨a0, a1, a2⟩ := three_of R1.out.a
  obtain ⟨b0, b1, b2⟩ := three_of R1.out.r
  go_wp2_with fail
  refine (HF2.out _).mono ?_
  rintro e v2 ⟨rfl, bb⟩
  have R2 := Lib.hid (R1.out.after bb)
  clear bb a0 a1 a2 b0 b1 b2 R1
  obtain ⟨a0, a1, a2⟩ := three_of R2.out.a
  obtain ⟨b0, b1, b2⟩ := three_of R2.out.r
  go_wp2_with fail
  refine (H0.out _).mono ?_
  rintro e v3 ⟨rfl, bb⟩
  have R3 := Lib.hid (R2.out.after bb)
  clear bb a0 a1 a2 b0 b1 b2 R2
  obtain ⟨a0, a1, a2⟩ := three_of R3.out.a
  obtain ⟨b0, b1, b2⟩ := three_of R3.out.r
  go_wp2_with fail
  refine (H4.out _).mono ?_
  rintro e v4 ⟨rfl, bb⟩
  have R4 := Lib.hid (R3.out.after bb)
  clear bb a0 a1 a2 b0 b1 b2 R3
  obtain ⟨a0, a1, a2⟩ := three_of R4.out.a
  obtain ⟨b0, b1, b2⟩ := three_of R4.out.r
  go_wp2_with fail
  refine (H2.out _).mono ?_
  rintro e v5 ⟨rfl, bb⟩
  have R5 := Lib.hid (R4.out.after bb)
  clear bb a0 a1 a2 b0 b1 b2 R4
  obtain ⟨a0, a1, a2⟩ := three_of R5.out.a
  obtain ⟨b0, b1, b2⟩ := three_of R5.out.r
  go_upto_region 10 with (fail)
  obtain ⟨w3, hw3⟩ : ∃ w3, w3 = v5 := ⟨_, rfl⟩
  rw [← hw3] at R5 a0 a1 a2 b0 b1 b2 ⊢
  clear hw3
  have H_0 : Hid (Hid (Below w3.heap.size w3 w3) ∧ w3.cell? ⟨w.heap.size, 0, none⟩ = some (.int .i64 k) ∧ w3.cell? ⟨w.heap.size, 1, none⟩ = some (.int .i64 n) ∧ w3.cell? ⟨w.heap.size, 2, none⟩ = some (.string s) ∧ w3.cell? ⟨w.heap.size + 1, 0, none⟩ = some (.int .i64 k2) ∧ w3.cell? ⟨w.heap.size + 1, 1, none⟩ = some (.int .i64 n2) ∧ w3.cell? ⟨w.heap.size + 1, 2, none⟩ = some (.string s2)) := Lib.hid ⟨Lib.hid (Below.refl _ _), by simpa using a0, by simpa using a1, by simpa using a2, by simpa using b0, by simpa using b1, by simpa using b2⟩
  clear a0 a1 a2 b0 b1 b2
  refine wp_region_held_drew (S := fun W' => Hid (Below w3.heap.size w3 W') ∧ W'.cell? ⟨w.heap.size, 0, none⟩ = some (.int .i64 k) ∧ W'.cell? ⟨w.heap.size, 1, none⟩ = some (.int .i64 n) ∧ W'.cell? ⟨w.heap.size, 2, none⟩ = some (.string s) ∧ W'.cell? ⟨w.heap.size + 1, 0, none⟩ = some (.int .i64 k2) ∧ W'.cell? ⟨w.heap.size + 1, 1, none⟩ = some (.int .i64 n2) ∧ W'.cell? ⟨w.heap.size + 1, 2, none⟩ = some (.string s2)) (by kernel_rfl) ?_ (fun hS => ?_)
  · exact keepB6 H_0.out (below_drew _)
  clear H_0
  refine takeW (i := 0) (d := 30) (v := .int .i64 1) rfl rfl (by kernel_rfl) (by kernel_rfl) (by kernel_rfl) (fun _ _ _ h => h) (by rfl) (fun w' hSw => by obtain ⟨x_, x0, x1, x2, y0, y1, y2⟩ := hSw; go_simp) hS ?_
  simp only [List.setIfInBounds_toArray, List.set_cons_zero, List.set_cons_succ]
  refine takeW (i := 1) (d := 31) (v := .bool true) rfl rfl (by kernel_rfl) (by kernel_rfl) (by kernel_rfl) (fun _ _ _ h => h) (by rfl) (fun w' hSw => by obtain ⟨x_, x0, x1, x2, y0, y1, y2⟩ := hSw; go_simp) hS ?_
  simp only [List.setIfInBounds_toArray, List.set_cons_zero, List.set_cons_succ]
  refine takeW (i := 2) (d := 32) (v := .bool true) rfl rfl (by kernel_rfl) (by kernel_rfl) (by kernel_rfl) (fun _ _ _ h => h) (by rfl) (fun w' hSw => by obtain ⟨x_, x0, x1, x2, y0, y1, y2⟩ := hSw; go_simp) hS ?_
  simp only [List.setIfInBounds_toArray, List.set_cons_zero, List.set_cons_succ]
  refine takeW (i := 3) (d := 33) (v := .agg #[.int .i64 k, .int .i64 n, .string s]) rfl rfl (by kernel_rfl) (by kernel_rfl) (by kernel_rfl) (fun _ _ _ h => h) (by rfl) (fun w' hSw => by obtain ⟨x_, x0, x1, x2, y0, y1, y2⟩ := hSw; go_simp) hS ?_
  simp only [List.setIfInBounds_toArray, List.set_cons_zero, List.set_cons_succ]
  refine takeW (i := 4) (d := 34) (v := .agg #[.int .i64 k2, .int .i64 n2, .string s2]) rfl rfl (by kernel_rfl) (by kernel_rfl) (by kernel_rfl) (fun _ _ _ h => h) (by rfl) (fun w' hSw => by obtain ⟨x_, x0, x1, x2, y0, y1, y2⟩ := hSw; go_simp) hS ?_
  simp only [List.setIfInBounds_toArray, List.set_cons_zero, List.set_cons_succ]
  refine takeW (i := 6) (d := 36) (v := .agg #[.int .i64 k, .int .i64 n, .string s]) rfl rfl (by kernel_rfl) (by kernel_rfl) (by kernel_rfl) (fun _ _ _ h => h) (by rfl) (fun w' hSw => by obtain ⟨x_, x0, x1, x2, y0, y1, y2⟩ := hSw; go_simp) hS ?_
  simp only [List.setIfInBounds_toArray, List.set_cons_zero, List.set_cons_succ]
  refine takeW (i := 7) (d := 37) (v := .agg #[.int .i64 k2, .int .i64 n2, .string s2]) rfl rfl (by kernel_rfl) (by kernel_rfl) (by kernel_rfl) (fun _ _ _ h => h) (by rfl) (fun w' hSw => by obtain ⟨x_, x0, x1, x2, y0, y1, y2⟩ := hSw; go_simp) hS ?_
  simp only [List.setIfInBounds_toArray, List.set_cons_zero, List.set_cons_succ]
  refine wpAnyH_ready (rs := [5]) (by kernel_rfl) (by simp) ?_
  refine AllReadyH.cons rfl (fun X hX => ?_) (AllReadyH.nil)
  rw [if_pos (by rfl)]
  go_simp
  refine (H0.out _).mono ?_; rintro e w1 ⟨rfl, b1⟩
  go_wp2_with fail
  refine hX.out _ _ (keepB6 hS b1) (fun hS7_5 => ?_)
  clear hX X hS b1
  refine wpAnyH_ready (rs := [8]) (by kernel_rfl) (by simp) ?_
  refine AllReadyH.cons rfl (fun X hX => ?_) (AllReadyH.nil)
  rw [if_pos (by rfl)]
  go_simp
  refine (H1.out _).mono ?_; rintro e w1 ⟨rfl, b1⟩
  go_wp2_with fail
  refine hX.out _ _ (keepB6 hS7_5 b1) (fun hS8_8 => ?_)
  clear hX X hS7_5 b1
  refine takeW (i := 9) (d := 39) (v := .bool true) rfl rfl (by kernel_rfl) (by kernel_rfl) (by kernel_rfl) (fun _ _ _ h => h) (by rfl) (fun w' hSw => by obtain ⟨x_, x0, x1, x2, y0, y1, y2⟩ := hSw; go_simp) hS8_8 ?_
  simp only [List.setIfInBounds_toArray, List.set_cons_zero, List.set_cons_succ]
  refine takeW (i := 10) (d := 40) (v := .bool true) rfl rfl (by kernel_rfl) (by kernel_rfl) (by kernel_rfl) (fun _ _ _ h => h) (by rfl) (fun w' hSw => by obtain ⟨x_, x0, x1, x2, y0, y1, y2⟩ := hSw; go_simp) hS8_8 ?_
  simp only [List.setIfInBounds_toArray, List.set_cons_zero, List.set_cons_succ]
  refine takeW (i := 11) (d := 41) (v := .bool true) rfl rfl (by kernel_rfl) (by kernel_rfl) (by kernel_rfl) (fun _ _ _ h => h) (by rfl) (fun w' hSw => by obtain ⟨x_, x0, x1, x2, y0, y1, y2⟩ := hSw; go_simp) hS8_8 ?_
  simp only [List.setIfInBounds_toArray, List.set_cons_zero, List.set_cons_succ]
  refine takeW (i := 12) (d := 42) (v := .agg #[.int .i64 k, .int .i64 n, .string s]) rfl rfl (by kernel_rfl) (by kernel_rfl) (by kernel_rfl) (fun _ _ _ h => h) (by rfl) (fun w' hSw => by obtain ⟨x_, x0, x1, x2, y0, y1, y2⟩ := hSw; go_simp) hS8_8 ?_
  simp only [List.setIfInBounds_toArray, List.set_cons_zero, List.set_cons_succ]
  refine takeW (i := 13) (d := 43) (v := .agg #[.int .i64 k2, .int .i64 n2, .string s2]) rfl rfl (by kernel_rfl) (by kernel_rfl) (by kernel_rfl) (fun _ _ _ h => h) (by rfl) (fun w' hSw => by obtain ⟨x_, x0, x1, x2, y0, y1, y2⟩ := hSw; go_simp) hS8_8 ?_
  simp only [List.setIfInBounds_toArray, List.set_cons_zero, List.set_cons_succ]
  refine takeW (i := 15) (d := 45) (v := .agg #[.int .i64 k, .int .i64 n, .string s]) rfl rfl (by kernel_rfl) (by kernel_rfl) (by kernel_rfl) (fun _ _ _ h => h) (by rfl) (fun w' hSw => by obtain ⟨x_, x0, x1, x2, y0, y1, y2⟩ := hSw; go_simp) hS8_8 ?_
  simp only [List.setIfInBounds_toArray, List.set_cons_zero, List.set_cons_succ]
  refine takeW (i := 16) (d := 46) (v := .agg #[.int .i64 k2, .int .i64 n2, .string s2]) rfl rfl (by kernel_rfl) (by kernel_rfl) (by kernel_rfl) (fun _ _ _ h => h) (by rfl) (fun w' hSw => by obtain ⟨x_, x0, x1, x2, y0, y1, y2⟩ := hSw; go_simp) hS8_8 ?_
  simp only [List.setIfInBounds_toArray, List.set_cons_zero, List.set_cons_succ]
  refine wpAnyH_ready (rs := [14]) (by kernel_rfl) (by simp) ?_
  refine AllReadyH.cons rfl (fun X hX => ?_) (AllReadyH.nil)
  rw [if_pos (by rfl)]
  go_simp
  refine (H2.out _).mono ?_; rintro e w1 ⟨rfl, b1⟩
  go_wp2_with fail
  refine hX.out _ _ (keepB6 hS8_8 b1) (fun hS16_14 => ?_)
  clear hX X hS8_8 b1
  refine wpAnyH_ready (rs := [17]) (by kernel_rfl) (by simp) ?_
  refine AllReadyH.cons rfl (fun X hX => ?_) (AllReadyH.nil)
  rw [if_pos (by rfl)]
  go_simp
  refine (H3.out _).mono ?_; rintro e w1 ⟨rfl, b1⟩
  go_wp2_with fail
  refine hX.out _ _ (keepB6 hS16_14 b1) (fun hS17_17 => ?_)
  clear hX X hS16_14 b1
  refine takeW (i := 18) (d := 48) (v := .bool true) rfl rfl (by kernel_rfl) (by kernel_rfl) (by kernel_rfl) (fun _ _ _ h => h) (by rfl) (fun w' hSw => by obtain ⟨x_, x0, x1, x2, y0, y1, y2⟩ := hSw; go_simp) hS17_17 ?_
  simp only [List.setIfInBounds_toArray, List.set_cons_zero, List.set_cons_succ]
  refine takeW (i := 19) (d := 49) (v := .bool true) rfl rfl (by kernel_rfl) (by kernel_rfl) (by kernel_rfl) (fun _ _ _ h => h) (by rfl) (fun w' hSw => by obtain ⟨x_, x0, x1, x2, y0, y1, y2⟩ := hSw; go_simp) hS17_17 ?_
  simp only [List.setIfInBounds_toArray, List.set_cons_zero, List.set_cons_succ]
  refine takeW (i := 20) (d := 50) (v := .bool true) rfl rfl (by kernel_rfl) (by kernel_rfl) (by kernel_rfl) (fun _ _ _ h => h) (by rfl) (fun w' hSw => by obtain ⟨x_, x0, x1, x2, y0, y1, y2⟩ := hSw; go_simp) hS17_17 ?_
  simp only [List.setIfInBounds_toArray, List.set_cons_zero, List.set_cons_succ]
  refine takeW (i := 21) (d := 51) (v := .agg #[.int .i64 k, .int .i64 n, .string s]) rfl rfl (by kernel_rfl) (by kernel_rfl) (by kernel_rfl) (fun _ _ _ h => h) (by rfl) (fun w' hSw => by obtain ⟨x_, x0, x1, x2, y0, y1, y2⟩ := hSw; go_simp) hS17_17 ?_
  simp only [List.setIfInBounds_toArray, List.set_cons_zero, List.set_cons_succ]
  refine takeW (i := 22) (d := 52) (v := .agg #[.int .i64 k2, .int .i64 n2, .string s2]) rfl rfl (by kernel_rfl) (by kernel_rfl) (by kernel_rfl) (fun _ _ _ h => h) (by rfl) (fun w' hSw => by obtain ⟨x_, x0, x1, x2, y0, y1, y2⟩ := hSw; go_simp) hS17_17 ?_
  simp only [List.setIfInBounds_toArray, List.set_cons_zero, List.set_cons_succ]
  refine takeW (i := 24) (d := 54) (v := .agg #[.int .i64 k, .int .i64 n, .string s]) rfl rfl (by kernel_rfl) (by kernel_rfl) (by kernel_rfl) (fun _ _ _ h => h) (by rfl) (fun w' hSw => by obtain ⟨x_, x0, x1, x2, y0, y1, y2⟩ := hSw; go_simp) hS17_17 ?_
  simp only [List.setIfInBounds_toArray, List.set_cons_zero, List.set_cons_succ]
  refine takeW (i := 25) (d := 55) (v := .agg #[.int .i64 k2, .int .i64 n2, .string s2]) rfl rfl (by kernel_rfl) (by kernel_rfl) (by kernel_rfl) (fun _ _ _ h => h) (by rfl) (fun w' hSw => by obtain ⟨x_, x0, x1, x2, y0, y1, y2⟩ := hSw; go_simp) hS17_17 ?_
  simp only [List.setIfInBounds_toArray, List.set_cons_zero, List.set_cons_succ]
  refine wpAnyH_ready (rs := [23]) (by kernel_rfl) (by simp) ?_
  refine AllReadyH.cons rfl (fun X hX => ?_) (AllReadyH.nil)
  rw [if_pos (by rfl)]
  go_simp
  refine (H4.out _).mono ?_; rintro e w1 ⟨rfl, b1⟩
  go_wp2_with fail
  refine hX.out _ _ (keepB6 hS17_17 b1) (fun hS25_23 => ?_)
  clear hX X hS17_17 b1
  refine wpAnyH_ready (rs := [26]) (by kernel_rfl) (by simp) ?_
  refine AllReadyH.cons rfl (fun X hX => ?_) (AllReadyH.nil)
  rw [if_pos (by rfl)]
  go_simp
  refine (H5.out _).mono ?_; rintro e w1 ⟨rfl, b1⟩
  go_wp2_with fail
  refine hX.out _ _ (keepB6 hS25_23 b1) (fun hS26_26 => ?_)
  clear hX X hS25_23 b1
  refine takeW (i := 27) (d := 57) (v := .bool true) rfl rfl (by kernel_rfl) (by kernel_rfl) (by kernel_rfl) (fun _ _ _ h => h) (by rfl) (fun w' hSw => by obtain ⟨x_, x0, x1, x2, y0, y1, y2⟩ := hSw; go_simp) hS26_26 ?_
  simp only [List.setIfInBounds_toArray, List.set_cons_zero, List.set_cons_succ]
  refine takeW (i := 28) (d := 58) (v := .bool true) rfl rfl (by kernel_rfl) (by kernel_rfl) (by kernel_rfl) (fun _ _ _ h => h) (by rfl) (fun w' hSw => by obtain ⟨x_, x0, x1, x2, y0, y1, y2⟩ := hSw; go_simp) hS26_26 ?_
  simp only [List.setIfInBounds_toArray, List.set_cons_zero, List.set_cons_succ]
  refine takeW (i := 29) (d := 59) (v := .bool true) rfl rfl (by kernel_rfl) (by kernel_rfl) (by kernel_rfl) (fun _ _ _ h => h) (by rfl) (fun w' hSw => by obtain ⟨x_, x0, x1, x2, y0, y1, y2⟩ := hSw; go_simp) hS26_26 ?_
  simp only [List.setIfInBounds_toArray, List.set_cons_zero, List.set_cons_succ]
  refine takeW (i := 30) (d := 60) (v := .agg #[.int .i64 k, .int .i64 n, .string s]) rfl rfl (by kernel_rfl) (by kernel_rfl) (by kernel_rfl) (fun _ _ _ h => h) (by rfl) (fun w' hSw => by obtain ⟨x_, x0, x1, x2, y0, y1, y2⟩ := hSw; go_simp) hS26_26 ?_
  simp only [List.setIfInBounds_toArray, List.set_cons_zero, List.set_cons_succ]
  refine takeW (i := 31) (d := 61) (v := .agg #[.int .i64 k2, .int .i64 n2, .string s2]) rfl rfl (by kernel_rfl) (by kernel_rfl) (by kernel_rfl) (fun _ _ _ h => h) (by rfl) (fun w' hSw => by obtain ⟨x_, x0, x1, x2, y0, y1, y2⟩ := hSw; go_simp) hS26_26 ?_
  simp only [List.setIfInBounds_toArray, List.set_cons_zero, List.set_cons_succ]
  refine takeW (i := 33) (d := 63) (v := .agg #[.int .i64 k2, .int .i64 n2, .string s2]) rfl rfl (by kernel_rfl) (by kernel_rfl) (by kernel_rfl) (fun _ _ _ h => h) (by rfl) (fun w' hSw => by obtain ⟨x_, x0, x1, x2, y0, y1, y2⟩ := hSw; go_simp) hS26_26 ?_
  simp only [List.setIfInBounds_toArray, List.set_cons_zero, List.set_cons_succ]
  refine takeW (i := 34) (d := 64) (v := .agg #[.int .i64 k, .int .i64 n, .string s]) rfl rfl (by kernel_rfl) (by kernel_rfl) (by kernel_rfl) (fun _ _ _ h => h) (by rfl) (fun w' hSw => by obtain ⟨x_, x0, x1, x2, y0, y1, y2⟩ := hSw; go_simp) hS26_26 ?_
  simp only [List.setIfInBounds_toArray, List.set_cons_zero, List.set_cons_succ]
  refine wpAnyH_ready (rs := [32]) (by kernel_rfl) (by simp) ?_
  refine AllReadyH.cons rfl (fun X hX => ?_) (AllReadyH.nil)
  rw [if_pos (by rfl)]
  go_simp
  refine (H0.out _).mono ?_; rintro e w1 ⟨rfl, b1⟩
  go_wp2_with fail
  refine hX.out _ _ (keepB6 hS26_26 b1) (fun hS34_32 => ?_)
  clear hX X hS26_26 b1
  refine wpAnyH_ready (rs := [35]) (by kernel_rfl) (by simp) ?_
  refine AllReadyH.cons rfl (fun X hX => ?_) (AllReadyH.nil)
  rw [if_pos (by rfl)]
  go_simp
  refine (H6.out _).mono ?_; rintro e w1 ⟨rfl, b1⟩
  go_wp2_with fail
  refine hX.out _ _ (keepB6 hS34_32 b1) (fun hS35_35 => ?_)
  clear hX X hS34_32 b1
  refine takeW (i := 36) (d := 66) (v := .bool true) rfl rfl (by kernel_rfl) (by kernel_rfl) (by kernel_rfl) (fun _ _ _ h => h) (by rfl) (fun w' hSw => by obtain ⟨x_, x0, x1, x2, y0, y1, y2⟩ := hSw; go_simp) hS35_35 ?_
  simp only [List.setIfInBounds_toArray, List.set_cons_zero, List.set_cons_succ]
  refine takeW (i := 37) (d := 67) (v := .bool true) rfl rfl (by kernel_rfl) (by kernel_rfl) (by kernel_rfl) (fun _ _ _ h => h) (by rfl) (fun w' hSw => by obtain ⟨x_, x0, x1, x2, y0, y1, y2⟩ := hSw; go_simp) hS35_35 ?_
  simp only [List.setIfInBounds_toArray, List.set_cons_zero, List.set_cons_succ]
  refine takeW (i := 38) (d := 68) (v := .bool true) rfl rfl (by kernel_rfl) (by kernel_rfl) (by kernel_rfl) (fun _ _ _ h => h) (by rfl) (fun w' hSw => by obtain ⟨x_, x0, x1, x2, y0, y1, y2⟩ := hSw; go_simp) hS35_35 ?_
  simp only [List.setIfInBounds_toArray, List.set_cons_zero, List.set_cons_succ]
  refine wpAnyH_ready (rs := [39]) (by kernel_rfl) (by simp) ?_
  refine AllReadyH.cons rfl (fun X hX => ?_) (AllReadyH.nil)
  rw [if_pos (by rfl)]
  go_simp
  refine (HLV.out _).mono ?_; rintro e w1 ⟨rfl, b1⟩
  go_wp2_with fail
  refine hX.out _ _ (keepB6 hS35_35 b1) (fun hS39_39 => ?_)
  clear hX X hS35_35 b1
  refine takeW (i := 40) (d := 70) (v := .bool true) rfl rfl (by kernel_rfl) (by kernel_rfl) (by kernel_rfl) (fun _ _ _ h => h) (by rfl) (fun w' hSw => by obtain ⟨x_, x0, x1, x2, y0, y1, y2⟩ := hSw; go_simp) hS39_39 ?_
  simp only [List.setIfInBounds_toArray, List.set_cons_zero, List.set_cons_succ]
  refine takeW (i := 41) (d := 4) (v := .bool true) rfl rfl (by kernel_rfl) (by kernel_rfl) (by kernel_rfl) (fun _ _ _ h => h) (by rfl) (fun w' hSw => by obtain ⟨x_, x0, x1, x2, y0, y1, y2⟩ := hSw; go_simp) hS39_39 ?_
  simp only [List.setIfInBounds_toArray, List.set_cons_zero, List.set_cons_succ]
  refine wpAnyH_done (by kernel_rfl) ?_ _
  have HEE := hS39_39.1
  clear hS39_39
  go_wp2_with fail
  go_ret
  exact ⟨rfl, Below.step R5.out.below HEE.out⟩

set_option maxRecDepth 100000 in
theorem orders_not (H : CodeOk) (k n : Int) (s : ByteArray) (k2 n2 : Int) (s2 : ByteArray) (hf : fitB k n s = false ∨ fitB k2 n2 s2 = false) (w : World) :
    Calls Try.prog 5 #[.agg (cellC k n s), .agg (cellC k2 n2 s2)] w fun e w' => e = .returned (.bool true) ∧ Below w.heap.size w w' := by
  have HLV := Lib.hid (fun w => lives15 H w)
  have HF1 := Lib.hid (fun w => fits_any k n s w)
  have HF2 := Lib.hid (fun w => fits_any k2 n2 s2 w)
  obtain ⟨p, hp⟩ : ∃ p, p = fitB k n s := ⟨_, rfl⟩
  obtain ⟨q, hq⟩ : ∃ q, q = fitB k2 n2 s2 := ⟨_, rfl⟩
  rw [← hp] at HF1 hf
  rw [← hq] at HF2 hf
  clear H hp hq
  obtain ⟨W, hW, HR⟩ := two_new w (cellC k n s) (cellC k2 n2 s2)
  go_enter Try.func5, Try.ntmps5
  go_upto_region 1 with (fail)
  change Code.wp _ _ _ _ ((w.alloc (.cells (cellC k n s) 23)).alloc (.cells (cellC k2 n2 s2) 23))
  rw [← hW]
  clear hW
  obtain ⟨a0, a1, a2⟩ := three_of HR.out.a
  obtain ⟨b0, b1, b2⟩ := three_of HR.out.r
  cases p with
  | false =>
    clear hf
    go_wp2_with fail
    refine (HF1.out _).mono ?_
    rintro e v1 ⟨rfl, bb⟩
    have R1 := Lib.hid (HR.out.after bb)
    clear bb a0 a1 a2 b0 b1 b2 HR
    go_wp2_with fail
    refine (HLV.out _).mono ?_
    rintro e v2 ⟨rfl, bb⟩
    have R2 := Lib.hid (R1.out.after bb)
    clear bb
    go_wp2_with fail
    go_ret
    exact ⟨rfl, R2.out.below⟩
  | true =>
    have hq : q = false := by rcases hf with h | h; exact absurd h (by simp); exact h
    subst hq
    clear hf
    go_wp2_with fail
    refine (HF1.out _).mono ?_
    rintro e v1 ⟨rfl, bb⟩
    have R1 := Lib.hid (HR.out.after bb)
    clear bb a0 a1 a2 b0 b1 b2 HR
    obtain ⟨a0, a1, a2⟩ := three_of R1.out.a
    obtain ⟨b0, b1, b2⟩ := three_of R1.out.r
    go_wp2_with fail
    refine (HF2.out _).mono ?_
    rintro e v2 ⟨rfl, bb⟩
    have R2 := Lib.hid (R1.out.after bb)
    clear bb a0 a1 a2 b0 b1 b2 R1
    go_wp2_with fail
    refine (HLV.out _).mono ?_
    rintro e v3 ⟨rfl, bb⟩
    have R3 := Lib.hid (R2.out.after bb)
    clear bb
    go_wp2_with fail
    go_ret
    exact ⟨rfl, R3.out.below⟩
theorem orders_walk (H : CodeOk) (k n : Int) (s : ByteArray) (k2 n2 : Int) (s2 : ByteArray) (hn : Fits n) (hn2 : Fits n2) (w : World) :
    Calls Try.prog 5 #[.agg (cellC k n s), .agg (cellC k2 n2 s2)] w fun e w' => e = .returned (.bool true) ∧ Below w.heap.size w w' := by
  cases ha : fitB k n s with
  | false => exact orders_not H k n s k2 n2 s2 (Or.inl ha) w
  | true =>
    cases hb : fitB k2 n2 s2 with
    | false => exact orders_not H k n s k2 n2 s2 (Or.inr hb) w
    | true =>
      rcases cases_ref ha hb with hc | hc | hc
      · exact orders_below H k n s k2 n2 s2 hn hn2 ha hb hc w
      · exact orders_same H k n s k2 n2 s2 hn hn2 ha hb hc w
      · exact orders_above H k n s k2 n2 s2 hn hn2 ha hb hc w
end Go.Proofs.Ytbbhcbpfffabpaa
