/- Merged by program: C15I. -/
import Derived.Test.YtbbhcbpfffabpaaGaz
/- The law's is (gen_c15i.py). -/
namespace Go.Proofs.Ytbbhcbpfffabpaa
open Go.RowKit T3

theorem keepC4 {w w1 w2 : World} {a0 a1 a2 : Addr} {v0 v1 v2 : Value} (h : Hid (Below w.heap.size w w1) ∧ w1.cell? a0 = some v0 ∧ w1.cell? a1 = some v1 ∧ w1.cell? a2 = some v2) (hb : Below w1.heap.size w1 w2) :
    Hid (Below w.heap.size w w2) ∧ w2.cell? a0 = some v0 ∧ w2.cell? a1 = some v1 ∧ w2.cell? a2 = some v2 := by
  obtain ⟨h0, e0, e1, e2⟩ := h
  have keep : ∀ {a : Addr} {v : Value}, w1.cell? a = some v → w2.cell? a = some v := fun {a v} e => by rw [hb.cell (p := a) (cell_lt e)]; exact e
  exact ⟨Lib.hid (Below.step h0.out hb), keep e0, keep e1, keep e2⟩
theorem two_new (w : World) (cs ds : Array Value) : ∃ W, W = (w.alloc (.cells cs 23)).alloc (.cells ds 23) ∧ Hid (On w W cs ds) := on_new w cs ds

set_option maxRecDepth 100000 in
set_option maxHeartbeats 1000000 in
theorem is_true (H : CodeOk) (g : ByteArray) (k n : Int) (s : ByteArray) (k2 n2 : Int) (s2 : ByteArray) (hn : Fits n) (hn2 : Fits n2) (ha : fitB k n s = true) (hb : fitB k2 n2 s2 = true)
    (ht : twoF g (refCmpC k n s k2 n2 s2) (numL k n s) (numL k2 n2 s2) = boolA true) (w : World) :
    Calls Try.prog 21 #[.string g, .agg (cellC k n s), .agg (cellC k2 n2 s2)] w fun e w' => e = .returned (.bool true) ∧ Below w.heap.size w w' := by
  have HI := info_cell
  have HT := Lib.hid (fun w => by have h := H.two g k n s k2 n2 s2 w hn hn2 ha hb; rw [ht, show boolA true = twoC 1 1000000 ⟨#[]⟩ 0 from rfl] at h; exact h)
  clear H hn hn2 ha hb ht
  obtain ⟨W, hW, HR⟩ := two_new w (cellC k n s) (cellC k2 n2 s2)
  go_enter Try.func21, Try.ntmps21
  go_upto_region 1 with (fail)
  change Code.wp _ _ _ _ ((w.alloc (.cells (cellC k n s) 23)).alloc (.cells (cellC k2 n2 s2) 23))
  rw [← hW]
  clear hW
  obtain ⟨a0, a1, a2⟩ := three_of HR.out.a
  obtain ⟨b0, b1, b2⟩ := three_of HR.out.r
  go_wp2_with fail
  refine (HT.out _).mono ?_
  rintro e w1 ⟨rfl, bb⟩
  have B1 := Lib.hid (Below.step HR.out.below bb)
  unfold twoC
  clear bb a0 a1 a2 b0 b1 b2 HR HT
  go_upto_region 2 with (refine wpList_store_row rfl 23 (.tmp 7) (.tmp 14) rfl w1.heap.size (cellC 1 1000000 ⟨#[]⟩) rfl rfl 23 zeroC (heap_alloc_last _ _) HI rfl (cell_one3 _ _ _) ?_)
  obtain ⟨w2, hW2, X2, B2⟩ : ∃ w2, w2 = (w1.alloc (.cells zeroC 23)).setRow w1.heap.size (cellC 1 1000000 ⟨#[]⟩) ∧ Hid (Cx w2 w1.heap.size (cellC 1 1000000 ⟨#[]⟩)) ∧ Hid (Below w1.heap.size w1 w2) :=
    ⟨_, rfl, Lib.hid (Cx.setRow (cs := zeroC) ⟨heap_alloc_last _ _⟩ _), Lib.hid (below_row (below_new w1 _) (Nat.le_refl _) _)⟩
  change Code.wp _ _ _ _ ((w1.alloc (.cells zeroC 23)).setRow w1.heap.size (cellC 1 1000000 ⟨#[]⟩))
  rw [← hW2]
  have B3 := Lib.hid (Below.step B1.out B2.out)
  obtain ⟨xb, hxb⟩ : ∃ xb, xb = w1.heap.size := ⟨_, rfl⟩
  rw [← hxb] at X2 ⊢
  clear hW2 hxb B1 B2
  try simp only [Act.put]
  obtain ⟨a0, a1, a2⟩ := three_of X2.out
  have H0 : Hid (Hid (Below w2.heap.size w2 w2) ∧ w2.cell? ⟨xb, 0, none⟩ = some (.int .i64 1) ∧ w2.cell? ⟨xb, 1, none⟩ = some (.int .i64 1000000) ∧ w2.cell? ⟨xb, 2, none⟩ = some (.string ⟨#[]⟩)) := Lib.hid ⟨Lib.hid (Below.refl _ _), by simpa using a0, by simpa using a1, by simpa using a2⟩
  clear a0 a1 a2
  refine wp_region_held_drew (S := fun W' => Hid (Below w2.heap.size w2 W') ∧ W'.cell? ⟨xb, 0, none⟩ = some (.int .i64 1) ∧ W'.cell? ⟨xb, 1, none⟩ = some (.int .i64 1000000) ∧ W'.cell? ⟨xb, 2, none⟩ = some (.string ⟨#[]⟩)) (by kernel_rfl) ?_ (fun hS => ?_)
  · exact keepC4 H0.out (below_drew _)
  clear H0
  refine takeW (i := 0) (d := 16) (v := .int .i64 0) rfl rfl (by kernel_rfl) (by kernel_rfl) (by kernel_rfl) (fun _ _ _ h => h) (by rfl) (fun w' hSw => by obtain ⟨x_, x0, x1, x2⟩ := hSw; go_simp) hS ?_
  simp only [List.setIfInBounds_toArray, List.set_cons_zero, List.set_cons_succ]
  refine takeW (i := 1) (d := 17) (v := .bool true) rfl rfl (by kernel_rfl) (by kernel_rfl) (by kernel_rfl) (fun _ _ _ h => h) (by rfl) (fun w' hSw => by obtain ⟨x_, x0, x1, x2⟩ := hSw; go_simp) hS ?_
  simp only [List.setIfInBounds_toArray, List.set_cons_zero, List.set_cons_succ]
  refine takeW (i := 2) (d := 18) (v := .bool true) rfl rfl (by kernel_rfl) (by kernel_rfl) (by kernel_rfl) (fun _ _ _ h => h) (by rfl) (fun w' hSw => by obtain ⟨x_, x0, x1, x2⟩ := hSw; go_simp) hS ?_
  simp only [List.setIfInBounds_toArray, List.set_cons_zero, List.set_cons_succ]
  refine takeW (i := 3) (d := 19) (v := .agg #[.int .i64 1, .int .i64 1000000, .string ⟨#[]⟩]) rfl rfl (by kernel_rfl) (by kernel_rfl) (by kernel_rfl) (fun _ _ _ h => h) (by rfl) (fun w' hSw => by obtain ⟨x_, x0, x1, x2⟩ := hSw; go_simp) hS ?_
  simp only [List.setIfInBounds_toArray, List.set_cons_zero, List.set_cons_succ]
  refine wpAnyH_ready (rs := [4]) (by kernel_rfl) (by simp) ?_
  refine AllReadyH.cons rfl (fun X hX => ?_) (AllReadyH.nil)
  rw [if_pos (by rfl)]
  go_simp
  refine (refBool_any _ _).mono ?_; rintro e w1 ⟨rfl, b1⟩; rw [show cellC 1 (boolN true) ⟨#[]⟩ = #[.int .i64 1, .int .i64 1000000, .string ⟨#[]⟩] from rfl]
  go_wp2_with fail
  refine hX.out _ _ (keepC4 hS b1) (fun hS4_4 => ?_)
  clear hX X hS b1
  refine takeW (i := 5) (d := 21) (v := .bool true) rfl rfl (by kernel_rfl) (by kernel_rfl) (by kernel_rfl) (fun _ _ _ h => h) (by rfl) (fun w' hSw => by obtain ⟨x_, x0, x1, x2⟩ := hSw; go_simp) hS4_4 ?_
  simp only [List.setIfInBounds_toArray, List.set_cons_zero, List.set_cons_succ]
  refine takeW (i := 6) (d := 22) (v := .bool true) rfl rfl (by kernel_rfl) (by kernel_rfl) (by kernel_rfl) (fun _ _ _ h => h) (by rfl) (fun w' hSw => by obtain ⟨x_, x0, x1, x2⟩ := hSw; go_simp) hS4_4 ?_
  simp only [List.setIfInBounds_toArray, List.set_cons_zero, List.set_cons_succ]
  refine takeW (i := 7) (d := 6) (v := .bool true) rfl rfl (by kernel_rfl) (by kernel_rfl) (by kernel_rfl) (fun _ _ _ h => h) (by rfl) (fun w' hSw => by obtain ⟨x_, x0, x1, x2⟩ := hSw; go_simp) hS4_4 ?_
  simp only [List.setIfInBounds_toArray, List.set_cons_zero, List.set_cons_succ]
  refine wpAnyH_done (by kernel_rfl) ?_ _
  have HEE := hS4_4.1
  clear hS4_4
  go_wp2_with fail
  go_ret
  exact ⟨rfl, Below.step B3.out HEE.out⟩

set_option maxRecDepth 100000 in
set_option maxHeartbeats 1000000 in
theorem is_false (H : CodeOk) (g : ByteArray) (k n : Int) (s : ByteArray) (k2 n2 : Int) (s2 : ByteArray) (hn : Fits n) (hn2 : Fits n2) (ha : fitB k n s = true) (hb : fitB k2 n2 s2 = true)
    (ht : twoF g (refCmpC k n s k2 n2 s2) (numL k n s) (numL k2 n2 s2) = boolA false) (w : World) :
    Calls Try.prog 21 #[.string g, .agg (cellC k n s), .agg (cellC k2 n2 s2)] w fun e w' => e = .returned (.bool false) ∧ Below w.heap.size w w' := by
  have HI := info_cell
  have HT := Lib.hid (fun w => by have h := H.two g k n s k2 n2 s2 w hn hn2 ha hb; rw [ht, show boolA false = twoC 1 0 ⟨#[]⟩ 0 from rfl] at h; exact h)
  clear H hn hn2 ha hb ht
  obtain ⟨W, hW, HR⟩ := two_new w (cellC k n s) (cellC k2 n2 s2)
  go_enter Try.func21, Try.ntmps21
  go_upto_region 1 with (fail)
  change Code.wp _ _ _ _ ((w.alloc (.cells (cellC k n s) 23)).alloc (.cells (cellC k2 n2 s2) 23))
  rw [← hW]
  clear hW
  obtain ⟨a0, a1, a2⟩ := three_of HR.out.a
  obtain ⟨b0, b1, b2⟩ := three_of HR.out.r
  go_wp2_with fail
  refine (HT.out _).mono ?_
  rintro e w1 ⟨rfl, bb⟩
  have B1 := Lib.hid (Below.step HR.out.below bb)
  unfold twoC
  clear bb a0 a1 a2 b0 b1 b2 HR HT
  go_upto_region 2 with (refine wpList_store_row rfl 23 (.tmp 7) (.tmp 14) rfl w1.heap.size (cellC 1 0 ⟨#[]⟩) rfl rfl 23 zeroC (heap_alloc_last _ _) HI rfl (cell_one3 _ _ _) ?_)
  obtain ⟨w2, hW2, X2, B2⟩ : ∃ w2, w2 = (w1.alloc (.cells zeroC 23)).setRow w1.heap.size (cellC 1 0 ⟨#[]⟩) ∧ Hid (Cx w2 w1.heap.size (cellC 1 0 ⟨#[]⟩)) ∧ Hid (Below w1.heap.size w1 w2) :=
    ⟨_, rfl, Lib.hid (Cx.setRow (cs := zeroC) ⟨heap_alloc_last _ _⟩ _), Lib.hid (below_row (below_new w1 _) (Nat.le_refl _) _)⟩
  change Code.wp _ _ _ _ ((w1.alloc (.cells zeroC 23)).setRow w1.heap.size (cellC 1 0 ⟨#[]⟩))
  rw [← hW2]
  have B3 := Lib.hid (Below.step B1.out B2.out)
  obtain ⟨xb, hxb⟩ : ∃ xb, xb = w1.heap.size := ⟨_, rfl⟩
  rw [← hxb] at X2 ⊢
  clear hW2 hxb B1 B2
  try simp only [Act.put]
  obtain ⟨a0, a1, a2⟩ := three_of X2.out
  have H0 : Hid (Hid (Below w2.heap.size w2 w2) ∧ w2.cell? ⟨xb, 0, none⟩ = some (.int .i64 1) ∧ w2.cell? ⟨xb, 1, none⟩ = some (.int .i64 0) ∧ w2.cell? ⟨xb, 2, none⟩ = some (.string ⟨#[]⟩)) := Lib.hid ⟨Lib.hid (Below.refl _ _), by simpa using a0, by simpa using a1, by simpa using a2⟩
  clear a0 a1 a2
  refine wp_region_held_drew (S := fun W' => Hid (Below w2.heap.size w2 W') ∧ W'.cell? ⟨xb, 0, none⟩ = some (.int .i64 1) ∧ W'.cell? ⟨xb, 1, none⟩ = some (.int .i64 0) ∧ W'.cell? ⟨xb, 2, none⟩ = some (.string ⟨#[]⟩)) (by kernel_rfl) ?_ (fun hS => ?_)
  · exact keepC4 H0.out (below_drew _)
  clear H0
  refine takeW (i := 0) (d := 16) (v := .int .i64 0) rfl rfl (by kernel_rfl) (by kernel_rfl) (by kernel_rfl) (fun _ _ _ h => h) (by rfl) (fun w' hSw => by obtain ⟨x_, x0, x1, x2⟩ := hSw; go_simp) hS ?_
  simp only [List.setIfInBounds_toArray, List.set_cons_zero, List.set_cons_succ]
  refine takeW (i := 1) (d := 17) (v := .bool true) rfl rfl (by kernel_rfl) (by kernel_rfl) (by kernel_rfl) (fun _ _ _ h => h) (by rfl) (fun w' hSw => by obtain ⟨x_, x0, x1, x2⟩ := hSw; go_simp) hS ?_
  simp only [List.setIfInBounds_toArray, List.set_cons_zero, List.set_cons_succ]
  refine takeW (i := 2) (d := 18) (v := .bool true) rfl rfl (by kernel_rfl) (by kernel_rfl) (by kernel_rfl) (fun _ _ _ h => h) (by rfl) (fun w' hSw => by obtain ⟨x_, x0, x1, x2⟩ := hSw; go_simp) hS ?_
  simp only [List.setIfInBounds_toArray, List.set_cons_zero, List.set_cons_succ]
  refine takeW (i := 3) (d := 19) (v := .agg #[.int .i64 1, .int .i64 0, .string ⟨#[]⟩]) rfl rfl (by kernel_rfl) (by kernel_rfl) (by kernel_rfl) (fun _ _ _ h => h) (by rfl) (fun w' hSw => by obtain ⟨x_, x0, x1, x2⟩ := hSw; go_simp) hS ?_
  simp only [List.setIfInBounds_toArray, List.set_cons_zero, List.set_cons_succ]
  refine wpAnyH_ready (rs := [4]) (by kernel_rfl) (by simp) ?_
  refine AllReadyH.cons rfl (fun X hX => ?_) (AllReadyH.nil)
  rw [if_pos (by rfl)]
  go_simp
  refine (refBool_any _ _).mono ?_; rintro e w1 ⟨rfl, b1⟩; rw [show cellC 1 (boolN true) ⟨#[]⟩ = #[.int .i64 1, .int .i64 1000000, .string ⟨#[]⟩] from rfl]
  go_wp2_with fail
  refine hX.out _ _ (keepC4 hS b1) (fun hS4_4 => ?_)
  clear hX X hS b1
  refine takeW (i := 5) (d := 21) (v := .bool false) rfl rfl (by kernel_rfl) (by kernel_rfl) (by kernel_rfl) (fun _ _ _ h => h) (by rfl) (fun w' hSw => by obtain ⟨x_, x0, x1, x2⟩ := hSw; go_simp) hS4_4 ?_
  simp only [List.setIfInBounds_toArray, List.set_cons_zero, List.set_cons_succ]
  refine takeW (i := 6) (d := 22) (v := .bool false) rfl rfl (by kernel_rfl) (by kernel_rfl) (by kernel_rfl) (fun _ _ _ h => h) (by rfl) (fun w' hSw => by obtain ⟨x_, x0, x1, x2⟩ := hSw; go_simp) hS4_4 ?_
  simp only [List.setIfInBounds_toArray, List.set_cons_zero, List.set_cons_succ]
  refine takeW (i := 7) (d := 6) (v := .bool false) rfl rfl (by kernel_rfl) (by kernel_rfl) (by kernel_rfl) (fun _ _ _ h => h) (by rfl) (fun w' hSw => by obtain ⟨x_, x0, x1, x2⟩ := hSw; go_simp) hS4_4 ?_
  simp only [List.setIfInBounds_toArray, List.set_cons_zero, List.set_cons_succ]
  refine wpAnyH_done (by kernel_rfl) ?_ _
  have HEE := hS4_4.1
  clear hS4_4
  go_wp2_with fail
  go_ret
  exact ⟨rfl, Below.step B3.out HEE.out⟩

theorem is_any (H : CodeOk) (g : ByteArray) (k n : Int) (s : ByteArray) (k2 n2 : Int) (s2 : ByteArray) (hn : Fits n) (hn2 : Fits n2) (ha : fitB k n s = true) (hb : fitB k2 n2 s2 = true) (b : Bool)
    (ht : twoF g (refCmpC k n s k2 n2 s2) (numL k n s) (numL k2 n2 s2) = boolA b) (w : World) :
    Calls Try.prog 21 #[.string g, .agg (cellC k n s), .agg (cellC k2 n2 s2)] w fun e w' => e = .returned (.bool b) ∧ Below w.heap.size w w' := by
  cases b with
  | true => exact is_true H g k n s k2 n2 s2 hn hn2 ha hb ht w
  | false => exact is_false H g k n s k2 n2 s2 hn hn2 ha hb ht w
end Go.Proofs.Ytbbhcbpfffabpaa
