/- Merged by program: C15K. -/
import Derived.Test.YtbbhcbpfffabpaaSiab
/- The law CodeSigns over the program's contracts: the walk (gen_c15k.py). -/
namespace Go.Proofs.Ytbbhcbpfffabpaa
open Go.RowKit T3

theorem fit_size {k n : Int} {s : ByteArray} (h : fitB k n s = true) : s.size ≤ 300 := by unfold fitB at h; simp at h; exact h.1
theorem can1 (n : Int) : canB 1 n ⟨#[]⟩ = true := by
  rw [canB_1]
  exact decide_eq_true (by rw [Lib.toList_data])
theorem can0 : canB 0 0 ⟨#[]⟩ = true := by
  rw [canB_0]
  exact decide_eq_true ⟨rfl, by rw [Lib.toList_data]⟩
/-- Every answer of a sign is a cell without a text that can be. -/
theorem numA_form0 (p : Int × Int) : ∃ k n e, numA p = twoC k n ⟨#[]⟩ e ∧ canB k n ⟨#[]⟩ = true := by
  unfold numA
  split
  · exact ⟨1, p.1, 0, rfl, can1 _⟩
  · exact ⟨0, 0, p.2, rfl, can0⟩
theorem boolA_form0 (b : Bool) : ∃ k n e, boolA b = twoC k n ⟨#[]⟩ e ∧ canB k n ⟨#[]⟩ = true := ⟨1, boolN b, 0, rfl, can1 _⟩
theorem errA_form0 (x : Int) : ∃ k n e, errA x = twoC k n ⟨#[]⟩ e ∧ canB k n ⟨#[]⟩ = true := ⟨0, 0, x, rfl, can0⟩
theorem twoF_form (g : ByteArray) (c : Int) (p q : Int × Int) : ∃ k n e, twoF g c p q = twoC k n ⟨#[]⟩ e ∧ canB k n ⟨#[]⟩ = true := by
  unfold twoF
  repeat' split
  all_goals first | exact boolA_form0 _ | exact errA_form0 _ | exact numA_form0 _
theorem oneF_form (g : ByteArray) (tr : Bool) (p : Int × Int) : ∃ k n e, oneF g tr p = twoC k n ⟨#[]⟩ e ∧ canB k n ⟨#[]⟩ = true := by
  unfold oneF
  repeat' split
  all_goals first | exact boolA_form0 _ | exact errA_form0 _ | exact numA_form0 _

set_option maxRecDepth 100000 in
set_option maxHeartbeats 2000000 in
theorem signs_yes (H : CodeOk) (g : ByteArray) (k n : Int) (s : ByteArray) (k2 n2 : Int) (s2 : ByteArray) (hn : Fits n) (hn2 : Fits n2) (ha : fitB k n s = true) (hb : fitB k2 n2 s2 = true) (w : World) :
    Calls Try.prog 3 #[.string g, .agg (cellC k n s), .agg (cellC k2 n2 s2)] w fun e w' => e = .returned (.bool true) ∧ Below w.heap.size w w' := by
  have HI := info_cell
  have HLV := Lib.hid (fun w => lives15 H w)
  have HF1 := Lib.hid (fun w => by have h := fits_any k n s w; rw [ha] at h; exact h)
  have HF2 := Lib.hid (fun w => by have h := fits_any k2 n2 s2 w; rw [hb] at h; exact h)
  obtain ⟨k3, n3, e3, hA, hc3⟩ := twoF_form g (refCmpC k n s k2 n2 s2) (numL k n s) (numL k2 n2 s2)
  obtain ⟨k4, n4, e4, hO, hc4⟩ := oneF_form g (truthL k n s) (numL k n s)
  have HT := Lib.hid (fun w => by have h := H.two g k n s k2 n2 s2 w hn hn2 ha hb; rw [hA] at h; exact h)
  have HRT := Lib.hid (fun w => by have h := refTwo_any g k n s k2 n2 s2 hn hn2 (fit_size ha) (fit_size hb) w; rw [hA] at h; exact h)
  have HO := Lib.hid (fun w => by have h := H.one g k n s w hn ha; rw [hO] at h; exact h)
  have HRO := Lib.hid (fun w => by have h := refOne_any g k n s hn (fit_size ha) w; rw [hO] at h; exact h)
  have HC3 := Lib.hid (fun w => by have h := refCan_any k3 n3 ⟨#[]⟩ (by decide) w; rw [hc3] at h; exact h)
  have HC4 := Lib.hid (fun w => by have h := refCan_any k4 n4 ⟨#[]⟩ (by decide) w; rw [hc4] at h; exact h)
  clear H hn hn2 ha hb hA hO hc3 hc4
  obtain ⟨W, hW, HR⟩ := two_new w (cellC k n s) (cellC k2 n2 s2)
  go_enter Try.func3, Try.ntmps3
  go_upto_region 1 with (fail)
  change Code.wp _ _ _ _ ((w.alloc (.cells (cellC k n s) 23)).alloc (.cells (cellC k2 n2 s2) 23))
  rw [← hW]
  clear hW
  obtain ⟨a0, a1, a2⟩ := three_of HR.out.a
  obtain ⟨b0, b1, b2⟩ := three_of HR.out.r
  go_wp2_with fail
  refine (HF1.out _).mono ?_
  rintro e u0 ⟨rfl, bb⟩
  have R1 := Lib.hid (HR.out.after bb)
  clear bb a0 a1 a2 b0 b1 b2 HR
  obtain ⟨a0, a1, a2⟩ := three_of R1.out.a
  obtain ⟨b0, b1, b2⟩ := three_of R1.out.r
  go_wp2_with fail
  refine (HF2.out _).mono ?_
  rintro e u1 ⟨rfl, bb⟩
  have R2 := Lib.hid (R1.out.after bb)
  clear bb a0 a1 a2 b0 b1 b2 R1
  obtain ⟨a0, a1, a2⟩ := three_of R2.out.a
  obtain ⟨b0, b1, b2⟩ := three_of R2.out.r
  go_wp2_with fail
  refine (HT.out _).mono ?_
  rintro e u2 ⟨rfl, bb⟩
  have R3 := Lib.hid (R2.out.after bb)
  unfold twoC
  clear bb a0 a1 a2 b0 b1 b2 R2
  go_upto_region 4 with (refine wpList_store_row rfl 23 (.tmp 7) (.tmp 29) rfl u2.heap.size (cellC k3 n3 ⟨#[]⟩) rfl rfl 23 zeroC (heap_alloc_last _ _) HI rfl (cell_one3 _ _ _) ?_)
  obtain ⟨z3, hz, X3, BZ⟩ : ∃ Z, Z = (u2.alloc (.cells zeroC 23)).setRow u2.heap.size (cellC k3 n3 ⟨#[]⟩) ∧ Hid (Cx Z u2.heap.size (cellC k3 n3 ⟨#[]⟩)) ∧ Hid (Below u2.heap.size u2 Z) :=
    ⟨_, rfl, Lib.hid (Cx.setRow (cs := zeroC) ⟨heap_alloc_last _ _⟩ _), Lib.hid (below_row (below_new u2 _) (Nat.le_refl _) _)⟩
  change Code.wp _ _ _ _ ((u2.alloc (.cells zeroC 23)).setRow u2.heap.size (cellC k3 n3 ⟨#[]⟩))
  rw [← hz]
  try simp only [Act.put]
  have R4 := Lib.hid (R3.out.after BZ.out)
  clear hz BZ R3
  obtain ⟨a0, a1, a2⟩ := three_of R4.out.a
  obtain ⟨b0, b1, b2⟩ := three_of R4.out.r
  obtain ⟨x00, x01, x02⟩ := three_of X3.out
  go_wp2_with fail
  refine (HRT.out _).mono ?_
  rintro e u4 ⟨rfl, bb⟩
  have R5 := Lib.hid (R4.out.after bb)
  have Y5_0 := Lib.hid (X3.out.after bb)
  unfold twoC
  clear bb a0 a1 a2 b0 b1 b2 x00 x01 x02 R4 X3
  go_upto_region 5 with (refine wpList_store_row rfl 23 (.tmp 9) (.tmp 36) rfl u4.heap.size (cellC k3 n3 ⟨#[]⟩) rfl rfl 23 zeroC (heap_alloc_last _ _) HI rfl (cell_one3 _ _ _) ?_)
  obtain ⟨z5, hz, X5, BZ⟩ : ∃ Z, Z = (u4.alloc (.cells zeroC 23)).setRow u4.heap.size (cellC k3 n3 ⟨#[]⟩) ∧ Hid (Cx Z u4.heap.size (cellC k3 n3 ⟨#[]⟩)) ∧ Hid (Below u4.heap.size u4 Z) :=
    ⟨_, rfl, Lib.hid (Cx.setRow (cs := zeroC) ⟨heap_alloc_last _ _⟩ _), Lib.hid (below_row (below_new u4 _) (Nat.le_refl _) _)⟩
  change Code.wp _ _ _ _ ((u4.alloc (.cells zeroC 23)).setRow u4.heap.size (cellC k3 n3 ⟨#[]⟩))
  rw [← hz]
  try simp only [Act.put]
  have R6 := Lib.hid (R5.out.after BZ.out)
  have Y6_0 := Lib.hid (Y5_0.out.after BZ.out)
  clear hz BZ R5 Y5_0
  obtain ⟨a0, a1, a2⟩ := three_of R6.out.a
  obtain ⟨b0, b1, b2⟩ := three_of R6.out.r
  obtain ⟨x00, x01, x02⟩ := three_of Y6_0.out
  obtain ⟨x10, x11, x12⟩ := three_of X5.out
  go_wp2_with fail
  refine (HO.out _).mono ?_
  rintro e u6 ⟨rfl, bb⟩
  have R7 := Lib.hid (R6.out.after bb)
  have Y7_0 := Lib.hid (Y6_0.out.after bb)
  have Y7_1 := Lib.hid (X5.out.after bb)
  unfold twoC
  clear bb a0 a1 a2 b0 b1 b2 x00 x01 x02 x10 x11 x12 R6 Y6_0 X5
  go_upto_region 6 with (refine wpList_store_row rfl 23 (.tmp 11) (.tmp 42) rfl u6.heap.size (cellC k4 n4 ⟨#[]⟩) rfl rfl 23 zeroC (heap_alloc_last _ _) HI rfl (cell_one3 _ _ _) ?_)
  obtain ⟨z7, hz, X7, BZ⟩ : ∃ Z, Z = (u6.alloc (.cells zeroC 23)).setRow u6.heap.size (cellC k4 n4 ⟨#[]⟩) ∧ Hid (Cx Z u6.heap.size (cellC k4 n4 ⟨#[]⟩)) ∧ Hid (Below u6.heap.size u6 Z) :=
    ⟨_, rfl, Lib.hid (Cx.setRow (cs := zeroC) ⟨heap_alloc_last _ _⟩ _), Lib.hid (below_row (below_new u6 _) (Nat.le_refl _) _)⟩
  change Code.wp _ _ _ _ ((u6.alloc (.cells zeroC 23)).setRow u6.heap.size (cellC k4 n4 ⟨#[]⟩))
  rw [← hz]
  try simp only [Act.put]
  have R8 := Lib.hid (R7.out.after BZ.out)
  have Y8_0 := Lib.hid (Y7_0.out.after BZ.out)
  have Y8_1 := Lib.hid (Y7_1.out.after BZ.out)
  clear hz BZ R7 Y7_0 Y7_1
  obtain ⟨a0, a1, a2⟩ := three_of R8.out.a
  obtain ⟨b0, b1, b2⟩ := three_of R8.out.r
  obtain ⟨x00, x01, x02⟩ := three_of Y8_0.out
  obtain ⟨x10, x11, x12⟩ := three_of Y8_1.out
  obtain ⟨x20, x21, x22⟩ := three_of X7.out
  go_wp2_with fail
  refine (HRO.out _).mono ?_
  rintro e u8 ⟨rfl, bb⟩
  have R9 := Lib.hid (R8.out.after bb)
  have Y9_0 := Lib.hid (Y8_0.out.after bb)
  have Y9_1 := Lib.hid (Y8_1.out.after bb)
  have Y9_2 := Lib.hid (X7.out.after bb)
  unfold twoC
  clear bb a0 a1 a2 b0 b1 b2 x00 x01 x02 x10 x11 x12 x20 x21 x22 R8 Y8_0 Y8_1 X7
  go_upto_region 7 with (refine wpList_store_row rfl 23 (.tmp 13) (.tmp 48) rfl u8.heap.size (cellC k4 n4 ⟨#[]⟩) rfl rfl 23 zeroC (heap_alloc_last _ _) HI rfl (cell_one3 _ _ _) ?_)
  obtain ⟨z9, hz, X9, BZ⟩ : ∃ Z, Z = (u8.alloc (.cells zeroC 23)).setRow u8.heap.size (cellC k4 n4 ⟨#[]⟩) ∧ Hid (Cx Z u8.heap.size (cellC k4 n4 ⟨#[]⟩)) ∧ Hid (Below u8.heap.size u8 Z) :=
    ⟨_, rfl, Lib.hid (Cx.setRow (cs := zeroC) ⟨heap_alloc_last _ _⟩ _), Lib.hid (below_row (below_new u8 _) (Nat.le_refl _) _)⟩
  change Code.wp _ _ _ _ ((u8.alloc (.cells zeroC 23)).setRow u8.heap.size (cellC k4 n4 ⟨#[]⟩))
  rw [← hz]
  try simp only [Act.put]
  have R10 := Lib.hid (R9.out.after BZ.out)
  have Y10_0 := Lib.hid (Y9_0.out.after BZ.out)
  have Y10_1 := Lib.hid (Y9_1.out.after BZ.out)
  have Y10_2 := Lib.hid (Y9_2.out.after BZ.out)
  clear hz BZ R9 Y9_0 Y9_1 Y9_2
  obtain ⟨a0, a1, a2⟩ := three_of R10.out.a
  obtain ⟨b0, b1, b2⟩ := three_of R10.out.r
  obtain ⟨x00, x01, x02⟩ := three_of Y10_0.out
  obtain ⟨x10, x11, x12⟩ := three_of Y10_1.out
  obtain ⟨x20, x21, x22⟩ := three_of Y10_2.out
  obtain ⟨x30, x31, x32⟩ := three_of X9.out
  go_wp2_with fail
  refine (HC3.out _).mono ?_
  rintro e u10 ⟨rfl, bb⟩
  have R11 := Lib.hid (R10.out.after bb)
  have Y11_0 := Lib.hid (Y10_0.out.after bb)
  have Y11_1 := Lib.hid (Y10_1.out.after bb)
  have Y11_2 := Lib.hid (Y10_2.out.after bb)
  have Y11_3 := Lib.hid (X9.out.after bb)
  clear bb a0 a1 a2 b0 b1 b2 x00 x01 x02 x10 x11 x12 x20 x21 x22 x30 x31 x32 R10 Y10_0 Y10_1 Y10_2 X9
  obtain ⟨a0, a1, a2⟩ := three_of R11.out.a
  obtain ⟨b0, b1, b2⟩ := three_of R11.out.r
  obtain ⟨x00, x01, x02⟩ := three_of Y11_0.out
  obtain ⟨x10, x11, x12⟩ := three_of Y11_1.out
  obtain ⟨x20, x21, x22⟩ := three_of Y11_2.out
  obtain ⟨x30, x31, x32⟩ := three_of Y11_3.out
  go_wp2_with fail
  refine (HC4.out _).mono ?_
  rintro e u11 ⟨rfl, bb⟩
  have R12 := Lib.hid (R11.out.after bb)
  have Y12_0 := Lib.hid (Y11_0.out.after bb)
  have Y12_1 := Lib.hid (Y11_1.out.after bb)
  have Y12_2 := Lib.hid (Y11_2.out.after bb)
  have Y12_3 := Lib.hid (Y11_3.out.after bb)
  clear bb a0 a1 a2 b0 b1 b2 x00 x01 x02 x10 x11 x12 x20 x21 x22 x30 x31 x32 R11 Y11_0 Y11_1 Y11_2 Y11_3
  obtain ⟨a0, a1, a2⟩ := three_of R12.out.a
  obtain ⟨b0, b1, b2⟩ := three_of R12.out.r
  obtain ⟨x00, x01, x02⟩ := three_of Y12_0.out
  obtain ⟨x10, x11, x12⟩ := three_of Y12_1.out
  obtain ⟨x20, x21, x22⟩ := three_of Y12_2.out
  obtain ⟨x30, x31, x32⟩ := three_of Y12_3.out
  go_wp2_with fail
  refine (HLV.out _).mono ?_
  rintro e u12 ⟨rfl, bb⟩
  have R13 := Lib.hid (R12.out.after bb)
  have Y13_0 := Lib.hid (Y12_0.out.after bb)
  have Y13_1 := Lib.hid (Y12_1.out.after bb)
  have Y13_2 := Lib.hid (Y12_2.out.after bb)
  have Y13_3 := Lib.hid (Y12_3.out.after bb)
  clear bb a0 a1 a2 b0 b1 b2 x00 x01 x02 x10 x11 x12 x20 x21 x22 x30 x31 x32 R12 Y12_0 Y12_1 Y12_2 Y12_3
  go_wp2_with fail
  go_ret
  exact ⟨rfl, R13.out.below⟩

set_option maxRecDepth 100000 in
theorem signs_not (H : CodeOk) (g : ByteArray) (k n : Int) (s : ByteArray) (k2 n2 : Int) (s2 : ByteArray) (hf : fitB k n s = false ∨ fitB k2 n2 s2 = false) (w : World) :
    Calls Try.prog 3 #[.string g, .agg (cellC k n s), .agg (cellC k2 n2 s2)] w fun e w' => e = .returned (.bool true) ∧ Below w.heap.size w w' := by
  have HLV := Lib.hid (fun w => lives15 H w)
  have HF1 := Lib.hid (fun w => fits_any k n s w)
  have HF2 := Lib.hid (fun w => fits_any k2 n2 s2 w)
  obtain ⟨p, hp⟩ : ∃ p, p = fitB k n s := ⟨_, rfl⟩
  obtain ⟨q, hq⟩ : ∃ q, q = fitB k2 n2 s2 := ⟨_, rfl⟩
  rw [← hp] at HF1 hf
  rw [← hq] at HF2 hf
  clear H hp hq
  obtain ⟨W, hW, HR⟩ := two_new w (cellC k n s) (cellC k2 n2 s2)
  go_enter Try.func3, Try.ntmps3
  go_upto_region 1 with (fail)
  change Code.wp _ _ _ _ ((w.alloc (.cells (cellC k n s) 23)).alloc (.cells (cellC k2 n2 s2) 23))
  rw [← hW]
  clear hW
  obtain ⟨a0, a1, a2⟩ := three_of HR.out.a
  obtain ⟨b0, b1, b2⟩ := three_of HR.out.r
  cases p with
  | false =>
    clear hf
    go_wp2_with fail
    refine (HF1.out _).mono ?_
    rintro e v1 ⟨rfl, bb⟩
    have R1 := Lib.hid (HR.out.after bb)
    clear bb a0 a1 a2 b0 b1 b2 HR
    go_wp2_with fail
    refine (HLV.out _).mono ?_
    rintro e v2 ⟨rfl, bb⟩
    have R2 := Lib.hid (R1.out.after bb)
    clear bb
    go_wp2_with fail
    go_ret
    exact ⟨rfl, R2.out.below⟩
  | true =>
    have hq : q = false := by rcases hf with h | h; exact absurd h (by simp); exact h
    subst hq
    clear hf
    go_wp2_with fail
    refine (HF1.out _).mono ?_
    rintro e v1 ⟨rfl, bb⟩
    have R1 := Lib.hid (HR.out.after bb)
    clear bb a0 a1 a2 b0 b1 b2 HR
    obtain ⟨a0, a1, a2⟩ := three_of R1.out.a
    obtain ⟨b0, b1, b2⟩ := three_of R1.out.r
    go_wp2_with fail
    refine (HF2.out _).mono ?_
    rintro e v2 ⟨rfl, bb⟩
    have R2 := Lib.hid (R1.out.after bb)
    clear bb a0 a1 a2 b0 b1 b2 R1
    go_wp2_with fail
    refine (HLV.out _).mono ?_
    rintro e v3 ⟨rfl, bb⟩
    have R3 := Lib.hid (R2.out.after bb)
    clear bb
    go_wp2_with fail
    go_ret
    exact ⟨rfl, R3.out.below⟩
theorem signs_walk (H : CodeOk) (g : ByteArray) (k n : Int) (s : ByteArray) (k2 n2 : Int) (s2 : ByteArray) (hn : Fits n) (hn2 : Fits n2) (w : World) :
    Calls Try.prog 3 #[.string g, .agg (cellC k n s), .agg (cellC k2 n2 s2)] w fun e w' => e = .returned (.bool true) ∧ Below w.heap.size w w' := by
  cases ha : fitB k n s with
  | false => exact signs_not H g k n s k2 n2 s2 (Or.inl ha) w
  | true =>
    cases hb : fitB k2 n2 s2 with
    | false => exact signs_not H g k n s k2 n2 s2 (Or.inr hb) w
    | true => exact signs_yes H g k n s k2 n2 s2 hn hn2 ha hb w
end Go.Proofs.Ytbbhcbpfffabpaa
