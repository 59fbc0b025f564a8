/- Merged by program: K15B. -/
import Derived.Test.YtbbhcbpfffabpaaGba
import Derived.Test.YtbbhcbpfffabpaaGaz
/- The program's Two (gen_k15b.py). -/
namespace Go.Proofs.Ytbbhcbpfffabpaa
open Go.RowKit T3 Go.Shelf

theorem fitK {k n : Int} {s : ByteArray} (h : fitB k n s = true) : s.size ≤ 300 ∧ canB k n s = true := by
  unfold fitB at h
  rw [Bool.and_eq_true] at h
  exact ⟨of_decide_eq_true h.1, h.2⟩

set_option maxRecDepth 100000 in
set_option maxHeartbeats 1000000 in
theorem two_43 (k n : Int) (s : ByteArray) (k2 n2 : Int) (s2 : ByteArray) (hn : Fits n) (hn2 : Fits n2) (ha : fitB k n s = true) (hb : fitB k2 n2 s2 = true) (w : World) :
    Calls Try.prog 9 #[.string ⟨#[43]⟩, .agg (cellC k n s), .agg (cellC k2 n2 s2)] w fun e w' => e = .returned (twoF ⟨#[43]⟩ (refCmpC k n s k2 n2 s2) (numL k n s) (numL k2 n2 s2)) ∧ Below w.heap.size w w' := by
  have HI := info_cell
  obtain ⟨x, p2, hp⟩ : ∃ x p2, numL k n s = (x, p2) := ⟨_, _, rfl⟩
  obtain ⟨y, q2, hq⟩ : ∃ y q2, numL k2 n2 s2 = (y, q2) := ⟨_, _, rfl⟩
  have hx : Fits x := by have := numL_fits k n s hn; rw [hp] at this; exact this
  have hy : Fits y := by have := numL_fits k2 n2 s2 hn2; rw [hq] at this; exact this
  have z1 := (fitK ha).1
  have z2 := (fitK hb).1
  have h1 := fun w => num_any k n s (by omega) w
  have h2 := fun w => num_any k2 n2 s2 (by omega) w
  rw [hp] at h1 ⊢
  rw [hq] at h2 ⊢
  obtain ⟨P, hP⟩ : ∃ P, P = T1.back (x + y) := ⟨_, rfl⟩
  have h3 : ∀ w, Calls Try.prog 24 #[.int .i64 x, .int .i64 y] w fun e w' => e = .returned (.tuple #[.int .i64 P.1, .int .i64 P.2]) ∧ Below w.heap.size w w' := fun w => by rw [hP]; exact (T1.add_any x y w hx hy).mono fun e w' h => ⟨h.1, by rw [← h.2]; exact Below.refl _ _⟩
  have HRK := Lib.hid (reckon_any 24 (enters_of Try.func24 (by kernel_rfl) rfl) k n s k2 n2 s2 x p2 y q2 P h1 h2 h3)
  rw [twoF_43]
  simp only
  rw [← hP]
  rw [show (if p2 ≠ 0 then errA p2 else if q2 ≠ 0 then errA q2 else numA P) = recF p2 q2 P from rfl]
  obtain ⟨k3, n3, s3, e3, hA⟩ := recF_form p2 q2 P
  rw [hA] at HRK ⊢
  clear hA hP h1 h2 h3 hx hy hp hq hn hn2 ha hb z1 z2
  obtain ⟨W, hW, HR⟩ := kw_new w (cellC k n s) (cellC k2 n2 s2) zeroC
  go_enter Try.func9, Try.ntmps9
  go_upto_region 1 with (fail)
  change Code.wp _ _ _ _ (((w.alloc (.cells (cellC k n s) 23)).alloc (.cells (cellC k2 n2 s2) 23)).alloc (.cells zeroC 23))
  rw [← hW]
  clear hW
  obtain ⟨a0, a1, a2⟩ := three_of HR.out.a
  obtain ⟨b0, b1, b2⟩ := three_of HR.out.b
  go_wp2_with fail
  refine (HRK.out _).mono ?_
  rintro e w1 ⟨rfl, bb⟩
  have HR1 := Lib.hid (HR.out.after bb)
  clear bb a0 a1 a2 b0 b1 b2 HR
  unfold twoC
  go_wp2_with (refine wpList_store_row rfl 23 (.tmp 6) (.tmp 14) rfl (w.heap.size + 1 + 1) (cellC k3 n3 s3) rfl rfl 23 zeroC HR1.out.r.row HI rfl (cell_one3 _ _ _) ?_)
  obtain ⟨Z, hZ, HZ⟩ : ∃ Z, Z = w1.setRow (w.heap.size + 1 + 1) (cellC k3 n3 s3) ∧ Hid (Kw w Z (cellC k n s) (cellC k2 n2 s2) (cellC k3 n3 s3)) := ⟨_, rfl, Lib.hid (HR1.out.put _)⟩
  rw [← hZ]
  clear hZ
  obtain ⟨d0, d1, d2⟩ := three_of HZ.out.r
  refine bodyPost_ret (v := twoC k3 n3 s3 e3) ?_ rfl ?_
  · simp [results, Try.results9, go_sem, d0, d1, d2, twoC, cellC]
  · exact ⟨rfl, HZ.out.below⟩

set_option maxRecDepth 100000 in
set_option maxHeartbeats 1000000 in
theorem two_45 (k n : Int) (s : ByteArray) (k2 n2 : Int) (s2 : ByteArray) (hn : Fits n) (hn2 : Fits n2) (ha : fitB k n s = true) (hb : fitB k2 n2 s2 = true) (w : World) :
    Calls Try.prog 9 #[.string ⟨#[45]⟩, .agg (cellC k n s), .agg (cellC k2 n2 s2)] w fun e w' => e = .returned (twoF ⟨#[45]⟩ (refCmpC k n s k2 n2 s2) (numL k n s) (numL k2 n2 s2)) ∧ Below w.heap.size w w' := by
  have HI := info_cell
  obtain ⟨x, p2, hp⟩ : ∃ x p2, numL k n s = (x, p2) := ⟨_, _, rfl⟩
  obtain ⟨y, q2, hq⟩ : ∃ y q2, numL k2 n2 s2 = (y, q2) := ⟨_, _, rfl⟩
  have hx : Fits x := by have := numL_fits k n s hn; rw [hp] at this; exact this
  have hy : Fits y := by have := numL_fits k2 n2 s2 hn2; rw [hq] at this; exact this
  have z1 := (fitK ha).1
  have z2 := (fitK hb).1
  have h1 := fun w => num_any k n s (by omega) w
  have h2 := fun w => num_any k2 n2 s2 (by omega) w
  rw [hp] at h1 ⊢
  rw [hq] at h2 ⊢
  obtain ⟨P, hP⟩ : ∃ P, P = T1.back (x - y) := ⟨_, rfl⟩
  have h3 : ∀ w, Calls Try.prog 25 #[.int .i64 x, .int .i64 y] w fun e w' => e = .returned (.tuple #[.int .i64 P.1, .int .i64 P.2]) ∧ Below w.heap.size w w' := fun w => by rw [hP]; exact (T1.sub_any x y w hx hy).mono fun e w' h => ⟨h.1, by rw [← h.2]; exact Below.refl _ _⟩
  have HRK := Lib.hid (reckon_any 25 (enters_of Try.func25 (by kernel_rfl) rfl) k n s k2 n2 s2 x p2 y q2 P h1 h2 h3)
  rw [twoF_45]
  simp only
  rw [← hP]
  rw [show (if p2 ≠ 0 then errA p2 else if q2 ≠ 0 then errA q2 else numA P) = recF p2 q2 P from rfl]
  obtain ⟨k3, n3, s3, e3, hA⟩ := recF_form p2 q2 P
  rw [hA] at HRK ⊢
  clear hA hP h1 h2 h3 hx hy hp hq hn hn2 ha hb z1 z2
  obtain ⟨W, hW, HR⟩ := kw_new w (cellC k n s) (cellC k2 n2 s2) zeroC
  go_enter Try.func9, Try.ntmps9
  go_upto_region 1 with (fail)
  change Code.wp _ _ _ _ (((w.alloc (.cells (cellC k n s) 23)).alloc (.cells (cellC k2 n2 s2) 23)).alloc (.cells zeroC 23))
  rw [← hW]
  clear hW
  obtain ⟨a0, a1, a2⟩ := three_of HR.out.a
  obtain ⟨b0, b1, b2⟩ := three_of HR.out.b
  go_wp2_with fail
  refine (HRK.out _).mono ?_
  rintro e w1 ⟨rfl, bb⟩
  have HR1 := Lib.hid (HR.out.after bb)
  clear bb a0 a1 a2 b0 b1 b2 HR
  unfold twoC
  go_wp2_with (refine wpList_store_row rfl 23 (.tmp 6) (.tmp 21) rfl (w.heap.size + 1 + 1) (cellC k3 n3 s3) rfl rfl 23 zeroC HR1.out.r.row HI rfl (cell_one3 _ _ _) ?_)
  obtain ⟨Z, hZ, HZ⟩ : ∃ Z, Z = w1.setRow (w.heap.size + 1 + 1) (cellC k3 n3 s3) ∧ Hid (Kw w Z (cellC k n s) (cellC k2 n2 s2) (cellC k3 n3 s3)) := ⟨_, rfl, Lib.hid (HR1.out.put _)⟩
  rw [← hZ]
  clear hZ
  obtain ⟨d0, d1, d2⟩ := three_of HZ.out.r
  refine bodyPost_ret (v := twoC k3 n3 s3 e3) ?_ rfl ?_
  · simp [results, Try.results9, go_sem, d0, d1, d2, twoC, cellC]
  · exact ⟨rfl, HZ.out.below⟩

set_option maxRecDepth 100000 in
set_option maxHeartbeats 1000000 in
theorem two_42 (k n : Int) (s : ByteArray) (k2 n2 : Int) (s2 : ByteArray) (hn : Fits n) (hn2 : Fits n2) (ha : fitB k n s = true) (hb : fitB k2 n2 s2 = true) (w : World) :
    Calls Try.prog 9 #[.string ⟨#[42]⟩, .agg (cellC k n s), .agg (cellC k2 n2 s2)] w fun e w' => e = .returned (twoF ⟨#[42]⟩ (refCmpC k n s k2 n2 s2) (numL k n s) (numL k2 n2 s2)) ∧ Below w.heap.size w w' := by
  have HI := info_cell
  obtain ⟨x, p2, hp⟩ : ∃ x p2, numL k n s = (x, p2) := ⟨_, _, rfl⟩
  obtain ⟨y, q2, hq⟩ : ∃ y q2, numL k2 n2 s2 = (y, q2) := ⟨_, _, rfl⟩
  have hx : Fits x := by have := numL_fits k n s hn; rw [hp] at this; exact this
  have hy : Fits y := by have := numL_fits k2 n2 s2 hn2; rw [hq] at this; exact this
  have z1 := (fitK ha).1
  have z2 := (fitK hb).1
  have h1 := fun w => num_any k n s (by omega) w
  have h2 := fun w => num_any k2 n2 s2 (by omega) w
  rw [hp] at h1 ⊢
  rw [hq] at h2 ⊢
  obtain ⟨P, hP⟩ : ∃ P, P = T1.mulAns x y := ⟨_, rfl⟩
  have h3 : ∀ w, Calls Try.prog 26 #[.int .i64 x, .int .i64 y] w fun e w' => e = .returned (.tuple #[.int .i64 P.1, .int .i64 P.2]) ∧ Below w.heap.size w w' := fun w => by rw [hP]; exact (T1.mul_any x y w hx hy).mono fun e w' h => ⟨h.1, T1.Drew.below h.2⟩
  have HRK := Lib.hid (reckon_any 26 (enters_of Try.func26 (by kernel_rfl) rfl) k n s k2 n2 s2 x p2 y q2 P h1 h2 h3)
  rw [twoF_42]
  simp only
  rw [← hP]
  rw [show (if p2 ≠ 0 then errA p2 else if q2 ≠ 0 then errA q2 else numA P) = recF p2 q2 P from rfl]
  obtain ⟨k3, n3, s3, e3, hA⟩ := recF_form p2 q2 P
  rw [hA] at HRK ⊢
  clear hA hP h1 h2 h3 hx hy hp hq hn hn2 ha hb z1 z2
  obtain ⟨W, hW, HR⟩ := kw_new w (cellC k n s) (cellC k2 n2 s2) zeroC
  go_enter Try.func9, Try.ntmps9
  go_upto_region 1 with (fail)
  change Code.wp _ _ _ _ (((w.alloc (.cells (cellC k n s) 23)).alloc (.cells (cellC k2 n2 s2) 23)).alloc (.cells zeroC 23))
  rw [← hW]
  clear hW
  obtain ⟨a0, a1, a2⟩ := three_of HR.out.a
  obtain ⟨b0, b1, b2⟩ := three_of HR.out.b
  go_wp2_with fail
  refine (HRK.out _).mono ?_
  rintro e w1 ⟨rfl, bb⟩
  have HR1 := Lib.hid (HR.out.after bb)
  clear bb a0 a1 a2 b0 b1 b2 HR
  unfold twoC
  go_wp2_with (refine wpList_store_row rfl 23 (.tmp 6) (.tmp 28) rfl (w.heap.size + 1 + 1) (cellC k3 n3 s3) rfl rfl 23 zeroC HR1.out.r.row HI rfl (cell_one3 _ _ _) ?_)
  obtain ⟨Z, hZ, HZ⟩ : ∃ Z, Z = w1.setRow (w.heap.size + 1 + 1) (cellC k3 n3 s3) ∧ Hid (Kw w Z (cellC k n s) (cellC k2 n2 s2) (cellC k3 n3 s3)) := ⟨_, rfl, Lib.hid (HR1.out.put _)⟩
  rw [← hZ]
  clear hZ
  obtain ⟨d0, d1, d2⟩ := three_of HZ.out.r
  refine bodyPost_ret (v := twoC k3 n3 s3 e3) ?_ rfl ?_
  · simp [results, Try.results9, go_sem, d0, d1, d2, twoC, cellC]
  · exact ⟨rfl, HZ.out.below⟩

set_option maxRecDepth 100000 in
set_option maxHeartbeats 1000000 in
theorem two_47 (k n : Int) (s : ByteArray) (k2 n2 : Int) (s2 : ByteArray) (hn : Fits n) (hn2 : Fits n2) (ha : fitB k n s = true) (hb : fitB k2 n2 s2 = true) (w : World) :
    Calls Try.prog 9 #[.string ⟨#[47]⟩, .agg (cellC k n s), .agg (cellC k2 n2 s2)] w fun e w' => e = .returned (twoF ⟨#[47]⟩ (refCmpC k n s k2 n2 s2) (numL k n s) (numL k2 n2 s2)) ∧ Below w.heap.size w w' := by
  have HI := info_cell
  obtain ⟨x, p2, hp⟩ : ∃ x p2, numL k n s = (x, p2) := ⟨_, _, rfl⟩
  obtain ⟨y, q2, hq⟩ : ∃ y q2, numL k2 n2 s2 = (y, q2) := ⟨_, _, rfl⟩
  have hx : Fits x := by have := numL_fits k n s hn; rw [hp] at this; exact this
  have hy : Fits y := by have := numL_fits k2 n2 s2 hn2; rw [hq] at this; exact this
  have z1 := (fitK ha).1
  have z2 := (fitK hb).1
  have h1 := fun w => num_any k n s (by omega) w
  have h2 := fun w => num_any k2 n2 s2 (by omega) w
  rw [hp] at h1 ⊢
  rw [hq] at h2 ⊢
  obtain ⟨P, hP⟩ : ∃ P, P = T1.divAns x y := ⟨_, rfl⟩
  have h3 : ∀ w, Calls Try.prog 27 #[.int .i64 x, .int .i64 y] w fun e w' => e = .returned (.tuple #[.int .i64 P.1, .int .i64 P.2]) ∧ Below w.heap.size w w' := fun w => by rw [hP]; exact (T1.div_any x y w hx hy).mono fun e w' h => ⟨h.1, T1.Drew.below h.2⟩
  have HRK := Lib.hid (reckon_any 27 (enters_of Try.func27 (by kernel_rfl) rfl) k n s k2 n2 s2 x p2 y q2 P h1 h2 h3)
  rw [twoF_47]
  simp only
  rw [← hP]
  rw [show (if p2 ≠ 0 then errA p2 else if q2 ≠ 0 then errA q2 else numA P) = recF p2 q2 P from rfl]
  obtain ⟨k3, n3, s3, e3, hA⟩ := recF_form p2 q2 P
  rw [hA] at HRK ⊢
  clear hA hP h1 h2 h3 hx hy hp hq hn hn2 ha hb z1 z2
  obtain ⟨W, hW, HR⟩ := kw_new w (cellC k n s) (cellC k2 n2 s2) zeroC
  go_enter Try.func9, Try.ntmps9
  go_upto_region 1 with (fail)
  change Code.wp _ _ _ _ (((w.alloc (.cells (cellC k n s) 23)).alloc (.cells (cellC k2 n2 s2) 23)).alloc (.cells zeroC 23))
  rw [← hW]
  clear hW
  obtain ⟨a0, a1, a2⟩ := three_of HR.out.a
  obtain ⟨b0, b1, b2⟩ := three_of HR.out.b
  go_wp2_with fail
  refine (HRK.out _).mono ?_
  rintro e w1 ⟨rfl, bb⟩
  have HR1 := Lib.hid (HR.out.after bb)
  clear bb a0 a1 a2 b0 b1 b2 HR
  unfold twoC
  go_wp2_with (refine wpList_store_row rfl 23 (.tmp 6) (.tmp 35) rfl (w.heap.size + 1 + 1) (cellC k3 n3 s3) rfl rfl 23 zeroC HR1.out.r.row HI rfl (cell_one3 _ _ _) ?_)
  obtain ⟨Z, hZ, HZ⟩ : ∃ Z, Z = w1.setRow (w.heap.size + 1 + 1) (cellC k3 n3 s3) ∧ Hid (Kw w Z (cellC k n s) (cellC k2 n2 s2) (cellC k3 n3 s3)) := ⟨_, rfl, Lib.hid (HR1.out.put _)⟩
  rw [← hZ]
  clear hZ
  obtain ⟨d0, d1, d2⟩ := three_of HZ.out.r
  refine bodyPost_ret (v := twoC k3 n3 s3 e3) ?_ rfl ?_
  · simp [results, Try.results9, go_sem, d0, d1, d2, twoC, cellC]
  · exact ⟨rfl, HZ.out.below⟩

set_option maxRecDepth 100000 in
set_option maxHeartbeats 1000000 in
theorem two_37 (k n : Int) (s : ByteArray) (k2 n2 : Int) (s2 : ByteArray) (hn : Fits n) (hn2 : Fits n2) (ha : fitB k n s = true) (hb : fitB k2 n2 s2 = true) (w : World) :
    Calls Try.prog 9 #[.string ⟨#[37]⟩, .agg (cellC k n s), .agg (cellC k2 n2 s2)] w fun e w' => e = .returned (twoF ⟨#[37]⟩ (refCmpC k n s k2 n2 s2) (numL k n s) (numL k2 n2 s2)) ∧ Below w.heap.size w w' := by
  have HI := info_cell
  obtain ⟨x, p2, hp⟩ : ∃ x p2, numL k n s = (x, p2) := ⟨_, _, rfl⟩
  obtain ⟨y, q2, hq⟩ : ∃ y q2, numL k2 n2 s2 = (y, q2) := ⟨_, _, rfl⟩
  have hx : Fits x := by have := numL_fits k n s hn; rw [hp] at this; exact this
  have hy : Fits y := by have := numL_fits k2 n2 s2 hn2; rw [hq] at this; exact this
  have z1 := (fitK ha).1
  have z2 := (fitK hb).1
  have h1 := fun w => num_any k n s (by omega) w
  have h2 := fun w => num_any k2 n2 s2 (by omega) w
  rw [hp] at h1 ⊢
  rw [hq] at h2 ⊢
  obtain ⟨P, hP⟩ : ∃ P, P = T1.modAns x y := ⟨_, rfl⟩
  have h3 : ∀ w, Calls Try.prog 28 #[.int .i64 x, .int .i64 y] w fun e w' => e = .returned (.tuple #[.int .i64 P.1, .int .i64 P.2]) ∧ Below w.heap.size w w' := fun w => by rw [hP]; exact (T1.mod_any x y w hx hy).mono fun e w' h => ⟨h.1, by rw [← h.2]; exact Below.refl _ _⟩
  have HRK := Lib.hid (reckon_any 28 (enters_of Try.func28 (by kernel_rfl) rfl) k n s k2 n2 s2 x p2 y q2 P h1 h2 h3)
  rw [twoF_37]
  simp only
  rw [← hP]
  rw [show (if p2 ≠ 0 then errA p2 else if q2 ≠ 0 then errA q2 else numA P) = recF p2 q2 P from rfl]
  obtain ⟨k3, n3, s3, e3, hA⟩ := recF_form p2 q2 P
  rw [hA] at HRK ⊢
  clear hA hP h1 h2 h3 hx hy hp hq hn hn2 ha hb z1 z2
  obtain ⟨W, hW, HR⟩ := kw_new w (cellC k n s) (cellC k2 n2 s2) zeroC
  go_enter Try.func9, Try.ntmps9
  go_upto_region 1 with (fail)
  change Code.wp _ _ _ _ (((w.alloc (.cells (cellC k n s) 23)).alloc (.cells (cellC k2 n2 s2) 23)).alloc (.cells zeroC 23))
  rw [← hW]
  clear hW
  obtain ⟨a0, a1, a2⟩ := three_of HR.out.a
  obtain ⟨b0, b1, b2⟩ := three_of HR.out.b
  go_wp2_with fail
  refine (HRK.out _).mono ?_
  rintro e w1 ⟨rfl, bb⟩
  have HR1 := Lib.hid (HR.out.after bb)
  clear bb a0 a1 a2 b0 b1 b2 HR
  unfold twoC
  go_wp2_with (refine wpList_store_row rfl 23 (.tmp 6) (.tmp 42) rfl (w.heap.size + 1 + 1) (cellC k3 n3 s3) rfl rfl 23 zeroC HR1.out.r.row HI rfl (cell_one3 _ _ _) ?_)
  obtain ⟨Z, hZ, HZ⟩ : ∃ Z, Z = w1.setRow (w.heap.size + 1 + 1) (cellC k3 n3 s3) ∧ Hid (Kw w Z (cellC k n s) (cellC k2 n2 s2) (cellC k3 n3 s3)) := ⟨_, rfl, Lib.hid (HR1.out.put _)⟩
  rw [← hZ]
  clear hZ
  obtain ⟨d0, d1, d2⟩ := three_of HZ.out.r
  refine bodyPost_ret (v := twoC k3 n3 s3 e3) ?_ rfl ?_
  · simp [results, Try.results9, go_sem, d0, d1, d2, twoC, cellC]
  · exact ⟨rfl, HZ.out.below⟩

set_option maxRecDepth 100000 in
set_option maxHeartbeats 1000000 in
theorem two_60 (k n : Int) (s : ByteArray) (k2 n2 : Int) (s2 : ByteArray) (hn : Fits n) (hn2 : Fits n2) (ha : fitB k n s = true) (hb : fitB k2 n2 s2 = true) (w : World) :
    Calls Try.prog 9 #[.string ⟨#[60]⟩, .agg (cellC k n s), .agg (cellC k2 n2 s2)] w fun e w' => e = .returned (twoF ⟨#[60]⟩ (refCmpC k n s k2 n2 s2) (numL k n s) (numL k2 n2 s2)) ∧ Below w.heap.size w w' := by
  have HI := info_cell
  have HC := Lib.hid (fun w => compare_cell k n s k2 n2 s2 hn hn2 w)
  have hc3 := cmpC_cases k n s k2 n2 s2
  rw [cmp_ref (fitK ha).2 (fitK hb).2]
  obtain ⟨c, hc⟩ : ∃ c, c = cmpC k n s k2 n2 s2 := ⟨_, rfl⟩
  rw [← hc] at HC hc3 ⊢
  have HQ : Hid ((decide (c < 0)) = (c == -1)) := Lib.hid (by rcases hc3 with h | h | h <;> (rw [h]; rfl))
  rw [twoF_60_]
  clear hc hc3 hn hn2 ha hb
  obtain ⟨W, hW, HR⟩ := kw_new w (cellC k n s) (cellC k2 n2 s2) zeroC
  go_enter Try.func9, Try.ntmps9
  go_upto_region 1 with (fail)
  change Code.wp _ _ _ _ (((w.alloc (.cells (cellC k n s) 23)).alloc (.cells (cellC k2 n2 s2) 23)).alloc (.cells zeroC 23))
  rw [← hW]
  clear hW
  obtain ⟨a0, a1, a2⟩ := three_of HR.out.a
  obtain ⟨b0, b1, b2⟩ := three_of HR.out.b
  go_wp2_with fail
  refine (HC.out _).mono ?_
  rintro e w1 ⟨rfl, bb⟩
  have HR1 := Lib.hid (HR.out.after bb)
  clear bb a0 a1 a2 b0 b1 b2 HR
  go_wp2_with fail
  refine (bool_any _ _).mono ?_
  rintro e w2 ⟨rfl, bb⟩
  have HR2 := Lib.hid (HR1.out.after bb)
  clear bb HR1
  go_wp2_with (refine wpList_store_row rfl 23 (.tmp 6) (.tmp 50) rfl (w.heap.size + 1 + 1) (cellC 1 (boolN (decide (c < 0))) ⟨#[]⟩) rfl rfl 23 zeroC HR2.out.r.row HI rfl (cell_one3 _ _ _) ?_)
  obtain ⟨Z, hZ, HZ⟩ : ∃ Z, Z = w2.setRow (w.heap.size + 1 + 1) (cellC 1 (boolN (decide (c < 0))) ⟨#[]⟩) ∧ Hid (Kw w Z (cellC k n s) (cellC k2 n2 s2) (cellC 1 (boolN (decide (c < 0))) ⟨#[]⟩)) := ⟨_, rfl, Lib.hid (HR2.out.put _)⟩
  rw [← hZ]
  clear hZ
  obtain ⟨d0, d1, d2⟩ := three_of HZ.out.r
  refine bodyPost_ret (v := twoC 1 (boolN (decide (c < 0))) ⟨#[]⟩ 0) ?_ rfl ?_
  · simp [results, Try.results9, go_sem, d0, d1, d2, twoC, cellC]
  · exact ⟨by rw [← HQ.out]; rfl, HZ.out.below⟩

set_option maxRecDepth 100000 in
set_option maxHeartbeats 1000000 in
theorem two_60_61 (k n : Int) (s : ByteArray) (k2 n2 : Int) (s2 : ByteArray) (hn : Fits n) (hn2 : Fits n2) (ha : fitB k n s = true) (hb : fitB k2 n2 s2 = true) (w : World) :
    Calls Try.prog 9 #[.string ⟨#[60, 61]⟩, .agg (cellC k n s), .agg (cellC k2 n2 s2)] w fun e w' => e = .returned (twoF ⟨#[60, 61]⟩ (refCmpC k n s k2 n2 s2) (numL k n s) (numL k2 n2 s2)) ∧ Below w.heap.size w w' := by
  have HI := info_cell
  have HC := Lib.hid (fun w => compare_cell k n s k2 n2 s2 hn hn2 w)
  have hc3 := cmpC_cases k n s k2 n2 s2
  rw [cmp_ref (fitK ha).2 (fitK hb).2]
  obtain ⟨c, hc⟩ : ∃ c, c = cmpC k n s k2 n2 s2 := ⟨_, rfl⟩
  rw [← hc] at HC hc3 ⊢
  have HQ : Hid ((decide (c ≤ 0)) = (c != 1)) := Lib.hid (by rcases hc3 with h | h | h <;> (rw [h]; rfl))
  rw [twoF_60_61_]
  clear hc hc3 hn hn2 ha hb
  obtain ⟨W, hW, HR⟩ := kw_new w (cellC k n s) (cellC k2 n2 s2) zeroC
  go_enter Try.func9, Try.ntmps9
  go_upto_region 1 with (fail)
  change Code.wp _ _ _ _ (((w.alloc (.cells (cellC k n s) 23)).alloc (.cells (cellC k2 n2 s2) 23)).alloc (.cells zeroC 23))
  rw [← hW]
  clear hW
  obtain ⟨a0, a1, a2⟩ := three_of HR.out.a
  obtain ⟨b0, b1, b2⟩ := three_of HR.out.b
  go_wp2_with fail
  refine (HC.out _).mono ?_
  rintro e w1 ⟨rfl, bb⟩
  have HR1 := Lib.hid (HR.out.after bb)
  clear bb a0 a1 a2 b0 b1 b2 HR
  go_wp2_with fail
  refine (bool_any _ _).mono ?_
  rintro e w2 ⟨rfl, bb⟩
  have HR2 := Lib.hid (HR1.out.after bb)
  clear bb HR1
  go_wp2_with (refine wpList_store_row rfl 23 (.tmp 6) (.tmp 57) rfl (w.heap.size + 1 + 1) (cellC 1 (boolN (decide (c ≤ 0))) ⟨#[]⟩) rfl rfl 23 zeroC HR2.out.r.row HI rfl (cell_one3 _ _ _) ?_)
  obtain ⟨Z, hZ, HZ⟩ : ∃ Z, Z = w2.setRow (w.heap.size + 1 + 1) (cellC 1 (boolN (decide (c ≤ 0))) ⟨#[]⟩) ∧ Hid (Kw w Z (cellC k n s) (cellC k2 n2 s2) (cellC 1 (boolN (decide (c ≤ 0))) ⟨#[]⟩)) := ⟨_, rfl, Lib.hid (HR2.out.put _)⟩
  rw [← hZ]
  clear hZ
  obtain ⟨d0, d1, d2⟩ := three_of HZ.out.r
  refine bodyPost_ret (v := twoC 1 (boolN (decide (c ≤ 0))) ⟨#[]⟩ 0) ?_ rfl ?_
  · simp [results, Try.results9, go_sem, d0, d1, d2, twoC, cellC]
  · exact ⟨by rw [← HQ.out]; rfl, HZ.out.below⟩

set_option maxRecDepth 100000 in
set_option maxHeartbeats 1000000 in
theorem two_61_61 (k n : Int) (s : ByteArray) (k2 n2 : Int) (s2 : ByteArray) (hn : Fits n) (hn2 : Fits n2) (ha : fitB k n s = true) (hb : fitB k2 n2 s2 = true) (w : World) :
    Calls Try.prog 9 #[.string ⟨#[61, 61]⟩, .agg (cellC k n s), .agg (cellC k2 n2 s2)] w fun e w' => e = .returned (twoF ⟨#[61, 61]⟩ (refCmpC k n s k2 n2 s2) (numL k n s) (numL k2 n2 s2)) ∧ Below w.heap.size w w' := by
  have HI := info_cell
  have HC := Lib.hid (fun w => compare_cell k n s k2 n2 s2 hn hn2 w)
  have hc3 := cmpC_cases k n s k2 n2 s2
  rw [cmp_ref (fitK ha).2 (fitK hb).2]
  obtain ⟨c, hc⟩ : ∃ c, c = cmpC k n s k2 n2 s2 := ⟨_, rfl⟩
  rw [← hc] at HC hc3 ⊢
  rw [twoF_61_61_]
  clear hc hc3 hn hn2 ha hb
  obtain ⟨W, hW, HR⟩ := kw_new w (cellC k n s) (cellC k2 n2 s2) zeroC
  go_enter Try.func9, Try.ntmps9
  go_upto_region 1 with (fail)
  change Code.wp _ _ _ _ (((w.alloc (.cells (cellC k n s) 23)).alloc (.cells (cellC k2 n2 s2) 23)).alloc (.cells zeroC 23))
  rw [← hW]
  clear hW
  obtain ⟨a0, a1, a2⟩ := three_of HR.out.a
  obtain ⟨b0, b1, b2⟩ := three_of HR.out.b
  go_wp2_with fail
  refine (HC.out _).mono ?_
  rintro e w1 ⟨rfl, bb⟩
  have HR1 := Lib.hid (HR.out.after bb)
  clear bb a0 a1 a2 b0 b1 b2 HR
  go_wp2_with fail
  refine (bool_any _ _).mono ?_
  rintro e w2 ⟨rfl, bb⟩
  have HR2 := Lib.hid (HR1.out.after bb)
  clear bb HR1
  go_wp2_with (refine wpList_store_row rfl 23 (.tmp 6) (.tmp 64) rfl (w.heap.size + 1 + 1) (cellC 1 (boolN (c == 0)) ⟨#[]⟩) rfl rfl 23 zeroC HR2.out.r.row HI rfl (cell_one3 _ _ _) ?_)
  obtain ⟨Z, hZ, HZ⟩ : ∃ Z, Z = w2.setRow (w.heap.size + 1 + 1) (cellC 1 (boolN (c == 0)) ⟨#[]⟩) ∧ Hid (Kw w Z (cellC k n s) (cellC k2 n2 s2) (cellC 1 (boolN (c == 0)) ⟨#[]⟩)) := ⟨_, rfl, Lib.hid (HR2.out.put _)⟩
  rw [← hZ]
  clear hZ
  obtain ⟨d0, d1, d2⟩ := three_of HZ.out.r
  refine bodyPost_ret (v := twoC 1 (boolN (c == 0)) ⟨#[]⟩ 0) ?_ rfl ?_
  · simp [results, Try.results9, go_sem, d0, d1, d2, twoC, cellC]
  · exact ⟨rfl, HZ.out.below⟩

set_option maxRecDepth 100000 in
set_option maxHeartbeats 1000000 in
theorem two_33_61 (k n : Int) (s : ByteArray) (k2 n2 : Int) (s2 : ByteArray) (hn : Fits n) (hn2 : Fits n2) (ha : fitB k n s = true) (hb : fitB k2 n2 s2 = true) (w : World) :
    Calls Try.prog 9 #[.string ⟨#[33, 61]⟩, .agg (cellC k n s), .agg (cellC k2 n2 s2)] w fun e w' => e = .returned (twoF ⟨#[33, 61]⟩ (refCmpC k n s k2 n2 s2) (numL k n s) (numL k2 n2 s2)) ∧ Below w.heap.size w w' := by
  have HI := info_cell
  have HC := Lib.hid (fun w => compare_cell k n s k2 n2 s2 hn hn2 w)
  have hc3 := cmpC_cases k n s k2 n2 s2
  rw [cmp_ref (fitK ha).2 (fitK hb).2]
  obtain ⟨c, hc⟩ : ∃ c, c = cmpC k n s k2 n2 s2 := ⟨_, rfl⟩
  rw [← hc] at HC hc3 ⊢
  rw [twoF_33_61_]
  clear hc hc3 hn hn2 ha hb
  obtain ⟨W, hW, HR⟩ := kw_new w (cellC k n s) (cellC k2 n2 s2) zeroC
  go_enter Try.func9, Try.ntmps9
  go_upto_region 1 with (fail)
  change Code.wp _ _ _ _ (((w.alloc (.cells (cellC k n s) 23)).alloc (.cells (cellC k2 n2 s2) 23)).alloc (.cells zeroC 23))
  rw [← hW]
  clear hW
  obtain ⟨a0, a1, a2⟩ := three_of HR.out.a
  obtain ⟨b0, b1, b2⟩ := three_of HR.out.b
  go_wp2_with fail
  refine (HC.out _).mono ?_
  rintro e w1 ⟨rfl, bb⟩
  have HR1 := Lib.hid (HR.out.after bb)
  clear bb a0 a1 a2 b0 b1 b2 HR
  go_wp2_with fail
  refine (bool_any _ _).mono ?_
  rintro e w2 ⟨rfl, bb⟩
  have HR2 := Lib.hid (HR1.out.after bb)
  clear bb HR1
  go_wp2_with (refine wpList_store_row rfl 23 (.tmp 6) (.tmp 71) rfl (w.heap.size + 1 + 1) (cellC 1 (boolN (c != 0)) ⟨#[]⟩) rfl rfl 23 zeroC HR2.out.r.row HI rfl (cell_one3 _ _ _) ?_)
  obtain ⟨Z, hZ, HZ⟩ : ∃ Z, Z = w2.setRow (w.heap.size + 1 + 1) (cellC 1 (boolN (c != 0)) ⟨#[]⟩) ∧ Hid (Kw w Z (cellC k n s) (cellC k2 n2 s2) (cellC 1 (boolN (c != 0)) ⟨#[]⟩)) := ⟨_, rfl, Lib.hid (HR2.out.put _)⟩
  rw [← hZ]
  clear hZ
  obtain ⟨d0, d1, d2⟩ := three_of HZ.out.r
  refine bodyPost_ret (v := twoC 1 (boolN (c != 0)) ⟨#[]⟩ 0) ?_ rfl ?_
  · simp [results, Try.results9, go_sem, d0, d1, d2, twoC, cellC]
  · exact ⟨rfl, HZ.out.below⟩

set_option maxRecDepth 100000 in
set_option maxHeartbeats 1000000 in
theorem two_62 (k n : Int) (s : ByteArray) (k2 n2 : Int) (s2 : ByteArray) (hn : Fits n) (hn2 : Fits n2) (ha : fitB k n s = true) (hb : fitB k2 n2 s2 = true) (w : World) :
    Calls Try.prog 9 #[.string ⟨#[62]⟩, .agg (cellC k n s), .agg (cellC k2 n2 s2)] w fun e w' => e = .returned (twoF ⟨#[62]⟩ (refCmpC k n s k2 n2 s2) (numL k n s) (numL k2 n2 s2)) ∧ Below w.heap.size w w' := by
  have HI := info_cell
  have HC := Lib.hid (fun w => compare_cell k n s k2 n2 s2 hn hn2 w)
  have hc3 := cmpC_cases k n s k2 n2 s2
  rw [cmp_ref (fitK ha).2 (fitK hb).2]
  obtain ⟨c, hc⟩ : ∃ c, c = cmpC k n s k2 n2 s2 := ⟨_, rfl⟩
  rw [← hc] at HC hc3 ⊢
  have HQ : Hid ((decide (0 < c)) = (c == 1)) := Lib.hid (by rcases hc3 with h | h | h <;> (rw [h]; rfl))
  rw [twoF_62_]
  clear hc hc3 hn hn2 ha hb
  obtain ⟨W, hW, HR⟩ := kw_new w (cellC k n s) (cellC k2 n2 s2) zeroC
  go_enter Try.func9, Try.ntmps9
  go_upto_region 1 with (fail)
  change Code.wp _ _ _ _ (((w.alloc (.cells (cellC k n s) 23)).alloc (.cells (cellC k2 n2 s2) 23)).alloc (.cells zeroC 23))
  rw [← hW]
  clear hW
  obtain ⟨a0, a1, a2⟩ := three_of HR.out.a
  obtain ⟨b0, b1, b2⟩ := three_of HR.out.b
  go_wp2_with fail
  refine (HC.out _).mono ?_
  rintro e w1 ⟨rfl, bb⟩
  have HR1 := Lib.hid (HR.out.after bb)
  clear bb a0 a1 a2 b0 b1 b2 HR
  go_wp2_with fail
  refine (bool_any _ _).mono ?_
  rintro e w2 ⟨rfl, bb⟩
  have HR2 := Lib.hid (HR1.out.after bb)
  clear bb HR1
  go_wp2_with (refine wpList_store_row rfl 23 (.tmp 6) (.tmp 78) rfl (w.heap.size + 1 + 1) (cellC 1 (boolN (decide (0 < c))) ⟨#[]⟩) rfl rfl 23 zeroC HR2.out.r.row HI rfl (cell_one3 _ _ _) ?_)
  obtain ⟨Z, hZ, HZ⟩ : ∃ Z, Z = w2.setRow (w.heap.size + 1 + 1) (cellC 1 (boolN (decide (0 < c))) ⟨#[]⟩) ∧ Hid (Kw w Z (cellC k n s) (cellC k2 n2 s2) (cellC 1 (boolN (decide (0 < c))) ⟨#[]⟩)) := ⟨_, rfl, Lib.hid (HR2.out.put _)⟩
  rw [← hZ]
  clear hZ
  obtain ⟨d0, d1, d2⟩ := three_of HZ.out.r
  refine bodyPost_ret (v := twoC 1 (boolN (decide (0 < c))) ⟨#[]⟩ 0) ?_ rfl ?_
  · simp [results, Try.results9, go_sem, d0, d1, d2, twoC, cellC]
  · exact ⟨by rw [← HQ.out]; rfl, HZ.out.below⟩

set_option maxRecDepth 100000 in
set_option maxHeartbeats 1000000 in
theorem two_62_61 (k n : Int) (s : ByteArray) (k2 n2 : Int) (s2 : ByteArray) (hn : Fits n) (hn2 : Fits n2) (ha : fitB k n s = true) (hb : fitB k2 n2 s2 = true) (w : World) :
    Calls Try.prog 9 #[.string ⟨#[62, 61]⟩, .agg (cellC k n s), .agg (cellC k2 n2 s2)] w fun e w' => e = .returned (twoF ⟨#[62, 61]⟩ (refCmpC k n s k2 n2 s2) (numL k n s) (numL k2 n2 s2)) ∧ Below w.heap.size w w' := by
  have HI := info_cell
  have HC := Lib.hid (fun w => compare_cell k n s k2 n2 s2 hn hn2 w)
  have hc3 := cmpC_cases k n s k2 n2 s2
  rw [cmp_ref (fitK ha).2 (fitK hb).2]
  obtain ⟨c, hc⟩ : ∃ c, c = cmpC k n s k2 n2 s2 := ⟨_, rfl⟩
  rw [← hc] at HC hc3 ⊢
  have HQ : Hid ((decide (0 ≤ c)) = (c != -1)) := Lib.hid (by rcases hc3 with h | h | h <;> (rw [h]; rfl))
  rw [twoF_62_61_]
  clear hc hc3 hn hn2 ha hb
  obtain ⟨W, hW, HR⟩ := kw_new w (cellC k n s) (cellC k2 n2 s2) zeroC
  go_enter Try.func9, Try.ntmps9
  go_upto_region 1 with (fail)
  change Code.wp _ _ _ _ (((w.alloc (.cells (cellC k n s) 23)).alloc (.cells (cellC k2 n2 s2) 23)).alloc (.cells zeroC 23))
  rw [← hW]
  clear hW
  obtain ⟨a0, a1, a2⟩ := three_of HR.out.a
  obtain ⟨b0, b1, b2⟩ := three_of HR.out.b
  go_wp2_with fail
  refine (HC.out _).mono ?_
  rintro e w1 ⟨rfl, bb⟩
  have HR1 := Lib.hid (HR.out.after bb)
  clear bb a0 a1 a2 b0 b1 b2 HR
  go_wp2_with fail
  refine (bool_any _ _).mono ?_
  rintro e w2 ⟨rfl, bb⟩
  have HR2 := Lib.hid (HR1.out.after bb)
  clear bb HR1
  go_wp2_with (refine wpList_store_row rfl 23 (.tmp 6) (.tmp 85) rfl (w.heap.size + 1 + 1) (cellC 1 (boolN (decide (0 ≤ c))) ⟨#[]⟩) rfl rfl 23 zeroC HR2.out.r.row HI rfl (cell_one3 _ _ _) ?_)
  obtain ⟨Z, hZ, HZ⟩ : ∃ Z, Z = w2.setRow (w.heap.size + 1 + 1) (cellC 1 (boolN (decide (0 ≤ c))) ⟨#[]⟩) ∧ Hid (Kw w Z (cellC k n s) (cellC k2 n2 s2) (cellC 1 (boolN (decide (0 ≤ c))) ⟨#[]⟩)) := ⟨_, rfl, Lib.hid (HR2.out.put _)⟩
  rw [← hZ]
  clear hZ
  obtain ⟨d0, d1, d2⟩ := three_of HZ.out.r
  refine bodyPost_ret (v := twoC 1 (boolN (decide (0 ≤ c))) ⟨#[]⟩ 0) ?_ rfl ?_
  · simp [results, Try.results9, go_sem, d0, d1, d2, twoC, cellC]
  · exact ⟨by rw [← HQ.out]; rfl, HZ.out.below⟩

set_option maxRecDepth 100000 in
set_option maxHeartbeats 1000000 in
theorem two_other (g : ByteArray) (h0 : g ≠ ⟨#[60]⟩) (h1 : g ≠ ⟨#[60, 61]⟩) (h2 : g ≠ ⟨#[61, 61]⟩) (h3 : g ≠ ⟨#[33, 61]⟩) (h4 : g ≠ ⟨#[62]⟩) (h5 : g ≠ ⟨#[62, 61]⟩) (h6 : g ≠ ⟨#[43]⟩) (h7 : g ≠ ⟨#[45]⟩) (h8 : g ≠ ⟨#[42]⟩) (h9 : g ≠ ⟨#[47]⟩) (h10 : g ≠ ⟨#[37]⟩) (k n : Int) (s : ByteArray) (k2 n2 : Int) (s2 : ByteArray) (w : World) :
    Calls Try.prog 9 #[.string g, .agg (cellC k n s), .agg (cellC k2 n2 s2)] w fun e w' => e = .returned (twoF g (refCmpC k n s k2 n2 s2) (numL k n s) (numL k2 n2 s2)) ∧ Below w.heap.size w w' := by
  have HI := info_cell
  rw [twoF_other h0 h1 h2 h3 h4 h5 h6 h7 h8 h9 h10]
  have f0 : (g.toList == [60]) = false := ne_bytes h0
  have f1 : (g.toList == [60, 61]) = false := ne_bytes h1
  have f2 : (g.toList == [61, 61]) = false := ne_bytes h2
  have f3 : (g.toList == [33, 61]) = false := ne_bytes h3
  have f4 : (g.toList == [62]) = false := ne_bytes h4
  have f5 : (g.toList == [62, 61]) = false := ne_bytes h5
  have f6 : (g.toList == [43]) = false := ne_bytes h6
  have f7 : (g.toList == [45]) = false := ne_bytes h7
  have f8 : (g.toList == [42]) = false := ne_bytes h8
  have f9 : (g.toList == [47]) = false := ne_bytes h9
  have f10 : (g.toList == [37]) = false := ne_bytes h10
  clear h0 h1 h2 h3 h4 h5 h6 h7 h8 h9 h10
  obtain ⟨W, hW, HR⟩ := kw_new w (cellC k n s) (cellC k2 n2 s2) zeroC
  go_enter Try.func9, Try.ntmps9
  go_upto_region 1 with (fail)
  change Code.wp _ _ _ _ (((w.alloc (.cells (cellC k n s) 23)).alloc (.cells (cellC k2 n2 s2) 23)).alloc (.cells zeroC 23))
  rw [← hW]
  clear hW
  obtain ⟨a0, a1, a2⟩ := three_of HR.out.a
  obtain ⟨b0, b1, b2⟩ := three_of HR.out.b
  go_wp2_with (refine wpList_store_row rfl 23 (.tmp 6) (.tmp 86) rfl (w.heap.size + 1 + 1) (cellC 0 0 ⟨#[]⟩) rfl rfl 23 zeroC HR.out.r.row HI rfl (cell_one3 _ _ _) ?_)
  obtain ⟨Z, hZ, HZ⟩ : ∃ Z, Z = W.setRow (w.heap.size + 1 + 1) (cellC 0 0 ⟨#[]⟩) ∧ Hid (Kw w Z (cellC k n s) (cellC k2 n2 s2) (cellC 0 0 ⟨#[]⟩)) := ⟨_, rfl, Lib.hid (HR.out.put _)⟩
  rw [← hZ]
  clear hZ
  obtain ⟨d0, d1, d2⟩ := three_of HZ.out.r
  refine bodyPost_ret (v := twoC 0 0 ⟨#[]⟩ 1) ?_ rfl ?_
  · simp [results, Try.results9, go_sem, d0, d1, d2, twoC, cellC]
  · exact ⟨rfl, HZ.out.below⟩

theorem two_any (g : ByteArray) (k n : Int) (s : ByteArray) (k2 n2 : Int) (s2 : ByteArray) (hn : Fits n) (hn2 : Fits n2) (ha : fitB k n s = true) (hb : fitB k2 n2 s2 = true) (w : World) :
    Calls Try.prog 9 #[.string g, .agg (cellC k n s), .agg (cellC k2 n2 s2)] w fun e w' => e = .returned (twoF g (refCmpC k n s k2 n2 s2) (numL k n s) (numL k2 n2 s2)) ∧ Below w.heap.size w w' := by
  by_cases h0 : g = ⟨#[60]⟩
  · subst h0; exact two_60 k n s k2 n2 s2 hn hn2 ha hb w
  by_cases h1 : g = ⟨#[60, 61]⟩
  · subst h1; exact two_60_61 k n s k2 n2 s2 hn hn2 ha hb w
  by_cases h2 : g = ⟨#[61, 61]⟩
  · subst h2; exact two_61_61 k n s k2 n2 s2 hn hn2 ha hb w
  by_cases h3 : g = ⟨#[33, 61]⟩
  · subst h3; exact two_33_61 k n s k2 n2 s2 hn hn2 ha hb w
  by_cases h4 : g = ⟨#[62]⟩
  · subst h4; exact two_62 k n s k2 n2 s2 hn hn2 ha hb w
  by_cases h5 : g = ⟨#[62, 61]⟩
  · subst h5; exact two_62_61 k n s k2 n2 s2 hn hn2 ha hb w
  by_cases h6 : g = ⟨#[43]⟩
  · subst h6; exact two_43 k n s k2 n2 s2 hn hn2 ha hb w
  by_cases h7 : g = ⟨#[45]⟩
  · subst h7; exact two_45 k n s k2 n2 s2 hn hn2 ha hb w
  by_cases h8 : g = ⟨#[42]⟩
  · subst h8; exact two_42 k n s k2 n2 s2 hn hn2 ha hb w
  by_cases h9 : g = ⟨#[47]⟩
  · subst h9; exact two_47 k n s k2 n2 s2 hn hn2 ha hb w
  by_cases h10 : g = ⟨#[37]⟩
  · subst h10; exact two_37 k n s k2 n2 s2 hn hn2 ha hb w
  exact two_other g h0 h1 h2 h3 h4 h5 h6 h7 h8 h9 h10 k n s k2 n2 s2 w
end Go.Proofs.Ytbbhcbpfffabpaa
