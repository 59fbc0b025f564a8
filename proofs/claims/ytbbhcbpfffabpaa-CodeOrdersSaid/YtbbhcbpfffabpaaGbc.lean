/- Merged by program: K15C, K15D. -/
import Derived.Test.YtbbhcbpfffabpaaGba
import Derived.Test.YtbbhcbpfffabpaaGaz
import Derived.Test.YtbbhcbpfffabpaaGbb
/- The program's negated, One, Count (gen_k15b.py). -/
namespace Go.Proofs.Ytbbhcbpfffabpaa
open Go.RowKit T3 Go.Shelf

set_option maxRecDepth 100000 in
set_option maxHeartbeats 1000000 in
theorem negated_any (k n : Int) (s : ByteArray) (hn : Fits n) (hs : s.size ≤ 300) (w : World) : Calls Try.prog 40 #[.agg (cellC k n s)] w fun e w' => e = .returned (numA (if (numL k n s).2 = 0 then T1.back (-(numL k n s).1) else numL k n s)) ∧ Below w.heap.size w w' := by
  have HI := info_cell
  obtain ⟨x, p2, hp⟩ : ∃ x p2, numL k n s = (x, p2) := ⟨_, _, rfl⟩
  have hx : Fits x := by have := numL_fits k n s hn; rw [hp] at this; exact this
  have HN := Lib.hid (fun w => num_any k n s (by omega) w)
  rw [hp] at HN ⊢
  clear hp hn hs
  simp only
  obtain ⟨W, hW, HR⟩ := on_new w (cellC k n s) zeroC
  by_cases h1 : p2 = 0
  · subst h1
    rw [if_pos rfl]
    obtain ⟨P, hP⟩ : ∃ P, P = T1.back (-x) := ⟨_, rfl⟩
    have HOP : Hid (∀ w, Calls Try.prog 66 #[.int .i64 x] w fun e w' => e = .returned (.tuple #[.int .i64 P.1, .int .i64 P.2]) ∧ Below w.heap.size w w') := Lib.hid (fun w => by rw [hP]; exact (T1.neg_any x w hx).mono fun e w' h => ⟨h.1, by rw [← h.2]; exact Below.refl _ _⟩)
    rw [← hP]
    clear hP hx
    obtain ⟨k3, n3, s3, e3, hA⟩ := knumA_form P
    have HNM := Lib.hid (fun w => number_any P.1 P.2 w)
    rw [show (P.1, P.2) = P from rfl, hA] at HNM
    rw [hA]
    clear hA
    go_enter Try.func40, Try.ntmps40
    go_upto_region 1 with (fail)
    change Code.wp _ _ _ _ ((w.alloc (.cells (cellC k n s) 23)).alloc (.cells zeroC 23))
    rw [← hW]
    clear hW
    obtain ⟨a0, a1, a2⟩ := three_of HR.out.a
    go_wp2_with fail
    refine (HN.out _).mono ?_
    rintro e w1 ⟨rfl, bb⟩
    have HR1 := Lib.hid (HR.out.after bb)
    unfold two
    clear bb a0 a1 a2 HR
    go_wp2_with fail
    refine (HOP.out _).mono ?_
    rintro e w2 ⟨rfl, bb⟩
    have HR2 := Lib.hid (HR1.out.after bb)
    clear bb HR1
    go_wp2_with fail
    refine (HNM.out _).mono ?_
    rintro e w3 ⟨rfl, bb⟩
    have HR3 := Lib.hid (HR2.out.after bb)
    clear bb HR2
    unfold twoC
    go_wp2_with (refine wpList_store_row rfl 23 (.tmp 2) (.tmp 20) rfl (w.heap.size + 1) (cellC k3 n3 s3) rfl rfl 23 zeroC HR3.out.r.row HI rfl (cell_one3 _ _ _) ?_)
    obtain ⟨Z, hZ, HZ⟩ : ∃ Z, Z = w3.setRow (w.heap.size + 1) (cellC k3 n3 s3) ∧ Hid (On w Z (cellC k n s) (cellC k3 n3 s3)) := ⟨_, rfl, Lib.hid (HR3.out.put _)⟩
    rw [← hZ]
    clear hZ
    obtain ⟨d0, d1, d2⟩ := three_of HZ.out.r
    refine bodyPost_ret (v := twoC k3 n3 s3 e3) ?_ rfl ?_
    · simp [results, Try.results40, go_sem, d0, d1, d2, twoC, cellC]
    · exact ⟨rfl, HZ.out.below⟩
  · have hne : (p2 != 0) = true := by simpa using h1
    obtain ⟨R, hR⟩ : ∃ R, R = numA (if p2 = 0 then T1.back (-x) else (x, p2)) := ⟨_, rfl⟩
    have HA : Hid (R = twoC 0 0 ⟨#[]⟩ p2) := Lib.hid (by rw [hR, if_neg h1]; unfold numA; rw [if_neg h1])
    rw [← hR]
    clear h1 hx hR
    go_enter Try.func40, Try.ntmps40
    go_upto_region 1 with (fail)
    change Code.wp _ _ _ _ ((w.alloc (.cells (cellC k n s) 23)).alloc (.cells zeroC 23))
    rw [← hW]
    clear hW
    obtain ⟨a0, a1, a2⟩ := three_of HR.out.a
    go_wp2_with fail
    refine (HN.out _).mono ?_
    rintro e w1 ⟨rfl, bb⟩
    have HR1 := Lib.hid (HR.out.after bb)
    unfold two
    clear bb a0 a1 a2 HR
    go_wp2_with (refine wpList_store_row rfl 23 (.tmp 2) (.tmp 13) rfl (w.heap.size + 1) (cellC 0 0 ⟨#[]⟩) rfl rfl 23 zeroC HR1.out.r.row HI rfl (cell_one3 _ _ _) ?_)
    obtain ⟨Z, hZ, HZ⟩ : ∃ Z, Z = w1.setRow (w.heap.size + 1) (cellC 0 0 ⟨#[]⟩) ∧ Hid (On w Z (cellC k n s) (cellC 0 0 ⟨#[]⟩)) := ⟨_, rfl, Lib.hid (HR1.out.put _)⟩
    rw [← hZ]
    clear hZ
    obtain ⟨d0, d1, d2⟩ := three_of HZ.out.r
    refine bodyPost_ret (v := twoC 0 0 ⟨#[]⟩ p2) ?_ rfl ?_
    · simp [results, Try.results40, go_sem, d0, d1, d2, twoC, cellC]
    · exact ⟨by rw [HA.out], HZ.out.below⟩

set_option maxRecDepth 100000 in
set_option maxHeartbeats 1000000 in
theorem one_33 (k n : Int) (s : ByteArray) (w : World) :
    Calls Try.prog 11 #[.string ⟨#[33]⟩, .agg (cellC k n s)] w fun e w' => e = .returned (oneF ⟨#[33]⟩ (truthL k n s) (numL k n s)) ∧ Below w.heap.size w w' := by
  have HI := info_cell
  have HT := Lib.hid (fun w => truth_any k n s w)
  obtain ⟨tr, htr⟩ : ∃ tr, tr = truthL k n s := ⟨_, rfl⟩
  rw [← htr] at HT ⊢
  rw [show oneF ⟨#[33]⟩ tr (numL k n s) = boolA (!tr) from rfl]
  clear htr
  obtain ⟨W, hW, HR⟩ := on_new w (cellC k n s) zeroC
  go_enter Try.func11, Try.ntmps11
  go_upto_region 1 with (fail)
  change Code.wp _ _ _ _ ((w.alloc (.cells (cellC k n s) 23)).alloc (.cells zeroC 23))
  rw [← hW]
  clear hW
  obtain ⟨a0, a1, a2⟩ := three_of HR.out.a
  go_wp2_with fail
  refine (HT.out _).mono ?_
  rintro e w1 ⟨rfl, bb⟩
  have HR1 := Lib.hid (HR.out.after bb)
  clear bb a0 a1 a2 HR
  go_wp2_with fail
  refine (bool_any _ _).mono ?_
  rintro e w2 ⟨rfl, bb⟩
  have HR2 := Lib.hid (HR1.out.after bb)
  clear bb HR1
  go_wp2_with (refine wpList_store_row rfl 23 (.tmp 4) (.tmp 12) rfl (w.heap.size + 1) (cellC 1 (boolN (!tr)) ⟨#[]⟩) rfl rfl 23 zeroC HR2.out.r.row HI rfl (cell_one3 _ _ _) ?_)
  obtain ⟨Z, hZ, HZ⟩ : ∃ Z, Z = w2.setRow (w.heap.size + 1) (cellC 1 (boolN (!tr)) ⟨#[]⟩) ∧ Hid (On w Z (cellC k n s) (cellC 1 (boolN (!tr)) ⟨#[]⟩)) := ⟨_, rfl, Lib.hid (HR2.out.put _)⟩
  rw [← hZ]
  clear hZ
  obtain ⟨d0, d1, d2⟩ := three_of HZ.out.r
  refine bodyPost_ret (v := twoC 1 (boolN (!tr)) ⟨#[]⟩ 0) ?_ rfl ?_
  · simp [results, Try.results11, go_sem, d0, d1, d2, twoC, cellC]
  · exact ⟨rfl, HZ.out.below⟩

set_option maxRecDepth 100000 in
set_option maxHeartbeats 1000000 in
theorem one_45 (k n : Int) (s : ByteArray) (hn : Fits n) (hs : s.size ≤ 300) (w : World) :
    Calls Try.prog 11 #[.string ⟨#[45]⟩, .agg (cellC k n s)] w fun e w' => e = .returned (oneF ⟨#[45]⟩ (truthL k n s) (numL k n s)) ∧ Below w.heap.size w w' := by
  have HI := info_cell
  have HNG := Lib.hid (fun w => negated_any k n s hn hs w)
  rw [show oneF ⟨#[45]⟩ (truthL k n s) (numL k n s) = numA (if (numL k n s).2 = 0 then T1.back (-(numL k n s).1) else numL k n s) from rfl]
  obtain ⟨k3, n3, s3, e3, hA⟩ := knumA_form (if (numL k n s).2 = 0 then T1.back (-(numL k n s).1) else numL k n s)
  rw [hA] at HNG ⊢
  clear hA hn hs
  obtain ⟨W, hW, HR⟩ := on_new w (cellC k n s) zeroC
  go_enter Try.func11, Try.ntmps11
  go_upto_region 1 with (fail)
  change Code.wp _ _ _ _ ((w.alloc (.cells (cellC k n s) 23)).alloc (.cells zeroC 23))
  rw [← hW]
  clear hW
  obtain ⟨a0, a1, a2⟩ := three_of HR.out.a
  go_wp2_with fail
  refine (HNG.out _).mono ?_
  rintro e w1 ⟨rfl, bb⟩
  have HR1 := Lib.hid (HR.out.after bb)
  clear bb a0 a1 a2 HR
  unfold twoC
  go_wp2_with (refine wpList_store_row rfl 23 (.tmp 4) (.tmp 17) rfl (w.heap.size + 1) (cellC k3 n3 s3) rfl rfl 23 zeroC HR1.out.r.row HI rfl (cell_one3 _ _ _) ?_)
  obtain ⟨Z, hZ, HZ⟩ : ∃ Z, Z = w1.setRow (w.heap.size + 1) (cellC k3 n3 s3) ∧ Hid (On w Z (cellC k n s) (cellC k3 n3 s3)) := ⟨_, rfl, Lib.hid (HR1.out.put _)⟩
  rw [← hZ]
  clear hZ
  obtain ⟨d0, d1, d2⟩ := three_of HZ.out.r
  refine bodyPost_ret (v := twoC k3 n3 s3 e3) ?_ rfl ?_
  · simp [results, Try.results11, go_sem, d0, d1, d2, twoC, cellC]
  · exact ⟨rfl, HZ.out.below⟩

set_option maxRecDepth 100000 in
set_option maxHeartbeats 1000000 in
theorem one_43 (k n : Int) (s : ByteArray) (hn : Fits n) (hs : s.size ≤ 300) (w : World) :
    Calls Try.prog 11 #[.string ⟨#[43]⟩, .agg (cellC k n s)] w fun e w' => e = .returned (oneF ⟨#[43]⟩ (truthL k n s) (numL k n s)) ∧ Below w.heap.size w w' := by
  have HI := info_cell
  obtain ⟨x, p2, hp⟩ : ∃ x p2, numL k n s = (x, p2) := ⟨_, _, rfl⟩
  have hx : Fits x := by have := numL_fits k n s hn; rw [hp] at this; exact this
  have HN := Lib.hid (fun w => num_any k n s (by omega) w)
  rw [hp] at HN ⊢
  rw [show oneF ⟨#[43]⟩ (truthL k n s) (x, p2) = numA (x, p2) from rfl]
  have HNM := Lib.hid (fun w => number_any x p2 w)
  obtain ⟨k3, n3, s3, e3, hA⟩ := knumA_form (x, p2)
  rw [hA] at HNM ⊢
  clear hA hp hn hs hx
  obtain ⟨W, hW, HR⟩ := on_new w (cellC k n s) zeroC
  go_enter Try.func11, Try.ntmps11
  go_upto_region 1 with (fail)
  change Code.wp _ _ _ _ ((w.alloc (.cells (cellC k n s) 23)).alloc (.cells zeroC 23))
  rw [← hW]
  clear hW
  obtain ⟨a0, a1, a2⟩ := three_of HR.out.a
  go_wp2_with fail
  refine (HN.out _).mono ?_
  rintro e w1 ⟨rfl, bb⟩
  have HR1 := Lib.hid (HR.out.after bb)
  unfold two
  clear bb a0 a1 a2 HR
  go_wp2_with fail
  refine (HNM.out _).mono ?_
  rintro e w2 ⟨rfl, bb⟩
  have HR2 := Lib.hid (HR1.out.after bb)
  clear bb HR1
  unfold twoC
  go_wp2_with (refine wpList_store_row rfl 23 (.tmp 4) (.tmp 26) rfl (w.heap.size + 1) (cellC k3 n3 s3) rfl rfl 23 zeroC HR2.out.r.row HI rfl (cell_one3 _ _ _) ?_)
  obtain ⟨Z, hZ, HZ⟩ : ∃ Z, Z = w2.setRow (w.heap.size + 1) (cellC k3 n3 s3) ∧ Hid (On w Z (cellC k n s) (cellC k3 n3 s3)) := ⟨_, rfl, Lib.hid (HR2.out.put _)⟩
  rw [← hZ]
  clear hZ
  obtain ⟨d0, d1, d2⟩ := three_of HZ.out.r
  refine bodyPost_ret (v := twoC k3 n3 s3 e3) ?_ rfl ?_
  · simp [results, Try.results11, go_sem, d0, d1, d2, twoC, cellC]
  · exact ⟨rfl, HZ.out.below⟩

set_option maxRecDepth 100000 in
set_option maxHeartbeats 1000000 in
theorem one_other (g : ByteArray) (h0 : g ≠ ⟨#[33]⟩) (h1 : g ≠ ⟨#[45]⟩) (h2 : g ≠ ⟨#[43]⟩) (k n : Int) (s : ByteArray) (w : World) :
    Calls Try.prog 11 #[.string g, .agg (cellC k n s)] w fun e w' => e = .returned (oneF g (truthL k n s) (numL k n s)) ∧ Below w.heap.size w w' := by
  have HI := info_cell
  rw [show oneF g (truthL k n s) (numL k n s) = errA 1 from by unfold oneF; rw [if_neg h0, if_neg h1, if_neg h2]]
  have f0 : (g.toList == [33]) = false := ne_bytes h0
  have f1 : (g.toList == [45]) = false := ne_bytes h1
  have f2 : (g.toList == [43]) = false := ne_bytes h2
  clear h0 h1 h2
  obtain ⟨W, hW, HR⟩ := on_new w (cellC k n s) zeroC
  go_enter Try.func11, Try.ntmps11
  go_upto_region 1 with (fail)
  change Code.wp _ _ _ _ ((w.alloc (.cells (cellC k n s) 23)).alloc (.cells zeroC 23))
  rw [← hW]
  clear hW
  obtain ⟨a0, a1, a2⟩ := three_of HR.out.a
  go_wp2_with (refine wpList_store_row rfl 23 (.tmp 4) (.tmp 28) rfl (w.heap.size + 1) (cellC 0 0 ⟨#[]⟩) rfl rfl 23 zeroC HR.out.r.row HI rfl (cell_one3 _ _ _) ?_)
  obtain ⟨Z, hZ, HZ⟩ : ∃ Z, Z = W.setRow (w.heap.size + 1) (cellC 0 0 ⟨#[]⟩) ∧ Hid (On w Z (cellC k n s) (cellC 0 0 ⟨#[]⟩)) := ⟨_, rfl, Lib.hid (HR.out.put _)⟩
  rw [← hZ]
  clear hZ
  obtain ⟨d0, d1, d2⟩ := three_of HZ.out.r
  refine bodyPost_ret (v := twoC 0 0 ⟨#[]⟩ 1) ?_ rfl ?_
  · simp [results, Try.results11, go_sem, d0, d1, d2, twoC, cellC]
  · exact ⟨rfl, HZ.out.below⟩

theorem one_any (g : ByteArray) (k n : Int) (s : ByteArray) (hn : Fits n) (hs : s.size ≤ 300) (w : World) :
    Calls Try.prog 11 #[.string g, .agg (cellC k n s)] w fun e w' => e = .returned (oneF g (truthL k n s) (numL k n s)) ∧ Below w.heap.size w w' := by
  by_cases h0 : g = ⟨#[33]⟩
  · subst h0; exact one_33 k n s w
  by_cases h1 : g = ⟨#[45]⟩
  · subst h1; exact one_45 k n s hn hs w
  by_cases h2 : g = ⟨#[43]⟩
  · subst h2; exact one_43 k n s hn hs w
  exact one_other g h0 h1 h2 k n s w

set_option maxRecDepth 100000 in
set_option maxHeartbeats 1000000 in
theorem count_any (k n : Int) (s : ByteArray) (hn : Fits n) (hs : s.size ≤ 300) (w : World) :
    Calls Try.prog 19 #[.agg (cellC k n s)] w fun e w' => e = .returned (countF (numL k n s)) ∧ Below w.heap.size w w' := by
  have HN := Lib.hid (fun w => num_any k n s (by omega) w)
  obtain ⟨x, p2, hp⟩ : ∃ x p2, numL k n s = (x, p2) := ⟨_, _, rfl⟩
  have hx : Fits x := by have := numL_fits k n s hn; rw [hp] at this; exact this
  rw [hp] at HN ⊢
  clear hp hn hs
  obtain ⟨W, hW, HX, HB, _⟩ := cx_new w (cellC k n s)
  by_cases h1 : p2 = 0
  · subst h1
    have hw : wrap64 (x.tdiv 1000000) = x.tdiv 1000000 := by
      have := tdiv_fits x hx
      exact IntWalk.wrap64_in _ ⟨by omega, by omega⟩
    have HW := Lib.hid hw
    clear hx hw
    go_enter Try.func19, Try.ntmps19
    go_upto_region 1 with (fail)
    change Code.wp _ _ _ _ (w.alloc (.cells (cellC k n s) 23))
    rw [← hW]
    clear hW
    obtain ⟨a0, a1, a2⟩ := three_of HX.out
    go_wp2_with fail
    refine (HN.out _).mono ?_
    rintro e w1 ⟨rfl, bb⟩
    have HB1 := Lib.hid (Below.step HB.out bb)
    unfold two
    clear bb a0 a1 a2
    go_wp2_with fail
    go_ret2
    refine ⟨?_, HB1.out⟩
    show Ending.returned (.tuple #[.int .i64 (wrap64 (x.tdiv 1000000)), .int .i64 0]) = _
    rw [HW.out]
    rfl
  · have hne : (p2 != 0) = true := by simpa using h1
    rw [show countF (x, p2) = .tuple #[.int .i64 0, .int .i64 p2] from if_neg h1]
    clear h1 hx
    go_enter Try.func19, Try.ntmps19
    go_upto_region 1 with (fail)
    change Code.wp _ _ _ _ (w.alloc (.cells (cellC k n s) 23))
    rw [← hW]
    clear hW
    obtain ⟨a0, a1, a2⟩ := three_of HX.out
    go_wp2_with fail
    refine (HN.out _).mono ?_
    rintro e w1 ⟨rfl, bb⟩
    have HB1 := Lib.hid (Below.step HB.out bb)
    unfold two
    clear bb a0 a1 a2
    go_wp2_with fail
    go_ret2
    exact ⟨rfl, HB1.out⟩
end Go.Proofs.Ytbbhcbpfffabpaa

/- The program's Join. -/
namespace Go.Proofs.Ytbbhcbpfffabpaa
open Go.RowKit T3

set_option maxRecDepth 100000 in
set_option maxHeartbeats 1000000 in
theorem join_any (k n : Int) (s : ByteArray) (k2 n2 : Int) (s2 : ByteArray) (hn : Fits n) (hn2 : Fits n2) (hs : s.size ≤ 65536) (hs2 : s2.size ≤ 65536) (w : World) :
    Calls Try.prog 15 #[.agg (cellC k n s), .agg (cellC k2 n2 s2)] w fun e w' => e = .returned (strA (strC k n s ++ strC k2 n2 s2)) ∧ Below w.heap.size w w' := by
  have HI := info_cell
  have HA := Lib.hid (fun w => str_any k n s hn w)
  have HB := Lib.hid (fun w => str_any k2 n2 s2 hn2 w)
  have z1 : (strC k n s).size ≤ 65536 := strC_big k n s hs
  have z2 : (strC k2 n2 s2).size ≤ 65536 := strC_big k2 n2 s2 hs2
  obtain ⟨x, hx⟩ : ∃ x, x = strC k n s := ⟨_, rfl⟩
  obtain ⟨y, hy⟩ : ∃ y, y = strC k2 n2 s2 := ⟨_, rfl⟩
  rw [← hx] at HA z1 ⊢
  rw [← hy] at HB z2 ⊢
  have hsz : ¬ 9223372036854775807 < x.size + y.size := by omega
  have hcat : (x ++ y).size = x.size + y.size := ByteArray.size_append
  have HS := Lib.hid (fun w => ofStr_any (x ++ y) w)
  obtain ⟨V, hV, HR⟩ := tw_new w (cellC k n s) (cellC k2 n2 s2) zeroC
  have main : ∀ (big : Bool) (R : Value), decide ((65536 : Int) < (x.size : Int) + y.size) = big → R = (if big = true then twoC 0 0 ⟨#[]⟩ 2 else twoC 2 0 (x ++ y) 0) →
      Calls Try.prog 15 #[.agg (cellC k n s), .agg (cellC k2 n2 s2)] w fun e w' => e = .returned R ∧ Below w.heap.size w w' := by
    intro big R hbig hR
    have HRR := Lib.hid hR
    clear hx hy hn hn2 hs hs2 hcat hR
    go_enter Try.func15, Try.ntmps15
    go_upto_region 1 with (fail)
    change Code.wp _ _ _ _ (((w.alloc (.cells (cellC k n s) 23)).alloc (.cells (cellC k2 n2 s2) 23)).alloc (.cells zeroC 23))
    rw [← hV]
    clear hV
    obtain ⟨a0, a1, a2⟩ := three_of HR.out.a
    obtain ⟨b0, b1, b2⟩ := three_of HR.out.b
    have H0 : Hid (Hid (∃ es, es.size = 3 ∧ Tw w V (cellC k n s) (cellC k2 n2 s2) es ∧ es = zeroC) ∧ V.cell? ⟨w.heap.size, 0, none⟩ = some (.int .i64 k) ∧ V.cell? ⟨w.heap.size, 1, none⟩ = some (.int .i64 n) ∧ V.cell? ⟨w.heap.size, 2, none⟩ = some (.string s) ∧ V.cell? ⟨w.heap.size + 1, 0, none⟩ = some (.int .i64 k2) ∧ V.cell? ⟨w.heap.size + 1, 1, none⟩ = some (.int .i64 n2) ∧ V.cell? ⟨w.heap.size + 1, 2, none⟩ = some (.string s2)) := Lib.hid ⟨Lib.hid ⟨_, rfl, HR.out, rfl⟩, by simpa using a0, by simpa using a1, by simpa using a2, by simpa using b0, by simpa using b1, by simpa using b2⟩
    clear a0 a1 a2 b0 b1 b2
    have keepJ : ∀ (w1 w2 : World), (Hid (∃ es, es.size = 3 ∧ Tw w w1 (cellC k n s) (cellC k2 n2 s2) es ∧ es = zeroC) ∧ w1.cell? ⟨w.heap.size, 0, none⟩ = some (.int .i64 k) ∧ w1.cell? ⟨w.heap.size, 1, none⟩ = some (.int .i64 n) ∧ w1.cell? ⟨w.heap.size, 2, none⟩ = some (.string s) ∧ w1.cell? ⟨w.heap.size + 1, 0, none⟩ = some (.int .i64 k2) ∧ w1.cell? ⟨w.heap.size + 1, 1, none⟩ = some (.int .i64 n2) ∧ w1.cell? ⟨w.heap.size + 1, 2, none⟩ = some (.string s2)) → Below w1.heap.size w1 w2 →
        (Hid (∃ es, es.size = 3 ∧ Tw w w2 (cellC k n s) (cellC k2 n2 s2) es ∧ es = zeroC) ∧ w2.cell? ⟨w.heap.size, 0, none⟩ = some (.int .i64 k) ∧ w2.cell? ⟨w.heap.size, 1, none⟩ = some (.int .i64 n) ∧ w2.cell? ⟨w.heap.size, 2, none⟩ = some (.string s) ∧ w2.cell? ⟨w.heap.size + 1, 0, none⟩ = some (.int .i64 k2) ∧ w2.cell? ⟨w.heap.size + 1, 1, none⟩ = some (.int .i64 n2) ∧ w2.cell? ⟨w.heap.size + 1, 2, none⟩ = some (.string s2)) := by
      intro w1 w2 h hb
      obtain ⟨h0, e0, e1, e2, e3, e4, e5⟩ := h
      have keep : ∀ {a : Addr} {v : Value}, w1.cell? a = some v → w2.cell? a = some v := fun {a v} e => by rw [hb.cell (p := a) (cell_lt e)]; exact e
      obtain ⟨es, hz, ht, he⟩ := h0.out
      exact ⟨Lib.hid ⟨es, hz, ht.after hb, he⟩, keep e0, keep e1, keep e2, keep e3, keep e4, keep e5⟩
    have HKJ := Lib.hid keepJ
    clear keepJ
    refine wp_region_held_drew (S := fun W' => Hid (∃ es, es.size = 3 ∧ Tw w W' (cellC k n s) (cellC k2 n2 s2) es ∧ es = zeroC) ∧ W'.cell? ⟨w.heap.size, 0, none⟩ = some (.int .i64 k) ∧ W'.cell? ⟨w.heap.size, 1, none⟩ = some (.int .i64 n) ∧ W'.cell? ⟨w.heap.size, 2, none⟩ = some (.string s) ∧ W'.cell? ⟨w.heap.size + 1, 0, none⟩ = some (.int .i64 k2) ∧ W'.cell? ⟨w.heap.size + 1, 1, none⟩ = some (.int .i64 n2) ∧ W'.cell? ⟨w.heap.size + 1, 2, none⟩ = some (.string s2)) (by kernel_rfl) ?_ (fun hS => ?_)
    · exact HKJ.out _ _ H0.out (below_drew _)
    clear H0
    refine takeW (i := 0) (d := 8) (v := .agg #[.int .i64 k, .int .i64 n, .string s]) rfl rfl (by kernel_rfl) (by kernel_rfl) (by kernel_rfl) (fun _ _ _ h => h) (by rfl) (fun w' hSw => by obtain ⟨x_, x0, x1, x2, y0, y1, y2⟩ := hSw; go_simp) hS ?_
    simp only [List.setIfInBounds_toArray, List.set_cons_zero, List.set_cons_succ]
    refine takeW (i := 2) (d := 10) (v := .agg #[.int .i64 k2, .int .i64 n2, .string s2]) rfl rfl (by kernel_rfl) (by kernel_rfl) (by kernel_rfl) (fun _ _ _ h => h) (by rfl) (fun w' hSw => by obtain ⟨x_, x0, x1, x2, y0, y1, y2⟩ := hSw; go_simp) hS ?_
    simp only [List.setIfInBounds_toArray, List.set_cons_zero, List.set_cons_succ]
    refine wpAnyH_ready (rs := [1]) (by kernel_rfl) (by simp) ?_
    refine AllReadyH.cons rfl (fun X hX => ?_) (AllReadyH.nil)
    rw [if_pos (by rfl)]
    go_simp
    refine (HA.out _).mono ?_; rintro e w1 ⟨rfl, b1⟩
    go_wp2_with fail
    refine hX.out _ _ (HKJ.out _ _ hS b1) (fun hS2_1 => ?_)
    clear hX X hS b1
    refine wpAnyH_ready (rs := [3]) (by kernel_rfl) (by simp) ?_
    refine AllReadyH.cons rfl (fun X hX => ?_) (AllReadyH.nil)
    rw [if_pos (by rfl)]
    go_simp
    refine (HB.out _).mono ?_; rintro e w1 ⟨rfl, b1⟩
    go_wp2_with fail
    refine hX.out _ _ (HKJ.out _ _ hS2_1 b1) (fun hS3_3 => ?_)
    clear hX X hS2_1 b1
    refine takeW (i := 4) (d := 6) (v := .string x) rfl rfl (by kernel_rfl) (by kernel_rfl) (by kernel_rfl) (fun _ _ _ h => h) (by rfl) (fun w' hSw => by obtain ⟨x_, x0, x1, x2, y0, y1, y2⟩ := hSw; go_simp) hS3_3 ?_
    simp only [List.setIfInBounds_toArray, List.set_cons_zero, List.set_cons_succ]
    refine takeW (i := 5) (d := 7) (v := .string y) rfl rfl (by kernel_rfl) (by kernel_rfl) (by kernel_rfl) (fun _ _ _ h => h) (by rfl) (fun w' hSw => by obtain ⟨x_, x0, x1, x2, y0, y1, y2⟩ := hSw; go_simp) hS3_3 ?_
    simp only [List.setIfInBounds_toArray, List.set_cons_zero, List.set_cons_succ]
    obtain ⟨es, hes, HT, rfl⟩ := hS3_3.1.out
    have HT1 := Lib.hid HT
    refine wpAnyH_done (by kernel_rfl) ?_ _
    clear hS3_3 HT hes
    cases big with
    | true =>
      go_wp2_with (refine wpList_store_row rfl 23 (.tmp 4) (.tmp 18) rfl (w.heap.size + 1 + 1) (cellC 0 0 ⟨#[]⟩) rfl rfl 23 zeroC HT1.out.r.row HI rfl (cell_one3 _ _ _) ?_)
      obtain ⟨Z, hZ, HZ⟩ : ∃ Z, Z = w1.setRow (w.heap.size + 1 + 1) (cellC 0 0 ⟨#[]⟩) ∧ Hid (Tw w Z (cellC k n s) (cellC k2 n2 s2) (cellC 0 0 ⟨#[]⟩)) := ⟨_, rfl, Lib.hid (HT1.out.put _)⟩
      rw [← hZ]
      clear hZ
      obtain ⟨d0, d1, d2⟩ := three_of HZ.out.r
      refine bodyPost_ret (v := twoC 0 0 ⟨#[]⟩ 2) ?_ rfl ?_
      · simp [results, Try.results15, go_sem, d0, d1, d2, twoC, cellC]
      · exact ⟨by rw [HRR.out]; rfl, HZ.out.below⟩
    | false =>
      go_wp2_with fail
      refine (HS.out _).mono ?_
      rintro e w2 ⟨rfl, bb⟩
      have HT2 := Lib.hid (HT1.out.after bb)
      clear bb HT1
      go_wp2_with (refine wpList_store_row rfl 23 (.tmp 4) (.tmp 22) rfl (w.heap.size + 1 + 1) (cellC 2 0 (x ++ y)) rfl rfl 23 zeroC HT2.out.r.row HI rfl (cell_one3 _ _ _) ?_)
      obtain ⟨Z, hZ, HZ⟩ : ∃ Z, Z = w2.setRow (w.heap.size + 1 + 1) (cellC 2 0 (x ++ y)) ∧ Hid (Tw w Z (cellC k n s) (cellC k2 n2 s2) (cellC 2 0 (x ++ y))) := ⟨_, rfl, Lib.hid (HT2.out.put _)⟩
      rw [← hZ]
      clear hZ
      obtain ⟨d0, d1, d2⟩ := three_of HZ.out.r
      refine bodyPost_ret (v := twoC 2 0 (x ++ y) 0) ?_ rfl ?_
      · simp [results, Try.results15, go_sem, d0, d1, d2, twoC, cellC]
      · exact ⟨by rw [HRR.out]; rfl, HZ.out.below⟩
  by_cases hg : x.size + y.size ≤ 65536
  · exact main false _ (decide_eq_false (by omega)) (by unfold strA; rw [if_pos (by omega)]; rfl)
  · exact main true _ (decide_eq_true (by omega)) (by unfold strA; rw [if_neg (by omega)]; rfl)
end Go.Proofs.Ytbbhcbpfffabpaa
