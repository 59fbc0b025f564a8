/- Merged by program: K15Z, C15V, C15W. -/
import Derived.Shelf.Abstract
import Derived.Test.YtbbhcbpfffabpaaGreatDoorGbk
import Derived.Test.YtbbhcbpfffabpaaGreatDoorGbg
import Derived.Test.YtbbhcbpfffabpaaGreatDoorGbl
import Derived.Test.YtbbhcbpfffabpaaGreatDoorGaz
/- The program's number, Bool, reckon (gen_k15a.py). -/
namespace Go.Proofs.YtbbhcbpfffabpaaGreatDoor
open Go.RowKit T3 Go.Shelf

/-- Two cells and a result in blocks. -/
structure Kw (w V : World) (cs ds es : Array Value) : Prop where
  a : Cx V w.heap.size cs
  b : Cx V (w.heap.size + 1) ds
  r : Cx V (w.heap.size + 1 + 1) es
  below : Below w.heap.size w V
theorem Kw.after {w V W : World} {cs ds es : Array Value} (h : Kw w V cs ds es) (hb : Below V.heap.size V W) : Kw w W cs ds es := ⟨h.a.after hb, h.b.after hb, h.r.after hb, Below.step h.below hb⟩
theorem kw_new (w : World) (cs ds es : Array Value) : ∃ W, W = ((w.alloc (.cells cs 25)).alloc (.cells ds 25)).alloc (.cells es 25) ∧ Hid (Kw w W cs ds es) := by
  have s1 : (w.alloc (.cells cs 25)).heap.size = w.heap.size + 1 := World.size_alloc _ _
  have s2 : ((w.alloc (.cells cs 25)).alloc (.cells ds 25)).heap.size = w.heap.size + 1 + 1 := by rw [World.size_alloc, s1]
  have b1 := below_new w (.cells cs 25)
  have b2 := below_new (w.alloc (.cells cs 25)) (.cells ds 25)
  have b3 := below_new ((w.alloc (.cells cs 25)).alloc (.cells ds 25)) (.cells es 25)
  have h1 := heap_alloc_last w (.cells cs 25)
  have h2 := heap_alloc_last (w.alloc (.cells cs 25)) (.cells ds 25)
  have h3 := heap_alloc_last ((w.alloc (.cells cs 25)).alloc (.cells ds 25)) (.cells es 25)
  rw [s1] at h2
  rw [s2] at h3
  exact ⟨_, rfl, Lib.hid ⟨⟨(b3.block w.heap.size (by omega)).trans ((b2.block w.heap.size (by omega)).trans h1)⟩, ⟨(b3.block (w.heap.size + 1) (by omega)).trans h2⟩, ⟨h3⟩, Below.step (Below.step b1 b2) b3⟩⟩
theorem Kw.put {w V : World} {cs ds es : Array Value} (h : Kw w V cs ds es) (fs : Array Value) : Kw w (V.setRow (w.heap.size + 1 + 1) fs) cs ds fs := by
  have other : ∀ k, k ≠ w.heap.size + 1 + 1 → (V.setRow (w.heap.size + 1 + 1) fs).heap[k]? = V.heap[k]? := fun k hk => Go.setRow_other _ _ _ _ hk
  exact ⟨⟨by rw [other _ (by omega)]; exact h.a.row⟩, ⟨by rw [other _ (by omega)]; exact h.b.row⟩, h.r.setRow fs, below_row h.below (by omega) fs⟩

set_option maxRecDepth 100000 in
theorem kofNum (n : Int) (w : World) :
    Calls Tryz.prog 43 #[.int .i64 n] w fun e w' => e = .returned (.agg (cellC 1 n ⟨#[]⟩)) ∧ Below w.heap.size w w' := by
  go_enter Tryz.func43, Tryz.ntmps43
  go_wp2
  refine bodyPost_ret (v := .agg (cellC 1 n ⟨#[]⟩)) (by simp [results, Tryz.results43, go_sem, cellC]) rfl ⟨rfl, (Below.refl _ _).alloc (Nat.le_refl _) _⟩
theorem knumA_form (p : Int × Int) : ∃ k n s e, numA p = twoC k n s e := by
  unfold numA
  split
  · exact ⟨_, _, _, _, rfl⟩
  · exact ⟨_, _, _, _, rfl⟩

set_option maxRecDepth 100000 in
set_option maxHeartbeats 1000000 in
theorem knumber (n e : Int) (w : World) : Calls Tryz.prog 37 #[.int .i64 n, .int .i64 e] w fun r w' => r = .returned (numA (n, e)) ∧ Below w.heap.size w w' := by
  have HI := info_cell
  obtain ⟨W, hW, hX, hB, _⟩ := cx_new w zeroC
  by_cases h0 : e = 0
  · subst h0
    go_enter Tryz.func37, Tryz.ntmps37
    go_upto_region 1 with (fail)
    change Code.wp _ _ _ _ (w.alloc (Obj.cells zeroC 25))
    rw [← hW]
    clear hW
    go_wp2_with fail
    refine (kofNum _ _).mono ?_
    rintro e w1 ⟨rfl, bb⟩
    have hX1 := Lib.hid (hX.out.after bb)
    have hB1 := Lib.hid (Below.step hB.out bb)
    clear bb hX hB
    go_wp2_with (refine wpList_store_row rfl 25 (.tmp 4) (.tmp 11) rfl w.heap.size (cellC 1 n ⟨#[]⟩) rfl rfl 25 zeroC hX1.out.row HI rfl (cell_one3 _ _ _) ?_)
    obtain ⟨Z, hZ, HZ, BZ⟩ : ∃ Z, Z = w1.setRow w.heap.size (cellC 1 n ⟨#[]⟩) ∧ Hid (Cx Z w.heap.size (cellC 1 n ⟨#[]⟩)) ∧ Hid (Below w.heap.size w Z) := ⟨_, rfl, Lib.hid (hX1.out.setRow _), Lib.hid (below_row hB1.out (Nat.le_refl _) _)⟩
    rw [← hZ]
    clear hZ
    obtain ⟨d0, d1, d2⟩ := three_of HZ.out
    refine bodyPost_ret (v := twoC 1 n ⟨#[]⟩ 0) ?_ rfl ?_
    · simp [results, Tryz.results37, go_sem, d0, d1, d2, twoC, cellC]
    · exact ⟨rfl, BZ.out⟩
  · have hne : (e != 0) = true := by simpa using h0
    have HA : Hid (numA (n, e) = twoC 0 0 ⟨#[]⟩ e) := Lib.hid (by unfold numA; rw [if_neg h0])
    clear h0
    go_enter Tryz.func37, Tryz.ntmps37
    go_upto_region 1 with (fail)
    change Code.wp _ _ _ _ (w.alloc (Obj.cells zeroC 25))
    rw [← hW]
    clear hW
    go_wp2_with (refine wpList_store_row rfl 25 (.tmp 4) (.tmp 8) rfl w.heap.size (cellC 0 0 ⟨#[]⟩) rfl rfl 25 zeroC hX.out.row HI rfl (cell_one3 _ _ _) ?_)
    obtain ⟨Z, hZ, HZ, BZ⟩ : ∃ Z, Z = W.setRow w.heap.size (cellC 0 0 ⟨#[]⟩) ∧ Hid (Cx Z w.heap.size (cellC 0 0 ⟨#[]⟩)) ∧ Hid (Below w.heap.size w Z) := ⟨_, rfl, Lib.hid (hX.out.setRow _), Lib.hid (below_row hB.out (Nat.le_refl _) _)⟩
    rw [← hZ]
    clear hZ
    obtain ⟨d0, d1, d2⟩ := three_of HZ.out
    refine bodyPost_ret (v := twoC 0 0 ⟨#[]⟩ e) ?_ rfl ?_
    · simp [results, Tryz.results37, go_sem, d0, d1, d2, twoC, cellC]
    · exact ⟨by rw [HA.out], BZ.out⟩

set_option maxRecDepth 100000 in
set_option maxHeartbeats 1000000 in
theorem kbool (b : Bool) (w : World) : Calls Tryz.prog 35 #[.bool b] w fun e w' => e = .returned (.agg (cellC 1 (boolN b) ⟨#[]⟩)) ∧ Below w.heap.size w w' := by
  have HI := info_cell
  obtain ⟨W, hW, hX, hB, _⟩ := cx_new w zeroC
  cases b with
  | true =>
    go_enter Tryz.func35, Tryz.ntmps35
    go_upto_region 1 with (fail)
    change Code.wp _ _ _ _ (w.alloc (Obj.cells zeroC 25))
    rw [← hW]
    clear hW
    go_wp2_with fail
    refine (kofNum _ _).mono ?_
    rintro e w1 ⟨rfl, bb⟩
    have hX1 := Lib.hid (hX.out.after bb)
    have hB1 := Lib.hid (Below.step hB.out bb)
    clear bb hX hB
    go_wp2_with (refine wpList_store_row rfl 25 (.tmp 2) (.tmp 4) rfl w.heap.size (cellC 1 1000000 ⟨#[]⟩) rfl rfl 25 zeroC hX1.out.row HI rfl (cell_one3 _ _ _) ?_)
    refine bodyPost_ret (v := .agg (cellC 1 1000000 ⟨#[]⟩)) (results_cell_row (by rfl) _ _ w.heap.size 25 _ (0, 0) _ (by rfl) (hX1.out.setRow _).row Tryz.underlying25 (by rfl) HI) rfl ?_
    exact ⟨rfl, below_row hB1.out (Nat.le_refl _) _⟩
  | false =>
    go_enter Tryz.func35, Tryz.ntmps35
    go_upto_region 1 with (fail)
    change Code.wp _ _ _ _ (w.alloc (Obj.cells zeroC 25))
    rw [← hW]
    clear hW
    go_wp2_with fail
    refine (kofNum _ _).mono ?_
    rintro e w1 ⟨rfl, bb⟩
    have hX1 := Lib.hid (hX.out.after bb)
    have hB1 := Lib.hid (Below.step hB.out bb)
    clear bb hX hB
    go_wp2_with (refine wpList_store_row rfl 25 (.tmp 2) (.tmp 5) rfl w.heap.size (cellC 1 0 ⟨#[]⟩) rfl rfl 25 zeroC hX1.out.row HI rfl (cell_one3 _ _ _) ?_)
    refine bodyPost_ret (v := .agg (cellC 1 0 ⟨#[]⟩)) (results_cell_row (by rfl) _ _ w.heap.size 25 _ (0, 0) _ (by rfl) (hX1.out.setRow _).row Tryz.underlying25 (by rfl) HI) rfl ?_
    exact ⟨rfl, below_row hB1.out (Nat.le_refl _) _⟩

/-- What is reckoned of two numbers, or why there are none. -/
def recF (p2 q2 : Int) (P : Int × Int) : Value := if p2 ≠ 0 then twoC 0 0 ⟨#[]⟩ p2 else if q2 ≠ 0 then twoC 0 0 ⟨#[]⟩ q2 else numA P
theorem recF_form (p2 q2 : Int) (P : Int × Int) : ∃ k n s e, recF p2 q2 P = twoC k n s e := by
  unfold recF
  split
  · exact ⟨_, _, _, _, rfl⟩
  · split
    · exact ⟨_, _, _, _, rfl⟩
    · exact knumA_form P
set_option maxRecDepth 100000 in
set_option maxHeartbeats 1000000 in
theorem kreckon (f : FuncId) (hE : Enters Tryz.prog f) (k n : Int) (s : ByteArray) (k2 n2 : Int) (s2 : ByteArray) (x p2 y q2 : Int) (P : Int × Int)
    (h1 : ∀ w, Calls Tryz.prog 42 #[.agg (cellC k n s)] w fun e w' => e = .returned (.tuple #[.int .i64 x, .int .i64 p2]) ∧ Below w.heap.size w w')
    (h2 : ∀ w, Calls Tryz.prog 42 #[.agg (cellC k2 n2 s2)] w fun e w' => e = .returned (.tuple #[.int .i64 y, .int .i64 q2]) ∧ Below w.heap.size w w')
    (h3 : ∀ w, Calls Tryz.prog f #[.int .i64 x, .int .i64 y] w fun e w' => e = .returned (.tuple #[.int .i64 P.1, .int .i64 P.2]) ∧ Below w.heap.size w w') (w : World) :
    Calls Tryz.prog 61 #[.func (.func f) #[] #[], .agg (cellC k n s), .agg (cellC k2 n2 s2)] w fun e w' => e = .returned (recF p2 q2 P) ∧ Below w.heap.size w w' := by
  have HI := info_cell
  have HN1 := Lib.hid h1
  have HN2 := Lib.hid h2
  have HP := Lib.hid h3
  clear h1 h2 h3
  obtain ⟨W, hW, HR⟩ := kw_new w (cellC k n s) (cellC k2 n2 s2) zeroC
  by_cases e1 : p2 = 0
  · subst e1
    by_cases e2 : q2 = 0
    · subst e2
      rw [show recF 0 0 P = numA P from rfl]
      obtain ⟨k3, n3, s3, e3, hA⟩ := knumA_form P
      have HNM := Lib.hid (fun w => knumber P.1 P.2 w)
      rw [show (P.1, P.2) = P from rfl, hA] at HNM
      rw [hA]
      clear hA
      go_enter Tryz.func61, Tryz.ntmps61
      go_upto_region 1 with (fail)
      change Code.wp _ _ _ _ (((w.alloc (.cells (cellC k n s) 25)).alloc (.cells (cellC k2 n2 s2) 25)).alloc (.cells zeroC 25))
      rw [← hW]
      clear hW
      obtain ⟨a0, a1, a2⟩ := three_of HR.out.a
      obtain ⟨b0, b1, b2⟩ := three_of HR.out.b
      go_wp2_with fail
      refine (HN1.out _).mono ?_
      rintro e w1 ⟨rfl, bb⟩
      have HR1 := Lib.hid (HR.out.after bb)
      clear bb a0 a1 a2 b0 b1 b2 HR
      obtain ⟨b0, b1, b2⟩ := three_of HR1.out.b
      go_wp2_with fail
      refine (HN2.out _).mono ?_
      rintro e w2 ⟨rfl, bb⟩
      have HR2 := Lib.hid (HR1.out.after bb)
      clear bb b0 b1 b2 HR1
      go_wp2_with fail
      rw [hE]
      simp only [Oper.upon]
      refine (HP.out _).mono ?_
      rintro e w3 ⟨rfl, bb⟩
      have HR3 := Lib.hid (HR2.out.after bb)
      clear bb HR2
      go_wp2_with fail
      refine (HNM.out _).mono ?_
      rintro e w4 ⟨rfl, bb⟩
      have HR4 := Lib.hid (HR3.out.after bb)
      clear bb HR3
      unfold twoC
      go_wp2_with (refine wpList_store_row rfl 25 (.tmp 6) (.tmp 36) rfl (w.heap.size + 1 + 1) (cellC k3 n3 s3) rfl rfl 25 zeroC HR4.out.r.row HI rfl (cell_one3 _ _ _) ?_)
      obtain ⟨Z, hZ, HZ⟩ : ∃ Z, Z = w4.setRow (w.heap.size + 1 + 1) (cellC k3 n3 s3) ∧ Hid (Kw w Z (cellC k n s) (cellC k2 n2 s2) (cellC k3 n3 s3)) := ⟨_, rfl, Lib.hid (HR4.out.put _)⟩
      rw [← hZ]
      clear hZ
      obtain ⟨d0, d1, d2⟩ := three_of HZ.out.r
      refine bodyPost_ret (v := twoC k3 n3 s3 e3) ?_ rfl ?_
      · simp [results, Tryz.results61, go_sem, d0, d1, d2, twoC, cellC]
      · exact ⟨rfl, HZ.out.below⟩
    · have hne : (q2 != 0) = true := by simpa using e2
      have HA : Hid (recF 0 q2 P = twoC 0 0 ⟨#[]⟩ q2) := Lib.hid (by unfold recF; rw [if_neg (by simp), if_pos e2])
      clear e2
      go_enter Tryz.func61, Tryz.ntmps61
      go_upto_region 1 with (fail)
      change Code.wp _ _ _ _ (((w.alloc (.cells (cellC k n s) 25)).alloc (.cells (cellC k2 n2 s2) 25)).alloc (.cells zeroC 25))
      rw [← hW]
      clear hW
      obtain ⟨a0, a1, a2⟩ := three_of HR.out.a
      obtain ⟨b0, b1, b2⟩ := three_of HR.out.b
      go_wp2_with fail
      refine (HN1.out _).mono ?_
      rintro e w1 ⟨rfl, bb⟩
      have HR1 := Lib.hid (HR.out.after bb)
      clear bb a0 a1 a2 b0 b1 b2 HR
      obtain ⟨b0, b1, b2⟩ := three_of HR1.out.b
      go_wp2_with fail
      refine (HN2.out _).mono ?_
      rintro e w2 ⟨rfl, bb⟩
      have HR2 := Lib.hid (HR1.out.after bb)
      clear bb b0 b1 b2 HR1
      go_wp2_with (refine wpList_store_row rfl 25 (.tmp 6) (.tmp 27) rfl (w.heap.size + 1 + 1) (cellC 0 0 ⟨#[]⟩) rfl rfl 25 zeroC HR2.out.r.row HI rfl (cell_one3 _ _ _) ?_)
      obtain ⟨Z, hZ, HZ⟩ : ∃ Z, Z = w2.setRow (w.heap.size + 1 + 1) (cellC 0 0 ⟨#[]⟩) ∧ Hid (Kw w Z (cellC k n s) (cellC k2 n2 s2) (cellC 0 0 ⟨#[]⟩)) := ⟨_, rfl, Lib.hid (HR2.out.put _)⟩
      rw [← hZ]
      clear hZ
      obtain ⟨d0, d1, d2⟩ := three_of HZ.out.r
      refine bodyPost_ret (v := twoC 0 0 ⟨#[]⟩ q2) ?_ rfl ?_
      · simp [results, Tryz.results61, go_sem, d0, d1, d2, twoC, cellC]
      · exact ⟨by rw [HA.out], HZ.out.below⟩
  · have hne : (p2 != 0) = true := by simpa using e1
    have HA : Hid (recF p2 q2 P = twoC 0 0 ⟨#[]⟩ p2) := Lib.hid (by unfold recF; rw [if_pos e1])
    clear e1
    go_enter Tryz.func61, Tryz.ntmps61
    go_upto_region 1 with (fail)
    change Code.wp _ _ _ _ (((w.alloc (.cells (cellC k n s) 25)).alloc (.cells (cellC k2 n2 s2) 25)).alloc (.cells zeroC 25))
    rw [← hW]
    clear hW
    obtain ⟨a0, a1, a2⟩ := three_of HR.out.a
    obtain ⟨b0, b1, b2⟩ := three_of HR.out.b
    go_wp2_with fail
    refine (HN1.out _).mono ?_
    rintro e w1 ⟨rfl, bb⟩
    have HR1 := Lib.hid (HR.out.after bb)
    clear bb a0 a1 a2 b0 b1 b2 HR
    go_wp2_with (refine wpList_store_row rfl 25 (.tmp 6) (.tmp 18) rfl (w.heap.size + 1 + 1) (cellC 0 0 ⟨#[]⟩) rfl rfl 25 zeroC HR1.out.r.row HI rfl (cell_one3 _ _ _) ?_)
    obtain ⟨Z, hZ, HZ⟩ : ∃ Z, Z = w1.setRow (w.heap.size + 1 + 1) (cellC 0 0 ⟨#[]⟩) ∧ Hid (Kw w Z (cellC k n s) (cellC k2 n2 s2) (cellC 0 0 ⟨#[]⟩)) := ⟨_, rfl, Lib.hid (HR1.out.put _)⟩
    rw [← hZ]
    clear hZ
    obtain ⟨d0, d1, d2⟩ := three_of HZ.out.r
    refine bodyPost_ret (v := twoC 0 0 ⟨#[]⟩ p2) ?_ rfl ?_
    · simp [results, Tryz.results61, go_sem, d0, d1, d2, twoC, cellC]
    · exact ⟨by rw [HA.out], HZ.out.below⟩
end Go.Proofs.YtbbhcbpfffabpaaGreatDoor

/- What the functions below the program's Own answer, in the terms of ownRef: texts, numbers, cells, formats. -/
namespace Go.Proofs.YtbbhcbpfffabpaaGreatDoor
open Go.RowKit T3

theorem below_of {w w' : World} (h : w = w') : Below w.heap.size w w' := by rw [← h]; exact Below.refl _ _
theorem len_p (s : ByteArray) (hs : s.size ≤ 300) (w : World) : Calls Tryz.prog 13 #[.string s] w fun e w' => e = .returned (.int .i64 (ownRef.chars s : Nat)) ∧ Below w.heap.size w w' := T2.len_any s (by simp only [maxLen]; omega) w
theorem index_p (s t : ByteArray) (hs : s.size ≤ 300) (ht : t.size ≤ 300) (w : World) (hE : Env w) : Calls Tryz.prog 14 #[.string s, .string t] w fun e w' => e = .returned (.int .i64 (ownRef.index s t)) ∧ Below w.heap.size w w' := by
  obtain ⟨m, hm⟩ := hE.ml
  refine (T2.index_any s t m (by omega) (by omega) w hm).mono fun e w' h => ?_
  obtain ⟨n, hn, rfl, hb⟩ := h
  refine ⟨?_, hb⟩
  show _ = Ending.returned (.int .i64 (idxN s t : Int))
  rw [idxN_of hn]
theorem low_p (s : ByteArray) (hs : s.size ≤ 300) (w : World) : Calls Tryz.prog 16 #[.string s] w fun e w' => e = .returned (.string (ownRef.low s)) ∧ Below w.heap.size w w' := T2.lower_any s (by simp only [maxLen]; omega) w
theorem up_p (s : ByteArray) (hs : s.size ≤ 300) (w : World) : Calls Tryz.prog 17 #[.string s] w fun e w' => e = .returned (.string (ownRef.up s)) ∧ Below w.heap.size w w' := T2.upper_any s (by simp only [maxLen]; omega) w
theorem sub_p (s : ByteArray) (f m : Int) (hs : s.size ≤ 300) (hf : Fits f) (hm : Fits m) (w : World) : Calls Tryz.prog 46 #[.string s, .int .i64 f, .int .i64 m] w fun e w' => e = .returned (.string (ownRef.sub s f m)) ∧ Below w.heap.size w w' := T2.sub_any s f m (by simp only [maxLen]; omega) (by unfold Fits at hf; omega) (by unfold Fits at hm; omega) w
theorem whole_p (n : Int) (hn : Fits n) (w : World) : Calls Tryz.prog 38 #[.int .i64 n] w fun e w' => e = .returned (two (ownRef.whole n)) ∧ Below w.heap.size w w' :=
  (T1.whole_any n w hn).mono fun _ _ h => ⟨h.1, below_of h.2⟩
theorem int_p (n : Int) (hn : Fits n) (w : World) : Calls Tryz.prog 44 #[.int .i64 n] w fun e w' => e = .returned (.int .i64 (ownRef.int n)) ∧ Below w.heap.size w w' :=
  (T1.int_any n w hn).mono fun _ _ h => ⟨h.1, below_of h.2⟩
theorem num_p (c : Cel) (hs : c.s.size ≤ 300) (w : World) : Calls Tryz.prog 42 #[.agg (cellC c.k c.n c.s)] w fun e w' => e = .returned (two (ownRef.num c)) ∧ Below w.heap.size w w' := num_any c.k c.n c.s (by omega) w
theorem str_p (c : Cel) (hn : Fits c.n) (w : World) : Calls Tryz.prog 11 #[.agg (cellC c.k c.n c.s)] w fun e w' => e = .returned (.string (strK c)) ∧ Below w.heap.size w w' := str_any c.k c.n c.s hn w
theorem strK_size (c : Cel) (hs : c.s.size ≤ 300) : (strK c).size ≤ 300 := strC_size c.k c.n c.s hs
theorem form_p (f : ByteArray) (hf : f.size ≤ 300) (l : List Cel) (p : Option Addr) (n cap : Nat) (w : World) (hl : ∀ c ∈ l, Fits c.n ∧ c.s.size ≤ 300) (hC : CellsAt w p n cap l) (hlow : ∀ a, p = some a → a.block < w.heap.size) (hE : Env w) :
    Calls Tryz.prog 47 #[.string f, .slice p n cap] w fun e w' => e = .returned (.tuple #[.string (ownRef.form f l).1, .int .i64 (ownRef.form f l).2]) ∧ Below w.heap.size w w' :=
  doP_text f (by omega) l p n cap w hE hC hlow (Fed.all (fun c hc => ⟨(hl c hc).1, (hl c hc).2⟩) _)
theorem add_p (a b : Int) (ha : Fits a) (hb : Fits b) (w : World) : Calls Tryz.prog 62 #[.int .i64 a, .int .i64 b] w fun e w' => e = .returned (two (T1.back (a + b))) ∧ Below w.heap.size w w' :=
  (T1.add_any a b w ha hb).mono fun _ _ h => ⟨h.1, below_of h.2⟩
end Go.Proofs.YtbbhcbpfffabpaaGreatDoor

/- OfStr, OfNum of the program. -/
namespace Go.Proofs.YtbbhcbpfffabpaaGreatDoor
open Go.RowKit T3

set_option maxRecDepth 100000 in
theorem ofStr_any (s : ByteArray) (w : World) :
    Calls Tryz.prog 15 #[.string s] w fun e w' => e = .returned (.agg #[.int .i64 2, .int .i64 0, .string s]) ∧ Below w.heap.size w w' := by
  go_enter Tryz.func15, Tryz.ntmps15
  go_wp2
  refine bodyPost_ret (v := .agg #[.int .i64 2, .int .i64 0, .string s]) (by simp [results, Tryz.results15, go_sem]) rfl ⟨rfl, (Below.refl _ _).alloc (Nat.le_refl _) _⟩

set_option maxRecDepth 100000 in
theorem ofNum_any (n : Int) (w : World) :
    Calls Tryz.prog 43 #[.int .i64 n] w fun e w' => e = .returned (.agg #[.int .i64 1, .int .i64 n, .string ⟨#[]⟩]) ∧ Below w.heap.size w w' := by
  go_enter Tryz.func43, Tryz.ntmps43
  go_wp2
  refine bodyPost_ret (v := .agg #[.int .i64 1, .int .i64 n, .string ⟨#[]⟩]) (by simp [results, Tryz.results43, go_sem]) rfl ⟨rfl, (Below.refl _ _).alloc (Nat.le_refl _) _⟩
end Go.Proofs.YtbbhcbpfffabpaaGreatDoor
