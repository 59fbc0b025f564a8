/- Merged by program: K15A, T3CellM. -/
import Derived.Shelf.Abstract
import Derived.Test.YtbbhcbpfffabpaaGam
import Derived.Test.YtbbhcbpfffabpaaGak
/- The program's number, Bool, reckon (gen_k15a.py). -/
namespace Go.Proofs.Ytbbhcbpfffabpaa
open Go.RowKit T3 Go.Shelf

/-- Two cells and a result in blocks. -/
structure Kw (w V : World) (cs ds es : Array Value) : Prop where
  a : Cx V w.heap.size cs
  b : Cx V (w.heap.size + 1) ds
  r : Cx V (w.heap.size + 1 + 1) es
  below : Below w.heap.size w V
theorem Kw.after {w V W : World} {cs ds es : Array Value} (h : Kw w V cs ds es) (hb : Below V.heap.size V W) : Kw w W cs ds es := ⟨h.a.after hb, h.b.after hb, h.r.after hb, Below.step h.below hb⟩
theorem kw_new (w : World) (cs ds es : Array Value) : ∃ W, W = ((w.alloc (.cells cs 23)).alloc (.cells ds 23)).alloc (.cells es 23) ∧ Hid (Kw w W cs ds es) := by
  have s1 : (w.alloc (.cells cs 23)).heap.size = w.heap.size + 1 := World.size_alloc _ _
  have s2 : ((w.alloc (.cells cs 23)).alloc (.cells ds 23)).heap.size = w.heap.size + 1 + 1 := by rw [World.size_alloc, s1]
  have b1 := below_new w (.cells cs 23)
  have b2 := below_new (w.alloc (.cells cs 23)) (.cells ds 23)
  have b3 := below_new ((w.alloc (.cells cs 23)).alloc (.cells ds 23)) (.cells es 23)
  have h1 := heap_alloc_last w (.cells cs 23)
  have h2 := heap_alloc_last (w.alloc (.cells cs 23)) (.cells ds 23)
  have h3 := heap_alloc_last ((w.alloc (.cells cs 23)).alloc (.cells ds 23)) (.cells es 23)
  rw [s1] at h2
  rw [s2] at h3
  exact ⟨_, rfl, Lib.hid ⟨⟨(b3.block w.heap.size (by omega)).trans ((b2.block w.heap.size (by omega)).trans h1)⟩, ⟨(b3.block (w.heap.size + 1) (by omega)).trans h2⟩, ⟨h3⟩, Below.step (Below.step b1 b2) b3⟩⟩
theorem Kw.put {w V : World} {cs ds es : Array Value} (h : Kw w V cs ds es) (fs : Array Value) : Kw w (V.setRow (w.heap.size + 1 + 1) fs) cs ds fs := by
  have other : ∀ k, k ≠ w.heap.size + 1 + 1 → (V.setRow (w.heap.size + 1 + 1) fs).heap[k]? = V.heap[k]? := fun k hk => Go.setRow_other _ _ _ _ hk
  exact ⟨⟨by rw [other _ (by omega)]; exact h.a.row⟩, ⟨by rw [other _ (by omega)]; exact h.b.row⟩, h.r.setRow fs, below_row h.below (by omega) fs⟩

set_option maxRecDepth 100000 in
theorem kofNum (n : Int) (w : World) :
    Calls Try.prog 53 #[.int .i64 n] w fun e w' => e = .returned (.agg (cellC 1 n ⟨#[]⟩)) ∧ Below w.heap.size w w' := by
  go_enter Try.func53, Try.ntmps53
  go_wp2
  refine bodyPost_ret (v := .agg (cellC 1 n ⟨#[]⟩)) (by simp [results, Try.results53, go_sem, cellC]) rfl ⟨rfl, (Below.refl _ _).alloc (Nat.le_refl _) _⟩
theorem knumA_form (p : Int × Int) : ∃ k n s e, numA p = twoC k n s e := by
  unfold numA
  split
  · exact ⟨_, _, _, _, rfl⟩
  · exact ⟨_, _, _, _, rfl⟩

set_option maxRecDepth 100000 in
set_option maxHeartbeats 1000000 in
theorem number_any (n e : Int) (w : World) : Calls Try.prog 41 #[.int .i64 n, .int .i64 e] w fun r w' => r = .returned (numA (n, e)) ∧ Below w.heap.size w w' := by
  have HI := info_cell
  obtain ⟨W, hW, hX, hB, _⟩ := cx_new w zeroC
  by_cases h0 : e = 0
  · subst h0
    go_enter Try.func41, Try.ntmps41
    go_upto_region 1 with (fail)
    change Code.wp _ _ _ _ (w.alloc (Obj.cells zeroC 23))
    rw [← hW]
    clear hW
    go_wp2_with fail
    refine (kofNum _ _).mono ?_
    rintro e w1 ⟨rfl, bb⟩
    have hX1 := Lib.hid (hX.out.after bb)
    have hB1 := Lib.hid (Below.step hB.out bb)
    clear bb hX hB
    go_wp2_with (refine wpList_store_row rfl 23 (.tmp 4) (.tmp 11) rfl w.heap.size (cellC 1 n ⟨#[]⟩) rfl rfl 23 zeroC hX1.out.row HI rfl (cell_one3 _ _ _) ?_)
    obtain ⟨Z, hZ, HZ, BZ⟩ : ∃ Z, Z = w1.setRow w.heap.size (cellC 1 n ⟨#[]⟩) ∧ Hid (Cx Z w.heap.size (cellC 1 n ⟨#[]⟩)) ∧ Hid (Below w.heap.size w Z) := ⟨_, rfl, Lib.hid (hX1.out.setRow _), Lib.hid (below_row hB1.out (Nat.le_refl _) _)⟩
    rw [← hZ]
    clear hZ
    obtain ⟨d0, d1, d2⟩ := three_of HZ.out
    refine bodyPost_ret (v := twoC 1 n ⟨#[]⟩ 0) ?_ rfl ?_
    · simp [results, Try.results41, go_sem, d0, d1, d2, twoC, cellC]
    · exact ⟨rfl, BZ.out⟩
  · have hne : (e != 0) = true := by simpa using h0
    have HA : Hid (numA (n, e) = twoC 0 0 ⟨#[]⟩ e) := Lib.hid (by unfold numA; rw [if_neg h0])
    clear h0
    go_enter Try.func41, Try.ntmps41
    go_upto_region 1 with (fail)
    change Code.wp _ _ _ _ (w.alloc (Obj.cells zeroC 23))
    rw [← hW]
    clear hW
    go_wp2_with (refine wpList_store_row rfl 23 (.tmp 4) (.tmp 8) rfl w.heap.size (cellC 0 0 ⟨#[]⟩) rfl rfl 23 zeroC hX.out.row HI rfl (cell_one3 _ _ _) ?_)
    obtain ⟨Z, hZ, HZ, BZ⟩ : ∃ Z, Z = W.setRow w.heap.size (cellC 0 0 ⟨#[]⟩) ∧ Hid (Cx Z w.heap.size (cellC 0 0 ⟨#[]⟩)) ∧ Hid (Below w.heap.size w Z) := ⟨_, rfl, Lib.hid (hX.out.setRow _), Lib.hid (below_row hB.out (Nat.le_refl _) _)⟩
    rw [← hZ]
    clear hZ
    obtain ⟨d0, d1, d2⟩ := three_of HZ.out
    refine bodyPost_ret (v := twoC 0 0 ⟨#[]⟩ e) ?_ rfl ?_
    · simp [results, Try.results41, go_sem, d0, d1, d2, twoC, cellC]
    · exact ⟨by rw [HA.out], BZ.out⟩

set_option maxRecDepth 100000 in
set_option maxHeartbeats 1000000 in
theorem bool_any (b : Bool) (w : World) : Calls Try.prog 22 #[.bool b] w fun e w' => e = .returned (.agg (cellC 1 (boolN b) ⟨#[]⟩)) ∧ Below w.heap.size w w' := by
  have HI := info_cell
  obtain ⟨W, hW, hX, hB, _⟩ := cx_new w zeroC
  cases b with
  | true =>
    go_enter Try.func22, Try.ntmps22
    go_upto_region 1 with (fail)
    change Code.wp _ _ _ _ (w.alloc (Obj.cells zeroC 23))
    rw [← hW]
    clear hW
    go_wp2_with fail
    refine (kofNum _ _).mono ?_
    rintro e w1 ⟨rfl, bb⟩
    have hX1 := Lib.hid (hX.out.after bb)
    have hB1 := Lib.hid (Below.step hB.out bb)
    clear bb hX hB
    go_wp2_with (refine wpList_store_row rfl 23 (.tmp 2) (.tmp 4) rfl w.heap.size (cellC 1 1000000 ⟨#[]⟩) rfl rfl 23 zeroC hX1.out.row HI rfl (cell_one3 _ _ _) ?_)
    refine bodyPost_ret (v := .agg (cellC 1 1000000 ⟨#[]⟩)) (results_cell_row (by rfl) _ _ w.heap.size 23 _ (0, 0) _ (by rfl) (hX1.out.setRow _).row Try.underlying23 (by rfl) HI) rfl ?_
    exact ⟨rfl, below_row hB1.out (Nat.le_refl _) _⟩
  | false =>
    go_enter Try.func22, Try.ntmps22
    go_upto_region 1 with (fail)
    change Code.wp _ _ _ _ (w.alloc (Obj.cells zeroC 23))
    rw [← hW]
    clear hW
    go_wp2_with fail
    refine (kofNum _ _).mono ?_
    rintro e w1 ⟨rfl, bb⟩
    have hX1 := Lib.hid (hX.out.after bb)
    have hB1 := Lib.hid (Below.step hB.out bb)
    clear bb hX hB
    go_wp2_with (refine wpList_store_row rfl 23 (.tmp 2) (.tmp 5) rfl w.heap.size (cellC 1 0 ⟨#[]⟩) rfl rfl 23 zeroC hX1.out.row HI rfl (cell_one3 _ _ _) ?_)
    refine bodyPost_ret (v := .agg (cellC 1 0 ⟨#[]⟩)) (results_cell_row (by rfl) _ _ w.heap.size 23 _ (0, 0) _ (by rfl) (hX1.out.setRow _).row Try.underlying23 (by rfl) HI) rfl ?_
    exact ⟨rfl, below_row hB1.out (Nat.le_refl _) _⟩

/-- What is reckoned of two numbers, or why there are none. -/
def recF (p2 q2 : Int) (P : Int × Int) : Value := if p2 ≠ 0 then twoC 0 0 ⟨#[]⟩ p2 else if q2 ≠ 0 then twoC 0 0 ⟨#[]⟩ q2 else numA P
theorem recF_form (p2 q2 : Int) (P : Int × Int) : ∃ k n s e, recF p2 q2 P = twoC k n s e := by
  unfold recF
  split
  · exact ⟨_, _, _, _, rfl⟩
  · split
    · exact ⟨_, _, _, _, rfl⟩
    · exact knumA_form P
set_option maxRecDepth 100000 in
set_option maxHeartbeats 1000000 in
theorem reckon_any (f : FuncId) (hE : Enters Try.prog f) (k n : Int) (s : ByteArray) (k2 n2 : Int) (s2 : ByteArray) (x p2 y q2 : Int) (P : Int × Int)
    (h1 : ∀ w, Calls Try.prog 42 #[.agg (cellC k n s)] w fun e w' => e = .returned (.tuple #[.int .i64 x, .int .i64 p2]) ∧ Below w.heap.size w w')
    (h2 : ∀ w, Calls Try.prog 42 #[.agg (cellC k2 n2 s2)] w fun e w' => e = .returned (.tuple #[.int .i64 y, .int .i64 q2]) ∧ Below w.heap.size w w')
    (h3 : ∀ w, Calls Try.prog f #[.int .i64 x, .int .i64 y] w fun e w' => e = .returned (.tuple #[.int .i64 P.1, .int .i64 P.2]) ∧ Below w.heap.size w w') (w : World) :
    Calls Try.prog 23 #[.func (.func f) #[] #[], .agg (cellC k n s), .agg (cellC k2 n2 s2)] w fun e w' => e = .returned (recF p2 q2 P) ∧ Below w.heap.size w w' := by
  have HI := info_cell
  have HN1 := Lib.hid h1
  have HN2 := Lib.hid h2
  have HP := Lib.hid h3
  clear h1 h2 h3
  obtain ⟨W, hW, HR⟩ := kw_new w (cellC k n s) (cellC k2 n2 s2) zeroC
  by_cases e1 : p2 = 0
  · subst e1
    by_cases e2 : q2 = 0
    · subst e2
      rw [show recF 0 0 P = numA P from rfl]
      obtain ⟨k3, n3, s3, e3, hA⟩ := knumA_form P
      have HNM := Lib.hid (fun w => number_any P.1 P.2 w)
      rw [show (P.1, P.2) = P from rfl, hA] at HNM
      rw [hA]
      clear hA
      go_enter Try.func23, Try.ntmps23
      go_upto_region 1 with (fail)
      change Code.wp _ _ _ _ (((w.alloc (.cells (cellC k n s) 23)).alloc (.cells (cellC k2 n2 s2) 23)).alloc (.cells zeroC 23))
      rw [← hW]
      clear hW
      obtain ⟨a0, a1, a2⟩ := three_of HR.out.a
      obtain ⟨b0, b1, b2⟩ := three_of HR.out.b
      go_wp2_with fail
      refine (HN1.out _).mono ?_
      rintro e w1 ⟨rfl, bb⟩
      have HR1 := Lib.hid (HR.out.after bb)
      clear bb a0 a1 a2 b0 b1 b2 HR
      obtain ⟨b0, b1, b2⟩ := three_of HR1.out.b
      go_wp2_with fail
      refine (HN2.out _).mono ?_
      rintro e w2 ⟨rfl, bb⟩
      have HR2 := Lib.hid (HR1.out.after bb)
      clear bb b0 b1 b2 HR1
      go_wp2_with fail
      rw [hE]
      simp only [Oper.upon]
      refine (HP.out _).mono ?_
      rintro e w3 ⟨rfl, bb⟩
      have HR3 := Lib.hid (HR2.out.after bb)
      clear bb HR2
      go_wp2_with fail
      refine (HNM.out _).mono ?_
      rintro e w4 ⟨rfl, bb⟩
      have HR4 := Lib.hid (HR3.out.after bb)
      clear bb HR3
      unfold twoC
      go_wp2_with (refine wpList_store_row rfl 23 (.tmp 6) (.tmp 36) rfl (w.heap.size + 1 + 1) (cellC k3 n3 s3) rfl rfl 23 zeroC HR4.out.r.row HI rfl (cell_one3 _ _ _) ?_)
      obtain ⟨Z, hZ, HZ⟩ : ∃ Z, Z = w4.setRow (w.heap.size + 1 + 1) (cellC k3 n3 s3) ∧ Hid (Kw w Z (cellC k n s) (cellC k2 n2 s2) (cellC k3 n3 s3)) := ⟨_, rfl, Lib.hid (HR4.out.put _)⟩
      rw [← hZ]
      clear hZ
      obtain ⟨d0, d1, d2⟩ := three_of HZ.out.r
      refine bodyPost_ret (v := twoC k3 n3 s3 e3) ?_ rfl ?_
      · simp [results, Try.results23, go_sem, d0, d1, d2, twoC, cellC]
      · exact ⟨rfl, HZ.out.below⟩
    · have hne : (q2 != 0) = true := by simpa using e2
      have HA : Hid (recF 0 q2 P = twoC 0 0 ⟨#[]⟩ q2) := Lib.hid (by unfold recF; rw [if_neg (by simp), if_pos e2])
      clear e2
      go_enter Try.func23, Try.ntmps23
      go_upto_region 1 with (fail)
      change Code.wp _ _ _ _ (((w.alloc (.cells (cellC k n s) 23)).alloc (.cells (cellC k2 n2 s2) 23)).alloc (.cells zeroC 23))
      rw [← hW]
      clear hW
      obtain ⟨a0, a1, a2⟩ := three_of HR.out.a
      obtain ⟨b0, b1, b2⟩ := three_of HR.out.b
      go_wp2_with fail
      refine (HN1.out _).mono ?_
      rintro e w1 ⟨rfl, bb⟩
      have HR1 := Lib.hid (HR.out.after bb)
      clear bb a0 a1 a2 b0 b1 b2 HR
      obtain ⟨b0, b1, b2⟩ := three_of HR1.out.b
      go_wp2_with fail
      refine (HN2.out _).mono ?_
      rintro e w2 ⟨rfl, bb⟩
      have HR2 := Lib.hid (HR1.out.after bb)
      clear bb b0 b1 b2 HR1
      go_wp2_with (refine wpList_store_row rfl 23 (.tmp 6) (.tmp 27) rfl (w.heap.size + 1 + 1) (cellC 0 0 ⟨#[]⟩) rfl rfl 23 zeroC HR2.out.r.row HI rfl (cell_one3 _ _ _) ?_)
      obtain ⟨Z, hZ, HZ⟩ : ∃ Z, Z = w2.setRow (w.heap.size + 1 + 1) (cellC 0 0 ⟨#[]⟩) ∧ Hid (Kw w Z (cellC k n s) (cellC k2 n2 s2) (cellC 0 0 ⟨#[]⟩)) := ⟨_, rfl, Lib.hid (HR2.out.put _)⟩
      rw [← hZ]
      clear hZ
      obtain ⟨d0, d1, d2⟩ := three_of HZ.out.r
      refine bodyPost_ret (v := twoC 0 0 ⟨#[]⟩ q2) ?_ rfl ?_
      · simp [results, Try.results23, go_sem, d0, d1, d2, twoC, cellC]
      · exact ⟨by rw [HA.out], HZ.out.below⟩
  · have hne : (p2 != 0) = true := by simpa using e1
    have HA : Hid (recF p2 q2 P = twoC 0 0 ⟨#[]⟩ p2) := Lib.hid (by unfold recF; rw [if_pos e1])
    clear e1
    go_enter Try.func23, Try.ntmps23
    go_upto_region 1 with (fail)
    change Code.wp _ _ _ _ (((w.alloc (.cells (cellC k n s) 23)).alloc (.cells (cellC k2 n2 s2) 23)).alloc (.cells zeroC 23))
    rw [← hW]
    clear hW
    obtain ⟨a0, a1, a2⟩ := three_of HR.out.a
    obtain ⟨b0, b1, b2⟩ := three_of HR.out.b
    go_wp2_with fail
    refine (HN1.out _).mono ?_
    rintro e w1 ⟨rfl, bb⟩
    have HR1 := Lib.hid (HR.out.after bb)
    clear bb a0 a1 a2 b0 b1 b2 HR
    go_wp2_with (refine wpList_store_row rfl 23 (.tmp 6) (.tmp 18) rfl (w.heap.size + 1 + 1) (cellC 0 0 ⟨#[]⟩) rfl rfl 23 zeroC HR1.out.r.row HI rfl (cell_one3 _ _ _) ?_)
    obtain ⟨Z, hZ, HZ⟩ : ∃ Z, Z = w1.setRow (w.heap.size + 1 + 1) (cellC 0 0 ⟨#[]⟩) ∧ Hid (Kw w Z (cellC k n s) (cellC k2 n2 s2) (cellC 0 0 ⟨#[]⟩)) := ⟨_, rfl, Lib.hid (HR1.out.put _)⟩
    rw [← hZ]
    clear hZ
    obtain ⟨d0, d1, d2⟩ := three_of HZ.out.r
    refine bodyPost_ret (v := twoC 0 0 ⟨#[]⟩ p2) ?_ rfl ?_
    · simp [results, Try.results23, go_sem, d0, d1, d2, twoC, cellC]
    · exact ⟨by rw [HA.out], HZ.out.below⟩
end Go.Proofs.Ytbbhcbpfffabpaa

/- Cells that can be stand in an order; a number's text looks like that number: plain mathematics. -/
namespace Go.Proofs.Ytbbhcbpfffabpaa.T3
open Go.Proofs.Ytbbhcbpfffabpaa Go.Proofs
open Go.Lib (compareBytes)

theorem can_num {k n : Int} {s : ByteArray} (h : canB k n s = true) (hk : k ≠ 2) : numC k n = n := by
  rcases can_cases k n s with ⟨rfl, rfl, _, _⟩ | ⟨rfl, rfl, _, hc⟩ | ⟨rfl, _, hc⟩ | ⟨rfl, _, _⟩ | ⟨rfl, _, hc⟩ | ⟨rfl, rfl, _⟩ | ⟨rfl, _, hc⟩ | ⟨rfl, _, rfl, _⟩ | ⟨rfl, _, _, hc⟩ | ⟨rfl, _, hc⟩ | ⟨_, _, _, _, hc⟩
  · rfl
  · rw [h] at hc; cases hc
  · rw [h] at hc; cases hc
  · rfl
  · rw [h] at hc; cases hc
  · exact absurd rfl hk
  · rw [h] at hc; cases hc
  · rfl
  · rw [h] at hc; cases hc
  · rw [h] at hc; cases hc
  · rw [h] at hc; cases hc

theorem cmp_ref {k n : Int} {s : ByteArray} {k' n' : Int} {s' : ByteArray} (h : canB k n s = true) (h' : canB k' n' s' = true) : refCmpC k n s k' n' s' = cmpC k n s k' n' s' := by
  unfold refCmpC cmpC
  by_cases hk : k = 2 ∨ k' = 2
  · rw [if_pos hk, if_pos hk]
  · rw [if_neg hk, if_neg hk, can_num h (fun e => hk (Or.inl e)), can_num h' (fun e => hk (Or.inr e))]
    unfold cmpI
    by_cases h1 : n = n'
    · rw [if_pos h1, if_neg (by omega), if_neg (by omega)]
    · rw [if_neg h1]
      by_cases h2 : n < n'
      · rw [if_pos h2, if_pos h2]
      · rw [if_neg h2, if_neg h2, if_pos (by omega)]

theorem cmpI_turn (m n : Int) : cmpI n m = - cmpI m n := by
  unfold cmpI
  by_cases h1 : m < n
  · rw [if_neg (by omega), if_pos h1, if_pos h1]; rfl
  · by_cases h2 : n < m
    · rw [if_pos h2, if_neg h1, if_pos h2]
    · rw [if_neg h2, if_neg h1, if_neg h1, if_neg h2]; rfl
theorem cmpC_turn (k n : Int) (s : ByteArray) (k' n' : Int) (s' : ByteArray) : cmpC k' n' s' k n s = - cmpC k n s k' n' s' := by
  unfold cmpC
  by_cases hk : k = 2 ∨ k' = 2
  · rw [if_pos hk, if_pos (Or.symm hk)]
    exact cmp_turn _ _
  · rw [if_neg hk, if_neg (fun e => hk (Or.symm e))]
    exact cmpI_turn _ _
theorem cmpC_cases (k n : Int) (s : ByteArray) (k' n' : Int) (s' : ByteArray) : cmpC k n s k' n' s' = -1 ∨ cmpC k n s k' n' s' = 0 ∨ cmpC k n s k' n' s' = 1 := by
  unfold cmpC
  split
  · exact cmp_cases _ _
  · unfold cmpI
    split
    · exact Or.inl rfl
    · split
      · exact Or.inr (Or.inr rfl)
      · exact Or.inr (Or.inl rfl)
theorem cmpC_self (k n : Int) (s : ByteArray) : cmpC k n s k n s = 0 := by
  unfold cmpC
  split
  · exact cmp_self _
  · unfold cmpI
    rw [if_neg (by omega), if_neg (by omega)]

theorem cmp_trans : ∀ a b c : List UInt8, compareBytes a b ≤ 0 → compareBytes b c ≤ 0 → compareBytes a c ≤ 0
  | [], _, [], _, _ => by unfold compareBytes; decide
  | [], _, _ :: _, _, _ => by unfold compareBytes; decide
  | x :: l, [], c, h1, _ => by
    have : compareBytes (x :: l) [] = 1 := rfl
    omega
  | x :: l, y :: m, [], _, h2 => by
    have : compareBytes (y :: m) [] = 1 := rfl
    omega
  | x :: l, y :: m, z :: k, h1, h2 => by
    unfold compareBytes at h1 h2 ⊢
    by_cases a1 : x < y
    · by_cases a2 : y < z
      · rw [if_pos (show x < z by rw [UInt8.lt_iff_toNat_lt] at *; omega)]; decide
      · rw [if_neg a2] at h2
        by_cases a3 : z < y
        · rw [if_pos a3] at h2; omega
        · rw [if_pos (show x < z by rw [UInt8.lt_iff_toNat_lt] at *; omega)]; decide
    · rw [if_neg a1] at h1
      by_cases b1 : y < x
      · rw [if_pos b1] at h1; omega
      · rw [if_neg b1] at h1
        by_cases a2 : y < z
        · rw [if_pos (show x < z by rw [UInt8.lt_iff_toNat_lt] at *; omega)]; decide
        · rw [if_neg a2] at h2
          by_cases a3 : z < y
          · rw [if_pos a3] at h2; omega
          · rw [if_neg a3] at h2
            rw [if_neg (show ¬ x < z by rw [UInt8.lt_iff_toNat_lt] at *; omega), if_neg (show ¬ z < x by rw [UInt8.lt_iff_toNat_lt] at *; omega)]
            exact cmp_trans l m k h1 h2

theorem cmpI_trans {m n o : Int} (h1 : cmpI m n ≤ 0) (h2 : cmpI n o ≤ 0) : cmpI m o ≤ 0 := by
  unfold cmpI at *
  by_cases a : m < o
  · rw [if_pos a]; decide
  · rw [if_neg a]
    by_cases b : o < m
    · exfalso
      by_cases c : m < n
      · rw [if_neg (show ¬ n < o by omega), if_pos (show o < n by omega)] at h2; omega
      · rw [if_neg c] at h1
        by_cases d : n < m
        · rw [if_pos d] at h1; omega
        · rw [if_neg (show ¬ n < o by omega), if_pos (show o < n by omega)] at h2; omega
    · rw [if_neg b]; decide

theorem cmpC_trans {k n : Int} {s : ByteArray} {k' n' : Int} {s' : ByteArray} {k2 n2 : Int} {s2 : ByteArray} (h12 : k = 2 ↔ k' = 2) (h13 : k = 2 ↔ k2 = 2) (h1 : cmpC k n s k' n' s' ≤ 0) (h2 : cmpC k' n' s' k2 n2 s2 ≤ 0) : cmpC k n s k2 n2 s2 ≤ 0 := by
  unfold cmpC at *
  by_cases hk : k = 2
  · rw [if_pos (Or.inl hk)] at h1 ⊢
    rw [if_pos (Or.inl (h12.1 hk))] at h2
    exact cmp_trans _ _ _ h1 h2
  · have hk' : ¬ k' = 2 := fun e => hk (h12.2 e)
    have hk2 : ¬ k2 = 2 := fun e => hk (h13.2 e)
    rw [if_neg (by omega)] at h1 h2 ⊢
    exact cmpI_trans h1 h2

/-! ### A number's text looks like that number -/
theorem dig_plain {c : UInt8} (h : isDig c = true) : ([32, 9, 10] : List UInt8).contains c = false := by
  have h1 := isDig_yes h
  rw [blank_mem]
  unfold blankB
  simp only [Bool.or_eq_false_iff, beq_eq_false_iff_ne]
  omega
theorem showText_plain (n : Int) : ∀ c ∈ showText n, ([32, 9, 10] : List UInt8).contains c = false := by
  have hp : ∀ m, ∀ c ∈ showPlain m, ([32, 9, 10] : List UInt8).contains c = false := by
    intro m c h
    rw [showPlain_split] at h
    rcases List.mem_append.1 h with h | h
    · exact dig_plain (wholeText_digs m c h)
    · unfold showFrac at h
      split at h
      · cases h
      · rcases List.mem_cons.1 h with rfl | h
        · decide
        · exact dig_plain (strip_digs _ _ c h)
  intro c h
  unfold showText at h
  split at h
  · rcases List.mem_cons.1 h with rfl | h
    · decide
    · exact hp _ c h
  · exact hp _ c h
theorem showText_cons (n : Int) : ∃ c l, showText n = c :: l := by
  unfold showText
  split
  · exact ⟨_, _, rfl⟩
  · obtain ⟨c, l, h, _⟩ := wholeText_cons n.natAbs
    rw [showPlain_split, h]
    exact ⟨c, _, rfl⟩

theorem drop_plain {p : UInt8 → Bool} {l r : List UInt8} (h : ∀ c ∈ l, p c = false) (hne : l ≠ []) : (l ++ r).dropWhile p = l ++ r := by
  cases l with
  | nil => exact absurd rfl hne
  | cons c l => rw [List.cons_append, List.dropWhile_cons, if_neg (by rw [h c (by simp)]; decide)]

theorem trim_plain {l : List UInt8} (h : ∀ c ∈ l, ([32, 9, 10] : List UInt8).contains c = false) (hne : l ≠ []) : Lib.trimS l [32, 9, 10] = l := by
  unfold Lib.trimS Lib.trimLeftS Lib.trimRightS
  have h1 := drop_plain (r := []) (p := (([32, 9, 10] : List UInt8).contains ·)) (l := l.reverse) (fun c hc => h c (List.mem_reverse.1 hc)) (by simpa using hne)
  rw [List.append_nil] at h1
  rw [h1, List.reverse_reverse]
  have h2 := drop_plain (r := []) (p := (([32, 9, 10] : List UInt8).contains ·)) h hne
  rw [List.append_nil] at h2
  exact h2
theorem trim_padded {l : List UInt8} (h : ∀ c ∈ l, ([32, 9, 10] : List UInt8).contains c = false) (hne : l ≠ []) : Lib.trimS (32 :: (l ++ [10])) [32, 9, 10] = l := by
  unfold Lib.trimS Lib.trimLeftS Lib.trimRightS
  have e1 : (32 :: (l ++ [10]) : List UInt8).reverse = 10 :: (l.reverse ++ [32]) := by simp
  rw [e1, List.dropWhile_cons, if_pos (by decide)]
  have h1 := drop_plain (r := [32]) (p := (([32, 9, 10] : List UInt8).contains ·)) (l := l.reverse) (fun c hc => h c (List.mem_reverse.1 hc)) (by simpa using hne)
  rw [h1]
  have e2 : (l.reverse ++ [32]).reverse = 32 :: l := by simp
  rw [e2, List.dropWhile_cons, if_pos (by decide)]
  have h2 := drop_plain (r := []) (p := (([32, 9, 10] : List UInt8).contains ·)) h hne
  rw [List.append_nil] at h2
  exact h2

def padT (n : Int) : ByteArray := ({ data := #[32] } : ByteArray) ++ showT n ++ ({ data := #[10] } : ByteArray)
theorem showT_data (n : Int) : (showT n).data.toList = showText n := by unfold showT; rfl
theorem padT_data (n : Int) : (padT n).data.toList = 32 :: (showText n ++ [10]) := by
  unfold padT
  rw [ByteArray.data_append, Array.toList_append, ByteArray.data_append, Array.toList_append, showT_data]
  rfl
theorem showText_ne (n : Int) : showText n ≠ [] := by
  obtain ⟨c, l, h⟩ := showText_cons n
  rw [h]; simp

theorem trimB_show (n : Int) : trimB (showT n) = showT n := by
  unfold trimB
  rw [showT_data, trim_plain (showText_plain n) (showText_ne n)]
  rfl
theorem trimB_pad (n : Int) : trimB (padT n) = showT n := by
  unfold trimB
  rw [padT_data, trim_padded (showText_plain n) (showText_ne n)]
  rfl

theorem show_parse (n : Int) (hn : Fits n) : pN (showT n).data.toList = n ∧ pE (showT n).data.toList = (showT n).size ∧ pR (showT n).data.toList = 0 := by
  have h := parse_text n hn [] [] (by simp) clean_nil
  simp only [List.nil_append, List.append_nil, List.length_nil, Nat.zero_add] at h
  rw [parse_three] at h
  unfold num3 at h
  rw [showT_data, Lib.size_eq, showT_data]
  simp at h
  obtain ⟨h1, h2, h3⟩ := h
  exact ⟨h1, by omega, h3⟩

theorem show_whole (n : Int) (hn : Fits n) : wholeB (showT n) = true := by
  obtain ⟨_, h2, h3⟩ := show_parse n hn
  unfold wholeB
  rw [h2, h3]
  have : (showT n).size ≠ 0 := by
    rw [Lib.size_eq, showT_data]
    intro e
    exact showText_ne n (List.length_eq_zero_iff.1 e)
  rw [decide_eq_true this]
  simp

theorem show_in (n : Int) (hn : Fits n) : inK (showT n) = 3 ∧ inN (showT n) = n := by
  have h : looksB (showT n) = true := by unfold looksB; rw [trimB_show]; exact show_whole n hn
  unfold inK inN
  rw [h, trimB_show]
  exact ⟨rfl, (show_parse n hn).1⟩
theorem pad_in (n : Int) (hn : Fits n) : inK (padT n) = 3 ∧ inN (padT n) = n := by
  have h : looksB (padT n) = true := by unfold looksB; rw [trimB_pad]; exact show_whole n hn
  unfold inK inN
  rw [h, trimB_pad]
  exact ⟨rfl, (show_parse n hn).1⟩
theorem padT_size (n : Int) : (padT n).size ≤ 23 := by
  have h := showText_len n
  rw [Lib.size_eq, padT_data]
  simp
  omega
end Go.Proofs.Ytbbhcbpfffabpaa.T3
