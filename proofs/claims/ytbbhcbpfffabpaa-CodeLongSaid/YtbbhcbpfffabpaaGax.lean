/- Merged by program: C15C. -/
import Derived.Test.YtbbhcbpfffabpaaGam
import Derived.Test.YtbbhcbpfffabpaaGaw
import Derived.Test.YtbbhcbpfffabpaaGau
import Derived.Test.YtbbhcbpfffabpaaGao
/- The document's Two of layer 15 (gen_c15c.py). -/
namespace Go.Proofs.Ytbbhcbpfffabpaa
open Go.RowKit T3

def errA (e : Int) : Value := twoC 0 0 ⟨#[]⟩ e
def boolA (b : Bool) : Value := twoC 1 (boolN b) ⟨#[]⟩ 0
theorem numL_fits (k n : Int) (s : ByteArray) (hn : Fits n) : Fits (numL k n s).1 := by
  have h0 : Fits 0 := by unfold Fits; omega
  unfold numL
  split
  · show Fits (pN s.data.toList)
    unfold pN
    split
    · exact h0
    · unfold back
      split
      · assumption
      · exact h0
  · show Fits (if k = 1 ∨ k = 3 then n else 0)
    split
    · exact hn
    · exact h0
/-- What a sign of reckoning makes of two numbers. -/
def arith (g : ByteArray) (x y : Int) : Int × Int :=
  if g = ⟨#[43]⟩ then T1.back (x + y) else if g = ⟨#[45]⟩ then T1.back (x - y) else if g = ⟨#[42]⟩ then T1.mulAns x y else if g = ⟨#[47]⟩ then T1.divAns x y else T1.modAns x y
/-- What a sign makes of two cells: of how they stand, and their numbers. -/
def twoF (g : ByteArray) (c : Int) (p q : Int × Int) : Value :=
  if g = ⟨#[60]⟩ then boolA (c == -1) else if g = ⟨#[60, 61]⟩ then boolA (c != 1) else if g = ⟨#[61, 61]⟩ then boolA (c == 0) else if g = ⟨#[33, 61]⟩ then boolA (c != 0) else if g = ⟨#[62]⟩ then boolA (c == 1) else if g = ⟨#[62, 61]⟩ then boolA (c != -1) else
  if g = ⟨#[43]⟩ ∨ g = ⟨#[45]⟩ ∨ g = ⟨#[42]⟩ ∨ g = ⟨#[47]⟩ ∨ g = ⟨#[37]⟩ then (if p.2 ≠ 0 then errA p.2 else if q.2 ≠ 0 then errA q.2 else numA (arith g p.1 q.1)) else errA 1
theorem twoF_60_ (c : Int) (p q : Int × Int) : twoF ⟨#[60]⟩ c p q = boolA (c == -1) := by
  unfold twoF
  simp
theorem twoF_60_61_ (c : Int) (p q : Int × Int) : twoF ⟨#[60, 61]⟩ c p q = boolA (c != 1) := by
  unfold twoF
  simp
theorem twoF_61_61_ (c : Int) (p q : Int × Int) : twoF ⟨#[61, 61]⟩ c p q = boolA (c == 0) := by
  unfold twoF
  simp
theorem twoF_33_61_ (c : Int) (p q : Int × Int) : twoF ⟨#[33, 61]⟩ c p q = boolA (c != 0) := by
  unfold twoF
  simp
theorem twoF_62_ (c : Int) (p q : Int × Int) : twoF ⟨#[62]⟩ c p q = boolA (c == 1) := by
  unfold twoF
  simp
theorem twoF_62_61_ (c : Int) (p q : Int × Int) : twoF ⟨#[62, 61]⟩ c p q = boolA (c != -1) := by
  unfold twoF
  simp
theorem twoF_43 (c : Int) (p q : Int × Int) : twoF ⟨#[43]⟩ c p q = (if p.2 ≠ 0 then errA p.2 else if q.2 ≠ 0 then errA q.2 else numA (T1.back (p.1 + q.1))) := by
  unfold twoF arith
  simp
theorem twoF_45 (c : Int) (p q : Int × Int) : twoF ⟨#[45]⟩ c p q = (if p.2 ≠ 0 then errA p.2 else if q.2 ≠ 0 then errA q.2 else numA (T1.back (p.1 - q.1))) := by
  unfold twoF arith
  simp
theorem twoF_42 (c : Int) (p q : Int × Int) : twoF ⟨#[42]⟩ c p q = (if p.2 ≠ 0 then errA p.2 else if q.2 ≠ 0 then errA q.2 else numA (T1.mulAns p.1 q.1)) := by
  unfold twoF arith
  simp
theorem twoF_47 (c : Int) (p q : Int × Int) : twoF ⟨#[47]⟩ c p q = (if p.2 ≠ 0 then errA p.2 else if q.2 ≠ 0 then errA q.2 else numA (T1.divAns p.1 q.1)) := by
  unfold twoF arith
  simp
theorem twoF_37 (c : Int) (p q : Int × Int) : twoF ⟨#[37]⟩ c p q = (if p.2 ≠ 0 then errA p.2 else if q.2 ≠ 0 then errA q.2 else numA (T1.modAns p.1 q.1)) := by
  unfold twoF arith
  simp
theorem twoF_other {g : ByteArray} (h0 : g ≠ ⟨#[60]⟩) (h1 : g ≠ ⟨#[60, 61]⟩) (h2 : g ≠ ⟨#[61, 61]⟩) (h3 : g ≠ ⟨#[33, 61]⟩) (h4 : g ≠ ⟨#[62]⟩) (h5 : g ≠ ⟨#[62, 61]⟩) (h6 : g ≠ ⟨#[43]⟩) (h7 : g ≠ ⟨#[45]⟩) (h8 : g ≠ ⟨#[42]⟩) (h9 : g ≠ ⟨#[47]⟩) (h10 : g ≠ ⟨#[37]⟩) (c : Int) (p q : Int × Int) : twoF g c p q = errA 1 := by
  unfold twoF
  rw [if_neg h0, if_neg h1, if_neg h2, if_neg h3, if_neg h4, if_neg h5, if_neg (by simp [h6, h7, h8, h9, h10])]

/-- Two cells and a result in blocks. -/
structure Tw (w V : World) (cs ds es : Array Value) : Prop where
  a : Cx V w.heap.size cs
  b : Cx V (w.heap.size + 1) ds
  r : Cx V (w.heap.size + 1 + 1) es
  below : Below w.heap.size w V
theorem Tw.after {w V W : World} {cs ds es : Array Value} (h : Tw w V cs ds es) (hb : Below V.heap.size V W) : Tw w W cs ds es := ⟨h.a.after hb, h.b.after hb, h.r.after hb, Below.step h.below hb⟩
theorem tw_new (w : World) (cs ds es : Array Value) : ∃ W, W = ((w.alloc (.cells cs 23)).alloc (.cells ds 23)).alloc (.cells es 23) ∧ Hid (Tw w W cs ds es) := by
  have s1 : (w.alloc (.cells cs 23)).heap.size = w.heap.size + 1 := World.size_alloc _ _
  have s2 : ((w.alloc (.cells cs 23)).alloc (.cells ds 23)).heap.size = w.heap.size + 1 + 1 := by rw [World.size_alloc, s1]
  have b1 := below_new w (.cells cs 23)
  have b2 := below_new (w.alloc (.cells cs 23)) (.cells ds 23)
  have b3 := below_new ((w.alloc (.cells cs 23)).alloc (.cells ds 23)) (.cells es 23)
  have h1 := heap_alloc_last w (.cells cs 23)
  have h2 := heap_alloc_last (w.alloc (.cells cs 23)) (.cells ds 23)
  have h3 := heap_alloc_last ((w.alloc (.cells cs 23)).alloc (.cells ds 23)) (.cells es 23)
  rw [s1] at h2
  rw [s2] at h3
  exact ⟨_, rfl, Lib.hid ⟨⟨(b3.block w.heap.size (by omega)).trans ((b2.block w.heap.size (by omega)).trans h1)⟩, ⟨(b3.block (w.heap.size + 1) (by omega)).trans h2⟩, ⟨h3⟩, Below.step (Below.step b1 b2) b3⟩⟩
theorem Tw.put {w V : World} {cs ds es : Array Value} (h : Tw w V cs ds es) (fs : Array Value) : Tw w (V.setRow (w.heap.size + 1 + 1) fs) cs ds fs := by
  have other : ∀ k, k ≠ w.heap.size + 1 + 1 → (V.setRow (w.heap.size + 1 + 1) fs).heap[k]? = V.heap[k]? := fun k hk => Go.setRow_other _ _ _ _ hk
  exact ⟨⟨by rw [other _ (by omega)]; exact h.a.row⟩, ⟨by rw [other _ (by omega)]; exact h.b.row⟩, h.r.setRow fs, below_row h.below (by omega) fs⟩

set_option maxRecDepth 100000 in
set_option maxHeartbeats 1000000 in
theorem refTwo_60_ (k n : Int) (s : ByteArray) (k2 n2 : Int) (s2 : ByteArray) (hn : Fits n) (hn2 : Fits n2) (hs : s.size ≤ 300) (hs2 : s2.size ≤ 300) (w : World) :
    Calls Try.prog 10 #[.string ⟨#[60]⟩, .agg (cellC k n s), .agg (cellC k2 n2 s2)] w fun e w' => e = .returned (twoF ⟨#[60]⟩ (refCmpC k n s k2 n2 s2) (numL k n s) (numL k2 n2 s2)) ∧ Below w.heap.size w w' := by
  have HI := info_cell
  have HC := Lib.hid (fun w => refCompare_cell k n s k2 n2 s2 hn hn2 hs hs2 w)
  have HN1 := Lib.hid (fun w => refNum_any k n s hs w)
  have HN2 := Lib.hid (fun w => refNum_any k2 n2 s2 hs2 w)
  obtain ⟨c, hc⟩ : ∃ c, c = refCmpC k n s k2 n2 s2 := ⟨_, rfl⟩
  rw [← hc] at HC ⊢
  obtain ⟨x, p2, hp⟩ : ∃ x p2, numL k n s = (x, p2) := ⟨_, _, rfl⟩
  obtain ⟨y, q2, hq⟩ : ∃ y q2, numL k2 n2 s2 = (y, q2) := ⟨_, _, rfl⟩
  have hx : Fits x := by have := numL_fits k n s hn; rw [hp] at this; exact this
  have hy : Fits y := by have := numL_fits k2 n2 s2 hn2; rw [hq] at this; exact this
  rw [hp] at HN1 ⊢
  rw [hq] at HN2 ⊢
  clear hc hp hq hn hn2 hs hs2
  obtain ⟨W, hW, HR⟩ := tw_new w (cellC k n s) (cellC k2 n2 s2) zeroC
  rw [twoF_60_]
  clear hx hy
  go_enter Try.func10, Try.ntmps10
  go_upto_region 1 with (fail)
  change Code.wp _ _ _ _ (((w.alloc (.cells (cellC k n s) 23)).alloc (.cells (cellC k2 n2 s2) 23)).alloc (.cells zeroC 23))
  rw [← hW]
  clear hW
  obtain ⟨a0, a1, a2⟩ := three_of HR.out.a
  obtain ⟨b0, b1, b2⟩ := three_of HR.out.b
  go_wp2_with fail
  refine (HC.out _).mono ?_
  rintro e w1 ⟨rfl, bb⟩
  have HR1 := Lib.hid (HR.out.after bb)
  clear bb a0 a1 a2 b0 b1 b2 HR
  go_wp2_with fail
  refine (refBool_any _ _).mono ?_
  rintro e w2 ⟨rfl, bb⟩
  have HR2 := Lib.hid (HR1.out.after bb)
  clear bb HR1
  go_wp2_with (refine wpList_store_row rfl 23 (.tmp 6) (.tmp 21) rfl (w.heap.size + 1 + 1) (cellC 1 (boolN (c == -1)) ⟨#[]⟩) rfl rfl 23 zeroC HR2.out.r.row HI rfl (cell_one3 _ _ _) ?_)
  obtain ⟨Z, hZ, HZ⟩ : ∃ Z, Z = w2.setRow (w.heap.size + 1 + 1) (cellC 1 (boolN (c == -1)) ⟨#[]⟩) ∧ Hid (Tw w Z (cellC k n s) (cellC k2 n2 s2) (cellC 1 (boolN (c == -1)) ⟨#[]⟩)) := ⟨_, rfl, Lib.hid (HR2.out.put _)⟩
  rw [← hZ]
  clear hZ
  obtain ⟨d0, d1, d2⟩ := three_of HZ.out.r
  refine bodyPost_ret (v := twoC 1 (boolN (c == -1)) ⟨#[]⟩ 0) ?_ rfl ?_
  · simp [results, Try.results10, go_sem, d0, d1, d2, twoC, cellC]
  · exact ⟨rfl, HZ.out.below⟩

set_option maxRecDepth 100000 in
set_option maxHeartbeats 1000000 in
theorem refTwo_60_61_ (k n : Int) (s : ByteArray) (k2 n2 : Int) (s2 : ByteArray) (hn : Fits n) (hn2 : Fits n2) (hs : s.size ≤ 300) (hs2 : s2.size ≤ 300) (w : World) :
    Calls Try.prog 10 #[.string ⟨#[60, 61]⟩, .agg (cellC k n s), .agg (cellC k2 n2 s2)] w fun e w' => e = .returned (twoF ⟨#[60, 61]⟩ (refCmpC k n s k2 n2 s2) (numL k n s) (numL k2 n2 s2)) ∧ Below w.heap.size w w' := by
  have HI := info_cell
  have HC := Lib.hid (fun w => refCompare_cell k n s k2 n2 s2 hn hn2 hs hs2 w)
  have HN1 := Lib.hid (fun w => refNum_any k n s hs w)
  have HN2 := Lib.hid (fun w => refNum_any k2 n2 s2 hs2 w)
  obtain ⟨c, hc⟩ : ∃ c, c = refCmpC k n s k2 n2 s2 := ⟨_, rfl⟩
  rw [← hc] at HC ⊢
  obtain ⟨x, p2, hp⟩ : ∃ x p2, numL k n s = (x, p2) := ⟨_, _, rfl⟩
  obtain ⟨y, q2, hq⟩ : ∃ y q2, numL k2 n2 s2 = (y, q2) := ⟨_, _, rfl⟩
  have hx : Fits x := by have := numL_fits k n s hn; rw [hp] at this; exact this
  have hy : Fits y := by have := numL_fits k2 n2 s2 hn2; rw [hq] at this; exact this
  rw [hp] at HN1 ⊢
  rw [hq] at HN2 ⊢
  clear hc hp hq hn hn2 hs hs2
  obtain ⟨W, hW, HR⟩ := tw_new w (cellC k n s) (cellC k2 n2 s2) zeroC
  rw [twoF_60_61_]
  clear hx hy
  go_enter Try.func10, Try.ntmps10
  go_upto_region 1 with (fail)
  change Code.wp _ _ _ _ (((w.alloc (.cells (cellC k n s) 23)).alloc (.cells (cellC k2 n2 s2) 23)).alloc (.cells zeroC 23))
  rw [← hW]
  clear hW
  obtain ⟨a0, a1, a2⟩ := three_of HR.out.a
  obtain ⟨b0, b1, b2⟩ := three_of HR.out.b
  go_wp2_with fail
  refine (HC.out _).mono ?_
  rintro e w1 ⟨rfl, bb⟩
  have HR1 := Lib.hid (HR.out.after bb)
  clear bb a0 a1 a2 b0 b1 b2 HR
  go_wp2_with fail
  refine (refBool_any _ _).mono ?_
  rintro e w2 ⟨rfl, bb⟩
  have HR2 := Lib.hid (HR1.out.after bb)
  clear bb HR1
  go_wp2_with (refine wpList_store_row rfl 23 (.tmp 6) (.tmp 26) rfl (w.heap.size + 1 + 1) (cellC 1 (boolN (c != 1)) ⟨#[]⟩) rfl rfl 23 zeroC HR2.out.r.row HI rfl (cell_one3 _ _ _) ?_)
  obtain ⟨Z, hZ, HZ⟩ : ∃ Z, Z = w2.setRow (w.heap.size + 1 + 1) (cellC 1 (boolN (c != 1)) ⟨#[]⟩) ∧ Hid (Tw w Z (cellC k n s) (cellC k2 n2 s2) (cellC 1 (boolN (c != 1)) ⟨#[]⟩)) := ⟨_, rfl, Lib.hid (HR2.out.put _)⟩
  rw [← hZ]
  clear hZ
  obtain ⟨d0, d1, d2⟩ := three_of HZ.out.r
  refine bodyPost_ret (v := twoC 1 (boolN (c != 1)) ⟨#[]⟩ 0) ?_ rfl ?_
  · simp [results, Try.results10, go_sem, d0, d1, d2, twoC, cellC]
  · exact ⟨rfl, HZ.out.below⟩

set_option maxRecDepth 100000 in
set_option maxHeartbeats 1000000 in
theorem refTwo_61_61_ (k n : Int) (s : ByteArray) (k2 n2 : Int) (s2 : ByteArray) (hn : Fits n) (hn2 : Fits n2) (hs : s.size ≤ 300) (hs2 : s2.size ≤ 300) (w : World) :
    Calls Try.prog 10 #[.string ⟨#[61, 61]⟩, .agg (cellC k n s), .agg (cellC k2 n2 s2)] w fun e w' => e = .returned (twoF ⟨#[61, 61]⟩ (refCmpC k n s k2 n2 s2) (numL k n s) (numL k2 n2 s2)) ∧ Below w.heap.size w w' := by
  have HI := info_cell
  have HC := Lib.hid (fun w => refCompare_cell k n s k2 n2 s2 hn hn2 hs hs2 w)
  have HN1 := Lib.hid (fun w => refNum_any k n s hs w)
  have HN2 := Lib.hid (fun w => refNum_any k2 n2 s2 hs2 w)
  obtain ⟨c, hc⟩ : ∃ c, c = refCmpC k n s k2 n2 s2 := ⟨_, rfl⟩
  rw [← hc] at HC ⊢
  obtain ⟨x, p2, hp⟩ : ∃ x p2, numL k n s = (x, p2) := ⟨_, _, rfl⟩
  obtain ⟨y, q2, hq⟩ : ∃ y q2, numL k2 n2 s2 = (y, q2) := ⟨_, _, rfl⟩
  have hx : Fits x := by have := numL_fits k n s hn; rw [hp] at this; exact this
  have hy : Fits y := by have := numL_fits k2 n2 s2 hn2; rw [hq] at this; exact this
  rw [hp] at HN1 ⊢
  rw [hq] at HN2 ⊢
  clear hc hp hq hn hn2 hs hs2
  obtain ⟨W, hW, HR⟩ := tw_new w (cellC k n s) (cellC k2 n2 s2) zeroC
  rw [twoF_61_61_]
  clear hx hy
  go_enter Try.func10, Try.ntmps10
  go_upto_region 1 with (fail)
  change Code.wp _ _ _ _ (((w.alloc (.cells (cellC k n s) 23)).alloc (.cells (cellC k2 n2 s2) 23)).alloc (.cells zeroC 23))
  rw [← hW]
  clear hW
  obtain ⟨a0, a1, a2⟩ := three_of HR.out.a
  obtain ⟨b0, b1, b2⟩ := three_of HR.out.b
  go_wp2_with fail
  refine (HC.out _).mono ?_
  rintro e w1 ⟨rfl, bb⟩
  have HR1 := Lib.hid (HR.out.after bb)
  clear bb a0 a1 a2 b0 b1 b2 HR
  go_wp2_with fail
  refine (refBool_any _ _).mono ?_
  rintro e w2 ⟨rfl, bb⟩
  have HR2 := Lib.hid (HR1.out.after bb)
  clear bb HR1
  go_wp2_with (refine wpList_store_row rfl 23 (.tmp 6) (.tmp 31) rfl (w.heap.size + 1 + 1) (cellC 1 (boolN (c == 0)) ⟨#[]⟩) rfl rfl 23 zeroC HR2.out.r.row HI rfl (cell_one3 _ _ _) ?_)
  obtain ⟨Z, hZ, HZ⟩ : ∃ Z, Z = w2.setRow (w.heap.size + 1 + 1) (cellC 1 (boolN (c == 0)) ⟨#[]⟩) ∧ Hid (Tw w Z (cellC k n s) (cellC k2 n2 s2) (cellC 1 (boolN (c == 0)) ⟨#[]⟩)) := ⟨_, rfl, Lib.hid (HR2.out.put _)⟩
  rw [← hZ]
  clear hZ
  obtain ⟨d0, d1, d2⟩ := three_of HZ.out.r
  refine bodyPost_ret (v := twoC 1 (boolN (c == 0)) ⟨#[]⟩ 0) ?_ rfl ?_
  · simp [results, Try.results10, go_sem, d0, d1, d2, twoC, cellC]
  · exact ⟨rfl, HZ.out.below⟩

set_option maxRecDepth 100000 in
set_option maxHeartbeats 1000000 in
theorem refTwo_33_61_ (k n : Int) (s : ByteArray) (k2 n2 : Int) (s2 : ByteArray) (hn : Fits n) (hn2 : Fits n2) (hs : s.size ≤ 300) (hs2 : s2.size ≤ 300) (w : World) :
    Calls Try.prog 10 #[.string ⟨#[33, 61]⟩, .agg (cellC k n s), .agg (cellC k2 n2 s2)] w fun e w' => e = .returned (twoF ⟨#[33, 61]⟩ (refCmpC k n s k2 n2 s2) (numL k n s) (numL k2 n2 s2)) ∧ Below w.heap.size w w' := by
  have HI := info_cell
  have HC := Lib.hid (fun w => refCompare_cell k n s k2 n2 s2 hn hn2 hs hs2 w)
  have HN1 := Lib.hid (fun w => refNum_any k n s hs w)
  have HN2 := Lib.hid (fun w => refNum_any k2 n2 s2 hs2 w)
  obtain ⟨c, hc⟩ : ∃ c, c = refCmpC k n s k2 n2 s2 := ⟨_, rfl⟩
  rw [← hc] at HC ⊢
  obtain ⟨x, p2, hp⟩ : ∃ x p2, numL k n s = (x, p2) := ⟨_, _, rfl⟩
  obtain ⟨y, q2, hq⟩ : ∃ y q2, numL k2 n2 s2 = (y, q2) := ⟨_, _, rfl⟩
  have hx : Fits x := by have := numL_fits k n s hn; rw [hp] at this; exact this
  have hy : Fits y := by have := numL_fits k2 n2 s2 hn2; rw [hq] at this; exact this
  rw [hp] at HN1 ⊢
  rw [hq] at HN2 ⊢
  clear hc hp hq hn hn2 hs hs2
  obtain ⟨W, hW, HR⟩ := tw_new w (cellC k n s) (cellC k2 n2 s2) zeroC
  rw [twoF_33_61_]
  clear hx hy
  go_enter Try.func10, Try.ntmps10
  go_upto_region 1 with (fail)
  change Code.wp _ _ _ _ (((w.alloc (.cells (cellC k n s) 23)).alloc (.cells (cellC k2 n2 s2) 23)).alloc (.cells zeroC 23))
  rw [← hW]
  clear hW
  obtain ⟨a0, a1, a2⟩ := three_of HR.out.a
  obtain ⟨b0, b1, b2⟩ := three_of HR.out.b
  go_wp2_with fail
  refine (HC.out _).mono ?_
  rintro e w1 ⟨rfl, bb⟩
  have HR1 := Lib.hid (HR.out.after bb)
  clear bb a0 a1 a2 b0 b1 b2 HR
  go_wp2_with fail
  refine (refBool_any _ _).mono ?_
  rintro e w2 ⟨rfl, bb⟩
  have HR2 := Lib.hid (HR1.out.after bb)
  clear bb HR1
  go_wp2_with (refine wpList_store_row rfl 23 (.tmp 6) (.tmp 36) rfl (w.heap.size + 1 + 1) (cellC 1 (boolN (c != 0)) ⟨#[]⟩) rfl rfl 23 zeroC HR2.out.r.row HI rfl (cell_one3 _ _ _) ?_)
  obtain ⟨Z, hZ, HZ⟩ : ∃ Z, Z = w2.setRow (w.heap.size + 1 + 1) (cellC 1 (boolN (c != 0)) ⟨#[]⟩) ∧ Hid (Tw w Z (cellC k n s) (cellC k2 n2 s2) (cellC 1 (boolN (c != 0)) ⟨#[]⟩)) := ⟨_, rfl, Lib.hid (HR2.out.put _)⟩
  rw [← hZ]
  clear hZ
  obtain ⟨d0, d1, d2⟩ := three_of HZ.out.r
  refine bodyPost_ret (v := twoC 1 (boolN (c != 0)) ⟨#[]⟩ 0) ?_ rfl ?_
  · simp [results, Try.results10, go_sem, d0, d1, d2, twoC, cellC]
  · exact ⟨rfl, HZ.out.below⟩

set_option maxRecDepth 100000 in
set_option maxHeartbeats 1000000 in
theorem refTwo_62_ (k n : Int) (s : ByteArray) (k2 n2 : Int) (s2 : ByteArray) (hn : Fits n) (hn2 : Fits n2) (hs : s.size ≤ 300) (hs2 : s2.size ≤ 300) (w : World) :
    Calls Try.prog 10 #[.string ⟨#[62]⟩, .agg (cellC k n s), .agg (cellC k2 n2 s2)] w fun e w' => e = .returned (twoF ⟨#[62]⟩ (refCmpC k n s k2 n2 s2) (numL k n s) (numL k2 n2 s2)) ∧ Below w.heap.size w w' := by
  have HI := info_cell
  have HC := Lib.hid (fun w => refCompare_cell k n s k2 n2 s2 hn hn2 hs hs2 w)
  have HN1 := Lib.hid (fun w => refNum_any k n s hs w)
  have HN2 := Lib.hid (fun w => refNum_any k2 n2 s2 hs2 w)
  obtain ⟨c, hc⟩ : ∃ c, c = refCmpC k n s k2 n2 s2 := ⟨_, rfl⟩
  rw [← hc] at HC ⊢
  obtain ⟨x, p2, hp⟩ : ∃ x p2, numL k n s = (x, p2) := ⟨_, _, rfl⟩
  obtain ⟨y, q2, hq⟩ : ∃ y q2, numL k2 n2 s2 = (y, q2) := ⟨_, _, rfl⟩
  have hx : Fits x := by have := numL_fits k n s hn; rw [hp] at this; exact this
  have hy : Fits y := by have := numL_fits k2 n2 s2 hn2; rw [hq] at this; exact this
  rw [hp] at HN1 ⊢
  rw [hq] at HN2 ⊢
  clear hc hp hq hn hn2 hs hs2
  obtain ⟨W, hW, HR⟩ := tw_new w (cellC k n s) (cellC k2 n2 s2) zeroC
  rw [twoF_62_]
  clear hx hy
  go_enter Try.func10, Try.ntmps10
  go_upto_region 1 with (fail)
  change Code.wp _ _ _ _ (((w.alloc (.cells (cellC k n s) 23)).alloc (.cells (cellC k2 n2 s2) 23)).alloc (.cells zeroC 23))
  rw [← hW]
  clear hW
  obtain ⟨a0, a1, a2⟩ := three_of HR.out.a
  obtain ⟨b0, b1, b2⟩ := three_of HR.out.b
  go_wp2_with fail
  refine (HC.out _).mono ?_
  rintro e w1 ⟨rfl, bb⟩
  have HR1 := Lib.hid (HR.out.after bb)
  clear bb a0 a1 a2 b0 b1 b2 HR
  go_wp2_with fail
  refine (refBool_any _ _).mono ?_
  rintro e w2 ⟨rfl, bb⟩
  have HR2 := Lib.hid (HR1.out.after bb)
  clear bb HR1
  go_wp2_with (refine wpList_store_row rfl 23 (.tmp 6) (.tmp 41) rfl (w.heap.size + 1 + 1) (cellC 1 (boolN (c == 1)) ⟨#[]⟩) rfl rfl 23 zeroC HR2.out.r.row HI rfl (cell_one3 _ _ _) ?_)
  obtain ⟨Z, hZ, HZ⟩ : ∃ Z, Z = w2.setRow (w.heap.size + 1 + 1) (cellC 1 (boolN (c == 1)) ⟨#[]⟩) ∧ Hid (Tw w Z (cellC k n s) (cellC k2 n2 s2) (cellC 1 (boolN (c == 1)) ⟨#[]⟩)) := ⟨_, rfl, Lib.hid (HR2.out.put _)⟩
  rw [← hZ]
  clear hZ
  obtain ⟨d0, d1, d2⟩ := three_of HZ.out.r
  refine bodyPost_ret (v := twoC 1 (boolN (c == 1)) ⟨#[]⟩ 0) ?_ rfl ?_
  · simp [results, Try.results10, go_sem, d0, d1, d2, twoC, cellC]
  · exact ⟨rfl, HZ.out.below⟩

set_option maxRecDepth 100000 in
set_option maxHeartbeats 1000000 in
theorem refTwo_62_61_ (k n : Int) (s : ByteArray) (k2 n2 : Int) (s2 : ByteArray) (hn : Fits n) (hn2 : Fits n2) (hs : s.size ≤ 300) (hs2 : s2.size ≤ 300) (w : World) :
    Calls Try.prog 10 #[.string ⟨#[62, 61]⟩, .agg (cellC k n s), .agg (cellC k2 n2 s2)] w fun e w' => e = .returned (twoF ⟨#[62, 61]⟩ (refCmpC k n s k2 n2 s2) (numL k n s) (numL k2 n2 s2)) ∧ Below w.heap.size w w' := by
  have HI := info_cell
  have HC := Lib.hid (fun w => refCompare_cell k n s k2 n2 s2 hn hn2 hs hs2 w)
  have HN1 := Lib.hid (fun w => refNum_any k n s hs w)
  have HN2 := Lib.hid (fun w => refNum_any k2 n2 s2 hs2 w)
  obtain ⟨c, hc⟩ : ∃ c, c = refCmpC k n s k2 n2 s2 := ⟨_, rfl⟩
  rw [← hc] at HC ⊢
  obtain ⟨x, p2, hp⟩ : ∃ x p2, numL k n s = (x, p2) := ⟨_, _, rfl⟩
  obtain ⟨y, q2, hq⟩ : ∃ y q2, numL k2 n2 s2 = (y, q2) := ⟨_, _, rfl⟩
  have hx : Fits x := by have := numL_fits k n s hn; rw [hp] at this; exact this
  have hy : Fits y := by have := numL_fits k2 n2 s2 hn2; rw [hq] at this; exact this
  rw [hp] at HN1 ⊢
  rw [hq] at HN2 ⊢
  clear hc hp hq hn hn2 hs hs2
  obtain ⟨W, hW, HR⟩ := tw_new w (cellC k n s) (cellC k2 n2 s2) zeroC
  rw [twoF_62_61_]
  clear hx hy
  go_enter Try.func10, Try.ntmps10
  go_upto_region 1 with (fail)
  change Code.wp _ _ _ _ (((w.alloc (.cells (cellC k n s) 23)).alloc (.cells (cellC k2 n2 s2) 23)).alloc (.cells zeroC 23))
  rw [← hW]
  clear hW
  obtain ⟨a0, a1, a2⟩ := three_of HR.out.a
  obtain ⟨b0, b1, b2⟩ := three_of HR.out.b
  go_wp2_with fail
  refine (HC.out _).mono ?_
  rintro e w1 ⟨rfl, bb⟩
  have HR1 := Lib.hid (HR.out.after bb)
  clear bb a0 a1 a2 b0 b1 b2 HR
  go_wp2_with fail
  refine (refBool_any _ _).mono ?_
  rintro e w2 ⟨rfl, bb⟩
  have HR2 := Lib.hid (HR1.out.after bb)
  clear bb HR1
  go_wp2_with (refine wpList_store_row rfl 23 (.tmp 6) (.tmp 46) rfl (w.heap.size + 1 + 1) (cellC 1 (boolN (c != -1)) ⟨#[]⟩) rfl rfl 23 zeroC HR2.out.r.row HI rfl (cell_one3 _ _ _) ?_)
  obtain ⟨Z, hZ, HZ⟩ : ∃ Z, Z = w2.setRow (w.heap.size + 1 + 1) (cellC 1 (boolN (c != -1)) ⟨#[]⟩) ∧ Hid (Tw w Z (cellC k n s) (cellC k2 n2 s2) (cellC 1 (boolN (c != -1)) ⟨#[]⟩)) := ⟨_, rfl, Lib.hid (HR2.out.put _)⟩
  rw [← hZ]
  clear hZ
  obtain ⟨d0, d1, d2⟩ := three_of HZ.out.r
  refine bodyPost_ret (v := twoC 1 (boolN (c != -1)) ⟨#[]⟩ 0) ?_ rfl ?_
  · simp [results, Try.results10, go_sem, d0, d1, d2, twoC, cellC]
  · exact ⟨rfl, HZ.out.below⟩
theorem ne_bytes {g : ByteArray} {l : List UInt8} (h : g ≠ ⟨l.toArray⟩) : (g.toList == l) = false := by
  rw [beq_eq_false_iff_ne]
  intro e
  rw [Lib.toList_data] at e
  exact h (by cases g with | mk d => exact congrArg ByteArray.mk (by rw [← e]))
theorem numA_form (p : Int × Int) : ∃ k n s e, numA p = twoC k n s e := by
  unfold numA
  split
  · exact ⟨_, _, _, _, rfl⟩
  · exact ⟨_, _, _, _, rfl⟩

set_option maxRecDepth 100000 in
set_option maxHeartbeats 1000000 in
theorem refTwo_43 (k n : Int) (s : ByteArray) (k2 n2 : Int) (s2 : ByteArray) (hn : Fits n) (hn2 : Fits n2) (hs : s.size ≤ 300) (hs2 : s2.size ≤ 300) (w : World) :
    Calls Try.prog 10 #[.string ⟨#[43]⟩, .agg (cellC k n s), .agg (cellC k2 n2 s2)] w fun e w' => e = .returned (twoF ⟨#[43]⟩ (refCmpC k n s k2 n2 s2) (numL k n s) (numL k2 n2 s2)) ∧ Below w.heap.size w w' := by
  have HI := info_cell
  have HC := Lib.hid (fun w => refCompare_cell k n s k2 n2 s2 hn hn2 hs hs2 w)
  have HN1 := Lib.hid (fun w => refNum_any k n s hs w)
  have HN2 := Lib.hid (fun w => refNum_any k2 n2 s2 hs2 w)
  obtain ⟨c, hc⟩ : ∃ c, c = refCmpC k n s k2 n2 s2 := ⟨_, rfl⟩
  rw [← hc] at HC ⊢
  obtain ⟨x, p2, hp⟩ : ∃ x p2, numL k n s = (x, p2) := ⟨_, _, rfl⟩
  obtain ⟨y, q2, hq⟩ : ∃ y q2, numL k2 n2 s2 = (y, q2) := ⟨_, _, rfl⟩
  have hx : Fits x := by have := numL_fits k n s hn; rw [hp] at this; exact this
  have hy : Fits y := by have := numL_fits k2 n2 s2 hn2; rw [hq] at this; exact this
  rw [hp] at HN1 ⊢
  rw [hq] at HN2 ⊢
  clear hc hp hq hn hn2 hs hs2
  obtain ⟨W, hW, HR⟩ := tw_new w (cellC k n s) (cellC k2 n2 s2) zeroC
  rw [twoF_43]
  simp only
  obtain ⟨P, hP⟩ : ∃ P, P = T1.back (x + y) := ⟨_, rfl⟩
  have HOP : Hid (∀ w, Calls Try.prog 34 #[.int .i64 x, .int .i64 y] w fun e w' => e = .returned (.tuple #[.int .i64 P.1, .int .i64 P.2]) ∧ Below w.heap.size w w') := Lib.hid (fun w => by rw [hP]; exact T1.refAdd_any x y w hx hy)
  rw [← hP]
  clear hP hx hy
  obtain ⟨k3, n3, s3, e3, hA⟩ := numA_form P
  have HNM := Lib.hid (fun w => refnum_any P.1 P.2 w)
  rw [show (P.1, P.2) = P from rfl, hA] at HNM
  rw [hA]
  clear hA
  obtain ⟨res, hres⟩ : ∃ res, res = (if p2 ≠ 0 then errA p2 else if q2 ≠ 0 then errA q2 else twoC k3 n3 s3 e3) := ⟨_, rfl⟩
  rw [← hres]
  have HRS := Lib.hid hres
  clear hres
  go_enter Try.func10, Try.ntmps10
  go_upto_region 1 with (fail)
  change Code.wp _ _ _ _ (((w.alloc (.cells (cellC k n s) 23)).alloc (.cells (cellC k2 n2 s2) 23)).alloc (.cells zeroC 23))
  rw [← hW]
  clear hW
  obtain ⟨a0, a1, a2⟩ := three_of HR.out.a
  obtain ⟨b0, b1, b2⟩ := three_of HR.out.b
  go_wp2_with fail
  refine (HC.out _).mono ?_
  rintro e w1 ⟨rfl, bb⟩
  have HR1 := Lib.hid (HR.out.after bb)
  clear bb a0 a1 a2 b0 b1 b2 HR
  obtain ⟨a0, a1, a2⟩ := three_of HR1.out.a
  obtain ⟨b0, b1, b2⟩ := three_of HR1.out.b
  go_wp2_with fail
  refine (HN1.out _).mono ?_
  rintro e w2 ⟨rfl, bb⟩
  have HR2 := Lib.hid (HR1.out.after bb)
  unfold two
  clear bb a0 a1 a2 b0 b1 b2 HR1
  by_cases h1 : p2 = 0
  case neg =>
    have H1 := Lib.hid h1
    have hne : (p2 != 0) = true := by simpa using h1
    clear h1
    go_wp2_with (refine wpList_store_row rfl 23 (.tmp 6) (.tmp 73) rfl (w.heap.size + 1 + 1) (cellC 0 0 ⟨#[]⟩) rfl rfl 23 zeroC HR2.out.r.row HI rfl (cell_one3 _ _ _) ?_)
    obtain ⟨Z, hZ, HZ⟩ : ∃ Z, Z = w2.setRow (w.heap.size + 1 + 1) (cellC 0 0 ⟨#[]⟩) ∧ Hid (Tw w Z (cellC k n s) (cellC k2 n2 s2) (cellC 0 0 ⟨#[]⟩)) := ⟨_, rfl, Lib.hid (HR2.out.put _)⟩
    rw [← hZ]
    clear hZ
    obtain ⟨d0, d1, d2⟩ := three_of HZ.out.r
    refine bodyPost_ret (v := twoC 0 0 ⟨#[]⟩ p2) ?_ rfl ?_
    · simp [results, Try.results10, go_sem, d0, d1, d2, twoC, cellC]
    · exact ⟨by rw [HRS.out, if_pos H1.out]; rfl, HZ.out.below⟩
  subst h1
  obtain ⟨a0, a1, a2⟩ := three_of HR2.out.a
  obtain ⟨b0, b1, b2⟩ := three_of HR2.out.b
  go_wp2_with fail
  refine (HN2.out _).mono ?_
  rintro e w3 ⟨rfl, bb⟩
  have HR3 := Lib.hid (HR2.out.after bb)
  unfold two
  clear bb a0 a1 a2 b0 b1 b2 HR2
  by_cases h1 : q2 = 0
  case neg =>
    have H1 := Lib.hid h1
    have hne : (q2 != 0) = true := by simpa using h1
    clear h1
    go_wp2_with (refine wpList_store_row rfl 23 (.tmp 6) (.tmp 82) rfl (w.heap.size + 1 + 1) (cellC 0 0 ⟨#[]⟩) rfl rfl 23 zeroC HR3.out.r.row HI rfl (cell_one3 _ _ _) ?_)
    obtain ⟨Z, hZ, HZ⟩ : ∃ Z, Z = w3.setRow (w.heap.size + 1 + 1) (cellC 0 0 ⟨#[]⟩) ∧ Hid (Tw w Z (cellC k n s) (cellC k2 n2 s2) (cellC 0 0 ⟨#[]⟩)) := ⟨_, rfl, Lib.hid (HR3.out.put _)⟩
    rw [← hZ]
    clear hZ
    obtain ⟨d0, d1, d2⟩ := three_of HZ.out.r
    refine bodyPost_ret (v := twoC 0 0 ⟨#[]⟩ q2) ?_ rfl ?_
    · simp [results, Try.results10, go_sem, d0, d1, d2, twoC, cellC]
    · exact ⟨by rw [HRS.out, if_neg (by simp), if_pos H1.out]; rfl, HZ.out.below⟩
  subst h1
  go_wp2_with fail
  refine (HOP.out _).mono ?_
  rintro e w4 ⟨rfl, bb⟩
  have HR4 := Lib.hid (HR3.out.after bb)
  clear bb HR3
  go_wp2_with fail
  refine (HNM.out _).mono ?_
  rintro e w5 ⟨rfl, bb⟩
  have HR5 := Lib.hid (HR4.out.after bb)
  unfold twoC
  clear bb HR4
  go_wp2_with (refine wpList_store_row rfl 23 (.tmp 6) (.tmp 92) rfl (w.heap.size + 1 + 1) (cellC k3 n3 s3) rfl rfl 23 zeroC HR5.out.r.row HI rfl (cell_one3 _ _ _) ?_)
  obtain ⟨Z, hZ, HZ⟩ : ∃ Z, Z = w5.setRow (w.heap.size + 1 + 1) (cellC k3 n3 s3) ∧ Hid (Tw w Z (cellC k n s) (cellC k2 n2 s2) (cellC k3 n3 s3)) := ⟨_, rfl, Lib.hid (HR5.out.put _)⟩
  rw [← hZ]
  clear hZ
  obtain ⟨d0, d1, d2⟩ := three_of HZ.out.r
  refine bodyPost_ret (v := twoC k3 n3 s3 e3) ?_ rfl ?_
  · simp [results, Try.results10, go_sem, d0, d1, d2, twoC, cellC]
  · exact ⟨by rw [HRS.out, if_neg (by simp), if_neg (by simp)], HZ.out.below⟩

set_option maxRecDepth 100000 in
set_option maxHeartbeats 1000000 in
theorem refTwo_45 (k n : Int) (s : ByteArray) (k2 n2 : Int) (s2 : ByteArray) (hn : Fits n) (hn2 : Fits n2) (hs : s.size ≤ 300) (hs2 : s2.size ≤ 300) (w : World) :
    Calls Try.prog 10 #[.string ⟨#[45]⟩, .agg (cellC k n s), .agg (cellC k2 n2 s2)] w fun e w' => e = .returned (twoF ⟨#[45]⟩ (refCmpC k n s k2 n2 s2) (numL k n s) (numL k2 n2 s2)) ∧ Below w.heap.size w w' := by
  have HI := info_cell
  have HC := Lib.hid (fun w => refCompare_cell k n s k2 n2 s2 hn hn2 hs hs2 w)
  have HN1 := Lib.hid (fun w => refNum_any k n s hs w)
  have HN2 := Lib.hid (fun w => refNum_any k2 n2 s2 hs2 w)
  obtain ⟨c, hc⟩ : ∃ c, c = refCmpC k n s k2 n2 s2 := ⟨_, rfl⟩
  rw [← hc] at HC ⊢
  obtain ⟨x, p2, hp⟩ : ∃ x p2, numL k n s = (x, p2) := ⟨_, _, rfl⟩
  obtain ⟨y, q2, hq⟩ : ∃ y q2, numL k2 n2 s2 = (y, q2) := ⟨_, _, rfl⟩
  have hx : Fits x := by have := numL_fits k n s hn; rw [hp] at this; exact this
  have hy : Fits y := by have := numL_fits k2 n2 s2 hn2; rw [hq] at this; exact this
  rw [hp] at HN1 ⊢
  rw [hq] at HN2 ⊢
  clear hc hp hq hn hn2 hs hs2
  obtain ⟨W, hW, HR⟩ := tw_new w (cellC k n s) (cellC k2 n2 s2) zeroC
  rw [twoF_45]
  simp only
  obtain ⟨P, hP⟩ : ∃ P, P = T1.back (x - y) := ⟨_, rfl⟩
  have HOP : Hid (∀ w, Calls Try.prog 35 #[.int .i64 x, .int .i64 y] w fun e w' => e = .returned (.tuple #[.int .i64 P.1, .int .i64 P.2]) ∧ Below w.heap.size w w') := Lib.hid (fun w => by rw [hP]; exact T1.refSub_any x y w hx hy)
  rw [← hP]
  clear hP hx hy
  obtain ⟨k3, n3, s3, e3, hA⟩ := numA_form P
  have HNM := Lib.hid (fun w => refnum_any P.1 P.2 w)
  rw [show (P.1, P.2) = P from rfl, hA] at HNM
  rw [hA]
  clear hA
  obtain ⟨res, hres⟩ : ∃ res, res = (if p2 ≠ 0 then errA p2 else if q2 ≠ 0 then errA q2 else twoC k3 n3 s3 e3) := ⟨_, rfl⟩
  rw [← hres]
  have HRS := Lib.hid hres
  clear hres
  go_enter Try.func10, Try.ntmps10
  go_upto_region 1 with (fail)
  change Code.wp _ _ _ _ (((w.alloc (.cells (cellC k n s) 23)).alloc (.cells (cellC k2 n2 s2) 23)).alloc (.cells zeroC 23))
  rw [← hW]
  clear hW
  obtain ⟨a0, a1, a2⟩ := three_of HR.out.a
  obtain ⟨b0, b1, b2⟩ := three_of HR.out.b
  go_wp2_with fail
  refine (HC.out _).mono ?_
  rintro e w1 ⟨rfl, bb⟩
  have HR1 := Lib.hid (HR.out.after bb)
  clear bb a0 a1 a2 b0 b1 b2 HR
  obtain ⟨a0, a1, a2⟩ := three_of HR1.out.a
  obtain ⟨b0, b1, b2⟩ := three_of HR1.out.b
  go_wp2_with fail
  refine (HN1.out _).mono ?_
  rintro e w2 ⟨rfl, bb⟩
  have HR2 := Lib.hid (HR1.out.after bb)
  unfold two
  clear bb a0 a1 a2 b0 b1 b2 HR1
  by_cases h1 : p2 = 0
  case neg =>
    have H1 := Lib.hid h1
    have hne : (p2 != 0) = true := by simpa using h1
    clear h1
    go_wp2_with (refine wpList_store_row rfl 23 (.tmp 6) (.tmp 73) rfl (w.heap.size + 1 + 1) (cellC 0 0 ⟨#[]⟩) rfl rfl 23 zeroC HR2.out.r.row HI rfl (cell_one3 _ _ _) ?_)
    obtain ⟨Z, hZ, HZ⟩ : ∃ Z, Z = w2.setRow (w.heap.size + 1 + 1) (cellC 0 0 ⟨#[]⟩) ∧ Hid (Tw w Z (cellC k n s) (cellC k2 n2 s2) (cellC 0 0 ⟨#[]⟩)) := ⟨_, rfl, Lib.hid (HR2.out.put _)⟩
    rw [← hZ]
    clear hZ
    obtain ⟨d0, d1, d2⟩ := three_of HZ.out.r
    refine bodyPost_ret (v := twoC 0 0 ⟨#[]⟩ p2) ?_ rfl ?_
    · simp [results, Try.results10, go_sem, d0, d1, d2, twoC, cellC]
    · exact ⟨by rw [HRS.out, if_pos H1.out]; rfl, HZ.out.below⟩
  subst h1
  obtain ⟨a0, a1, a2⟩ := three_of HR2.out.a
  obtain ⟨b0, b1, b2⟩ := three_of HR2.out.b
  go_wp2_with fail
  refine (HN2.out _).mono ?_
  rintro e w3 ⟨rfl, bb⟩
  have HR3 := Lib.hid (HR2.out.after bb)
  unfold two
  clear bb a0 a1 a2 b0 b1 b2 HR2
  by_cases h1 : q2 = 0
  case neg =>
    have H1 := Lib.hid h1
    have hne : (q2 != 0) = true := by simpa using h1
    clear h1
    go_wp2_with (refine wpList_store_row rfl 23 (.tmp 6) (.tmp 82) rfl (w.heap.size + 1 + 1) (cellC 0 0 ⟨#[]⟩) rfl rfl 23 zeroC HR3.out.r.row HI rfl (cell_one3 _ _ _) ?_)
    obtain ⟨Z, hZ, HZ⟩ : ∃ Z, Z = w3.setRow (w.heap.size + 1 + 1) (cellC 0 0 ⟨#[]⟩) ∧ Hid (Tw w Z (cellC k n s) (cellC k2 n2 s2) (cellC 0 0 ⟨#[]⟩)) := ⟨_, rfl, Lib.hid (HR3.out.put _)⟩
    rw [← hZ]
    clear hZ
    obtain ⟨d0, d1, d2⟩ := three_of HZ.out.r
    refine bodyPost_ret (v := twoC 0 0 ⟨#[]⟩ q2) ?_ rfl ?_
    · simp [results, Try.results10, go_sem, d0, d1, d2, twoC, cellC]
    · exact ⟨by rw [HRS.out, if_neg (by simp), if_pos H1.out]; rfl, HZ.out.below⟩
  subst h1
  go_wp2_with fail
  refine (HOP.out _).mono ?_
  rintro e w4 ⟨rfl, bb⟩
  have HR4 := Lib.hid (HR3.out.after bb)
  clear bb HR3
  go_wp2_with fail
  refine (HNM.out _).mono ?_
  rintro e w5 ⟨rfl, bb⟩
  have HR5 := Lib.hid (HR4.out.after bb)
  unfold twoC
  clear bb HR4
  go_wp2_with (refine wpList_store_row rfl 23 (.tmp 6) (.tmp 102) rfl (w.heap.size + 1 + 1) (cellC k3 n3 s3) rfl rfl 23 zeroC HR5.out.r.row HI rfl (cell_one3 _ _ _) ?_)
  obtain ⟨Z, hZ, HZ⟩ : ∃ Z, Z = w5.setRow (w.heap.size + 1 + 1) (cellC k3 n3 s3) ∧ Hid (Tw w Z (cellC k n s) (cellC k2 n2 s2) (cellC k3 n3 s3)) := ⟨_, rfl, Lib.hid (HR5.out.put _)⟩
  rw [← hZ]
  clear hZ
  obtain ⟨d0, d1, d2⟩ := three_of HZ.out.r
  refine bodyPost_ret (v := twoC k3 n3 s3 e3) ?_ rfl ?_
  · simp [results, Try.results10, go_sem, d0, d1, d2, twoC, cellC]
  · exact ⟨by rw [HRS.out, if_neg (by simp), if_neg (by simp)], HZ.out.below⟩

set_option maxRecDepth 100000 in
set_option maxHeartbeats 1000000 in
theorem refTwo_42 (k n : Int) (s : ByteArray) (k2 n2 : Int) (s2 : ByteArray) (hn : Fits n) (hn2 : Fits n2) (hs : s.size ≤ 300) (hs2 : s2.size ≤ 300) (w : World) :
    Calls Try.prog 10 #[.string ⟨#[42]⟩, .agg (cellC k n s), .agg (cellC k2 n2 s2)] w fun e w' => e = .returned (twoF ⟨#[42]⟩ (refCmpC k n s k2 n2 s2) (numL k n s) (numL k2 n2 s2)) ∧ Below w.heap.size w w' := by
  have HI := info_cell
  have HC := Lib.hid (fun w => refCompare_cell k n s k2 n2 s2 hn hn2 hs hs2 w)
  have HN1 := Lib.hid (fun w => refNum_any k n s hs w)
  have HN2 := Lib.hid (fun w => refNum_any k2 n2 s2 hs2 w)
  obtain ⟨c, hc⟩ : ∃ c, c = refCmpC k n s k2 n2 s2 := ⟨_, rfl⟩
  rw [← hc] at HC ⊢
  obtain ⟨x, p2, hp⟩ : ∃ x p2, numL k n s = (x, p2) := ⟨_, _, rfl⟩
  obtain ⟨y, q2, hq⟩ : ∃ y q2, numL k2 n2 s2 = (y, q2) := ⟨_, _, rfl⟩
  have hx : Fits x := by have := numL_fits k n s hn; rw [hp] at this; exact this
  have hy : Fits y := by have := numL_fits k2 n2 s2 hn2; rw [hq] at this; exact this
  rw [hp] at HN1 ⊢
  rw [hq] at HN2 ⊢
  clear hc hp hq hn hn2 hs hs2
  obtain ⟨W, hW, HR⟩ := tw_new w (cellC k n s) (cellC k2 n2 s2) zeroC
  rw [twoF_42]
  simp only
  obtain ⟨P, hP⟩ : ∃ P, P = T1.mulAns x y := ⟨_, rfl⟩
  have HOP : Hid (∀ w, Calls Try.prog 36 #[.int .i64 x, .int .i64 y] w fun e w' => e = .returned (.tuple #[.int .i64 P.1, .int .i64 P.2]) ∧ Below w.heap.size w w') := Lib.hid (fun w => by rw [hP]; exact T1.refMul_ans x y w hx hy)
  rw [← hP]
  clear hP hx hy
  obtain ⟨k3, n3, s3, e3, hA⟩ := numA_form P
  have HNM := Lib.hid (fun w => refnum_any P.1 P.2 w)
  rw [show (P.1, P.2) = P from rfl, hA] at HNM
  rw [hA]
  clear hA
  obtain ⟨res, hres⟩ : ∃ res, res = (if p2 ≠ 0 then errA p2 else if q2 ≠ 0 then errA q2 else twoC k3 n3 s3 e3) := ⟨_, rfl⟩
  rw [← hres]
  have HRS := Lib.hid hres
  clear hres
  go_enter Try.func10, Try.ntmps10
  go_upto_region 1 with (fail)
  change Code.wp _ _ _ _ (((w.alloc (.cells (cellC k n s) 23)).alloc (.cells (cellC k2 n2 s2) 23)).alloc (.cells zeroC 23))
  rw [← hW]
  clear hW
  obtain ⟨a0, a1, a2⟩ := three_of HR.out.a
  obtain ⟨b0, b1, b2⟩ := three_of HR.out.b
  go_wp2_with fail
  refine (HC.out _).mono ?_
  rintro e w1 ⟨rfl, bb⟩
  have HR1 := Lib.hid (HR.out.after bb)
  clear bb a0 a1 a2 b0 b1 b2 HR
  obtain ⟨a0, a1, a2⟩ := three_of HR1.out.a
  obtain ⟨b0, b1, b2⟩ := three_of HR1.out.b
  go_wp2_with fail
  refine (HN1.out _).mono ?_
  rintro e w2 ⟨rfl, bb⟩
  have HR2 := Lib.hid (HR1.out.after bb)
  unfold two
  clear bb a0 a1 a2 b0 b1 b2 HR1
  by_cases h1 : p2 = 0
  case neg =>
    have H1 := Lib.hid h1
    have hne : (p2 != 0) = true := by simpa using h1
    clear h1
    go_wp2_with (refine wpList_store_row rfl 23 (.tmp 6) (.tmp 73) rfl (w.heap.size + 1 + 1) (cellC 0 0 ⟨#[]⟩) rfl rfl 23 zeroC HR2.out.r.row HI rfl (cell_one3 _ _ _) ?_)
    obtain ⟨Z, hZ, HZ⟩ : ∃ Z, Z = w2.setRow (w.heap.size + 1 + 1) (cellC 0 0 ⟨#[]⟩) ∧ Hid (Tw w Z (cellC k n s) (cellC k2 n2 s2) (cellC 0 0 ⟨#[]⟩)) := ⟨_, rfl, Lib.hid (HR2.out.put _)⟩
    rw [← hZ]
    clear hZ
    obtain ⟨d0, d1, d2⟩ := three_of HZ.out.r
    refine bodyPost_ret (v := twoC 0 0 ⟨#[]⟩ p2) ?_ rfl ?_
    · simp [results, Try.results10, go_sem, d0, d1, d2, twoC, cellC]
    · exact ⟨by rw [HRS.out, if_pos H1.out]; rfl, HZ.out.below⟩
  subst h1
  obtain ⟨a0, a1, a2⟩ := three_of HR2.out.a
  obtain ⟨b0, b1, b2⟩ := three_of HR2.out.b
  go_wp2_with fail
  refine (HN2.out _).mono ?_
  rintro e w3 ⟨rfl, bb⟩
  have HR3 := Lib.hid (HR2.out.after bb)
  unfold two
  clear bb a0 a1 a2 b0 b1 b2 HR2
  by_cases h1 : q2 = 0
  case neg =>
    have H1 := Lib.hid h1
    have hne : (q2 != 0) = true := by simpa using h1
    clear h1
    go_wp2_with (refine wpList_store_row rfl 23 (.tmp 6) (.tmp 82) rfl (w.heap.size + 1 + 1) (cellC 0 0 ⟨#[]⟩) rfl rfl 23 zeroC HR3.out.r.row HI rfl (cell_one3 _ _ _) ?_)
    obtain ⟨Z, hZ, HZ⟩ : ∃ Z, Z = w3.setRow (w.heap.size + 1 + 1) (cellC 0 0 ⟨#[]⟩) ∧ Hid (Tw w Z (cellC k n s) (cellC k2 n2 s2) (cellC 0 0 ⟨#[]⟩)) := ⟨_, rfl, Lib.hid (HR3.out.put _)⟩
    rw [← hZ]
    clear hZ
    obtain ⟨d0, d1, d2⟩ := three_of HZ.out.r
    refine bodyPost_ret (v := twoC 0 0 ⟨#[]⟩ q2) ?_ rfl ?_
    · simp [results, Try.results10, go_sem, d0, d1, d2, twoC, cellC]
    · exact ⟨by rw [HRS.out, if_neg (by simp), if_pos H1.out]; rfl, HZ.out.below⟩
  subst h1
  go_wp2_with fail
  refine (HOP.out _).mono ?_
  rintro e w4 ⟨rfl, bb⟩
  have HR4 := Lib.hid (HR3.out.after bb)
  clear bb HR3
  go_wp2_with fail
  refine (HNM.out _).mono ?_
  rintro e w5 ⟨rfl, bb⟩
  have HR5 := Lib.hid (HR4.out.after bb)
  unfold twoC
  clear bb HR4
  go_wp2_with (refine wpList_store_row rfl 23 (.tmp 6) (.tmp 112) rfl (w.heap.size + 1 + 1) (cellC k3 n3 s3) rfl rfl 23 zeroC HR5.out.r.row HI rfl (cell_one3 _ _ _) ?_)
  obtain ⟨Z, hZ, HZ⟩ : ∃ Z, Z = w5.setRow (w.heap.size + 1 + 1) (cellC k3 n3 s3) ∧ Hid (Tw w Z (cellC k n s) (cellC k2 n2 s2) (cellC k3 n3 s3)) := ⟨_, rfl, Lib.hid (HR5.out.put _)⟩
  rw [← hZ]
  clear hZ
  obtain ⟨d0, d1, d2⟩ := three_of HZ.out.r
  refine bodyPost_ret (v := twoC k3 n3 s3 e3) ?_ rfl ?_
  · simp [results, Try.results10, go_sem, d0, d1, d2, twoC, cellC]
  · exact ⟨by rw [HRS.out, if_neg (by simp), if_neg (by simp)], HZ.out.below⟩

set_option maxRecDepth 100000 in
set_option maxHeartbeats 1000000 in
theorem refTwo_47 (k n : Int) (s : ByteArray) (k2 n2 : Int) (s2 : ByteArray) (hn : Fits n) (hn2 : Fits n2) (hs : s.size ≤ 300) (hs2 : s2.size ≤ 300) (w : World) :
    Calls Try.prog 10 #[.string ⟨#[47]⟩, .agg (cellC k n s), .agg (cellC k2 n2 s2)] w fun e w' => e = .returned (twoF ⟨#[47]⟩ (refCmpC k n s k2 n2 s2) (numL k n s) (numL k2 n2 s2)) ∧ Below w.heap.size w w' := by
  have HI := info_cell
  have HC := Lib.hid (fun w => refCompare_cell k n s k2 n2 s2 hn hn2 hs hs2 w)
  have HN1 := Lib.hid (fun w => refNum_any k n s hs w)
  have HN2 := Lib.hid (fun w => refNum_any k2 n2 s2 hs2 w)
  obtain ⟨c, hc⟩ : ∃ c, c = refCmpC k n s k2 n2 s2 := ⟨_, rfl⟩
  rw [← hc] at HC ⊢
  obtain ⟨x, p2, hp⟩ : ∃ x p2, numL k n s = (x, p2) := ⟨_, _, rfl⟩
  obtain ⟨y, q2, hq⟩ : ∃ y q2, numL k2 n2 s2 = (y, q2) := ⟨_, _, rfl⟩
  have hx : Fits x := by have := numL_fits k n s hn; rw [hp] at this; exact this
  have hy : Fits y := by have := numL_fits k2 n2 s2 hn2; rw [hq] at this; exact this
  rw [hp] at HN1 ⊢
  rw [hq] at HN2 ⊢
  clear hc hp hq hn hn2 hs hs2
  obtain ⟨W, hW, HR⟩ := tw_new w (cellC k n s) (cellC k2 n2 s2) zeroC
  rw [twoF_47]
  simp only
  obtain ⟨P, hP⟩ : ∃ P, P = T1.divAns x y := ⟨_, rfl⟩
  have HOP : Hid (∀ w, Calls Try.prog 37 #[.int .i64 x, .int .i64 y] w fun e w' => e = .returned (.tuple #[.int .i64 P.1, .int .i64 P.2]) ∧ Below w.heap.size w w') := Lib.hid (fun w => by rw [hP]; exact T1.refDiv_any x y w hx hy)
  rw [← hP]
  clear hP hx hy
  obtain ⟨k3, n3, s3, e3, hA⟩ := numA_form P
  have HNM := Lib.hid (fun w => refnum_any P.1 P.2 w)
  rw [show (P.1, P.2) = P from rfl, hA] at HNM
  rw [hA]
  clear hA
  obtain ⟨res, hres⟩ : ∃ res, res = (if p2 ≠ 0 then errA p2 else if q2 ≠ 0 then errA q2 else twoC k3 n3 s3 e3) := ⟨_, rfl⟩
  rw [← hres]
  have HRS := Lib.hid hres
  clear hres
  go_enter Try.func10, Try.ntmps10
  go_upto_region 1 with (fail)
  change Code.wp _ _ _ _ (((w.alloc (.cells (cellC k n s) 23)).alloc (.cells (cellC k2 n2 s2) 23)).alloc (.cells zeroC 23))
  rw [← hW]
  clear hW
  obtain ⟨a0, a1, a2⟩ := three_of HR.out.a
  obtain ⟨b0, b1, b2⟩ := three_of HR.out.b
  go_wp2_with fail
  refine (HC.out _).mono ?_
  rintro e w1 ⟨rfl, bb⟩
  have HR1 := Lib.hid (HR.out.after bb)
  clear bb a0 a1 a2 b0 b1 b2 HR
  obtain ⟨a0, a1, a2⟩ := three_of HR1.out.a
  obtain ⟨b0, b1, b2⟩ := three_of HR1.out.b
  go_wp2_with fail
  refine (HN1.out _).mono ?_
  rintro e w2 ⟨rfl, bb⟩
  have HR2 := Lib.hid (HR1.out.after bb)
  unfold two
  clear bb a0 a1 a2 b0 b1 b2 HR1
  by_cases h1 : p2 = 0
  case neg =>
    have H1 := Lib.hid h1
    have hne : (p2 != 0) = true := by simpa using h1
    clear h1
    go_wp2_with (refine wpList_store_row rfl 23 (.tmp 6) (.tmp 73) rfl (w.heap.size + 1 + 1) (cellC 0 0 ⟨#[]⟩) rfl rfl 23 zeroC HR2.out.r.row HI rfl (cell_one3 _ _ _) ?_)
    obtain ⟨Z, hZ, HZ⟩ : ∃ Z, Z = w2.setRow (w.heap.size + 1 + 1) (cellC 0 0 ⟨#[]⟩) ∧ Hid (Tw w Z (cellC k n s) (cellC k2 n2 s2) (cellC 0 0 ⟨#[]⟩)) := ⟨_, rfl, Lib.hid (HR2.out.put _)⟩
    rw [← hZ]
    clear hZ
    obtain ⟨d0, d1, d2⟩ := three_of HZ.out.r
    refine bodyPost_ret (v := twoC 0 0 ⟨#[]⟩ p2) ?_ rfl ?_
    · simp [results, Try.results10, go_sem, d0, d1, d2, twoC, cellC]
    · exact ⟨by rw [HRS.out, if_pos H1.out]; rfl, HZ.out.below⟩
  subst h1
  obtain ⟨a0, a1, a2⟩ := three_of HR2.out.a
  obtain ⟨b0, b1, b2⟩ := three_of HR2.out.b
  go_wp2_with fail
  refine (HN2.out _).mono ?_
  rintro e w3 ⟨rfl, bb⟩
  have HR3 := Lib.hid (HR2.out.after bb)
  unfold two
  clear bb a0 a1 a2 b0 b1 b2 HR2
  by_cases h1 : q2 = 0
  case neg =>
    have H1 := Lib.hid h1
    have hne : (q2 != 0) = true := by simpa using h1
    clear h1
    go_wp2_with (refine wpList_store_row rfl 23 (.tmp 6) (.tmp 82) rfl (w.heap.size + 1 + 1) (cellC 0 0 ⟨#[]⟩) rfl rfl 23 zeroC HR3.out.r.row HI rfl (cell_one3 _ _ _) ?_)
    obtain ⟨Z, hZ, HZ⟩ : ∃ Z, Z = w3.setRow (w.heap.size + 1 + 1) (cellC 0 0 ⟨#[]⟩) ∧ Hid (Tw w Z (cellC k n s) (cellC k2 n2 s2) (cellC 0 0 ⟨#[]⟩)) := ⟨_, rfl, Lib.hid (HR3.out.put _)⟩
    rw [← hZ]
    clear hZ
    obtain ⟨d0, d1, d2⟩ := three_of HZ.out.r
    refine bodyPost_ret (v := twoC 0 0 ⟨#[]⟩ q2) ?_ rfl ?_
    · simp [results, Try.results10, go_sem, d0, d1, d2, twoC, cellC]
    · exact ⟨by rw [HRS.out, if_neg (by simp), if_pos H1.out]; rfl, HZ.out.below⟩
  subst h1
  go_wp2_with fail
  refine (HOP.out _).mono ?_
  rintro e w4 ⟨rfl, bb⟩
  have HR4 := Lib.hid (HR3.out.after bb)
  clear bb HR3
  go_wp2_with fail
  refine (HNM.out _).mono ?_
  rintro e w5 ⟨rfl, bb⟩
  have HR5 := Lib.hid (HR4.out.after bb)
  unfold twoC
  clear bb HR4
  go_wp2_with (refine wpList_store_row rfl 23 (.tmp 6) (.tmp 122) rfl (w.heap.size + 1 + 1) (cellC k3 n3 s3) rfl rfl 23 zeroC HR5.out.r.row HI rfl (cell_one3 _ _ _) ?_)
  obtain ⟨Z, hZ, HZ⟩ : ∃ Z, Z = w5.setRow (w.heap.size + 1 + 1) (cellC k3 n3 s3) ∧ Hid (Tw w Z (cellC k n s) (cellC k2 n2 s2) (cellC k3 n3 s3)) := ⟨_, rfl, Lib.hid (HR5.out.put _)⟩
  rw [← hZ]
  clear hZ
  obtain ⟨d0, d1, d2⟩ := three_of HZ.out.r
  refine bodyPost_ret (v := twoC k3 n3 s3 e3) ?_ rfl ?_
  · simp [results, Try.results10, go_sem, d0, d1, d2, twoC, cellC]
  · exact ⟨by rw [HRS.out, if_neg (by simp), if_neg (by simp)], HZ.out.below⟩

set_option maxRecDepth 100000 in
set_option maxHeartbeats 1000000 in
theorem refTwo_37 (k n : Int) (s : ByteArray) (k2 n2 : Int) (s2 : ByteArray) (hn : Fits n) (hn2 : Fits n2) (hs : s.size ≤ 300) (hs2 : s2.size ≤ 300) (w : World) :
    Calls Try.prog 10 #[.string ⟨#[37]⟩, .agg (cellC k n s), .agg (cellC k2 n2 s2)] w fun e w' => e = .returned (twoF ⟨#[37]⟩ (refCmpC k n s k2 n2 s2) (numL k n s) (numL k2 n2 s2)) ∧ Below w.heap.size w w' := by
  have HI := info_cell
  have HC := Lib.hid (fun w => refCompare_cell k n s k2 n2 s2 hn hn2 hs hs2 w)
  have HN1 := Lib.hid (fun w => refNum_any k n s hs w)
  have HN2 := Lib.hid (fun w => refNum_any k2 n2 s2 hs2 w)
  obtain ⟨c, hc⟩ : ∃ c, c = refCmpC k n s k2 n2 s2 := ⟨_, rfl⟩
  rw [← hc] at HC ⊢
  obtain ⟨x, p2, hp⟩ : ∃ x p2, numL k n s = (x, p2) := ⟨_, _, rfl⟩
  obtain ⟨y, q2, hq⟩ : ∃ y q2, numL k2 n2 s2 = (y, q2) := ⟨_, _, rfl⟩
  have hx : Fits x := by have := numL_fits k n s hn; rw [hp] at this; exact this
  have hy : Fits y := by have := numL_fits k2 n2 s2 hn2; rw [hq] at this; exact this
  rw [hp] at HN1 ⊢
  rw [hq] at HN2 ⊢
  clear hc hp hq hn hn2 hs hs2
  obtain ⟨W, hW, HR⟩ := tw_new w (cellC k n s) (cellC k2 n2 s2) zeroC
  rw [twoF_37]
  simp only
  obtain ⟨P, hP⟩ : ∃ P, P = T1.modAns x y := ⟨_, rfl⟩
  have HOP : Hid (∀ w, Calls Try.prog 38 #[.int .i64 x, .int .i64 y] w fun e w' => e = .returned (.tuple #[.int .i64 P.1, .int .i64 P.2]) ∧ Below w.heap.size w w') := Lib.hid (fun w => by rw [hP]; exact T1.refMod_any x y w hx hy)
  rw [← hP]
  clear hP hx hy
  obtain ⟨k3, n3, s3, e3, hA⟩ := numA_form P
  have HNM := Lib.hid (fun w => refnum_any P.1 P.2 w)
  rw [show (P.1, P.2) = P from rfl, hA] at HNM
  rw [hA]
  clear hA
  obtain ⟨res, hres⟩ : ∃ res, res = (if p2 ≠ 0 then errA p2 else if q2 ≠ 0 then errA q2 else twoC k3 n3 s3 e3) := ⟨_, rfl⟩
  rw [← hres]
  have HRS := Lib.hid hres
  clear hres
  go_enter Try.func10, Try.ntmps10
  go_upto_region 1 with (fail)
  change Code.wp _ _ _ _ (((w.alloc (.cells (cellC k n s) 23)).alloc (.cells (cellC k2 n2 s2) 23)).alloc (.cells zeroC 23))
  rw [← hW]
  clear hW
  obtain ⟨a0, a1, a2⟩ := three_of HR.out.a
  obtain ⟨b0, b1, b2⟩ := three_of HR.out.b
  go_wp2_with fail
  refine (HC.out _).mono ?_
  rintro e w1 ⟨rfl, bb⟩
  have HR1 := Lib.hid (HR.out.after bb)
  clear bb a0 a1 a2 b0 b1 b2 HR
  obtain ⟨a0, a1, a2⟩ := three_of HR1.out.a
  obtain ⟨b0, b1, b2⟩ := three_of HR1.out.b
  go_wp2_with fail
  refine (HN1.out _).mono ?_
  rintro e w2 ⟨rfl, bb⟩
  have HR2 := Lib.hid (HR1.out.after bb)
  unfold two
  clear bb a0 a1 a2 b0 b1 b2 HR1
  by_cases h1 : p2 = 0
  case neg =>
    have H1 := Lib.hid h1
    have hne : (p2 != 0) = true := by simpa using h1
    clear h1
    go_wp2_with (refine wpList_store_row rfl 23 (.tmp 6) (.tmp 73) rfl (w.heap.size + 1 + 1) (cellC 0 0 ⟨#[]⟩) rfl rfl 23 zeroC HR2.out.r.row HI rfl (cell_one3 _ _ _) ?_)
    obtain ⟨Z, hZ, HZ⟩ : ∃ Z, Z = w2.setRow (w.heap.size + 1 + 1) (cellC 0 0 ⟨#[]⟩) ∧ Hid (Tw w Z (cellC k n s) (cellC k2 n2 s2) (cellC 0 0 ⟨#[]⟩)) := ⟨_, rfl, Lib.hid (HR2.out.put _)⟩
    rw [← hZ]
    clear hZ
    obtain ⟨d0, d1, d2⟩ := three_of HZ.out.r
    refine bodyPost_ret (v := twoC 0 0 ⟨#[]⟩ p2) ?_ rfl ?_
    · simp [results, Try.results10, go_sem, d0, d1, d2, twoC, cellC]
    · exact ⟨by rw [HRS.out, if_pos H1.out]; rfl, HZ.out.below⟩
  subst h1
  obtain ⟨a0, a1, a2⟩ := three_of HR2.out.a
  obtain ⟨b0, b1, b2⟩ := three_of HR2.out.b
  go_wp2_with fail
  refine (HN2.out _).mono ?_
  rintro e w3 ⟨rfl, bb⟩
  have HR3 := Lib.hid (HR2.out.after bb)
  unfold two
  clear bb a0 a1 a2 b0 b1 b2 HR2
  by_cases h1 : q2 = 0
  case neg =>
    have H1 := Lib.hid h1
    have hne : (q2 != 0) = true := by simpa using h1
    clear h1
    go_wp2_with (refine wpList_store_row rfl 23 (.tmp 6) (.tmp 82) rfl (w.heap.size + 1 + 1) (cellC 0 0 ⟨#[]⟩) rfl rfl 23 zeroC HR3.out.r.row HI rfl (cell_one3 _ _ _) ?_)
    obtain ⟨Z, hZ, HZ⟩ : ∃ Z, Z = w3.setRow (w.heap.size + 1 + 1) (cellC 0 0 ⟨#[]⟩) ∧ Hid (Tw w Z (cellC k n s) (cellC k2 n2 s2) (cellC 0 0 ⟨#[]⟩)) := ⟨_, rfl, Lib.hid (HR3.out.put _)⟩
    rw [← hZ]
    clear hZ
    obtain ⟨d0, d1, d2⟩ := three_of HZ.out.r
    refine bodyPost_ret (v := twoC 0 0 ⟨#[]⟩ q2) ?_ rfl ?_
    · simp [results, Try.results10, go_sem, d0, d1, d2, twoC, cellC]
    · exact ⟨by rw [HRS.out, if_neg (by simp), if_pos H1.out]; rfl, HZ.out.below⟩
  subst h1
  go_wp2_with fail
  refine (HOP.out _).mono ?_
  rintro e w4 ⟨rfl, bb⟩
  have HR4 := Lib.hid (HR3.out.after bb)
  clear bb HR3
  go_wp2_with fail
  refine (HNM.out _).mono ?_
  rintro e w5 ⟨rfl, bb⟩
  have HR5 := Lib.hid (HR4.out.after bb)
  unfold twoC
  clear bb HR4
  go_wp2_with (refine wpList_store_row rfl 23 (.tmp 6) (.tmp 130) rfl (w.heap.size + 1 + 1) (cellC k3 n3 s3) rfl rfl 23 zeroC HR5.out.r.row HI rfl (cell_one3 _ _ _) ?_)
  obtain ⟨Z, hZ, HZ⟩ : ∃ Z, Z = w5.setRow (w.heap.size + 1 + 1) (cellC k3 n3 s3) ∧ Hid (Tw w Z (cellC k n s) (cellC k2 n2 s2) (cellC k3 n3 s3)) := ⟨_, rfl, Lib.hid (HR5.out.put _)⟩
  rw [← hZ]
  clear hZ
  obtain ⟨d0, d1, d2⟩ := three_of HZ.out.r
  refine bodyPost_ret (v := twoC k3 n3 s3 e3) ?_ rfl ?_
  · simp [results, Try.results10, go_sem, d0, d1, d2, twoC, cellC]
  · exact ⟨by rw [HRS.out, if_neg (by simp), if_neg (by simp)], HZ.out.below⟩

set_option maxRecDepth 100000 in
set_option maxHeartbeats 1000000 in
theorem refTwo_other (g : ByteArray) (h0 : g ≠ ⟨#[60]⟩) (h1 : g ≠ ⟨#[60, 61]⟩) (h2 : g ≠ ⟨#[61, 61]⟩) (h3 : g ≠ ⟨#[33, 61]⟩) (h4 : g ≠ ⟨#[62]⟩) (h5 : g ≠ ⟨#[62, 61]⟩) (h6 : g ≠ ⟨#[43]⟩) (h7 : g ≠ ⟨#[45]⟩) (h8 : g ≠ ⟨#[42]⟩) (h9 : g ≠ ⟨#[47]⟩) (h10 : g ≠ ⟨#[37]⟩) (k n : Int) (s : ByteArray) (k2 n2 : Int) (s2 : ByteArray) (hn : Fits n) (hn2 : Fits n2) (hs : s.size ≤ 300) (hs2 : s2.size ≤ 300) (w : World) :
    Calls Try.prog 10 #[.string g, .agg (cellC k n s), .agg (cellC k2 n2 s2)] w fun e w' => e = .returned (twoF g (refCmpC k n s k2 n2 s2) (numL k n s) (numL k2 n2 s2)) ∧ Below w.heap.size w w' := by
  have HI := info_cell
  have HC := Lib.hid (fun w => refCompare_cell k n s k2 n2 s2 hn hn2 hs hs2 w)
  have HN1 := Lib.hid (fun w => refNum_any k n s hs w)
  have HN2 := Lib.hid (fun w => refNum_any k2 n2 s2 hs2 w)
  obtain ⟨c, hc⟩ : ∃ c, c = refCmpC k n s k2 n2 s2 := ⟨_, rfl⟩
  rw [← hc] at HC ⊢
  obtain ⟨x, p2, hp⟩ : ∃ x p2, numL k n s = (x, p2) := ⟨_, _, rfl⟩
  obtain ⟨y, q2, hq⟩ : ∃ y q2, numL k2 n2 s2 = (y, q2) := ⟨_, _, rfl⟩
  have hx : Fits x := by have := numL_fits k n s hn; rw [hp] at this; exact this
  have hy : Fits y := by have := numL_fits k2 n2 s2 hn2; rw [hq] at this; exact this
  rw [hp] at HN1 ⊢
  rw [hq] at HN2 ⊢
  clear hc hp hq hn hn2 hs hs2
  obtain ⟨W, hW, HR⟩ := tw_new w (cellC k n s) (cellC k2 n2 s2) zeroC
  rw [twoF_other h0 h1 h2 h3 h4 h5 h6 h7 h8 h9 h10]
  clear hx hy HN1 HN2
  have f0 : (g.toList == [60]) = false := ne_bytes h0
  have f1 : (g.toList == [60, 61]) = false := ne_bytes h1
  have f2 : (g.toList == [61, 61]) = false := ne_bytes h2
  have f3 : (g.toList == [33, 61]) = false := ne_bytes h3
  have f4 : (g.toList == [62]) = false := ne_bytes h4
  have f5 : (g.toList == [62, 61]) = false := ne_bytes h5
  have f6 : (g.toList == [43]) = false := ne_bytes h6
  have f7 : (g.toList == [45]) = false := ne_bytes h7
  have f8 : (g.toList == [42]) = false := ne_bytes h8
  have f9 : (g.toList == [47]) = false := ne_bytes h9
  have f10 : (g.toList == [37]) = false := ne_bytes h10
  clear h0 h1 h2 h3 h4 h5 h6 h7 h8 h9 h10
  go_enter Try.func10, Try.ntmps10
  go_upto_region 1 with (fail)
  change Code.wp _ _ _ _ (((w.alloc (.cells (cellC k n s) 23)).alloc (.cells (cellC k2 n2 s2) 23)).alloc (.cells zeroC 23))
  rw [← hW]
  clear hW
  obtain ⟨a0, a1, a2⟩ := three_of HR.out.a
  obtain ⟨b0, b1, b2⟩ := three_of HR.out.b
  go_wp2_with fail
  refine (HC.out _).mono ?_
  rintro e w1 ⟨rfl, bb⟩
  have HR1 := Lib.hid (HR.out.after bb)
  clear bb a0 a1 a2 b0 b1 b2 HR
  go_wp2_with (refine wpList_store_row rfl 23 (.tmp 6) (.tmp 65) rfl (w.heap.size + 1 + 1) (cellC 0 0 ⟨#[]⟩) rfl rfl 23 zeroC HR1.out.r.row HI rfl (cell_one3 _ _ _) ?_)
  obtain ⟨Z, hZ, HZ⟩ : ∃ Z, Z = w1.setRow (w.heap.size + 1 + 1) (cellC 0 0 ⟨#[]⟩) ∧ Hid (Tw w Z (cellC k n s) (cellC k2 n2 s2) (cellC 0 0 ⟨#[]⟩)) := ⟨_, rfl, Lib.hid (HR1.out.put _)⟩
  rw [← hZ]
  clear hZ
  obtain ⟨d0, d1, d2⟩ := three_of HZ.out.r
  refine bodyPost_ret (v := twoC 0 0 ⟨#[]⟩ 1) ?_ rfl ?_
  · simp [results, Try.results10, go_sem, d0, d1, d2, twoC, cellC]
  · exact ⟨rfl, HZ.out.below⟩

theorem refTwo_any (g : ByteArray) (k n : Int) (s : ByteArray) (k2 n2 : Int) (s2 : ByteArray) (hn : Fits n) (hn2 : Fits n2) (hs : s.size ≤ 300) (hs2 : s2.size ≤ 300) (w : World) :
    Calls Try.prog 10 #[.string g, .agg (cellC k n s), .agg (cellC k2 n2 s2)] w fun e w' => e = .returned (twoF g (refCmpC k n s k2 n2 s2) (numL k n s) (numL k2 n2 s2)) ∧ Below w.heap.size w w' := by
  by_cases h0 : g = ⟨#[60]⟩
  · subst h0; exact refTwo_60_ k n s k2 n2 s2 hn hn2 hs hs2 w
  by_cases h1 : g = ⟨#[60, 61]⟩
  · subst h1; exact refTwo_60_61_ k n s k2 n2 s2 hn hn2 hs hs2 w
  by_cases h2 : g = ⟨#[61, 61]⟩
  · subst h2; exact refTwo_61_61_ k n s k2 n2 s2 hn hn2 hs hs2 w
  by_cases h3 : g = ⟨#[33, 61]⟩
  · subst h3; exact refTwo_33_61_ k n s k2 n2 s2 hn hn2 hs hs2 w
  by_cases h4 : g = ⟨#[62]⟩
  · subst h4; exact refTwo_62_ k n s k2 n2 s2 hn hn2 hs hs2 w
  by_cases h5 : g = ⟨#[62, 61]⟩
  · subst h5; exact refTwo_62_61_ k n s k2 n2 s2 hn hn2 hs hs2 w
  by_cases h6 : g = ⟨#[43]⟩
  · subst h6; exact refTwo_43 k n s k2 n2 s2 hn hn2 hs hs2 w
  by_cases h7 : g = ⟨#[45]⟩
  · subst h7; exact refTwo_45 k n s k2 n2 s2 hn hn2 hs hs2 w
  by_cases h8 : g = ⟨#[42]⟩
  · subst h8; exact refTwo_42 k n s k2 n2 s2 hn hn2 hs hs2 w
  by_cases h9 : g = ⟨#[47]⟩
  · subst h9; exact refTwo_47 k n s k2 n2 s2 hn hn2 hs hs2 w
  by_cases h10 : g = ⟨#[37]⟩
  · subst h10; exact refTwo_37 k n s k2 n2 s2 hn hn2 hs hs2 w
  exact refTwo_other g h0 h1 h2 h3 h4 h5 h6 h7 h8 h9 h10 k n s k2 n2 s2 hn hn2 hs hs2 w
end Go.Proofs.Ytbbhcbpfffabpaa
