/- Merged by program: K15F. -/
import Derived.Test.YtbbhcbpfffabpaaGreatDoorGbm
import Derived.Test.YtbbhcbpfffabpaaGreatDoorGbj
/- What the program's Own stands on: whole, integer, Count, made, part, takes (gen_k15f.py). -/
namespace Go.Proofs.YtbbhcbpfffabpaaGreatDoor
open Go.RowKit T3

set_option maxRecDepth 100000 in
set_option maxHeartbeats 1000000 in
theorem kwhole (n : Int) (hn : Fits n) (w : World) : Calls Tryz.prog 12 #[.int .i64 n] w fun e w' => e = .returned (numA (ownRef.whole n)) ∧ Below w.heap.size w w' := by
  have HI := info_cell
  have HWH := Lib.hid (fun w => whole_p n hn w)
  obtain ⟨P, hP⟩ : ∃ P, P = ownRef.whole n := ⟨_, rfl⟩
  rw [← hP] at HWH ⊢
  obtain ⟨k3, n3, s3, e3, hA⟩ := knumA_form P
  have HNM := Lib.hid (fun w => knumber P.1 P.2 w)
  rw [show (P.1, P.2) = P from rfl, hA] at HNM
  rw [hA]
  clear hA hP hn
  obtain ⟨W, hW, HR⟩ := rs_new w zeroC
  go_enter Tryz.func12, Tryz.ntmps12
  go_upto_region 1 with (fail)
  change Code.wp _ _ _ _ (w.alloc (.cells zeroC 25))
  rw [← hW]
  clear hW
  go_wp2_with fail
  refine (HWH.out _).mono ?_
  rintro e u1 ⟨rfl, bb⟩
  have R1 := Lib.hid (HR.out.after bb)
  unfold two
  clear bb  HR
  go_wp2_with fail
  refine (HNM.out _).mono ?_
  rintro e u2 ⟨rfl, bb⟩
  have R2 := Lib.hid (R1.out.after bb)
  unfold twoC
  clear bb  R1
  go_wp2_with (refine wpList_store_row rfl 25 (.tmp 2) (.tmp 9) rfl w.heap.size (cellC k3 n3 s3) rfl rfl 25 zeroC R2.out.r.row HI rfl (cell_one3 _ _ _) ?_)
  obtain ⟨Z, hZ, HZ⟩ : ∃ Z, Z = u2.setRow w.heap.size (cellC k3 n3 s3) ∧ Hid (Rs w Z (cellC k3 n3 s3)) := ⟨_, rfl, Lib.hid (R2.out.put _)⟩
  rw [← hZ]
  clear hZ
  obtain ⟨y0, y1, y2⟩ := three_of HZ.out.r
  refine bodyPost_ret (v := twoC k3 n3 s3 e3) ?_ rfl ?_
  · simp [results, Tryz.results12, go_sem, y0, y1, y2, twoC, cellC]
  · exact ⟨rfl, HZ.out.below⟩

/-- A cell and a result in blocks. -/
structure Ko (w V : World) (cs es : Array Value) : Prop where
  a : Cx V w.heap.size cs
  r : Cx V (w.heap.size + 1) es
  below : Below w.heap.size w V
theorem Ko.after {w V W : World} {cs es : Array Value} (h : Ko w V cs es) (hb : Below V.heap.size V W) : Ko w W cs es := ⟨h.a.after hb, h.r.after hb, Below.step h.below hb⟩
theorem ko_new (w : World) (cs es : Array Value) : ∃ W, W = (w.alloc (.cells cs 25)).alloc (.cells es 25) ∧ Hid (Ko w W cs es) := by
  have s1 : (w.alloc (.cells cs 25)).heap.size = w.heap.size + 1 := World.size_alloc _ _
  have b1 := below_new w (.cells cs 25)
  have b2 := below_new (w.alloc (.cells cs 25)) (.cells es 25)
  have h1 := heap_alloc_last w (.cells cs 25)
  have h2 := heap_alloc_last (w.alloc (.cells cs 25)) (.cells es 25)
  rw [s1] at h2
  exact ⟨_, rfl, Lib.hid ⟨⟨(b2.block w.heap.size (by omega)).trans h1⟩, ⟨h2⟩, Below.step b1 b2⟩⟩
theorem Ko.put {w V : World} {cs es : Array Value} (h : Ko w V cs es) (fs : Array Value) : Ko w (V.setRow (w.heap.size + 1) fs) cs fs := by
  have other : ∀ k, k ≠ w.heap.size + 1 → (V.setRow (w.heap.size + 1) fs).heap[k]? = V.heap[k]? := fun k hk => Go.setRow_other _ _ _ _ hk
  exact ⟨⟨by rw [other _ (by omega)]; exact h.a.row⟩, h.r.setRow fs, below_row h.below (by omega) fs⟩

set_option maxRecDepth 100000 in
set_option maxHeartbeats 1000000 in
theorem kinteger (c : Cel) (hn : Fits c.n) (hs : c.s.size ≤ 300) (w : World) : Calls Tryz.prog 18 #[.agg (cellC c.k c.n c.s)] w fun e w' => e = .returned (numA (ownRef.int (ownRef.num c).1, (ownRef.num c).2)) ∧ Below w.heap.size w w' := by
  have HI := info_cell
  have HN := Lib.hid (fun w => num_p c hs w)
  have HIN := Lib.hid (fun w => int_p (ownRef.num c).1 (ownRefOk.numFits c hn) w)
  obtain ⟨x, e1, hx⟩ : ∃ x e1, ownRef.num c = (x, e1) := ⟨_, _, rfl⟩
  rw [hx] at HN HIN ⊢
  simp only at HIN ⊢
  obtain ⟨y, hy⟩ : ∃ y, y = ownRef.int x := ⟨_, rfl⟩
  rw [← hy] at HIN ⊢
  obtain ⟨R, hR⟩ : ∃ R, R = numA (y, e1) := ⟨_, rfl⟩
  rw [← hR]
  have HRR := Lib.hid hR
  clear hR hy hx hn hs
  by_cases h1 : e1 = 0
  · subst h1
    have HF : Hid (R = twoC 1 y ⟨#[]⟩ 0) := Lib.hid (by rw [HRR.out]; rfl)
    obtain ⟨W, hW, HR⟩ := ko_new w (cellC c.k c.n c.s) zeroC
    go_enter Tryz.func18, Tryz.ntmps18
    go_upto_region 1 with (fail)
    change Code.wp _ _ _ _ ((w.alloc (.cells (cellC c.k c.n c.s) 25)).alloc (.cells zeroC 25))
    rw [← hW]
    clear hW
    obtain ⟨a0, a1, a2⟩ := three_of HR.out.a
    go_wp2_with fail
    refine (HN.out _).mono ?_
    rintro e w1 ⟨rfl, bb⟩
    have HR1 := Lib.hid (HR.out.after bb)
    unfold two
    clear bb a0 a1 a2 HR
    go_wp2_with fail
    refine (HIN.out _).mono ?_
    rintro e w2 ⟨rfl, bb⟩
    have HR2 := Lib.hid (HR1.out.after bb)
    clear bb HR1
    go_wp2_with fail
    refine (kofNum _ _).mono ?_
    rintro e w3 ⟨rfl, bb⟩
    have HR3 := Lib.hid (HR2.out.after bb)
    clear bb HR2
    go_wp2_with (refine wpList_store_row rfl 25 (.tmp 2) (.tmp 17) rfl (w.heap.size + 1) (cellC 1 y ⟨#[]⟩) rfl rfl 25 zeroC HR3.out.r.row HI rfl (cell_one3 _ _ _) ?_)
    obtain ⟨Z, hZ, HZ⟩ : ∃ Z, Z = w3.setRow (w.heap.size + 1) (cellC 1 y ⟨#[]⟩) ∧ Hid (Ko w Z (cellC c.k c.n c.s) (cellC 1 y ⟨#[]⟩)) := ⟨_, rfl, Lib.hid (HR3.out.put _)⟩
    rw [← hZ]
    clear hZ
    obtain ⟨d0, d1, d2⟩ := three_of HZ.out.r
    refine bodyPost_ret (v := twoC 1 y ⟨#[]⟩ 0) ?_ rfl ?_
    · simp [results, Tryz.results18, go_sem, d0, d1, d2, twoC, cellC]
    · exact ⟨by rw [HF.out], HZ.out.below⟩
  · have hne : (e1 != 0) = true := by simpa using h1
    have HF : Hid (R = twoC 0 0 ⟨#[]⟩ e1) := Lib.hid (by rw [HRR.out]; unfold numA; rw [if_neg h1])
    clear h1
    obtain ⟨W, hW, HR⟩ := ko_new w (cellC c.k c.n c.s) zeroC
    go_enter Tryz.func18, Tryz.ntmps18
    go_upto_region 1 with (fail)
    change Code.wp _ _ _ _ ((w.alloc (.cells (cellC c.k c.n c.s) 25)).alloc (.cells zeroC 25))
    rw [← hW]
    clear hW
    obtain ⟨a0, a1, a2⟩ := three_of HR.out.a
    go_wp2_with fail
    refine (HN.out _).mono ?_
    rintro e w1 ⟨rfl, bb⟩
    have HR1 := Lib.hid (HR.out.after bb)
    unfold two
    clear bb a0 a1 a2 HR
    go_wp2_with (refine wpList_store_row rfl 25 (.tmp 2) (.tmp 13) rfl (w.heap.size + 1) (cellC 0 0 ⟨#[]⟩) rfl rfl 25 zeroC HR1.out.r.row HI rfl (cell_one3 _ _ _) ?_)
    obtain ⟨Z, hZ, HZ⟩ : ∃ Z, Z = w1.setRow (w.heap.size + 1) (cellC 0 0 ⟨#[]⟩) ∧ Hid (Ko w Z (cellC c.k c.n c.s) (cellC 0 0 ⟨#[]⟩)) := ⟨_, rfl, Lib.hid (HR1.out.put _)⟩
    rw [← hZ]
    clear hZ
    obtain ⟨d0, d1, d2⟩ := three_of HZ.out.r
    refine bodyPost_ret (v := twoC 0 0 ⟨#[]⟩ e1) ?_ rfl ?_
    · simp [results, Tryz.results18, go_sem, d0, d1, d2, twoC, cellC]
    · exact ⟨by rw [HF.out], HZ.out.below⟩

set_option maxRecDepth 100000 in
set_option maxHeartbeats 1000000 in
theorem kcountF (k n : Int) (s : ByteArray) (hn : Fits n) (hs : s.size ≤ 300) (w : World) :
    Calls Tryz.prog 45 #[.agg (cellC k n s)] w fun e w' => e = .returned (countF (numL k n s)) ∧ Below w.heap.size w w' := by
  have HN := Lib.hid (fun w => num_any k n s (by omega) w)
  obtain ⟨x, p2, hp⟩ : ∃ x p2, numL k n s = (x, p2) := ⟨_, _, rfl⟩
  have hx : Fits x := by have := numL_fits k n s hn; rw [hp] at this; exact this
  rw [hp] at HN ⊢
  clear hp hn hs
  obtain ⟨W, hW, HX, HB, _⟩ := cx_new w (cellC k n s)
  by_cases h1 : p2 = 0
  · subst h1
    have hw : wrap64 (x.tdiv 1000000) = x.tdiv 1000000 := by
      have := tdiv_fits x hx
      exact IntWalk.wrap64_in _ ⟨by omega, by omega⟩
    have HW := Lib.hid hw
    clear hx hw
    go_enter Tryz.func45, Tryz.ntmps45
    go_upto_region 1 with (fail)
    change Code.wp _ _ _ _ (w.alloc (.cells (cellC k n s) 25))
    rw [← hW]
    clear hW
    obtain ⟨a0, a1, a2⟩ := three_of HX.out
    go_wp2_with fail
    refine (HN.out _).mono ?_
    rintro e w1 ⟨rfl, bb⟩
    have HB1 := Lib.hid (Below.step HB.out bb)
    unfold two
    clear bb a0 a1 a2
    go_wp2_with fail
    go_ret2
    refine ⟨?_, HB1.out⟩
    show Ending.returned (.tuple #[.int .i64 (wrap64 (x.tdiv 1000000)), .int .i64 0]) = _
    rw [HW.out]
    rfl
  · have hne : (p2 != 0) = true := by simpa using h1
    rw [show countF (x, p2) = .tuple #[.int .i64 0, .int .i64 p2] from if_neg h1]
    clear h1 hx
    go_enter Tryz.func45, Tryz.ntmps45
    go_upto_region 1 with (fail)
    change Code.wp _ _ _ _ (w.alloc (.cells (cellC k n s) 25))
    rw [← hW]
    clear hW
    obtain ⟨a0, a1, a2⟩ := three_of HX.out
    go_wp2_with fail
    refine (HN.out _).mono ?_
    rintro e w1 ⟨rfl, bb⟩
    have HB1 := Lib.hid (Below.step HB.out bb)
    unfold two
    clear bb a0 a1 a2
    go_wp2_with fail
    go_ret2
    exact ⟨rfl, HB1.out⟩
theorem kcount (c : Cel) (hn : Fits c.n) (hs : c.s.size ≤ 300) (w : World) : Calls Tryz.prog 45 #[.agg (cellC c.k c.n c.s)] w fun e w' => e = .returned (.tuple #[.int .i64 (ownRef.count c).1, .int .i64 (ownRef.count c).2]) ∧ Below w.heap.size w w' :=
  (kcountF c.k c.n c.s hn hs w).mono fun e w' h => by
    refine ⟨?_, h.2⟩
    rw [h.1]
    show Ending.returned (countF (numL c.k c.n c.s)) = _
    unfold countF ownRef
    dsimp only
    split <;> rfl

set_option maxRecDepth 100000 in
set_option maxHeartbeats 1000000 in
theorem kmade (f : ByteArray) (hf : f.size ≤ 300) (l : List Cel) (p : Option Addr) (n cap : Nat) (w : World) (hl : ∀ c ∈ l, Fits c.n ∧ c.s.size ≤ 300) (hC : CellsAt w p n cap l) (hlow : ∀ a, p = some a → a.block < w.heap.size) (hE : Env w) :
    Calls Tryz.prog 20 #[.string f, .slice p n cap] w fun e w' => e = .returned (if (ownRef.form f l).2 ≠ 0 then errT (ownRef.form f l).2 else strA (ownRef.form f l).1) ∧ Below w.heap.size w w' := by
  have HI := info_cell
  have HFM := Lib.hid (fun V (hb : Below w.heap.size w V) => form_p f hf l p n cap V hl (hC.below hb) (fun a ha => Nat.lt_of_lt_of_le (hlow a ha) hb.size) (hE.after hb))
  obtain ⟨q, e1, hq⟩ : ∃ q e1, ownRef.form f l = (q, e1) := ⟨_, _, rfl⟩
  rw [hq] at HFM ⊢
  simp only at HFM ⊢
  obtain ⟨R, hR⟩ : ∃ R, R = (if e1 ≠ 0 then errT e1 else strA q) := ⟨_, rfl⟩
  rw [← hR]
  have HRR := Lib.hid hR
  clear hR hq hf hl hC hlow hE
  have HOS := Lib.hid (fun w => ofStr_any q w)
  by_cases h1 : e1 = 0
  case neg =>
    have hne : (e1 != 0) = true := by simpa using h1
    have HF : Hid (R = twoC 0 0 ⟨#[]⟩ e1) := Lib.hid (by rw [HRR.out, if_pos h1]; rfl)
    clear h1
    obtain ⟨W, hW, HR⟩ := rs_new w zeroC
    go_enter Tryz.func20, Tryz.ntmps20
    go_upto_region 1 with (fail)
    change Code.wp _ _ _ _ (w.alloc (.cells zeroC 25))
    rw [← hW]
    clear hW
    go_wp2_with fail
    refine (HFM.out _ HR.out.below).mono ?_
    rintro e u1 ⟨rfl, bb⟩
    have R1 := Lib.hid (HR.out.after bb)
    clear bb  HR
    go_wp2_with (refine wpList_store_row rfl 25 (.tmp 4) (.tmp 16) rfl w.heap.size (cellC 0 0 ⟨#[]⟩) rfl rfl 25 zeroC R1.out.r.row HI rfl (cell_one3 _ _ _) ?_)
    obtain ⟨Z, hZ, HZ⟩ : ∃ Z, Z = u1.setRow w.heap.size (cellC 0 0 ⟨#[]⟩) ∧ Hid (Rs w Z (cellC 0 0 ⟨#[]⟩)) := ⟨_, rfl, Lib.hid (R1.out.put _)⟩
    rw [← hZ]
    clear hZ
    obtain ⟨y0, y1, y2⟩ := three_of HZ.out.r
    refine bodyPost_ret (v := twoC 0 0 ⟨#[]⟩ e1) ?_ rfl ?_
    · simp [results, Tryz.results20, go_sem, y0, y1, y2, twoC, cellC]
    · exact ⟨by rw [HF.out], HZ.out.below⟩
  subst h1
  by_cases hg : q.size ≤ 65536
  · have d1 : decide ((65536 : Int) < (q.size : Int)) = false := decide_eq_false (by omega)
    have HF : Hid (R = twoC 2 0 q 0) := Lib.hid (by rw [HRR.out, if_neg (by simp)]; unfold strA; rw [if_pos hg])
    have hle : (q.size : Int) ≤ 65536 := by omega
    clear hg
    obtain ⟨W, hW, HR⟩ := rs_new w zeroC
    go_enter Tryz.func20, Tryz.ntmps20
    go_upto_region 1 with (fail)
    change Code.wp _ _ _ _ (w.alloc (.cells zeroC 25))
    rw [← hW]
    clear hW
    go_wp2_with fail
    refine (HFM.out _ HR.out.below).mono ?_
    rintro e u1 ⟨rfl, bb⟩
    have R1 := Lib.hid (HR.out.after bb)
    clear bb  HR
    go_wp2_with fail
    refine (HOS.out _).mono ?_
    rintro e u2 ⟨rfl, bb⟩
    have R2 := Lib.hid (R1.out.after bb)
    clear bb  R1
    go_wp2_with (refine wpList_store_row rfl 25 (.tmp 4) (.tmp 23) rfl w.heap.size (cellC 2 0 q) rfl rfl 25 zeroC R2.out.r.row HI rfl (cell_one3 _ _ _) ?_)
    obtain ⟨Z, hZ, HZ⟩ : ∃ Z, Z = u2.setRow w.heap.size (cellC 2 0 q) ∧ Hid (Rs w Z (cellC 2 0 q)) := ⟨_, rfl, Lib.hid (R2.out.put _)⟩
    rw [← hZ]
    clear hZ
    obtain ⟨y0, y1, y2⟩ := three_of HZ.out.r
    refine bodyPost_ret (v := twoC 2 0 q 0) ?_ rfl ?_
    · simp [results, Tryz.results20, go_sem, y0, y1, y2, twoC, cellC]
    · exact ⟨by rw [HF.out], HZ.out.below⟩
  · have d1 : decide ((65536 : Int) < (q.size : Int)) = true := decide_eq_true (by omega)
    have HF : Hid (R = twoC 0 0 ⟨#[]⟩ 2) := Lib.hid (by rw [HRR.out, if_neg (by simp)]; unfold strA; rw [if_neg hg])
    have hgt : (65536 : Int) < (q.size : Int) := by omega
    clear hg
    obtain ⟨W, hW, HR⟩ := rs_new w zeroC
    go_enter Tryz.func20, Tryz.ntmps20
    go_upto_region 1 with (fail)
    change Code.wp _ _ _ _ (w.alloc (.cells zeroC 25))
    rw [← hW]
    clear hW
    go_wp2_with fail
    refine (HFM.out _ HR.out.below).mono ?_
    rintro e u1 ⟨rfl, bb⟩
    have R1 := Lib.hid (HR.out.after bb)
    clear bb  HR
    go_wp2_with (refine wpList_store_row rfl 25 (.tmp 4) (.tmp 21) rfl w.heap.size (cellC 0 0 ⟨#[]⟩) rfl rfl 25 zeroC R1.out.r.row HI rfl (cell_one3 _ _ _) ?_)
    obtain ⟨Z, hZ, HZ⟩ : ∃ Z, Z = u1.setRow w.heap.size (cellC 0 0 ⟨#[]⟩) ∧ Hid (Rs w Z (cellC 0 0 ⟨#[]⟩)) := ⟨_, rfl, Lib.hid (R1.out.put _)⟩
    rw [← hZ]
    clear hZ
    obtain ⟨y0, y1, y2⟩ := three_of HZ.out.r
    refine bodyPost_ret (v := twoC 0 0 ⟨#[]⟩ 2) ?_ rfl ?_
    · simp [results, Tryz.results20, go_sem, y0, y1, y2, twoC, cellC]
    · exact ⟨by rw [HF.out], HZ.out.below⟩

/-- A text's end is reached by as many characters as it has bytes. -/
theorem sub_end (s : ByteArray) (f : Int) (hf : 1 ≤ f) : ownRef.sub s f (s.size : Nat) = ownRef.sub s f ((s.size + 1 : Nat) : Int) := by
  have e0 : ∀ m : Int, 1 ≤ m → T2.subB s f m = T2.subN s (f - 1).toNat m.toNat := fun m hm => by unfold T2.subB; rw [if_neg (by omega), if_neg (by omega)]
  show T2.subB s f (s.size : Nat) = T2.subB s f ((s.size + 1 : Nat) : Int)
  by_cases h0 : s.size = 0
  · rw [e0 ((s.size + 1 : Nat) : Int) (by omega)]
    unfold T2.subB
    rw [if_pos (by omega)]
    have hz : (T2.subN s (f - 1).toNat ((s.size + 1 : Nat) : Int).toNat).size = 0 := by
      unfold T2.subN
      rw [ByteArray.size_extract]
      omega
    exact ByteArray.ext (Array.eq_empty_of_size_eq_zero hz).symm
  · rw [e0 (s.size : Nat) (by omega), e0 ((s.size + 1 : Nat) : Int) (by omega)]
    unfold T2.subN
    rw [T2.adv_full s 0 ((f - 1).toNat + ((s.size : Nat) : Int).toNat) (Nat.zero_le _) (by omega), T2.adv_full s 0 ((f - 1).toNat + ((s.size + 1 : Nat) : Int).toNat) (Nat.zero_le _) (by omega)]
/-- What part makes of the cells behind the text. -/
noncomputable def partF (z : ByteArray) : List Cel → Value
  | [d] => if (ownRef.count d).2 ≠ 0 then errT (ownRef.count d).2 else twoC 2 0 (ownRef.sub z (if (ownRef.count d).1 < 1 then 1 else (ownRef.count d).1) (z.size + 1 : Nat)) 0
  | [d, e] => if (ownRef.count d).2 ≠ 0 then errT (ownRef.count d).2 else if (ownRef.count e).2 ≠ 0 then errT (ownRef.count e).2 else twoC 2 0 (ownRef.sub z (ownRef.count d).1 (ownRef.count e).1) 0
  | _ => errT 1

set_option maxRecDepth 100000 in
set_option maxHeartbeats 1000000 in
theorem kpart_1 (z : ByteArray) (hz : z.size ≤ 300) (d : Cel) (p : Option Addr) (cap : Nat) (hd : Fits d.n ∧ d.s.size ≤ 300) (w : World) (hca : CellsAt w p 1 cap [d]) :
    Calls Tryz.prog 19 #[.string z, .slice p 1 cap] w fun e0 w' => e0 = .returned (partF z [d]) ∧ Below w.heap.size w w' := by
  have HI := info_cell
  obtain ⟨b, off, rfl, hcl⟩ := hca.at_ (by simp)
  have HCL := Lib.hid hcl
  have hroom := hca.room
  have HZ0 := Lib.hid hz
  show Calls _ _ _ _ fun e0 w' => e0 = .returned (if (ownRef.count d).2 ≠ 0 then errT (ownRef.count d).2 else twoC 2 0 (ownRef.sub z (if (ownRef.count d).1 < 1 then 1 else (ownRef.count d).1) (z.size + 1 : Nat)) 0) ∧ Below w.heap.size w w'
  clear hcl hca
  have HNd := Lib.hid (fun w => kcount d hd.1 hd.2 w)
  have HFTd := Lib.hid (ownRefOk.countFits d hd.1)
  obtain ⟨xd, ed, hxd⟩ : ∃ x0 e0, ownRef.count d = (x0, e0) := ⟨_, _, rfl⟩
  rw [hxd] at HNd HFTd ⊢
  simp only at HNd HFTd ⊢
  clear hxd hd
  obtain ⟨f, hf⟩ : ∃ f, f = (if xd < 1 then 1 else xd) := ⟨_, rfl⟩
  have hff : Fits f ∧ 1 ≤ f := by rw [hf]; have := HFTd.out; unfold Fits at this ⊢; split <;> omega
  have hmax : max xd 1 = f := by rw [hf]; split <;> omega
  rw [← hf]
  have hsub := sub_end z f hff.2
  obtain ⟨q, hq⟩ : ∃ q, q = ownRef.sub z f ((z.size + 1 : Nat) : Int) := ⟨_, rfl⟩
  rw [← hq] at hsub ⊢
  have HC := Lib.hid (fun w => by have h := sub_p z f (z.size : Nat) hz hff.1 (by unfold Fits; omega) w; rw [hsub] at h; exact h)
  obtain ⟨R, hR⟩ : ∃ R, R = (if ed ≠ 0 then errT ed else twoC 2 0 q 0) := ⟨_, rfl⟩
  rw [← hR]
  have HRS := Lib.hid hR
  have HOS := Lib.hid (fun w => ofStr_any q w)
  have HMX := Lib.hid hmax
  clear hR hf hff hq hsub hz hmax
  obtain ⟨W, hW, HR⟩ := rs_new w zeroC
  go_enter Tryz.func19, Tryz.ntmps19
  go_upto_region 1 with (fail)
  change Code.wp _ _ _ _ (w.alloc (.cells zeroC 25))
  rw [← hW]
  clear hW
  obtain ⟨d0, d1, d2⟩ := HCL.out _ HR.out.below 0 d rfl
  simp only [Nat.zero_mul, Nat.add_zero] at d0 d1 d2
  go_wp2_with fail
  refine (HNd.out _).mono ?_
  rintro e u1 ⟨rfl, bb⟩
  have R1 := Lib.hid (HR.out.after bb)
  clear bb d0 d1 d2 HR
  by_cases h1 : ed = 0
  case neg =>
    have H1 := Lib.hid h1
    have hne : (ed != 0) = true := by simpa using h1
    clear h1
    go_wp2_with (refine wpList_store_row rfl 25 (.tmp 4) (.tmp 18) rfl w.heap.size (cellC 0 0 ⟨#[]⟩) rfl rfl 25 zeroC R1.out.r.row HI rfl (cell_one3 _ _ _) ?_)
    obtain ⟨Z, hZ, HZ⟩ : ∃ Z, Z = u1.setRow w.heap.size (cellC 0 0 ⟨#[]⟩) ∧ Hid (Rs w Z (cellC 0 0 ⟨#[]⟩)) := ⟨_, rfl, Lib.hid (R1.out.put _)⟩
    rw [← hZ]
    clear hZ
    obtain ⟨y0, y1, y2⟩ := three_of HZ.out.r
    refine bodyPost_ret (v := twoC 0 0 ⟨#[]⟩ ed) ?_ rfl ?_
    · simp [results, Tryz.results19, go_sem, y0, y1, y2, twoC, cellC]
    · exact ⟨by rw [HRS.out, if_pos H1.out]; rfl, HZ.out.below⟩
  subst h1
  have hmax := HMX.out
  go_wp2_with fail
  refine (HC.out _).mono ?_
  rintro e u2 ⟨rfl, bb⟩
  have R2 := Lib.hid (R1.out.after bb)
  clear hmax bb  R1
  go_wp2_with fail
  refine (HOS.out _).mono ?_
  rintro e u3 ⟨rfl, bb⟩
  have R3 := Lib.hid (R2.out.after bb)
  clear bb  R2
  go_wp2_with (refine wpList_store_row rfl 25 (.tmp 4) (.tmp 29) rfl w.heap.size (cellC 2 0 q) rfl rfl 25 zeroC R3.out.r.row HI rfl (cell_one3 _ _ _) ?_)
  obtain ⟨Z, hZ, HZ⟩ : ∃ Z, Z = u3.setRow w.heap.size (cellC 2 0 q) ∧ Hid (Rs w Z (cellC 2 0 q)) := ⟨_, rfl, Lib.hid (R3.out.put _)⟩
  rw [← hZ]
  clear hZ
  obtain ⟨y0, y1, y2⟩ := three_of HZ.out.r
  refine bodyPost_ret (v := twoC 2 0 q 0) ?_ rfl ?_
  · simp [results, Tryz.results19, go_sem, y0, y1, y2, twoC, cellC]
  · exact ⟨by rw [HRS.out, if_neg (by simp)], HZ.out.below⟩

set_option maxRecDepth 100000 in
set_option maxHeartbeats 1000000 in
theorem kpart_2 (z : ByteArray) (hz : z.size ≤ 300) (d : Cel) (e : Cel) (p : Option Addr) (cap : Nat) (hd : Fits d.n ∧ d.s.size ≤ 300) (he : Fits e.n ∧ e.s.size ≤ 300) (w : World) (hca : CellsAt w p 2 cap [d, e]) :
    Calls Tryz.prog 19 #[.string z, .slice p 2 cap] w fun e0 w' => e0 = .returned (partF z [d, e]) ∧ Below w.heap.size w w' := by
  have HI := info_cell
  obtain ⟨b, off, rfl, hcl⟩ := hca.at_ (by simp)
  have HCL := Lib.hid hcl
  have hroom := hca.room
  have HZ0 := Lib.hid hz
  show Calls _ _ _ _ fun e0 w' => e0 = .returned (if (ownRef.count d).2 ≠ 0 then errT (ownRef.count d).2 else if (ownRef.count e).2 ≠ 0 then errT (ownRef.count e).2 else twoC 2 0 (ownRef.sub z (ownRef.count d).1 (ownRef.count e).1) 0) ∧ Below w.heap.size w w'
  clear hcl hca
  have HNd := Lib.hid (fun w => kcount d hd.1 hd.2 w)
  have HFTd := Lib.hid (ownRefOk.countFits d hd.1)
  obtain ⟨xd, ed, hxd⟩ : ∃ x0 e0, ownRef.count d = (x0, e0) := ⟨_, _, rfl⟩
  rw [hxd] at HNd HFTd ⊢
  simp only at HNd HFTd ⊢
  clear hxd hd
  have HNe := Lib.hid (fun w => kcount e he.1 he.2 w)
  have HFTe := Lib.hid (ownRefOk.countFits e he.1)
  obtain ⟨xe, ee, hxe⟩ : ∃ x0 e0, ownRef.count e = (x0, e0) := ⟨_, _, rfl⟩
  rw [hxe] at HNe HFTe ⊢
  simp only at HNe HFTe ⊢
  clear hxe he
  obtain ⟨q, hq⟩ : ∃ q, q = ownRef.sub z xd xe := ⟨_, rfl⟩
  have HC := Lib.hid (fun w => by have h := sub_p z xd xe hz HFTd.out HFTe.out w; rw [← hq] at h; exact h)
  rw [← hq]
  obtain ⟨R, hR⟩ : ∃ R, R = (if ed ≠ 0 then errT ed else if ee ≠ 0 then errT ee else twoC 2 0 q 0) := ⟨_, rfl⟩
  rw [← hR]
  have HRS := Lib.hid hR
  have HOS := Lib.hid (fun w => ofStr_any q w)
  clear hR hq hz
  obtain ⟨W, hW, HR⟩ := rs_new w zeroC
  go_enter Tryz.func19, Tryz.ntmps19
  go_upto_region 1 with (fail)
  change Code.wp _ _ _ _ (w.alloc (.cells zeroC 25))
  rw [← hW]
  clear hW
  obtain ⟨d0, d1, d2⟩ := HCL.out _ HR.out.below 0 d rfl
  simp only [Nat.zero_mul, Nat.add_zero] at d0 d1 d2
  obtain ⟨e0, e1, e2⟩ := HCL.out _ HR.out.below 1 e rfl
  simp only [Nat.one_mul] at e0 e1 e2
  go_wp2_with fail
  refine (HNd.out _).mono ?_
  rintro e u1 ⟨rfl, bb⟩
  have R1 := Lib.hid (HR.out.after bb)
  clear bb d0 d1 d2 e0 e1 e2 HR
  by_cases h1 : ed = 0
  case neg =>
    have H1 := Lib.hid h1
    have hne : (ed != 0) = true := by simpa using h1
    clear h1
    go_wp2_with (refine wpList_store_row rfl 25 (.tmp 4) (.tmp 18) rfl w.heap.size (cellC 0 0 ⟨#[]⟩) rfl rfl 25 zeroC R1.out.r.row HI rfl (cell_one3 _ _ _) ?_)
    obtain ⟨Z, hZ, HZ⟩ : ∃ Z, Z = u1.setRow w.heap.size (cellC 0 0 ⟨#[]⟩) ∧ Hid (Rs w Z (cellC 0 0 ⟨#[]⟩)) := ⟨_, rfl, Lib.hid (R1.out.put _)⟩
    rw [← hZ]
    clear hZ
    obtain ⟨y0, y1, y2⟩ := three_of HZ.out.r
    refine bodyPost_ret (v := twoC 0 0 ⟨#[]⟩ ed) ?_ rfl ?_
    · simp [results, Tryz.results19, go_sem, y0, y1, y2, twoC, cellC]
    · exact ⟨by rw [HRS.out, if_pos H1.out]; rfl, HZ.out.below⟩
  subst h1
  obtain ⟨d0, d1, d2⟩ := HCL.out _ R1.out.below 0 d rfl
  simp only [Nat.zero_mul, Nat.add_zero] at d0 d1 d2
  obtain ⟨e0, e1, e2⟩ := HCL.out _ R1.out.below 1 e rfl
  simp only [Nat.one_mul] at e0 e1 e2
  go_wp2_with fail
  refine (HNe.out _).mono ?_
  rintro e u2 ⟨rfl, bb⟩
  have R2 := Lib.hid (R1.out.after bb)
  clear bb d0 d1 d2 e0 e1 e2 R1
  by_cases h1 : ee = 0
  case neg =>
    have H1 := Lib.hid h1
    have hne : (ee != 0) = true := by simpa using h1
    clear h1
    go_wp2_with (refine wpList_store_row rfl 25 (.tmp 4) (.tmp 39) rfl w.heap.size (cellC 0 0 ⟨#[]⟩) rfl rfl 25 zeroC R2.out.r.row HI rfl (cell_one3 _ _ _) ?_)
    obtain ⟨Z, hZ, HZ⟩ : ∃ Z, Z = u2.setRow w.heap.size (cellC 0 0 ⟨#[]⟩) ∧ Hid (Rs w Z (cellC 0 0 ⟨#[]⟩)) := ⟨_, rfl, Lib.hid (R2.out.put _)⟩
    rw [← hZ]
    clear hZ
    obtain ⟨y0, y1, y2⟩ := three_of HZ.out.r
    refine bodyPost_ret (v := twoC 0 0 ⟨#[]⟩ ee) ?_ rfl ?_
    · simp [results, Tryz.results19, go_sem, y0, y1, y2, twoC, cellC]
    · exact ⟨by rw [HRS.out, if_neg (by simp), if_pos H1.out]; rfl, HZ.out.below⟩
  subst h1
  go_wp2_with fail
  refine (HC.out _).mono ?_
  rintro e u3 ⟨rfl, bb⟩
  have R3 := Lib.hid (R2.out.after bb)
  clear bb  R2
  go_wp2_with fail
  refine (HOS.out _).mono ?_
  rintro e u4 ⟨rfl, bb⟩
  have R4 := Lib.hid (R3.out.after bb)
  clear bb  R3
  go_wp2_with (refine wpList_store_row rfl 25 (.tmp 4) (.tmp 45) rfl w.heap.size (cellC 2 0 q) rfl rfl 25 zeroC R4.out.r.row HI rfl (cell_one3 _ _ _) ?_)
  obtain ⟨Z, hZ, HZ⟩ : ∃ Z, Z = u4.setRow w.heap.size (cellC 2 0 q) ∧ Hid (Rs w Z (cellC 2 0 q)) := ⟨_, rfl, Lib.hid (R4.out.put _)⟩
  rw [← hZ]
  clear hZ
  obtain ⟨y0, y1, y2⟩ := three_of HZ.out.r
  refine bodyPost_ret (v := twoC 2 0 q 0) ?_ rfl ?_
  · simp [results, Tryz.results19, go_sem, y0, y1, y2, twoC, cellC]
  · exact ⟨by rw [HRS.out, if_neg (by simp), if_neg (by simp)], HZ.out.below⟩
end Go.Proofs.YtbbhcbpfffabpaaGreatDoor
