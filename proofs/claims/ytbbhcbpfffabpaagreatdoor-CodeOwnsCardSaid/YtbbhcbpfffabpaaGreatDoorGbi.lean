/- Merged by program: C15P. -/
import Derived.Test.YtbbhcbpfffabpaaGreatDoorGbh
/- The document's Own of layer 15: the walks (gen_c15p.py). -/
namespace Go.Proofs.YtbbhcbpfffabpaaGreatDoor
open Go.RowKit T3

/-- A result in a block. -/
structure Rs (w V : World) (es : Array Value) : Prop where
  r : Cx V w.heap.size es
  below : Below w.heap.size w V
theorem Rs.after {w V W : World} {es : Array Value} (h : Rs w V es) (hb : Below V.heap.size V W) : Rs w W es := ⟨h.r.after hb, Below.step h.below hb⟩
theorem rs_new (w : World) (es : Array Value) : ∃ W, W = w.alloc (.cells es 25) ∧ Hid (Rs w W es) := ⟨_, rfl, Lib.hid ⟨⟨heap_alloc_last w _⟩, below_new w _⟩⟩
theorem Rs.put {w V : World} {es : Array Value} (h : Rs w V es) (fs : Array Value) : Rs w (V.setRow w.heap.size fs) fs := ⟨h.r.setRow fs, below_row h.below (Nat.le_refl _) fs⟩
theorem CellsAt.at_ {w : World} {p : Option Addr} {n cap : Nat} {l : List Cel} (h : CellsAt w p n cap l) (hl : l ≠ []) : ∃ b off, p = some ⟨b, off, none⟩ ∧ ∀ V, Below w.heap.size w V → ∀ i c, l[i]? = some c → V.cell? ⟨b, off + i * 3, none⟩ = some (.int .i64 c.k) ∧ V.cell? ⟨b, off + i * 3 + 1, none⟩ = some (.int .i64 c.n) ∧ V.cell? ⟨b, off + i * 3 + 2, none⟩ = some (.string c.s) := by
  rcases h.cells with h0 | ⟨b, off, hp, hc⟩
  · exact absurd h0 hl
  · refine ⟨b, off, hp, fun V hb i c hi => ?_⟩
    obtain ⟨h1, h2, h3⟩ := hc i c hi
    have key : ∀ (o : Nat) (v : Value), w.cell? ⟨b, o, none⟩ = some v → V.cell? ⟨b, o, none⟩ = some v := fun o v hv => by rw [hb.cell (p := ⟨b, o, none⟩) (cell_lt hv)]; exact hv
    exact ⟨key _ _ h1, key _ _ h2, key _ _ h3⟩
theorem numA_formP (p : Int × Int) : ∃ k n s e, numA p = twoC k n s e := by
  unfold numA
  split
  · exact ⟨_, _, _, _, rfl⟩
  · exact ⟨_, _, _, _, rfl⟩
theorem strA_formP (s : ByteArray) : ∃ k n r e, strA s = twoC k n r e := by
  unfold strA
  split
  · exact ⟨_, _, _, _, rfl⟩
  · exact ⟨_, _, _, _, rfl⟩
theorem ne_bytesP {g : ByteArray} {l : List UInt8} (h : g ≠ ⟨l.toArray⟩) : (g.toList == l) = false := by
  rw [beq_eq_false_iff_ne]
  intro e
  rw [Lib.toList_data] at e
  exact h (by cases g with | mk d => exact congrArg ByteArray.mk (by rw [← e]))

set_option maxRecDepth 100000 in
set_option maxHeartbeats 1000000 in
theorem own_length {R : OwnRef} (H : OwnRefOk R) (c : Cel) (p : Option Addr) (cap : Nat) (hc : Fits c.n ∧ c.s.size ≤ 300) (w : World) (hca : CellsAt w p 1 cap [c]) :
    Calls Tryz.prog 6 #[.string ⟨#[108, 101, 110, 103, 116, 104]⟩, .slice p 1 cap] w fun e0 w' => e0 = .returned (ownF R ⟨#[108, 101, 110, 103, 116, 104]⟩ [c]) ∧ Below w.heap.size w w' := by
  have HI := info_cell
  obtain ⟨b, off, rfl, hcl⟩ := hca.at_ (by simp)
  have HCL := Lib.hid hcl
  have hroom := hca.room
  have HH := Lib.hid H
  have HSc := Lib.hid (fun w => refStr_any c.k c.n c.s hc.1 w)
  have Zc : Hid ((strC c.k c.n c.s).size ≤ 300) := Lib.hid (strC_size c.k c.n c.s hc.2)
  have Fc := Lib.hid hc
  clear H hcl hca hc
  rw [show ownF R ⟨#[108, 101, 110, 103, 116, 104]⟩ [c] = numA (R.whole (R.chars (strC c.k c.n c.s) : Nat)) from rfl]
  obtain ⟨z, hz⟩ : ∃ z, z = strC c.k c.n c.s := ⟨_, rfl⟩
  rw [← hz] at HSc Zc ⊢
  clear hz
  have hle := HH.out.charsLe z Zc.out
  obtain ⟨q, hq⟩ : ∃ q, q = R.chars z := ⟨_, rfl⟩
  have HC := Lib.hid (fun w => HH.out.chars z w Zc.out)
  rw [← hq] at HC hle ⊢
  have HWH := Lib.hid (fun w => HH.out.whole (q : Nat) w (by unfold Fits; omega))
  obtain ⟨P, hP⟩ : ∃ P, P = R.whole (q : Nat) := ⟨_, rfl⟩
  rw [← hP] at HWH ⊢
  obtain ⟨k3, n3, s3, e3, hA⟩ := numA_formP P
  have HNM := Lib.hid (fun w => refnum_any P.1 P.2 w)
  rw [show (P.1, P.2) = P from rfl, hA] at HNM
  rw [hA]
  clear hA hP hq HH
  obtain ⟨W, hW, HR⟩ := rs_new w zeroC
  go_enter Tryz.func6, Tryz.ntmps6
  go_upto_region 1 with (fail)
  change Code.wp _ _ _ _ (w.alloc (.cells zeroC 25))
  rw [← hW]
  clear hW
  obtain ⟨c0, c1, c2⟩ := HCL.out _ HR.out.below 0 c rfl
  simp only [Nat.zero_mul, Nat.add_zero] at c0 c1 c2
  go_wp2_with fail
  refine (HSc.out _).mono ?_
  rintro e u1 ⟨rfl, bb⟩
  have R1 := Lib.hid (HR.out.after bb)
  clear bb c0 c1 c2 HR
  obtain ⟨c0, c1, c2⟩ := HCL.out _ R1.out.below 0 c rfl
  simp only [Nat.zero_mul, Nat.add_zero] at c0 c1 c2
  go_wp2_with fail
  refine (HC.out _).mono ?_
  rintro e u2 ⟨p9, c9, rfl, bb⟩
  have R2 := Lib.hid (R1.out.after bb)
  clear bb c0 c1 c2 R1
  obtain ⟨c0, c1, c2⟩ := HCL.out _ R2.out.below 0 c rfl
  simp only [Nat.zero_mul, Nat.add_zero] at c0 c1 c2
  go_wp2_with fail
  refine (HWH.out _).mono ?_
  rintro e u3 ⟨rfl, bb⟩
  have R3 := Lib.hid (R2.out.after bb)
  clear bb c0 c1 c2 R2
  obtain ⟨c0, c1, c2⟩ := HCL.out _ R3.out.below 0 c rfl
  simp only [Nat.zero_mul, Nat.add_zero] at c0 c1 c2
  go_wp2_with fail
  refine (HNM.out _).mono ?_
  rintro e u4 ⟨rfl, bb⟩
  have R4 := Lib.hid (R3.out.after bb)
  unfold twoC
  clear bb c0 c1 c2 R3
  go_wp2_with (refine wpList_store_row rfl 25 (.tmp 4) (.tmp 82) rfl w.heap.size (cellC k3 n3 s3) rfl rfl 25 zeroC R4.out.r.row HI rfl (cell_one3 _ _ _) ?_)
  obtain ⟨Z, hZ, HZ⟩ : ∃ Z, Z = u4.setRow w.heap.size (cellC k3 n3 s3) ∧ Hid (Rs w Z (cellC k3 n3 s3)) := ⟨_, rfl, Lib.hid (R4.out.put _)⟩
  rw [← hZ]
  clear hZ
  obtain ⟨y0, y1, y2⟩ := three_of HZ.out.r
  refine bodyPost_ret (v := twoC k3 n3 s3 e3) ?_ rfl ?_
  · simp [results, Tryz.results6, go_sem, y0, y1, y2, twoC, cellC]
  · exact ⟨rfl, HZ.out.below⟩

set_option maxRecDepth 100000 in
set_option maxHeartbeats 1000000 in
theorem own_tolower {R : OwnRef} (H : OwnRefOk R) (c : Cel) (p : Option Addr) (cap : Nat) (hc : Fits c.n ∧ c.s.size ≤ 300) (w : World) (hca : CellsAt w p 1 cap [c]) :
    Calls Tryz.prog 6 #[.string ⟨#[116, 111, 108, 111, 119, 101, 114]⟩, .slice p 1 cap] w fun e0 w' => e0 = .returned (ownF R ⟨#[116, 111, 108, 111, 119, 101, 114]⟩ [c]) ∧ Below w.heap.size w w' := by
  have HI := info_cell
  obtain ⟨b, off, rfl, hcl⟩ := hca.at_ (by simp)
  have HCL := Lib.hid hcl
  have hroom := hca.room
  have HH := Lib.hid H
  have HSc := Lib.hid (fun w => refStr_any c.k c.n c.s hc.1 w)
  have Zc : Hid ((strC c.k c.n c.s).size ≤ 300) := Lib.hid (strC_size c.k c.n c.s hc.2)
  have Fc := Lib.hid hc
  clear H hcl hca hc
  rw [show ownF R ⟨#[116, 111, 108, 111, 119, 101, 114]⟩ [c] = twoC 2 0 (R.low (strC c.k c.n c.s)) 0 from rfl]
  obtain ⟨z, hz⟩ : ∃ z, z = strC c.k c.n c.s := ⟨_, rfl⟩
  rw [← hz] at HSc Zc ⊢
  clear hz
  have HC := Lib.hid (fun w => HH.out.low z w Zc.out)
  obtain ⟨q, hq⟩ : ∃ q, q = R.low z := ⟨_, rfl⟩
  rw [← hq] at HC ⊢
  clear hq HH
  obtain ⟨W, hW, HR⟩ := rs_new w zeroC
  go_enter Tryz.func6, Tryz.ntmps6
  go_upto_region 1 with (fail)
  change Code.wp _ _ _ _ (w.alloc (.cells zeroC 25))
  rw [← hW]
  clear hW
  obtain ⟨c0, c1, c2⟩ := HCL.out _ HR.out.below 0 c rfl
  simp only [Nat.zero_mul, Nat.add_zero] at c0 c1 c2
  go_wp2_with fail
  refine (HSc.out _).mono ?_
  rintro e u1 ⟨rfl, bb⟩
  have R1 := Lib.hid (HR.out.after bb)
  clear bb c0 c1 c2 HR
  obtain ⟨c0, c1, c2⟩ := HCL.out _ R1.out.below 0 c rfl
  simp only [Nat.zero_mul, Nat.add_zero] at c0 c1 c2
  go_wp2_with fail
  refine (HC.out _).mono ?_
  rintro e u2 ⟨rfl, bb⟩
  have R2 := Lib.hid (R1.out.after bb)
  clear bb c0 c1 c2 R1
  go_wp2_with (refine wpList_store_row rfl 25 (.tmp 4) (.tmp 102) rfl w.heap.size (cellC 2 0 q) rfl rfl 25 zeroC R2.out.r.row HI rfl (cell_one3 _ _ _) ?_)
  obtain ⟨Z, hZ, HZ⟩ : ∃ Z, Z = u2.setRow w.heap.size (cellC 2 0 q) ∧ Hid (Rs w Z (cellC 2 0 q)) := ⟨_, rfl, Lib.hid (R2.out.put _)⟩
  rw [← hZ]
  clear hZ
  obtain ⟨y0, y1, y2⟩ := three_of HZ.out.r
  refine bodyPost_ret (v := twoC 2 0 q 0) ?_ rfl ?_
  · simp [results, Tryz.results6, go_sem, y0, y1, y2, twoC, cellC]
  · exact ⟨rfl, HZ.out.below⟩

set_option maxRecDepth 100000 in
set_option maxHeartbeats 1000000 in
theorem own_toupper {R : OwnRef} (H : OwnRefOk R) (c : Cel) (p : Option Addr) (cap : Nat) (hc : Fits c.n ∧ c.s.size ≤ 300) (w : World) (hca : CellsAt w p 1 cap [c]) :
    Calls Tryz.prog 6 #[.string ⟨#[116, 111, 117, 112, 112, 101, 114]⟩, .slice p 1 cap] w fun e0 w' => e0 = .returned (ownF R ⟨#[116, 111, 117, 112, 112, 101, 114]⟩ [c]) ∧ Below w.heap.size w w' := by
  have HI := info_cell
  obtain ⟨b, off, rfl, hcl⟩ := hca.at_ (by simp)
  have HCL := Lib.hid hcl
  have hroom := hca.room
  have HH := Lib.hid H
  have HSc := Lib.hid (fun w => refStr_any c.k c.n c.s hc.1 w)
  have Zc : Hid ((strC c.k c.n c.s).size ≤ 300) := Lib.hid (strC_size c.k c.n c.s hc.2)
  have Fc := Lib.hid hc
  clear H hcl hca hc
  rw [show ownF R ⟨#[116, 111, 117, 112, 112, 101, 114]⟩ [c] = twoC 2 0 (R.up (strC c.k c.n c.s)) 0 from rfl]
  obtain ⟨z, hz⟩ : ∃ z, z = strC c.k c.n c.s := ⟨_, rfl⟩
  rw [← hz] at HSc Zc ⊢
  clear hz
  have HC := Lib.hid (fun w => HH.out.up z w Zc.out)
  obtain ⟨q, hq⟩ : ∃ q, q = R.up z := ⟨_, rfl⟩
  rw [← hq] at HC ⊢
  clear hq HH
  obtain ⟨W, hW, HR⟩ := rs_new w zeroC
  go_enter Tryz.func6, Tryz.ntmps6
  go_upto_region 1 with (fail)
  change Code.wp _ _ _ _ (w.alloc (.cells zeroC 25))
  rw [← hW]
  clear hW
  obtain ⟨c0, c1, c2⟩ := HCL.out _ HR.out.below 0 c rfl
  simp only [Nat.zero_mul, Nat.add_zero] at c0 c1 c2
  go_wp2_with fail
  refine (HSc.out _).mono ?_
  rintro e u1 ⟨rfl, bb⟩
  have R1 := Lib.hid (HR.out.after bb)
  clear bb c0 c1 c2 HR
  obtain ⟨c0, c1, c2⟩ := HCL.out _ R1.out.below 0 c rfl
  simp only [Nat.zero_mul, Nat.add_zero] at c0 c1 c2
  go_wp2_with fail
  refine (HC.out _).mono ?_
  rintro e u2 ⟨rfl, bb⟩
  have R2 := Lib.hid (R1.out.after bb)
  clear bb c0 c1 c2 R1
  go_wp2_with (refine wpList_store_row rfl 25 (.tmp 4) (.tmp 107) rfl w.heap.size (cellC 2 0 q) rfl rfl 25 zeroC R2.out.r.row HI rfl (cell_one3 _ _ _) ?_)
  obtain ⟨Z, hZ, HZ⟩ : ∃ Z, Z = u2.setRow w.heap.size (cellC 2 0 q) ∧ Hid (Rs w Z (cellC 2 0 q)) := ⟨_, rfl, Lib.hid (R2.out.put _)⟩
  rw [← hZ]
  clear hZ
  obtain ⟨y0, y1, y2⟩ := three_of HZ.out.r
  refine bodyPost_ret (v := twoC 2 0 q 0) ?_ rfl ?_
  · simp [results, Tryz.results6, go_sem, y0, y1, y2, twoC, cellC]
  · exact ⟨rfl, HZ.out.below⟩

set_option maxRecDepth 100000 in
set_option maxHeartbeats 1000000 in
theorem own_int {R : OwnRef} (H : OwnRefOk R) (c : Cel) (p : Option Addr) (cap : Nat) (hc : Fits c.n ∧ c.s.size ≤ 300) (w : World) (hca : CellsAt w p 1 cap [c]) :
    Calls Tryz.prog 6 #[.string ⟨#[105, 110, 116]⟩, .slice p 1 cap] w fun e0 w' => e0 = .returned (ownF R ⟨#[105, 110, 116]⟩ [c]) ∧ Below w.heap.size w w' := by
  have HI := info_cell
  obtain ⟨b, off, rfl, hcl⟩ := hca.at_ (by simp)
  have HCL := Lib.hid hcl
  have hroom := hca.room
  have HH := Lib.hid H
  have HSc := Lib.hid (fun w => refStr_any c.k c.n c.s hc.1 w)
  have Zc : Hid ((strC c.k c.n c.s).size ≤ 300) := Lib.hid (strC_size c.k c.n c.s hc.2)
  have Fc := Lib.hid hc
  clear H hcl hca hc
  rw [show ownF R ⟨#[105, 110, 116]⟩ [c] = numA (R.int (R.num c).1, (R.num c).2) from rfl]
  have HN := Lib.hid (fun w => HH.out.num c w Fc.out.1 Fc.out.2)
  have HIN := Lib.hid (fun w => HH.out.int (R.num c).1 w (HH.out.numFits c Fc.out.1))
  obtain ⟨x, e1, hx⟩ : ∃ x e1, R.num c = (x, e1) := ⟨_, _, rfl⟩
  rw [hx] at HN HIN ⊢
  simp only at HN HIN ⊢
  obtain ⟨y, hy⟩ : ∃ y, y = R.int x := ⟨_, rfl⟩
  rw [← hy] at HIN ⊢
  obtain ⟨k3, n3, s3, e3, hA⟩ := numA_formP (y, e1)
  have HNM := Lib.hid (fun w => refnum_any y e1 w)
  rw [hA] at HNM ⊢
  clear hA hy hx HH
  obtain ⟨W, hW, HR⟩ := rs_new w zeroC
  go_enter Tryz.func6, Tryz.ntmps6
  go_upto_region 1 with (fail)
  change Code.wp _ _ _ _ (w.alloc (.cells zeroC 25))
  rw [← hW]
  clear hW
  obtain ⟨c0, c1, c2⟩ := HCL.out _ HR.out.below 0 c rfl
  simp only [Nat.zero_mul, Nat.add_zero] at c0 c1 c2
  go_wp2_with fail
  refine (HSc.out _).mono ?_
  rintro e u1 ⟨rfl, bb⟩
  have R1 := Lib.hid (HR.out.after bb)
  clear bb c0 c1 c2 HR
  obtain ⟨c0, c1, c2⟩ := HCL.out _ R1.out.below 0 c rfl
  simp only [Nat.zero_mul, Nat.add_zero] at c0 c1 c2
  go_wp2_with fail
  refine (HN.out _).mono ?_
  rintro e u2 ⟨rfl, bb⟩
  have R2 := Lib.hid (R1.out.after bb)
  clear bb c0 c1 c2 R1
  obtain ⟨c0, c1, c2⟩ := HCL.out _ R2.out.below 0 c rfl
  simp only [Nat.zero_mul, Nat.add_zero] at c0 c1 c2
  go_wp2_with fail
  refine (HIN.out _).mono ?_
  rintro e u3 ⟨rfl, bb⟩
  have R3 := Lib.hid (R2.out.after bb)
  clear bb c0 c1 c2 R2
  obtain ⟨c0, c1, c2⟩ := HCL.out _ R3.out.below 0 c rfl
  simp only [Nat.zero_mul, Nat.add_zero] at c0 c1 c2
  go_wp2_with fail
  refine (HNM.out _).mono ?_
  rintro e u4 ⟨rfl, bb⟩
  have R4 := Lib.hid (R3.out.after bb)
  unfold twoC
  clear bb c0 c1 c2 R3
  go_wp2_with (refine wpList_store_row rfl 25 (.tmp 4) (.tmp 121) rfl w.heap.size (cellC k3 n3 s3) rfl rfl 25 zeroC R4.out.r.row HI rfl (cell_one3 _ _ _) ?_)
  obtain ⟨Z, hZ, HZ⟩ : ∃ Z, Z = u4.setRow w.heap.size (cellC k3 n3 s3) ∧ Hid (Rs w Z (cellC k3 n3 s3)) := ⟨_, rfl, Lib.hid (R4.out.put _)⟩
  rw [← hZ]
  clear hZ
  obtain ⟨y0, y1, y2⟩ := three_of HZ.out.r
  refine bodyPost_ret (v := twoC k3 n3 s3 e3) ?_ rfl ?_
  · simp [results, Tryz.results6, go_sem, y0, y1, y2, twoC, cellC]
  · exact ⟨rfl, HZ.out.below⟩

set_option maxRecDepth 100000 in
set_option maxHeartbeats 1000000 in
theorem own_index {R : OwnRef} (H : OwnRefOk R) (c : Cel) (d : Cel) (p : Option Addr) (cap : Nat) (hc : Fits c.n ∧ c.s.size ≤ 300) (hd : Fits d.n ∧ d.s.size ≤ 300) (w : World) (hca : CellsAt w p 2 cap [c, d]) :
    Calls Tryz.prog 6 #[.string ⟨#[105, 110, 100, 101, 120]⟩, .slice p 2 cap] w fun e0 w' => e0 = .returned (ownF R ⟨#[105, 110, 100, 101, 120]⟩ [c, d]) ∧ Below w.heap.size w w' := by
  have HI := info_cell
  obtain ⟨b, off, rfl, hcl⟩ := hca.at_ (by simp)
  have HCL := Lib.hid hcl
  have hroom := hca.room
  have HH := Lib.hid H
  have HSc := Lib.hid (fun w => refStr_any c.k c.n c.s hc.1 w)
  have Zc : Hid ((strC c.k c.n c.s).size ≤ 300) := Lib.hid (strC_size c.k c.n c.s hc.2)
  have Fc := Lib.hid hc
  have HSd := Lib.hid (fun w => refStr_any d.k d.n d.s hd.1 w)
  have Zd : Hid ((strC d.k d.n d.s).size ≤ 300) := Lib.hid (strC_size d.k d.n d.s hd.2)
  have Fd := Lib.hid hd
  clear H hcl hca hc hd
  rw [show ownF R ⟨#[105, 110, 100, 101, 120]⟩ [c, d] = numA (R.whole (R.index (strC c.k c.n c.s) (strC d.k d.n d.s))) from rfl]
  obtain ⟨z, hz⟩ : ∃ z, z = strC c.k c.n c.s := ⟨_, rfl⟩
  obtain ⟨z2, hz2⟩ : ∃ z2, z2 = strC d.k d.n d.s := ⟨_, rfl⟩
  rw [← hz] at HSc Zc ⊢
  rw [← hz2] at HSd Zd ⊢
  clear hz hz2
  have HC := Lib.hid (fun w => HH.out.index z z2 w Zc.out Zd.out)
  have HWH := Lib.hid (fun w => HH.out.whole (R.index z z2) w (HH.out.indexFits z z2 Zc.out Zd.out))
  obtain ⟨q, hq⟩ : ∃ q, q = R.index z z2 := ⟨_, rfl⟩
  rw [← hq] at HC HWH ⊢
  obtain ⟨P, hP⟩ : ∃ P, P = R.whole q := ⟨_, rfl⟩
  rw [← hP] at HWH ⊢
  obtain ⟨k3, n3, s3, e3, hA⟩ := numA_formP P
  have HNM := Lib.hid (fun w => refnum_any P.1 P.2 w)
  rw [show (P.1, P.2) = P from rfl, hA] at HNM
  rw [hA]
  clear hA hP hq HH
  obtain ⟨W, hW, HR⟩ := rs_new w zeroC
  go_enter Tryz.func6, Tryz.ntmps6
  go_upto_region 1 with (fail)
  change Code.wp _ _ _ _ (w.alloc (.cells zeroC 25))
  rw [← hW]
  clear hW
  obtain ⟨c0, c1, c2⟩ := HCL.out _ HR.out.below 0 c rfl
  simp only [Nat.zero_mul, Nat.add_zero] at c0 c1 c2
  obtain ⟨d0, d1, d2⟩ := HCL.out _ HR.out.below 1 d rfl
  simp only [Nat.one_mul] at d0 d1 d2
  go_wp2_with fail
  refine (HSc.out _).mono ?_
  rintro e u1 ⟨rfl, bb⟩
  have R1 := Lib.hid (HR.out.after bb)
  clear bb c0 c1 c2 d0 d1 d2 HR
  obtain ⟨c0, c1, c2⟩ := HCL.out _ R1.out.below 0 c rfl
  simp only [Nat.zero_mul, Nat.add_zero] at c0 c1 c2
  obtain ⟨d0, d1, d2⟩ := HCL.out _ R1.out.below 1 d rfl
  simp only [Nat.one_mul] at d0 d1 d2
  go_wp2_with fail
  refine (HSd.out _).mono ?_
  rintro e u2 ⟨rfl, bb⟩
  have R2 := Lib.hid (R1.out.after bb)
  clear bb c0 c1 c2 d0 d1 d2 R1
  obtain ⟨c0, c1, c2⟩ := HCL.out _ R2.out.below 0 c rfl
  simp only [Nat.zero_mul, Nat.add_zero] at c0 c1 c2
  obtain ⟨d0, d1, d2⟩ := HCL.out _ R2.out.below 1 d rfl
  simp only [Nat.one_mul] at d0 d1 d2
  go_wp2_with fail
  refine (HC.out _).mono ?_
  rintro e u3 ⟨rfl, bb⟩
  have R3 := Lib.hid (R2.out.after bb)
  clear bb c0 c1 c2 d0 d1 d2 R2
  obtain ⟨c0, c1, c2⟩ := HCL.out _ R3.out.below 0 c rfl
  simp only [Nat.zero_mul, Nat.add_zero] at c0 c1 c2
  obtain ⟨d0, d1, d2⟩ := HCL.out _ R3.out.below 1 d rfl
  simp only [Nat.one_mul] at d0 d1 d2
  go_wp2_with fail
  refine (HWH.out _).mono ?_
  rintro e u4 ⟨rfl, bb⟩
  have R4 := Lib.hid (R3.out.after bb)
  clear bb c0 c1 c2 d0 d1 d2 R3
  obtain ⟨c0, c1, c2⟩ := HCL.out _ R4.out.below 0 c rfl
  simp only [Nat.zero_mul, Nat.add_zero] at c0 c1 c2
  obtain ⟨d0, d1, d2⟩ := HCL.out _ R4.out.below 1 d rfl
  simp only [Nat.one_mul] at d0 d1 d2
  go_wp2_with fail
  refine (HNM.out _).mono ?_
  rintro e u5 ⟨rfl, bb⟩
  have R5 := Lib.hid (R4.out.after bb)
  unfold twoC
  clear bb c0 c1 c2 d0 d1 d2 R4
  go_wp2_with (refine wpList_store_row rfl 25 (.tmp 4) (.tmp 96) rfl w.heap.size (cellC k3 n3 s3) rfl rfl 25 zeroC R5.out.r.row HI rfl (cell_one3 _ _ _) ?_)
  obtain ⟨Z, hZ, HZ⟩ : ∃ Z, Z = u5.setRow w.heap.size (cellC k3 n3 s3) ∧ Hid (Rs w Z (cellC k3 n3 s3)) := ⟨_, rfl, Lib.hid (R5.out.put _)⟩
  rw [← hZ]
  clear hZ
  obtain ⟨y0, y1, y2⟩ := three_of HZ.out.r
  refine bodyPost_ret (v := twoC k3 n3 s3 e3) ?_ rfl ?_
  · simp [results, Tryz.results6, go_sem, y0, y1, y2, twoC, cellC]
  · exact ⟨rfl, HZ.out.below⟩

set_option maxRecDepth 100000 in
set_option maxHeartbeats 1000000 in
theorem own_substr_2 {R : OwnRef} (H : OwnRefOk R) (c : Cel) (d : Cel) (p : Option Addr) (cap : Nat) (hc : Fits c.n ∧ c.s.size ≤ 300) (hd : Fits d.n ∧ d.s.size ≤ 300) (w : World) (hca : CellsAt w p 2 cap [c, d]) :
    Calls Tryz.prog 6 #[.string ⟨#[115, 117, 98, 115, 116, 114]⟩, .slice p 2 cap] w fun e0 w' => e0 = .returned (ownF R ⟨#[115, 117, 98, 115, 116, 114]⟩ [c, d]) ∧ Below w.heap.size w w' := by
  have HI := info_cell
  obtain ⟨b, off, rfl, hcl⟩ := hca.at_ (by simp)
  have HCL := Lib.hid hcl
  have hroom := hca.room
  have HH := Lib.hid H
  have HSc := Lib.hid (fun w => refStr_any c.k c.n c.s hc.1 w)
  have Zc : Hid ((strC c.k c.n c.s).size ≤ 300) := Lib.hid (strC_size c.k c.n c.s hc.2)
  have Fc := Lib.hid hc
  have HSd := Lib.hid (fun w => refStr_any d.k d.n d.s hd.1 w)
  have Zd : Hid ((strC d.k d.n d.s).size ≤ 300) := Lib.hid (strC_size d.k d.n d.s hd.2)
  have Fd := Lib.hid hd
  clear H hcl hca hc hd
  show Calls _ _ _ _ fun e0 w' => e0 = .returned (if (R.count d).2 ≠ 0 then errT (R.count d).2 else twoC 2 0 (R.sub (strC c.k c.n c.s) (if (R.count d).1 < 1 then 1 else (R.count d).1) ((strC c.k c.n c.s).size + 1 : Nat)) 0) ∧ Below w.heap.size w w'
  obtain ⟨z, hz⟩ : ∃ z, z = strC c.k c.n c.s := ⟨_, rfl⟩
  rw [← hz] at HSc Zc ⊢
  clear hz
  have HNd := Lib.hid (fun w => HH.out.count d w Fd.out.1 Fd.out.2)
  have HFTd := Lib.hid (HH.out.countFits d Fd.out.1)
  obtain ⟨xd, ed, hxd⟩ : ∃ x0 e0, R.count d = (x0, e0) := ⟨_, _, rfl⟩
  rw [hxd] at HNd HFTd ⊢
  simp only at HNd HFTd ⊢
  clear hxd
  have hz3 := Zc.out
  have HSB := Lib.hid (fun f w (hf : Fits f) => HH.out.sub z f ((z.size + 1 : Nat) : Int) w Zc.out hf (by unfold Fits; omega))
  obtain ⟨f, hf⟩ : ∃ f, f = (if xd < 1 then 1 else xd) := ⟨_, rfl⟩
  have hff : Fits f := by rw [hf]; have := HFTd.out; unfold Fits at this ⊢; split <;> omega
  rw [← hf]
  obtain ⟨q, hq⟩ : ∃ q, q = R.sub z f ((z.size + 1 : Nat) : Int) := ⟨_, rfl⟩
  have HC := Lib.hid (fun w => by have h := HSB.out f w hff; rw [← hq] at h; exact h)
  rw [← hq]
  have HFF := Lib.hid hf
  obtain ⟨res, hres⟩ : ∃ res, res = (if ed ≠ 0 then errT ed else twoC 2 0 q 0) := ⟨_, rfl⟩
  rw [← hres]
  have HRS := Lib.hid hres
  clear hres hf hff hq HH HSB
  obtain ⟨W, hW, HR⟩ := rs_new w zeroC
  go_enter Tryz.func6, Tryz.ntmps6
  go_upto_region 1 with (fail)
  change Code.wp _ _ _ _ (w.alloc (.cells zeroC 25))
  rw [← hW]
  clear hW
  obtain ⟨c0, c1, c2⟩ := HCL.out _ HR.out.below 0 c rfl
  simp only [Nat.zero_mul, Nat.add_zero] at c0 c1 c2
  obtain ⟨d0, d1, d2⟩ := HCL.out _ HR.out.below 1 d rfl
  simp only [Nat.one_mul] at d0 d1 d2
  go_wp2_with fail
  refine (HSc.out _).mono ?_
  rintro e u1 ⟨rfl, bb⟩
  have R1 := Lib.hid (HR.out.after bb)
  clear bb c0 c1 c2 d0 d1 d2 HR
  obtain ⟨c0, c1, c2⟩ := HCL.out _ R1.out.below 0 c rfl
  simp only [Nat.zero_mul, Nat.add_zero] at c0 c1 c2
  obtain ⟨d0, d1, d2⟩ := HCL.out _ R1.out.below 1 d rfl
  simp only [Nat.one_mul] at d0 d1 d2
  go_wp2_with fail
  refine (HNd.out _).mono ?_
  rintro e u2 ⟨rfl, bb⟩
  have R2 := Lib.hid (R1.out.after bb)
  clear bb c0 c1 c2 d0 d1 d2 R1
  by_cases h1 : ed = 0
  case neg =>
    have H1 := Lib.hid h1
    have hne : (ed != 0) = true := by simpa using h1
    clear h1
    go_wp2_with (refine wpList_store_row rfl 25 (.tmp 4) (.tmp 149) rfl w.heap.size (cellC 0 0 ⟨#[]⟩) rfl rfl 25 zeroC R2.out.r.row HI rfl (cell_one3 _ _ _) ?_)
    obtain ⟨Z, hZ, HZ⟩ : ∃ Z, Z = u2.setRow w.heap.size (cellC 0 0 ⟨#[]⟩) ∧ Hid (Rs w Z (cellC 0 0 ⟨#[]⟩)) := ⟨_, rfl, Lib.hid (R2.out.put _)⟩
    rw [← hZ]
    clear hZ
    obtain ⟨y0, y1, y2⟩ := three_of HZ.out.r
    refine bodyPost_ret (v := twoC 0 0 ⟨#[]⟩ ed) ?_ rfl ?_
    · simp [results, Tryz.results6, go_sem, y0, y1, y2, twoC, cellC]
    · exact ⟨by rw [HRS.out, if_pos H1.out]; rfl, HZ.out.below⟩
  subst h1
  by_cases h2 : xd < 1
  · have hfe : f = 1 := by rw [HFF.out, if_pos h2]
    have d1 : decide (xd < 1) = true := decide_eq_true h2
    subst hfe
    clear h2 HFF
    obtain ⟨c0, c1, c2⟩ := HCL.out _ R2.out.below 0 c rfl
    simp only [Nat.zero_mul, Nat.add_zero] at c0 c1 c2
    obtain ⟨d0, d1, d2⟩ := HCL.out _ R2.out.below 1 d rfl
    simp only [Nat.one_mul] at d0 d1 d2
    go_wp2_with fail
    refine (HC.out _).mono ?_
    rintro e u3 ⟨rfl, bb⟩
    have R3 := Lib.hid (R2.out.after bb)
    clear bb c0 c1 c2 d0 d1 d2 R2
    go_wp2_with (refine wpList_store_row rfl 25 (.tmp 4) (.tmp 161) rfl w.heap.size (cellC 2 0 q) rfl rfl 25 zeroC R3.out.r.row HI rfl (cell_one3 _ _ _) ?_)
    obtain ⟨Z, hZ, HZ⟩ : ∃ Z, Z = u3.setRow w.heap.size (cellC 2 0 q) ∧ Hid (Rs w Z (cellC 2 0 q)) := ⟨_, rfl, Lib.hid (R3.out.put _)⟩
    rw [← hZ]
    clear hZ
    obtain ⟨y0, y1, y2⟩ := three_of HZ.out.r
    refine bodyPost_ret (v := twoC 2 0 q 0) ?_ rfl ?_
    · simp [results, Tryz.results6, go_sem, y0, y1, y2, twoC, cellC]
    · exact ⟨by rw [HRS.out, if_neg (by simp)], HZ.out.below⟩
  · have hfe : f = xd := by rw [HFF.out, if_neg h2]
    have d1 : decide (xd < 1) = false := decide_eq_false h2
    subst hfe
    clear h2 HFF
    obtain ⟨c0, c1, c2⟩ := HCL.out _ R2.out.below 0 c rfl
    simp only [Nat.zero_mul, Nat.add_zero] at c0 c1 c2
    obtain ⟨d0, d1, d2⟩ := HCL.out _ R2.out.below 1 d rfl
    simp only [Nat.one_mul] at d0 d1 d2
    go_wp2_with fail
    refine (HC.out _).mono ?_
    rintro e u3 ⟨rfl, bb⟩
    have R3 := Lib.hid (R2.out.after bb)
    clear bb c0 c1 c2 d0 d1 d2 R2
    go_wp2_with (refine wpList_store_row rfl 25 (.tmp 4) (.tmp 161) rfl w.heap.size (cellC 2 0 q) rfl rfl 25 zeroC R3.out.r.row HI rfl (cell_one3 _ _ _) ?_)
    obtain ⟨Z, hZ, HZ⟩ : ∃ Z, Z = u3.setRow w.heap.size (cellC 2 0 q) ∧ Hid (Rs w Z (cellC 2 0 q)) := ⟨_, rfl, Lib.hid (R3.out.put _)⟩
    rw [← hZ]
    clear hZ
    obtain ⟨y0, y1, y2⟩ := three_of HZ.out.r
    refine bodyPost_ret (v := twoC 2 0 q 0) ?_ rfl ?_
    · simp [results, Tryz.results6, go_sem, y0, y1, y2, twoC, cellC]
    · exact ⟨by rw [HRS.out, if_neg (by simp)], HZ.out.below⟩

set_option maxRecDepth 100000 in
set_option maxHeartbeats 1000000 in
theorem own_substr_3 {R : OwnRef} (H : OwnRefOk R) (c : Cel) (d : Cel) (e : Cel) (p : Option Addr) (cap : Nat) (hc : Fits c.n ∧ c.s.size ≤ 300) (hd : Fits d.n ∧ d.s.size ≤ 300) (he : Fits e.n ∧ e.s.size ≤ 300) (w : World) (hca : CellsAt w p 3 cap [c, d, e]) :
    Calls Tryz.prog 6 #[.string ⟨#[115, 117, 98, 115, 116, 114]⟩, .slice p 3 cap] w fun e0 w' => e0 = .returned (ownF R ⟨#[115, 117, 98, 115, 116, 114]⟩ [c, d, e]) ∧ Below w.heap.size w w' := by
  have HI := info_cell
  obtain ⟨b, off, rfl, hcl⟩ := hca.at_ (by simp)
  have HCL := Lib.hid hcl
  have hroom := hca.room
  have HH := Lib.hid H
  have HSc := Lib.hid (fun w => refStr_any c.k c.n c.s hc.1 w)
  have Zc : Hid ((strC c.k c.n c.s).size ≤ 300) := Lib.hid (strC_size c.k c.n c.s hc.2)
  have Fc := Lib.hid hc
  have HSd := Lib.hid (fun w => refStr_any d.k d.n d.s hd.1 w)
  have Zd : Hid ((strC d.k d.n d.s).size ≤ 300) := Lib.hid (strC_size d.k d.n d.s hd.2)
  have Fd := Lib.hid hd
  have HSe := Lib.hid (fun w => refStr_any e.k e.n e.s he.1 w)
  have Ze : Hid ((strC e.k e.n e.s).size ≤ 300) := Lib.hid (strC_size e.k e.n e.s he.2)
  have Fe := Lib.hid he
  clear H hcl hca hc hd he
  show Calls _ _ _ _ fun e0 w' => e0 = .returned (if (R.count d).2 ≠ 0 then errT (R.count d).2 else if (R.count e).2 ≠ 0 then errT (R.count e).2 else twoC 2 0 (R.sub (strC c.k c.n c.s) (R.count d).1 (R.count e).1) 0) ∧ Below w.heap.size w w'
  obtain ⟨z, hz⟩ : ∃ z, z = strC c.k c.n c.s := ⟨_, rfl⟩
  rw [← hz] at HSc Zc ⊢
  clear hz
  have HNd := Lib.hid (fun w => HH.out.count d w Fd.out.1 Fd.out.2)
  have HFTd := Lib.hid (HH.out.countFits d Fd.out.1)
  obtain ⟨xd, ed, hxd⟩ : ∃ x0 e0, R.count d = (x0, e0) := ⟨_, _, rfl⟩
  rw [hxd] at HNd HFTd ⊢
  simp only at HNd HFTd ⊢
  clear hxd
  have HNe := Lib.hid (fun w => HH.out.count e w Fe.out.1 Fe.out.2)
  have HFTe := Lib.hid (HH.out.countFits e Fe.out.1)
  obtain ⟨xe, ee, hxe⟩ : ∃ x0 e0, R.count e = (x0, e0) := ⟨_, _, rfl⟩
  rw [hxe] at HNe HFTe ⊢
  simp only at HNe HFTe ⊢
  clear hxe
  obtain ⟨q, hq⟩ : ∃ q, q = R.sub z xd xe := ⟨_, rfl⟩
  have HC := Lib.hid (fun w => by have h := HH.out.sub z xd xe w Zc.out HFTd.out HFTe.out; rw [← hq] at h; exact h)
  rw [← hq]
  obtain ⟨res, hres⟩ : ∃ res, res = (if ed ≠ 0 then errT ed else if ee ≠ 0 then errT ee else twoC 2 0 q 0) := ⟨_, rfl⟩
  rw [← hres]
  have HRS := Lib.hid hres
  clear hres hq HH
  obtain ⟨W, hW, HR⟩ := rs_new w zeroC
  go_enter Tryz.func6, Tryz.ntmps6
  go_upto_region 1 with (fail)
  change Code.wp _ _ _ _ (w.alloc (.cells zeroC 25))
  rw [← hW]
  clear hW
  obtain ⟨c0, c1, c2⟩ := HCL.out _ HR.out.below 0 c rfl
  simp only [Nat.zero_mul, Nat.add_zero] at c0 c1 c2
  obtain ⟨d0, d1, d2⟩ := HCL.out _ HR.out.below 1 d rfl
  simp only [Nat.one_mul] at d0 d1 d2
  obtain ⟨e0, e1, e2⟩ := HCL.out _ HR.out.below 2 e rfl
  simp only [Nat.reduceMul] at e0 e1 e2
  go_wp2_with fail
  refine (HSc.out _).mono ?_
  rintro e u1 ⟨rfl, bb⟩
  have R1 := Lib.hid (HR.out.after bb)
  clear bb c0 c1 c2 d0 d1 d2 e0 e1 e2 HR
  obtain ⟨c0, c1, c2⟩ := HCL.out _ R1.out.below 0 c rfl
  simp only [Nat.zero_mul, Nat.add_zero] at c0 c1 c2
  obtain ⟨d0, d1, d2⟩ := HCL.out _ R1.out.below 1 d rfl
  simp only [Nat.one_mul] at d0 d1 d2
  obtain ⟨e0, e1, e2⟩ := HCL.out _ R1.out.below 2 e rfl
  simp only [Nat.reduceMul] at e0 e1 e2
  go_wp2_with fail
  refine (HNd.out _).mono ?_
  rintro e u2 ⟨rfl, bb⟩
  have R2 := Lib.hid (R1.out.after bb)
  clear bb c0 c1 c2 d0 d1 d2 e0 e1 e2 R1
  by_cases h1 : ed = 0
  case neg =>
    have H1 := Lib.hid h1
    have hne : (ed != 0) = true := by simpa using h1
    clear h1
    go_wp2_with (refine wpList_store_row rfl 25 (.tmp 4) (.tmp 149) rfl w.heap.size (cellC 0 0 ⟨#[]⟩) rfl rfl 25 zeroC R2.out.r.row HI rfl (cell_one3 _ _ _) ?_)
    obtain ⟨Z, hZ, HZ⟩ : ∃ Z, Z = u2.setRow w.heap.size (cellC 0 0 ⟨#[]⟩) ∧ Hid (Rs w Z (cellC 0 0 ⟨#[]⟩)) := ⟨_, rfl, Lib.hid (R2.out.put _)⟩
    rw [← hZ]
    clear hZ
    obtain ⟨y0, y1, y2⟩ := three_of HZ.out.r
    refine bodyPost_ret (v := twoC 0 0 ⟨#[]⟩ ed) ?_ rfl ?_
    · simp [results, Tryz.results6, go_sem, y0, y1, y2, twoC, cellC]
    · exact ⟨by rw [HRS.out, if_pos H1.out]; rfl, HZ.out.below⟩
  subst h1
  obtain ⟨c0, c1, c2⟩ := HCL.out _ R2.out.below 0 c rfl
  simp only [Nat.zero_mul, Nat.add_zero] at c0 c1 c2
  obtain ⟨d0, d1, d2⟩ := HCL.out _ R2.out.below 1 d rfl
  simp only [Nat.one_mul] at d0 d1 d2
  obtain ⟨e0, e1, e2⟩ := HCL.out _ R2.out.below 2 e rfl
  simp only [Nat.reduceMul] at e0 e1 e2
  go_wp2_with fail
  refine (HNe.out _).mono ?_
  rintro e u3 ⟨rfl, bb⟩
  have R3 := Lib.hid (R2.out.after bb)
  clear bb c0 c1 c2 d0 d1 d2 e0 e1 e2 R2
  by_cases h1 : ee = 0
  case neg =>
    have H1 := Lib.hid h1
    have hne : (ee != 0) = true := by simpa using h1
    clear h1
    go_wp2_with (refine wpList_store_row rfl 25 (.tmp 4) (.tmp 171) rfl w.heap.size (cellC 0 0 ⟨#[]⟩) rfl rfl 25 zeroC R3.out.r.row HI rfl (cell_one3 _ _ _) ?_)
    obtain ⟨Z, hZ, HZ⟩ : ∃ Z, Z = u3.setRow w.heap.size (cellC 0 0 ⟨#[]⟩) ∧ Hid (Rs w Z (cellC 0 0 ⟨#[]⟩)) := ⟨_, rfl, Lib.hid (R3.out.put _)⟩
    rw [← hZ]
    clear hZ
    obtain ⟨y0, y1, y2⟩ := three_of HZ.out.r
    refine bodyPost_ret (v := twoC 0 0 ⟨#[]⟩ ee) ?_ rfl ?_
    · simp [results, Tryz.results6, go_sem, y0, y1, y2, twoC, cellC]
    · exact ⟨by rw [HRS.out, if_neg (by simp), if_pos H1.out]; rfl, HZ.out.below⟩
  subst h1
  obtain ⟨c0, c1, c2⟩ := HCL.out _ R3.out.below 0 c rfl
  simp only [Nat.zero_mul, Nat.add_zero] at c0 c1 c2
  obtain ⟨d0, d1, d2⟩ := HCL.out _ R3.out.below 1 d rfl
  simp only [Nat.one_mul] at d0 d1 d2
  obtain ⟨e0, e1, e2⟩ := HCL.out _ R3.out.below 2 e rfl
  simp only [Nat.reduceMul] at e0 e1 e2
  go_wp2_with fail
  refine (HC.out _).mono ?_
  rintro e u4 ⟨rfl, bb⟩
  have R4 := Lib.hid (R3.out.after bb)
  clear bb c0 c1 c2 d0 d1 d2 e0 e1 e2 R3
  go_wp2_with (refine wpList_store_row rfl 25 (.tmp 4) (.tmp 177) rfl w.heap.size (cellC 2 0 q) rfl rfl 25 zeroC R4.out.r.row HI rfl (cell_one3 _ _ _) ?_)
  obtain ⟨Z, hZ, HZ⟩ : ∃ Z, Z = u4.setRow w.heap.size (cellC 2 0 q) ∧ Hid (Rs w Z (cellC 2 0 q)) := ⟨_, rfl, Lib.hid (R4.out.put _)⟩
  rw [← hZ]
  clear hZ
  obtain ⟨y0, y1, y2⟩ := three_of HZ.out.r
  refine bodyPost_ret (v := twoC 2 0 q 0) ?_ rfl ?_
  · simp [results, Tryz.results6, go_sem, y0, y1, y2, twoC, cellC]
  · exact ⟨by rw [HRS.out, if_neg (by simp), if_neg (by simp)], HZ.out.below⟩

set_option maxRecDepth 100000 in
set_option maxHeartbeats 1000000 in
theorem own_none_length (p : Option Addr) (n cap : Nat) (h1 : n ≠ 1) (w : World) :
    Calls Tryz.prog 6 #[.string ⟨#[108, 101, 110, 103, 116, 104]⟩, .slice p n cap] w fun e w' => e = .returned (errT 1) ∧ Below w.heap.size w w' := by
  have HI := info_cell
  have d1 : ((n : Int) == 1) = false := by rw [beq_eq_false_iff_ne]; omega
  clear h1
  obtain ⟨W, hW, HR⟩ := rs_new w zeroC
  go_enter Tryz.func6, Tryz.ntmps6
  go_upto_region 1 with (fail)
  change Code.wp _ _ _ _ (w.alloc (.cells zeroC 25))
  rw [← hW]
  clear hW
  go_wp2_with (refine wpList_store_row rfl 25 (.tmp 4) (.tmp 67) rfl w.heap.size (cellC 0 0 ⟨#[]⟩) rfl rfl 25 zeroC HR.out.r.row HI rfl (cell_one3 _ _ _) ?_)
  obtain ⟨Z, hZ, HZ⟩ : ∃ Z, Z = W.setRow w.heap.size (cellC 0 0 ⟨#[]⟩) ∧ Hid (Rs w Z (cellC 0 0 ⟨#[]⟩)) := ⟨_, rfl, Lib.hid (HR.out.put _)⟩
  rw [← hZ]
  clear hZ
  obtain ⟨y0, y1, y2⟩ := three_of HZ.out.r
  refine bodyPost_ret (v := twoC 0 0 ⟨#[]⟩ 1) ?_ rfl ?_
  · simp [results, Tryz.results6, go_sem, y0, y1, y2, twoC, cellC]
  · exact ⟨rfl, HZ.out.below⟩

set_option maxRecDepth 100000 in
set_option maxHeartbeats 1000000 in
theorem own_none_int (p : Option Addr) (n cap : Nat) (h1 : n ≠ 1) (w : World) :
    Calls Tryz.prog 6 #[.string ⟨#[105, 110, 116]⟩, .slice p n cap] w fun e w' => e = .returned (errT 1) ∧ Below w.heap.size w w' := by
  have HI := info_cell
  have d1 : ((n : Int) == 1) = false := by rw [beq_eq_false_iff_ne]; omega
  clear h1
  obtain ⟨W, hW, HR⟩ := rs_new w zeroC
  go_enter Tryz.func6, Tryz.ntmps6
  go_upto_region 1 with (fail)
  change Code.wp _ _ _ _ (w.alloc (.cells zeroC 25))
  rw [← hW]
  clear hW
  go_wp2_with (refine wpList_store_row rfl 25 (.tmp 4) (.tmp 67) rfl w.heap.size (cellC 0 0 ⟨#[]⟩) rfl rfl 25 zeroC HR.out.r.row HI rfl (cell_one3 _ _ _) ?_)
  obtain ⟨Z, hZ, HZ⟩ : ∃ Z, Z = W.setRow w.heap.size (cellC 0 0 ⟨#[]⟩) ∧ Hid (Rs w Z (cellC 0 0 ⟨#[]⟩)) := ⟨_, rfl, Lib.hid (HR.out.put _)⟩
  rw [← hZ]
  clear hZ
  obtain ⟨y0, y1, y2⟩ := three_of HZ.out.r
  refine bodyPost_ret (v := twoC 0 0 ⟨#[]⟩ 1) ?_ rfl ?_
  · simp [results, Tryz.results6, go_sem, y0, y1, y2, twoC, cellC]
  · exact ⟨rfl, HZ.out.below⟩

set_option maxRecDepth 100000 in
set_option maxHeartbeats 1000000 in
theorem own_none_tolower (p : Option Addr) (n cap : Nat) (h1 : n ≠ 1) (w : World) :
    Calls Tryz.prog 6 #[.string ⟨#[116, 111, 108, 111, 119, 101, 114]⟩, .slice p n cap] w fun e w' => e = .returned (errT 1) ∧ Below w.heap.size w w' := by
  have HI := info_cell
  have d1 : ((n : Int) == 1) = false := by rw [beq_eq_false_iff_ne]; omega
  clear h1
  obtain ⟨W, hW, HR⟩ := rs_new w zeroC
  go_enter Tryz.func6, Tryz.ntmps6
  go_upto_region 1 with (fail)
  change Code.wp _ _ _ _ (w.alloc (.cells zeroC 25))
  rw [← hW]
  clear hW
  go_wp2_with (refine wpList_store_row rfl 25 (.tmp 4) (.tmp 67) rfl w.heap.size (cellC 0 0 ⟨#[]⟩) rfl rfl 25 zeroC HR.out.r.row HI rfl (cell_one3 _ _ _) ?_)
  obtain ⟨Z, hZ, HZ⟩ : ∃ Z, Z = W.setRow w.heap.size (cellC 0 0 ⟨#[]⟩) ∧ Hid (Rs w Z (cellC 0 0 ⟨#[]⟩)) := ⟨_, rfl, Lib.hid (HR.out.put _)⟩
  rw [← hZ]
  clear hZ
  obtain ⟨y0, y1, y2⟩ := three_of HZ.out.r
  refine bodyPost_ret (v := twoC 0 0 ⟨#[]⟩ 1) ?_ rfl ?_
  · simp [results, Tryz.results6, go_sem, y0, y1, y2, twoC, cellC]
  · exact ⟨rfl, HZ.out.below⟩

set_option maxRecDepth 100000 in
set_option maxHeartbeats 1000000 in
theorem own_none_toupper (p : Option Addr) (n cap : Nat) (h1 : n ≠ 1) (w : World) :
    Calls Tryz.prog 6 #[.string ⟨#[116, 111, 117, 112, 112, 101, 114]⟩, .slice p n cap] w fun e w' => e = .returned (errT 1) ∧ Below w.heap.size w w' := by
  have HI := info_cell
  have d1 : ((n : Int) == 1) = false := by rw [beq_eq_false_iff_ne]; omega
  clear h1
  obtain ⟨W, hW, HR⟩ := rs_new w zeroC
  go_enter Tryz.func6, Tryz.ntmps6
  go_upto_region 1 with (fail)
  change Code.wp _ _ _ _ (w.alloc (.cells zeroC 25))
  rw [← hW]
  clear hW
  go_wp2_with (refine wpList_store_row rfl 25 (.tmp 4) (.tmp 67) rfl w.heap.size (cellC 0 0 ⟨#[]⟩) rfl rfl 25 zeroC HR.out.r.row HI rfl (cell_one3 _ _ _) ?_)
  obtain ⟨Z, hZ, HZ⟩ : ∃ Z, Z = W.setRow w.heap.size (cellC 0 0 ⟨#[]⟩) ∧ Hid (Rs w Z (cellC 0 0 ⟨#[]⟩)) := ⟨_, rfl, Lib.hid (HR.out.put _)⟩
  rw [← hZ]
  clear hZ
  obtain ⟨y0, y1, y2⟩ := three_of HZ.out.r
  refine bodyPost_ret (v := twoC 0 0 ⟨#[]⟩ 1) ?_ rfl ?_
  · simp [results, Tryz.results6, go_sem, y0, y1, y2, twoC, cellC]
  · exact ⟨rfl, HZ.out.below⟩

set_option maxRecDepth 100000 in
set_option maxHeartbeats 1000000 in
theorem own_none_index (p : Option Addr) (n cap : Nat) (h2 : n ≠ 2) (w : World) :
    Calls Tryz.prog 6 #[.string ⟨#[105, 110, 100, 101, 120]⟩, .slice p n cap] w fun e w' => e = .returned (errT 1) ∧ Below w.heap.size w w' := by
  have HI := info_cell
  have d2 : ((n : Int) == 2) = false := by rw [beq_eq_false_iff_ne]; omega
  clear h2
  obtain ⟨W, hW, HR⟩ := rs_new w zeroC
  go_enter Tryz.func6, Tryz.ntmps6
  go_upto_region 1 with (fail)
  change Code.wp _ _ _ _ (w.alloc (.cells zeroC 25))
  rw [← hW]
  clear hW
  go_wp2_with (refine wpList_store_row rfl 25 (.tmp 4) (.tmp 67) rfl w.heap.size (cellC 0 0 ⟨#[]⟩) rfl rfl 25 zeroC HR.out.r.row HI rfl (cell_one3 _ _ _) ?_)
  obtain ⟨Z, hZ, HZ⟩ : ∃ Z, Z = W.setRow w.heap.size (cellC 0 0 ⟨#[]⟩) ∧ Hid (Rs w Z (cellC 0 0 ⟨#[]⟩)) := ⟨_, rfl, Lib.hid (HR.out.put _)⟩
  rw [← hZ]
  clear hZ
  obtain ⟨y0, y1, y2⟩ := three_of HZ.out.r
  refine bodyPost_ret (v := twoC 0 0 ⟨#[]⟩ 1) ?_ rfl ?_
  · simp [results, Tryz.results6, go_sem, y0, y1, y2, twoC, cellC]
  · exact ⟨rfl, HZ.out.below⟩

set_option maxRecDepth 100000 in
set_option maxHeartbeats 1000000 in
theorem own_none_substr (p : Option Addr) (n cap : Nat) (h2 : n ≠ 2) (h3 : n ≠ 3) (w : World) :
    Calls Tryz.prog 6 #[.string ⟨#[115, 117, 98, 115, 116, 114]⟩, .slice p n cap] w fun e w' => e = .returned (errT 1) ∧ Below w.heap.size w w' := by
  have HI := info_cell
  have d2 : ((n : Int) == 2) = false := by rw [beq_eq_false_iff_ne]; omega
  have d3 : ((n : Int) == 3) = false := by rw [beq_eq_false_iff_ne]; omega
  clear h2 h3
  obtain ⟨W, hW, HR⟩ := rs_new w zeroC
  go_enter Tryz.func6, Tryz.ntmps6
  go_upto_region 1 with (fail)
  change Code.wp _ _ _ _ (w.alloc (.cells zeroC 25))
  rw [← hW]
  clear hW
  go_wp2_with (refine wpList_store_row rfl 25 (.tmp 4) (.tmp 67) rfl w.heap.size (cellC 0 0 ⟨#[]⟩) rfl rfl 25 zeroC HR.out.r.row HI rfl (cell_one3 _ _ _) ?_)
  obtain ⟨Z, hZ, HZ⟩ : ∃ Z, Z = W.setRow w.heap.size (cellC 0 0 ⟨#[]⟩) ∧ Hid (Rs w Z (cellC 0 0 ⟨#[]⟩)) := ⟨_, rfl, Lib.hid (HR.out.put _)⟩
  rw [← hZ]
  clear hZ
  obtain ⟨y0, y1, y2⟩ := three_of HZ.out.r
  refine bodyPost_ret (v := twoC 0 0 ⟨#[]⟩ 1) ?_ rfl ?_
  · simp [results, Tryz.results6, go_sem, y0, y1, y2, twoC, cellC]
  · exact ⟨rfl, HZ.out.below⟩

set_option maxRecDepth 100000 in
set_option maxHeartbeats 1000000 in
theorem own_none_sprintf (p : Option Addr) (cap : Nat) (w : World) :
    Calls Tryz.prog 6 #[.string ⟨#[115, 112, 114, 105, 110, 116, 102]⟩, .slice p 0 cap] w fun e w' => e = .returned (errT 1) ∧ Below w.heap.size w w' := by
  have HI := info_cell
  obtain ⟨W, hW, HR⟩ := rs_new w zeroC
  go_enter Tryz.func6, Tryz.ntmps6
  go_upto_region 1 with (fail)
  change Code.wp _ _ _ _ (w.alloc (.cells zeroC 25))
  rw [← hW]
  clear hW
  go_wp2_with (refine wpList_store_row rfl 25 (.tmp 4) (.tmp 67) rfl w.heap.size (cellC 0 0 ⟨#[]⟩) rfl rfl 25 zeroC HR.out.r.row HI rfl (cell_one3 _ _ _) ?_)
  obtain ⟨Z, hZ, HZ⟩ : ∃ Z, Z = W.setRow w.heap.size (cellC 0 0 ⟨#[]⟩) ∧ Hid (Rs w Z (cellC 0 0 ⟨#[]⟩)) := ⟨_, rfl, Lib.hid (HR.out.put _)⟩
  rw [← hZ]
  clear hZ
  obtain ⟨y0, y1, y2⟩ := three_of HZ.out.r
  refine bodyPost_ret (v := twoC 0 0 ⟨#[]⟩ 1) ?_ rfl ?_
  · simp [results, Tryz.results6, go_sem, y0, y1, y2, twoC, cellC]
  · exact ⟨rfl, HZ.out.below⟩

set_option maxRecDepth 100000 in
set_option maxHeartbeats 1000000 in
theorem own_none_other (g : ByteArray) (p : Option Addr) (n cap : Nat) (h0 : g ≠ ⟨#[108, 101, 110, 103, 116, 104]⟩) (h1 : g ≠ ⟨#[105, 110, 116]⟩) (h2 : g ≠ ⟨#[116, 111, 108, 111, 119, 101, 114]⟩) (h3 : g ≠ ⟨#[116, 111, 117, 112, 112, 101, 114]⟩) (h4 : g ≠ ⟨#[105, 110, 100, 101, 120]⟩) (h5 : g ≠ ⟨#[115, 117, 98, 115, 116, 114]⟩) (h6 : g ≠ ⟨#[115, 112, 114, 105, 110, 116, 102]⟩) (w : World) :
    Calls Tryz.prog 6 #[.string g, .slice p n cap] w fun e w' => e = .returned (errT 1) ∧ Below w.heap.size w w' := by
  have HI := info_cell
  have f0 : (g.toList == [108, 101, 110, 103, 116, 104]) = false := ne_bytesP h0
  have f1 : (g.toList == [105, 110, 116]) = false := ne_bytesP h1
  have f2 : (g.toList == [116, 111, 108, 111, 119, 101, 114]) = false := ne_bytesP h2
  have f3 : (g.toList == [116, 111, 117, 112, 112, 101, 114]) = false := ne_bytesP h3
  have f4 : (g.toList == [105, 110, 100, 101, 120]) = false := ne_bytesP h4
  have f5 : (g.toList == [115, 117, 98, 115, 116, 114]) = false := ne_bytesP h5
  have f6 : (g.toList == [115, 112, 114, 105, 110, 116, 102]) = false := ne_bytesP h6
  clear h0 h1 h2 h3 h4 h5 h6
  obtain ⟨W, hW, HR⟩ := rs_new w zeroC
  go_enter Tryz.func6, Tryz.ntmps6
  go_upto_region 1 with (fail)
  change Code.wp _ _ _ _ (w.alloc (.cells zeroC 25))
  rw [← hW]
  clear hW
  go_wp2_with (refine wpList_store_row rfl 25 (.tmp 4) (.tmp 67) rfl w.heap.size (cellC 0 0 ⟨#[]⟩) rfl rfl 25 zeroC HR.out.r.row HI rfl (cell_one3 _ _ _) ?_)
  obtain ⟨Z, hZ, HZ⟩ : ∃ Z, Z = W.setRow w.heap.size (cellC 0 0 ⟨#[]⟩) ∧ Hid (Rs w Z (cellC 0 0 ⟨#[]⟩)) := ⟨_, rfl, Lib.hid (HR.out.put _)⟩
  rw [← hZ]
  clear hZ
  obtain ⟨y0, y1, y2⟩ := three_of HZ.out.r
  refine bodyPost_ret (v := twoC 0 0 ⟨#[]⟩ 1) ?_ rfl ?_
  · simp [results, Tryz.results6, go_sem, y0, y1, y2, twoC, cellC]
  · exact ⟨rfl, HZ.out.below⟩
end Go.Proofs.YtbbhcbpfffabpaaGreatDoor
