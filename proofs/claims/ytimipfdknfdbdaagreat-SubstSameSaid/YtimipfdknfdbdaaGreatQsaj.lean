/- Merged by program: E5Ere, Flat. -/
import Derived.Maps.AppendAt
import Derived.Test.YtimipfdknfdbdaaGreatQsai
import Derived.Test.YtimipfdknfdbdaaGreatQsaa
/- ere.Parse: walks. -/
namespace Go.Proofs.YtimipfdknfdbdaaGreat.E5
open Go.Proofs.YtimipfdknfdbdaaGreat Go.Proofs
open Go.RowKit

/-- The three named results' variables, and the reader. -/
theorem parse_box (w : World) (s : ByteArray) : ∃ W V, W = ((w.alloc (.cells zeroR 38)).alloc (.cells #[.int .i64 0] 3)).alloc (.cells #[.int .i64 0] 25) ∧ V = W.alloc (.cells #[.string s, .int .i64 0, .int .i64 0] 60) ∧
    Hid (Box W w.heap.size zeroR ∧ W.cell? ⟨w.heap.size + 1, 0, none⟩ = some (.int .i64 0) ∧ W.cell? ⟨w.heap.size + 1 + 1, 0, none⟩ = some (.int .i64 0) ∧ W.frozen? ⟨w.heap.size + 1, 0, none⟩ = false ∧ W.frozen? ⟨w.heap.size + 1 + 1, 0, none⟩ = false ∧ Below w.heap.size w W) ∧
    Hid (W.heap.size = w.heap.size + 1 + 1 + 1) ∧ Hid (Rdr V (w.heap.size + 1 + 1 + 1) s 0 0) ∧ Hid (Below W.heap.size W V) := by
  have b1 := below_new w (.cells zeroR 38)
  have b2 := below_new (w.alloc (.cells zeroR 38)) (.cells #[.int .i64 0] 3)
  have b3 := below_new ((w.alloc (.cells zeroR 38)).alloc (.cells #[.int .i64 0] 3)) (.cells #[.int .i64 0] 25)
  have s1 : (w.alloc (.cells zeroR 38)).heap.size = w.heap.size + 1 := World.size_alloc _ _
  have s2 : ((w.alloc (.cells zeroR 38)).alloc (.cells #[.int .i64 0] 3)).heap.size = w.heap.size + 1 + 1 := by rw [World.size_alloc, s1]
  have h2 := heap_alloc_last (w.alloc (.cells zeroR 38)) (.cells #[.int .i64 0] 3)
  have h3 := heap_alloc_last ((w.alloc (.cells zeroR 38)).alloc (.cells #[.int .i64 0] 3)) (.cells #[.int .i64 0] 25)
  rw [s1] at h2
  rw [s2] at h3
  have h2' := (b3.block (w.heap.size + 1) (by omega)).trans h2
  refine ⟨_, _, rfl, rfl, Lib.hid ⟨((box_new w zeroR).after b2).after b3, cell_of_row _ _ 0 _ _ (0, 0) h2', cell_of_row _ _ 0 _ _ (0, 0) h3, frozen_of_row _ _ 0 _ _ h2', frozen_of_row _ _ 0 _ _ h3, Below.step (Below.step b1 b2) b3⟩, Lib.hid (by rw [World.size_alloc, s2]), Lib.hid ⟨by have h4 := heap_alloc_last (((w.alloc (.cells zeroR 38)).alloc (.cells #[.int .i64 0] 3)).alloc (.cells #[.int .i64 0] 25)) (.cells #[.string s, .int .i64 0, .int .i64 0] 60); rw [World.size_alloc, s2] at h4; exact h4⟩, Lib.hid (below_new _ _)⟩

set_option maxRecDepth 100000 in
set_option maxHeartbeats 1000000 in
theorem parse_go (l : List UInt8) (t : Tree) (n : Nat) (hP : PatternAt l t n) (hn : n ≤ 20) (s : ByteArray) (hs : s.data.toList = l) (hz : s.size ≤ 400) (w : World) :
    Calls Tryz.prog 10 #[.string s] w fun e w' => ∃ ds, e = .returned (.tuple #[.agg ds, .int .i64 0, .int .i64 0]) ∧ At w' (Up w.heap.size) t ds ∧ Below w.heap.size w w' := by
  have hmf : ∀ (fn : Fn) (first cap : Array Value) (w : World), (Instr.makeFunc fn first cap).run Tryz.prog w = .ok (.func fn first cap) w := fun _ _ _ _ => rfl
  have HI := info_re
  have hlen : l.length = s.size := by rw [← hs]; simp
  have HP := Lib.hid (fun p w (h : Rdr w p s 0 0) => (hP s 0 0 p w [] (by rw [List.drop_zero, List.append_nil, hs]) (Or.inl rfl) hz (by omega) (by omega) h).1 (by omega))
  rw [hlen, Nat.zero_add] at HP
  clear hP hs hlen
  go_enter_defers Tryz.func10, Tryz.ntmps10
  go_upto_region 5 with (fail)
  obtain ⟨W, V, hW, hV, HW, hsW, HR, HB⟩ := parse_box w s
  change Code.wp _ _ _ _ ((((w.alloc (Obj.cells zeroR 38)).alloc (Obj.cells #[.int .i64 0] 3)).alloc (Obj.cells #[.int .i64 0] 25)).alloc (Obj.cells #[.string s, .int .i64 0, .int .i64 0] 60))
  rw [← hW, ← hV]
  clear hW hV
  have X1 := Lib.hid (HW.out.1.after HB.out)
  have hA1 : Hid (V.cell? ⟨w.heap.size + 1, 0, none⟩ = some (.int .i64 0) ∧ V.frozen? ⟨w.heap.size + 1, 0, none⟩ = false) := Lib.hid ⟨by rw [HB.out.cell (p := ⟨w.heap.size + 1, 0, none⟩) (by show w.heap.size + 1 < W.heap.size; rw [hsW.out]; omega)]; exact HW.out.2.1, by rw [HB.out.frozen (p := ⟨w.heap.size + 1, 0, none⟩) (by show w.heap.size + 1 < W.heap.size; rw [hsW.out]; omega)]; exact HW.out.2.2.2.1⟩
  have hE1 : Hid (V.cell? ⟨w.heap.size + 1 + 1, 0, none⟩ = some (.int .i64 0) ∧ V.frozen? ⟨w.heap.size + 1 + 1, 0, none⟩ = false) := Lib.hid ⟨by rw [HB.out.cell (p := ⟨w.heap.size + 1 + 1, 0, none⟩) (by show w.heap.size + 1 + 1 < W.heap.size; rw [hsW.out]; omega)]; exact HW.out.2.2.1, by rw [HB.out.frozen (p := ⟨w.heap.size + 1 + 1, 0, none⟩) (by show w.heap.size + 1 + 1 < W.heap.size; rw [hsW.out]; omega)]; exact HW.out.2.2.2.2.1⟩
  have B1 := Lib.hid (HW.out.2.2.2.2.2.trans (HB.out.mono (by rw [hsW.out]; omega)))
  have hVl := HR.out.lt
  go_wp2_with fail
  refine (HP.out _ _ HR.out).mono ?_
  rintro e w1 ⟨ds, rfl, hat, R1, b1⟩
  have X2 := Lib.hid (X1.out.but b1 (by omega))
  have R2 := Lib.hid R1
  have B2 := Lib.hid (B1.out.trans (b1.below (B := w.heap.size) (by omega) (by omega)))
  have hkeep : ∀ k, k < V.heap.size → k ≠ w.heap.size + 1 + 1 + 1 → w1.heap[k]? = V.heap[k]? := b1.block
  have hA2 : Hid (w1.cell? ⟨w.heap.size + 1, 0, none⟩ = some (.int .i64 0) ∧ w1.frozen? ⟨w.heap.size + 1, 0, none⟩ = false) := Lib.hid ⟨by rw [World.cell?_of_block (hkeep (w.heap.size + 1) (by omega) (by omega))]; exact hA1.out.1, by rw [World.frozen?_of_block (hkeep (w.heap.size + 1) (by omega) (by omega))]; exact hA1.out.2⟩
  have hE2 : Hid (w1.cell? ⟨w.heap.size + 1 + 1, 0, none⟩ = some (.int .i64 0) ∧ w1.frozen? ⟨w.heap.size + 1 + 1, 0, none⟩ = false) := Lib.hid ⟨by rw [World.cell?_of_block (hkeep (w.heap.size + 1 + 1) (by omega) (by omega))]; exact hE1.out.1, by rw [World.frozen?_of_block (hkeep (w.heap.size + 1 + 1) (by omega) (by omega))]; exact hE1.out.2⟩
  have T2 := Lib.hid hat
  obtain ⟨a, c, e, _⟩ := hat.opens
  subst e
  have hw1 := b1.size
  clear b1 R1 hat hkeep
  go_upto_region 6 with (refine wpList_store_row rfl 38 (.tmp 2) (.tmp 16) rfl w.heap.size (reC t.k t.f t.lo t.hi (.slice a t.kids.length c)) rfl rfl 38 zeroR X2.out.row HI rfl (re_one _ _ _ _ _ _ _) ?_)
  obtain ⟨D, hD, X3, R3, B3, hA3, hE3, T3⟩ : ∃ D, D = w1.setRow w.heap.size (reC t.k t.f t.lo t.hi (.slice a t.kids.length c)) ∧ Hid (Box D w.heap.size (reC t.k t.f t.lo t.hi (.slice a t.kids.length c))) ∧ Hid (Rdr D (w.heap.size + 1 + 1 + 1) s s.size 0) ∧ Hid (Below w.heap.size w D) ∧
      Hid (D.cell? ⟨w.heap.size + 1, 0, none⟩ = some (.int .i64 0) ∧ D.frozen? ⟨w.heap.size + 1, 0, none⟩ = false) ∧ Hid (D.cell? ⟨w.heap.size + 1 + 1, 0, none⟩ = some (.int .i64 0) ∧ D.frozen? ⟨w.heap.size + 1 + 1, 0, none⟩ = false) ∧ Hid (At D (Up V.heap.size) t (reC t.k t.f t.lo t.hi (.slice a t.kids.length c))) :=
    ⟨_, rfl, Lib.hid (X2.out.setRow _), Lib.hid (R2.out.setRow (by omega) _), Lib.hid (below_setRow B2.out (Nat.le_refl _) _),
      Lib.hid ⟨by rw [World.cell?_of_block (w := w1) (Go.setRow_other _ _ _ _ (by show w.heap.size + 1 ≠ _; omega))]; exact hA2.out.1, by rw [World.frozen?_of_block (w := w1) (Go.setRow_other _ _ _ _ (by show w.heap.size + 1 ≠ _; omega))]; exact hA2.out.2⟩,
      Lib.hid ⟨by rw [World.cell?_of_block (w := w1) (Go.setRow_other _ _ _ _ (by show w.heap.size + 1 + 1 ≠ _; omega))]; exact hE2.out.1, by rw [World.frozen?_of_block (w := w1) (Go.setRow_other _ _ _ _ (by show w.heap.size + 1 + 1 ≠ _; omega))]; exact hE2.out.2⟩,
      Lib.hid (T2.out.setRow (by omega) _)⟩
  rw [← hD]
  clear hD
  have c1 := R3.out.c1
  obtain ⟨d0, d1, d2, d3, d4, d5, d6, d7⟩ := eight_re X3.out.eight
  have eA : (D.setRow w.heap.size (reC t.k t.f t.lo t.hi (.slice a t.kids.length c))).cell? ⟨w.heap.size + 1, 0, none⟩ = some (.int .i64 0) := by rw [World.cell?_of_block (w := D) (Go.setRow_other _ _ _ _ (by show w.heap.size + 1 ≠ _; omega))]; exact hA3.out.1
  have zA : (D.setRow w.heap.size (reC t.k t.f t.lo t.hi (.slice a t.kids.length c))).frozen? ⟨w.heap.size + 1, 0, none⟩ = false := by rw [World.frozen?_of_block (w := D) (Go.setRow_other _ _ _ _ (by show w.heap.size + 1 ≠ _; omega))]; exact hA3.out.2
  have eE : (D.setRow w.heap.size (reC t.k t.f t.lo t.hi (.slice a t.kids.length c))).cell? ⟨w.heap.size + 1 + 1, 0, none⟩ = some (.int .i64 0) := by rw [World.cell?_of_block (w := D) (Go.setRow_other _ _ _ _ (by show w.heap.size + 1 + 1 ≠ _; omega))]; exact hE3.out.1
  have zE : (D.setRow w.heap.size (reC t.k t.f t.lo t.hi (.slice a t.kids.length c))).frozen? ⟨w.heap.size + 1 + 1, 0, none⟩ = false := by rw [World.frozen?_of_block (w := D) (Go.setRow_other _ _ _ _ (by show w.heap.size + 1 + 1 ≠ _; omega))]; exact hE3.out.2
  go_wp2_with (refine wpList_store_row rfl 38 (.tmp 2) (.tmp 30) rfl w.heap.size (reC t.k t.f t.lo t.hi (.slice a t.kids.length c)) rfl rfl 38 (reC t.k t.f t.lo t.hi (.slice a t.kids.length c)) X3.out.row HI rfl (re_one _ _ _ _ _ _ _) ?_)
  obtain ⟨Z, hZ, XZ, AZ, EZ, TZ, BZ⟩ : ∃ Z, Z = ((D.setRow w.heap.size (reC t.k t.f t.lo t.hi (.slice a t.kids.length c))).setCell ⟨w.heap.size + 1, 0, none⟩ (.int .i64 0)).setCell ⟨w.heap.size + 1 + 1, 0, none⟩ (.int .i64 0) ∧ Hid (Box Z w.heap.size (reC t.k t.f t.lo t.hi (.slice a t.kids.length c))) ∧ Hid (Z.cell? ⟨w.heap.size + 1, 0, none⟩ = some (.int .i64 0)) ∧ Hid (Z.cell? ⟨w.heap.size + 1 + 1, 0, none⟩ = some (.int .i64 0)) ∧ Hid (At Z (Up V.heap.size) t (reC t.k t.f t.lo t.hi (.slice a t.kids.length c))) ∧ Hid (Below w.heap.size w Z) :=
    ⟨_, rfl, Lib.hid (((X3.out.setRow _).other (by omega) 0 _).other (by omega) 0 _), Lib.hid (by rw [cell_other (addr_ne (Or.inl (by omega)))]; exact cell_same eA), Lib.hid (cell_same (by rw [cell_other (addr_ne (Or.inl (by omega)))]; exact eE)),
      Lib.hid (((T3.out.setRow (by omega) _).but (but_put _ _ _ _) (by omega)).but (but_put _ _ _ _) (by omega)), Lib.hid (((below_setRow B3.out (Nat.le_refl _) _).setCell (by simp) _).setCell (by simp; omega) _)⟩
  rw [← hZ]
  clear hZ eA zA eE zE c1 d0 d1 d2 d3 d4 d5 d6 d7
  refine leaves_cons (f := 17) (args := #[.pointer (some ⟨w.heap.size, 0, none⟩), .pointer (some ⟨w.heap.size + 1, 0, none⟩), .pointer (some ⟨w.heap.size + 1 + 1, 0, none⟩)]) (by simp) (by simp [go_sem]) ?_
  refine (catch_idle ⟨w.heap.size, 0, none⟩ ⟨w.heap.size + 1, 0, none⟩ ⟨w.heap.size + 1 + 1, 0, none⟩ Z).mono ?_
  rintro e u' w'' ⟨rfl, rfl, rfl⟩
  obtain ⟨d0, d1, d2, d3, d4, d5, d6, d7⟩ := eight_re XZ.out.eight
  have eA := AZ.out; have eE := EZ.out
  refine ⟨.tuple #[.agg (reC t.k t.f t.lo t.hi (.slice a t.kids.length c)), .int .i64 0, .int .i64 0], ?_, ?_⟩
  · simp [results, Tryz.results10, go_sem, d0, d1, d2, d3, d4, d5, d6, d7, eA, eE, reC]
  · exact ⟨_, rfl, TZ.out.weak (by omega), BZ.out⟩

set_option maxRecDepth 100000 in
set_option maxHeartbeats 1000000 in
theorem parse_long (s : ByteArray) (hz : 400 < s.size) (w : World) :
    Calls Tryz.prog 10 #[.string s] w fun e w' => ∃ a x : Int, e = .returned (.tuple #[.agg zeroR, .int .i64 a, .int .i64 x]) ∧ x = 2 ∧ Below w.heap.size w w' := by
  have hmf : ∀ (fn : Fn) (first cap : Array Value) (w : World), (Instr.makeFunc fn first cap).run Tryz.prog w = .ok (.func fn first cap) w := fun _ _ _ _ => rfl
  go_enter_defers Tryz.func10, Tryz.ntmps10
  go_wp2_with fail
  obtain ⟨W, V, hW, hV, HW, hsW, HR, HB⟩ := parse_box w s
  change bodyPostD _ _ _ _ _ (((w.alloc (Obj.cells zeroR 38)).alloc (Obj.cells #[.int .i64 0] 3)).alloc (Obj.cells #[.int .i64 0] 25))
  rw [← hW]
  clear hW hV HR HB V
  refine leaves_cons (f := 17) (args := #[.pointer (some ⟨w.heap.size, 0, none⟩), .pointer (some ⟨w.heap.size + 1, 0, none⟩), .pointer (some ⟨w.heap.size + 1 + 1, 0, none⟩)]) (by simp) (by simp [go_sem]) ?_
  refine (catch_fault w.heap.size (w.heap.size + 1) (w.heap.size + 1 + 1) 0 2 W HW.out.1 HW.out.2.1 HW.out.2.2.2.1 HW.out.2.2.1 HW.out.2.2.2.2.1 (by omega) (by omega) (by omega)).mono ?_
  rintro e u' w'' ⟨rfl, rfl, hC⟩
  obtain ⟨d0, d1, d2, d3, d4, d5, d6, d7⟩ := eight_zero hC.box.eight
  have eA := hC.a; have eE := hC.e
  refine ⟨.tuple #[.agg zeroR, .int .i64 0, .int .i64 2], ?_, ?_⟩
  · simp [results, Tryz.results10, go_sem, d0, d1, d2, d3, d4, d5, d6, d7, eA, eE, zeroR, reC, zero4]
  · refine ⟨_, _, rfl, rfl, ⟨hC.os.trans HW.out.2.2.2.2.2.os, hC.tape.trans HW.out.2.2.2.2.2.tape, hC.output.trans HW.out.2.2.2.2.2.output, Nat.le_trans HW.out.2.2.2.2.2.size hC.size, fun k hk => (hC.block k (by have := HW.out.2.2.2.2.2.size; omega) (by omega) (by omega) (by omega)).trans (HW.out.2.2.2.2.2.block k hk)⟩⟩

set_option maxRecDepth 100000 in
set_option maxHeartbeats 1000000 in
theorem parse_fell (l : List UInt8) (t : Tree) (n : Nat) (hP : PatternAt l t n) (hn : 20 < n) (s : ByteArray) (hs : s.data.toList = l) (hz : s.size ≤ 400) (w : World) :
    Calls Tryz.prog 10 #[.string s] w fun e w' => ∃ a x : Int, e = .returned (.tuple #[.agg zeroR, .int .i64 a, .int .i64 x]) ∧ x = 2 ∧ Below w.heap.size w w' := by
  have hmf : ∀ (fn : Fn) (first cap : Array Value) (w : World), (Instr.makeFunc fn first cap).run Tryz.prog w = .ok (.func fn first cap) w := fun _ _ _ _ => rfl
  have HP := Lib.hid (fun p w (h : Rdr w p s 0 0) => (hP s 0 0 p w [] (by rw [List.drop_zero, List.append_nil, hs]) (Or.inl rfl) hz (by omega) (by omega) h).2 (by omega))
  clear hP hs
  go_enter_defers Tryz.func10, Tryz.ntmps10
  go_upto_region 5 with (fail)
  obtain ⟨W, V, hW, hV, HW, hsW, HR, HB⟩ := parse_box w s
  change Code.wp _ _ _ _ ((((w.alloc (Obj.cells zeroR 38)).alloc (Obj.cells #[.int .i64 0] 3)).alloc (Obj.cells #[.int .i64 0] 25)).alloc (Obj.cells #[.string s, .int .i64 0, .int .i64 0] 60))
  rw [← hW, ← hV]
  clear hW hV
  have X1 := Lib.hid (HW.out.1.after HB.out)
  have hA1 : Hid (V.cell? ⟨w.heap.size + 1, 0, none⟩ = some (.int .i64 0) ∧ V.frozen? ⟨w.heap.size + 1, 0, none⟩ = false) := Lib.hid ⟨by rw [HB.out.cell (p := ⟨w.heap.size + 1, 0, none⟩) (by show w.heap.size + 1 < W.heap.size; rw [hsW.out]; omega)]; exact HW.out.2.1, by rw [HB.out.frozen (p := ⟨w.heap.size + 1, 0, none⟩) (by show w.heap.size + 1 < W.heap.size; rw [hsW.out]; omega)]; exact HW.out.2.2.2.1⟩
  have hE1 : Hid (V.cell? ⟨w.heap.size + 1 + 1, 0, none⟩ = some (.int .i64 0) ∧ V.frozen? ⟨w.heap.size + 1 + 1, 0, none⟩ = false) := Lib.hid ⟨by rw [HB.out.cell (p := ⟨w.heap.size + 1 + 1, 0, none⟩) (by show w.heap.size + 1 + 1 < W.heap.size; rw [hsW.out]; omega)]; exact HW.out.2.2.1, by rw [HB.out.frozen (p := ⟨w.heap.size + 1 + 1, 0, none⟩) (by show w.heap.size + 1 + 1 < W.heap.size; rw [hsW.out]; omega)]; exact HW.out.2.2.2.2.1⟩
  have B1 := Lib.hid (HW.out.2.2.2.2.2.trans (HB.out.mono (by rw [hsW.out]; omega)))
  have hVl := HR.out.lt
  go_wp2_with fail
  refine (HP.out _ _ HR.out).mono ?_
  rintro e w1 ⟨a, rfl, b1⟩
  have X2 := Lib.hid (X1.out.but b1 (by omega))
  have B2 := Lib.hid (B1.out.trans (b1.below (B := w.heap.size) (by omega) (by omega)))
  have hkeep : ∀ k, k < V.heap.size → k ≠ w.heap.size + 1 + 1 + 1 → w1.heap[k]? = V.heap[k]? := b1.block
  have hA2 : Hid (w1.cell? ⟨w.heap.size + 1, 0, none⟩ = some (.int .i64 0) ∧ w1.frozen? ⟨w.heap.size + 1, 0, none⟩ = false) := Lib.hid ⟨by rw [World.cell?_of_block (hkeep (w.heap.size + 1) (by omega) (by omega))]; exact hA1.out.1, by rw [World.frozen?_of_block (hkeep (w.heap.size + 1) (by omega) (by omega))]; exact hA1.out.2⟩
  have hE2 : Hid (w1.cell? ⟨w.heap.size + 1 + 1, 0, none⟩ = some (.int .i64 0) ∧ w1.frozen? ⟨w.heap.size + 1 + 1, 0, none⟩ = false) := Lib.hid ⟨by rw [World.cell?_of_block (hkeep (w.heap.size + 1 + 1) (by omega) (by omega))]; exact hE1.out.1, by rw [World.frozen?_of_block (hkeep (w.heap.size + 1 + 1) (by omega) (by omega))]; exact hE1.out.2⟩
  have hw1 := b1.size
  clear b1 hkeep
  go_wp2_with fail
  refine leaves_cons (f := 17) (args := #[.pointer (some ⟨w.heap.size, 0, none⟩), .pointer (some ⟨w.heap.size + 1, 0, none⟩), .pointer (some ⟨w.heap.size + 1 + 1, 0, none⟩)]) (by simp) (by simp [go_sem]) ?_
  refine (catch_fault w.heap.size (w.heap.size + 1) (w.heap.size + 1 + 1) a 2 w1 X2.out hA2.out.1 hA2.out.2 hE2.out.1 hE2.out.2 (by omega) (by omega) (by omega)).mono ?_
  rintro e u' w'' ⟨rfl, rfl, hC⟩
  obtain ⟨d0, d1, d2, d3, d4, d5, d6, d7⟩ := eight_zero hC.box.eight
  have eA := hC.a; have eE := hC.e
  refine ⟨.tuple #[.agg zeroR, .int .i64 a, .int .i64 2], ?_, ?_⟩
  · simp [results, Tryz.results10, go_sem, d0, d1, d2, d3, d4, d5, d6, d7, eA, eE, zeroR, reC, zero4]
  · refine ⟨_, _, rfl, rfl, ⟨hC.os.trans B2.out.os, hC.tape.trans B2.out.tape, hC.output.trans B2.out.output, Nat.le_trans B2.out.size hC.size, fun k hk => (hC.block k (by have := B2.out.size; omega) (by omega) (by omega) (by omega)).trans (B2.out.block k hk)⟩⟩
end Go.Proofs.YtimipfdknfdbdaaGreat.E5

/- Rows of a slice's elements' cells, a slice that a call owns; plain lemmas. -/
namespace Go.Proofs.YtimipfdknfdbdaaGreat
open Go.RowKit

theorem owns_after {w w' : World} {base : Nat} {e : TypeId} {size : Nat} {v : Value} {n : Nat} {xs : List Value} (h : w.ownsRow base e size v n xs) (hb : Below w.heap.size w w') : w'.ownsRow base e size v n xs :=
  h.kept (row := none) ⟨hb.os, hb.tape, hb.output, hb.size, fun k hk _ => hb.block k hk⟩ (by cases v.ownBlock <;> simp)
theorem owns_but {p : Nat} {w w' : World} {base : Nat} {e : TypeId} {size : Nat} {v : Value} {n : Nat} {xs : List Value} (h : w.ownsRow base e size v n xs) (hb : But p w w') (hp : v.ownBlock ≠ some p) : w'.ownsRow base e size v n xs :=
  h.kept (row := some p) ⟨hb.os, hb.tape, hb.output, hb.size, fun k hk e => hb.block k hk (fun e' => e (by rw [e']))⟩ (Or.inr hp)

/-- The cells of the first so many parts. -/
def flatC (cs : Nat → Array Value) (n : Nat) : List Value := (List.range n).flatMap fun j => (cs j).toList
theorem flatC_succ (cs : Nat → Array Value) (n : Nat) : flatC cs (n + 1) = flatC cs n ++ (cs n).toList := by
  unfold flatC
  rw [List.range_succ, List.flatMap_append]
  simp
theorem flatC_len (m : Nat) (cs : Nat → Array Value) (n : Nat) (h : ∀ j, j < n → (cs j).size = m) : (flatC cs n).length = n * m := by
  induction n with
  | zero => simp [flatC]
  | succ n ih =>
    rw [flatC_succ, List.length_append, ih fun j hj => h j (by omega)]
    have := h n (by omega)
    simp only [Array.length_toList, this]
    rw [Nat.add_mul, Nat.one_mul]
theorem flatC_get (m : Nat) (cs : Nat → Array Value) (n : Nat) (h : ∀ j, j < n → (cs j).size = m) (i : Nat) (hi : i < n) (j : Nat) (hj : j < m) : (flatC cs n)[i * m + j]? = (cs i)[j]? := by
  induction n with
  | zero => omega
  | succ n ih =>
    rw [flatC_succ]
    have hl := flatC_len m cs n fun j hj => h j (by omega)
    by_cases e : i < n
    · have h1 : i * m + j < n * m := by
        have : (i + 1) * m ≤ n * m := Nat.mul_le_mul_right m e
        rw [Nat.add_mul, Nat.one_mul] at this
        omega
      rw [List.getElem?_append_left (by omega)]
      exact ih (fun j hj => h j (by omega)) e
    · obtain rfl : i = n := by omega
      rw [List.getElem?_append_right (by omega), hl]
      simp
theorem flatC_congr {cs ds : Nat → Array Value} {n : Nat} (h : ∀ j, j < n → cs j = ds j) : flatC cs n = flatC ds n := by
  induction n with
  | zero => rfl
  | succ n ih => rw [flatC_succ, flatC_succ, ih fun j hj => h j (by omega), h n (by omega)]
theorem info_re : (Tryz.prog.info? 38).map (·.size) = some 8 := by kernel_rfl
theorem info_re3 : (Tryz.prog.info? 38).map (fun i => (i.zero, i.size, i.bytes)) = some (some (.agg #[.int .i64 0, .int .u64 0, .int .u64 0, .int .u64 0, .int .u64 0, .int .i64 0, .int .i64 0, .slice none 0 0]), 8, 80) := by kernel_rfl
theorem re_one (k : Int) (f : Nat → Nat) (lo hi : Int) (a : Option Addr) (n c : Nat) : (reC k f lo hi (.slice a n c)).all (·.oneCell') = true := by
  unfold reC
  simp [Value.oneCell']
end Go.Proofs.YtimipfdknfdbdaaGreat
