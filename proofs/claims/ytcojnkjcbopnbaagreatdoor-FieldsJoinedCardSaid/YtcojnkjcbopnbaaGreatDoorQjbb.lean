/- Merged by program: CatchA, EreA. -/
import Derived.Defers
import Derived.Recover
import Derived.Test.YtcojnkjcbopnbaaGreatDoorQjba
/- ere.Parse's deferred closure: walks. -/
namespace Go.Proofs.YtcojnkjcbopnbaaGreatDoor
open Go.RowKit

set_option maxRecDepth 100000 in
theorem catch_idle (a b c : Addr) (w : World) :
    CallsD Tryz.prog 64 #[.pointer (some a), .pointer (some b), .pointer (some c)] .returning w fun e u' w' => e = .returned (.tuple #[]) ∧ u' = .returning ∧ w' = w := by
  refine callsD_of_wpS Tryz.func64 rfl fun c₀ cs hu => ?_
  apply wpS_seq
  apply wpS_region
  simp [wpOpsS, go_sem, recoverD, hu, Tryz.ntmps64, Exit.thenS]
  refine wpS_of_wp ?_
  go_wp2_with fail
  cases c₀
  simp_all [bodyPostS, results, Tryz.results64]

/-- What the closure leaves: the three results. -/
structure Caught (w w' : World) (R A E : Nat) (cs : Array Value) (at_ x : Int) : Prop where
  box : Box w' R cs
  a : w'.cell? ⟨A, 0, none⟩ = some (.int .i64 at_)
  e : w'.cell? ⟨E, 0, none⟩ = some (.int .i64 x)
  block : ∀ k, k < w.heap.size → k ≠ R → k ≠ A → k ≠ E → w'.heap[k]? = w.heap[k]?
  os : w'.os = w.os
  tape : w'.tape = w.tape
  output : w'.output = w.output
  size : w.heap.size ≤ w'.heap.size

theorem Caught.putR {w V : World} {R A E : Nat} {cs : Array Value} {at_ x : Int} (h : Caught w V R A E cs at_ x) (nRA : R ≠ A) (nRE : R ≠ E) (j : Nat) (v : Value) : Caught w (V.setCell ⟨R, j, none⟩ v) R A E (cs.setIfInBounds j v) at_ x :=
  ⟨h.box.put j v, by rw [cell_other (addr_ne (Or.inl nRA))]; exact h.a, by rw [cell_other (addr_ne (Or.inl nRE))]; exact h.e, fun k hk h1 h2 h3 => by rw [heap_setCell_other V ⟨R, j, none⟩ k v h1]; exact h.block k hk h1 h2 h3,
    h.os, h.tape, h.output, by rw [World.size_setCell]; exact h.size⟩
theorem Caught.putA {w V : World} {R A E : Nat} {cs : Array Value} {at_ x : Int} (h : Caught w V R A E cs at_ x) (nRA : R ≠ A) (nAE : A ≠ E) (y : Int) : Caught w (V.setCell ⟨A, 0, none⟩ (.int .i64 y)) R A E cs y x :=
  ⟨h.box.other nRA 0 _, cell_same h.a, by rw [cell_other (addr_ne (Or.inl nAE))]; exact h.e, fun k hk h1 h2 h3 => by rw [heap_setCell_other V ⟨A, 0, none⟩ k _ h2]; exact h.block k hk h1 h2 h3,
    h.os, h.tape, h.output, by rw [World.size_setCell]; exact h.size⟩
theorem Caught.putE {w V : World} {R A E : Nat} {cs : Array Value} {at_ x : Int} (h : Caught w V R A E cs at_ x) (nRE : R ≠ E) (nAE : A ≠ E) (y : Int) : Caught w (V.setCell ⟨E, 0, none⟩ (.int .i64 y)) R A E cs at_ y :=
  ⟨h.box.other nRE 0 _, by rw [cell_other (addr_ne (Or.inl (Ne.symm nAE)))]; exact h.a, cell_same h.e, fun k hk h1 h2 h3 => by rw [heap_setCell_other V ⟨E, 0, none⟩ k _ h3]; exact h.block k hk h1 h2 h3,
    h.os, h.tape, h.output, by rw [World.size_setCell]; exact h.size⟩
theorem Caught.drew {w V : World} {R A E : Nat} {cs : Array Value} {at_ x : Int} (h : Caught w V R A E cs at_ x) : Caught w V.drew R A E cs at_ x :=
  ⟨h.box.drew, h.a, h.e, h.block, h.os, h.tape, h.output, h.size⟩

theorem reC_zero (k : Int) (f : Nat → Nat) (lo hi : Int) (sl : Value) : ((((((((reC k f lo hi sl).setIfInBounds 0 (.int .i64 0)).setIfInBounds 1 (.int .u64 0)).setIfInBounds 2 (.int .u64 0)).setIfInBounds 3 (.int .u64 0)).setIfInBounds 4 (.int .u64 0)).setIfInBounds 5 (.int .i64 0)).setIfInBounds 6 (.int .i64 0)).setIfInBounds 7 (.slice none 0 0) = zeroR := by
  simp [reC, zeroR, zero4]

set_option maxRecDepth 100000 in
theorem catch_fault (k : Int) (f : Nat → Nat) (lo hi : Int) (a : Option Addr) (n c : Nat) (R A E : Nat) (at_ x : Int) (w : World) (hR : Box w R (reC k f lo hi (.slice a n c))) (hA : w.cell? ⟨A, 0, none⟩ = some (.int .i64 0)) (hAz : w.frozen? ⟨A, 0, none⟩ = false) (hE : w.cell? ⟨E, 0, none⟩ = some (.int .i64 0)) (hEz : w.frozen? ⟨E, 0, none⟩ = false) (hRA : R ≠ A) (hRE : R ≠ E) (hAE : A ≠ E) :
    CallsD Tryz.prog 64 #[.pointer (some ⟨R, 0, none⟩), .pointer (some ⟨A, 0, none⟩), .pointer (some ⟨E, 0, none⟩)] (.panicking ({ v := .iface 112 (.agg #[.int .i64 at_, .int .i64 x]), recovered := false } :: [])) w fun e u' w' =>
      e = .returned (.tuple #[]) ∧ u' = .panicking ({ v := .iface 112 (.agg #[.int .i64 at_, .int .i64 x]), recovered := true } :: []) ∧
        Caught w w' R A E zeroR at_ x := by
  have hta : ∀ w, (Instr.typeAssert (.iface 112 (.agg #[.int .i64 at_, .int .i64 x])) 20 112 false).run Tryz.prog w = .ok (.agg #[.int .i64 at_, .int .i64 x]) w := fun _ => by kernel_rfl
  refine callsD_of_wpS Tryz.func64 rfl fun c₀ cs hu => ?_
  apply wpS_seq
  apply wpS_region
  simp [wpOpsS, go_sem, recoverD, hu, Tryz.ntmps64, Exit.thenS, Array.replicate, List.replicate]
  refine wpS_of_wp ?_
  go_wp2_with fail
  have hRl := hR.lt
  have hAl := cell_lt hA
  have hEl := cell_lt hE
  simp only at hAl hEl
  have nR : ¬ w.heap.size = R := by omega
  have nA : ¬ w.heap.size = A := by omega
  have nE : ¬ w.heap.size = E := by omega
  have nRA : ¬ R = A := hRA
  have nRE : ¬ R = E := hRE
  have nAE : ¬ A = E := hAE
  have hbV := below_new w (.cells #[.int .i64 at_, .int .i64 x] 112)
  obtain ⟨V, hV, X, dA, dE, zA, zE, d0, d1, BV⟩ : ∃ V, V = w.alloc (.cells #[.int .i64 at_, .int .i64 x] 112) ∧ Hid (Box V R (reC k f lo hi (.slice a n c))) ∧ V.cell? ⟨A, 0, none⟩ = some (.int .i64 0) ∧ V.cell? ⟨E, 0, none⟩ = some (.int .i64 0) ∧ V.frozen? ⟨A, 0, none⟩ = false ∧ V.frozen? ⟨E, 0, none⟩ = false ∧ V.cell? ⟨w.heap.size, 0, none⟩ = some (.int .i64 at_) ∧ V.cell? ⟨w.heap.size, 1, none⟩ = some (.int .i64 x) ∧ Hid (Below w.heap.size w V) :=
    ⟨_, rfl, Lib.hid (hR.after hbV), by rw [hbV.cell (p := ⟨A, 0, none⟩) hAl]; exact hA, by rw [hbV.cell (p := ⟨E, 0, none⟩) hEl]; exact hE, by rw [hbV.frozen (p := ⟨A, 0, none⟩) hAl]; exact hAz, by rw [hbV.frozen (p := ⟨E, 0, none⟩) hEl]; exact hEz, cell_of_row _ _ 0 _ _ (0, 0) (heap_alloc_last w _), cell_of_row _ _ 1 _ _ (0, 0) (heap_alloc_last w _), Lib.hid hbV⟩
  rw [← hV]
  clear hV hbV hA hE hAz hEz hRl hAl hEl hRA hRE hAE hta
  obtain ⟨c0, c1, c2, c3, c4, c5, c6, c7⟩ := eight_re X.out.eight
  have z0 := X.out.z 0; have z1 := X.out.z 1; have z2 := X.out.z 2; have z3 := X.out.z 3; have z4 := X.out.z 4; have z5 := X.out.z 5; have z6 := X.out.z 6; have z7 := X.out.z 7
  go_region
  clear c0 c1 c2 c3 c4 c5 c6 c7 z0 z1 z2 z3 z4 z5 z6 z7 d0 d1 zA zE
  have h0 : Caught w V R A E (reC k f lo hi (.slice a n c)) 0 0 := ⟨X.out, dA, dE, fun k hk _ _ _ => BV.out.block k hk, BV.out.os, BV.out.tape, BV.out.output, BV.out.size⟩
  have h8 := (((((((h0.putR nRA nRE 0 (.int .i64 0)).putR nRA nRE 1 (.int .u64 0)).putR nRA nRE 2 (.int .u64 0)).putR nRA nRE 3 (.int .u64 0)).putR nRA nRE 4 (.int .u64 0)).putR nRA nRE 5 (.int .i64 0)).putR nRA nRE 6 (.int .i64 0)).putR nRA nRE 7 (.slice none 0 0)
  rw [reC_zero] at h8
  have HC := Lib.hid (((h8.putA nRA nAE at_).putE nRE nAE x).drew)
  clear h0 h8
  clear dA dE
  obtain ⟨Z, hZ⟩ : ∃ Z, Z = ((((((((((V.setCell ⟨R, 0, none⟩ (.int .i64 0)).setCell ⟨R, 1, none⟩ (.int .u64 0)).setCell ⟨R, 2, none⟩ (.int .u64 0)).setCell ⟨R, 3, none⟩ (.int .u64 0)).setCell ⟨R, 4, none⟩ (.int .u64 0)).setCell ⟨R, 5, none⟩ (.int .i64 0)).setCell ⟨R, 6, none⟩ (.int .i64 0)).setCell ⟨R, 7, none⟩ (.slice none 0 0)).setCell ⟨A, 0, none⟩ (.int .i64 at_)).setCell ⟨E, 0, none⟩ (.int .i64 x)).drew := ⟨_, rfl⟩
  rw [← hZ] at HC ⊢
  clear hZ
  go_wp2_with fail
  simp [bodyPostS, results, Tryz.results64]
  exact HC.out
end Go.Proofs.YtcojnkjcbopnbaaGreatDoor

/- ere.Parse at any text: a walk. -/
namespace Go.Proofs.YtcojnkjcbopnbaaGreatDoor
open Go.RowKit

/-- The three named results' variables, and the reader. -/
theorem parse_box (w : World) (s : ByteArray) : ∃ W V, W = ((w.alloc (.cells zeroR 68)).alloc (.cells #[.int .i64 0] 3)).alloc (.cells #[.int .i64 0] 24) ∧ V = W.alloc (.cells #[.string s, .int .i64 0, .int .i64 0] 115) ∧
    Hid (Box W w.heap.size zeroR ∧ W.cell? ⟨w.heap.size + 1, 0, none⟩ = some (.int .i64 0) ∧ W.cell? ⟨w.heap.size + 1 + 1, 0, none⟩ = some (.int .i64 0) ∧ W.frozen? ⟨w.heap.size + 1, 0, none⟩ = false ∧ W.frozen? ⟨w.heap.size + 1 + 1, 0, none⟩ = false ∧ Below w.heap.size w W) ∧
    Hid (W.heap.size = w.heap.size + 1 + 1 + 1) ∧ Hid (Rdr V (w.heap.size + 1 + 1 + 1) s 0 0) ∧ Hid (Below W.heap.size W V) := by
  have b1 := below_new w (.cells zeroR 68)
  have b2 := below_new (w.alloc (.cells zeroR 68)) (.cells #[.int .i64 0] 3)
  have b3 := below_new ((w.alloc (.cells zeroR 68)).alloc (.cells #[.int .i64 0] 3)) (.cells #[.int .i64 0] 24)
  have s1 : (w.alloc (.cells zeroR 68)).heap.size = w.heap.size + 1 := World.size_alloc _ _
  have s2 : ((w.alloc (.cells zeroR 68)).alloc (.cells #[.int .i64 0] 3)).heap.size = w.heap.size + 1 + 1 := by rw [World.size_alloc, s1]
  have h2 := heap_alloc_last (w.alloc (.cells zeroR 68)) (.cells #[.int .i64 0] 3)
  have h3 := heap_alloc_last ((w.alloc (.cells zeroR 68)).alloc (.cells #[.int .i64 0] 3)) (.cells #[.int .i64 0] 24)
  rw [s1] at h2
  rw [s2] at h3
  have h2' := (b3.block (w.heap.size + 1) (by omega)).trans h2
  refine ⟨_, _, rfl, rfl, Lib.hid ⟨((box_new w zeroR).after b2).after b3, cell_of_row _ _ 0 _ _ (0, 0) h2', cell_of_row _ _ 0 _ _ (0, 0) h3, frozen_of_row _ _ 0 _ _ h2', frozen_of_row _ _ 0 _ _ h3, Below.step (Below.step b1 b2) b3⟩, Lib.hid (by rw [World.size_alloc, s2]), Lib.hid ⟨by have h4 := heap_alloc_last (((w.alloc (.cells zeroR 68)).alloc (.cells #[.int .i64 0] 3)).alloc (.cells #[.int .i64 0] 24)) (.cells #[.string s, .int .i64 0, .int .i64 0] 115); rw [World.size_alloc, s2] at h4; exact h4⟩, Lib.hid (below_new _ _)⟩

set_option maxRecDepth 100000 in
set_option maxHeartbeats 1000000 in
theorem parse_long (s : ByteArray) (hz : 400 < s.size) (w : World) :
    Calls Tryz.prog 43 #[.string s] w fun e w' => ∃ a x : Int, e = .returned (.tuple #[.agg zeroR, .int .i64 a, .int .i64 x]) ∧ x = 2 ∧ Below w.heap.size w w' := by
  have hmf : ∀ (fn : Fn) (first cap : Array Value) (w : World), (Instr.makeFunc fn first cap).run Tryz.prog w = .ok (.func fn first cap) w := fun _ _ _ _ => rfl
  go_enter_defers Tryz.func43, Tryz.ntmps43
  go_wp2_with fail
  obtain ⟨W, V, hW, hV, HW, hsW, HR, HB⟩ := parse_box w s
  change bodyPostD _ _ _ _ _ (((w.alloc (Obj.cells zeroR 68)).alloc (Obj.cells #[.int .i64 0] 3)).alloc (Obj.cells #[.int .i64 0] 24))
  rw [← hW]
  clear hW hV HR HB V
  refine leaves_cons (f := 64) (args := #[.pointer (some ⟨w.heap.size, 0, none⟩), .pointer (some ⟨w.heap.size + 1, 0, none⟩), .pointer (some ⟨w.heap.size + 1 + 1, 0, none⟩)]) (by simp) (by simp [go_sem]) ?_
  refine (catch_fault 0 zero4 0 0 none 0 0 w.heap.size (w.heap.size + 1) (w.heap.size + 1 + 1) 0 2 W HW.out.1 HW.out.2.1 HW.out.2.2.2.1 HW.out.2.2.1 HW.out.2.2.2.2.1 (by omega) (by omega) (by omega)).mono ?_
  rintro e u' w'' ⟨rfl, rfl, hC⟩
  obtain ⟨d0, d1, d2, d3, d4, d5, d6, d7⟩ := eight_zero hC.box.eight
  have eA := hC.a; have eE := hC.e
  refine ⟨.tuple #[.agg zeroR, .int .i64 0, .int .i64 2], ?_, ?_⟩
  · simp [results, Tryz.results43, go_sem, d0, d1, d2, d3, d4, d5, d6, d7, eA, eE, zeroR, reC, zero4]
  · refine ⟨_, _, rfl, rfl, ⟨hC.os.trans HW.out.2.2.2.2.2.os, hC.tape.trans HW.out.2.2.2.2.2.tape, hC.output.trans HW.out.2.2.2.2.2.output, Nat.le_trans HW.out.2.2.2.2.2.size hC.size, fun k hk => (hC.block k (by have := HW.out.2.2.2.2.2.size; omega) (by omega) (by omega) (by omega)).trans (HW.out.2.2.2.2.2.block k hk)⟩⟩


/-- What Parse tells of any text. -/
def ParseOut (w : World) (e : Ending) (w' : World) : Prop :=
  ∃ t ds, ∃ a x : Int, e = .returned (.tuple #[.agg ds, .int .i64 a, .int .i64 x]) ∧ At w' (Up w.heap.size) t ds ∧ Hid (Fine (-1) t) ∧ Below w.heap.size w w'

set_option maxRecDepth 100000 in
set_option maxHeartbeats 2000000 in
theorem parse_any (s : ByteArray) (w : World) (hx : MX w) :
    Calls Tryz.prog 43 #[.string s] w (ParseOut w) := by
  by_cases hz : 400 < s.size
  · refine (parse_long s hz w).mono ?_
    rintro e w' ⟨a, x, rfl, _, hb⟩
    exact ⟨emptyT, zeroR, a, x, rfl, .leaf _ _ _ _ _ _, Lib.hid fine_empty, hb⟩
  have hz4 : s.size ≤ 400 := by omega
  have hmf : ∀ (fn : Fn) (first cap : Array Value) (w : World), (Instr.makeFunc fn first cap).run Tryz.prog w = .ok (.func fn first cap) w := fun _ _ _ _ => rfl
  have HI := info_re
  have HMX := Lib.hid hx
  clear hx
  go_enter_defers Tryz.func43, Tryz.ntmps43
  go_upto_region 5 with (fail)
  obtain ⟨W, V, hW, hV, HW, hsW, HR, HB⟩ := parse_box w s
  change Code.wp _ _ _ _ ((((w.alloc (Obj.cells zeroR 68)).alloc (Obj.cells #[.int .i64 0] 3)).alloc (Obj.cells #[.int .i64 0] 24)).alloc (Obj.cells #[.string s, .int .i64 0, .int .i64 0] 115))
  rw [← hW, ← hV]
  clear hW hV
  have X1 := Lib.hid (HW.out.1.after HB.out)
  have hA1 : Hid (V.cell? ⟨w.heap.size + 1, 0, none⟩ = some (.int .i64 0) ∧ V.frozen? ⟨w.heap.size + 1, 0, none⟩ = false) := Lib.hid ⟨by rw [HB.out.cell (p := ⟨w.heap.size + 1, 0, none⟩) (by show w.heap.size + 1 < W.heap.size; rw [hsW.out]; omega)]; exact HW.out.2.1, by rw [HB.out.frozen (p := ⟨w.heap.size + 1, 0, none⟩) (by show w.heap.size + 1 < W.heap.size; rw [hsW.out]; omega)]; exact HW.out.2.2.2.1⟩
  have hE1 : Hid (V.cell? ⟨w.heap.size + 1 + 1, 0, none⟩ = some (.int .i64 0) ∧ V.frozen? ⟨w.heap.size + 1 + 1, 0, none⟩ = false) := Lib.hid ⟨by rw [HB.out.cell (p := ⟨w.heap.size + 1 + 1, 0, none⟩) (by show w.heap.size + 1 + 1 < W.heap.size; rw [hsW.out]; omega)]; exact HW.out.2.2.1, by rw [HB.out.frozen (p := ⟨w.heap.size + 1 + 1, 0, none⟩) (by show w.heap.size + 1 + 1 < W.heap.size; rw [hsW.out]; omega)]; exact HW.out.2.2.2.2.1⟩
  have B1 := Lib.hid (HW.out.2.2.2.2.2.trans (HB.out.mono (by rw [hsW.out]; omega)))
  have hVl := HR.out.lt
  have HRX : Hid (RdX V (w.heap.size + 1 + 1 + 1) s 0 0) := Lib.hid ⟨HR.out, HMX.out.after B1.out, by omega⟩
  have HPt := Lib.hid (patA 20 0 rfl (w.heap.size + 1 + 1 + 1) s 0 V (Nat.zero_le _) hz4 HRX.out)
  clear HRX
  go_wp2_with fail
  refine HPt.out.mono ?_
  rintro e w1 (⟨t, ds, k1, rfl, hat, hf, R1, b1⟩ | ⟨a, x, hx0, rfl, b1⟩)
  rotate_left
  · have X2 := Lib.hid (X1.out.but b1 (by omega))
    have B2 := Lib.hid (B1.out.trans (b1.below (B := w.heap.size) (by omega) (by omega)))
    have hkeep : ∀ k, k < V.heap.size → k ≠ w.heap.size + 1 + 1 + 1 → w1.heap[k]? = V.heap[k]? := b1.block
    have hA2 : Hid (w1.cell? ⟨w.heap.size + 1, 0, none⟩ = some (.int .i64 0) ∧ w1.frozen? ⟨w.heap.size + 1, 0, none⟩ = false) := Lib.hid ⟨by rw [World.cell?_of_block (hkeep (w.heap.size + 1) (by omega) (by omega))]; exact hA1.out.1, by rw [World.frozen?_of_block (hkeep (w.heap.size + 1) (by omega) (by omega))]; exact hA1.out.2⟩
    have hE2 : Hid (w1.cell? ⟨w.heap.size + 1 + 1, 0, none⟩ = some (.int .i64 0) ∧ w1.frozen? ⟨w.heap.size + 1 + 1, 0, none⟩ = false) := Lib.hid ⟨by rw [World.cell?_of_block (hkeep (w.heap.size + 1 + 1) (by omega) (by omega))]; exact hE1.out.1, by rw [World.frozen?_of_block (hkeep (w.heap.size + 1 + 1) (by omega) (by omega))]; exact hE1.out.2⟩
    have hw1 := b1.size
    clear b1 hkeep
    go_wp2_with fail
    refine leaves_cons (f := 64) (args := #[.pointer (some ⟨w.heap.size, 0, none⟩), .pointer (some ⟨w.heap.size + 1, 0, none⟩), .pointer (some ⟨w.heap.size + 1 + 1, 0, none⟩)]) (by simp) (by simp [go_sem]) ?_
    refine (catch_fault 0 zero4 0 0 none 0 0 w.heap.size (w.heap.size + 1) (w.heap.size + 1 + 1) a x w1 X2.out hA2.out.1 hA2.out.2 hE2.out.1 hE2.out.2 (by omega) (by omega) (by omega)).mono ?_
    rintro e u' w'' ⟨rfl, rfl, hC⟩
    obtain ⟨d0, d1, d2, d3, d4, d5, d6, d7⟩ := eight_zero hC.box.eight
    have eA := hC.a; have eE := hC.e
    refine ⟨.tuple #[.agg zeroR, .int .i64 a, .int .i64 x], ?_, ?_⟩
    · simp [results, Tryz.results43, go_sem, d0, d1, d2, d3, d4, d5, d6, d7, eA, eE, zeroR, reC, zero4]
    · exact ⟨emptyT, zeroR, a, x, rfl, .leaf _ _ _ _ _ _, Lib.hid fine_empty, ⟨hC.os.trans B2.out.os, hC.tape.trans B2.out.tape, hC.output.trans B2.out.output, Nat.le_trans B2.out.size hC.size, fun k hk => (hC.block k (by have := B2.out.size; omega) (by omega) (by omega) (by omega)).trans (B2.out.block k hk)⟩⟩
  have X2 := Lib.hid (X1.out.but b1 (by omega))
  have R2 := Lib.hid R1
  have B2 := Lib.hid (B1.out.trans (b1.below (B := w.heap.size) (by omega) (by omega)))
  have hkeep : ∀ k, k < V.heap.size → k ≠ w.heap.size + 1 + 1 + 1 → w1.heap[k]? = V.heap[k]? := b1.block
  have hA2 : Hid (w1.cell? ⟨w.heap.size + 1, 0, none⟩ = some (.int .i64 0) ∧ w1.frozen? ⟨w.heap.size + 1, 0, none⟩ = false) := Lib.hid ⟨by rw [World.cell?_of_block (hkeep (w.heap.size + 1) (by omega) (by omega))]; exact hA1.out.1, by rw [World.frozen?_of_block (hkeep (w.heap.size + 1) (by omega) (by omega))]; exact hA1.out.2⟩
  have hE2 : Hid (w1.cell? ⟨w.heap.size + 1 + 1, 0, none⟩ = some (.int .i64 0) ∧ w1.frozen? ⟨w.heap.size + 1 + 1, 0, none⟩ = false) := Lib.hid ⟨by rw [World.cell?_of_block (hkeep (w.heap.size + 1 + 1) (by omega) (by omega))]; exact hE1.out.1, by rw [World.frozen?_of_block (hkeep (w.heap.size + 1 + 1) (by omega) (by omega))]; exact hE1.out.2⟩
  have T2 := Lib.hid hat
  obtain ⟨a, c, e, _⟩ := hat.opens
  subst e
  have hw1 := b1.size
  clear b1 R1 hat hkeep
  go_upto_region 6 with (refine wpList_store_row rfl 68 (.tmp 2) (.tmp 16) rfl w.heap.size (reC t.k t.f t.lo t.hi (.slice a t.kids.length c)) rfl rfl 68 zeroR X2.out.row HI rfl (re_one _ _ _ _ _ _ _) ?_)
  obtain ⟨D, hD, X3, R3, B3, hA3, hE3, T3⟩ : ∃ D, D = w1.setRow w.heap.size (reC t.k t.f t.lo t.hi (.slice a t.kids.length c)) ∧ Hid (Box D w.heap.size (reC t.k t.f t.lo t.hi (.slice a t.kids.length c))) ∧ Hid (Rdr D (w.heap.size + 1 + 1 + 1) s k1 0) ∧ Hid (Below w.heap.size w D) ∧
      Hid (D.cell? ⟨w.heap.size + 1, 0, none⟩ = some (.int .i64 0) ∧ D.frozen? ⟨w.heap.size + 1, 0, none⟩ = false) ∧ Hid (D.cell? ⟨w.heap.size + 1 + 1, 0, none⟩ = some (.int .i64 0) ∧ D.frozen? ⟨w.heap.size + 1 + 1, 0, none⟩ = false) ∧ Hid (At D (Up V.heap.size) t (reC t.k t.f t.lo t.hi (.slice a t.kids.length c))) :=
    ⟨_, rfl, Lib.hid (X2.out.setRow _), Lib.hid (R2.out.setRow (by omega) _), Lib.hid (below_setRow B2.out (Nat.le_refl _) _),
      Lib.hid ⟨by rw [World.cell?_of_block (w := w1) (Go.setRow_other _ _ _ _ (by show w.heap.size + 1 ≠ _; omega))]; exact hA2.out.1, by rw [World.frozen?_of_block (w := w1) (Go.setRow_other _ _ _ _ (by show w.heap.size + 1 ≠ _; omega))]; exact hA2.out.2⟩,
      Lib.hid ⟨by rw [World.cell?_of_block (w := w1) (Go.setRow_other _ _ _ _ (by show w.heap.size + 1 + 1 ≠ _; omega))]; exact hE2.out.1, by rw [World.frozen?_of_block (w := w1) (Go.setRow_other _ _ _ _ (by show w.heap.size + 1 + 1 ≠ _; omega))]; exact hE2.out.2⟩,
      Lib.hid (T2.out.setRow (by omega) _)⟩
  rw [← hD]
  clear hD
  by_cases hend : k1 = s.size
  rotate_left
  · have hk1 := hf.out.2.2.2
    have hlt1 : k1 < s.size := by omega
    have hdd : decide ((k1 : Int) < s.size) = true := decide_eq_true (by omega)
    have c0 := R3.out.c0; have c1 := R3.out.c1
    go_wp2_with fail
    refine leaves_cons (f := 64) (args := #[.pointer (some ⟨w.heap.size, 0, none⟩), .pointer (some ⟨w.heap.size + 1, 0, none⟩), .pointer (some ⟨w.heap.size + 1 + 1, 0, none⟩)]) (by simp) (by simp [go_sem]) ?_
    refine (catch_fault t.k t.f t.lo t.hi a t.kids.length c w.heap.size (w.heap.size + 1) (w.heap.size + 1 + 1) k1 4 D X3.out hA3.out.1 hA3.out.2 hE3.out.1 hE3.out.2 (by omega) (by omega) (by omega)).mono ?_
    rintro e u' w'' ⟨rfl, rfl, hC⟩
    obtain ⟨d0, d1, d2, d3, d4, d5, d6, d7⟩ := eight_zero hC.box.eight
    have eA := hC.a; have eE := hC.e
    refine ⟨.tuple #[.agg zeroR, .int .i64 k1, .int .i64 4], ?_, ?_⟩
    · simp [results, Tryz.results43, go_sem, d0, d1, d2, d3, d4, d5, d6, d7, eA, eE, zeroR, reC, zero4]
    · exact ⟨emptyT, zeroR, k1, 4, rfl, .leaf _ _ _ _ _ _, Lib.hid fine_empty, ⟨hC.os.trans B3.out.os, hC.tape.trans B3.out.tape, hC.output.trans B3.out.output, Nat.le_trans B3.out.size hC.size, fun k hk => (hC.block k (by have := B3.out.size; omega) (by omega) (by omega) (by omega)).trans (B3.out.block k hk)⟩⟩
  subst hend
  have c1 := R3.out.c1
  obtain ⟨d0, d1, d2, d3, d4, d5, d6, d7⟩ := eight_re X3.out.eight
  have eA : (D.setRow w.heap.size (reC t.k t.f t.lo t.hi (.slice a t.kids.length c))).cell? ⟨w.heap.size + 1, 0, none⟩ = some (.int .i64 0) := by rw [World.cell?_of_block (w := D) (Go.setRow_other _ _ _ _ (by show w.heap.size + 1 ≠ _; omega))]; exact hA3.out.1
  have zA : (D.setRow w.heap.size (reC t.k t.f t.lo t.hi (.slice a t.kids.length c))).frozen? ⟨w.heap.size + 1, 0, none⟩ = false := by rw [World.frozen?_of_block (w := D) (Go.setRow_other _ _ _ _ (by show w.heap.size + 1 ≠ _; omega))]; exact hA3.out.2
  have eE : (D.setRow w.heap.size (reC t.k t.f t.lo t.hi (.slice a t.kids.length c))).cell? ⟨w.heap.size + 1 + 1, 0, none⟩ = some (.int .i64 0) := by rw [World.cell?_of_block (w := D) (Go.setRow_other _ _ _ _ (by show w.heap.size + 1 + 1 ≠ _; omega))]; exact hE3.out.1
  have zE : (D.setRow w.heap.size (reC t.k t.f t.lo t.hi (.slice a t.kids.length c))).frozen? ⟨w.heap.size + 1 + 1, 0, none⟩ = false := by rw [World.frozen?_of_block (w := D) (Go.setRow_other _ _ _ _ (by show w.heap.size + 1 + 1 ≠ _; omega))]; exact hE3.out.2
  go_wp2_with (refine wpList_store_row rfl 68 (.tmp 2) (.tmp 30) rfl w.heap.size (reC t.k t.f t.lo t.hi (.slice a t.kids.length c)) rfl rfl 68 (reC t.k t.f t.lo t.hi (.slice a t.kids.length c)) X3.out.row HI rfl (re_one _ _ _ _ _ _ _) ?_)
  obtain ⟨Z, hZ, XZ, AZ, EZ, TZ, BZ⟩ : ∃ Z, Z = ((D.setRow w.heap.size (reC t.k t.f t.lo t.hi (.slice a t.kids.length c))).setCell ⟨w.heap.size + 1, 0, none⟩ (.int .i64 0)).setCell ⟨w.heap.size + 1 + 1, 0, none⟩ (.int .i64 0) ∧ Hid (Box Z w.heap.size (reC t.k t.f t.lo t.hi (.slice a t.kids.length c))) ∧ Hid (Z.cell? ⟨w.heap.size + 1, 0, none⟩ = some (.int .i64 0)) ∧ Hid (Z.cell? ⟨w.heap.size + 1 + 1, 0, none⟩ = some (.int .i64 0)) ∧ Hid (At Z (Up V.heap.size) t (reC t.k t.f t.lo t.hi (.slice a t.kids.length c))) ∧ Hid (Below w.heap.size w Z) :=
    ⟨_, rfl, Lib.hid (((X3.out.setRow _).other (by omega) 0 _).other (by omega) 0 _), Lib.hid (by rw [cell_other (addr_ne (Or.inl (by omega)))]; exact cell_same eA), Lib.hid (cell_same (by rw [cell_other (addr_ne (Or.inl (by omega)))]; exact eE)),
      Lib.hid (((T3.out.setRow (by omega) _).but (but_put _ _ _ _) (by omega)).but (but_put _ _ _ _) (by omega)), Lib.hid (((below_setRow B3.out (Nat.le_refl _) _).setCell (by simp) _).setCell (by simp; omega) _)⟩
  rw [← hZ]
  clear hZ eA zA eE zE c1 d0 d1 d2 d3 d4 d5 d6 d7
  refine leaves_cons (f := 64) (args := #[.pointer (some ⟨w.heap.size, 0, none⟩), .pointer (some ⟨w.heap.size + 1, 0, none⟩), .pointer (some ⟨w.heap.size + 1 + 1, 0, none⟩)]) (by simp) (by simp [go_sem]) ?_
  refine (catch_idle ⟨w.heap.size, 0, none⟩ ⟨w.heap.size + 1, 0, none⟩ ⟨w.heap.size + 1 + 1, 0, none⟩ Z).mono ?_
  rintro e u' w'' ⟨rfl, rfl, rfl⟩
  obtain ⟨d0, d1, d2, d3, d4, d5, d6, d7⟩ := eight_re XZ.out.eight
  have eA := AZ.out; have eE := EZ.out
  refine ⟨.tuple #[.agg (reC t.k t.f t.lo t.hi (.slice a t.kids.length c)), .int .i64 0, .int .i64 0], ?_, ?_⟩
  · simp [results, Tryz.results43, go_sem, d0, d1, d2, d3, d4, d5, d6, d7, eA, eE, reC]
  · exact ⟨t, _, 0, 0, rfl, TZ.out.weak (by omega), Lib.hid hf.out.1, BZ.out⟩

end Go.Proofs.YtcojnkjcbopnbaaGreatDoor
