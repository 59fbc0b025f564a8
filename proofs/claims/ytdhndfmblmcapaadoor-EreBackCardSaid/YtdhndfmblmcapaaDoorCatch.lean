/- ere.Parse's deferred closure: walks. -/
import Derived.Test.YtdhndfmblmcapaaDoorPattern
import Derived.Defers
import Derived.Recover
namespace Go.Proofs.YtdhndfmblmcapaaDoor
open Go.RowKit

set_option maxRecDepth 100000 in
theorem catch_idle (a b c : Addr) (w : World) :
    CallsD Tryd.prog 26 #[.pointer (some a), .pointer (some b), .pointer (some c)] .returning w fun e u' w' => e = .returned (.tuple #[]) ∧ u' = .returning ∧ w' = w := by
  refine callsD_of_wpS Tryd.func26 rfl fun c₀ cs hu => ?_
  apply wpS_seq
  apply wpS_region
  simp [wpOpsS, go_sem, recoverD, hu, Tryd.ntmps26, Exit.thenS]
  refine wpS_of_wp ?_
  go_wp2_with fail
  cases c₀
  simp_all [bodyPostS, results, Tryd.results26]

theorem Box.put {w : World} {b : Nat} {cs : Array Value} (h : Box w b cs) (j : Nat) (v : Value) (e : cs.setIfInBounds j v = cs) : Box (w.setCell ⟨b, j, none⟩ v) b cs :=
  ⟨by rw [heap_setCell_same _ _ j _ _ _ h.row, e]⟩
theorem Box.other {w : World} {b : Nat} {cs : Array Value} (h : Box w b cs) {c : Nat} (hc : b ≠ c) (j : Nat) (v : Value) : Box (w.setCell ⟨c, j, none⟩ v) b cs :=
  ⟨by rw [heap_setCell_other _ _ _ _ hc]; exact h.row⟩
theorem Box.drew {w : World} {b : Nat} {cs : Array Value} (h : Box w b cs) : Box w.drew b cs := h.after (below_drew w)

/-- What the closure leaves: the three results. -/
structure Caught (w w' : World) (R A E : Nat) (at_ x : Int) : Prop where
  box : Box w' R zeroR
  a : w'.cell? ⟨A, 0, none⟩ = some (.int .i64 at_)
  e : w'.cell? ⟨E, 0, none⟩ = some (.int .i64 x)
  block : ∀ k, k < w.heap.size → k ≠ R → k ≠ A → k ≠ E → w'.heap[k]? = w.heap[k]?
  os : w'.os = w.os
  tape : w'.tape = w.tape
  output : w'.output = w.output
  size : w.heap.size ≤ w'.heap.size

theorem Caught.putR {w V : World} {R A E : Nat} {at_ x : Int} (h : Caught w V R A E at_ x) (nRA : R ≠ A) (nRE : R ≠ E) (j : Nat) (v : Value) (e : zeroR.setIfInBounds j v = zeroR) : Caught w (V.setCell ⟨R, j, none⟩ v) R A E at_ x :=
  ⟨h.box.put j v e, by rw [cell_other (addr_ne (Or.inl nRA))]; exact h.a, by rw [cell_other (addr_ne (Or.inl nRE))]; exact h.e, fun k hk h1 h2 h3 => by rw [heap_setCell_other V ⟨R, j, none⟩ k v h1]; exact h.block k hk h1 h2 h3,
    h.os, h.tape, h.output, by rw [World.size_setCell]; exact h.size⟩
theorem Caught.putA {w V : World} {R A E : Nat} {at_ x : Int} (h : Caught w V R A E at_ x) (nRA : R ≠ A) (nAE : A ≠ E) (y : Int) : Caught w (V.setCell ⟨A, 0, none⟩ (.int .i64 y)) R A E y x :=
  ⟨h.box.other nRA 0 _, cell_same h.a, by rw [cell_other (addr_ne (Or.inl nAE))]; exact h.e, fun k hk h1 h2 h3 => by rw [heap_setCell_other V ⟨A, 0, none⟩ k _ h2]; exact h.block k hk h1 h2 h3,
    h.os, h.tape, h.output, by rw [World.size_setCell]; exact h.size⟩
theorem Caught.putE {w V : World} {R A E : Nat} {at_ x : Int} (h : Caught w V R A E at_ x) (nRE : R ≠ E) (nAE : A ≠ E) (y : Int) : Caught w (V.setCell ⟨E, 0, none⟩ (.int .i64 y)) R A E at_ y :=
  ⟨h.box.other nRE 0 _, by rw [cell_other (addr_ne (Or.inl (Ne.symm nAE)))]; exact h.a, cell_same h.e, fun k hk h1 h2 h3 => by rw [heap_setCell_other V ⟨E, 0, none⟩ k _ h3]; exact h.block k hk h1 h2 h3,
    h.os, h.tape, h.output, by rw [World.size_setCell]; exact h.size⟩
theorem Caught.drew {w V : World} {R A E : Nat} {at_ x : Int} (h : Caught w V R A E at_ x) : Caught w V.drew R A E at_ x :=
  ⟨h.box.drew, h.a, h.e, h.block, h.os, h.tape, h.output, h.size⟩

set_option maxRecDepth 100000 in
theorem catch_fault (R A E : Nat) (at_ x : Int) (w : World) (hR : Box w R zeroR) (hA : w.cell? ⟨A, 0, none⟩ = some (.int .i64 0)) (hAz : w.frozen? ⟨A, 0, none⟩ = false) (hE : w.cell? ⟨E, 0, none⟩ = some (.int .i64 0)) (hEz : w.frozen? ⟨E, 0, none⟩ = false) (hRA : R ≠ A) (hRE : R ≠ E) (hAE : A ≠ E) :
    CallsD Tryd.prog 26 #[.pointer (some ⟨R, 0, none⟩), .pointer (some ⟨A, 0, none⟩), .pointer (some ⟨E, 0, none⟩)] (.panicking ({ v := .iface 53 (.agg #[.int .i64 at_, .int .i64 x]), recovered := false } :: [])) w fun e u' w' =>
      e = .returned (.tuple #[]) ∧ u' = .panicking ({ v := .iface 53 (.agg #[.int .i64 at_, .int .i64 x]), recovered := true } :: []) ∧
        Caught w w' R A E at_ x := by
  have hta : ∀ w, (Instr.typeAssert (.iface 53 (.agg #[.int .i64 at_, .int .i64 x])) 20 53 false).run Tryd.prog w = .ok (.agg #[.int .i64 at_, .int .i64 x]) w := fun _ => by kernel_rfl
  refine callsD_of_wpS Tryd.func26 rfl fun c₀ cs hu => ?_
  apply wpS_seq
  apply wpS_region
  simp [wpOpsS, go_sem, recoverD, hu, Tryd.ntmps26, Exit.thenS, Array.replicate, List.replicate]
  refine wpS_of_wp ?_
  go_wp2_with fail
  have hRl := hR.lt
  have hAl := cell_lt hA
  have hEl := cell_lt hE
  simp only at hAl hEl
  have nR : ¬ w.heap.size = R := by omega
  have nA : ¬ w.heap.size = A := by omega
  have nE : ¬ w.heap.size = E := by omega
  have nRA : ¬ R = A := hRA
  have nRE : ¬ R = E := hRE
  have nAE : ¬ A = E := hAE
  have hbV := below_new w (.cells #[.int .i64 at_, .int .i64 x] 53)
  obtain ⟨V, hV, X, dA, dE, zA, zE, d0, d1, BV⟩ : ∃ V, V = w.alloc (.cells #[.int .i64 at_, .int .i64 x] 53) ∧ Hid (Box V R zeroR) ∧ V.cell? ⟨A, 0, none⟩ = some (.int .i64 0) ∧ V.cell? ⟨E, 0, none⟩ = some (.int .i64 0) ∧ V.frozen? ⟨A, 0, none⟩ = false ∧ V.frozen? ⟨E, 0, none⟩ = false ∧ V.cell? ⟨w.heap.size, 0, none⟩ = some (.int .i64 at_) ∧ V.cell? ⟨w.heap.size, 1, none⟩ = some (.int .i64 x) ∧ Hid (Below w.heap.size w V) :=
    ⟨_, rfl, Lib.hid (hR.after hbV), by rw [hbV.cell (p := ⟨A, 0, none⟩) hAl]; exact hA, by rw [hbV.cell (p := ⟨E, 0, none⟩) hEl]; exact hE, by rw [hbV.frozen (p := ⟨A, 0, none⟩) hAl]; exact hAz, by rw [hbV.frozen (p := ⟨E, 0, none⟩) hEl]; exact hEz, cell_of_row _ _ 0 _ _ (0, 0) (heap_alloc_last w _), cell_of_row _ _ 1 _ _ (0, 0) (heap_alloc_last w _), Lib.hid hbV⟩
  rw [← hV]
  clear hV hbV hA hE hAz hEz hRl hAl hEl hRA hRE hAE hta
  obtain ⟨c0, c1, c2, c3, c4, c5, c6, c7⟩ := eight_re X.out.eight
  have z0 := X.out.z 0; have z1 := X.out.z 1; have z2 := X.out.z 2; have z3 := X.out.z 3; have z4 := X.out.z 4; have z5 := X.out.z 5; have z6 := X.out.z 6; have z7 := X.out.z 7
  go_region
  clear c0 c1 c2 c3 c4 c5 c6 c7 z0 z1 z2 z3 z4 z5 z6 z7 d0 d1 zA zE
  have h0 : Caught w V R A E 0 0 := ⟨X.out, dA, dE, fun k hk _ _ _ => BV.out.block k hk, BV.out.os, BV.out.tape, BV.out.output, BV.out.size⟩
  have h8 := (((((((h0.putR nRA nRE 0 (.int .i64 0) rfl).putR nRA nRE 1 (.int .u64 0) rfl).putR nRA nRE 2 (.int .u64 0) rfl).putR nRA nRE 3 (.int .u64 0) rfl).putR nRA nRE 4 (.int .u64 0) rfl).putR nRA nRE 5 (.int .i64 0) rfl).putR nRA nRE 6 (.int .i64 0) rfl).putR nRA nRE 7 (.slice none 0 0) rfl
  have HC := Lib.hid (((h8.putA nRA nAE at_).putE nRE nAE x).drew)
  clear h0 h8
  clear dA dE
  obtain ⟨Z, hZ⟩ : ∃ Z, Z = ((((((((((V.setCell ⟨R, 0, none⟩ (.int .i64 0)).setCell ⟨R, 1, none⟩ (.int .u64 0)).setCell ⟨R, 2, none⟩ (.int .u64 0)).setCell ⟨R, 3, none⟩ (.int .u64 0)).setCell ⟨R, 4, none⟩ (.int .u64 0)).setCell ⟨R, 5, none⟩ (.int .i64 0)).setCell ⟨R, 6, none⟩ (.int .i64 0)).setCell ⟨R, 7, none⟩ (.slice none 0 0)).setCell ⟨A, 0, none⟩ (.int .i64 at_)).setCell ⟨E, 0, none⟩ (.int .i64 x)).drew := ⟨_, rfl⟩
  rw [← hZ] at HC ⊢
  clear hZ
  go_wp2_with fail
  simp [bodyPostS, results, Tryd.results26]
  exact HC.out
end Go.Proofs.YtdhndfmblmcapaaDoor
