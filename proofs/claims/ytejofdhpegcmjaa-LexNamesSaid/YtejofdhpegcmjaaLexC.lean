/- lex.Words' deferred closure: walks. -/
import Derived.Test.YtejofdhpegcmjaaLexWd
import Derived.Defers
import Derived.Recover
namespace Go.Proofs.Ytejofdhpegcmjaa
open Go.RowKit

theorem addr_ne {b k b' k' : Nat} (h : b ≠ b' ∨ k ≠ k') : (⟨b, k, none⟩ : Addr) ≠ ⟨b', k', none⟩ := by
  intro e
  injection e with e1 e2
  rcases h with h | h
  · exact h e1
  · exact h e2

set_option maxRecDepth 100000 in
theorem catch_idle (a b c : Addr) (w : World) :
    CallsD Try.prog 25 #[.pointer (some a), .pointer (some b), .pointer (some c)] .returning w fun e u' w' => e = .returned (.tuple #[]) ∧ u' = .returning ∧ w' = w := by
  refine callsD_of_wpS Try.func25 rfl fun c₀ cs hu => ?_
  apply wpS_seq
  apply wpS_region
  simp [wpOpsS, go_sem, recoverD, hu, Try.ntmps25, Exit.thenS]
  refine wpS_of_wp ?_
  go_wp2_with fail
  cases c₀
  simp_all [bodyPostS, results, Try.results25]

/-- What the closure leaves: the three results. -/
structure Caught (w w' : World) (R A E : Nat) (at_ x : Int) : Prop where
  r : w'.cell? ⟨R, 0, none⟩ = some (.slice none 0 0)
  a : w'.cell? ⟨A, 0, none⟩ = some (.int .i64 at_)
  e : w'.cell? ⟨E, 0, none⟩ = some (.int .i64 x)
  block : ∀ k, k < w.heap.size → k ≠ R → k ≠ A → k ≠ E → w'.heap[k]? = w.heap[k]?
  os : w'.os = w.os
  tape : w'.tape = w.tape
  output : w'.output = w.output
  size : w.heap.size ≤ w'.heap.size

set_option maxRecDepth 100000 in
theorem catch_fault (R A E : Nat) (v : Value) (at_ x : Int) (w : World) (hR : w.cell? ⟨R, 0, none⟩ = some v) (hRz : w.frozen? ⟨R, 0, none⟩ = false) (hA : w.cell? ⟨A, 0, none⟩ = some (.int .i64 0)) (hAz : w.frozen? ⟨A, 0, none⟩ = false) (hE : w.cell? ⟨E, 0, none⟩ = some (.int .i64 0)) (hEz : w.frozen? ⟨E, 0, none⟩ = false) (hRA : R ≠ A) (hRE : R ≠ E) (hAE : A ≠ E) :
    CallsD Try.prog 25 #[.pointer (some ⟨R, 0, none⟩), .pointer (some ⟨A, 0, none⟩), .pointer (some ⟨E, 0, none⟩)] (.panicking ({ v := .iface 46 (.agg #[.int .i64 at_, .int .i64 x]), recovered := false } :: [])) w fun e u' w' =>
      e = .returned (.tuple #[]) ∧ u' = .panicking ({ v := .iface 46 (.agg #[.int .i64 at_, .int .i64 x]), recovered := true } :: []) ∧
        Caught w w' R A E at_ x := by
  have hta : ∀ w, (Instr.typeAssert (.iface 46 (.agg #[.int .i64 at_, .int .i64 x])) 20 46 false).run Try.prog w = .ok (.agg #[.int .i64 at_, .int .i64 x]) w := fun _ => by kernel_rfl
  refine callsD_of_wpS Try.func25 rfl fun c₀ cs hu => ?_
  apply wpS_seq
  apply wpS_region
  simp [wpOpsS, go_sem, recoverD, hu, Try.ntmps25, Exit.thenS, Array.replicate, List.replicate]
  refine wpS_of_wp ?_
  go_wp2_with fail
  have hRl := cell_lt hR
  have hAl := cell_lt hA
  have hEl := cell_lt hE
  simp only at hRl hAl hEl
  have nR : ¬ w.heap.size = R := by omega
  have nA : ¬ w.heap.size = A := by omega
  have nE : ¬ w.heap.size = E := by omega
  have nRA : ¬ R = A := hRA
  have nRE : ¬ R = E := hRE
  have nAE : ¬ A = E := hAE
  have hbV := below_new w (.cells #[.int .i64 at_, .int .i64 x] 46)
  obtain ⟨V, hV, dR, dA, dE, zR, zA, zE, d0, d1, BV⟩ : ∃ V, V = w.alloc (.cells #[.int .i64 at_, .int .i64 x] 46) ∧ V.cell? ⟨R, 0, none⟩ = some v ∧ V.cell? ⟨A, 0, none⟩ = some (.int .i64 0) ∧ V.cell? ⟨E, 0, none⟩ = some (.int .i64 0) ∧ V.frozen? ⟨R, 0, none⟩ = false ∧ V.frozen? ⟨A, 0, none⟩ = false ∧ V.frozen? ⟨E, 0, none⟩ = false ∧ V.cell? ⟨w.heap.size, 0, none⟩ = some (.int .i64 at_) ∧ V.cell? ⟨w.heap.size, 1, none⟩ = some (.int .i64 x) ∧ Hid (Below w.heap.size w V) :=
    ⟨_, rfl, by rw [hbV.cell (p := ⟨R, 0, none⟩) hRl]; exact hR, by rw [hbV.cell (p := ⟨A, 0, none⟩) hAl]; exact hA, by rw [hbV.cell (p := ⟨E, 0, none⟩) hEl]; exact hE, by rw [hbV.frozen (p := ⟨R, 0, none⟩) hRl]; exact hRz, by rw [hbV.frozen (p := ⟨A, 0, none⟩) hAl]; exact hAz, by rw [hbV.frozen (p := ⟨E, 0, none⟩) hEl]; exact hEz, cell_of_row _ _ 0 _ _ (0, 0) (heap_alloc_last w _), cell_of_row _ _ 1 _ _ (0, 0) (heap_alloc_last w _), Lib.hid hbV⟩
  rw [← hV]
  clear hV hbV hA hE hR hAz hEz hRz hRl hAl hEl hRA hRE hAE hta
  go_region
  clear d0 d1 zA zE zR
  have eR : (((V.setCell ⟨R, 0, none⟩ (.slice none 0 0)).setCell ⟨A, 0, none⟩ (.int .i64 at_)).setCell ⟨E, 0, none⟩ (.int .i64 x)).cell? ⟨R, 0, none⟩ = some (.slice none 0 0) := by
    rw [cell_other (addr_ne (Or.inl (Ne.symm nRE))), cell_other (addr_ne (Or.inl (Ne.symm nRA)))]; exact cell_same dR
  have eA : (((V.setCell ⟨R, 0, none⟩ (.slice none 0 0)).setCell ⟨A, 0, none⟩ (.int .i64 at_)).setCell ⟨E, 0, none⟩ (.int .i64 x)).cell? ⟨A, 0, none⟩ = some (.int .i64 at_) := by
    rw [cell_other (addr_ne (Or.inl (Ne.symm nAE)))]; exact cell_same (by rw [cell_other (addr_ne (Or.inl nRA))]; exact dA)
  have eE : (((V.setCell ⟨R, 0, none⟩ (.slice none 0 0)).setCell ⟨A, 0, none⟩ (.int .i64 at_)).setCell ⟨E, 0, none⟩ (.int .i64 x)).cell? ⟨E, 0, none⟩ = some (.int .i64 x) :=
    cell_same (by rw [cell_other (addr_ne (Or.inl nAE)), cell_other (addr_ne (Or.inl nRE))]; exact dE)
  have HC : Hid (Caught w (((V.setCell ⟨R, 0, none⟩ (.slice none 0 0)).setCell ⟨A, 0, none⟩ (.int .i64 at_)).setCell ⟨E, 0, none⟩ (.int .i64 x)).drew R A E at_ x) := Lib.hid
    ⟨eR, eA, eE, fun k hk h1 h2 h3 => by
      show (((V.setCell ⟨R, 0, none⟩ (.slice none 0 0)).setCell ⟨A, 0, none⟩ (.int .i64 at_)).setCell ⟨E, 0, none⟩ (.int .i64 x)).heap[k]? = _
      rw [heap_setCell_other _ _ _ _ (by show k ≠ E; exact h3), heap_setCell_other _ _ _ _ (by show k ≠ A; exact h2), heap_setCell_other _ _ _ _ (by show k ≠ R; exact h1)]
      exact BV.out.block k hk, BV.out.os, BV.out.tape, BV.out.output, by
      show _ ≤ (((V.setCell ⟨R, 0, none⟩ (.slice none 0 0)).setCell ⟨A, 0, none⟩ (.int .i64 at_)).setCell ⟨E, 0, none⟩ (.int .i64 x)).heap.size
      rw [World.size_setCell, World.size_setCell, World.size_setCell]; exact BV.out.size⟩
  clear eR eA eE dR dA dE
  obtain ⟨Z, hZ⟩ : ∃ Z, Z = (((V.setCell ⟨R, 0, none⟩ (.slice none 0 0)).setCell ⟨A, 0, none⟩ (.int .i64 at_)).setCell ⟨E, 0, none⟩ (.int .i64 x)).drew := ⟨_, rfl⟩
  rw [← hZ] at HC ⊢
  clear hZ
  go_wp2_with fail
  simp [bodyPostS, results, Try.results25]
  exact HC.out
end Go.Proofs.Ytejofdhpegcmjaa
