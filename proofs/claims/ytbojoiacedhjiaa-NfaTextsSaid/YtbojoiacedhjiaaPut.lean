/- (*nfa.Prog).put: a walk. -/
import Derived.Test.YtbojoiacedhjiaaLayT
namespace Go.Proofs.Ytbojoiacedhjiaa
open Go.RowKit

/-- What laying leaves. -/
def Laid (w : World) (p : Nat) (sv : Value) (st : Int) (r : Nat × List St) (e : Ending) (w' : World) : Prop :=
  ∃ sv', e = .returned (.int .i64 r.1) ∧ Mch w' p r.2 sv' st ∧ Turn p sv w w' sv'

theorem below_drew_new (V : World) (o : Obj) : Below V.heap.size V (V.drew.alloc o) := (below_drew V).alloc (Nat.le_refl _) o
theorem push_c0 {V w1 : World} {o : Obj} {p : Nat} {ss : List St} {sv : Value} {st : Int} (h : Mch V p ss sv st) (hg : (V.drew.alloc o).grownBy w1 sv.ownBlock) : w1.cell? ⟨p, 0, none⟩ = some sv := by
  have h1 := h.after (below_drew_new V o)
  exact (hg.cell_far ⟨p, 0, none⟩ h1.lt (fun e => h.notP e.symm)).trans h1.c0
theorem push_z0 {V w1 : World} {o : Obj} {p : Nat} {ss : List St} {sv : Value} {st : Int} (h : Mch V p ss sv st) (hg : (V.drew.alloc o).grownBy w1 sv.ownBlock) : w1.frozen? ⟨p, 0, none⟩ = false := by
  have h1 := h.after (below_drew_new V o)
  exact (hg.frozen_far ⟨p, 0, none⟩ h1.lt (fun e => h.notP e.symm)).trans (h1.z 0)

set_option maxRecDepth 100000 in
theorem put_spec (p : Nat) (ss : List St) (sv : Value) (st : Int) (s : St) (w : World) (h : Mch w p ss sv st) (hlen : ss.length ≤ 1000000000) :
    Calls Try.prog 16 #[.pointer (some ⟨p, 0, none⟩), .agg (stC s)] w (Laid w p sv st (ss.length, ss ++ [s])) := by
  obtain ⟨i0, hi0', hz0, hz1, hz2⟩ := info_parts info_state3
  obtain ⟨V, hV⟩ : ∃ V, V = w.alloc (.cells (stC s) 53) := ⟨_, rfl⟩
  have B1 : Below w.heap.size w V := by rw [hV]; exact below_new _ _
  have HV1 := Lib.hid (h.after B1)
  have HB := Lib.hid B1
  have R1 : Hid (V.heap[w.heap.size]? = some (.cells (stC s) 53 (0, 0))) := Lib.hid (by rw [hV]; exact heap_alloc_last _ _)
  have HM := Lib.hid h
  have hplt := h.lt
  have hpv : p < V.heap.size := by have := B1.size; omega
  have hbv : w.heap.size < V.heap.size := by rw [hV, World.size_alloc]; omega
  have hone := Lib.hid (stC_one s)
  go_enter Try.func16, Try.ntmps16
  go_upto_region 1 with (fail)
  rw [← hV]
  clear hV B1 h
  have c0 := HV1.out.c0
  have r0 : V.cell? ⟨w.heap.size, 0, none⟩ = some (.int .i64 s.k) := cell_of_row _ _ 0 _ _ _ R1.out
  have r1 : V.cell? ⟨w.heap.size, 1, none⟩ = some (.int .u64 (s.f 0)) := cell_of_row _ _ 1 _ _ _ R1.out
  have r2 : V.cell? ⟨w.heap.size, 2, none⟩ = some (.int .u64 (s.f 1)) := cell_of_row _ _ 2 _ _ _ R1.out
  have r3 : V.cell? ⟨w.heap.size, 3, none⟩ = some (.int .u64 (s.f 2)) := cell_of_row _ _ 3 _ _ _ R1.out
  have r4 : V.cell? ⟨w.heap.size, 4, none⟩ = some (.int .u64 (s.f 3)) := cell_of_row _ _ 4 _ _ _ R1.out
  have r5 : V.cell? ⟨w.heap.size, 5, none⟩ = some (.int .i64 s.nx) := cell_of_row _ _ 5 _ _ _ R1.out
  have r6 : V.cell? ⟨w.heap.size, 6, none⟩ = some (.int .i64 s.ot) := cell_of_row _ _ 6 _ _ _ R1.out
  go_region_law ((refine step_append_lies _ rfl (.tmp 9) (.tmp 11) 47 rfl (p + 1) 53 i0 (.agg #[.int .i64 0, .int .u64 0, .int .u64 0, .int .u64 0, .int .u64 0, .int .i64 0, .int .i64 0]) 7 56 Try.underlying47 hi0' hz0 hz1 hz2 rfl (by decide) sv ss.length (flatS ss) (by simp [Act.eval]) (World.ownsRow.alloc (World.ownsRow.drew HV1.out.own) _) ⟨V.heap.size, 0, none⟩ 1 1 (stC s).toList (by simp [Act.eval]) rfl (World.news_of_block (heap_alloc_last V.drew (.cells (stC s) 53))) hone.out (by decide) (by unfold maxLen; omega) (by omega) (by simp; omega) _ rfl ?_; intro g cap w1 hown hgrow hat hlt; have d0 := push_c0 HV1.out hgrow; have dz := push_z0 HV1.out hgrow))
  all_goals
    go_wp2_with fail
    go_ret
    refine ⟨.slice (some ⟨g, 0, none⟩) (ss.length + 1) cap, rfl, ?_⟩
    have hg : (V.drew.alloc (.cells (stC s) 53)).grownBy w1 sv.ownBlock := hgrow
    have hsz : (V.drew.alloc (.cells (stC s) 53)).heap.size = V.heap.size + 1 := World.size_alloc _ _
    exact HM.out.push (Below.step HB.out (below_drew_new V _)) hg hown (by
      rcases hat with e | e
      · exact Or.inl e.symm
      · refine Or.inr ⟨g, rfl, ?_⟩
        have e' : g = (V.drew.alloc (.cells (stC s) 53)).heap.size := e
        omega)
end Go.Proofs.Ytbojoiacedhjiaa
