/- A row of 256 truths in memory. -/
import Derived.Test.YtfdgjgmgkcoopaaQuad
namespace Go.Proofs.Ytfdgjgmgkcoopaa
open Go.RowKit

def bools (p : Nat → Bool) : Array Value := Array.ofFn (n := 256) fun i => .bool (p i.val)
theorem bools_size (p : Nat → Bool) : (bools p).size = 256 := by simp [bools]
theorem bools_get (p : Nat → Bool) {i : Nat} (h : i < 256) : (bools p)[i]? = some (.bool (p i)) := by
  unfold bools
  rw [Array.getElem?_ofFn, dif_pos h]
theorem bools_none (p : Nat → Bool) {i : Nat} (h : ¬ i < 256) : (bools p)[i]? = none := by
  unfold bools
  rw [Array.getElem?_ofFn, dif_neg h]
theorem bools_congr {p q : Nat → Bool} (h : ∀ i, i < 256 → p i = q i) : bools p = bools q := by
  apply Array.ext_getElem?
  intro i
  by_cases hi : i < 256
  · rw [bools_get p hi, bools_get q hi, h i hi]
  · rw [bools_none p hi, bools_none q hi]
theorem bools_set (p : Nat → Bool) {k : Nat} (hk : k < 256) (b : Bool) : (bools p).setIfInBounds k (.bool b) = bools (fun j => if j = k then b else p j) := by
  apply Array.ext_getElem?
  intro i
  rw [Array.getElem?_setIfInBounds]
  by_cases hi : i < 256
  · rw [bools_get (fun j => if j = k then b else p j) hi, bools_get p hi, bools_size]
    by_cases h : k = i
    · rw [if_pos h, if_pos hk, if_pos h.symm]
    · rw [if_neg h, if_neg (Ne.symm h)]
  · rw [bools_none (fun j => if j = k then b else p j) hi, bools_none p hi]
    by_cases h : k = i
    · omega
    · rw [if_neg h]
theorem bools_one (p : Nat → Bool) : (bools p).all (·.oneCell') = true := by
  rw [Array.all_eq_true_iff_forall_mem]
  intro x hx
  simp only [bools, Array.mem_ofFn] at hx
  obtain ⟨i, rfl⟩ := hx
  rfl

structure Row (w : World) (b : Nat) (p : Nat → Bool) : Prop where
  row : w.heap[b]? = some (.cells (bools p) 27 (0, 0))

theorem Row.lt {w : World} {b : Nat} {p : Nat → Bool} (h : Row w b p) : b < w.heap.size := (Array.getElem?_eq_some_iff.1 h.row).1
theorem Row.below {w w' : World} {b B : Nat} {p : Nat → Bool} (h : Row w b p) (hb : Below B w w') (hB : b < B) : Row w' b p := ⟨by rw [hb.block b hB]; exact h.row⟩
theorem Row.after {w w' : World} {b : Nat} {p : Nat → Bool} (h : Row w b p) (hb : Below w.heap.size w w') : Row w' b p := h.below hb h.lt
theorem Row.c {w : World} {b : Nat} {p : Nat → Bool} (h : Row w b p) {i : Nat} (hi : i < 256) : w.cell? ⟨b, i, none⟩ = some (.bool (p i)) := by
  rw [cell_of_row _ _ i _ _ _ h.row]; exact bools_get p hi
theorem Row.z {w : World} {b : Nat} {p : Nat → Bool} (h : Row w b p) (i : Nat) : w.frozen? ⟨b, i, none⟩ = false := frozen_of_row _ _ i _ _ h.row
theorem Row.congr {w : World} {b : Nat} {p q : Nat → Bool} (h : Row w b p) (e : ∀ i, i < 256 → p i = q i) : Row w b q := ⟨by rw [← bools_congr e]; exact h.row⟩
theorem Row.set {w : World} {b : Nat} {p : Nat → Bool} (h : Row w b p) {k : Nat} (hk : k < 256) (x : Bool) : Row (w.setCell ⟨b, k, none⟩ (.bool x)) b (fun j => if j = k then x else p j) :=
  ⟨by rw [heap_setCell_same _ _ k _ _ _ h.row, bools_set p hk]⟩
theorem Row.other {w : World} {b : Nat} {p : Nat → Bool} (h : Row w b p) {b' k : Nat} (hb : b ≠ b') (v : Value) : Row (w.setCell ⟨b', k, none⟩ v) b p :=
  ⟨by rw [heap_setCell_other _ _ _ _ hb]; exact h.row⟩
theorem row_new (w : World) (p : Nat → Bool) : Row (w.alloc (.cells (bools p) 27)) w.heap.size p := ⟨heap_alloc_last w _⟩
theorem Row.setRow {w : World} {b : Nat} {p : Nat → Bool} (h : Row w b p) (q : Nat → Bool) : Row (w.setRow b (bools q)) b q := ⟨setRow_heap _ _ _ _ _ _ h.row⟩
theorem Row.setRow_other {w : World} {b c : Nat} {p : Nat → Bool} (h : Row w b p) (hc : b ≠ c) (q : Array Value) : Row (w.setRow c q) b p := ⟨by rw [Go.setRow_other _ _ _ _ hc]; exact h.row⟩
theorem Quad.setRow {w : World} {b c : Nat} {f : Nat → Nat} (h : Quad w b f) (hc : b ≠ c) (q : Array Value) : Quad (w.setRow c q) b f := by
  refine ⟨fun k hk => by rw [cell_setRow_other _ _ _ _ hc]; exact h.c k hk, fun k hk => ?_⟩
  have e : (w.setRow c q).frozen? ⟨b, k, none⟩ = w.frozen? ⟨b, k, none⟩ := by
    have := Go.setRow_other w c b q hc
    simp only [World.frozen?, this]
  rw [e]; exact h.z k hk
theorem below_setRow {B : Nat} {w w' : World} (h : Below B w w') {b : Nat} (hb : B ≤ b) (q : Array Value) : Below B w (w'.setRow b q) :=
  ⟨h.os, h.tape, h.output, by have := h.size; simpa [World.setRow] using this, fun k hk => by rw [Go.setRow_other _ _ _ _ (by omega)]; exact h.block k hk⟩

theorem info_b : (Try.prog.info? 27).map (fun i => (i.zero, i.size)) = some (some (.agg (Array.replicate 256 (.bool false))), 256) := by kernel_rfl
theorem false_b : Array.replicate 256 (Value.bool false) = bools (fun _ => false) := by
  apply Array.ext_getElem?
  intro i
  by_cases hi : i < 256
  · rw [bools_get _ hi, Array.getElem?_replicate, if_pos hi]
  · rw [bools_none _ hi, Array.getElem?_replicate, if_neg hi]
theorem zero_b (w : World) : (zeroValue 27).run Try.prog w = .ok (.agg (bools (fun _ => false))) w := by
  rw [← false_b]
  exact (zero_of_info info_b).1 w
theorem build_b (w : World) : (Instr.build 27 #[]).run Try.prog w = .ok (.agg (bools (fun _ => false))) w := by
  rw [← false_b]
  kernel_rfl
theorem size_b : (Try.prog.info? 27).map (·.size) = some 256 := (zero_of_info info_b).2
theorem load_b {w : World} {b : Nat} {p : Nat → Bool} (h : Row w b p) : (loadCellsFrom ⟨b, 0, none⟩ 0 256 #[]).run Try.prog w = .ok (bools p) w := by
  have := run_loadCells_list (P := Try.prog) w ⟨b, 0, none⟩ (bools p).toList (fun j v hv => by
    have hadd : (⟨b, 0, none⟩ : Addr).add j = ⟨b, j, none⟩ := by unfold Addr.add; split <;> simp_all
    rw [hadd, cell_of_row _ _ j _ _ _ h.row]
    simpa using hv)
  have hs : (bools p).toList.length = 256 := by rw [Array.length_toList, bools_size]
  rw [hs] at this
  simpa [loadCells] using this
theorem store_b {w : World} {b : Nat} {p : Nat → Bool} (h : Row w b p) (q : Nat → Bool) : (storeCells ⟨b, 0, none⟩ (bools q).toList).run Try.prog w = .ok () (w.setRow b (bools q)) := by
  have := run_storeCells_from (P := Try.prog) b 27 (bools q).toList 0 (bools p) w h.row (by rw [Array.length_toList, bools_size, bools_size]) (fun v hv => (Array.all_eq_true_iff_forall_mem.1 (bools_one q)) v (by simpa using hv))
  simpa using this
end Go.Proofs.Ytfdgjgmgkcoopaa
