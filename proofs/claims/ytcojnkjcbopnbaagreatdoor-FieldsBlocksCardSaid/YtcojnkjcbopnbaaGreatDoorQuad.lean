/- A set's four words in memory. -/
import Derived.Test.YtcojnkjcbopnbaaGreatDoorSet
namespace Go.Proofs.YtcojnkjcbopnbaaGreatDoor
open Go.RowKit

structure Quad (w : World) (b : Nat) (f : Nat → Nat) : Prop where
  c : ∀ k, k < 4 → w.cell? ⟨b, k, none⟩ = some (.int .u64 (f k))
  z : ∀ k, k < 4 → w.frozen? ⟨b, k, none⟩ = false

theorem Quad.lt {w : World} {b : Nat} {f : Nat → Nat} (h : Quad w b f) : b < w.heap.size := cell_lt (h.c 0 (by omega))
theorem Quad.below {w w' : World} {b B : Nat} {f : Nat → Nat} (h : Quad w b f) (hb : Below B w w') (hB : b < B) : Quad w' b f := by
  have hlt := h.lt
  exact ⟨fun k hk => by rw [hb.cell (p := ⟨b, k, none⟩) hB]; exact h.c k hk, fun k hk => by rw [hb.frozen (p := ⟨b, k, none⟩) hB]; exact h.z k hk⟩
theorem Quad.after {w w' : World} {b : Nat} {f : Nat → Nat} (h : Quad w b f) (hb : Below w.heap.size w w') : Quad w' b f := h.below hb h.lt
theorem Quad.congr {w : World} {b : Nat} {f g : Nat → Nat} (h : Quad w b f) (e : ∀ k, k < 4 → f k = g k) : Quad w b g :=
  ⟨fun k hk => by rw [← e k hk]; exact h.c k hk, h.z⟩
theorem quad_new (w : World) (f : Nat → Nat) (t : TypeId) : Quad (w.alloc (.cells (words f) t)) w.heap.size f := by
  refine ⟨fun k hk => ?_, fun k hk => ?_⟩
  · rw [cell_of_row _ _ k (words f) t (0, 0) (heap_alloc_last w _)]; exact words_get f hk
  · exact frozen_of_row _ _ k (words f) t (heap_alloc_last w _)
theorem addr_ne {b k b' k' : Nat} (h : b ≠ b' ∨ k ≠ k') : (⟨b, k, none⟩ : Addr) ≠ ⟨b', k', none⟩ := by
  intro e
  injection e with e1 e2
  rcases h with h | h
  · exact h e1
  · exact h e2
theorem Quad.set {w : World} {b : Nat} {f : Nat → Nat} (h : Quad w b f) {k : Nat} (hk : k < 4) (x : Nat) :
    Quad (w.setCell ⟨b, k, none⟩ (.int .u64 x)) b (fun j => if j = k then x else f j) := by
  refine ⟨fun j hj => ?_, fun j hj => ?_⟩
  · by_cases e : j = k
    · subst e
      rw [if_pos rfl]
      exact cell_same (h.c j hj)
    · rw [if_neg e, cell_other (addr_ne (Or.inr (Ne.symm e)))]
      exact h.c j hj
  · rw [World.frozen?_setCell]; exact h.z j hj
theorem Quad.other {w : World} {b : Nat} {f : Nat → Nat} (h : Quad w b f) {b' k : Nat} (hb : b ≠ b') (v : Value) : Quad (w.setCell ⟨b', k, none⟩ v) b f := by
  refine ⟨fun j hj => ?_, fun j hj => ?_⟩
  · rw [cell_other (addr_ne (Or.inl (Ne.symm hb)))]; exact h.c j hj
  · rw [World.frozen?_setCell]; exact h.z j hj
/-- The four words of a block stored to. -/
def put4 (w : World) (b : Nat) (f : Nat → Nat) : World :=
  (((w.setCell ⟨b, 0, none⟩ (.int .u64 (f 0))).setCell ⟨b, 1, none⟩ (.int .u64 (f 1))).setCell ⟨b, 2, none⟩ (.int .u64 (f 2))).setCell ⟨b, 3, none⟩ (.int .u64 (f 3))
theorem Quad.put4 {w : World} {b : Nat} {g : Nat → Nat} (h : Quad w b g) (f : Nat → Nat) : Quad (put4 w b f) b f := by
  refine ((((h.set (k := 0) (by omega) (f 0)).set (k := 1) (by omega) (f 1)).set (k := 2) (by omega) (f 2)).set (k := 3) (by omega) (f 3)).congr ?_
  intro k hk
  have : k = 0 ∨ k = 1 ∨ k = 2 ∨ k = 3 := by omega
  rcases this with rfl | rfl | rfl | rfl <;> rfl
theorem Quad.put4_other {w : World} {b : Nat} {g : Nat → Nat} (h : Quad w b g) {b' : Nat} (hb : b ≠ b') (f : Nat → Nat) : Quad (Go.Proofs.YtcojnkjcbopnbaaGreatDoor.put4 w b' f) b g :=
  (((h.other hb _).other hb _).other hb _).other hb _
theorem below_put4 {B : Nat} {w w' : World} (h : Below B w w') {b : Nat} (hb : B ≤ b) (f : Nat → Nat) : Below B w (put4 w' b f) :=
  (((h.setCell (by simpa using hb) _).setCell (by simpa using hb) _).setCell (by simpa using hb) _).setCell (by simpa using hb) _

def zero4 : Nat → Nat := fun _ => 0
theorem fits_zero : Fits zero4 := fun _ _ => by unfold zero4; decide
theorem bit_zero (c : Nat) : bit zero4 c = false := by simp [bit, zero4]
theorem boxed2 (w : World) (f g : Nat → Nat) (t u : TypeId) : ∃ W, W = (w.alloc (.cells (words f) t)).alloc (.cells (words g) u) ∧ Hid (Quad W w.heap.size f) ∧ Hid (Quad W (w.heap.size + 1) g) ∧ Hid (Below w.heap.size w W) := by
  refine ⟨_, rfl, Lib.hid ((quad_new w f t).after (below_new _ _)), ?_, Lib.hid (Below.step (below_new _ _) (below_new _ _))⟩
  have h := quad_new (w.alloc (.cells (words f) t)) g u
  rw [World.size_alloc] at h
  exact Lib.hid h
theorem boxed3 (w : World) (f g h : Nat → Nat) (t u v : TypeId) : ∃ W, W = ((w.alloc (.cells (words f) t)).alloc (.cells (words g) u)).alloc (.cells (words h) v) ∧ Hid (Quad W w.heap.size f) ∧ Hid (Quad W (w.heap.size + 1) g) ∧ Hid (Quad W (w.heap.size + 1 + 1) h) ∧ Hid (Below w.heap.size w W) := by
  obtain ⟨W, hW, q0, q1, hb⟩ := boxed2 w f g t u
  have h2 := quad_new W h v
  have hs : W.heap.size = w.heap.size + 1 + 1 := by rw [hW, World.size_alloc, World.size_alloc]
  refine ⟨_, rfl, ?_, ?_, ?_, ?_⟩
  · rw [← hW]; exact Lib.hid (q0.out.after (below_new _ _))
  · rw [← hW]; exact Lib.hid (q1.out.after (below_new _ _))
  · rw [← hW, ← hs]; exact Lib.hid h2
  · rw [← hW]; exact Lib.hid (Below.step hb.out (below_new _ _))
/-- What a result's cells are read as, behind the store. -/
theorem put4_reads {w : World} {b : Nat} {g : Nat → Nat} (h : Quad w b g) (f : Nat → Nat) :
    (put4 w b f).cell? ⟨b, 0, none⟩ = some (.int .u64 (f 0)) ∧ (put4 w b f).cell? ⟨b, 1, none⟩ = some (.int .u64 (f 1)) ∧ (put4 w b f).cell? ⟨b, 2, none⟩ = some (.int .u64 (f 2)) ∧ (put4 w b f).cell? ⟨b, 3, none⟩ = some (.int .u64 (f 3)) :=
  ⟨(h.put4 f).c 0 (by omega), (h.put4 f).c 1 (by omega), (h.put4 f).c 2 (by omega), (h.put4 f).c 3 (by omega)⟩
end Go.Proofs.YtcojnkjcbopnbaaGreatDoor
