/- A cell's three parts in memory: kept by calls; what a region that draws its order needs. -/
import Derived.Test.YtpmfkmolbioomaaDoorShow
namespace Go.Proofs.YtpmfkmolbioomaaDoor
open Go.RowKit

theorem cell_lt {W : World} {a : Addr} {v : Value} (h : W.cell? a = some v) : a.block < W.heap.size := by
  rcases Nat.lt_or_ge a.block W.heap.size with h' | h'
  · exact h'
  · exfalso
    have e : W.heap[a.block]? = none := Array.getElem?_eq_none h'
    simp [World.cell?, e] at h

structure Tri (w : World) (b : Nat) (x y z : Value) : Prop where
  c0 : w.cell? ⟨b, 0, none⟩ = some x
  c1 : w.cell? ⟨b, 1, none⟩ = some y
  c2 : w.cell? ⟨b, 2, none⟩ = some z
  f0 : w.frozen? ⟨b, 0, none⟩ = false
  f1 : w.frozen? ⟨b, 1, none⟩ = false
  f2 : w.frozen? ⟨b, 2, none⟩ = false

theorem Tri.lt {w : World} {b : Nat} {x y z : Value} (h : Tri w b x y z) : b < w.heap.size := cell_lt h.c0
theorem Tri.below {w w' : World} {b : Nat} {x y z : Value} (h : Tri w b x y z) (hb : Below w.heap.size w w') : Tri w' b x y z := by
  have hlt := h.lt
  exact ⟨by rw [hb.cell (p := ⟨b, 0, none⟩) hlt]; exact h.c0, by rw [hb.cell (p := ⟨b, 1, none⟩) hlt]; exact h.c1, by rw [hb.cell (p := ⟨b, 2, none⟩) hlt]; exact h.c2,
    by rw [hb.frozen (p := ⟨b, 0, none⟩) hlt]; exact h.f0, by rw [hb.frozen (p := ⟨b, 1, none⟩) hlt]; exact h.f1, by rw [hb.frozen (p := ⟨b, 2, none⟩) hlt]; exact h.f2⟩
theorem tri_new (w : World) (x y z : Value) (t : TypeId) : Tri (w.alloc (.cells #[x, y, z] t)) w.heap.size x y z := by
  refine ⟨?_, ?_, ?_, ?_, ?_, ?_⟩ <;> simp [go_sem]
theorem below_new (w : World) (o : Obj) : Below w.heap.size w (w.alloc o) := (Below.refl _ _).alloc (Nat.le_refl _) o
theorem below_drew (w : World) : Below w.heap.size w w.drew := (Below.refl _ _).drew

theorem Tri.after {w w' : World} {b : Nat} {x y z : Value} (h : Tri w b x y z) (hb : Below w.drew.heap.size w.drew w') : Tri w' b x y z := (h.below (below_drew w)).below hb
theorem Below.after {w0 w w' : World} (h : Below w0.heap.size w0 w) (hb : Below w.drew.heap.size w.drew w') : Below w0.heap.size w0 w' := Below.step (Below.step h (below_drew w)) hb
/-- The result's cell, stored to. -/
theorem tri_end {w W : World} {x y z : Value} (T : Tri W w.heap.size x y z) (hb : Below w.heap.size w W) (k n s : Value) :
    (((W.setCell ⟨w.heap.size, 0, none⟩ k).setCell ⟨w.heap.size, 1, none⟩ n).setCell ⟨w.heap.size, 2, none⟩ s).cell? ⟨w.heap.size, 0, none⟩ = some k ∧
    (((W.setCell ⟨w.heap.size, 0, none⟩ k).setCell ⟨w.heap.size, 1, none⟩ n).setCell ⟨w.heap.size, 2, none⟩ s).cell? ⟨w.heap.size, 1, none⟩ = some n ∧
    (((W.setCell ⟨w.heap.size, 0, none⟩ k).setCell ⟨w.heap.size, 1, none⟩ n).setCell ⟨w.heap.size, 2, none⟩ s).cell? ⟨w.heap.size, 2, none⟩ = some s ∧
    Below w.heap.size w (((W.setCell ⟨w.heap.size, 0, none⟩ k).setCell ⟨w.heap.size, 1, none⟩ n).setCell ⟨w.heap.size, 2, none⟩ s) := by
  have n01 : (⟨w.heap.size, 0, none⟩ : Addr) ≠ ⟨w.heap.size, 1, none⟩ := by intro e; injection e with e1 e2; omega
  have n02 : (⟨w.heap.size, 0, none⟩ : Addr) ≠ ⟨w.heap.size, 2, none⟩ := by intro e; injection e with e1 e2; omega
  have n12 : (⟨w.heap.size, 1, none⟩ : Addr) ≠ ⟨w.heap.size, 2, none⟩ := by intro e; injection e with e1 e2; omega
  refine ⟨?_, ?_, ?_, ((hb.setCell (by simp) _).setCell (by simp) _).setCell (by simp) _⟩
  · rw [cell_other (Ne.symm n02), cell_other (Ne.symm n01)]; exact cell_same T.c0
  · rw [cell_other (Ne.symm n12)]; exact cell_same (u := y) (by rw [cell_other n01]; exact T.c1)
  · exact cell_same (u := z) (by rw [cell_other n12, cell_other n02]; exact T.c2)

/-! ### What a region that draws its order holds: one, two, three cells -/
theorem keep1 {w0 W W' : World} {b : Nat} {x y z : Value} (h : Hid (Below w0.heap.size w0 W) ∧ W.cell? ⟨b, 0, none⟩ = some x ∧ W.cell? ⟨b, 1, none⟩ = some y ∧ W.cell? ⟨b, 2, none⟩ = some z) (hb : Below W.heap.size W W') :
    Hid (Below w0.heap.size w0 W') ∧ W'.cell? ⟨b, 0, none⟩ = some x ∧ W'.cell? ⟨b, 1, none⟩ = some y ∧ W'.cell? ⟨b, 2, none⟩ = some z := by
  obtain ⟨h0, h1, h2, h3⟩ := h
  have hlt := cell_lt h1
  exact ⟨Lib.hid (Below.step h0.out hb), by rw [hb.cell (p := ⟨b, 0, none⟩) hlt]; exact h1, by rw [hb.cell (p := ⟨b, 1, none⟩) hlt]; exact h2, by rw [hb.cell (p := ⟨b, 2, none⟩) hlt]; exact h3⟩
theorem keep2 {w0 W W' : World} {b c : Nat} {x y z x' y' z' : Value} (h : Hid (Below w0.heap.size w0 W) ∧ W.cell? ⟨b, 0, none⟩ = some x ∧ W.cell? ⟨b, 1, none⟩ = some y ∧ W.cell? ⟨b, 2, none⟩ = some z ∧ W.cell? ⟨c, 0, none⟩ = some x' ∧ W.cell? ⟨c, 1, none⟩ = some y' ∧ W.cell? ⟨c, 2, none⟩ = some z') (hb : Below W.heap.size W W') :
    Hid (Below w0.heap.size w0 W') ∧ W'.cell? ⟨b, 0, none⟩ = some x ∧ W'.cell? ⟨b, 1, none⟩ = some y ∧ W'.cell? ⟨b, 2, none⟩ = some z ∧ W'.cell? ⟨c, 0, none⟩ = some x' ∧ W'.cell? ⟨c, 1, none⟩ = some y' ∧ W'.cell? ⟨c, 2, none⟩ = some z' := by
  obtain ⟨h0, h1, h2, h3, h4⟩ := h
  obtain ⟨k0, k1, k2, k3⟩ := keep1 ⟨h0, h1, h2, h3⟩ hb
  exact ⟨k0, k1, k2, k3, (keep1 ⟨h0, h4⟩ hb).2⟩
theorem keep3 {w0 W W' : World} {b c d : Nat} {x y z x' y' z' x2 y2 z2 : Value} (h : Hid (Below w0.heap.size w0 W) ∧ W.cell? ⟨b, 0, none⟩ = some x ∧ W.cell? ⟨b, 1, none⟩ = some y ∧ W.cell? ⟨b, 2, none⟩ = some z ∧ W.cell? ⟨c, 0, none⟩ = some x' ∧ W.cell? ⟨c, 1, none⟩ = some y' ∧ W.cell? ⟨c, 2, none⟩ = some z' ∧ W.cell? ⟨d, 0, none⟩ = some x2 ∧ W.cell? ⟨d, 1, none⟩ = some y2 ∧ W.cell? ⟨d, 2, none⟩ = some z2) (hb : Below W.heap.size W W') :
    Hid (Below w0.heap.size w0 W') ∧ W'.cell? ⟨b, 0, none⟩ = some x ∧ W'.cell? ⟨b, 1, none⟩ = some y ∧ W'.cell? ⟨b, 2, none⟩ = some z ∧ W'.cell? ⟨c, 0, none⟩ = some x' ∧ W'.cell? ⟨c, 1, none⟩ = some y' ∧ W'.cell? ⟨c, 2, none⟩ = some z' ∧ W'.cell? ⟨d, 0, none⟩ = some x2 ∧ W'.cell? ⟨d, 1, none⟩ = some y2 ∧ W'.cell? ⟨d, 2, none⟩ = some z2 := by
  obtain ⟨h0, h1, h2, h3, h4⟩ := h
  obtain ⟨k0, k1, k2, k3⟩ := keep1 ⟨h0, h1, h2, h3⟩ hb
  exact ⟨k0, k1, k2, k3, (keep2 ⟨h0, h4⟩ hb).2⟩
theorem held1 {w0 W : World} {b : Nat} {x y z : Value} (hb : Below w0.heap.size w0 W) (T : Tri W b x y z) :
    Hid (Below w0.heap.size w0 W) ∧ W.cell? ⟨b, 0, none⟩ = some x ∧ W.cell? ⟨b, 1, none⟩ = some y ∧ W.cell? ⟨b, 2, none⟩ = some z := ⟨Lib.hid hb, T.c0, T.c1, T.c2⟩
theorem held2 {w0 W : World} {b c : Nat} {x y z x' y' z' : Value} (hb : Below w0.heap.size w0 W) (T : Tri W b x y z) (T' : Tri W c x' y' z') :
    Hid (Below w0.heap.size w0 W) ∧ W.cell? ⟨b, 0, none⟩ = some x ∧ W.cell? ⟨b, 1, none⟩ = some y ∧ W.cell? ⟨b, 2, none⟩ = some z ∧ W.cell? ⟨c, 0, none⟩ = some x' ∧ W.cell? ⟨c, 1, none⟩ = some y' ∧ W.cell? ⟨c, 2, none⟩ = some z' := ⟨Lib.hid hb, T.c0, T.c1, T.c2, T'.c0, T'.c1, T'.c2⟩
theorem held3 {w0 W : World} {b c d : Nat} {x y z x' y' z' x2 y2 z2 : Value} (hb : Below w0.heap.size w0 W) (T : Tri W b x y z) (T' : Tri W c x' y' z') (T2 : Tri W d x2 y2 z2) :
    Hid (Below w0.heap.size w0 W) ∧ W.cell? ⟨b, 0, none⟩ = some x ∧ W.cell? ⟨b, 1, none⟩ = some y ∧ W.cell? ⟨b, 2, none⟩ = some z ∧ W.cell? ⟨c, 0, none⟩ = some x' ∧ W.cell? ⟨c, 1, none⟩ = some y' ∧ W.cell? ⟨c, 2, none⟩ = some z' ∧ W.cell? ⟨d, 0, none⟩ = some x2 ∧ W.cell? ⟨d, 1, none⟩ = some y2 ∧ W.cell? ⟨d, 2, none⟩ = some z2 :=
  ⟨Lib.hid hb, T.c0, T.c1, T.c2, T'.c0, T'.c1, T'.c2, T2.c0, T2.c1, T2.c2⟩
theorem boxed3 (w : World) (x y z x' y' z' x2 y2 z2 : Value) (t : TypeId) :
    Hid (Below w.heap.size w (((w.alloc (.cells #[x, y, z] t)).alloc (.cells #[x', y', z'] t)).alloc (.cells #[x2, y2, z2] t))) ∧ Tri (((w.alloc (.cells #[x, y, z] t)).alloc (.cells #[x', y', z'] t)).alloc (.cells #[x2, y2, z2] t)) w.heap.size x y z ∧
    Tri (((w.alloc (.cells #[x, y, z] t)).alloc (.cells #[x', y', z'] t)).alloc (.cells #[x2, y2, z2] t)) (w.heap.size + 1) x' y' z' ∧ Tri (((w.alloc (.cells #[x, y, z] t)).alloc (.cells #[x', y', z'] t)).alloc (.cells #[x2, y2, z2] t)) (w.heap.size + 1 + 1) x2 y2 z2 := by
  have h1 := tri_new (w.alloc (.cells #[x, y, z] t)) x' y' z' t
  have h2 := tri_new ((w.alloc (.cells #[x, y, z] t)).alloc (.cells #[x', y', z'] t)) x2 y2 z2 t
  rw [World.size_alloc] at h1
  rw [World.size_alloc, World.size_alloc] at h2
  exact ⟨Lib.hid (Below.step (Below.step (below_new _ _) (below_new _ _)) (below_new _ _)), ((tri_new w x y z t).below (below_new _ _)).below (below_new _ _), h1.below (below_new _ _), h2⟩
end Go.Proofs.YtpmfkmolbioomaaDoor
