/- Contracts of the document's answers for numbers: numbers with a sign. -/
import Derived.Test.YtpmfkmolbioomaaDoorRefD
import Derived.Deep.RegionHeld3
import Derived.Deep.RegionWith
namespace Go.Proofs.YtpmfkmolbioomaaDoor
open Go.RowKit

def NPost (z : Int) (k : Nat) (W : World) (e : Ending) (w' : World) : Prop :=
  ∃ m p n c l, e = .returned (.agg #[.bool m, .slice p n c]) ∧ Rd w' p n c l ∧ sv m l = z ∧ n ≤ k ∧ Below W.heap.size W w'

theorem Rd.other {w : World} {p n c l} (h : Rd w p n c l) {a : Addr} (ha : ∀ x, p = some x → x.block ≠ a.block) (v : Value) : Rd (w.setCell a v) p n c l := by
  refine ⟨h.len, h.cap, h.size, h.digs, h.nil, ?_⟩
  rcases h.cells with hc | ⟨b, off, hp, hlt, hc⟩
  · exact Or.inl hc
  · refine Or.inr ⟨b, off, hp, by simpa [World.setCell] using hlt, fun i hi => ?_⟩
    rw [cell_other (by intro e; exact ha _ hp (by rw [e]))]
    exact hc i hi

theorem sv_add (m : Bool) (a b : List Nat) : sv m a + sv m b = if m then -((val a + val b : Nat) : Int) else ((val a + val b : Nat) : Int) := by
  cases m <;> simp [sv] <;> omega

theorem sv_not (m : Bool) (l : List Nat) : sv (!m) l = - sv m l := by
  cases m <;> simp [sv]

structure Three (w w3 : World) (x0 y0 x1 y1 x2 y2 : Value) : Prop where
  t0 : Two w3 w.heap.size x0 y0
  t1 : Two w3 (w.heap.size + 1) x1 y1
  t2 : Two w3 (w.heap.size + 1 + 1) x2 y2
  below : Below w.heap.size w w3
  size : w3.heap.size = w.heap.size + 3

structure Later (w w3 : World) (x0 y0 x1 y1 x2 y2 : Value) : Prop where
  t0 : Two w3 w.heap.size x0 y0
  t1 : Two w3 (w.heap.size + 1) x1 y1
  t2 : Two w3 (w.heap.size + 1 + 1) x2 y2
  below : Below w.heap.size w w3
  size : w.heap.size + 3 ≤ w3.heap.size

theorem Three.later {w w3 w5 : World} {x0 y0 x1 y1 x2 y2 : Value} (h : Three w w3 x0 y0 x1 y1 x2 y2) (hb : Below w3.drew.heap.size w3.drew w5) : Later w w5 x0 y0 x1 y1 x2 y2 := by
  have hb' : Below w3.heap.size w3 w5 := (Below.refl _ _).drew.trans hb
  have hs := h.size
  have hz := hb'.size
  exact ⟨h.t0.below hb' (by omega), h.t1.below hb' (by omega), h.t2.below hb' (by omega), h.below.trans (hb'.mono (by omega)), by omega⟩

theorem three_new (w : World) (x0 y0 x1 y1 x2 y2 : Value) :
    ∃ w3, w3 = ((w.alloc (.cells #[x0, y0] 53)).alloc (.cells #[x1, y1] 53)).alloc (.cells #[x2, y2] 53) ∧ Three w w3 x0 y0 x1 y1 x2 y2 := by
  refine ⟨_, rfl, ?_⟩
  have a1 := (Below.refl (w.alloc (.cells #[x0, y0] 53)).heap.size (w.alloc (.cells #[x0, y0] 53))).alloc (Nat.le_refl _) (.cells #[x1, y1] 53)
  have a2 := (Below.refl ((w.alloc (.cells #[x0, y0] 53)).alloc (.cells #[x1, y1] 53)).heap.size _).alloc (Nat.le_refl _) (.cells #[x2, y2] 53)
  have t0 := two_new w x0 y0 53
  have t1 := two_new (w.alloc (.cells #[x0, y0] 53)) x1 y1 53
  have t2 := two_new ((w.alloc (.cells #[x0, y0] 53)).alloc (.cells #[x1, y1] 53)) x2 y2 53
  simp only [World.size_alloc] at t1 t2 a1 a2
  refine ⟨(t0.below a1 (by omega)).below a2 (by omega), t1.below a2 (by omega), t2, ?_, by simp only [World.size_alloc]⟩
  have a0 := (Below.refl w.heap.size w).alloc (Nat.le_refl _) (.cells #[x0, y0] 53)
  exact (a0.trans (a1.mono (by omega))).trans (a2.mono (by omega))

theorem n_end {w w5 : World} {x0 y0 x1 y1 x2 y2 : Value} {pp : Option Addr} {nn cc : Nat} {l : List Nat} (T : Later w w5 x0 y0 x1 y1 x2 y2) (u : Value) (h : Rd w5 pp nn cc l) (hf : ∀ x, pp = some x → x.block ≠ w.heap.size + 1 + 1) :
    ((w5.setCell ⟨w.heap.size + 1 + 1, 0, none⟩ u).setCell ⟨w.heap.size + 1 + 1, 1, none⟩ (.slice pp nn cc)).cell? ⟨w.heap.size + 1 + 1, 0, none⟩ = some u ∧
    ((w5.setCell ⟨w.heap.size + 1 + 1, 0, none⟩ u).setCell ⟨w.heap.size + 1 + 1, 1, none⟩ (.slice pp nn cc)).cell? ⟨w.heap.size + 1 + 1, 1, none⟩ = some (.slice pp nn cc) ∧
    Rd ((w5.setCell ⟨w.heap.size + 1 + 1, 0, none⟩ u).setCell ⟨w.heap.size + 1 + 1, 1, none⟩ (.slice pp nn cc)) pp nn cc l ∧
    Below w.heap.size w ((w5.setCell ⟨w.heap.size + 1 + 1, 0, none⟩ u).setCell ⟨w.heap.size + 1 + 1, 1, none⟩ (.slice pp nn cc)) := by
  have t := (T.t2.set0 u).set1 (.slice pp nn cc)
  exact ⟨t.c0, t.c1, (h.other hf _).other hf _, (T.below.setCell (by simp; omega) _).setCell (by simp; omega) _⟩

end Go.Proofs.YtpmfkmolbioomaaDoor
