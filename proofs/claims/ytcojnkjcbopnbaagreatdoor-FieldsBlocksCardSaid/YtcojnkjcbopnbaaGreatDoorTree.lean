/- Patterns' trees: plain Lean, and trees in memory. -/
import Derived.Test.YtcojnkjcbopnbaaGreatDoorQuad
namespace Go.Proofs.YtcojnkjcbopnbaaGreatDoor
open Go.RowKit

/-- A pattern's tree. -/
inductive Tree where
  | mk (k : Int) (f : Nat → Nat) (lo hi : Int) (l : List Tree)
namespace Tree
def k : Tree → Int | .mk k _ _ _ _ => k
def f : Tree → Nat → Nat | .mk _ f _ _ _ => f
def lo : Tree → Int | .mk _ _ lo _ _ => lo
def hi : Tree → Int | .mk _ _ _ hi _ => hi
def kids : Tree → List Tree | .mk _ _ _ _ l => l
theorem eta (t : Tree) : t = .mk t.k t.f t.lo t.hi t.kids := by cases t; rfl
end Tree

/-- A tree's eight cells. -/
def reC (k : Int) (f : Nat → Nat) (lo hi : Int) (sl : Value) : Array Value := #[.int .i64 k, .int .u64 (f 0), .int .u64 (f 1), .int .u64 (f 2), .int .u64 (f 3), .int .i64 lo, .int .i64 hi, sl]
theorem reC_size (k : Int) (f : Nat → Nat) (lo hi : Int) (sl : Value) : (reC k f lo hi sl).size = 8 := rfl
theorem reC_congr (k : Int) {f g : Nat → Nat} (lo hi : Int) (sl : Value) (h : ∀ i, i < 4 → f i = g i) : reC k f lo hi sl = reC k g lo hi sl := by
  unfold reC
  rw [h 0 (by omega), h 1 (by omega), h 2 (by omega), h 3 (by omega)]

def Eight (w : World) (b o : Nat) (cs : Array Value) : Prop := ∀ j, j < 8 → w.cell? ⟨b, o + j, none⟩ = cs[j]?

/-- A tree lies in memory, in blocks of S: what its eight cells are. -/
inductive At (w : World) (S : Nat → Prop) : Tree → Array Value → Prop
  | leaf (k : Int) (f : Nat → Nat) (lo hi : Int) (a : Option Addr) (c : Nat) : At w S (.mk k f lo hi []) (reC k f lo hi (.slice a 0 c))
  | node (k : Int) (f : Nat → Nat) (lo hi : Int) (l : List Tree) (b off c : Nat) (cs : Nat → Array Value) (hl : l ≠ []) (hc : l.length ≤ c) (hB : S b)
      (h8 : ∀ i, i < l.length → Eight w b (off + i * 8) (cs i)) (hk : ∀ i (h : i < l.length), At w S l[i] (cs i)) : At w S (.mk k f lo hi l) (reC k f lo hi (.slice (some ⟨b, off, none⟩) l.length c))

/-- Trees lie in a slice. -/
def SlAt (w : World) (S : Nat → Prop) (l : List Tree) (v : Value) : Prop :=
  (l = [] ∧ ∃ a c, v = .slice a 0 c) ∨
  (l ≠ [] ∧ ∃ (b off c : Nat) (cs : Nat → Array Value), v = .slice (some ⟨b, off, none⟩) l.length c ∧ l.length ≤ c ∧ S b ∧ (∀ i, i < l.length → Eight w b (off + i * 8) (cs i)) ∧ ∀ i (h : i < l.length), At w S l[i] (cs i))

theorem At.open {w : World} {S : Nat → Prop} {t : Tree} {cs : Array Value} (h : At w S t cs) : ∃ sl, cs = reC t.k t.f t.lo t.hi sl ∧ SlAt w S t.kids sl := by
  cases h with
  | leaf k f lo hi a c => exact ⟨_, rfl, Or.inl ⟨rfl, _, _, rfl⟩⟩
  | node k f lo hi l b off c cs hl hc hB h8 hk => exact ⟨_, rfl, Or.inr ⟨hl, b, off, c, cs, rfl, hc, hB, h8, hk⟩⟩
theorem SlAt.shut {w : World} {S : Nat → Prop} {l : List Tree} {sl : Value} (h : SlAt w S l sl) (k : Int) (f : Nat → Nat) (lo hi : Int) : At w S (.mk k f lo hi l) (reC k f lo hi sl) := by
  rcases h with ⟨rfl, a, c, rfl⟩ | ⟨hl, b, off, c, cs, rfl, hc, hB, h8, hk⟩
  · exact .leaf k f lo hi a c
  · exact .node k f lo hi l b off c cs hl hc hB h8 hk
theorem SlAt.shape {w : World} {S : Nat → Prop} {l : List Tree} {v : Value} (h : SlAt w S l v) : ∃ a c, v = .slice a l.length c := by
  rcases h with ⟨rfl, a, c, rfl⟩ | ⟨hl, b, off, c, cs, rfl, _⟩
  · exact ⟨_, _, rfl⟩
  · exact ⟨_, _, rfl⟩
theorem At.opens {w : World} {S : Nat → Prop} {t : Tree} {cs : Array Value} (h : At w S t cs) : ∃ a c, cs = reC t.k t.f t.lo t.hi (.slice a t.kids.length c) ∧ SlAt w S t.kids (.slice a t.kids.length c) := by
  obtain ⟨sl, rfl, hs⟩ := h.open
  obtain ⟨a, c, rfl⟩ := hs.shape
  exact ⟨a, c, rfl, hs⟩
theorem At.size {w : World} {S : Nat → Prop} {t : Tree} {cs : Array Value} (h : At w S t cs) : cs.size = 8 := by
  obtain ⟨sl, rfl, _⟩ := h.open
  rfl

theorem Eight.lt {w : World} {b o : Nat} {cs : Array Value} (h : Eight w b o cs) (hs : cs.size = 8) : b < w.heap.size := by
  have h0 := h 0 (by omega)
  rw [Array.getElem?_eq_getElem (by omega)] at h0
  exact cell_lt h0
theorem Eight.keep {w w' : World} {b o : Nat} {cs : Array Value} (h : Eight w b o cs) (e : w'.heap[b]? = w.heap[b]?) : Eight w' b o cs :=
  fun j hj => by rw [World.cell?_of_block (a := ⟨b, o + j, none⟩) e]; exact h j hj

theorem At.keep {w w' : World} {S : Nat → Prop} {t : Tree} {cs : Array Value} (h : At w S t cs) (e : ∀ k, S k → k < w.heap.size → w'.heap[k]? = w.heap[k]?) : At w' S t cs := by
  induction h with
  | leaf k f lo hi a c => exact .leaf k f lo hi a c
  | node k f lo hi l b off c cs hl hc hB h8 hk ih =>
    exact .node k f lo hi l b off c cs hl hc hB (fun i hi => (h8 i hi).keep (e b hB ((h8 i hi).lt (hk i hi).size))) ih
theorem At.weakS {w : World} {S T : Nat → Prop} {t : Tree} {cs : Array Value} (h : At w S t cs) (e : ∀ k, S k → T k) : At w T t cs := by
  induction h with
  | leaf k f lo hi a c => exact .leaf k f lo hi a c
  | node k f lo hi l b off c cs hl hc hB h8 hk ih => exact .node k f lo hi l b off c cs hl hc (e b hB) h8 ih
/-- A tree's blocks are there. -/
theorem At.inWorld {w : World} {S : Nat → Prop} {t : Tree} {cs : Array Value} (h : At w S t cs) : At w (fun b => S b ∧ b < w.heap.size) t cs := by
  induction h with
  | leaf k f lo hi a c => exact .leaf k f lo hi a c
  | node k f lo hi l b off c cs hl hc hB h8 hk ih =>
    have h0 : 0 < l.length := by cases l with | nil => exact absurd rfl hl | cons => simp
    exact .node k f lo hi l b off c cs hl hc ⟨hB, (h8 0 h0).lt (hk 0 h0).size⟩ h8 ih
/-- All blocks from C on. -/
def Up (C : Nat) : Nat → Prop := fun b => C ≤ b
theorem At.weak {w : World} {B C : Nat} {t : Tree} {cs : Array Value} (h : At w (Up B) t cs) (e : C ≤ B) : At w (Up C) t cs := h.weakS fun _ hk => Nat.le_trans e hk
theorem SlAt.keep {w w' : World} {S : Nat → Prop} {l : List Tree} {v : Value} (h : SlAt w S l v) (e : ∀ k, S k → k < w.heap.size → w'.heap[k]? = w.heap[k]?) : SlAt w' S l v := by
  rcases h with h | ⟨hl, b, off, c, cs, rfl, hc, hB, h8, hk⟩
  · exact Or.inl h
  · exact Or.inr ⟨hl, b, off, c, cs, rfl, hc, hB, fun i hi => (h8 i hi).keep (e b hB ((h8 i hi).lt (hk i hi).size)), fun i hi => (hk i hi).keep e⟩
theorem At.after {w w' : World} {S : Nat → Prop} {t : Tree} {cs : Array Value} (h : At w S t cs) (hb : Below w.heap.size w w') : At w' S t cs := h.keep fun k _ hk => hb.block k hk
theorem SlAt.after {w w' : World} {S : Nat → Prop} {l : List Tree} {v : Value} (h : SlAt w S l v) (hb : Below w.heap.size w w') : SlAt w' S l v := h.keep fun k _ hk => hb.block k hk
theorem Eight.after {w w' : World} {b o : Nat} {cs : Array Value} (h : Eight w b o cs) (hs : cs.size = 8) (hb : Below w.heap.size w w') : Eight w' b o cs := h.keep (hb.block b (h.lt hs))

/-- All that was there stands, but one block. -/
structure But (p : Nat) (w w' : World) : Prop where
  os : w'.os = w.os
  tape : w'.tape = w.tape
  output : w'.output = w.output
  size : w.heap.size ≤ w'.heap.size
  block : ∀ k, k < w.heap.size → k ≠ p → w'.heap[k]? = w.heap[k]?
theorem But.refl (p : Nat) (w : World) : But p w w := ⟨rfl, rfl, rfl, Nat.le_refl _, fun _ _ _ => rfl⟩
theorem But.of {p : Nat} {w w' : World} (h : Below w.heap.size w w') : But p w w' := ⟨h.os, h.tape, h.output, h.size, fun k hk _ => h.block k hk⟩
theorem But.trans {p : Nat} {w w1 w2 : World} (h : But p w w1) (g : But p w1 w2) : But p w w2 :=
  ⟨g.os.trans h.os, g.tape.trans h.tape, g.output.trans h.output, Nat.le_trans h.size g.size, fun k hk hp => (g.block k (Nat.lt_of_lt_of_le hk h.size) hp).trans (h.block k hk hp)⟩
theorem But.then {p : Nat} {w w1 w2 : World} (h : But p w w1) (g : Below w1.heap.size w1 w2) : But p w w2 := h.trans (.of g)
theorem But.below {p B : Nat} {w w' : World} (h : But p w w') (hB : B ≤ p) (hs : B ≤ w.heap.size) : Below B w w' :=
  ⟨h.os, h.tape, h.output, h.size, fun k hk => h.block k (by omega) (by omega)⟩
theorem At.butS {p : Nat} {w w' : World} {S : Nat → Prop} {t : Tree} {cs : Array Value} (h : At w S t cs) (hb : But p w w') (hp : ¬ S p) : At w' S t cs := h.keep fun k hB hk => hb.block k hk (fun e => hp (e ▸ hB))
theorem SlAt.butS {p : Nat} {w w' : World} {S : Nat → Prop} {l : List Tree} {v : Value} (h : SlAt w S l v) (hb : But p w w') (hp : ¬ S p) : SlAt w' S l v := h.keep fun k hB hk => hb.block k hk (fun e => hp (e ▸ hB))
theorem At.but {p : Nat} {w w' : World} {B : Nat} {t : Tree} {cs : Array Value} (h : At w (Up B) t cs) (hb : But p w w') (hp : p < B) : At w' (Up B) t cs := h.butS hb (by unfold Up; omega)
theorem SlAt.but {p : Nat} {w w' : World} {B : Nat} {l : List Tree} {v : Value} (h : SlAt w (Up B) l v) (hb : But p w w') (hp : p < B) : SlAt w' (Up B) l v := h.butS hb (by unfold Up; omega)

theorem below_setRow {B : Nat} {w w' : World} (h : Below B w w') {b : Nat} (hb : B ≤ b) (q : Array Value) : Below B w (w'.setRow b q) :=
  ⟨h.os, h.tape, h.output, by have := h.size; simpa [World.setRow] using this, fun k hk => by rw [Go.setRow_other _ _ _ _ (by omega)]; exact h.block k hk⟩


/-- A block of a tree's eight cells. -/
structure Box (w : World) (b : Nat) (cs : Array Value) : Prop where
  row : w.heap[b]? = some (.cells cs 68 (0, 0))
theorem Box.lt {w : World} {b : Nat} {cs : Array Value} (h : Box w b cs) : b < w.heap.size := (Array.getElem?_eq_some_iff.1 h.row).1
theorem Box.c {w : World} {b : Nat} {cs : Array Value} (h : Box w b cs) (j : Nat) : w.cell? ⟨b, j, none⟩ = cs[j]? := cell_of_row _ _ j _ _ _ h.row
theorem Box.z {w : World} {b : Nat} {cs : Array Value} (h : Box w b cs) (j : Nat) : w.frozen? ⟨b, j, none⟩ = false := frozen_of_row _ _ j _ _ h.row
theorem Box.eight {w : World} {b : Nat} {cs : Array Value} (h : Box w b cs) : Eight w b 0 cs := fun j _ => by rw [Nat.zero_add]; exact h.c j
theorem Box.after {w w' : World} {b : Nat} {cs : Array Value} (h : Box w b cs) (hb : Below w.heap.size w w') : Box w' b cs := ⟨by rw [hb.block b h.lt]; exact h.row⟩
theorem Box.but {p : Nat} {w w' : World} {b : Nat} {cs : Array Value} (h : Box w b cs) (hb : But p w w') (hp : b ≠ p) : Box w' b cs := ⟨by rw [hb.block b h.lt hp]; exact h.row⟩
theorem Box.setRow {w : World} {b : Nat} {cs : Array Value} (h : Box w b cs) (ds : Array Value) : Box (w.setRow b ds) b ds := ⟨setRow_heap _ _ _ _ _ _ h.row⟩
theorem box_new (w : World) (cs : Array Value) : Box (w.alloc (.cells cs 68)) w.heap.size cs := ⟨heap_alloc_last w _⟩
theorem re_box (w : World) (cs : Array Value) : ∃ W, W = w.alloc (.cells cs 68) ∧ Hid (Box W w.heap.size cs) ∧ Hid (Below w.heap.size w W) ∧ Hid (W.heap.size = w.heap.size + 1) :=
  ⟨_, rfl, Lib.hid (box_new w cs), Lib.hid (below_new w _), Lib.hid (World.size_alloc _ _)⟩
def zeroR : Array Value := reC 0 zero4 0 0 (.slice none 0 0)

/-- The eight cells, each by itself. -/
theorem eight_re {w : World} {b o : Nat} {k : Int} {f : Nat → Nat} {lo hi : Int} {sl : Value} (h : Eight w b o (reC k f lo hi sl)) :
    w.cell? ⟨b, o, none⟩ = some (.int .i64 k) ∧ w.cell? ⟨b, o + 1, none⟩ = some (.int .u64 (f 0)) ∧ w.cell? ⟨b, o + 2, none⟩ = some (.int .u64 (f 1)) ∧ w.cell? ⟨b, o + 3, none⟩ = some (.int .u64 (f 2)) ∧ w.cell? ⟨b, o + 4, none⟩ = some (.int .u64 (f 3)) ∧
    w.cell? ⟨b, o + 5, none⟩ = some (.int .i64 lo) ∧ w.cell? ⟨b, o + 6, none⟩ = some (.int .i64 hi) ∧ w.cell? ⟨b, o + 7, none⟩ = some sl :=
  ⟨h 0 (by omega), h 1 (by omega), h 2 (by omega), h 3 (by omega), h 4 (by omega), h 5 (by omega), h 6 (by omega), h 7 (by omega)⟩
theorem eight_zero {w : World} {b o : Nat} {k lo hi : Int} {sl : Value} (h : Eight w b o (reC k zero4 lo hi sl)) :
    w.cell? ⟨b, o, none⟩ = some (.int .i64 k) ∧ w.cell? ⟨b, o + 1, none⟩ = some (.int .u64 0) ∧ w.cell? ⟨b, o + 2, none⟩ = some (.int .u64 0) ∧ w.cell? ⟨b, o + 3, none⟩ = some (.int .u64 0) ∧ w.cell? ⟨b, o + 4, none⟩ = some (.int .u64 0) ∧
    w.cell? ⟨b, o + 5, none⟩ = some (.int .i64 lo) ∧ w.cell? ⟨b, o + 6, none⟩ = some (.int .i64 hi) ∧ w.cell? ⟨b, o + 7, none⟩ = some sl := eight_re h
end Go.Proofs.YtcojnkjcbopnbaaGreatDoor
