/- Merged by program: Flat, PlanT. -/
import Derived.Maps.AppendAt
import Derived.Test.YtimipfdknfdbdaaGreatDoorQjac
/- Rows of a slice's elements' cells, a slice that a call owns; plain lemmas. -/
namespace Go.Proofs.YtimipfdknfdbdaaGreatDoor
open Go.RowKit

theorem owns_after {w w' : World} {base : Nat} {e : TypeId} {size : Nat} {v : Value} {n : Nat} {xs : List Value} (h : w.ownsRow base e size v n xs) (hb : Below w.heap.size w w') : w'.ownsRow base e size v n xs :=
  h.kept (row := none) ⟨hb.os, hb.tape, hb.output, hb.size, fun k hk _ => hb.block k hk⟩ (by cases v.ownBlock <;> simp)
theorem owns_but {p : Nat} {w w' : World} {base : Nat} {e : TypeId} {size : Nat} {v : Value} {n : Nat} {xs : List Value} (h : w.ownsRow base e size v n xs) (hb : But p w w') (hp : v.ownBlock ≠ some p) : w'.ownsRow base e size v n xs :=
  h.kept (row := some p) ⟨hb.os, hb.tape, hb.output, hb.size, fun k hk e => hb.block k hk (fun e' => e (by rw [e']))⟩ (Or.inr hp)

/-- The cells of the first so many parts. -/
def flatC (cs : Nat → Array Value) (n : Nat) : List Value := (List.range n).flatMap fun j => (cs j).toList
theorem flatC_succ (cs : Nat → Array Value) (n : Nat) : flatC cs (n + 1) = flatC cs n ++ (cs n).toList := by
  unfold flatC
  rw [List.range_succ, List.flatMap_append]
  simp
theorem flatC_len (m : Nat) (cs : Nat → Array Value) (n : Nat) (h : ∀ j, j < n → (cs j).size = m) : (flatC cs n).length = n * m := by
  induction n with
  | zero => simp [flatC]
  | succ n ih =>
    rw [flatC_succ, List.length_append, ih fun j hj => h j (by omega)]
    have := h n (by omega)
    simp only [Array.length_toList, this]
    rw [Nat.add_mul, Nat.one_mul]
theorem flatC_get (m : Nat) (cs : Nat → Array Value) (n : Nat) (h : ∀ j, j < n → (cs j).size = m) (i : Nat) (hi : i < n) (j : Nat) (hj : j < m) : (flatC cs n)[i * m + j]? = (cs i)[j]? := by
  induction n with
  | zero => omega
  | succ n ih =>
    rw [flatC_succ]
    have hl := flatC_len m cs n fun j hj => h j (by omega)
    by_cases e : i < n
    · have h1 : i * m + j < n * m := by
        have : (i + 1) * m ≤ n * m := Nat.mul_le_mul_right m e
        rw [Nat.add_mul, Nat.one_mul] at this
        omega
      rw [List.getElem?_append_left (by omega)]
      exact ih (fun j hj => h j (by omega)) e
    · obtain rfl : i = n := by omega
      rw [List.getElem?_append_right (by omega), hl]
      simp
theorem flatC_congr {cs ds : Nat → Array Value} {n : Nat} (h : ∀ j, j < n → cs j = ds j) : flatC cs n = flatC ds n := by
  induction n with
  | zero => rfl
  | succ n ih => rw [flatC_succ, flatC_succ, ih fun j hj => h j (by omega), h n (by omega)]
theorem info_re : (Tryz.prog.info? 48).map (·.size) = some 8 := by kernel_rfl
theorem info_re3 : (Tryz.prog.info? 48).map (fun i => (i.zero, i.size, i.bytes)) = some (some (.agg #[.int .i64 0, .int .u64 0, .int .u64 0, .int .u64 0, .int .u64 0, .int .i64 0, .int .i64 0, .slice none 0 0]), 8, 80) := by kernel_rfl
theorem re_one (k : Int) (f : Nat → Nat) (lo hi : Int) (a : Option Addr) (n c : Nat) : (reC k f lo hi (.slice a n c)).all (·.oneCell') = true := by
  unfold reC
  simp [Value.oneCell']
end Go.Proofs.YtimipfdknfdbdaaGreatDoor

/- Plans of machines: plain Lean, and plans in memory. -/
namespace Go.Proofs.YtimipfdknfdbdaaGreatDoor
open Go.RowKit

/-- A plan. -/
inductive Plan where
  | mk (k : Int) (f : Nat → Nat) (lo hi : Int) (n : Nat) (l : List Plan)
namespace Plan
def k : Plan → Int | .mk k _ _ _ _ _ => k
def f : Plan → Nat → Nat | .mk _ f _ _ _ _ => f
def lo : Plan → Int | .mk _ _ lo _ _ _ => lo
def hi : Plan → Int | .mk _ _ _ hi _ _ => hi
def n : Plan → Nat | .mk _ _ _ _ n _ => n
def kids : Plan → List Plan | .mk _ _ _ _ _ l => l
theorem eta (t : Plan) : t = .mk t.k t.f t.lo t.hi t.n t.kids := by cases t; rfl
end Plan

/-- A plan's nine cells. -/
def plC (k : Int) (f : Nat → Nat) (lo hi n : Int) (sl : Value) : Array Value := #[.int .i64 k, .int .u64 (f 0), .int .u64 (f 1), .int .u64 (f 2), .int .u64 (f 3), .int .i64 lo, .int .i64 hi, .int .i64 n, sl]
theorem plC_size (k : Int) (f : Nat → Nat) (lo hi n : Int) (sl : Value) : (plC k f lo hi n sl).size = 9 := rfl
theorem pl_one (k : Int) (f : Nat → Nat) (lo hi n : Int) (a : Option Addr) (m c : Nat) : (plC k f lo hi n (.slice a m c)).all (·.oneCell') = true := by
  unfold plC
  simp [Value.oneCell']

def Nine (w : World) (b o : Nat) (cs : Array Value) : Prop := ∀ j, j < 9 → w.cell? ⟨b, o + j, none⟩ = cs[j]?

/-- A plan lies in memory, in blocks of S: what its nine cells are. -/
inductive PAt (w : World) (S : Nat → Prop) : Plan → Array Value → Prop
  | leaf (k : Int) (f : Nat → Nat) (lo hi : Int) (n : Nat) (a : Option Addr) (c : Nat) : PAt w S (.mk k f lo hi n []) (plC k f lo hi n (.slice a 0 c))
  | node (k : Int) (f : Nat → Nat) (lo hi : Int) (n : Nat) (l : List Plan) (b c : Nat) (cs : Nat → Array Value) (hl : l ≠ []) (hc : l.length ≤ c) (hB : S b)
      (h8 : ∀ i, i < l.length → Nine w b (i * 9) (cs i)) (hk : ∀ i (h : i < l.length), PAt w S l[i] (cs i)) : PAt w S (.mk k f lo hi n l) (plC k f lo hi n (.slice (some ⟨b, 0, none⟩) l.length c))

/-- Plans lie in a slice. -/
def PSl (w : World) (S : Nat → Prop) (l : List Plan) (v : Value) : Prop :=
  (l = [] ∧ ∃ a c, v = .slice a 0 c) ∨
  (l ≠ [] ∧ ∃ (b c : Nat) (cs : Nat → Array Value), v = .slice (some ⟨b, 0, none⟩) l.length c ∧ l.length ≤ c ∧ S b ∧ (∀ i, i < l.length → Nine w b (i * 9) (cs i)) ∧ ∀ i (h : i < l.length), PAt w S l[i] (cs i))

theorem PAt.open {w : World} {S : Nat → Prop} {t : Plan} {cs : Array Value} (h : PAt w S t cs) : ∃ sl, cs = plC t.k t.f t.lo t.hi t.n sl ∧ PSl w S t.kids sl := by
  cases h with
  | leaf k f lo hi n a c => exact ⟨_, rfl, Or.inl ⟨rfl, _, _, rfl⟩⟩
  | node k f lo hi n l b c cs hl hc hB h8 hk => exact ⟨_, rfl, Or.inr ⟨hl, b, c, cs, rfl, hc, hB, h8, hk⟩⟩
theorem PSl.shut {w : World} {S : Nat → Prop} {l : List Plan} {sl : Value} (h : PSl w S l sl) (k : Int) (f : Nat → Nat) (lo hi : Int) (n : Nat) : PAt w S (.mk k f lo hi n l) (plC k f lo hi n sl) := by
  rcases h with ⟨rfl, a, c, rfl⟩ | ⟨hl, b, c, cs, rfl, hc, hB, h8, hk⟩
  · exact .leaf k f lo hi n a c
  · exact .node k f lo hi n l b c cs hl hc hB h8 hk
theorem PSl.shape {w : World} {S : Nat → Prop} {l : List Plan} {v : Value} (h : PSl w S l v) : ∃ a c, v = .slice a l.length c := by
  rcases h with ⟨rfl, a, c, rfl⟩ | ⟨hl, b, c, cs, rfl, _⟩
  · exact ⟨_, _, rfl⟩
  · exact ⟨_, _, rfl⟩
theorem PAt.opens {w : World} {S : Nat → Prop} {t : Plan} {cs : Array Value} (h : PAt w S t cs) : ∃ a c, cs = plC t.k t.f t.lo t.hi t.n (.slice a t.kids.length c) ∧ PSl w S t.kids (.slice a t.kids.length c) := by
  obtain ⟨sl, rfl, hs⟩ := h.open
  obtain ⟨a, c, rfl⟩ := hs.shape
  exact ⟨a, c, rfl, hs⟩
theorem PAt.size {w : World} {S : Nat → Prop} {t : Plan} {cs : Array Value} (h : PAt w S t cs) : cs.size = 9 := by
  obtain ⟨sl, rfl, _⟩ := h.open
  rfl

theorem Nine.lt {w : World} {b o : Nat} {cs : Array Value} (h : Nine w b o cs) (hs : cs.size = 9) : b < w.heap.size := by
  have h0 := h 0 (by omega)
  rw [Array.getElem?_eq_getElem (by omega)] at h0
  exact cell_lt h0
theorem Nine.keep {w w' : World} {b o : Nat} {cs : Array Value} (h : Nine w b o cs) (e : w'.heap[b]? = w.heap[b]?) : Nine w' b o cs :=
  fun j hj => by rw [World.cell?_of_block (a := ⟨b, o + j, none⟩) e]; exact h j hj

theorem PAt.keep {w w' : World} {S : Nat → Prop} {t : Plan} {cs : Array Value} (h : PAt w S t cs) (e : ∀ k, S k → k < w.heap.size → w'.heap[k]? = w.heap[k]?) : PAt w' S t cs := by
  induction h with
  | leaf k f lo hi n a c => exact .leaf k f lo hi n a c
  | node k f lo hi n l b c cs hl hc hB h8 hk ih =>
    exact .node k f lo hi n l b c cs hl hc hB (fun i hi => (h8 i hi).keep (e b hB ((h8 i hi).lt (hk i hi).size))) ih
theorem PAt.weakS {w : World} {S T : Nat → Prop} {t : Plan} {cs : Array Value} (h : PAt w S t cs) (e : ∀ k, S k → T k) : PAt w T t cs := by
  induction h with
  | leaf k f lo hi n a c => exact .leaf k f lo hi n a c
  | node k f lo hi n l b c cs hl hc hB h8 hk ih => exact .node k f lo hi n l b c cs hl hc (e b hB) h8 ih
/-- A plan's blocks are there. -/
theorem PAt.inWorld {w : World} {S : Nat → Prop} {t : Plan} {cs : Array Value} (h : PAt w S t cs) : PAt w (fun b => S b ∧ b < w.heap.size) t cs := by
  induction h with
  | leaf k f lo hi n a c => exact .leaf k f lo hi n a c
  | node k f lo hi n l b c cs hl hc hB h8 hk ih =>
    have h0 : 0 < l.length := by cases l with | nil => exact absurd rfl hl | cons => simp
    exact .node k f lo hi n l b c cs hl hc ⟨hB, (h8 0 h0).lt (hk 0 h0).size⟩ h8 ih
theorem PSl.keep {w w' : World} {S : Nat → Prop} {l : List Plan} {v : Value} (h : PSl w S l v) (e : ∀ k, S k → k < w.heap.size → w'.heap[k]? = w.heap[k]?) : PSl w' S l v := by
  rcases h with h | ⟨hl, b, c, cs, rfl, hc, hB, h8, hk⟩
  · exact Or.inl h
  · exact Or.inr ⟨hl, b, c, cs, rfl, hc, hB, fun i hi => (h8 i hi).keep (e b hB ((h8 i hi).lt (hk i hi).size)), fun i hi => (hk i hi).keep e⟩
theorem PAt.after {w w' : World} {S : Nat → Prop} {t : Plan} {cs : Array Value} (h : PAt w S t cs) (hb : Below w.heap.size w w') : PAt w' S t cs := h.keep fun k _ hk => hb.block k hk
theorem PSl.after {w w' : World} {S : Nat → Prop} {l : List Plan} {v : Value} (h : PSl w S l v) (hb : Below w.heap.size w w') : PSl w' S l v := h.keep fun k _ hk => hb.block k hk
theorem Nine.after {w w' : World} {b o : Nat} {cs : Array Value} (h : Nine w b o cs) (hs : cs.size = 9) (hb : Below w.heap.size w w') : Nine w' b o cs := h.keep (hb.block b (h.lt hs))

/-- A block of a plan's nine cells. -/
structure PBox (w : World) (b : Nat) (cs : Array Value) : Prop where
  row : w.heap[b]? = some (.cells cs 82 (0, 0))
theorem PBox.lt {w : World} {b : Nat} {cs : Array Value} (h : PBox w b cs) : b < w.heap.size := (Array.getElem?_eq_some_iff.1 h.row).1
theorem PBox.c {w : World} {b : Nat} {cs : Array Value} (h : PBox w b cs) (j : Nat) : w.cell? ⟨b, j, none⟩ = cs[j]? := cell_of_row _ _ j _ _ _ h.row
theorem PBox.z {w : World} {b : Nat} {cs : Array Value} (h : PBox w b cs) (j : Nat) : w.frozen? ⟨b, j, none⟩ = false := frozen_of_row _ _ j _ _ h.row
theorem PBox.nine {w : World} {b : Nat} {cs : Array Value} (h : PBox w b cs) : Nine w b 0 cs := fun j _ => by rw [Nat.zero_add]; exact h.c j
theorem PBox.after {w w' : World} {b : Nat} {cs : Array Value} (h : PBox w b cs) (hb : Below w.heap.size w w') : PBox w' b cs := ⟨by rw [hb.block b h.lt]; exact h.row⟩
theorem PBox.keep {w w' : World} {b : Nat} {cs : Array Value} (h : PBox w b cs) (e : w'.heap[b]? = w.heap[b]?) : PBox w' b cs := ⟨by rw [e]; exact h.row⟩
theorem PBox.setRow {w : World} {b : Nat} {cs : Array Value} (h : PBox w b cs) (ds : Array Value) : PBox (w.setRow b ds) b ds := ⟨setRow_heap _ _ _ _ _ _ h.row⟩
theorem pbox_new (w : World) (cs : Array Value) : PBox (w.alloc (.cells cs 82)) w.heap.size cs := ⟨heap_alloc_last w _⟩
theorem pl_box (w : World) (cs : Array Value) : ∃ W, W = w.alloc (.cells cs 82) ∧ Hid (PBox W w.heap.size cs) ∧ Hid (Below w.heap.size w W) ∧ Hid (W.heap.size = w.heap.size + 1) :=
  ⟨_, rfl, Lib.hid (pbox_new w cs), Lib.hid (below_new w _), Lib.hid (World.size_alloc _ _)⟩
def zeroPl : Array Value := plC 0 zero4 0 0 0 (.slice none 0 0)

/-- The nine cells, each by itself. -/
theorem nine_pl {w : World} {b o : Nat} {k : Int} {f : Nat → Nat} {lo hi n : Int} {sl : Value} (h : Nine w b o (plC k f lo hi n sl)) :
    w.cell? ⟨b, o, none⟩ = some (.int .i64 k) ∧ w.cell? ⟨b, o + 1, none⟩ = some (.int .u64 (f 0)) ∧ w.cell? ⟨b, o + 2, none⟩ = some (.int .u64 (f 1)) ∧ w.cell? ⟨b, o + 3, none⟩ = some (.int .u64 (f 2)) ∧ w.cell? ⟨b, o + 4, none⟩ = some (.int .u64 (f 3)) ∧
    w.cell? ⟨b, o + 5, none⟩ = some (.int .i64 lo) ∧ w.cell? ⟨b, o + 6, none⟩ = some (.int .i64 hi) ∧ w.cell? ⟨b, o + 7, none⟩ = some (.int .i64 n) ∧ w.cell? ⟨b, o + 8, none⟩ = some sl :=
  ⟨h 0 (by omega), h 1 (by omega), h 2 (by omega), h 3 (by omega), h 4 (by omega), h 5 (by omega), h 6 (by omega), h 7 (by omega), h 8 (by omega)⟩
theorem info_plan : (Tryz.prog.info? 82).map (·.size) = some 9 := by kernel_rfl
theorem info_plan3 : (Tryz.prog.info? 82).map (fun i => (i.zero, i.size, i.bytes)) = some (some (.agg #[.int .i64 0, .int .u64 0, .int .u64 0, .int .u64 0, .int .u64 0, .int .i64 0, .int .i64 0, .int .i64 0, .slice none 0 0]), 9, 88) := by kernel_rfl

/-- A slice of plans that a call makes, plan by plan. -/
structure OwnPlans (w : World) (base : Nat) (v : Value) (ts : List Plan) (cs : Nat → Array Value) : Prop where
  row : w.ownsRow base 82 9 v ts.length (flatC cs ts.length)
  at_ : ∀ j (h : j < ts.length), PAt w (fun b => base ≤ b ∧ some b ≠ v.ownBlock) ts[j] (cs j)
theorem ownP_nil (w : World) (base : Nat) (cs : Nat → Array Value) : OwnPlans w base (.slice none 0 0) [] cs := ⟨World.ownsRow_nil _ _ _ _, fun j h => absurd h (by simp)⟩
theorem OwnPlans.after {w w' : World} {base : Nat} {v : Value} {ts : List Plan} {cs : Nat → Array Value} (h : OwnPlans w base v ts cs) (hb : Below w.heap.size w w') : OwnPlans w' base v ts cs :=
  ⟨owns_after h.row hb, fun j hj => (h.at_ j hj).after hb⟩
theorem OwnPlans.but {p : Nat} {w w' : World} {base : Nat} {v : Value} {ts : List Plan} {cs : Nat → Array Value} (h : OwnPlans w base v ts cs) (hb : But p w w') (hp : p < base) : OwnPlans w' base v ts cs :=
  ⟨owns_but h.row hb (fun e => by have := (h.row.lt p e).1; omega), fun j hj => (h.at_ j hj).keep fun k hB hk => hb.block k hk (fun e => by have := hB.1; omega)⟩
theorem OwnPlans.size9 {w : World} {base : Nat} {v : Value} {ts : List Plan} {cs : Nat → Array Value} (h : OwnPlans w base v ts cs) (j : Nat) (hj : j < ts.length) : (cs j).size = 9 := (h.at_ j hj).size
theorem OwnPlans.snoc {w w' : World} {base : Nat} {v v' : Value} {ts : List Plan} {cs : Nat → Array Value} (h : OwnPlans w base v ts cs) {t : Plan} {ds : Array Value} {C : Nat} (ht : PAt w (Up C) t ds) (hC : base ≤ C) (hv : ∀ k, v.ownBlock = some k → k < C)
    (hrow : w'.ownsRow base 82 9 v' (ts.length + 1) (flatC cs ts.length ++ ds.toList)) (hg : w.grownBy w' v.ownBlock) (hb : v'.ownBlock = v.ownBlock ∨ v'.ownBlock = some w.heap.size) :
    OwnPlans w' base v' (ts ++ [t]) (fun j => if j = ts.length then ds else cs j) := by
  have hl : (ts ++ [t]).length = ts.length + 1 := by simp
  refine ⟨?_, fun j hj => ?_⟩
  · rw [hl, flatC_succ, if_pos rfl, flatC_congr (ds := cs) (fun j hj => if_neg (by omega))]
    exact hrow
  · have keep : ∀ {u : Plan} {es : Array Value}, PAt w (fun b => base ≤ b ∧ some b ≠ v.ownBlock) u es → PAt w' (fun b => base ≤ b ∧ some b ≠ v'.ownBlock) u es := by
      intro u es hu
      refine ((hu.inWorld).keep (w' := w') (fun k hk hlt => hg.block k hlt hk.1.2)).weakS fun k hk => ⟨hk.1.1, ?_⟩
      rcases hb with e | e
      · rw [e]; exact hk.1.2
      · rw [e]; intro e'; have := hk.2; simp at e'; omega
    by_cases e : j = ts.length
    · subst e
      rw [if_pos rfl]
      have : (ts ++ [t])[ts.length] = t := by simp
      rw [this]
      refine keep (ht.weakS fun k hk => ⟨Nat.le_trans hC hk, fun e => ?_⟩)
      have h1 := hv k e.symm
      have h2 : C ≤ k := hk
      omega
    · rw [if_neg e]
      have hj' : j < ts.length := by rw [hl] at hj; omega
      have : (ts ++ [t])[j] = ts[j] := List.getElem_append_left hj'
      rw [this]
      exact keep (h.at_ j hj')
theorem OwnPlans.slAt {w : World} {base : Nat} {v : Value} {ts : List Plan} {cs : Nat → Array Value} (h : OwnPlans w base v ts cs) : PSl w (Up base) ts v := by
  rcases h.row.2 with ⟨rfl, h0⟩ | ⟨g, cap, cur, rfl, hb, _, hcap, _⟩
  · exact Or.inl ⟨List.eq_nil_of_length_eq_zero h0, none, 0, by rfl⟩
  · by_cases e : ts = []
    · subst e; exact Or.inl ⟨rfl, _, _, rfl⟩
    · refine Or.inr ⟨e, g, cap, cs, rfl, hcap, hb, fun i hi j hj => ?_, fun i hi => (h.at_ i hi).weakS fun k hk => hk.1⟩
      have := h.row.cellAt (i * 9 + j) (by omega)
      rw [this]
      exact flatC_get 9 cs _ (fun j hj => h.size9 j hj) i hi j hj
end Go.Proofs.YtimipfdknfdbdaaGreatDoor
