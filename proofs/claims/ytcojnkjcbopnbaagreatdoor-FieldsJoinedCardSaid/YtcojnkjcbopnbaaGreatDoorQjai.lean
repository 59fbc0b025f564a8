/- Merged by program: PlanT, LayT. -/
import Derived.Deep.AppendLies
import Derived.Deep.RegionLaw
import Derived.BigRegion
import Derived.Test.YtcojnkjcbopnbaaGreatDoorQjah
/- Plans of machines: plain Lean, and plans in memory. -/
namespace Go.Proofs.YtcojnkjcbopnbaaGreatDoor
open Go.RowKit

/-- A plan. -/
inductive Plan where
  | mk (k : Int) (f : Nat → Nat) (lo hi : Int) (n : Nat) (l : List Plan)
namespace Plan
def k : Plan → Int | .mk k _ _ _ _ _ => k
def f : Plan → Nat → Nat | .mk _ f _ _ _ _ => f
def lo : Plan → Int | .mk _ _ lo _ _ _ => lo
def hi : Plan → Int | .mk _ _ _ hi _ _ => hi
def n : Plan → Nat | .mk _ _ _ _ n _ => n
def kids : Plan → List Plan | .mk _ _ _ _ _ l => l
theorem eta (t : Plan) : t = .mk t.k t.f t.lo t.hi t.n t.kids := by cases t; rfl
end Plan

/-- A plan's nine cells. -/
def plC (k : Int) (f : Nat → Nat) (lo hi n : Int) (sl : Value) : Array Value := #[.int .i64 k, .int .u64 (f 0), .int .u64 (f 1), .int .u64 (f 2), .int .u64 (f 3), .int .i64 lo, .int .i64 hi, .int .i64 n, sl]
theorem plC_size (k : Int) (f : Nat → Nat) (lo hi n : Int) (sl : Value) : (plC k f lo hi n sl).size = 9 := rfl
theorem pl_one (k : Int) (f : Nat → Nat) (lo hi n : Int) (a : Option Addr) (m c : Nat) : (plC k f lo hi n (.slice a m c)).all (·.oneCell') = true := by
  unfold plC
  simp [Value.oneCell']

def Nine (w : World) (b o : Nat) (cs : Array Value) : Prop := ∀ j, j < 9 → w.cell? ⟨b, o + j, none⟩ = cs[j]?

/-- A plan lies in memory, in blocks of S: what its nine cells are. -/
inductive PAt (w : World) (S : Nat → Prop) : Plan → Array Value → Prop
  | leaf (k : Int) (f : Nat → Nat) (lo hi : Int) (n : Nat) (a : Option Addr) (c : Nat) : PAt w S (.mk k f lo hi n []) (plC k f lo hi n (.slice a 0 c))
  | node (k : Int) (f : Nat → Nat) (lo hi : Int) (n : Nat) (l : List Plan) (b c : Nat) (cs : Nat → Array Value) (hl : l ≠ []) (hc : l.length ≤ c) (hB : S b)
      (h8 : ∀ i, i < l.length → Nine w b (i * 9) (cs i)) (hk : ∀ i (h : i < l.length), PAt w S l[i] (cs i)) : PAt w S (.mk k f lo hi n l) (plC k f lo hi n (.slice (some ⟨b, 0, none⟩) l.length c))

/-- Plans lie in a slice. -/
def PSl (w : World) (S : Nat → Prop) (l : List Plan) (v : Value) : Prop :=
  (l = [] ∧ ∃ a c, v = .slice a 0 c) ∨
  (l ≠ [] ∧ ∃ (b c : Nat) (cs : Nat → Array Value), v = .slice (some ⟨b, 0, none⟩) l.length c ∧ l.length ≤ c ∧ S b ∧ (∀ i, i < l.length → Nine w b (i * 9) (cs i)) ∧ ∀ i (h : i < l.length), PAt w S l[i] (cs i))

theorem PAt.open {w : World} {S : Nat → Prop} {t : Plan} {cs : Array Value} (h : PAt w S t cs) : ∃ sl, cs = plC t.k t.f t.lo t.hi t.n sl ∧ PSl w S t.kids sl := by
  cases h with
  | leaf k f lo hi n a c => exact ⟨_, rfl, Or.inl ⟨rfl, _, _, rfl⟩⟩
  | node k f lo hi n l b c cs hl hc hB h8 hk => exact ⟨_, rfl, Or.inr ⟨hl, b, c, cs, rfl, hc, hB, h8, hk⟩⟩
theorem PSl.shut {w : World} {S : Nat → Prop} {l : List Plan} {sl : Value} (h : PSl w S l sl) (k : Int) (f : Nat → Nat) (lo hi : Int) (n : Nat) : PAt w S (.mk k f lo hi n l) (plC k f lo hi n sl) := by
  rcases h with ⟨rfl, a, c, rfl⟩ | ⟨hl, b, c, cs, rfl, hc, hB, h8, hk⟩
  · exact .leaf k f lo hi n a c
  · exact .node k f lo hi n l b c cs hl hc hB h8 hk
theorem PSl.shape {w : World} {S : Nat → Prop} {l : List Plan} {v : Value} (h : PSl w S l v) : ∃ a c, v = .slice a l.length c := by
  rcases h with ⟨rfl, a, c, rfl⟩ | ⟨hl, b, c, cs, rfl, _⟩
  · exact ⟨_, _, rfl⟩
  · exact ⟨_, _, rfl⟩
theorem PAt.opens {w : World} {S : Nat → Prop} {t : Plan} {cs : Array Value} (h : PAt w S t cs) : ∃ a c, cs = plC t.k t.f t.lo t.hi t.n (.slice a t.kids.length c) ∧ PSl w S t.kids (.slice a t.kids.length c) := by
  obtain ⟨sl, rfl, hs⟩ := h.open
  obtain ⟨a, c, rfl⟩ := hs.shape
  exact ⟨a, c, rfl, hs⟩
theorem PAt.size {w : World} {S : Nat → Prop} {t : Plan} {cs : Array Value} (h : PAt w S t cs) : cs.size = 9 := by
  obtain ⟨sl, rfl, _⟩ := h.open
  rfl

theorem Nine.lt {w : World} {b o : Nat} {cs : Array Value} (h : Nine w b o cs) (hs : cs.size = 9) : b < w.heap.size := by
  have h0 := h 0 (by omega)
  rw [Array.getElem?_eq_getElem (by omega)] at h0
  exact cell_lt h0
theorem Nine.keep {w w' : World} {b o : Nat} {cs : Array Value} (h : Nine w b o cs) (e : w'.heap[b]? = w.heap[b]?) : Nine w' b o cs :=
  fun j hj => by rw [World.cell?_of_block (a := ⟨b, o + j, none⟩) e]; exact h j hj

theorem PAt.keep {w w' : World} {S : Nat → Prop} {t : Plan} {cs : Array Value} (h : PAt w S t cs) (e : ∀ k, S k → k < w.heap.size → w'.heap[k]? = w.heap[k]?) : PAt w' S t cs := by
  induction h with
  | leaf k f lo hi n a c => exact .leaf k f lo hi n a c
  | node k f lo hi n l b c cs hl hc hB h8 hk ih =>
    exact .node k f lo hi n l b c cs hl hc hB (fun i hi => (h8 i hi).keep (e b hB ((h8 i hi).lt (hk i hi).size))) ih
theorem PAt.weakS {w : World} {S T : Nat → Prop} {t : Plan} {cs : Array Value} (h : PAt w S t cs) (e : ∀ k, S k → T k) : PAt w T t cs := by
  induction h with
  | leaf k f lo hi n a c => exact .leaf k f lo hi n a c
  | node k f lo hi n l b c cs hl hc hB h8 hk ih => exact .node k f lo hi n l b c cs hl hc (e b hB) h8 ih
/-- A plan's blocks are there. -/
theorem PAt.inWorld {w : World} {S : Nat → Prop} {t : Plan} {cs : Array Value} (h : PAt w S t cs) : PAt w (fun b => S b ∧ b < w.heap.size) t cs := by
  induction h with
  | leaf k f lo hi n a c => exact .leaf k f lo hi n a c
  | node k f lo hi n l b c cs hl hc hB h8 hk ih =>
    have h0 : 0 < l.length := by cases l with | nil => exact absurd rfl hl | cons => simp
    exact .node k f lo hi n l b c cs hl hc ⟨hB, (h8 0 h0).lt (hk 0 h0).size⟩ h8 ih
theorem PSl.keep {w w' : World} {S : Nat → Prop} {l : List Plan} {v : Value} (h : PSl w S l v) (e : ∀ k, S k → k < w.heap.size → w'.heap[k]? = w.heap[k]?) : PSl w' S l v := by
  rcases h with h | ⟨hl, b, c, cs, rfl, hc, hB, h8, hk⟩
  · exact Or.inl h
  · exact Or.inr ⟨hl, b, c, cs, rfl, hc, hB, fun i hi => (h8 i hi).keep (e b hB ((h8 i hi).lt (hk i hi).size)), fun i hi => (hk i hi).keep e⟩
theorem PAt.after {w w' : World} {S : Nat → Prop} {t : Plan} {cs : Array Value} (h : PAt w S t cs) (hb : Below w.heap.size w w') : PAt w' S t cs := h.keep fun k _ hk => hb.block k hk
theorem PSl.after {w w' : World} {S : Nat → Prop} {l : List Plan} {v : Value} (h : PSl w S l v) (hb : Below w.heap.size w w') : PSl w' S l v := h.keep fun k _ hk => hb.block k hk
theorem Nine.after {w w' : World} {b o : Nat} {cs : Array Value} (h : Nine w b o cs) (hs : cs.size = 9) (hb : Below w.heap.size w w') : Nine w' b o cs := h.keep (hb.block b (h.lt hs))

/-- A block of a plan's nine cells. -/
structure PBox (w : World) (b : Nat) (cs : Array Value) : Prop where
  row : w.heap[b]? = some (.cells cs 119 (0, 0))
theorem PBox.lt {w : World} {b : Nat} {cs : Array Value} (h : PBox w b cs) : b < w.heap.size := (Array.getElem?_eq_some_iff.1 h.row).1
theorem PBox.c {w : World} {b : Nat} {cs : Array Value} (h : PBox w b cs) (j : Nat) : w.cell? ⟨b, j, none⟩ = cs[j]? := cell_of_row _ _ j _ _ _ h.row
theorem PBox.z {w : World} {b : Nat} {cs : Array Value} (h : PBox w b cs) (j : Nat) : w.frozen? ⟨b, j, none⟩ = false := frozen_of_row _ _ j _ _ h.row
theorem PBox.nine {w : World} {b : Nat} {cs : Array Value} (h : PBox w b cs) : Nine w b 0 cs := fun j _ => by rw [Nat.zero_add]; exact h.c j
theorem PBox.after {w w' : World} {b : Nat} {cs : Array Value} (h : PBox w b cs) (hb : Below w.heap.size w w') : PBox w' b cs := ⟨by rw [hb.block b h.lt]; exact h.row⟩
theorem PBox.keep {w w' : World} {b : Nat} {cs : Array Value} (h : PBox w b cs) (e : w'.heap[b]? = w.heap[b]?) : PBox w' b cs := ⟨by rw [e]; exact h.row⟩
theorem PBox.setRow {w : World} {b : Nat} {cs : Array Value} (h : PBox w b cs) (ds : Array Value) : PBox (w.setRow b ds) b ds := ⟨setRow_heap _ _ _ _ _ _ h.row⟩
theorem pbox_new (w : World) (cs : Array Value) : PBox (w.alloc (.cells cs 119)) w.heap.size cs := ⟨heap_alloc_last w _⟩
theorem pl_box (w : World) (cs : Array Value) : ∃ W, W = w.alloc (.cells cs 119) ∧ Hid (PBox W w.heap.size cs) ∧ Hid (Below w.heap.size w W) ∧ Hid (W.heap.size = w.heap.size + 1) :=
  ⟨_, rfl, Lib.hid (pbox_new w cs), Lib.hid (below_new w _), Lib.hid (World.size_alloc _ _)⟩
def zeroPl : Array Value := plC 0 zero4 0 0 0 (.slice none 0 0)

/-- The nine cells, each by itself. -/
theorem nine_pl {w : World} {b o : Nat} {k : Int} {f : Nat → Nat} {lo hi n : Int} {sl : Value} (h : Nine w b o (plC k f lo hi n sl)) :
    w.cell? ⟨b, o, none⟩ = some (.int .i64 k) ∧ w.cell? ⟨b, o + 1, none⟩ = some (.int .u64 (f 0)) ∧ w.cell? ⟨b, o + 2, none⟩ = some (.int .u64 (f 1)) ∧ w.cell? ⟨b, o + 3, none⟩ = some (.int .u64 (f 2)) ∧ w.cell? ⟨b, o + 4, none⟩ = some (.int .u64 (f 3)) ∧
    w.cell? ⟨b, o + 5, none⟩ = some (.int .i64 lo) ∧ w.cell? ⟨b, o + 6, none⟩ = some (.int .i64 hi) ∧ w.cell? ⟨b, o + 7, none⟩ = some (.int .i64 n) ∧ w.cell? ⟨b, o + 8, none⟩ = some sl :=
  ⟨h 0 (by omega), h 1 (by omega), h 2 (by omega), h 3 (by omega), h 4 (by omega), h 5 (by omega), h 6 (by omega), h 7 (by omega), h 8 (by omega)⟩
theorem info_plan : (Tryz.prog.info? 119).map (·.size) = some 9 := by kernel_rfl
theorem info_plan3 : (Tryz.prog.info? 119).map (fun i => (i.zero, i.size, i.bytes)) = some (some (.agg #[.int .i64 0, .int .u64 0, .int .u64 0, .int .u64 0, .int .u64 0, .int .i64 0, .int .i64 0, .int .i64 0, .slice none 0 0]), 9, 88) := by kernel_rfl

/-- A slice of plans that a call makes, plan by plan. -/
structure OwnPlans (w : World) (base : Nat) (v : Value) (ts : List Plan) (cs : Nat → Array Value) : Prop where
  row : w.ownsRow base 119 9 v ts.length (flatC cs ts.length)
  at_ : ∀ j (h : j < ts.length), PAt w (fun b => base ≤ b ∧ some b ≠ v.ownBlock) ts[j] (cs j)
theorem ownP_nil (w : World) (base : Nat) (cs : Nat → Array Value) : OwnPlans w base (.slice none 0 0) [] cs := ⟨World.ownsRow_nil _ _ _ _, fun j h => absurd h (by simp)⟩
theorem OwnPlans.after {w w' : World} {base : Nat} {v : Value} {ts : List Plan} {cs : Nat → Array Value} (h : OwnPlans w base v ts cs) (hb : Below w.heap.size w w') : OwnPlans w' base v ts cs :=
  ⟨owns_after h.row hb, fun j hj => (h.at_ j hj).after hb⟩
theorem OwnPlans.but {p : Nat} {w w' : World} {base : Nat} {v : Value} {ts : List Plan} {cs : Nat → Array Value} (h : OwnPlans w base v ts cs) (hb : But p w w') (hp : p < base) : OwnPlans w' base v ts cs :=
  ⟨owns_but h.row hb (fun e => by have := (h.row.lt p e).1; omega), fun j hj => (h.at_ j hj).keep fun k hB hk => hb.block k hk (fun e => by have := hB.1; omega)⟩
theorem OwnPlans.size9 {w : World} {base : Nat} {v : Value} {ts : List Plan} {cs : Nat → Array Value} (h : OwnPlans w base v ts cs) (j : Nat) (hj : j < ts.length) : (cs j).size = 9 := (h.at_ j hj).size
theorem OwnPlans.snoc {w w' : World} {base : Nat} {v v' : Value} {ts : List Plan} {cs : Nat → Array Value} (h : OwnPlans w base v ts cs) {t : Plan} {ds : Array Value} {C : Nat} (ht : PAt w (Up C) t ds) (hC : base ≤ C) (hv : ∀ k, v.ownBlock = some k → k < C)
    (hrow : w'.ownsRow base 119 9 v' (ts.length + 1) (flatC cs ts.length ++ ds.toList)) (hg : w.grownBy w' v.ownBlock) (hb : v'.ownBlock = v.ownBlock ∨ v'.ownBlock = some w.heap.size) :
    OwnPlans w' base v' (ts ++ [t]) (fun j => if j = ts.length then ds else cs j) := by
  have hl : (ts ++ [t]).length = ts.length + 1 := by simp
  refine ⟨?_, fun j hj => ?_⟩
  · rw [hl, flatC_succ, if_pos rfl, flatC_congr (ds := cs) (fun j hj => if_neg (by omega))]
    exact hrow
  · have keep : ∀ {u : Plan} {es : Array Value}, PAt w (fun b => base ≤ b ∧ some b ≠ v.ownBlock) u es → PAt w' (fun b => base ≤ b ∧ some b ≠ v'.ownBlock) u es := by
      intro u es hu
      refine ((hu.inWorld).keep (w' := w') (fun k hk hlt => hg.block k hlt hk.1.2)).weakS fun k hk => ⟨hk.1.1, ?_⟩
      rcases hb with e | e
      · rw [e]; exact hk.1.2
      · rw [e]; intro e'; have := hk.2; simp at e'; omega
    by_cases e : j = ts.length
    · subst e
      rw [if_pos rfl]
      have : (ts ++ [t])[ts.length] = t := by simp
      rw [this]
      refine keep (ht.weakS fun k hk => ⟨Nat.le_trans hC hk, fun e => ?_⟩)
      have h1 := hv k e.symm
      have h2 : C ≤ k := hk
      omega
    · rw [if_neg e]
      have hj' : j < ts.length := by rw [hl] at hj; omega
      have : (ts ++ [t])[j] = ts[j] := List.getElem_append_left hj'
      rw [this]
      exact keep (h.at_ j hj')
theorem OwnPlans.slAt {w : World} {base : Nat} {v : Value} {ts : List Plan} {cs : Nat → Array Value} (h : OwnPlans w base v ts cs) : PSl w (Up base) ts v := by
  rcases h.row.2 with ⟨rfl, h0⟩ | ⟨g, cap, cur, rfl, hb, _, hcap, _⟩
  · exact Or.inl ⟨List.eq_nil_of_length_eq_zero h0, none, 0, by rfl⟩
  · by_cases e : ts = []
    · subst e; exact Or.inl ⟨rfl, _, _, rfl⟩
    · refine Or.inr ⟨e, g, cap, cs, rfl, hcap, hb, fun i hi j hj => ?_, fun i hi => (h.at_ i hi).weakS fun k hk => hk.1⟩
      have := h.row.cellAt (i * 9 + j) (by omega)
      rw [this]
      exact flatC_get 9 cs _ (fun j hj => h.size9 j hj) i hi j hj
end Go.Proofs.YtcojnkjcbopnbaaGreatDoor

/- A machine while it is laid: states in memory; (*nfa.Prog).put: a walk. -/
namespace Go.Proofs.YtcojnkjcbopnbaaGreatDoor
open Go.RowKit

/-- A state of a machine. -/
structure St where
  k : Nat
  f : Nat → Nat
  nx : Nat
  ot : Nat
def stC (s : St) : Array Value := #[.int .i64 s.k, .int .u64 (s.f 0), .int .u64 (s.f 1), .int .u64 (s.f 2), .int .u64 (s.f 3), .int .i64 s.nx, .int .i64 s.ot]
theorem stC_one (s : St) : ∀ u ∈ (stC s).toList, u.oneCell' = true := by
  intro u hu
  unfold stC at hu
  simp at hu
  rcases hu with rfl | rfl | rfl | rfl | rfl | rfl | rfl <;> rfl
def flatS (ss : List St) : List Value := ss.flatMap fun s => (stC s).toList
theorem flatS_nil : flatS [] = [] := rfl
theorem flatS_snoc (ss : List St) (s : St) : flatS (ss ++ [s]) = flatS ss ++ (stC s).toList := by simp [flatS]
theorem flatS_len (ss : List St) : (flatS ss).length = ss.length * 7 := by
  induction ss with
  | nil => rfl
  | cons s r ih =>
    show ((stC s).toList ++ flatS r).length = _
    rw [List.length_append, ih, List.length_cons]
    show 7 + _ = _
    omega
theorem flatS_get (ss : List St) (i : Nat) (hi : i < ss.length) (j : Nat) (hj : j < 7) : (flatS ss)[i * 7 + j]? = (stC ss[i])[j]? := by
  induction ss generalizing i with
  | nil => exact absurd hi (by simp)
  | cons s r ih =>
    show ((stC s).toList ++ flatS r)[i * 7 + j]? = _
    have hl : (stC s).toList.length = 7 := rfl
    cases i with
    | zero =>
      rw [List.getElem?_append_left (by omega), Nat.zero_mul, Nat.zero_add]
      simp
    | succ i =>
      rw [List.getElem?_append_right (by omega), hl, show (i + 1) * 7 + j - 7 = i * 7 + j by omega]
      exact ih i (by simpa using hi)
theorem flatS_set (ss : List St) (i : Nat) (hi : i < ss.length) (n : Nat) : (flatS ss).set (i * 7 + 5) (.int .i64 n) = flatS (ss.set i { ss[i] with nx := n }) := by
  induction ss generalizing i with
  | nil => exact absurd hi (by simp)
  | cons s r ih =>
    have hl : (stC s).toList.length = 7 := rfl
    cases i with
    | zero =>
      show ((stC s).toList ++ flatS r).set (0 * 7 + 5) _ = (stC { s with nx := n }).toList ++ flatS r
      rw [List.set_append_left _ _ (by omega)]
      rfl
    | succ i =>
      show ((stC s).toList ++ flatS r).set ((i + 1) * 7 + 5) _ = (stC s).toList ++ flatS (r.set i _)
      rw [List.set_append_right _ _ (by omega), hl, show (i + 1) * 7 + 5 - 7 = i * 7 + 5 by omega]
      rw [ih i (by simpa using hi)]
      rfl
theorem info_state3 : (Tryz.prog.info? 124).map (fun i => (i.zero, i.size, i.bytes)) = some (some (.agg #[.int .i64 0, .int .u64 0, .int .u64 0, .int .u64 0, .int .u64 0, .int .i64 0, .int .i64 0]), 7, 56) := by kernel_rfl
theorem info_state : (Tryz.prog.info? 124).map (·.size) = some 7 := by kernel_rfl

/-- A machine while it is laid. -/
structure Mch (w : World) (p : Nat) (ss : List St) (sv : Value) (st : Int) : Prop where
  row : w.heap[p]? = some (.cells #[sv, .int .i64 st] 87 (0, 0))
  own : w.ownsRow (p + 1) 124 7 sv ss.length (flatS ss)
theorem Mch.lt {w : World} {p : Nat} {ss : List St} {sv : Value} {st : Int} (h : Mch w p ss sv st) : p < w.heap.size := (Array.getElem?_eq_some_iff.1 h.row).1
theorem Mch.c0 {w : World} {p : Nat} {ss : List St} {sv : Value} {st : Int} (h : Mch w p ss sv st) : w.cell? ⟨p, 0, none⟩ = some sv := cell_of_row _ _ 0 _ _ _ h.row
theorem Mch.c1 {w : World} {p : Nat} {ss : List St} {sv : Value} {st : Int} (h : Mch w p ss sv st) : w.cell? ⟨p, 1, none⟩ = some (.int .i64 st) := cell_of_row _ _ 1 _ _ _ h.row
theorem Mch.z {w : World} {p : Nat} {ss : List St} {sv : Value} {st : Int} (h : Mch w p ss sv st) (j : Nat) : w.frozen? ⟨p, j, none⟩ = false := frozen_of_row _ _ j _ _ h.row
theorem Mch.notP {w : World} {p : Nat} {ss : List St} {sv : Value} {st : Int} (h : Mch w p ss sv st) : sv.ownBlock ≠ some p := fun e => by have := (h.own.lt p e).1; omega
theorem Mch.shape {w : World} {p : Nat} {ss : List St} {sv : Value} {st : Int} (h : Mch w p ss sv st) : ∃ a c, sv = .slice a ss.length c := by
  rcases h.own.2 with ⟨rfl, h0⟩ | ⟨g, cap, cur, rfl, _⟩
  · rw [h0]; exact ⟨_, _, rfl⟩
  · exact ⟨_, _, rfl⟩
theorem Mch.after {w w' : World} {p : Nat} {ss : List St} {sv : Value} {st : Int} (h : Mch w p ss sv st) (hb : Below w.heap.size w w') : Mch w' p ss sv st :=
  ⟨by rw [hb.block p h.lt]; exact h.row, owns_after h.own hb⟩

/-- What laying leaves as it was: all but the machine and its row. -/
structure Turn (p : Nat) (sv : Value) (w w' : World) (sv' : Value) : Prop where
  os : w'.os = w.os
  tape : w'.tape = w.tape
  output : w'.output = w.output
  size : w.heap.size ≤ w'.heap.size
  block : ∀ k, k < w.heap.size → k ≠ p → sv.ownBlock ≠ some k → w'.heap[k]? = w.heap[k]?
  own : sv'.ownBlock = sv.ownBlock ∨ ∃ k, sv'.ownBlock = some k ∧ w.heap.size ≤ k
theorem Turn.refl (p : Nat) (sv : Value) (w : World) : Turn p sv w w sv := ⟨rfl, rfl, rfl, Nat.le_refl _, fun _ _ _ _ => rfl, Or.inl rfl⟩
theorem Turn.trans {p : Nat} {sv sv1 sv2 : Value} {w w1 w2 : World} (h : Turn p sv w w1 sv1) (g : Turn p sv1 w1 w2 sv2) : Turn p sv w w2 sv2 := by
  refine ⟨g.os.trans h.os, g.tape.trans h.tape, g.output.trans h.output, Nat.le_trans h.size g.size, fun k hk hp hn => ?_, ?_⟩
  · refine (g.block k (Nat.lt_of_lt_of_le hk h.size) hp (fun e => ?_)).trans (h.block k hk hp hn)
    rcases h.own with e' | ⟨j, e', hj⟩
    · exact hn (e' ▸ e)
    · rw [e'] at e
      have : j = k := by simpa using e
      omega
  · rcases g.own with e | ⟨j, e, hj⟩
    · rw [e]; exact h.own
    · exact Or.inr ⟨j, e, Nat.le_trans h.size hj⟩
theorem Turn.of {p : Nat} {sv : Value} {w w' : World} (h : Below w.heap.size w w') : Turn p sv w w' sv := ⟨h.os, h.tape, h.output, h.size, fun k hk _ _ => h.block k hk, Or.inl rfl⟩
theorem Turn.then {p : Nat} {sv sv1 : Value} {w w1 w2 : World} (h : Turn p sv w w1 sv1) (g : Below w1.heap.size w1 w2) : Turn p sv w w2 sv1 := h.trans (.of g)
theorem Turn.below {p : Nat} {sv sv' : Value} {w w' : World} (h : Turn p sv w w' sv') {B : Nat} (hp : B ≤ p) (hB : B ≤ w.heap.size) (hs : ∀ k, sv.ownBlock = some k → B ≤ k) : Below B w w' :=
  ⟨h.os, h.tape, h.output, h.size, fun k hk => h.block k (by omega) (by omega) (fun e => by have := hs k e; omega)⟩
/-- A block that is neither the machine's nor its row's stays. -/
theorem Turn.keep {p : Nat} {sv sv' : Value} {w w' : World} (h : Turn p sv w w' sv') {k : Nat} {o : Obj} (ho : w.heap[k]? = some o) (hp : k ≠ p) (hs : sv.ownBlock ≠ some k) : w'.heap[k]? = some o :=
  (h.block k (Array.getElem?_eq_some_iff.1 ho).1 hp hs).trans ho

/-- The start stored anew. -/
theorem Mch.setStart {w : World} {p : Nat} {ss : List St} {sv : Value} {st : Int} (h : Mch w p ss sv st) (n : Int) : Mch (w.setCell ⟨p, 1, none⟩ (.int .i64 n)) p ss sv n ∧ Turn p sv w (w.setCell ⟨p, 1, none⟩ (.int .i64 n)) sv := by
  refine ⟨⟨?_, ?_⟩, rfl, rfl, rfl, by simp, fun k _ hp _ => heap_setCell_other w ⟨p, 1, none⟩ k _ (fun e => hp e), Or.inl rfl⟩
  · rw [heap_setCell_same w p 1 _ _ _ h.row]; rfl
  · exact ownsRow_setCell_other h.own (a := ⟨p, 1, none⟩) h.notP _

/-- A state added: the row grown, the slice stored. -/
theorem Mch.push {w w1 w2 : World} {p : Nat} {ss : List St} {sv sv' : Value} {st : Int} {s : St} (h : Mch w p ss sv st) (hb : Below w.heap.size w w1) (hg : w1.grownBy w2 sv.ownBlock)
    (ho : w2.ownsRow (p + 1) 124 7 sv' (ss.length + 1) (flatS ss ++ (stC s).toList)) (ha : sv'.ownBlock = sv.ownBlock ∨ ∃ k, sv'.ownBlock = some k ∧ w.heap.size ≤ k) :
    Mch (w2.setCell ⟨p, 0, none⟩ sv') p (ss ++ [s]) sv' st ∧ Turn p sv w (w2.setCell ⟨p, 0, none⟩ sv') sv' := by
  have hn := h.notP
  have h1 := h.after hb
  have hr : w2.heap[p]? = some (.cells #[sv, .int .i64 st] 87 (0, 0)) := by
    rw [hg.block p h1.lt (fun e => hn e.symm)]; exact h1.row
  have hn' : sv'.ownBlock ≠ some p := fun e => by have := (ho.lt p e).1; omega
  refine ⟨⟨?_, ?_⟩, ?_, ?_, ?_, ?_, fun k hk hp hs => ?_, ha⟩
  · rw [heap_setCell_same w2 p 0 _ _ _ hr]; rfl
  · rw [flatS_snoc, List.length_append]
    exact ownsRow_setCell_other ho (a := ⟨p, 0, none⟩) hn' _
  · exact hg.os.trans hb.os
  · exact hg.tape.trans hb.tape
  · exact hg.output.trans hb.output
  · have := hb.size; have := hg.size; simp; omega
  · rw [heap_setCell_other w2 ⟨p, 0, none⟩ k _ (fun e => hp e), hg.block k (by have := hb.size; omega) (fun e => hs e.symm)]
    exact hb.block k hk
end Go.Proofs.YtcojnkjcbopnbaaGreatDoor
