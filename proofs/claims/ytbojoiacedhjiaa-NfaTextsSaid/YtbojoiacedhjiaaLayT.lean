/- A machine while it is laid: states in memory; (*nfa.Prog).put: a walk. -/
import Derived.Test.YtbojoiacedhjiaaPlanT
import Derived.Deep.AppendLies
import Derived.Deep.RegionLaw
import Derived.BigRegion
namespace Go.Proofs.Ytbojoiacedhjiaa
open Go.RowKit

/-- A state of a machine. -/
structure St where
  k : Nat
  f : Nat → Nat
  nx : Nat
  ot : Nat
def stC (s : St) : Array Value := #[.int .i64 s.k, .int .u64 (s.f 0), .int .u64 (s.f 1), .int .u64 (s.f 2), .int .u64 (s.f 3), .int .i64 s.nx, .int .i64 s.ot]
theorem stC_one (s : St) : ∀ u ∈ (stC s).toList, u.oneCell' = true := by
  intro u hu
  unfold stC at hu
  simp at hu
  rcases hu with rfl | rfl | rfl | rfl | rfl | rfl | rfl <;> rfl
def flatS (ss : List St) : List Value := ss.flatMap fun s => (stC s).toList
theorem flatS_nil : flatS [] = [] := rfl
theorem flatS_snoc (ss : List St) (s : St) : flatS (ss ++ [s]) = flatS ss ++ (stC s).toList := by simp [flatS]
theorem flatS_len (ss : List St) : (flatS ss).length = ss.length * 7 := by
  induction ss with
  | nil => rfl
  | cons s r ih =>
    show ((stC s).toList ++ flatS r).length = _
    rw [List.length_append, ih, List.length_cons]
    show 7 + _ = _
    omega
theorem flatS_get (ss : List St) (i : Nat) (hi : i < ss.length) (j : Nat) (hj : j < 7) : (flatS ss)[i * 7 + j]? = (stC ss[i])[j]? := by
  induction ss generalizing i with
  | nil => exact absurd hi (by simp)
  | cons s r ih =>
    show ((stC s).toList ++ flatS r)[i * 7 + j]? = _
    have hl : (stC s).toList.length = 7 := rfl
    cases i with
    | zero =>
      rw [List.getElem?_append_left (by omega), Nat.zero_mul, Nat.zero_add]
      simp
    | succ i =>
      rw [List.getElem?_append_right (by omega), hl, show (i + 1) * 7 + j - 7 = i * 7 + j by omega]
      exact ih i (by simpa using hi)
theorem flatS_set (ss : List St) (i : Nat) (hi : i < ss.length) (n : Nat) : (flatS ss).set (i * 7 + 5) (.int .i64 n) = flatS (ss.set i { ss[i] with nx := n }) := by
  induction ss generalizing i with
  | nil => exact absurd hi (by simp)
  | cons s r ih =>
    have hl : (stC s).toList.length = 7 := rfl
    cases i with
    | zero =>
      show ((stC s).toList ++ flatS r).set (0 * 7 + 5) _ = (stC { s with nx := n }).toList ++ flatS r
      rw [List.set_append_left _ _ (by omega)]
      rfl
    | succ i =>
      show ((stC s).toList ++ flatS r).set ((i + 1) * 7 + 5) _ = (stC s).toList ++ flatS (r.set i _)
      rw [List.set_append_right _ _ (by omega), hl, show (i + 1) * 7 + 5 - 7 = i * 7 + 5 by omega]
      rw [ih i (by simpa using hi)]
      rfl
theorem info_state3 : (Try.prog.info? 53).map (fun i => (i.zero, i.size, i.bytes)) = some (some (.agg #[.int .i64 0, .int .u64 0, .int .u64 0, .int .u64 0, .int .u64 0, .int .i64 0, .int .i64 0]), 7, 56) := by kernel_rfl
theorem info_state : (Try.prog.info? 53).map (·.size) = some 7 := by kernel_rfl

/-- A machine while it is laid. -/
structure Mch (w : World) (p : Nat) (ss : List St) (sv : Value) (st : Int) : Prop where
  row : w.heap[p]? = some (.cells #[sv, .int .i64 st] 49 (0, 0))
  own : w.ownsRow (p + 1) 53 7 sv ss.length (flatS ss)
theorem Mch.lt {w : World} {p : Nat} {ss : List St} {sv : Value} {st : Int} (h : Mch w p ss sv st) : p < w.heap.size := (Array.getElem?_eq_some_iff.1 h.row).1
theorem Mch.c0 {w : World} {p : Nat} {ss : List St} {sv : Value} {st : Int} (h : Mch w p ss sv st) : w.cell? ⟨p, 0, none⟩ = some sv := cell_of_row _ _ 0 _ _ _ h.row
theorem Mch.c1 {w : World} {p : Nat} {ss : List St} {sv : Value} {st : Int} (h : Mch w p ss sv st) : w.cell? ⟨p, 1, none⟩ = some (.int .i64 st) := cell_of_row _ _ 1 _ _ _ h.row
theorem Mch.z {w : World} {p : Nat} {ss : List St} {sv : Value} {st : Int} (h : Mch w p ss sv st) (j : Nat) : w.frozen? ⟨p, j, none⟩ = false := frozen_of_row _ _ j _ _ h.row
theorem Mch.notP {w : World} {p : Nat} {ss : List St} {sv : Value} {st : Int} (h : Mch w p ss sv st) : sv.ownBlock ≠ some p := fun e => by have := (h.own.lt p e).1; omega
theorem Mch.shape {w : World} {p : Nat} {ss : List St} {sv : Value} {st : Int} (h : Mch w p ss sv st) : ∃ a c, sv = .slice a ss.length c := by
  rcases h.own.2 with ⟨rfl, h0⟩ | ⟨g, cap, cur, rfl, _⟩
  · rw [h0]; exact ⟨_, _, rfl⟩
  · exact ⟨_, _, rfl⟩
theorem Mch.after {w w' : World} {p : Nat} {ss : List St} {sv : Value} {st : Int} (h : Mch w p ss sv st) (hb : Below w.heap.size w w') : Mch w' p ss sv st :=
  ⟨by rw [hb.block p h.lt]; exact h.row, owns_after h.own hb⟩

/-- What laying leaves as it was: all but the machine and its row. -/
structure Turn (p : Nat) (sv : Value) (w w' : World) (sv' : Value) : Prop where
  os : w'.os = w.os
  tape : w'.tape = w.tape
  output : w'.output = w.output
  size : w.heap.size ≤ w'.heap.size
  block : ∀ k, k < w.heap.size → k ≠ p → sv.ownBlock ≠ some k → w'.heap[k]? = w.heap[k]?
  own : sv'.ownBlock = sv.ownBlock ∨ ∃ k, sv'.ownBlock = some k ∧ w.heap.size ≤ k
theorem Turn.refl (p : Nat) (sv : Value) (w : World) : Turn p sv w w sv := ⟨rfl, rfl, rfl, Nat.le_refl _, fun _ _ _ _ => rfl, Or.inl rfl⟩
theorem Turn.trans {p : Nat} {sv sv1 sv2 : Value} {w w1 w2 : World} (h : Turn p sv w w1 sv1) (g : Turn p sv1 w1 w2 sv2) : Turn p sv w w2 sv2 := by
  refine ⟨g.os.trans h.os, g.tape.trans h.tape, g.output.trans h.output, Nat.le_trans h.size g.size, fun k hk hp hn => ?_, ?_⟩
  · refine (g.block k (Nat.lt_of_lt_of_le hk h.size) hp (fun e => ?_)).trans (h.block k hk hp hn)
    rcases h.own with e' | ⟨j, e', hj⟩
    · exact hn (e' ▸ e)
    · rw [e'] at e
      have : j = k := by simpa using e
      omega
  · rcases g.own with e | ⟨j, e, hj⟩
    · rw [e]; exact h.own
    · exact Or.inr ⟨j, e, Nat.le_trans h.size hj⟩
theorem Turn.of {p : Nat} {sv : Value} {w w' : World} (h : Below w.heap.size w w') : Turn p sv w w' sv := ⟨h.os, h.tape, h.output, h.size, fun k hk _ _ => h.block k hk, Or.inl rfl⟩
theorem Turn.then {p : Nat} {sv sv1 : Value} {w w1 w2 : World} (h : Turn p sv w w1 sv1) (g : Below w1.heap.size w1 w2) : Turn p sv w w2 sv1 := h.trans (.of g)
theorem Turn.below {p : Nat} {sv sv' : Value} {w w' : World} (h : Turn p sv w w' sv') {B : Nat} (hp : B ≤ p) (hB : B ≤ w.heap.size) (hs : ∀ k, sv.ownBlock = some k → B ≤ k) : Below B w w' :=
  ⟨h.os, h.tape, h.output, h.size, fun k hk => h.block k (by omega) (by omega) (fun e => by have := hs k e; omega)⟩
/-- A block that is neither the machine's nor its row's stays. -/
theorem Turn.keep {p : Nat} {sv sv' : Value} {w w' : World} (h : Turn p sv w w' sv') {k : Nat} {o : Obj} (ho : w.heap[k]? = some o) (hp : k ≠ p) (hs : sv.ownBlock ≠ some k) : w'.heap[k]? = some o :=
  (h.block k (Array.getElem?_eq_some_iff.1 ho).1 hp hs).trans ho

/-- The start stored anew. -/
theorem Mch.setStart {w : World} {p : Nat} {ss : List St} {sv : Value} {st : Int} (h : Mch w p ss sv st) (n : Int) : Mch (w.setCell ⟨p, 1, none⟩ (.int .i64 n)) p ss sv n ∧ Turn p sv w (w.setCell ⟨p, 1, none⟩ (.int .i64 n)) sv := by
  refine ⟨⟨?_, ?_⟩, rfl, rfl, rfl, by simp, fun k _ hp _ => heap_setCell_other w ⟨p, 1, none⟩ k _ (fun e => hp e), Or.inl rfl⟩
  · rw [heap_setCell_same w p 1 _ _ _ h.row]; rfl
  · exact ownsRow_setCell_other h.own (a := ⟨p, 1, none⟩) h.notP _

/-- A state added: the row grown, the slice stored. -/
theorem Mch.push {w w1 w2 : World} {p : Nat} {ss : List St} {sv sv' : Value} {st : Int} {s : St} (h : Mch w p ss sv st) (hb : Below w.heap.size w w1) (hg : w1.grownBy w2 sv.ownBlock)
    (ho : w2.ownsRow (p + 1) 53 7 sv' (ss.length + 1) (flatS ss ++ (stC s).toList)) (ha : sv'.ownBlock = sv.ownBlock ∨ ∃ k, sv'.ownBlock = some k ∧ w.heap.size ≤ k) :
    Mch (w2.setCell ⟨p, 0, none⟩ sv') p (ss ++ [s]) sv' st ∧ Turn p sv w (w2.setCell ⟨p, 0, none⟩ sv') sv' := by
  have hn := h.notP
  have h1 := h.after hb
  have hr : w2.heap[p]? = some (.cells #[sv, .int .i64 st] 49 (0, 0)) := by
    rw [hg.block p h1.lt (fun e => hn e.symm)]; exact h1.row
  have hn' : sv'.ownBlock ≠ some p := fun e => by have := (ho.lt p e).1; omega
  refine ⟨⟨?_, ?_⟩, ?_, ?_, ?_, ?_, fun k hk hp hs => ?_, ha⟩
  · rw [heap_setCell_same w2 p 0 _ _ _ hr]; rfl
  · rw [flatS_snoc, List.length_append]
    exact ownsRow_setCell_other ho (a := ⟨p, 0, none⟩) hn' _
  · exact hg.os.trans hb.os
  · exact hg.tape.trans hb.tape
  · exact hg.output.trans hb.output
  · have := hb.size; have := hg.size; simp; omega
  · rw [heap_setCell_other w2 ⟨p, 0, none⟩ k _ (fun e => hp e), hg.block k (by have := hb.size; omega) (fun e => hs e.symm)]
    exact hb.block k hk
end Go.Proofs.Ytbojoiacedhjiaa
