/- nfa.repeated, nfa.planOf: walks. -/
import Derived.Test.YtbojoiacedhjiaaPlanT
import Derived.Test.YtbojoiacedhjiaaCan
import Derived.Deep.LoopGhost
namespace Go.Proofs.Ytbojoiacedhjiaa
open Go.RowKit

def overP : Plan := .mk 0 zero4 0 0 500 []
def emptyP : Plan := .mk 0 zero4 0 0 0 []
/-- How many states a repetition has, of a part of n. -/
def repN (n : Nat) (lo hi : Int) : Nat := if hi = -1 then lo.toNat * n + n + 1 else lo.toNat * n + (hi - lo).toNat * (n + 1)
/-- The parts' plans, and how many states they have: none, if these are too many. -/
def partsN (pl : Tree → Plan) (k : Int) : List Tree → Nat → List Plan → Option (Nat × List Plan)
  | [], n, ps => some (n, ps)
  | t :: r, n, ps =>
    if 500 ≤ n + (pl t).n then none
    else partsN pl k r (n + (pl t).n) (if 0 < (pl t).n ∨ k ≠ 4 then ps ++ [pl t] else ps)
def ownN (k lo hi : Int) (n : Nat) : Nat := if k = 1 ∨ k = 2 ∨ k = 3 then 1 else if k = 6 then min (repN n lo hi) 500 else n
def beginN (t : Tree) : Nat := if t.k = 5 then t.kids.length - 1 else 0
def finishN (t : Tree) : Option (Nat × List Plan) → Plan
  | none => overP
  | some (n, ps) => if ownN t.k t.lo t.hi n = 0 then emptyP else .mk t.k t.f t.lo t.hi (ownN t.k t.lo t.hi n) ps
def planN : Nat → Tree → Plan
  | 0, _ => emptyP
  | d + 1, t => finishN t (partsN (planN d) t.k t.kids (beginN t) [])

theorem repN_le (n : Nat) (lo hi : Int) (hn : n < 500) (h0 : 0 ≤ lo) (h1 : lo ≤ 50) (h : hi = -1 ∨ (lo ≤ hi ∧ hi ≤ 50)) : repN n lo hi ≤ 60000 := by
  have a : lo.toNat ≤ 50 := by omega
  have b : lo.toNat * n ≤ 50 * 500 := Nat.mul_le_mul a (by omega)
  unfold repN
  rcases h with rfl | ⟨h2, h3⟩
  · rw [if_pos rfl]; omega
  · have c : (hi - lo).toNat * (n + 1) ≤ 50 * 500 := Nat.mul_le_mul (by omega) (by omega)
    split <;> omega
theorem ownN_le (t : Tree) (n : Nat) (hn : n ≤ 1000000) : ownN t.k t.lo t.hi n ≤ 1000000 := by
  unfold ownN
  split
  · omega
  · split
    · have := Nat.min_le_right (repN n t.lo t.hi) 500; omega
    · omega

set_option maxRecDepth 100000 in
theorem repeated_spec (n : Nat) (lo hi : Int) (hn : n < 500) (h0 : 0 ≤ lo) (h1 : lo ≤ 50) (h : hi = -1 ∨ (lo ≤ hi ∧ hi ≤ 50)) (w : World) :
    Calls Try.prog 21 #[.int .i64 n, .int .i64 lo, .int .i64 hi] w fun e w' => e = .returned (.int .i64 (repN n lo hi : Nat)) ∧ w' = w := by
  have hl := repN_le n lo hi hn h0 h1 h
  obtain ⟨a, rfl⟩ : ∃ a : Nat, lo = a := ⟨lo.toNat, by omega⟩
  have ha : a ≤ 50 := by omega
  have hab : ((a : Int) * n) = ((a * n : Nat) : Int) := by simp
  have hb : a * n ≤ 50 * 500 := Nat.mul_le_mul ha (by omega)
  rcases h with rfl | ⟨h2, h3⟩
  · have he : repN n a (-1) = a * n + n + 1 := by simp [repN]
    rw [he] at hl ⊢
    clear he
    obtain ⟨m, hm⟩ : ∃ m, m = a * n := ⟨_, rfl⟩
    rw [← hm] at hab hb hl ⊢
    clear hm
    go_enter Try.func21, Try.ntmps21
    go_wp2_with fail
    go_ret
    exact ⟨ret_i64 (by omega), rfl⟩
  · obtain ⟨c, rfl⟩ : ∃ c : Nat, hi = a + c := ⟨(hi - a).toNat, by omega⟩
    have he : repN n a (a + c) = a * n + c * (n + 1) := by
      unfold repN
      rw [if_neg (by omega)]
      congr 1
      · congr 1
        omega
    rw [he] at hl ⊢
    clear he
    have hcn : ((c : Int) * (n + 1)) = ((c * (n + 1) : Nat) : Int) := by simp
    have hc : c * (n + 1) ≤ 50 * 500 := Nat.mul_le_mul (by omega) (by omega)
    have hne : ((a : Int) + c == -1) = false := by simp; omega
    obtain ⟨m, hm⟩ : ∃ m, m = a * n := ⟨_, rfl⟩
    obtain ⟨q, hq⟩ : ∃ q, q = c * (n + 1) := ⟨_, rfl⟩
    rw [← hm] at hab hb hl ⊢
    rw [← hq] at hcn hc hl ⊢
    clear hm hq
    go_enter Try.func21, Try.ntmps21
    go_wp2_with fail
    go_ret
    refine ⟨ret_i64 ?_, rfl⟩
    rw [show ((a : Int) + c - a) = c by omega, hcn]
    unfold wrap64
    omega

/-- What lies in memory while a plan is made. -/
structure PlF (wr w : World) (t : Tree) (rs : Array Value) (n : Nat) (sl : Value) : Prop where
  re : Box wr w.heap.size rs
  res : PBox wr (w.heap.size + 1) zeroPl
  q : PBox wr (w.heap.size + 2) (plC t.k t.f t.lo t.hi n sl)
  below : Below w.heap.size w wr
structure PlM (wr w : World) (t : Tree) (rs : Array Value) (n : Nat) (sl : Value) (ps : List Plan) (cs : Nat → Array Value) : Prop extends PlF wr w t rs n sl where
  own : OwnPlans wr (w.heap.size + 3) sl ps cs
theorem PlF.after {wr w V : World} {t : Tree} {rs : Array Value} {n : Nat} {sl : Value} (h : PlF wr w t rs n sl) (hb : Below wr.heap.size wr V) : PlF V w t rs n sl :=
  ⟨h.re.after hb, h.res.after hb, h.q.after hb, Below.step h.below hb⟩
theorem PlM.after {wr w V : World} {t : Tree} {rs : Array Value} {n : Nat} {sl : Value} {ps : List Plan} {cs : Nat → Array Value} (h : PlM wr w t rs n sl ps cs) (hb : Below wr.heap.size wr V) : PlM V w t rs n sl ps cs :=
  ⟨h.toPlF.after hb, h.own.after hb⟩
theorem PlF.grown {wr w V : World} {t : Tree} {rs : Array Value} {n : Nat} {sl : Value} {row : Option Nat} (h : PlF wr w t rs n sl) (hg : wr.grownBy V row) (hr : ∀ k, row = some k → w.heap.size + 3 ≤ k) : PlF V w t rs n sl := by
  have hlt := h.q.lt
  have ne : ∀ j, j ≤ 2 → some (w.heap.size + j) ≠ row := fun j hj e => by have := hr _ e.symm; omega
  exact ⟨⟨by rw [hg.block _ h.re.lt (ne 0 (by omega))]; exact h.re.row⟩, ⟨by rw [hg.block _ h.res.lt (ne 1 (by omega))]; exact h.res.row⟩, ⟨by rw [hg.block _ h.q.lt (ne 2 (by omega))]; exact h.q.row⟩,
    h.below.grown hg h.below.size (fun k hk => by have := hr k hk; omega)⟩
theorem planM_new (w : World) (t : Tree) (rs : Array Value) (n : Nat) : ∃ W, W = ((w.alloc (.cells rs 28)).alloc (.cells zeroPl 45)).alloc (.cells (plC t.k t.f t.lo t.hi n (.slice none 0 0)) 45) ∧ Hid (PlM W w t rs n (.slice none 0 0) [] (fun _ => zeroPl)) := by
  refine ⟨_, rfl, Lib.hid ?_⟩
  have s1 : (w.alloc (.cells rs 28)).heap.size = w.heap.size + 1 := World.size_alloc _ _
  have s2 : ((w.alloc (.cells rs 28)).alloc (.cells zeroPl 45)).heap.size = w.heap.size + 2 := by rw [World.size_alloc, s1]
  have b1 := below_new w (.cells rs 28)
  have b2 := below_new (w.alloc (.cells rs 28)) (.cells zeroPl 45)
  have b3 := below_new ((w.alloc (.cells rs 28)).alloc (.cells zeroPl 45)) (.cells (plC t.k t.f t.lo t.hi n (.slice none 0 0)) 45)
  refine ⟨⟨((box_new w rs).after b2).after b3, ?_, ?_, Below.step (Below.step b1 b2) b3⟩, ownP_nil _ _ _⟩
  · have := (pbox_new (w.alloc (.cells rs 28)) zeroPl).after b3
    rwa [s1] at this
  · have := pbox_new ((w.alloc (.cells rs 28)).alloc (.cells zeroPl 45)) (plC t.k t.f t.lo t.hi n (.slice none 0 0))
    rwa [s2] at this
theorem PlF.setBut {wr w : World} {t : Tree} {rs : Array Value} {n : Nat} {sl : Value} (_ : PlF wr w t rs n sl) (j : Nat) (v : Value) : But (w.heap.size + 2) wr (wr.setCell ⟨w.heap.size + 2, j, none⟩ v) :=
  ⟨rfl, rfl, rfl, by simp, fun k _ hp => heap_setCell_other wr ⟨w.heap.size + 2, j, none⟩ k _ (fun e => hp e)⟩
/-- The size stored anew. -/
theorem PlM.setN {wr w : World} {t : Tree} {rs : Array Value} {n : Nat} {sl : Value} {ps : List Plan} {cs : Nat → Array Value} (h : PlM wr w t rs n sl ps cs) (m : Nat) : PlM (wr.setCell ⟨w.heap.size + 2, 7, none⟩ (.int .i64 m)) w t rs m sl ps cs := by
  have hlt := h.q.lt
  have hb := h.setBut 7 (.int .i64 m)
  refine ⟨⟨h.re.but hb (by omega), ⟨by rw [hb.block _ h.res.lt (by omega)]; exact h.res.row⟩, ⟨?_⟩, h.below.setCell (p := ⟨w.heap.size + 2, 7, none⟩) (by show w.heap.size ≤ w.heap.size + 2; omega) _⟩, h.own.but hb (by omega)⟩
  rw [heap_setCell_same wr (w.heap.size + 2) 7 _ _ _ h.q.row]
  rfl
/-- The parts stored anew. -/
theorem PlF.setL {wr w : World} {t : Tree} {rs : Array Value} {n : Nat} {sl sl' : Value} {ps' : List Plan} {cs' : Nat → Array Value} (h : PlF wr w t rs n sl) (h' : OwnPlans wr (w.heap.size + 3) sl' ps' cs') : PlM (wr.setCell ⟨w.heap.size + 2, 8, none⟩ sl') w t rs n sl' ps' cs' := by
  have hlt := h.q.lt
  have hb := h.setBut 8 sl'
  refine ⟨⟨h.re.but hb (by omega), ⟨by rw [hb.block _ h.res.lt (by omega)]; exact h.res.row⟩, ⟨?_⟩, h.below.setCell (p := ⟨w.heap.size + 2, 8, none⟩) (by show w.heap.size ≤ w.heap.size + 2; omega) _⟩, h'.but hb (by omega)⟩
  rw [heap_setCell_same wr (w.heap.size + 2) 8 _ _ _ h.q.row]
  rfl
end Go.Proofs.Ytbojoiacedhjiaa
