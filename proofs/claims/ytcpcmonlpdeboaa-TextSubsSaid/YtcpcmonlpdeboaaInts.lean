/- Rows of numbers: an append, a cell. -/
import Derived.Test.YtcpcmonlpdeboaaStrs
namespace Go.Proofs.Ytcpcmonlpdeboaa
open Go.RowKit

def ints (l : List Nat) : List Value := l.map fun (d : Nat) => Value.int .i64 (d : Int)
theorem info_int : (Try.prog.info? 3).map (fun i => (i.zero, i.size, i.bytes)) = some (some (.int .i64 0), 1, 8) := by kernel_rfl

/-- append of one number to a row whose block is base or behind. -/
theorem wp_append_int {ops : Array Oper} {rest : List Oper} {o : Oper} {a : Act} {Q : Exit → Act → World → Prop} (hgd : o.guard = none) (s x : Operand)
    (ho : o.op = .call { callee := .builtin .append, args := #[s, x], argTypes := #[35, 35] }) (base : Nat) (w : World) (v : Value) (k : Nat) (l : List Nat) (d : Nat)
    (hs : a.eval s = v) (hown : w.ownsRow base 3 1 v k (ints l)) (hx : a.eval x = .slice (some ⟨w.heap.size, 0, none⟩) 1 1) (hk : k ≤ 2000000) (hbase : base ≤ w.heap.size)
    (h : ∀ p c w', Hid (w'.ownsRow base 3 1 (.slice p (k + 1) c) (k + 1) (ints (l ++ [d]))) → Hid (w.grownBy w' v.ownBlock) → wpList Try.prog ops Q rest (a.put o.dst (.slice p (k + 1) c)) w') :
    wpList Try.prog ops Q (o :: rest) a (w.alloc (.cells #[.int .i64 (d : Int)] 3)) := by
  obtain ⟨i0, hi, hz0, hz1, hz2⟩ := info_parts info_int
  refine wpList_append_own _ hgd s x 35 ho base 3 i0 (.int .i64 0) 1 8 Try.underlying35 hi hz0 hz1 hz2 rfl (by decide) v k (ints l) hs (hown.alloc _) ⟨w.heap.size, 0, none⟩ 1 1 [.int .i64 (d : Int)] hx rfl ?_ ?_ ?_ ?_ ?_ ?_
  · intro j u hj
    cases j with
    | zero => simp at hj; subst hj; simp [Addr.add, go_sem]
    | succ j => simp at hj
  · intro u hu; simp at hu; subst hu; rfl
  · simp only [maxLen]; omega
  · omega
  · simp; exact Nat.le_succ_of_le hbase
  · intro v' w' hown' hg _
    have e : ints (l ++ [d]) = ints l ++ [.int .i64 (d : Int)] := by simp [ints]
    rw [← e] at hown'
    obtain ⟨p, c, rfl⟩ : ∃ p c, v' = .slice p (k + 1) c := by
      rcases hown'.2 with ⟨_, h0⟩ | ⟨g, cap, cur, hv, _⟩
      · omega
      · exact ⟨_, _, hv⟩
    refine h p c w' (Lib.hid hown') (Lib.hid ?_)
    exact ⟨hg.os, hg.tape, hg.output, Nat.le_trans (by simp) hg.size, fun i hi hne => (hg.block i (by simp; omega) hne).trans (Below.heap_alloc w _ i hi)⟩

theorem own_int_at {w : World} {base : Nat} {p : Option Addr} {c k : Nat} {l : List Nat} (h : w.ownsRow base 3 1 (.slice p k c) k (ints l)) {i x : Nat} (hx : l[i]? = some x) :
    ∃ g, p = some ⟨g, 0, none⟩ ∧ g < w.heap.size ∧ w.cell? ⟨g, i, none⟩ = some (.int .i64 (x : Int)) := by
  have hl : i < l.length := by
    rcases Nat.lt_or_ge i l.length with h | h
    · exact h
    · rw [List.getElem?_eq_none h] at hx; cases hx
  have hlen := h.1
  unfold ints at hlen
  rw [List.length_map] at hlen
  rcases id h.2 with ⟨_, h0⟩ | ⟨g, cap, cur, hv, _⟩
  · omega
  injection hv with hp hn hc
  subst hp
  refine ⟨g, rfl, (h.lt g rfl).2, ?_⟩
  subst hc
  rw [h.cellAt i (by omega)]
  unfold ints
  rw [List.getElem?_map, hx]
  rfl

end Go.Proofs.Ytcpcmonlpdeboaa
