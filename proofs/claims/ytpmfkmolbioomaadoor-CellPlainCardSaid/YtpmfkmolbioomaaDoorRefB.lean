/- Contracts of the document's answers for numbers: sums and differences of digits. -/
import Derived.Test.YtpmfkmolbioomaaDoorRefA
import Derived.Laws.OwnMore
import Derived.Deep.QuietTactic
import Derived.BigQuiet
import Derived.Deep.DeepCutAuto
import Derived.Deep.CutBlock
namespace Go.Proofs.YtpmfkmolbioomaaDoor
open Go.RowKit

def ints (l : List Nat) : List Value := l.map fun (d : Nat) => Value.int .i64 (d : Int)
theorem info_int : (Tryd.prog.info? 3).map (fun i => (i.zero, i.size, i.bytes)) = some (some (.int .i64 0), 1, 8) := by kernel_rfl

/-- A row of the call's own reads as its digits. -/
theorem own_rd {w : World} {base : Nat} {v : Value} {l : List Nat} {k : Nat} (h : w.ownsRow base 3 1 v k (ints l)) (hl : k = l.length) (hd : Dl l) (hs : k ≤ 1000) :
    ∃ p c, v = .slice p k c ∧ Rd w p k c l ∧ ∀ x, p = some x → base ≤ x.block := by
  obtain ⟨hlen, ⟨rfl, h0⟩ | ⟨g, cap, cur, rfl, hb, hg, hcap, hm, hsz, hx⟩⟩ := id h
  · subst h0
    have : l = [] := List.length_eq_zero_iff.1 hl.symm
    exact ⟨none, 0, rfl, ⟨hl, by omega, by omega, hd, fun _ => rfl, Or.inl this⟩, fun x h => by simp at h⟩
  · refine ⟨_, cap, rfl, ⟨hl, hcap, hs, hd, fun h => by simp at h, Or.inr ⟨g, 0, rfl, (h.lt g rfl).2, fun i hi => ?_⟩⟩, fun x h => by injection h with h; subst h; exact hb⟩
    rw [Nat.zero_add, h.cellAt i (by omega)]
    unfold ints
    rw [List.getElem?_map, List.getElem?_eq_getElem hi, List.getD_eq_getElem?_getD, List.getElem?_eq_getElem hi]
    rfl

theorem wp_append_digit {ops : Array Oper} {rest : List Oper} {o : Oper} {a : Act} {Q : Exit → Act → World → Prop} (hgd : o.guard = none) (s x : Operand)
    (ho : o.op = .call { callee := .builtin .append, args := #[s, x], argTypes := #[51, 51] }) (W w : World) (v : Value) (k : Nat) (l : List Nat) (D : Int) (d : Nat)
    (hs : a.eval s = v) (hown : w.ownsRow W.heap.size 3 1 v k (ints l)) (hx : a.eval x = .slice (some ⟨w.heap.size, 0, none⟩) 1 1) (hd : D = d) (hk : k ≤ 1000) (hbel : Below W.heap.size W w)
    (h : ∀ v' w', Hid (w'.ownsRow W.heap.size 3 1 v' (k + 1) (ints (l ++ [d]))) → Hid (Below W.heap.size W w') → wpList Tryd.prog ops Q rest (a.put o.dst v') w') :
    wpList Tryd.prog ops Q (o :: rest) a (w.alloc (.cells #[.int .i64 D] 3)) := by
  obtain ⟨i0, hi, hz0, hz1, hz2⟩ := info_parts info_int
  subst hd
  refine wpList_append_own _ hgd s x 51 ho W.heap.size 3 i0 (.int .i64 0) 1 8 Tryd.underlying51 hi hz0 hz1 hz2 rfl (by decide) v k (ints l) hs (hown.alloc _) ⟨w.heap.size, 0, none⟩ 1 1 [.int .i64 (d : Int)] hx rfl ?_ ?_ ?_ ?_ ?_ ?_
  · intro j u hj
    cases j with
    | zero => simp at hj; subst hj; simp [Addr.add, go_sem]
    | succ j => simp at hj
  · intro u hu; simp at hu; subst hu; rfl
  · simp only [maxLen]; omega
  · omega
  · simp; exact Nat.le_succ_of_le hbel.size
  · intro v' w' hown' hg _
    refine h v' w' (Lib.hid ?_) (Lib.hid ?_)
    · have e : ints (l ++ [d]) = ints l ++ [.int .i64 (d : Int)] := by simp [ints]
      rw [e]; exact hown'
    · exact (hbel.alloc hbel.size _).grown hg (by simp; exact Nat.le_succ_of_le hbel.size) (fun j hj => (hown.lt j hj).1)

structure Got (W : World) (w : World) (v : Value) (l : List Nat) : Prop where
  rd : ∃ p n c, v = .slice p n c ∧ Rd w p n c l ∧ ∀ x, p = some x → W.heap.size ≤ x.block
  below : Below W.heap.size W w

def SumPost (W : World) (z k : Nat) (e : Ending) (w' : World) : Prop :=
  ∃ v l, e = .returned v ∧ Got W w' v l ∧ val l = z ∧ l.length ≤ k

end Go.Proofs.YtpmfkmolbioomaaDoor
