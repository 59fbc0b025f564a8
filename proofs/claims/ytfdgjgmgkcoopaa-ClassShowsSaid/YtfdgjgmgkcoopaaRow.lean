/- A row of bytes that the call owns: one byte appended, the row as a text; what stands beside it. -/
import Derived.Test.YtfdgjgmgkcoopaaBools
namespace Go.Proofs.Ytfdgjgmgkcoopaa
open Go.RowKit

theorem own_grown {W w w' : World} {base : Nat} {e : TypeId} {size n : Nat} {v : Value} {xs : List Value} (h : w.ownsRow base e size v n xs) (hg : w.grownBy w' v.ownBlock) (hb : Below W.heap.size W w) (hB : W.heap.size ≤ base) : Below W.heap.size W w' :=
  hb.grown hg hb.size fun g hgr => Nat.le_trans hB (h.lt g hgr).1

def u8s (l : List UInt8) : List Value := l.map fun c => Value.int .u8 (c.toNat : Int)
theorem info_u8 : (Try.prog.info? 5).map (fun i => (i.zero, i.size, i.bytes)) = some (some (.int .u8 0), 1, 1) := by kernel_rfl

/-- append of one byte to a row whose block is base or behind. -/
theorem wp_append_u8 {ops : Array Oper} {rest : List Oper} {o : Oper} {a : Act} {Q : Exit → Act → World → Prop} (hgd : o.guard = none) (s x : Operand)
    (ho : o.op = .call { callee := .builtin .append, args := #[s, x], argTypes := #[50, 50] }) (base : Nat) (w : World) (v : Value) (k : Nat) (l : List UInt8) (D : Int) (d : UInt8)
    (hs : a.eval s = v) (hown : w.ownsRow base 5 1 v k (u8s l)) (hx : a.eval x = .slice (some ⟨w.heap.size, 0, none⟩) 1 1) (hd : (d.toNat : Int) = D) (hk : k + 1 ≤ 140737488355328) (hbase : base ≤ w.heap.size)
    (h : ∀ g c w', Hid (w'.ownsRow base 5 1 (.slice (some ⟨g, 0, none⟩) (k + 1) c) (k + 1) (u8s (l ++ [d]))) → Hid (w.grownBy w' v.ownBlock) → wpList Try.prog ops Q rest (a.put o.dst (.slice (some ⟨g, 0, none⟩) (k + 1) c)) w') :
    wpList Try.prog ops Q (o :: rest) a (w.alloc (.cells #[.int .u8 D] 5)) := by
  obtain ⟨i0, hi, hz0, hz1, hz2⟩ := info_parts info_u8
  subst hd
  refine wpList_append_own _ hgd s x 50 ho base 5 i0 (.int .u8 0) 1 1 Try.underlying50 hi hz0 hz1 hz2 rfl (by decide) v k (u8s l) hs (hown.alloc _) ⟨w.heap.size, 0, none⟩ 1 1 [.int .u8 (d.toNat : Int)] hx rfl ?_ ?_ ?_ ?_ ?_ ?_
  · intro j u hj
    cases j with
    | zero => simp at hj; subst hj; simp [Addr.add, go_sem]
    | succ j => simp at hj
  · intro u hu; simp at hu; subst hu; rfl
  · simp only [maxLen]; omega
  · omega
  · simp; exact Nat.le_succ_of_le hbase
  · intro v' w' hown' hg _
    have e : u8s (l ++ [d]) = u8s l ++ [.int .u8 (d.toNat : Int)] := by simp [u8s]
    rw [← e] at hown'
    obtain ⟨g, c, rfl⟩ : ∃ g c, v' = .slice (some ⟨g, 0, none⟩) (k + 1) c := by
      rcases hown'.2 with ⟨_, h0⟩ | ⟨g, cap, cur, hv, _⟩
      · omega
      · exact ⟨_, _, hv⟩
    refine h g c w' (Lib.hid hown') (Lib.hid ?_)
    exact ⟨hg.os, hg.tape, hg.output, Nat.le_trans (by simp) hg.size, fun i hi hne => (hg.block i (by simp; omega) hne).trans (Below.heap_alloc w _ i hi)⟩

/-- A row of bytes as a text. -/
theorem own_text {w : World} {base g c k : Nat} {l : List UInt8} (h : w.ownsRow base 5 1 (.slice (some ⟨g, 0, none⟩) k c) k (u8s l)) :
    (convert 50 9 (.slice (some ⟨g, 0, none⟩) k c)).run Try.prog w = .ok (.string ⟨l.toArray⟩) w := by
  have hl : l.length = k := by have := h.1; unfold u8s at this; rw [List.length_map] at this; omega
  have hc : ∀ j (hj : j < l.length), w.cell? ((⟨g, 0, none⟩ : Addr).add j) = some (.int .u8 (l[j].toNat : Int)) := by
    intro j hj
    have ha : (⟨g, 0, none⟩ : Addr).add j = ⟨g, j, none⟩ := by
      unfold Addr.add; split <;> simp_all
    rw [ha, h.cellAt j (by omega)]
    unfold u8s
    rw [List.getElem?_map, List.getElem?_eq_getElem hj]
    rfl
  have hb := run_convert_bytes_back w 50 9 5 ⟨g, 0, none⟩ c l Try.underlying50 Try.underlying5 Try.underlying9 hc
  rw [hl] at hb
  exact hb

theorem Row.grown {w w' : World} {b : Nat} {p : Nat → Bool} (h : Row w b p) {base k : Nat} {v : Value} {xs : List Value} (hown : w.ownsRow base 5 1 v k xs) (hg : w.grownBy w' v.ownBlock) : Row w' b p := by
  refine ⟨?_⟩
  rw [hg.block b h.lt ?_]
  · exact h.row
  · intro e
    obtain ⟨_, ⟨rfl, _⟩ | ⟨g, cap, cur, rfl, _, hb, _⟩⟩ := hown
    · cases e
    · injection e with e1
      have e2 : b = g := e1
      subst e2
      rw [h.row] at hb
      injection hb with hb1
      injection hb1 with _ hb2 _
      exact absurd hb2 (by decide)
end Go.Proofs.Ytfdgjgmgkcoopaa
