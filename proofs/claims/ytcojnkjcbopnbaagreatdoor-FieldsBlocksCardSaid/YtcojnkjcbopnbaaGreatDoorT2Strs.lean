/- Slices of texts that read as lists; appends of texts and of numbers to rows of the call's own; Same of the document's answers. -/
import Derived.Test.YtcojnkjcbopnbaaGreatDoorT2Text
import Derived.Laws.OwnMore
import Derived.OwnWalk
import Derived.WalkSmall
import Derived.Lib.OthersKept
import Derived.Deep.QuietTactic
import Derived.BigQuiet
import Derived.Deep.DeepCutAuto
import Derived.Deep.CutBlock
namespace Go.Proofs.YtcojnkjcbopnbaaGreatDoor.T2
open Go.Proofs.YtcojnkjcbopnbaaGreatDoor Go.Proofs
open Go.RowKit

def strs (l : List ByteArray) : List Value := l.map Value.string
theorem info_str : (Tryz.prog.info? 9).map (fun i => (i.zero, i.size, i.bytes)) = some (some (.string ⟨#[]⟩), 1, 16) := by kernel_rfl

theorem strs_get {l : List ByteArray} {i : Nat} (h : i < l.length) : (strs l)[i]? = some (.string l[i]) := by
  unfold strs
  rw [List.getElem?_map, List.getElem?_eq_getElem h]
  rfl

/-- A slice of texts reads as a list. -/
structure RdS (w : World) (p : Option Addr) (n c : Nat) (l : List ByteArray) : Prop where
  len : n = l.length
  cap : n ≤ c
  big : c ≤ 9223372036854775807
  nil : p = none → c = 0
  cells : l = [] ∨ ∃ b off, p = some ⟨b, off, none⟩ ∧ b < w.heap.size ∧ ∀ i (h : i < l.length), w.cell? ⟨b, off + i, none⟩ = some (.string l[i])

theorem RdS.keep {w w' : World} {p n c l} (h : RdS w p n c l) (hz : w.heap.size ≤ w'.heap.size) (hb : ∀ b o, b < w.heap.size → w'.cell? ⟨b, o, none⟩ = w.cell? ⟨b, o, none⟩) : RdS w' p n c l := by
  refine ⟨h.len, h.cap, h.big, h.nil, ?_⟩
  rcases h.cells with hc | ⟨b, off, hp, hlt, hc⟩
  · exact Or.inl hc
  · exact Or.inr ⟨b, off, hp, Nat.lt_of_lt_of_le hlt hz, fun i hi => by rw [hb b _ hlt]; exact hc i hi⟩

theorem RdS.below {w w' : World} {p n c l} (h : RdS w p n c l) (hb : Below w.heap.size w w') : RdS w' p n c l :=
  h.keep hb.size fun b o hlt => hb.cell (p := ⟨b, o, none⟩) hlt

theorem RdS.drewN {w : World} {p n c l} (h : RdS w p n c l) (k : Nat) : RdS (w.drewN k) p n c l := h.below (Below.drewN' (Below.refl _ _) k)

/-- The cell at a place, as the walk comes to it. -/
theorem RdS.at_ {w : World} {p n c l} (h : RdS w p n c l) {i : Nat} (hi : i < n) : ∃ (b off : Nat) (x : ByteArray), p = some ⟨b, off, none⟩ ∧ l[i]? = some x ∧ w.cell? ⟨b, off + i, none⟩ = some (.string x) := by
  have hl := h.len
  rcases h.cells with hc | ⟨b, off, hp, _, hc⟩
  · rw [hc] at hl; simp at hl; omega
  · exact ⟨b, off, l[i], hp, List.getElem?_eq_getElem (by omega), hc i (by omega)⟩

/-- A row of the call's own reads as its texts. -/
theorem own_rds {w : World} {base : Nat} {v : Value} {l : List ByteArray} {k : Nat} (h : w.ownsRow base 9 1 v k (strs l)) (hl : k = l.length) :
    ∃ p c, v = .slice p k c ∧ RdS w p k c l := by
  obtain ⟨hlen, ⟨rfl, h0⟩ | ⟨g, cap, cur, rfl, hb, hg, hcap, hm, hsz, hx⟩⟩ := id h
  · subst h0
    have : l = [] := List.length_eq_zero_iff.1 hl.symm
    exact ⟨none, 0, rfl, hl, by omega, by omega, fun _ => rfl, Or.inl this⟩
  · refine ⟨_, cap, rfl, hl, hcap, by unfold maxLen at hm; omega, fun h => by simp at h, Or.inr ⟨g, 0, rfl, (h.lt g rfl).2, fun i hi => ?_⟩⟩
    rw [Nat.zero_add, h.cellAt i (by omega), strs_get hi]

theorem own_slice {w : World} {base : Nat} {p : Option Addr} {c : Nat} {l : List ByteArray} {k : Nat} (h : w.ownsRow base 9 1 (.slice p k c) k (strs l)) (hl : k = l.length) : RdS w p k c l := by
  obtain ⟨p', c', e, hr⟩ := own_rds h hl
  injection e with e1 _ e2
  subst e1; subst e2
  exact hr

theorem own_below {w w' : World} {base : Nat} {e : TypeId} {size n : Nat} {v : Value} {xs : List Value} (h : w.ownsRow base e size v n xs) (hb : Below w.heap.size w w') : w'.ownsRow base e size v n xs := by
  refine ⟨h.1, ?_⟩
  rcases id h.2 with ⟨rfl, h0⟩ | ⟨g, cap, cur, rfl, h1, h2, h3⟩
  · exact Or.inl ⟨rfl, h0⟩
  · exact Or.inr ⟨g, cap, cur, rfl, h1, by rw [hb.block g (h.lt g rfl).2]; exact h2, h3⟩

theorem own_grown {W w w' : World} {base : Nat} {e : TypeId} {size n : Nat} {v : Value} {xs : List Value} (h : w.ownsRow base e size v n xs) (hg : w.grownBy w' v.ownBlock) (hb : Below W.heap.size W w) (hB : W.heap.size ≤ base) : Below W.heap.size W w' :=
  hb.grown hg hb.size fun g hgr => Nat.le_trans hB (h.lt g hgr).1

/-- append of one text to a row whose block is base or behind. -/
theorem wp_append_str {ops : Array Oper} {rest : List Oper} {o : Oper} {a : Act} {Q : Exit → Act → World → Prop} (hgd : o.guard = none) (s x : Operand)
    (ho : o.op = .call { callee := .builtin .append, args := #[s, x], argTypes := #[35, 35] }) (base : Nat) (w : World) (v : Value) (k : Nat) (l : List ByteArray) (d : ByteArray)
    (hs : a.eval s = v) (hown : w.ownsRow base 9 1 v k (strs l)) (hx : a.eval x = .slice (some ⟨w.heap.size, 0, none⟩) 1 1) (hk : k ≤ 2000000) (hbase : base ≤ w.heap.size)
    (h : ∀ p c w', Hid (w'.ownsRow base 9 1 (.slice p (k + 1) c) (k + 1) (strs (l ++ [d]))) → Hid (w.grownBy w' v.ownBlock) → wpList Tryz.prog ops Q rest (a.put o.dst (.slice p (k + 1) c)) w') :
    wpList Tryz.prog ops Q (o :: rest) a (w.alloc (.cells #[.string d] 9)) := by
  obtain ⟨i0, hi, hz0, hz1, hz2⟩ := info_parts info_str
  refine wpList_append_own _ hgd s x 35 ho base 9 i0 (.string ⟨#[]⟩) 1 16 Tryz.underlying35 hi hz0 hz1 hz2 rfl (by decide) v k (strs l) hs (hown.alloc _) ⟨w.heap.size, 0, none⟩ 1 1 [.string d] hx rfl ?_ ?_ ?_ ?_ ?_ ?_
  · intro j u hj
    cases j with
    | zero => simp at hj; subst hj; simp [Addr.add, go_sem]
    | succ j => simp at hj
  · intro u hu; simp at hu; subst hu; rfl
  · simp only [maxLen]; omega
  · omega
  · simp; exact Nat.le_succ_of_le hbase
  · intro v' w' hown' hg _
    have e : strs (l ++ [d]) = strs l ++ [.string d] := by simp [strs]
    rw [← e] at hown'
    obtain ⟨p, c, rfl⟩ : ∃ p c, v' = .slice p (k + 1) c := by
      rcases hown'.2 with ⟨_, h0⟩ | ⟨g, cap, cur, hv, _⟩
      · omega
      · exact ⟨_, _, hv⟩
    refine h p c w' (Lib.hid hown') (Lib.hid ?_)
    exact ⟨hg.os, hg.tape, hg.output, Nat.le_trans (by simp) hg.size, fun i hi hne => (hg.block i (by simp; omega) hne).trans (Below.heap_alloc w _ i hi)⟩

/-- A row of cells stays, as an iterator moves on. -/
theorem own_iterAt {w : World} {base : Nat} {e : TypeId} {size : Nat} {v : Value} {n : Nat} {xs : List Value} (h : w.ownsRow base e size v n xs) {k : Nat} {s : ByteArray} {p0 : Nat} (hk : w.heap[k]? = some (.stringIter s p0)) (p : Nat) :
    (w.iterAt k s p).ownsRow base e size v n xs := by
  refine ⟨h.1, ?_⟩
  rcases id h.2 with ⟨rfl, h0⟩ | ⟨g, cap, cur, rfl, h1, h2, h3⟩
  · exact Or.inl ⟨rfl, h0⟩
  · refine Or.inr ⟨g, cap, cur, rfl, h1, ?_, h3⟩
    rw [Lib.iterAt_other _ _ _ _ _ (by rintro rfl; rw [hk] at h2; cases h2)]
    exact h2

/-- An iterator stays, as a row grows. -/
theorem iter_grown {w w' : World} {base : Nat} {e : TypeId} {size : Nat} {v : Value} {n : Nat} {xs : List Value} (h : w.ownsRow base e size v n xs) (hg : w.grownBy w' v.ownBlock) {k : Nat} {s : ByteArray} {p : Nat} (hk : w.heap[k]? = some (.stringIter s p)) :
    w'.heap[k]? = some (.stringIter s p) := by
  have hlt : k < w.heap.size := (Array.getElem?_eq_some_iff.1 hk).1
  rw [hg.block k hlt ?_]
  · exact hk
  · intro hkb
    rcases id h.2 with ⟨rfl, _⟩ | ⟨g, cap, cur, rfl, _, h2, _⟩
    · simp [Value.ownBlock] at hkb
    · have : k = g := by simpa [Value.ownBlock] using hkb
      subst this
      rw [hk] at h2; cases h2

/-- make of no texts, with room for n. -/
theorem wp_make_strs {ops : Array Oper} {rest : List Oper} {o : Oper} {a : Act} {Q : Exit → Act → World → Prop} (hgd : o.guard = none) (l c : Operand)
    (ho : o.op = Op.makeSlice 35 l c) (w : World) (n : Nat) (hl : a.eval l = .int .i64 0) (hc : a.eval c = .int .i64 (n : Int)) (hn : n ≤ 2000000)
    (h : ∀ w', Hid (w'.ownsRow w.heap.size 9 1 (.slice (some ⟨w.heap.size, 0, none⟩) 0 n) 0 (strs [])) → Hid (Below w.heap.size w w') → wpList Tryz.prog ops Q rest (a.put o.dst (.slice (some ⟨w.heap.size, 0, none⟩) 0 n)) w') :
    wpList Tryz.prog ops Q (o :: rest) a w := by
  obtain ⟨i0, hi, hz0, hz1, hz2⟩ := info_parts info_str
  exact wpList_make_own w hgd l c 35 ho w.heap.size 9 i0 (.string ⟨#[]⟩) 1 Tryz.underlying35 hi hz0 hz1 .i64 .i64 _ n hl hc rfl (by rw [hz2]; omega) (by simp only [maxLen]; omega) (Nat.le_refl _)
    fun w' h1 h2 => h w' (Lib.hid h1) (Lib.hid ((Below.refl _ _).grown h2 (Nat.le_refl _) (fun g hg => by cases hg)))

theorem rds_step {a b : List ByteArray} {k : Nat} {x y : ByteArray} (hx : a[k]? = some x) (hy : b[k]? = some y) (h : a.take k = b.take k) (he : x = y) : a.take (k + 1) = b.take (k + 1) := by
  rw [List.take_add_one, List.take_add_one, h, hx, hy, he]

theorem take_ne {a b : List ByteArray} {k : Nat} {x y : ByteArray} (hx : a[k]? = some x) (hy : b[k]? = some y) (hne : x ≠ y) : a ≠ b := by
  rintro rfl
  rw [hx] at hy
  injection hy with h
  exact hne h

theorem bytes_ne {x y : ByteArray} (h : x ≠ y) : (x.toList == y.toList) = false := by
  rw [beq_eq_false_iff_ne]
  intro e
  rw [ByteArray.toList_eq, ByteArray.toList_eq] at e
  exact h (bytes_ext e)

end Go.Proofs.YtcojnkjcbopnbaaGreatDoor.T2
