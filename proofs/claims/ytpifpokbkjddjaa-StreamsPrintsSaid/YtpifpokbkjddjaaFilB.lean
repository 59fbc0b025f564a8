/- Files: a row of them of the call's own, append, a copy (turned out of tpl15's CelB). -/
import Derived.Test.YtpifpokbkjddjaaS17C
import Derived.Maps.AppendAt
import Derived.Laws.AppendOwnNone
namespace Go.Proofs.Ytpifpokbkjddjaa
open Go.RowKit

theorem info_parts17 : (Try.prog.info? 42).map (·.size) = some 2 := by kernel_rfl
def fvals (l : List (ByteArray × ByteArray)) : List Value := l.flatMap fun c => [.string c.1, .string c.2]
theorem fvals_len : ∀ l : List (ByteArray × ByteArray), (fvals l).length = l.length * 2
  | [] => rfl
  | c :: l => by
    show (_ :: _ :: fvals l).length = _
    simp only [List.length_cons, fvals_len l]; omega
theorem fvals_append (a b : List (ByteArray × ByteArray)) : fvals (a ++ b) = fvals a ++ fvals b := by simp [fvals]
theorem fvals_at : ∀ (l : List (ByteArray × ByteArray)) (i : Nat) (c : ByteArray × ByteArray), l[i]? = some c → (fvals l)[i * 2]? = some (.string c.1) ∧ (fvals l)[i * 2 + 1]? = some (.string c.2)
  | [], i, c, h => by simp at h
  | x :: l, 0, c, h => by
    simp at h
    subst h
    exact ⟨rfl, rfl⟩
  | x :: l, i + 1, c, h => by
    have h' : l[i]? = some c := by simpa using h
    obtain ⟨h1, h2⟩ := fvals_at l i c h'
    have e : ∀ j, (fvals (x :: l))[j + 2]? = (fvals l)[j]? := fun j => rfl
    refine ⟨?_, ?_⟩
    · rw [show (i + 1) * 2 = i * 2 + 2 from by omega, e]; exact h1
    · rw [show (i + 1) * 2 + 1 = i * 2 + 1 + 2 from by omega, e]; exact h2
theorem fvals_one (l : List (ByteArray × ByteArray)) : ∀ u ∈ fvals l, u.oneCell' = true := by
  intro u hu
  unfold fvals at hu
  obtain ⟨c, _, h⟩ := List.mem_flatMap.1 hu
  simp only [List.mem_cons, List.mem_nil_iff, or_false] at h
  rcases h with rfl | rfl <;> rfl
theorem info_fileD : (Try.prog.info? 42).map (fun i => (i.zero, i.size, i.bytes)) = some (some (.agg #[.string ⟨#[]⟩, .string ⟨#[]⟩]), 2, 32) := by kernel_rfl
theorem addr_add (b o j : Nat) : Addr.add ⟨b, o, none⟩ j = ⟨b, o + j, none⟩ := by
  unfold Addr.add
  split
  · rename_i h; rw [h]; rfl
  · rfl

/-- Cells that a call owns, read. -/
theorem own_filesR {w : World} {base k c : Nat} {p : Option Addr} {l : List (ByteArray × ByteArray)} (h : w.ownsRow base 42 2 (.slice p k c) k (fvals l)) (hk : k = l.length) (hc : c ≤ 9223372036854775807) : FilesAt w p k c l := by
  rcases h.2 with ⟨hv, h0⟩ | ⟨g, cap, cur, hv, hg, hh, hkc, hcm, hsz, htake⟩
  · injection hv with e1 e2 e3
    subst e1 e3
    exact ⟨hk, by omega, hc, fun _ => rfl, Or.inl (List.eq_nil_of_length_eq_zero (by omega))⟩
  · injection hv with e1 e2 e3
    subst e1 e3
    refine ⟨hk, hkc, hc, fun e => by simp at e, Or.inr ⟨g, 0, rfl, fun i x hi => ?_⟩⟩
    obtain ⟨h1, h2⟩ := fvals_at l i x hi
    have hil : i < l.length := (List.getElem?_eq_some_iff.1 hi).1
    have key : ∀ j v, j < k * 2 → (fvals l)[j]? = some v → w.cell? ⟨g, 0 + j, none⟩ = some v := fun j v hj hv => by
      rw [Nat.zero_add, cell_of_row w g j cur _ _ hh]
      rw [← htake, List.getElem?_take, if_pos hj] at hv
      simpa using hv
    have e : ∀ j, 0 + i * 2 + j = 0 + (i * 2 + j) := fun j => by omega
    refine ⟨key _ _ (by omega) h1, ?_⟩
    rw [e]; exact key _ _ (by omega) h2
theorem own_low {w : World} {base k c : Nat} {p : Option Addr} {xs : List Value} {e : TypeId} {size : Nat} (h : w.ownsRow base e size (.slice p k c) k xs) : ∀ a, p = some a → a.block < w.heap.size ∧ base ≤ a.block := by
  intro a ha
  rcases h.2 with ⟨hv, h0⟩ | ⟨g, cap, cur, hv, hg, hh, _⟩
  · injection hv with e1
    rw [e1] at ha
    exact absurd ha (by simp)
  · injection hv with e1
    rw [e1] at ha
    injection ha with ha
    rw [← ha]
    exact ⟨(Array.getElem?_eq_some_iff.1 hh).1, hg⟩
theorem files_read {w : World} {p : Option Addr} {n c : Nat} {m : List (ByteArray × ByteArray)} (h : FilesAt w p n c m) {a : Addr} (ha : p = some a) : ∀ j u, (fvals m)[j]? = some u → w.cell? (a.add j) = some u := by
  intro j u hj
  have hjl : j < m.length * 2 := by rw [← fvals_len]; exact (List.getElem?_eq_some_iff.1 hj).1
  rcases h.cells with h0 | ⟨b, off, hp, hc⟩
  · rw [h0] at hjl; simp at hjl
  · rw [ha] at hp
    injection hp with hp
    subst hp
    obtain ⟨q, r, rfl, hr⟩ : ∃ q r, j = q * 2 + r ∧ r < 2 := ⟨j / 2, j % 2, by omega, by omega⟩
    have hi : q < m.length := by omega
    have hget := List.getElem?_eq_getElem hi
    obtain ⟨h1, h2⟩ := hc _ _ hget
    obtain ⟨k1, k2⟩ := fvals_at m _ _ hget
    rw [addr_add, ← Nat.add_assoc]
    have hr3 : r = 0 ∨ r = 1 := by omega
    rcases hr3 with rfl | rfl
    · rw [Nat.add_zero] at hj ⊢
      rw [k1] at hj
      injection hj with hj
      rw [← hj]; exact h1
    · rw [k2] at hj
      injection hj with hj
      rw [← hj]; exact h2

set_option maxRecDepth 100000 in
/-- append of cells to a row of the call's own. -/
theorem wp_append_files {ops : Array Oper} {rest : List Oper} {o : Oper} {a : Act} {Q : Exit → Act → World → Prop} (hgd : o.guard = none) (s x : Operand)
    (ho : o.op = .call { callee := .builtin .append, args := #[s, x], argTypes := #[22, 22] }) (base : Nat) (w : World) (v : Value) (k : Nat) (l : List (ByteArray × ByteArray)) (q : Option Addr) (n c : Nat) (m : List (ByteArray × ByteArray))
    (hs : a.eval s = v) (hown : w.ownsRow base 42 2 v k (fvals l)) (hx : a.eval x = .slice q n c) (hm : FilesAt w q n c m) (hk : k + n ≤ 1000000) (hbase : base ≤ w.heap.size)
    (h : ∀ p' c' w', Hid (w'.ownsRow base 42 2 (.slice p' (k + n) c') (k + n) (fvals (l ++ m))) → Hid (w.grownBy w' v.ownBlock) → wpList Try.prog ops Q rest (a.put o.dst (.slice p' (k + n) c')) w') :
    wpList Try.prog ops Q (o :: rest) a w := by
  obtain ⟨i0, hi, hz0, hz1, hz2⟩ := info_parts info_fileD
  have hlen := hm.len
  cases q with
  | none =>
    have hc0 := hm.nil rfl
    have hn0 : n = 0 := by have := hm.room; omega
    have hml : m = [] := List.eq_nil_of_length_eq_zero (by omega)
    subst hn0 hc0 hml
    refine wpList_append_own_none hgd s x 22 ho base 42 i0 2 Try.underlying22 hi _ k _ hs hown hx ?_
    obtain ⟨p', c', rfl⟩ : ∃ p' c', v = .slice p' k c' := by
      rcases hown.2 with ⟨hv, h0⟩ | ⟨g, cap, cur, hv, _⟩
      · rw [h0]; exact ⟨_, _, hv⟩
      · exact ⟨_, _, hv⟩
    have := h p' c' w (Lib.hid (by rw [List.append_nil, Nat.add_zero]; exact hown)) (Lib.hid (World.grownBy.refl _ _))
    rw [Nat.add_zero] at this
    exact this
  | some ad =>
    refine wpList_append_own _ hgd s x 22 ho base 42 i0 (.agg #[.string ⟨#[]⟩, .string ⟨#[]⟩]) 2 32 Try.underlying22 hi hz0 hz1 hz2 rfl (by decide) v k (fvals l) hs hown ad n c (fvals m) hx ?_ ?_ ?_ ?_ ?_ ?_ ?_
    · rw [fvals_len, hlen]
    · exact files_read hm rfl
    · exact fvals_one m
    · simp only [maxLen]; omega
    · omega
    · exact hbase
    · intro v' w' hown' hg _
      rw [← fvals_append] at hown'
      obtain ⟨p', c', rfl⟩ : ∃ p' c', v' = .slice p' (k + n) c' := by
        rcases hown'.2 with ⟨hv, h0⟩ | ⟨g, cap, cur, hv, _⟩
        · rw [h0]; exact ⟨_, _, hv⟩
        · exact ⟨_, _, hv⟩
      exact h p' c' w' (Lib.hid hown') (Lib.hid hg)

theorem new_own (W : World) : (W.alloc (.cells #[] 42)).ownsRow W.heap.size 42 2 (.slice (some ⟨W.heap.size, 0, none⟩) 0 0) 0 (fvals []) :=
  World.ownsRow_lit (base := W.heap.size) (e := 42) (size := 2) W #[] 0 (Nat.le_refl _) (by simp only [maxLen]; omega) (by simp)

theorem own_below {w w' : World} {base : Nat} {e : TypeId} {size n : Nat} {v : Value} {xs : List Value} (h : w.ownsRow base e size v n xs) (hb : Below w.heap.size w w') : w'.ownsRow base e size v n xs := by
  refine ⟨h.1, ?_⟩
  rcases h.2 with h0 | ⟨g, cap, cur, hv, hg, hh, rest⟩
  · exact Or.inl h0
  · refine Or.inr ⟨g, cap, cur, hv, hg, ?_, rest⟩
    rw [hb.block g (Array.getElem?_eq_some_iff.1 hh).1]
    exact hh
theorem own_read {w : World} {base k c : Nat} {p : Option Addr} {l : List (ByteArray × ByteArray)} (h : w.ownsRow base 42 2 (.slice p k c) k (fvals l)) (hk : k = l.length) : FilesAt w p k c l := by
  refine own_filesR h hk ?_
  rcases h.2 with ⟨hv, h0⟩ | ⟨g, cap, cur, hv, hg, hh, hkc, hcm, _⟩
  · injection hv with e1 e2 e3
    omega
  · injection hv with e1 e2 e3
    simp only [maxLen] at hcm
    omega
/-- append([]Cell{}, l..): a copy of cells. -/
theorem wp_copy_files {ops : Array Oper} {rest : List Oper} {o : Oper} {a : Act} {Q : Exit → Act → World → Prop} (hgd : o.guard = none) (s x : Operand)
    (ho : o.op = .call { callee := .builtin .append, args := #[s, x], argTypes := #[22, 22] }) (W : World) (q : Option Addr) (n c : Nat) (m : List (ByteArray × ByteArray))
    (hs : a.eval s = .slice (some ⟨W.heap.size, 0, none⟩) 0 0) (hx : a.eval x = .slice q n c) (hm : FilesAt W q n c m) (hk : n ≤ 1000000)
    (h : ∀ p' c' w', Hid (FilesAt w' p' n c' m ∧ (∀ b, p' = some b → b.block < w'.heap.size) ∧ Below W.heap.size W w' ∧ w'.ownsRow W.heap.size 42 2 (.slice p' n c') n (fvals m)) → wpList Try.prog ops Q rest (a.put o.dst (.slice p' n c')) w') :
    wpList Try.prog ops Q (o :: rest) a (W.alloc (.cells #[] 42)) := by
  have hO := new_own W
  have hB := below_new W (.cells #[] 42)
  refine wp_append_files hgd s x ho W.heap.size _ _ 0 [] q n c m hs hO hx (hm.below hB) (by omega) hB.size ?_
  intro p' c' w' ho' hg
  rw [Nat.zero_add]
  rw [Nat.zero_add, List.nil_append] at ho'
  refine h p' c' w' (Lib.hid ⟨own_read ho'.out hm.len, fun b hb => (own_low ho'.out b hb).1, hB.grown hg.out hB.size (fun j hj => (hO.lt j hj).1), ho'.out⟩)
end Go.Proofs.Ytpifpokbkjddjaa
