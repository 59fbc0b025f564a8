/- Merged by program: CelB, T3CellE. -/
import Derived.Maps.AppendAt
import Derived.Deep.RegionHeld3
import Derived.Test.YtbbhcbpfffabpaaGak
/- Cells: a row of them in memory, append, a copy. -/
namespace Go.Proofs.Ytbbhcbpfffabpaa
open Go.RowKit T3

structure Cel where
  k : Int
  n : Int
  s : ByteArray
structure CellsAt (w : World) (p : Option Addr) (n cap : Nat) (l : List Cel) : Prop where
  len : n = l.length
  room : n ≤ cap
  bound : cap ≤ 9223372036854775807
  nil : p = none → cap = 0
  cells : l = [] ∨ ∃ b off, p = some ⟨b, off, none⟩ ∧ ∀ i c, l[i]? = some c → w.cell? ⟨b, off + i * 3, none⟩ = some (.int .i64 c.k) ∧ w.cell? ⟨b, off + i * 3 + 1, none⟩ = some (.int .i64 c.n) ∧ w.cell? ⟨b, off + i * 3 + 2, none⟩ = some (.string c.s)
theorem CellsAt.below {w w' : World} {p : Option Addr} {n cap : Nat} {l : List Cel} (h : CellsAt w p n cap l) (hb : Below w.heap.size w w') : CellsAt w' p n cap l := by
  refine ⟨h.len, h.room, h.bound, h.nil, ?_⟩
  rcases h.cells with h0 | ⟨b, off, hp, hc⟩
  · exact Or.inl h0
  · refine Or.inr ⟨b, off, hp, fun i c hi => ?_⟩
    obtain ⟨h1, h2, h3⟩ := hc i c hi
    have key : ∀ (o : Nat) (v : Value), w.cell? ⟨b, o, none⟩ = some v → w'.cell? ⟨b, o, none⟩ = some v := fun o v hv => by rw [hb.cell (p := ⟨b, o, none⟩) (cell_lt hv)]; exact hv
    exact ⟨key _ _ h1, key _ _ h2, key _ _ h3⟩
def cvals (l : List Cel) : List Value := l.flatMap fun c => [.int .i64 c.k, .int .i64 c.n, .string c.s]
theorem cvals_len : ∀ l : List Cel, (cvals l).length = l.length * 3
  | [] => rfl
  | c :: l => by
    show (_ :: _ :: _ :: cvals l).length = _
    simp only [List.length_cons, cvals_len l]; omega
theorem cvals_append (a b : List Cel) : cvals (a ++ b) = cvals a ++ cvals b := by simp [cvals]
theorem cvals_at : ∀ (l : List Cel) (i : Nat) (c : Cel), l[i]? = some c → (cvals l)[i * 3]? = some (.int .i64 c.k) ∧ (cvals l)[i * 3 + 1]? = some (.int .i64 c.n) ∧ (cvals l)[i * 3 + 2]? = some (.string c.s)
  | [], i, c, h => by simp at h
  | x :: l, 0, c, h => by
    simp at h
    subst h
    exact ⟨rfl, rfl, rfl⟩
  | x :: l, i + 1, c, h => by
    have h' : l[i]? = some c := by simpa using h
    obtain ⟨h1, h2, h3⟩ := cvals_at l i c h'
    have e : ∀ j, (cvals (x :: l))[j + 3]? = (cvals l)[j]? := fun j => rfl
    refine ⟨?_, ?_, ?_⟩
    · rw [show (i + 1) * 3 = i * 3 + 3 from by omega, e]; exact h1
    · rw [show (i + 1) * 3 + 1 = i * 3 + 1 + 3 from by omega, e]; exact h2
    · rw [show (i + 1) * 3 + 2 = i * 3 + 2 + 3 from by omega, e]; exact h3
theorem cvals_one (l : List Cel) : ∀ u ∈ cvals l, u.oneCell' = true := by
  intro u hu
  unfold cvals at hu
  obtain ⟨c, _, h⟩ := List.mem_flatMap.1 hu
  simp only [List.mem_cons, List.mem_nil_iff, or_false] at h
  rcases h with rfl | rfl | rfl <;> rfl
theorem info_cellD : (Try.prog.info? 23).map (fun i => (i.zero, i.size, i.bytes)) = some (some (.agg #[.int .i64 0, .int .i64 0, .string ⟨#[]⟩]), 3, 32) := by kernel_rfl
theorem addr_add (b o j : Nat) : Addr.add ⟨b, o, none⟩ j = ⟨b, o + j, none⟩ := by
  unfold Addr.add
  split
  · rename_i h; rw [h]; rfl
  · rfl

/-- Cells that a call owns, read. -/
theorem own_cells {w : World} {base k c : Nat} {p : Option Addr} {l : List Cel} (h : w.ownsRow base 23 3 (.slice p k c) k (cvals l)) (hk : k = l.length) (hc : c ≤ 9223372036854775807) : CellsAt w p k c l := by
  rcases h.2 with ⟨hv, h0⟩ | ⟨g, cap, cur, hv, hg, hh, hkc, hcm, hsz, htake⟩
  · injection hv with e1 e2 e3
    subst e1 e3
    exact ⟨hk, by omega, hc, fun _ => rfl, Or.inl (List.eq_nil_of_length_eq_zero (by omega))⟩
  · injection hv with e1 e2 e3
    subst e1 e3
    refine ⟨hk, hkc, hc, fun e => by simp at e, Or.inr ⟨g, 0, rfl, fun i x hi => ?_⟩⟩
    obtain ⟨h1, h2, h3⟩ := cvals_at l i x hi
    have hil : i < l.length := (List.getElem?_eq_some_iff.1 hi).1
    have key : ∀ j v, j < k * 3 → (cvals l)[j]? = some v → w.cell? ⟨g, 0 + j, none⟩ = some v := fun j v hj hv => by
      rw [Nat.zero_add, cell_of_row w g j cur _ _ hh]
      rw [← htake, List.getElem?_take, if_pos hj] at hv
      simpa using hv
    have e : ∀ j, 0 + i * 3 + j = 0 + (i * 3 + j) := fun j => by omega
    refine ⟨key _ _ (by omega) h1, ?_, ?_⟩
    · rw [e]; exact key _ _ (by omega) h2
    · rw [e]; exact key _ _ (by omega) h3
theorem own_low {w : World} {base k c : Nat} {p : Option Addr} {xs : List Value} {e : TypeId} {size : Nat} (h : w.ownsRow base e size (.slice p k c) k xs) : ∀ a, p = some a → a.block < w.heap.size ∧ base ≤ a.block := by
  intro a ha
  rcases h.2 with ⟨hv, h0⟩ | ⟨g, cap, cur, hv, hg, hh, _⟩
  · injection hv with e1
    rw [e1] at ha
    exact absurd ha (by simp)
  · injection hv with e1
    rw [e1] at ha
    injection ha with ha
    rw [← ha]
    exact ⟨(Array.getElem?_eq_some_iff.1 hh).1, hg⟩
theorem cells_read {w : World} {p : Option Addr} {n c : Nat} {m : List Cel} (h : CellsAt w p n c m) {a : Addr} (ha : p = some a) : ∀ j u, (cvals m)[j]? = some u → w.cell? (a.add j) = some u := by
  intro j u hj
  have hjl : j < m.length * 3 := by rw [← cvals_len]; exact (List.getElem?_eq_some_iff.1 hj).1
  rcases h.cells with h0 | ⟨b, off, hp, hc⟩
  · rw [h0] at hjl; simp at hjl
  · rw [ha] at hp
    injection hp with hp
    subst hp
    obtain ⟨q, r, rfl, hr⟩ : ∃ q r, j = q * 3 + r ∧ r < 3 := ⟨j / 3, j % 3, by omega, by omega⟩
    have hi : q < m.length := by omega
    have hget := List.getElem?_eq_getElem hi
    obtain ⟨h1, h2, h3⟩ := hc _ _ hget
    obtain ⟨k1, k2, k3⟩ := cvals_at m _ _ hget
    rw [addr_add, ← Nat.add_assoc]
    have hr3 : r = 0 ∨ r = 1 ∨ r = 2 := by omega
    rcases hr3 with rfl | rfl | rfl
    · rw [Nat.add_zero] at hj ⊢
      rw [k1] at hj
      injection hj with hj
      rw [← hj]; exact h1
    · rw [k2] at hj
      injection hj with hj
      rw [← hj]; exact h2
    · rw [k3] at hj
      injection hj with hj
      rw [← hj]; exact h3

set_option maxRecDepth 100000 in
/-- append of cells to a row of the call's own. -/
theorem wp_append_cells {ops : Array Oper} {rest : List Oper} {o : Oper} {a : Act} {Q : Exit → Act → World → Prop} (hgd : o.guard = none) (s x : Operand)
    (ho : o.op = .call { callee := .builtin .append, args := #[s, x], argTypes := #[32, 32] }) (base : Nat) (w : World) (v : Value) (k : Nat) (l : List Cel) (q : Option Addr) (n c : Nat) (m : List Cel)
    (hs : a.eval s = v) (hown : w.ownsRow base 23 3 v k (cvals l)) (hx : a.eval x = .slice q n c) (hm : CellsAt w q n c m) (hk : k + n ≤ 1000000) (hbase : base ≤ w.heap.size)
    (h : ∀ p' c' w', Hid (w'.ownsRow base 23 3 (.slice p' (k + n) c') (k + n) (cvals (l ++ m))) → Hid (w.grownBy w' v.ownBlock) → wpList Try.prog ops Q rest (a.put o.dst (.slice p' (k + n) c')) w') :
    wpList Try.prog ops Q (o :: rest) a w := by
  obtain ⟨i0, hi, hz0, hz1, hz2⟩ := info_parts info_cellD
  have hlen := hm.len
  cases q with
  | none =>
    have hc0 := hm.nil rfl
    have hn0 : n = 0 := by have := hm.room; omega
    have hml : m = [] := List.eq_nil_of_length_eq_zero (by omega)
    subst hn0 hc0 hml
    refine wpList_append_own_none hgd s x 32 ho base 23 i0 3 Try.underlying32 hi _ k _ hs hown hx ?_
    obtain ⟨p', c', rfl⟩ : ∃ p' c', v = .slice p' k c' := by
      rcases hown.2 with ⟨hv, h0⟩ | ⟨g, cap, cur, hv, _⟩
      · rw [h0]; exact ⟨_, _, hv⟩
      · exact ⟨_, _, hv⟩
    have := h p' c' w (Lib.hid (by rw [List.append_nil, Nat.add_zero]; exact hown)) (Lib.hid (World.grownBy.refl _ _))
    rw [Nat.add_zero] at this
    exact this
  | some ad =>
    refine wpList_append_own _ hgd s x 32 ho base 23 i0 (.agg #[.int .i64 0, .int .i64 0, .string ⟨#[]⟩]) 3 32 Try.underlying32 hi hz0 hz1 hz2 rfl (by decide) v k (cvals l) hs hown ad n c (cvals m) hx ?_ ?_ ?_ ?_ ?_ ?_ ?_
    · rw [cvals_len, hlen]
    · exact cells_read hm rfl
    · exact cvals_one m
    · simp only [maxLen]; omega
    · omega
    · exact hbase
    · intro v' w' hown' hg _
      rw [← cvals_append] at hown'
      obtain ⟨p', c', rfl⟩ : ∃ p' c', v' = .slice p' (k + n) c' := by
        rcases hown'.2 with ⟨hv, h0⟩ | ⟨g, cap, cur, hv, _⟩
        · rw [h0]; exact ⟨_, _, hv⟩
        · exact ⟨_, _, hv⟩
      exact h p' c' w' (Lib.hid hown') (Lib.hid hg)

/-! ### The law's lives -/
theorem new_own (W : World) : (W.alloc (.cells #[] 23)).ownsRow W.heap.size 23 3 (.slice (some ⟨W.heap.size, 0, none⟩) 0 0) 0 (cvals []) :=
  World.ownsRow_lit (base := W.heap.size) (e := 23) (size := 3) W #[] 0 (Nat.le_refl _) (by simp only [maxLen]; omega) (by simp)

theorem own_below {w w' : World} {base : Nat} {e : TypeId} {size n : Nat} {v : Value} {xs : List Value} (h : w.ownsRow base e size v n xs) (hb : Below w.heap.size w w') : w'.ownsRow base e size v n xs := by
  refine ⟨h.1, ?_⟩
  rcases h.2 with h0 | ⟨g, cap, cur, hv, hg, hh, rest⟩
  · exact Or.inl h0
  · refine Or.inr ⟨g, cap, cur, hv, hg, ?_, rest⟩
    rw [hb.block g (Array.getElem?_eq_some_iff.1 hh).1]
    exact hh
theorem own_read {w : World} {base k c : Nat} {p : Option Addr} {l : List Cel} (h : w.ownsRow base 23 3 (.slice p k c) k (cvals l)) (hk : k = l.length) : CellsAt w p k c l := by
  refine own_cells h hk ?_
  rcases h.2 with ⟨hv, h0⟩ | ⟨g, cap, cur, hv, hg, hh, hkc, hcm, _⟩
  · injection hv with e1 e2 e3
    omega
  · injection hv with e1 e2 e3
    simp only [maxLen] at hcm
    omega
/-- append([]Cell{}, l..): a copy of cells. -/
theorem wp_copy_cells {ops : Array Oper} {rest : List Oper} {o : Oper} {a : Act} {Q : Exit → Act → World → Prop} (hgd : o.guard = none) (s x : Operand)
    (ho : o.op = .call { callee := .builtin .append, args := #[s, x], argTypes := #[32, 32] }) (W : World) (q : Option Addr) (n c : Nat) (m : List Cel)
    (hs : a.eval s = .slice (some ⟨W.heap.size, 0, none⟩) 0 0) (hx : a.eval x = .slice q n c) (hm : CellsAt W q n c m) (hk : n ≤ 1000000)
    (h : ∀ p' c' w', Hid (CellsAt w' p' n c' m ∧ (∀ b, p' = some b → b.block < w'.heap.size) ∧ Below W.heap.size W w' ∧ w'.ownsRow W.heap.size 23 3 (.slice p' n c') n (cvals m)) → wpList Try.prog ops Q rest (a.put o.dst (.slice p' n c')) w') :
    wpList Try.prog ops Q (o :: rest) a (W.alloc (.cells #[] 23)) := by
  have hO := new_own W
  have hB := below_new W (.cells #[] 23)
  refine wp_append_cells hgd s x ho W.heap.size _ _ 0 [] q n c m hs hO hx (hm.below hB) (by omega) hB.size ?_
  intro p' c' w' ho' hg
  rw [Nat.zero_add]
  rw [Nat.zero_add, List.nil_append] at ho'
  refine h p' c' w' (Lib.hid ⟨own_read ho'.out hm.len, fun b hb => (own_low ho'.out b hb).1, hB.grown hg.out hB.size (fun j hj => (hO.lt j hj).1), ho'.out⟩)
end Go.Proofs.Ytbbhcbpfffabpaa

/- Contract of the document's Can. -/
namespace Go.Proofs.Ytbbhcbpfffabpaa.T3
open Go.Proofs.Ytbbhcbpfffabpaa Go.Proofs
open Go.RowKit

section
variable {P : Program} {ops : Array Oper} {Q : Exit → Act → World → Prop} {md : Region.Mode} {S : World → Prop}
/-- An operation of a drawn region that its guard wants, taken first. -/
theorem takeW {i d : Nat} {oi : Oper} {v : Value} {fuel : Nat} {listed : Array Bool} {a : Act} {w : World} (hi : ops[i]? = some oi) (hd : oi.dst = some d)
    (hs : Region.noSelect ops = true) (hf : Region.free md ops listed i = true) (hr : (Region.ready md ops listed).contains i = true)
    (hQ : ∀ c a w, Q (.panic c) (a.put (some d) v) w → Q (.panic c) a w) (hw : Region.wanted oi (yielded ops a.tmps) = true) (hx : ∀ w, S w → (execOp a.eval oi).run P w = .ok (.value v) w) (hS : S w)
    (h : wpAnyH P md ops Q S fuel (listed.setIfInBounds i true) ⟨a.tmps.setIfInBounds d v, a.defers⟩ w) : wpAnyH P md ops Q S (fuel + 1) listed a w :=
  wpAnyH_take hi hs hf hr (by rw [hd]; exact hQ) (Or.inl ⟨hw, hx⟩) hS (by rw [hd]; exact h)
/-- One that its guard passes over. -/
theorem skipW {i d : Nat} {oi : Oper} {fuel : Nat} {listed : Array Bool} {a : Act} {w : World} (hi : ops[i]? = some oi) (hd : oi.dst = some d)
    (hs : Region.noSelect ops = true) (hf : Region.free md ops listed i = true) (hr : (Region.ready md ops listed).contains i = true)
    (hQ : ∀ c a w, Q (.panic c) (a.put (some d) undef) w → Q (.panic c) a w) (hw : Region.wanted oi (yielded ops a.tmps) = false) (hS : S w)
    (h : wpAnyH P md ops Q S fuel (listed.setIfInBounds i true) ⟨a.tmps.setIfInBounds d undef, a.defers⟩ w) : wpAnyH P md ops Q S (fuel + 1) listed a w :=
  wpAnyH_take hi hs hf hr (by rw [hd]; exact hQ) (Or.inr ⟨hw, rfl⟩) hS (by rw [hd]; exact h)
end

set_option maxRecDepth 100000 in
set_option maxHeartbeats 8000000 in
theorem refCan_looks (n K M : Int) (s : ByteArray) (r : Bool) (w : World) (hr : (K = 3 ∧ M = n ∧ r = true) ∨ (K = 3 ∧ ¬ M = n ∧ r = false) ∨ (K = 2 ∧ r = false)) (I : Hid (∀ w, Calls Try.prog 45 #[.string s] w fun e w' => e = .returned (.agg #[.int .i64 K, .int .i64 M, .string s]) ∧ Below w.heap.size w w')) :
    Calls Try.prog 13 #[.agg #[.int .i64 3, .int .i64 n, .string s]] w fun e w' => e = .returned (.bool r) ∧ Below w.heap.size w w' := by
  have B0 := boxed1 w (.int .i64 3) (.int .i64 n) (.string s) 23
  have H0 := Lib.hid (held1 B0.1.out B0.2)
  clear B0
  go_enter Try.func13, Try.ntmps13
  go_wp2_with fail
  refine wp_region_held_drew (S := fun w' => Hid (Below w.heap.size w w') ∧ w'.cell? ⟨w.heap.size, 0, none⟩ = some (.int .i64 3) ∧ w'.cell? ⟨w.heap.size, 1, none⟩ = some (.int .i64 n) ∧ w'.cell? ⟨w.heap.size, 2, none⟩ = some (.string s)) (by kernel_rfl) (keep1 H0.out (below_drew _)) (fun hHeld => ?_)
  refine takeW (i := 0) (d := 3) (v := .pointer (some ⟨w.heap.size, 0, none⟩)) rfl rfl (by kernel_rfl) (by kernel_rfl) (by kernel_rfl) (fun _ _ _ h => h) (by rfl) (fun w' hSw => by go_simp) (by assumption) ?_
  simp only [List.setIfInBounds_toArray, List.set_cons_zero, List.set_cons_succ]
  refine takeW (i := 1) (d := 4) (v := .int .i64 3) rfl rfl (by kernel_rfl) (by kernel_rfl) (by kernel_rfl) (fun _ _ _ h => h) (by rfl) (fun w' hSw => by go_simp) (by assumption) ?_
  simp only [List.setIfInBounds_toArray, List.set_cons_zero, List.set_cons_succ]
  refine takeW (i := 2) (d := 5) (v := .bool false) rfl rfl (by kernel_rfl) (by kernel_rfl) (by kernel_rfl) (fun _ _ _ h => h) (by rfl) (fun w' hSw => by go_simp) (by assumption) ?_
  simp only [List.setIfInBounds_toArray, List.set_cons_zero, List.set_cons_succ]
  refine takeW (i := 3) (d := 6) (v := .bool false) rfl rfl (by kernel_rfl) (by kernel_rfl) (by kernel_rfl) (fun _ _ _ h => h) (by rfl) (fun w' hSw => by go_simp) (by assumption) ?_
  simp only [List.setIfInBounds_toArray, List.set_cons_zero, List.set_cons_succ]
  refine skipW (i := 4) (d := 7) rfl rfl (by kernel_rfl) (by kernel_rfl) (by kernel_rfl) (fun _ _ _ h => h) (by rfl) (by assumption) ?_
  simp only [List.setIfInBounds_toArray, List.set_cons_zero, List.set_cons_succ]
  refine skipW (i := 5) (d := 8) rfl rfl (by kernel_rfl) (by kernel_rfl) (by kernel_rfl) (fun _ _ _ h => h) (by rfl) (by assumption) ?_
  simp only [List.setIfInBounds_toArray, List.set_cons_zero, List.set_cons_succ]
  refine skipW (i := 6) (d := 9) rfl rfl (by kernel_rfl) (by kernel_rfl) (by kernel_rfl) (fun _ _ _ h => h) (by rfl) (by assumption) ?_
  simp only [List.setIfInBounds_toArray, List.set_cons_zero, List.set_cons_succ]
  refine takeW (i := 7) (d := 10) (v := .bool false) rfl rfl (by kernel_rfl) (by kernel_rfl) (by kernel_rfl) (fun _ _ _ h => h) (by rfl) (fun w' hSw => by go_simp) (by assumption) ?_
  simp only [List.setIfInBounds_toArray, List.set_cons_zero, List.set_cons_succ]
  refine takeW (i := 8) (d := 11) (v := .bool false) rfl rfl (by kernel_rfl) (by kernel_rfl) (by kernel_rfl) (fun _ _ _ h => h) (by rfl) (fun w' hSw => by go_simp) (by assumption) ?_
  simp only [List.setIfInBounds_toArray, List.set_cons_zero, List.set_cons_succ]
  refine skipW (i := 9) (d := 12) rfl rfl (by kernel_rfl) (by kernel_rfl) (by kernel_rfl) (fun _ _ _ h => h) (by rfl) (by assumption) ?_
  simp only [List.setIfInBounds_toArray, List.set_cons_zero, List.set_cons_succ]
  refine skipW (i := 10) (d := 13) rfl rfl (by kernel_rfl) (by kernel_rfl) (by kernel_rfl) (fun _ _ _ h => h) (by rfl) (by assumption) ?_
  simp only [List.setIfInBounds_toArray, List.set_cons_zero, List.set_cons_succ]
  refine skipW (i := 11) (d := 14) rfl rfl (by kernel_rfl) (by kernel_rfl) (by kernel_rfl) (fun _ _ _ h => h) (by rfl) (by assumption) ?_
  simp only [List.setIfInBounds_toArray, List.set_cons_zero, List.set_cons_succ]
  refine takeW (i := 12) (d := 15) (v := .bool false) rfl rfl (by kernel_rfl) (by kernel_rfl) (by kernel_rfl) (fun _ _ _ h => h) (by rfl) (fun w' hSw => by go_simp) (by assumption) ?_
  simp only [List.setIfInBounds_toArray, List.set_cons_zero, List.set_cons_succ]
  refine takeW (i := 13) (d := 16) (v := .bool false) rfl rfl (by kernel_rfl) (by kernel_rfl) (by kernel_rfl) (fun _ _ _ h => h) (by rfl) (fun w' hSw => by go_simp) (by assumption) ?_
  simp only [List.setIfInBounds_toArray, List.set_cons_zero, List.set_cons_succ]
  refine takeW (i := 14) (d := 17) (v := .pointer (some ⟨w.heap.size, 0, none⟩)) rfl rfl (by kernel_rfl) (by kernel_rfl) (by kernel_rfl) (fun _ _ _ h => h) (by rfl) (fun w' hSw => by go_simp) (by assumption) ?_
  simp only [List.setIfInBounds_toArray, List.set_cons_zero, List.set_cons_succ]
  refine takeW (i := 15) (d := 18) (v := .int .i64 3) rfl rfl (by kernel_rfl) (by kernel_rfl) (by kernel_rfl) (fun _ _ _ h => h) (by rfl) (fun w' hSw => by go_simp) (by assumption) ?_
  simp only [List.setIfInBounds_toArray, List.set_cons_zero, List.set_cons_succ]
  refine takeW (i := 16) (d := 19) (v := .bool false) rfl rfl (by kernel_rfl) (by kernel_rfl) (by kernel_rfl) (fun _ _ _ h => h) (by rfl) (fun w' hSw => by go_simp) (by assumption) ?_
  simp only [List.setIfInBounds_toArray, List.set_cons_zero, List.set_cons_succ]
  refine takeW (i := 17) (d := 20) (v := .bool false) rfl rfl (by kernel_rfl) (by kernel_rfl) (by kernel_rfl) (fun _ _ _ h => h) (by rfl) (fun w' hSw => by go_simp) (by assumption) ?_
  simp only [List.setIfInBounds_toArray, List.set_cons_zero, List.set_cons_succ]
  refine skipW (i := 18) (d := 21) rfl rfl (by kernel_rfl) (by kernel_rfl) (by kernel_rfl) (fun _ _ _ h => h) (by rfl) (by assumption) ?_
  simp only [List.setIfInBounds_toArray, List.set_cons_zero, List.set_cons_succ]
  refine skipW (i := 19) (d := 22) rfl rfl (by kernel_rfl) (by kernel_rfl) (by kernel_rfl) (fun _ _ _ h => h) (by rfl) (by assumption) ?_
  simp only [List.setIfInBounds_toArray, List.set_cons_zero, List.set_cons_succ]
  refine skipW (i := 20) (d := 23) rfl rfl (by kernel_rfl) (by kernel_rfl) (by kernel_rfl) (fun _ _ _ h => h) (by rfl) (by assumption) ?_
  simp only [List.setIfInBounds_toArray, List.set_cons_zero, List.set_cons_succ]
  refine takeW (i := 21) (d := 24) (v := .bool false) rfl rfl (by kernel_rfl) (by kernel_rfl) (by kernel_rfl) (fun _ _ _ h => h) (by rfl) (fun w' hSw => by go_simp) (by assumption) ?_
  simp only [List.setIfInBounds_toArray, List.set_cons_zero, List.set_cons_succ]
  refine takeW (i := 22) (d := 25) (v := .bool false) rfl rfl (by kernel_rfl) (by kernel_rfl) (by kernel_rfl) (fun _ _ _ h => h) (by rfl) (fun w' hSw => by go_simp) (by assumption) ?_
  simp only [List.setIfInBounds_toArray, List.set_cons_zero, List.set_cons_succ]
  refine takeW (i := 23) (d := 26) (v := .bool false) rfl rfl (by kernel_rfl) (by kernel_rfl) (by kernel_rfl) (fun _ _ _ h => h) (by rfl) (fun w' hSw => by go_simp) (by assumption) ?_
  simp only [List.setIfInBounds_toArray, List.set_cons_zero, List.set_cons_succ]
  refine takeW (i := 24) (d := 27) (v := .pointer (some ⟨w.heap.size, 0, none⟩)) rfl rfl (by kernel_rfl) (by kernel_rfl) (by kernel_rfl) (fun _ _ _ h => h) (by rfl) (fun w' hSw => by go_simp) (by assumption) ?_
  simp only [List.setIfInBounds_toArray, List.set_cons_zero, List.set_cons_succ]
  refine takeW (i := 25) (d := 28) (v := .int .i64 3) rfl rfl (by kernel_rfl) (by kernel_rfl) (by kernel_rfl) (fun _ _ _ h => h) (by rfl) (fun w' hSw => by go_simp) (by assumption) ?_
  simp only [List.setIfInBounds_toArray, List.set_cons_zero, List.set_cons_succ]
  refine takeW (i := 26) (d := 29) (v := .bool false) rfl rfl (by kernel_rfl) (by kernel_rfl) (by kernel_rfl) (fun _ _ _ h => h) (by rfl) (fun w' hSw => by go_simp) (by assumption) ?_
  simp only [List.setIfInBounds_toArray, List.set_cons_zero, List.set_cons_succ]
  refine takeW (i := 27) (d := 30) (v := .bool false) rfl rfl (by kernel_rfl) (by kernel_rfl) (by kernel_rfl) (fun _ _ _ h => h) (by rfl) (fun w' hSw => by go_simp) (by assumption) ?_
  simp only [List.setIfInBounds_toArray, List.set_cons_zero, List.set_cons_succ]
  refine skipW (i := 28) (d := 31) rfl rfl (by kernel_rfl) (by kernel_rfl) (by kernel_rfl) (fun _ _ _ h => h) (by rfl) (by assumption) ?_
  simp only [List.setIfInBounds_toArray, List.set_cons_zero, List.set_cons_succ]
  refine skipW (i := 29) (d := 32) rfl rfl (by kernel_rfl) (by kernel_rfl) (by kernel_rfl) (fun _ _ _ h => h) (by rfl) (by assumption) ?_
  simp only [List.setIfInBounds_toArray, List.set_cons_zero, List.set_cons_succ]
  refine skipW (i := 30) (d := 33) rfl rfl (by kernel_rfl) (by kernel_rfl) (by kernel_rfl) (fun _ _ _ h => h) (by rfl) (by assumption) ?_
  simp only [List.setIfInBounds_toArray, List.set_cons_zero, List.set_cons_succ]
  refine takeW (i := 31) (d := 34) (v := .bool false) rfl rfl (by kernel_rfl) (by kernel_rfl) (by kernel_rfl) (fun _ _ _ h => h) (by rfl) (fun w' hSw => by go_simp) (by assumption) ?_
  simp only [List.setIfInBounds_toArray, List.set_cons_zero, List.set_cons_succ]
  refine takeW (i := 32) (d := 35) (v := .bool false) rfl rfl (by kernel_rfl) (by kernel_rfl) (by kernel_rfl) (fun _ _ _ h => h) (by rfl) (fun w' hSw => by go_simp) (by assumption) ?_
  simp only [List.setIfInBounds_toArray, List.set_cons_zero, List.set_cons_succ]
  refine takeW (i := 33) (d := 36) (v := .bool false) rfl rfl (by kernel_rfl) (by kernel_rfl) (by kernel_rfl) (fun _ _ _ h => h) (by rfl) (fun w' hSw => by go_simp) (by assumption) ?_
  simp only [List.setIfInBounds_toArray, List.set_cons_zero, List.set_cons_succ]
  refine takeW (i := 34) (d := 37) (v := .pointer (some ⟨w.heap.size, 0, none⟩)) rfl rfl (by kernel_rfl) (by kernel_rfl) (by kernel_rfl) (fun _ _ _ h => h) (by rfl) (fun w' hSw => by go_simp) (by assumption) ?_
  simp only [List.setIfInBounds_toArray, List.set_cons_zero, List.set_cons_succ]
  refine takeW (i := 35) (d := 38) (v := .int .i64 3) rfl rfl (by kernel_rfl) (by kernel_rfl) (by kernel_rfl) (fun _ _ _ h => h) (by rfl) (fun w' hSw => by go_simp) (by assumption) ?_
  simp only [List.setIfInBounds_toArray, List.set_cons_zero, List.set_cons_succ]
  refine takeW (i := 36) (d := 39) (v := .bool true) rfl rfl (by kernel_rfl) (by kernel_rfl) (by kernel_rfl) (fun _ _ _ h => h) (by rfl) (fun w' hSw => by go_simp) (by assumption) ?_
  simp only [List.setIfInBounds_toArray, List.set_cons_zero, List.set_cons_succ]
  refine takeW (i := 37) (d := 40) (v := .bool true) rfl rfl (by kernel_rfl) (by kernel_rfl) (by kernel_rfl) (fun _ _ _ h => h) (by rfl) (fun w' hSw => by go_simp) (by assumption) ?_
  simp only [List.setIfInBounds_toArray, List.set_cons_zero, List.set_cons_succ]
  refine takeW (i := 38) (d := 41) (v := .pointer (some ⟨w.heap.size, 2, none⟩)) rfl rfl (by kernel_rfl) (by kernel_rfl) (by kernel_rfl) (fun _ _ _ h => h) (by rfl) (fun w' hSw => by go_simp) (by assumption) ?_
  simp only [List.setIfInBounds_toArray, List.set_cons_zero, List.set_cons_succ]
  refine takeW (i := 39) (d := 42) (v := .string s) rfl rfl (by kernel_rfl) (by kernel_rfl) (by kernel_rfl) (fun _ _ _ h => h) (by rfl) (fun w' hSw => by go_simp) (by assumption) ?_
  simp only [List.setIfInBounds_toArray, List.set_cons_zero, List.set_cons_succ]
  refine takeW (i := 41) (d := 44) (v := .agg #[.int .i64 3, .int .i64 n, .string s]) rfl rfl (by kernel_rfl) (by kernel_rfl) (by kernel_rfl) (fun _ _ _ h => h) (by rfl) (fun w' hSw => by go_simp) (by assumption) ?_
  simp only [List.setIfInBounds_toArray, List.set_cons_zero, List.set_cons_succ]
  refine wpAnyH_ready (rs := [40]) (by kernel_rfl) (by simp) ?_
  refine AllReadyH.cons rfl (fun X hX => ?_) AllReadyH.nil
  rw [if_pos (by rfl)]
  go_simp
  refine (I.out _).mono ?_
  rintro e w1 ⟨rfl, b1⟩
  go_wp2_with fail
  refine hX.out _ _ (keep1 hHeld b1) (fun hH2 => ?_)
  clear hX X hHeld b1
  refine takeW (i := 42) (d := 45) (v := .bool r) rfl rfl (by kernel_rfl) (by kernel_rfl) (by kernel_rfl) (fun _ _ _ h => h) (by rfl) (fun w' hSw => by rcases hr with ⟨rfl, rfl, rfl⟩ | ⟨rfl, h, rfl⟩ | ⟨rfl, rfl⟩ <;> go_simp) (by assumption) ?_
  simp only [List.setIfInBounds_toArray, List.set_cons_zero, List.set_cons_succ]
  refine takeW (i := 43) (d := 46) (v := .bool r) rfl rfl (by kernel_rfl) (by kernel_rfl) (by kernel_rfl) (fun _ _ _ h => h) (by rfl) (fun w' hSw => by go_simp) (by assumption) ?_
  simp only [List.setIfInBounds_toArray, List.set_cons_zero, List.set_cons_succ]
  refine takeW (i := 44) (d := 47) (v := .bool r) rfl rfl (by kernel_rfl) (by kernel_rfl) (by kernel_rfl) (fun _ _ _ h => h) (by rfl) (fun w' hSw => by go_simp) (by assumption) ?_
  simp only [List.setIfInBounds_toArray, List.set_cons_zero, List.set_cons_succ]
  refine takeW (i := 45) (d := 2) (v := .bool r) rfl rfl (by kernel_rfl) (by kernel_rfl) (by kernel_rfl) (fun _ _ _ h => h) (by rfl) (fun w' hSw => by go_simp) (by assumption) ?_
  simp only [List.setIfInBounds_toArray, List.set_cons_zero, List.set_cons_succ]
  refine wpAnyH_done (by kernel_rfl) ?_ _
  have HE := Lib.hid hH2.1
  clear hH2 hr
  go_wp2_with fail
  go_ret
  exact ⟨rfl, HE.out.out⟩

set_option maxHeartbeats 4000000 in
theorem refCan_any (k n : Int) (s : ByteArray) (hs : s.size ≤ 300) (w : World) :
    Calls Try.prog 13 #[.agg #[.int .i64 k, .int .i64 n, .string s]] w fun e w' => e = .returned (.bool (canB k n s)) ∧ Below w.heap.size w w' := by
  have I := Lib.hid (fun w => refInput_any s hs w)
  have HB := (boxed1 w (.int .i64 k) (.int .i64 n) (.string s) 23).1
  clear hs
  rcases can_cases k n s with ⟨rfl, rfl, h2, hc⟩ | ⟨rfl, rfl, h2, hc⟩ | ⟨rfl, h1, hc⟩ | ⟨rfl, h2, hc⟩ | ⟨rfl, h2, hc⟩ | ⟨rfl, rfl, hc⟩ | ⟨rfl, h1, hc⟩ | ⟨rfl, hk, rfl, hc⟩ | ⟨rfl, hk, hn, hc⟩ | ⟨rfl, hk, hc⟩ | ⟨g0, g1, g2, g3, hc⟩
  · rw [hc]; clear hc I
    have he : s.toList.isEmpty = true := by rw [h2]; rfl
    go_enter Try.func13, Try.ntmps13
    go_wp2_with fail
    go_quiet (fail)
    go_wp2_with fail
    go_ret
    exact ⟨rfl, Below.drewN' HB.out _⟩
  · rw [hc]; clear hc I
    have he : s.toList.isEmpty = false := by cases hs : s.toList with | nil => exact absurd hs h2 | cons a l => rfl
    clear h2
    go_enter Try.func13, Try.ntmps13
    go_wp2_with fail
    go_quiet (fail)
    go_wp2_with fail
    go_ret
    exact ⟨rfl, Below.drewN' HB.out _⟩
  · rw [hc]; clear hc I
    have hb : (n == 0) = false := beq_eq_false_iff_ne.2 h1
    clear h1
    go_enter Try.func13, Try.ntmps13
    go_wp2_with fail
    go_quiet (fail)
    go_wp2_with fail
    go_ret
    exact ⟨rfl, Below.drewN' HB.out _⟩
  · rw [hc]; clear hc I
    have he : s.toList.isEmpty = true := by rw [h2]; rfl
    go_enter Try.func13, Try.ntmps13
    go_wp2_with fail
    go_quiet (fail)
    go_wp2_with fail
    go_ret
    exact ⟨rfl, Below.drewN' HB.out _⟩
  · rw [hc]; clear hc I
    have he : s.toList.isEmpty = false := by cases hs : s.toList with | nil => exact absurd hs h2 | cons a l => rfl
    clear h2
    go_enter Try.func13, Try.ntmps13
    go_wp2_with fail
    go_quiet (fail)
    go_wp2_with fail
    go_ret
    exact ⟨rfl, Below.drewN' HB.out _⟩
  · rw [hc]; clear hc I
    go_enter Try.func13, Try.ntmps13
    go_wp2_with fail
    go_quiet (fail)
    go_wp2_with fail
    go_ret
    exact ⟨rfl, Below.drewN' HB.out _⟩
  · rw [hc]; clear hc I
    have hb : (n == 0) = false := beq_eq_false_iff_ne.2 h1
    clear h1
    go_enter Try.func13, Try.ntmps13
    go_wp2_with fail
    go_quiet (fail)
    go_wp2_with fail
    go_ret
    exact ⟨rfl, Below.drewN' HB.out _⟩
  · rw [hc]
    exact refCan_looks _ (inK s) (inN s) s true w (Or.inl ⟨hk, rfl, rfl⟩) I
  · rw [hc]
    exact refCan_looks n (inK s) (inN s) s false w (Or.inr (Or.inl ⟨hk, fun h => hn h.symm, rfl⟩)) I
  · rw [hc]
    exact refCan_looks n (inK s) (inN s) s false w (Or.inr (Or.inr ⟨hk, rfl⟩)) I
  · rw [hc]; clear hc I
    go_enter Try.func13, Try.ntmps13
    go_wp2_with fail
    go_quiet (fail)
    go_wp2_with fail
    go_ret
    exact ⟨rfl, Below.drewN' HB.out _⟩
end Go.Proofs.Ytbbhcbpfffabpaa.T3
