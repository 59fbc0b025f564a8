/- Merged by program: Take, NdOwnT, ShA, ShB. -/
import Derived.Maps.AppendAt
import Derived.Laws.Tables
import Derived.Test.YtgdlpldngpoadaaGreatDoorSaa
/- A drawn region by hand: an operation that is ready is taken. -/
namespace Go.Proofs.YtgdlpldngpoadaaGreatDoor
open Go.RowKit
section
variable {P : Program} {ops : Array Oper} {Q : Exit → Act → World → Prop} {md : Region.Mode} {S : World → Prop}
theorem takeW {i d : Nat} {oi : Oper} {v : Value} {fuel : Nat} {listed : Array Bool} {a : Act} {w : World} (hi : ops[i]? = some oi) (hd : oi.dst = some d)
    (hs : Region.noSelect ops = true) (hf : Region.free md ops listed i = true) (hr : (Region.ready md ops listed).contains i = true)
    (hQ : ∀ c a w, Q (.panic c) (a.put (some d) v) w → Q (.panic c) a w) (hw : Region.wanted oi (yielded ops a.tmps) = true) (hx : ∀ w, S w → (execOp a.eval oi).run P w = .ok (.value v) w) (hS : S w)
    (h : wpAnyH P md ops Q S fuel (listed.setIfInBounds i true) ⟨a.tmps.setIfInBounds d v, a.defers⟩ w) : wpAnyH P md ops Q S (fuel + 1) listed a w :=
  wpAnyH_take hi hs hf hr (by rw [hd]; exact hQ) (Or.inl ⟨hw, hx⟩) hS (by rw [hd]; exact h)
/-- One that its guard passes over. -/
theorem skipW {i d : Nat} {oi : Oper} {fuel : Nat} {listed : Array Bool} {a : Act} {w : World} (hi : ops[i]? = some oi) (hd : oi.dst = some d)
    (hs : Region.noSelect ops = true) (hf : Region.free md ops listed i = true) (hr : (Region.ready md ops listed).contains i = true)
    (hQ : ∀ c a w, Q (.panic c) (a.put (some d) undef) w → Q (.panic c) a w) (hw : Region.wanted oi (yielded ops a.tmps) = false) (hS : S w)
    (h : wpAnyH P md ops Q S fuel (listed.setIfInBounds i true) ⟨a.tmps.setIfInBounds d undef, a.defers⟩ w) : wpAnyH P md ops Q S (fuel + 1) listed a w :=
  wpAnyH_take hi hs hf hr (by rw [hd]; exact hQ) (Or.inr ⟨hw, rfl⟩) hS (by rw [hd]; exact h)
end
end Go.Proofs.YtgdlpldngpoadaaGreatDoor

/- A slice of trees, and one of texts, that a call makes. -/
namespace Go.Proofs.YtgdlpldngpoadaaGreatDoor
open Go.RowKit

theorem info_nd : (Tryz.prog.info? 25).map (·.size) = some 6 := by kernel_rfl
theorem info_nd3 : (Tryz.prog.info? 25).map (fun i => (i.zero, i.size, i.bytes)) = some (some (.agg #[.int .i64 0, .string ⟨#[]⟩, .int .i64 0, .int .i64 0, .slice none 0 0, .slice none 0 0]), 6, 88) := by kernel_rfl
theorem info_str3 : (Tryz.prog.info? 9).map (fun i => (i.zero, i.size, i.bytes)) = some (some (.string ⟨#[]⟩), 1, 16) := by kernel_rfl
theorem nd_one (k : Int) (s : ByteArray) (n a : Int) (x : Option Addr) (i c : Nat) (y : Option Addr) (j d : Nat) : (ndC k s n a (.slice x i c) (.slice y j d)).all (·.oneCell') = true := by
  simp [ndC]
  exact ⟨rfl, rfl, rfl, rfl, rfl, rfl⟩
def zeroN : Array Value := ndC 0 ⟨#[]⟩ 0 0 (.slice none 0 0) (.slice none 0 0)

/-- All that was there stands, but one block. -/
theorem owns_after {w w' : World} {base : Nat} {e : TypeId} {size : Nat} {v : Value} {n : Nat} {xs : List Value} (h : w.ownsRow base e size v n xs) (hb : Below w.heap.size w w') : w'.ownsRow base e size v n xs :=
  h.kept (row := none) ⟨hb.os, hb.tape, hb.output, hb.size, fun k hk _ => hb.block k hk⟩ (by cases v.ownBlock <;> simp)

theorem below_setRow {B : Nat} {w w' : World} (h : Below B w w') {b : Nat} (hb : B ≤ b) (q : Array Value) : Below B w (w'.setRow b q) :=
  ⟨h.os, h.tape, h.output, by have := h.size; simpa [World.setRow] using this, fun k hk => by rw [Go.setRow_other _ _ _ _ (by omega)]; exact h.block k hk⟩
theorem nd_boxed (w : World) (ds cs : Array Value) : ∃ W, W = (w.alloc (.cells ds 25)).setRow w.heap.size cs ∧ Hid (Box W w.heap.size cs) ∧ Hid (Below w.heap.size w W) ∧ Hid (W.heap.size = w.heap.size + 1) :=
  ⟨_, rfl, Lib.hid ((box_new w ds).setRow cs), Lib.hid (below_setRow (below_new w _) (Nat.le_refl _) _), Lib.hid (by simp [World.setRow, World.size_alloc])⟩
/-- The cells of the first so many parts. -/
def flatC (cs : Nat → Array Value) (n : Nat) : List Value := (List.range n).flatMap fun j => (cs j).toList
theorem flatC_succ (cs : Nat → Array Value) (n : Nat) : flatC cs (n + 1) = flatC cs n ++ (cs n).toList := by
  unfold flatC
  rw [List.range_succ, List.flatMap_append]
  simp
theorem flatC_len (cs : Nat → Array Value) (n : Nat) (h : ∀ j, j < n → (cs j).size = 6) : (flatC cs n).length = n * 6 := by
  induction n with
  | zero => rfl
  | succ n ih =>
    rw [flatC_succ, List.length_append, ih fun j hj => h j (by omega)]
    have := h n (by omega)
    simp only [Array.length_toList, this]
    omega
theorem flatC_get (cs : Nat → Array Value) (n : Nat) (h : ∀ j, j < n → (cs j).size = 6) (i : Nat) (hi : i < n) (j : Nat) (hj : j < 6) : (flatC cs n)[i * 6 + j]? = (cs i)[j]? := by
  induction n with
  | zero => omega
  | succ n ih =>
    rw [flatC_succ]
    have hl := flatC_len cs n fun j hj => h j (by omega)
    by_cases e : i < n
    · rw [List.getElem?_append_left (by omega)]
      exact ih (fun j hj => h j (by omega)) e
    · obtain rfl : i = n := by omega
      rw [List.getElem?_append_right (by omega), hl]
      simp
theorem owns_six {w : World} {base g n cap : Nat} {cs : Nat → Array Value} (h : w.ownsRow base 25 6 (.slice (some ⟨g, 0, none⟩) n cap) n (flatC cs n)) (hc : ∀ j, j < n → (cs j).size = 6) (i : Nat) (hi : i < n) : Six w g (0 + i * 6) (cs i) := by
  intro j hj
  rw [Nat.zero_add, h.cellAt (i * 6 + j) (by omega)]
  exact flatC_get cs n hc i hi j hj

/-- Trees in a slice that the call owns. -/
structure OwnNds (w : World) (base : Nat) (v : Value) (ts : List Nd) (cs : Nat → Array Value) : Prop where
  row : w.ownsRow base 25 6 v ts.length (flatC cs ts.length)
  at_ : ∀ j (h : j < ts.length), At w (fun b => base ≤ b ∧ some b ≠ v.ownBlock) ts[j] (cs j)
theorem At.inWorld {w : World} {S : Nat → Prop} {t : Nd} {cs : Array Value} (h : At w S t cs) : At w (fun b => S b ∧ b < w.heap.size) t cs := by
  have hp' : ∀ {p : List ByteArray} {sp : Value}, PAt w S p sp → PAt w (fun b => S b ∧ b < w.heap.size) p sp := by
    intro p sp hp
    rcases hp with h | ⟨hl, b, off, c, rfl, hc, hB, hk⟩
    · exact Or.inl h
    · have h0 : 0 < p.length := by cases p with | nil => exact absurd rfl hl | cons => simp
      exact Or.inr ⟨hl, b, off, c, rfl, hc, ⟨hB, cell_lt (hk 0 h0)⟩, hk⟩
  induction h with
  | leaf k s n a p x c sp hp => exact .leaf k s n a p x c sp (hp' hp)
  | node k s n a l p b off c sp cs hl hc hB hp h6 hk ih =>
    have h0 : 0 < l.length := by cases l with | nil => exact absurd rfl hl | cons => simp
    exact .node k s n a l p b off c sp cs hl hc ⟨hB, (h6 0 h0).lt (hk 0 h0).size⟩ (hp' hp) h6 ih
theorem own_nil (w : World) (base : Nat) (cs : Nat → Array Value) : OwnNds w base (.slice none 0 0) [] cs := ⟨World.ownsRow_nil _ _ _ _, fun j h => absurd h (by simp)⟩
theorem OwnNds.after {w w' : World} {base : Nat} {v : Value} {ts : List Nd} {cs : Nat → Array Value} (h : OwnNds w base v ts cs) (hb : Below w.heap.size w w') : OwnNds w' base v ts cs :=
  ⟨owns_after h.row hb, fun j hj => (h.at_ j hj).after hb⟩
theorem OwnNds.size6 {w : World} {base : Nat} {v : Value} {ts : List Nd} {cs : Nat → Array Value} (h : OwnNds w base v ts cs) (j : Nat) (hj : j < ts.length) : (cs j).size = 6 := (h.at_ j hj).size
theorem flatC_congr {cs ds : Nat → Array Value} {n : Nat} (h : ∀ j, j < n → cs j = ds j) : flatC cs n = flatC ds n := by
  induction n with
  | zero => rfl
  | succ n ih => rw [flatC_succ, flatC_succ, ih fun j hj => h j (by omega), h n (by omega)]
theorem OwnNds.snoc {w w' : World} {base : Nat} {v v' : Value} {ts : List Nd} {cs : Nat → Array Value} (h : OwnNds w base v ts cs) {t : Nd} {ds : Array Value} {C : Nat} (ht : At w (Up C) t ds) (hC : base ≤ C) (hv : ∀ k, v.ownBlock = some k → k < C)
    (hrow : w'.ownsRow base 25 6 v' (ts.length + 1) (flatC cs ts.length ++ ds.toList)) (hg : w.grownBy w' v.ownBlock) (hb : v'.ownBlock = v.ownBlock ∨ v'.ownBlock = some w.heap.size) :
    OwnNds w' base v' (ts ++ [t]) (fun j => if j = ts.length then ds else cs j) := by
  have hl : (ts ++ [t]).length = ts.length + 1 := by simp
  refine ⟨?_, fun j hj => ?_⟩
  · rw [hl, flatC_succ, if_pos rfl, flatC_congr (ds := cs) (fun j hj => if_neg (by omega))]
    exact hrow
  · have keep : ∀ {u : Nd} {es : Array Value}, At w (fun b => base ≤ b ∧ some b ≠ v.ownBlock) u es → At w' (fun b => base ≤ b ∧ some b ≠ v'.ownBlock) u es := by
      intro u es hu
      refine ((hu.inWorld).keep (w' := w') (fun k hk hlt => hg.block k hlt hk.1.2)).weakS fun k hk => ⟨hk.1.1, ?_⟩
      rcases hb with e | e
      · rw [e]; exact hk.1.2
      · rw [e]; intro e'; have := hk.2; simp at e'; omega
    by_cases e : j = ts.length
    · subst e
      rw [if_pos rfl]
      have : (ts ++ [t])[ts.length] = t := by simp
      rw [this]
      refine keep (ht.weakS fun k hk => ⟨Nat.le_trans hC hk, fun e => ?_⟩)
      have h1 := hv k e.symm
      have h2 : C ≤ k := hk
      omega
    · rw [if_neg e]
      have hj' : j < ts.length := by rw [hl] at hj; omega
      have : (ts ++ [t])[j] = ts[j] := List.getElem_append_left hj'
      rw [this]
      exact keep (h.at_ j hj')
theorem OwnNds.slAt {w : World} {base : Nat} {v : Value} {ts : List Nd} {cs : Nat → Array Value} (h : OwnNds w base v ts cs) : SlAt w (Up base) ts v := by
  rcases h.row.2 with ⟨rfl, h0⟩ | ⟨g, cap, cur, rfl, hb, _, hcap, _⟩
  · exact Or.inl ⟨List.eq_nil_of_length_eq_zero h0, none, 0, by rfl⟩
  · by_cases e : ts = []
    · subst e; exact Or.inl ⟨rfl, _, _, rfl⟩
    · exact Or.inr ⟨e, g, 0, cap, cs, rfl, hcap, hb, fun i hi => owns_six h.row h.size6 i hi, fun i hi => (h.at_ i hi).weakS fun k hk => hk.1⟩

/-- Texts in a slice that the call owns. -/
theorem own_pAt {w : World} {base : Nat} {v : Value} {l : List ByteArray} (h : w.ownsRow base 9 1 v l.length (l.map Value.string)) : PAt w (fun b => base ≤ b ∧ some b = v.ownBlock) l v := by
  rcases h.2 with ⟨rfl, h0⟩ | ⟨g, cap, cur, rfl, hb, hrow, hcap, _⟩
  · exact Or.inl ⟨List.eq_nil_of_length_eq_zero h0, _, _, by rfl, fun _ => rfl⟩
  · by_cases e : l = []
    · subst e; exact Or.inl ⟨rfl, _, _, rfl, fun e => by simp at e⟩
    · refine Or.inr ⟨e, g, 0, cap, rfl, hcap, ⟨hb, rfl⟩, fun i hi => ?_⟩
      rw [Nat.zero_add, h.cellAt i (by omega)]
      simp [hi]
theorem PAt.read {w : World} {S : Nat → Prop} {l : List ByteArray} {b off n c : Nat} (h : PAt w S l (.slice (some ⟨b, off, none⟩) n c)) : ∀ j u, (l.map Value.string)[j]? = some u → w.cell? ((⟨b, off, none⟩ : Addr).add j) = some u := by
  intro j u hj
  rcases h with ⟨rfl, _⟩ | ⟨hl, b', off', c', e, hc, hB, hk⟩
  · simp at hj
  · simp only [Value.slice.injEq, Option.some.injEq, Addr.mk.injEq] at e
    obtain ⟨⟨rfl, rfl, _⟩, _, _⟩ := e
    have hjl : j < l.length := by have := (List.getElem?_eq_some_iff.1 hj).1; simpa using this
    have : u = .string l[j] := by simpa [hjl] using hj.symm
    subst this
    have e : (⟨b, off, none⟩ : Addr).add j = ⟨b, off + j, none⟩ := by unfold Addr.add; split <;> simp_all
    rw [e]
    exact hk j hjl
set_option maxRecDepth 100000 in
/-- append of texts to a row of the call's own, at an operation. -/
theorem op_append_strs {o : Oper} {a : Act} {K : Act → World → Prop} {Q : Exit → Act → World → Prop} (s x : Operand)
    (ho : o.op = .call { callee := .builtin .append, args := #[s, x], argTypes := #[23, 23] }) (dd : Nat) (hd : o.dst = some dd) (base : Nat) (w : World) (v : Value) (k : Nat) (l : List ByteArray) (u : Value) (m : List ByteArray) (S : Nat → Prop)
    (hs : a.eval s = v) (hown : w.ownsRow base 9 1 v k (l.map Value.string)) (hx : a.eval x = u) (hm : PAt w S m u) (hk : k + m.length ≤ 8796093022208) (hbase : base ≤ w.heap.size)
    (h : ∀ p' c' w', w'.ownsRow base 9 1 (.slice p' (k + m.length) c') (k + m.length) ((l ++ m).map Value.string) → w.grownBy w' v.ownBlock → (Value.slice p' (k + m.length) c').ownBlock = v.ownBlock ∨ (Value.slice p' (k + m.length) c').ownBlock = some w.heap.size → K ⟨a.tmps.setIfInBounds dd (.slice p' (k + m.length) c'), a.defers⟩ w') :
    o.wp Tryz.prog a w K Q := by
  have hput : ∀ v, a.put o.dst v = ⟨a.tmps.setIfInBounds dd v, a.defers⟩ := fun v => by rw [hd]; rfl
  obtain ⟨i0, hi, hz0, hz1, hz2⟩ := info_parts info_str3
  obtain ⟨q, c, hu⟩ := hm.shape
  subst hu
  have hone : ∀ z ∈ m.map Value.string, z.oneCell' = true := by intro z hz; obtain ⟨b, _, rfl⟩ := List.mem_map.1 hz; rfl
  cases q with
  | none =>
    have hml : m = [] ∧ c = 0 := by
      rcases hm with ⟨rfl, a', c', e, hac⟩ | ⟨hl, b', off', c', e, _⟩
      · simp only [Value.slice.injEq] at e
        obtain ⟨e1, _, e3⟩ := e
        exact ⟨rfl, by rw [e3]; exact hac e1.symm⟩
      · simp at e
    obtain ⟨rfl, rfl⟩ := hml
    obtain ⟨p', c', rfl⟩ : ∃ p' c', v = .slice p' k c' := by
      rcases hown.2 with ⟨hv, h0⟩ | ⟨g, cap, cur, hv, _⟩
      · rw [h0]; exact ⟨_, _, hv⟩
      · exact ⟨_, _, hv⟩
    have hrun := run_append_owned_none (P := Tryz.prog) (w := w) base 23 o.type 9 i0 1 Tryz.underlying23 hi _ k _ hown
    have := h p' c' w (by rw [List.append_nil, List.length_nil, Nat.add_zero]; exact hown) (World.grownBy.refl _ _) (Or.inl rfl)
    rw [List.length_nil, Nat.add_zero] at this
    unfold Oper.wp execOp
    simp only [ho, resolve, invoke, builtin, Sem.run_bind, Sem.run_pure, Result.andThen_ok, List.map_toArray, List.map_cons, List.map_nil, hs, hx, List.length_nil, hrun]
    rw [← hput] at this
    exact this
  | some ad =>
    obtain ⟨b, off, hb⟩ : ∃ b off, m = [] ∨ ad = ⟨b, off, none⟩ := by
      rcases hm with ⟨rfl, _⟩ | ⟨hl, b', off', c', e, _⟩
      · exact ⟨0, 0, Or.inl rfl⟩
      · simp only [Value.slice.injEq, Option.some.injEq] at e
        exact ⟨b', off', Or.inr e.1⟩
    have hread : ∀ j u, (m.map Value.string)[j]? = some u → w.cell? (ad.add j) = some u := by
      rcases hb with rfl | rfl
      · intro j u hj; simp at hj
      · exact hm.read
    obtain ⟨v', w', hr, hown', hg, _, hwh⟩ := run_append_own_at (P := Tryz.prog) (w := w) base 23 o.type 9 i0 (.string ⟨#[]⟩) 1 16 Tryz.underlying23 hi hz0 hz1 hz2 rfl (by decide) v k (l.map Value.string) hown ad m.length c (m.map Value.string) (by simp) hread hone (by simp only [maxLen]; omega) (by omega) hbase
    rw [← List.map_append] at hown'
    obtain ⟨p', c', rfl⟩ : ∃ p' c', v' = .slice p' (k + m.length) c' := by
      rcases hown'.2 with ⟨hv, h0⟩ | ⟨g, cap, cur, hv, _⟩
      · rw [h0]; exact ⟨_, _, hv⟩
      · exact ⟨_, _, hv⟩
    unfold Oper.wp execOp
    simp only [ho, resolve, invoke, builtin, Sem.run_bind, Sem.run_pure, Result.andThen_ok, List.map_toArray, List.map_cons, List.map_nil, hs, hx, hr]
    have := h p' c' w' hown' hg hwh
    rw [← hput] at this
    exact this
end Go.Proofs.YtgdlpldngpoadaaGreatDoor

/- The program's writer of trees: fitting, part, and how its functions write trees of names and numbers. -/
namespace Go.Proofs.YtgdlpldngpoadaaGreatDoor
open Go.RowKit

/-- A function writes a tree as a text. -/
def Writes (f : Nat) (t : Nd) (s : ByteArray) : Prop :=
  ∀ (S : Nat → Prop) (cs : Array Value) (w : World), At w S t cs → Calls Tryz.prog f #[.agg cs] w fun e w' => e = .returned (.string s) ∧ Below w.heap.size w w'

set_option maxRecDepth 100000 in
theorem fitting_spec (s : ByteArray) (h : s.size ≤ 8000) (w : World) : Calls Tryz.prog 31 #[.string s] w fun e w' => e = .returned (.string s) ∧ w' = w := by
  have hi : (s.size : Int) ≤ 8000 := by omega
  go_enter Tryz.func31, Tryz.ntmps31
  go_wp2_with fail
  go_ret
  exact ⟨rfl, rfl⟩

set_option maxRecDepth 100000 in
theorem part_spec (t : Nd) (i : Nat) (hi : i < t.kids.length) (S : Nat → Prop) (cs : Array Value) (w : World) (h : At w S t cs) :
    Calls Tryz.prog 68 #[.agg cs, .int .i64 i] w fun e w' => ∃ ds, e = .returned (.agg ds) ∧ At w' S t.kids[i] ds ∧ Below w.heap.size w w' := by
  have HI := info_nd
  obtain ⟨x, c, y, d, rfl, hs, hq⟩ := h.opens
  rcases hs with ⟨e, _⟩ | ⟨hl, b, off, c', cs, e, hc, hB, h6, hk⟩
  · rw [e] at hi; exact absurd hi (by simp)
  simp only [Value.slice.injEq] at e
  obtain ⟨rfl, en, rfl⟩ := e
  clear en
  have hT := hk i hi
  have h8 := h6 i hi
  obtain ⟨q, hq'⟩ : ∃ q, q = t.kids[i] := ⟨_, rfl⟩
  rw [← hq'] at hT ⊢
  obtain ⟨ai, ci, pi, di, e, _⟩ := hT.opens
  rw [e] at hT h8
  obtain ⟨n, hn⟩ : ∃ n, n = t.kids.length := ⟨_, rfl⟩
  rw [← hn] at hi hc ⊢
  clear e hk h6 h hq hl hn hq'
  have HT := Lib.hid hT
  have H8 := Lib.hid h8
  clear hT h8
  have hii : (i : Int) < n := by omega
  obtain ⟨W0, hW0, hX0, hB0, hsz⟩ := nd_box w (ndC t.k t.s t.n t.a (.slice (some ⟨b, off, none⟩) n c) (.slice y t.p.length d))
  obtain ⟨V0, hV0, hY0, hBV, hsz2⟩ := nd_box W0 zeroN
  rw [hsz.out] at hY0
  go_enter Tryz.func68, Tryz.ntmps68
  go_upto_region 1 with (fail)
  change Code.wp _ _ _ _ ((w.alloc (Obj.cells (ndC t.k t.s t.n t.a (.slice (some ⟨b, off, none⟩) n c) (.slice y t.p.length d)) 25)).alloc (Obj.cells zeroN 25))
  rw [← hW0, ← hV0]
  have HB := Lib.hid (Below.step hB0.out hBV.out)
  have HX := Lib.hid (hX0.out.after hBV.out)
  have H8' := Lib.hid (Six.after H8.out rfl HB.out)
  clear hW0 hV0 hX0 hB0 hsz hBV hsz2 H8
  obtain ⟨c0, c1, c2, c3, c4, c5⟩ := six_nd HX.out.six
  obtain ⟨d0, d1, d2, d3, d4, d5⟩ := six_nd H8'.out
  go_wp2_with (refine wpList_store_row rfl 25 (.tmp 4) (.tmp 15) rfl (w.heap.size + 1) (ndC q.k q.s q.n q.a (.slice ai q.kids.length ci) (.slice pi q.p.length di)) rfl rfl 25 zeroN hY0.out.row HI rfl (nd_one _ _ _ _ _ _ _ _ _ _) ?_)
  refine bodyPost_ret (v := .agg (ndC q.k q.s q.n q.a (.slice ai q.kids.length ci) (.slice pi q.p.length di))) (results_cell_row (by rfl) _ _ (w.heap.size + 1) 25 _ (0, 0) _ (by rfl) (hY0.out.setRow _).row Tryz.underlying25 (by rfl) HI) rfl ?_
  exact ⟨_, rfl, HT.out.keep fun k _ hk => by rw [Go.setRow_other _ _ _ _ (by omega)]; exact HB.out.block k hk, below_setRow HB.out (by omega) _⟩
set_option maxRecDepth 100000 in
theorem part_at (t : Nd) (i : Nat) (hi : i < t.kids.length) (S : Nat → Prop) (cs : Array Value) (w : World) (h : At w S t cs) :
    ∃ ds, At w S t.kids[i] ds ∧ ∀ V, Below w.heap.size w V → Calls Tryz.prog 68 #[.agg cs, .int .i64 i] V fun e w' => e = .returned (.agg ds) ∧ Below V.heap.size V w' := by
  have HI := info_nd
  obtain ⟨x, c, y, d, rfl, hs, hq⟩ := h.opens
  rcases hs with ⟨e, _⟩ | ⟨hl, b, off, c', cs, e, hc, hB, h6, hk⟩
  · rw [e] at hi; exact absurd hi (by simp)
  simp only [Value.slice.injEq] at e
  obtain ⟨rfl, en, rfl⟩ := e
  clear en
  refine ⟨cs i, hk i hi, fun V hV => ?_⟩
  have hT := hk i hi
  have h8 := (h6 i hi).after hT.size hV
  obtain ⟨q, hq'⟩ : ∃ q, q = t.kids[i] := ⟨_, rfl⟩
  rw [← hq'] at hT
  obtain ⟨ai, ci, pi, di, e, _⟩ := hT.opens
  rw [e] at h8 ⊢
  obtain ⟨n, hn⟩ : ∃ n, n = t.kids.length := ⟨_, rfl⟩
  rw [← hn] at hi hc ⊢
  clear e hk h6 h hq hl hn hq'
  have H8 := Lib.hid h8
  clear hT h8 hV
  obtain ⟨w0, hw0⟩ : ∃ w0, w0 = V := ⟨_, rfl⟩
  rw [← hw0] at H8 ⊢
  clear hw0 V
  have hii : (i : Int) < n := by omega
  obtain ⟨W0, hW0, hX0, hB0, hsz⟩ := nd_box w0 (ndC t.k t.s t.n t.a (.slice (some ⟨b, off, none⟩) n c) (.slice y t.p.length d))
  obtain ⟨V0, hV0, hY0, hBV, hsz2⟩ := nd_box W0 zeroN
  rw [hsz.out] at hY0
  go_enter Tryz.func68, Tryz.ntmps68
  go_upto_region 1 with (fail)
  change Code.wp _ _ _ _ ((w0.alloc (Obj.cells (ndC t.k t.s t.n t.a (.slice (some ⟨b, off, none⟩) n c) (.slice y t.p.length d)) 25)).alloc (Obj.cells zeroN 25))
  rw [← hW0, ← hV0]
  have HB := Lib.hid (Below.step hB0.out hBV.out)
  have HX := Lib.hid (hX0.out.after hBV.out)
  have H8' := Lib.hid (Six.after H8.out rfl HB.out)
  clear hW0 hV0 hX0 hB0 hsz hBV hsz2 H8
  obtain ⟨c0, c1, c2, c3, c4, c5⟩ := six_nd HX.out.six
  obtain ⟨d0, d1, d2, d3, d4, d5⟩ := six_nd H8'.out
  go_wp2_with (refine wpList_store_row rfl 25 (.tmp 4) (.tmp 15) rfl (w0.heap.size + 1) (ndC q.k q.s q.n q.a (.slice ai q.kids.length ci) (.slice pi q.p.length di)) rfl rfl 25 zeroN hY0.out.row HI rfl (nd_one _ _ _ _ _ _ _ _ _ _) ?_)
  refine bodyPost_ret (v := .agg (ndC q.k q.s q.n q.a (.slice ai q.kids.length ci) (.slice pi q.p.length di))) (results_cell_row (by rfl) _ _ (w0.heap.size + 1) 25 _ (0, 0) _ (by rfl) (hY0.out.setRow _).row Tryz.underlying25 (by rfl) HI) rfl ?_
  exact ⟨rfl, below_setRow HB.out (by omega) _⟩
end Go.Proofs.YtgdlpldngpoadaaGreatDoor

/- The program's writer of trees: expr, operand. -/
namespace Go.Proofs.YtgdlpldngpoadaaGreatDoor
open Go.RowKit

set_option maxRecDepth 100000 in
theorem wexpr_num (s : ByteArray) (n a : Int) (l : List Nd) (p : List ByteArray) (r : ByteArray) (h : ∀ w : World, Calls Tryz.prog 30 #[.int .i64 n] w fun e w' => e = .returned (.string r) ∧ Below w.heap.size w w') : Writes 16 (.mk 0 s n a l p) r := by
  intro S cs w hA
  obtain ⟨x, c, y, d, rfl, _, _⟩ := hA.opens
  clear hA
  simp only [Nd.k, Nd.s, Nd.n, Nd.a, Nd.kids, Nd.p]
  have HS := Lib.hid h
  clear h
  obtain ⟨W, hW, hX, hB, _⟩ := nd_box w (ndC 0 s n a (.slice x l.length c) (.slice y p.length d))
  go_enter Tryz.func16, Tryz.ntmps16
  go_upto_region 1 with (fail)
  change Code.wp _ _ _ _ (w.alloc (Obj.cells (ndC 0 s n a (.slice x l.length c) (.slice y p.length d)) 25))
  rw [← hW]
  clear hW
  obtain ⟨c0, c1, c2, c3, c4, c5⟩ := six_nd hX.out.six
  go_wp2_with fail
  refine (HS.out _).mono ?_
  rintro e w1 ⟨rfl, b1⟩
  go_wp2_with fail
  go_ret
  exact ⟨rfl, Below.step hB.out b1⟩
set_option maxRecDepth 100000 in
theorem wexpr_var (s : ByteArray) (n a : Int) (l : List Nd) (p : List ByteArray) (hs : s.size ≤ 8000) : Writes 16 (.mk 3 s n a l p) s := by
  intro S cs w hA
  obtain ⟨x, c, y, d, rfl, _, _⟩ := hA.opens
  clear hA
  simp only [Nd.k, Nd.s, Nd.n, Nd.a, Nd.kids, Nd.p]
  have HF := Lib.hid (fun w => fitting_spec s hs w)
  clear hs
  obtain ⟨W, hW, hX, hB, _⟩ := nd_box w (ndC 3 s n a (.slice x l.length c) (.slice y p.length d))
  go_enter Tryz.func16, Tryz.ntmps16
  go_upto_region 1 with (fail)
  change Code.wp _ _ _ _ (w.alloc (Obj.cells (ndC 3 s n a (.slice x l.length c) (.slice y p.length d)) 25))
  rw [← hW]
  clear hW
  obtain ⟨c0, c1, c2, c3, c4, c5⟩ := six_nd hX.out.six
  go_wp2_with fail
  refine (HF.out _).mono ?_
  rintro e w1 ⟨rfl, rfl⟩
  go_wp2_with fail
  go_ret
  exact ⟨rfl, hB.out⟩
set_option maxRecDepth 100000 in
theorem wexpr_6 (s : ByteArray) (n a : Int) (l : List Nd) (p : List ByteArray) (r : ByteArray) (hr : r.size ≤ 8000) (h : Writes 35 (.mk 6 s n a l p) r) : Writes 16 (.mk 6 s n a l p) r := by
  intro S cs w hA
  have HA := Lib.hid hA
  obtain ⟨x, c, y, d, rfl, _, _⟩ := hA.opens
  simp only [Nd.k, Nd.s, Nd.n, Nd.a, Nd.kids, Nd.p] at HA ⊢
  have HF := Lib.hid (fun w => fitting_spec r hr w)
  have HS := Lib.hid (fun w (hb : At w S (.mk 6 s n a l p) (ndC 6 s n a (.slice x l.length c) (.slice y p.length d))) => h S _ w hb)
  clear hr h hA
  obtain ⟨W, hW, hX, hB, _⟩ := nd_box w (ndC 6 s n a (.slice x l.length c) (.slice y p.length d))
  go_enter Tryz.func16, Tryz.ntmps16
  go_upto_region 1 with (fail)
  change Code.wp _ _ _ _ (w.alloc (Obj.cells (ndC 6 s n a (.slice x l.length c) (.slice y p.length d)) 25))
  rw [← hW]
  clear hW
  obtain ⟨c0, c1, c2, c3, c4, c5⟩ := six_nd hX.out.six
  go_wp2_with fail
  refine (HS.out _ (HA.out.after hB.out)).mono ?_
  rintro e w1 ⟨rfl, b1⟩
  go_wp2_with fail
  refine (HF.out _).mono ?_
  rintro e w2 ⟨rfl, rfl⟩
  go_wp2_with fail
  go_ret
  exact ⟨rfl, Below.step hB.out b1⟩
set_option maxRecDepth 100000 in
theorem wexpr_13 (s : ByteArray) (n a : Int) (l : List Nd) (p : List ByteArray) (r : ByteArray) (hr : r.size ≤ 8000) (h : Writes 35 (.mk 13 s n a l p) r) : Writes 16 (.mk 13 s n a l p) r := by
  intro S cs w hA
  have HA := Lib.hid hA
  obtain ⟨x, c, y, d, rfl, _, _⟩ := hA.opens
  simp only [Nd.k, Nd.s, Nd.n, Nd.a, Nd.kids, Nd.p] at HA ⊢
  have HF := Lib.hid (fun w => fitting_spec r hr w)
  have HS := Lib.hid (fun w (hb : At w S (.mk 13 s n a l p) (ndC 13 s n a (.slice x l.length c) (.slice y p.length d))) => h S _ w hb)
  clear hr h hA
  obtain ⟨W, hW, hX, hB, _⟩ := nd_box w (ndC 13 s n a (.slice x l.length c) (.slice y p.length d))
  go_enter Tryz.func16, Tryz.ntmps16
  go_upto_region 1 with (fail)
  change Code.wp _ _ _ _ (w.alloc (Obj.cells (ndC 13 s n a (.slice x l.length c) (.slice y p.length d)) 25))
  rw [← hW]
  clear hW
  obtain ⟨c0, c1, c2, c3, c4, c5⟩ := six_nd hX.out.six
  go_wp2_with fail
  refine (HS.out _ (HA.out.after hB.out)).mono ?_
  rintro e w1 ⟨rfl, b1⟩
  go_wp2_with fail
  refine (HF.out _).mono ?_
  rintro e w2 ⟨rfl, rfl⟩
  go_wp2_with fail
  go_ret
  exact ⟨rfl, Below.step hB.out b1⟩
set_option maxRecDepth 100000 in
theorem wexpr_14 (s : ByteArray) (n a : Int) (l : List Nd) (p : List ByteArray) (r : ByteArray) (hr : r.size ≤ 8000) (h : Writes 35 (.mk 14 s n a l p) r) : Writes 16 (.mk 14 s n a l p) r := by
  intro S cs w hA
  have HA := Lib.hid hA
  obtain ⟨x, c, y, d, rfl, _, _⟩ := hA.opens
  simp only [Nd.k, Nd.s, Nd.n, Nd.a, Nd.kids, Nd.p] at HA ⊢
  have HF := Lib.hid (fun w => fitting_spec r hr w)
  have HS := Lib.hid (fun w (hb : At w S (.mk 14 s n a l p) (ndC 14 s n a (.slice x l.length c) (.slice y p.length d))) => h S _ w hb)
  clear hr h hA
  obtain ⟨W, hW, hX, hB, _⟩ := nd_box w (ndC 14 s n a (.slice x l.length c) (.slice y p.length d))
  go_enter Tryz.func16, Tryz.ntmps16
  go_upto_region 1 with (fail)
  change Code.wp _ _ _ _ (w.alloc (Obj.cells (ndC 14 s n a (.slice x l.length c) (.slice y p.length d)) 25))
  rw [← hW]
  clear hW
  obtain ⟨c0, c1, c2, c3, c4, c5⟩ := six_nd hX.out.six
  go_wp2_with fail
  refine (HS.out _ (HA.out.after hB.out)).mono ?_
  rintro e w1 ⟨rfl, b1⟩
  go_wp2_with fail
  refine (HF.out _).mono ?_
  rintro e w2 ⟨rfl, rfl⟩
  go_wp2_with fail
  go_ret
  exact ⟨rfl, Below.step hB.out b1⟩
set_option maxRecDepth 100000 in
theorem woper_0 (s : ByteArray) (n a : Int) (l : List Nd) (p : List ByteArray) (r : ByteArray) (h : Writes 16 (.mk 0 s n a l p) r) : Writes 67 (.mk 0 s n a l p) r := by
  intro S cs w hA
  have HA := Lib.hid hA
  obtain ⟨x, c, y, d, rfl, _, _⟩ := hA.opens
  simp only [Nd.k, Nd.s, Nd.n, Nd.a, Nd.kids, Nd.p] at HA ⊢
  have HS := Lib.hid (fun w (hb : At w S (.mk 0 s n a l p) (ndC 0 s n a (.slice x l.length c) (.slice y p.length d))) => h S _ w hb)
  clear h hA
  obtain ⟨W, hW, hX, hB, _⟩ := nd_box w (ndC 0 s n a (.slice x l.length c) (.slice y p.length d))
  go_enter Tryz.func67, Tryz.ntmps67
  go_upto_region 1 with (fail)
  change Code.wp _ _ _ _ (w.alloc (Obj.cells (ndC 0 s n a (.slice x l.length c) (.slice y p.length d)) 25))
  rw [← hW]
  clear hW
  obtain ⟨c0, c1, c2, c3, c4, c5⟩ := six_nd hX.out.six
  go_wp2_with fail
  refine (HS.out _ (HA.out.after hB.out)).mono ?_
  rintro e w1 ⟨rfl, b1⟩
  go_wp2_with fail
  go_ret
  exact ⟨rfl, Below.step hB.out b1⟩
set_option maxRecDepth 100000 in
theorem woper_3 (s : ByteArray) (n a : Int) (l : List Nd) (p : List ByteArray) (r : ByteArray) (h : Writes 16 (.mk 3 s n a l p) r) : Writes 67 (.mk 3 s n a l p) r := by
  intro S cs w hA
  have HA := Lib.hid hA
  obtain ⟨x, c, y, d, rfl, _, _⟩ := hA.opens
  simp only [Nd.k, Nd.s, Nd.n, Nd.a, Nd.kids, Nd.p] at HA ⊢
  have HS := Lib.hid (fun w (hb : At w S (.mk 3 s n a l p) (ndC 3 s n a (.slice x l.length c) (.slice y p.length d))) => h S _ w hb)
  clear h hA
  obtain ⟨W, hW, hX, hB, _⟩ := nd_box w (ndC 3 s n a (.slice x l.length c) (.slice y p.length d))
  go_enter Tryz.func67, Tryz.ntmps67
  go_upto_region 1 with (fail)
  change Code.wp _ _ _ _ (w.alloc (Obj.cells (ndC 3 s n a (.slice x l.length c) (.slice y p.length d)) 25))
  rw [← hW]
  clear hW
  obtain ⟨c0, c1, c2, c3, c4, c5⟩ := six_nd hX.out.six
  go_wp2_with fail
  refine (HS.out _ (HA.out.after hB.out)).mono ?_
  rintro e w1 ⟨rfl, b1⟩
  go_wp2_with fail
  go_ret
  exact ⟨rfl, Below.step hB.out b1⟩
set_option maxRecDepth 100000 in
theorem woper_13 (s : ByteArray) (n a : Int) (l : List Nd) (p : List ByteArray) (r : ByteArray) (hr : r.size ≤ 8000) (h : Writes 16 (.mk 13 s n a l p) r) : Writes 67 (.mk 13 s n a l p) (⟨#[40]⟩ ++ r ++ ⟨#[41]⟩) := by
  intro S cs w hA
  have HA := Lib.hid hA
  obtain ⟨x, c, y, d, rfl, _, _⟩ := hA.opens
  simp only [Nd.k, Nd.s, Nd.n, Nd.a, Nd.kids, Nd.p] at HA ⊢
  have HS := Lib.hid (fun w (hb : At w S (.mk 13 s n a l p) (ndC 13 s n a (.slice x l.length c) (.slice y p.length d))) => h S _ w hb)
  clear h hA
  obtain ⟨W, hW, hX, hB, _⟩ := nd_box w (ndC 13 s n a (.slice x l.length c) (.slice y p.length d))
  go_enter Tryz.func67, Tryz.ntmps67
  go_upto_region 1 with (fail)
  change Code.wp _ _ _ _ (w.alloc (Obj.cells (ndC 13 s n a (.slice x l.length c) (.slice y p.length d)) 25))
  rw [← hW]
  clear hW
  obtain ⟨c0, c1, c2, c3, c4, c5⟩ := six_nd hX.out.six
  go_wp2_with fail
  refine (HS.out _ (HA.out.after hB.out)).mono ?_
  rintro e w1 ⟨rfl, b1⟩
  go_wp2_with fail
  go_ret
  exact ⟨rfl, Below.step hB.out b1⟩
set_option maxRecDepth 100000 in
theorem woper_14 (s : ByteArray) (n a : Int) (l : List Nd) (p : List ByteArray) (r : ByteArray) (hr : r.size ≤ 8000) (h : Writes 16 (.mk 14 s n a l p) r) : Writes 67 (.mk 14 s n a l p) (⟨#[40]⟩ ++ r ++ ⟨#[41]⟩) := by
  intro S cs w hA
  have HA := Lib.hid hA
  obtain ⟨x, c, y, d, rfl, _, _⟩ := hA.opens
  simp only [Nd.k, Nd.s, Nd.n, Nd.a, Nd.kids, Nd.p] at HA ⊢
  have HS := Lib.hid (fun w (hb : At w S (.mk 14 s n a l p) (ndC 14 s n a (.slice x l.length c) (.slice y p.length d))) => h S _ w hb)
  clear h hA
  obtain ⟨W, hW, hX, hB, _⟩ := nd_box w (ndC 14 s n a (.slice x l.length c) (.slice y p.length d))
  go_enter Tryz.func67, Tryz.ntmps67
  go_upto_region 1 with (fail)
  change Code.wp _ _ _ _ (w.alloc (Obj.cells (ndC 14 s n a (.slice x l.length c) (.slice y p.length d)) 25))
  rw [← hW]
  clear hW
  obtain ⟨c0, c1, c2, c3, c4, c5⟩ := six_nd hX.out.six
  go_wp2_with fail
  refine (HS.out _ (HA.out.after hB.out)).mono ?_
  rintro e w1 ⟨rfl, b1⟩
  go_wp2_with fail
  go_ret
  exact ⟨rfl, Below.step hB.out b1⟩
end Go.Proofs.YtgdlpldngpoadaaGreatDoor
