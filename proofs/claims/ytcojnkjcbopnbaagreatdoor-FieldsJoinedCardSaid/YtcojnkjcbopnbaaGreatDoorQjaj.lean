/- Merged by program: ComeT, Put, IsOf. -/
import Derived.Test.YtcojnkjcbopnbaaGreatDoorQjai
import Derived.Test.YtcojnkjcbopnbaaGreatDoorQjac
import Derived.Test.YtcojnkjcbopnbaaGreatDoorQjab
/- A walker in memory, and what it does: plain Lean. -/
namespace Go.Proofs.YtcojnkjcbopnbaaGreatDoor
open Go.RowKit

/-- Where a walker stands: at which place, and one, each state was come to; which states wait; which places were told. -/
structure Wk where
  seen : List Nat
  wait : List Nat
  told : List Nat
/-- Coming to a state at a place, and to all to which it leads on without a byte. -/
def comeN (ss : List St) (size : Nat) : Nat → Nat → Nat → Wk → Wk
  | 0, _, _, x => x
  | d + 1, i, place, x =>
    if x.seen[i]? = some (place + 1) then x
    else match ss[i]? with
      | none => x
      | some s =>
        if s.k = 0 then { x with seen := x.seen.set i (place + 1), told := x.told ++ [place] }
        else if s.k = 1 then { x with seen := x.seen.set i (place + 1), wait := x.wait ++ [i] }
        else if s.k = 2 then (if place = 0 then comeN ss size d s.nx place { x with seen := x.seen.set i (place + 1) } else { x with seen := x.seen.set i (place + 1) })
        else if s.k = 3 then (if place = size then comeN ss size d s.nx place { x with seen := x.seen.set i (place + 1) } else { x with seen := x.seen.set i (place + 1) })
        else if s.k = 4 then comeN ss size d s.ot place (comeN ss size d s.nx place { x with seen := x.seen.set i (place + 1) })
        else { x with seen := x.seen.set i (place + 1) }
/-- How many states were not come to at a place. -/
def unseen (l : List Nat) (m : Nat) : Nat := l.countP (fun k => k != m)
theorem unseen_le (l : List Nat) (m : Nat) : unseen l m ≤ l.length := List.countP_le_length
theorem unseen_set (l : List Nat) (i m : Nat) (hi : i < l.length) (hne : l[i] ≠ m) : unseen (l.set i m) m + 1 = unseen l m := by
  induction l generalizing i with
  | nil => exact absurd hi (by simp)
  | cons k r ih =>
    cases i with
    | zero =>
      have hk : (k != m) = true := bne_iff_ne.2 hne
      simp [unseen, hk]
    | succ i =>
      have := ih i (by simpa using hi) (by simpa using hne)
      simp only [unseen, List.set_cons_succ, List.countP_cons] at this ⊢
      omega
structure ComeOk (n m : Nat) (x y : Wk) : Prop where
  len : y.seen.length = x.seen.length
  unseen : unseen y.seen m ≤ unseen x.seen m
  wait : y.wait.length + Go.Proofs.YtcojnkjcbopnbaaGreatDoor.unseen y.seen m ≤ x.wait.length + Go.Proofs.YtcojnkjcbopnbaaGreatDoor.unseen x.seen m
  told : y.told.length + Go.Proofs.YtcojnkjcbopnbaaGreatDoor.unseen y.seen m ≤ x.told.length + Go.Proofs.YtcojnkjcbopnbaaGreatDoor.unseen x.seen m
  below : (∀ j, j ∈ x.wait → j < n) → ∀ j, j ∈ y.wait → j < n
theorem ComeOk.refl (n m : Nat) (x : Wk) : ComeOk n m x x := ⟨rfl, Nat.le_refl _, Nat.le_refl _, Nat.le_refl _, fun h => h⟩
theorem ComeOk.trans {n m : Nat} {x y z : Wk} (h : ComeOk n m x y) (g : ComeOk n m y z) : ComeOk n m x z := ⟨g.len.trans h.len, Nat.le_trans g.unseen h.unseen, Nat.le_trans g.wait h.wait, Nat.le_trans g.told h.told, fun hx => g.below (h.below hx)⟩
theorem markOk (n i m : Nat) (x : Wk) (hi : i < x.seen.length) (hne : x.seen[i]? ≠ some m) : ComeOk n m x { x with seen := x.seen.set i m } := by
  have hne' : x.seen[i] ≠ m := fun e => hne (by rw [List.getElem?_eq_getElem hi, e])
  have h := unseen_set x.seen i m hi hne'
  exact ⟨by simp, by simp only; omega, by simp only; omega, by simp only; omega, fun h => h⟩
theorem comeN_ok (ss : List St) (size d : Nat) : ∀ (i place : Nat) (x : Wk), i < x.seen.length → (∀ s, s ∈ ss → s.nx < x.seen.length ∧ s.ot < x.seen.length) → ComeOk x.seen.length (place + 1) x (comeN ss size d i place x) := by
  induction d with
  | zero => intro i place x _ _; exact .refl _ _ _
  | succ d ih =>
    intro i place x hi hs
    unfold comeN
    split
    · exact .refl _ _ _
    · rename_i hne
      have h1 := markOk x.seen.length i (place + 1) x hi hne
      have hne' : x.seen[i] ≠ place + 1 := fun e => hne (by rw [List.getElem?_eq_getElem hi, e])
      have hu := unseen_set x.seen i (place + 1) hi hne'
      have hlen : ({ x with seen := x.seen.set i (place + 1) } : Wk).seen.length = x.seen.length := by simp
      split
      · exact .refl _ _ _
      · rename_i s hse
        have hmem : s ∈ ss := List.mem_of_getElem? hse
        have next : ∀ (j : Nat) (y : Wk), j < x.seen.length → y.seen.length = x.seen.length → ComeOk x.seen.length (place + 1) y (comeN ss size d j place y) := fun j y hj hy => by
          have := ih j place y (by omega) (by rw [hy]; exact hs)
          rwa [hy] at this
        split
        · exact ⟨by simp, by simp only; omega, by simp only; omega, by simp only [List.length_append, List.length_singleton]; omega, fun h => h⟩
        · split
          · refine ⟨by simp, by simp only; omega, by simp only [List.length_append, List.length_singleton]; omega, by simp only; omega, fun h j hj => ?_⟩
            rcases List.mem_append.1 hj with hj | hj
            · exact h j hj
            · rw [List.mem_singleton.1 hj]; exact hi
          · split
            · split
              · exact h1.trans (next _ _ (hs s hmem).1 hlen)
              · exact h1
            · split
              · split
                · exact h1.trans (next _ _ (hs s hmem).1 hlen)
                · exact h1
              · split
                · have h2 := h1.trans (next s.nx _ (hs s hmem).1 hlen)
                  exact h2.trans (next _ _ (hs s hmem).2 h2.len)
                · exact h1

/-- Blocks stay. -/
structure KeepP (P : Nat → Prop) (w w' : World) : Prop where
  os : w'.os = w.os
  tape : w'.tape = w.tape
  output : w'.output = w.output
  size : w.heap.size ≤ w'.heap.size
  block : ∀ k, P k → w'.heap[k]? = w.heap[k]?
theorem KeepP.refl (P : Nat → Prop) (w : World) : KeepP P w w := ⟨rfl, rfl, rfl, Nat.le_refl _, fun _ _ => rfl⟩
theorem KeepP.trans {P : Nat → Prop} {a b c : World} (h : KeepP P a b) (g : KeepP P b c) : KeepP P a c := ⟨g.os.trans h.os, g.tape.trans h.tape, g.output.trans h.output, Nat.le_trans h.size g.size, fun k hk => (g.block k hk).trans (h.block k hk)⟩
/-- What a call changes: blocks of its own. -/
structure Moved (O O' : Nat → Prop) (w w' : World) : Prop where
  os : w'.os = w.os
  tape : w'.tape = w.tape
  output : w'.output = w.output
  size : w.heap.size ≤ w'.heap.size
  block : ∀ k, k < w.heap.size → ¬ O k → w'.heap[k]? = w.heap[k]?
  own : ∀ k, O' k → O k ∨ w.heap.size ≤ k

def ints (l : List Nat) : List Value := l.map fun k => Value.int .i64 (k : Nat)
theorem ints_len (l : List Nat) : (ints l).length = l.length := by simp [ints]
/-- What tells. -/
structure Teller (T : List Nat → (Nat → Prop) → World → Prop) : Prop where
  lt : ∀ {l O w}, T l O w → ∀ k, O k → k < w.heap.size
  keep : ∀ {l O w w'}, T l O w → (∀ k, O k → w'.heap[k]? = w.heap[k]?) → T l O w'
/-- A walker in memory. -/
structure WkM (w : World) (P : Nat → Prop) (wk nb g cap : Nat) (fv : Value) (size : Nat) (ss : List St) (T : List Nat → (Nat → Prop) → World → Prop) (x : Wk) (wv : Value) (O : Nat → Prop) : Prop where
  row : w.heap[wk]? = some (.cells #[.slice (some ⟨g, 0, none⟩) ss.length cap, .int .i64 size, .slice (some ⟨nb, 0, none⟩) ss.length ss.length, wv, fv] 174 (0, 0))
  seen : w.heap[nb]? = some (.cells (ints x.seen).toArray 3 (0, 0))
  len : x.seen.length = ss.length
  states : w.ownsRow 0 124 7 (.slice (some ⟨g, 0, none⟩) ss.length cap) ss.length (flatS ss)
  wait : w.ownsRow 0 3 1 wv x.wait.length (ints x.wait)
  told : T x.told O w
  low : ∀ k, P k → k < w.heap.size
  pg : P g
  pw : ¬ P wk
  pn : ¬ P nb
  wn : wk ≠ nb
  ww : wv.ownBlock ≠ some wk
  wnb : wv.ownBlock ≠ some nb
  wp : ∀ k, P k → wv.ownBlock ≠ some k
  ow : ¬ O wk
  on : ¬ O nb
  oo : ∀ k, wv.ownBlock = some k → ¬ O k
  op : ∀ k, P k → ¬ O k

variable {w : World} {P : Nat → Prop} {wk nb g cap : Nat} {fv : Value} {size : Nat} {ss : List St} {T : List Nat → (Nat → Prop) → World → Prop} {x : Wk} {wv : Value} {O : Nat → Prop}

theorem WkM.after (hT : Teller T) (h : WkM w P wk nb g cap fv size ss T x wv O) {w' : World} (hb : Below w.heap.size w w') : WkM w' P wk nb g cap fv size ss T x wv O :=
  { h with
    row := by rw [hb.block _ (Array.getElem?_eq_some_iff.1 h.row).1]; exact h.row
    seen := by rw [hb.block _ (Array.getElem?_eq_some_iff.1 h.seen).1]; exact h.seen
    states := h.states.kept (row := none) ⟨hb.os, hb.tape, hb.output, hb.size, fun k hk _ => hb.block k hk⟩ (Or.inr (by simp [Value.ownBlock]))
    wait := h.wait.kept (row := none) ⟨hb.os, hb.tape, hb.output, hb.size, fun k hk _ => hb.block k hk⟩ (by cases wv.ownBlock <;> simp)
    told := hT.keep h.told fun k hk => hb.block k (hT.lt h.told k hk)
    low := fun k hk => Nat.lt_of_lt_of_le (h.low k hk) hb.size }
theorem WkM.keepAfter (h : WkM w P wk nb g cap fv size ss T x wv O) {w' : World} (hb : Below w.heap.size w w') : KeepP P w w' := ⟨hb.os, hb.tape, hb.output, hb.size, fun k hk => hb.block k (h.low k hk)⟩
theorem WkM.seenCell (h : WkM w P wk nb g cap fv size ss T x wv O) (i : Nat) (hi : i < ss.length) : w.cell? ⟨nb, i, none⟩ = some (.int .i64 (x.seen[i]'(by rw [h.len]; exact hi) : Nat)) := by
  rw [cell_of_row _ _ i _ _ _ h.seen]
  have : i < x.seen.length := by rw [h.len]; exact hi
  simp [ints, this]
theorem WkM.cells (h : WkM w P wk nb g cap fv size ss T x wv O) : w.cell? ⟨wk, 0, none⟩ = some (.slice (some ⟨g, 0, none⟩) ss.length cap) ∧ w.cell? ⟨wk, 1, none⟩ = some (.int .i64 size) ∧ w.cell? ⟨wk, 2, none⟩ = some (.slice (some ⟨nb, 0, none⟩) ss.length ss.length) ∧ w.cell? ⟨wk, 3, none⟩ = some wv ∧ w.cell? ⟨wk, 4, none⟩ = some fv :=
  ⟨cell_of_row _ _ 0 _ _ _ h.row, cell_of_row _ _ 1 _ _ _ h.row, cell_of_row _ _ 2 _ _ _ h.row, cell_of_row _ _ 3 _ _ _ h.row, cell_of_row _ _ 4 _ _ _ h.row⟩
theorem WkM.z (h : WkM w P wk nb g cap fv size ss T x wv O) (j : Nat) : w.frozen? ⟨wk, j, none⟩ = false := frozen_of_row _ _ j _ _ h.row
theorem WkM.zn (h : WkM w P wk nb g cap fv size ss T x wv O) (j : Nat) : w.frozen? ⟨nb, j, none⟩ = false := frozen_of_row _ _ j _ _ h.seen
theorem WkM.stCells (h : WkM w P wk nb g cap fv size ss T x wv O) (i : Nat) (hi : i < ss.length) :
    w.cell? ⟨g, i * 7, none⟩ = some (.int .i64 ss[i].k) ∧ w.cell? ⟨g, i * 7 + 1, none⟩ = some (.int .u64 (ss[i].f 0)) ∧ w.cell? ⟨g, i * 7 + 2, none⟩ = some (.int .u64 (ss[i].f 1)) ∧ w.cell? ⟨g, i * 7 + 3, none⟩ = some (.int .u64 (ss[i].f 2)) ∧ w.cell? ⟨g, i * 7 + 4, none⟩ = some (.int .u64 (ss[i].f 3)) ∧ w.cell? ⟨g, i * 7 + 5, none⟩ = some (.int .i64 ss[i].nx) ∧ w.cell? ⟨g, i * 7 + 6, none⟩ = some (.int .i64 ss[i].ot) := by
  have hc : ∀ j, j < 7 → w.cell? ⟨g, i * 7 + j, none⟩ = (stC ss[i])[j]? := fun j hj => by rw [h.states.cellAt (i * 7 + j) (by omega)]; exact flatS_get ss i hi j hj
  exact ⟨hc 0 (by omega), hc 1 (by omega), hc 2 (by omega), hc 3 (by omega), hc 4 (by omega), hc 5 (by omega), hc 6 (by omega)⟩
/-- A state marked. -/
theorem WkM.mark (hT : Teller T) (h : WkM w P wk nb g cap fv size ss T x wv O) (i m : Nat) : WkM (w.setCell ⟨nb, i, none⟩ (.int .i64 m)) P wk nb g cap fv size ss T { x with seen := x.seen.set i m } wv O := by
  have ot : ∀ k, k ≠ nb → (w.setCell ⟨nb, i, none⟩ (.int .i64 m)).heap[k]? = w.heap[k]? := fun k hk => heap_setCell_other w ⟨nb, i, none⟩ k _ hk
  refine { h with row := ?_, seen := ?_, len := ?_, states := ?_, wait := ?_, told := ?_, low := ?_ }
  · rw [ot wk h.wn]; exact h.row
  · rw [heap_setCell_same w nb i _ _ _ h.seen]
    simp only [ints, List.map_set]
    congr 2
    simp
  · simp only [List.length_set]; exact h.len
  · exact ownsRow_setCell_other h.states (a := ⟨nb, i, none⟩) (by simp only [Value.ownBlock]; intro e; cases e; exact h.pn h.pg) _
  · exact ownsRow_setCell_other h.wait (a := ⟨nb, i, none⟩) h.wnb _
  · exact hT.keep h.told fun k hk => ot k (fun e => h.on (e ▸ hk))
  · intro k hk; have := h.low k hk; simpa using this
theorem WkM.keepMark (h : WkM w P wk nb g cap fv size ss T x wv O) (i : Nat) (v : Value) : KeepP P w (w.setCell ⟨nb, i, none⟩ v) :=
  ⟨rfl, rfl, rfl, by simp, fun k hk => heap_setCell_other w ⟨nb, i, none⟩ k _ (fun e => by have e' : k = nb := e; exact h.pn (e' ▸ hk))⟩
/-- A place told. -/
theorem WkM.tell (h : WkM w P wk nb g cap fv size ss T x wv O) {w' : World} {O' : Nat → Prop} {l : List Nat} (hm : Moved O O' w w') (ht : T l O' w') : WkM w' P wk nb g cap fv size ss T { x with told := l } wv O' := by
  have hwk := (Array.getElem?_eq_some_iff.1 h.row).1
  have hnb := (Array.getElem?_eq_some_iff.1 h.seen).1
  have no : ∀ k, k < w.heap.size → ¬ O k → ¬ O' k := fun k hk hn e => by
    rcases hm.own k e with e | e
    · exact hn e
    · omega
  have kept : ∀ {e : TypeId} {sz : Nat} {v : Value} {n : Nat} {xs : List Value}, w.ownsRow 0 e sz v n xs → (∀ k, v.ownBlock = some k → ¬ O k) → w'.ownsRow 0 e sz v n xs := by
    intro e sz v n xs hr hn
    refine ⟨hr.1, ?_⟩
    rcases hr.2 with h0 | ⟨g', cap', cur, rfl, hb, hg, rest⟩
    · exact Or.inl h0
    · exact Or.inr ⟨g', cap', cur, rfl, hb, by rw [hm.block g' (Array.getElem?_eq_some_iff.1 hg).1 (hn g' rfl)]; exact hg, rest⟩
  exact { h with
    row := by rw [hm.block wk hwk h.ow]; exact h.row
    seen := by rw [hm.block nb hnb h.on]; exact h.seen
    states := kept h.states (fun k hk => by simp [Value.ownBlock] at hk; subst hk; exact h.op _ h.pg)
    wait := kept h.wait h.oo
    told := ht
    low := fun k hk => Nat.lt_of_lt_of_le (h.low k hk) hm.size
    ow := no _ hwk h.ow
    on := no _ hnb h.on
    oo := fun k hk => no k (h.wait.lt k hk).2 (h.oo k hk)
    op := fun k hk => no k (h.low k hk) (h.op k hk) }
theorem WkM.keepTell (h : WkM w P wk nb g cap fv size ss T x wv O) {w' : World} {O' : Nat → Prop} (hm : Moved O O' w w') : KeepP P w w' := ⟨hm.os, hm.tape, hm.output, hm.size, fun k hk => hm.block k (h.low k hk) (h.op k hk)⟩
/-- A state that waits. -/
theorem WkM.push (hT : Teller T) (h : WkM w P wk nb g cap fv size ss T x wv O) {w1 w2 : World} {v' : Value} {l : List Nat} (hb : Below w.heap.size w w1) (hg : w1.grownBy w2 wv.ownBlock) (ho : w2.ownsRow 0 3 1 v' l.length (ints l))
    (ha : v'.ownBlock = wv.ownBlock ∨ ∃ k, v'.ownBlock = some k ∧ w.heap.size ≤ k) :
    WkM (w2.setCell ⟨wk, 3, none⟩ v') P wk nb g cap fv size ss T { x with wait := l } v' O ∧ KeepP P w (w2.setCell ⟨wk, 3, none⟩ v') := by
  have hwk := (Array.getElem?_eq_some_iff.1 h.row).1
  have hnb := (Array.getElem?_eq_some_iff.1 h.seen).1
  have old : ∀ k, k < w.heap.size → wv.ownBlock ≠ some k → w2.heap[k]? = w.heap[k]? := fun k hk hn => (hg.block k (by have := hb.size; omega) (fun e => hn e.symm)).trans (hb.block k hk)
  have ot : ∀ k, k ≠ wk → (w2.setCell ⟨wk, 3, none⟩ v').heap[k]? = w2.heap[k]? := fun k hk => heap_setCell_other w2 ⟨wk, 3, none⟩ k _ hk
  have ne : ∀ k, k < w.heap.size → wv.ownBlock ≠ some k → v'.ownBlock ≠ some k := fun k hk hn e => by
    rcases ha with e' | ⟨j, e', hj⟩
    · exact hn (e' ▸ e)
    · rw [e'] at e
      have : j = k := by simpa using e
      omega
  have h1 : w2.heap[wk]? = some (.cells #[.slice (some ⟨g, 0, none⟩) ss.length cap, .int .i64 size, .slice (some ⟨nb, 0, none⟩) ss.length ss.length, wv, fv] 174 (0, 0)) := by rw [old wk hwk h.ww]; exact h.row
  have hsz : w.heap.size ≤ w2.heap.size := Nat.le_trans hb.size hg.size
  constructor
  · refine { h with row := ?_, seen := ?_, states := ?_, wait := ?_, told := ?_, low := ?_, ww := ne _ hwk h.ww, wnb := ne _ hnb h.wnb, wp := fun k hk => ne k (h.low k hk) (h.wp k hk), oo := ?_ }
    · rw [heap_setCell_same w2 wk 3 _ _ _ h1]; rfl
    · rw [ot nb (fun e => h.wn e.symm), old nb hnb h.wnb]; exact h.seen
    · refine ownsRow_setCell_other (a := ⟨wk, 3, none⟩) ?_ (by simp only [Value.ownBlock]; intro e; cases e; exact h.pw h.pg) _
      refine ⟨h.states.1, ?_⟩
      rcases h.states.2 with h0 | ⟨g', cap', cur, e, hb', hg', rest⟩
      · exact Or.inl h0
      · refine Or.inr ⟨g', cap', cur, e, hb', ?_, rest⟩
        simp only [Value.slice.injEq, Option.some.injEq, Addr.mk.injEq, and_true, true_and] at e
        obtain ⟨rfl, _⟩ := e
        rw [old g (h.low g h.pg) (h.wp g h.pg)]; exact hg'
    · exact ownsRow_setCell_other ho (a := ⟨wk, 3, none⟩) (ne _ hwk h.ww) _
    · exact hT.keep h.told fun k hk => by
        rw [ot k (fun e => h.ow (e ▸ hk)), old k (hT.lt h.told k hk) (fun e => h.oo k e hk)]
    · intro k hk; have := h.low k hk; simp; omega
    · intro k hk hO
      rcases ha with e' | ⟨j, e', hj⟩
      · exact h.oo k (e' ▸ hk) hO
      · rw [e'] at hk
        have : j = k := by simpa using hk
        have := hT.lt h.told k hO
        omega
  · refine ⟨hg.os.trans hb.os, hg.tape.trans hb.tape, hg.output.trans hb.output, by simpa using hsz, fun k hk => ?_⟩
    rw [ot k (fun e => h.pw (e ▸ hk)), old k (h.low k hk) (h.wp k hk)]
/-- One block more that stays. -/
def AndP (P : Nat → Prop) (b : Nat) : Nat → Prop := fun k => P k ∨ k = b
theorem WkM.more (hT : Teller T) (h : WkM w P wk nb g cap fv size ss T x wv O) {w' : World} (hb : Below w.heap.size w w') {b : Nat} (h1 : w.heap.size ≤ b) (h2 : b < w'.heap.size) : WkM w' (AndP P b) wk nb g cap fv size ss T x wv O := by
  have h' := h.after hT hb
  have hwk := (Array.getElem?_eq_some_iff.1 h.row).1
  have hnb := (Array.getElem?_eq_some_iff.1 h.seen).1
  refine { h' with low := ?_, pg := Or.inl h'.pg, pw := ?_, pn := ?_, wp := ?_, op := ?_ }
  · rintro k (hk | rfl)
    · exact h'.low k hk
    · exact h2
  · rintro (hk | e)
    · exact h'.pw hk
    · omega
  · rintro (hk | e)
    · exact h'.pn hk
    · omega
  · rintro k (hk | rfl)
    · exact h'.wp k hk
    · intro e; have := (h.wait.lt _ e).2; omega
  · rintro k (hk | rfl)
    · exact h'.op k hk
    · intro e; have := hT.lt h.told _ e; omega
theorem WkM.less {b : Nat} (h : WkM w (AndP P b) wk nb g cap fv size ss T x wv O) (hg : P g) : WkM w P wk nb g cap fv size ss T x wv O :=
  { h with low := fun k hk => h.low k (Or.inl hk), pg := hg, pw := fun hk => h.pw (Or.inl hk), pn := fun hk => h.pn (Or.inl hk), wp := fun k hk => h.wp k (Or.inl hk), op := fun k hk => h.op k (Or.inl hk) }
theorem KeepP.less {b : Nat} {a c : World} (h : KeepP (AndP P b) a c) : KeepP P a c := ⟨h.os, h.tape, h.output, h.size, fun k hk => h.block k (Or.inl hk)⟩
theorem ints_snoc (l : List Nat) (i : Nat) : ints (l ++ [i]) = ints l ++ [.int .i64 (i : Nat)] := by simp [ints]
theorem info_int3 : (Tryz.prog.info? 3).map (fun i => (i.zero, i.size, i.bytes)) = some (some (.int .i64 0), 1, 8) := by kernel_rfl
end Go.Proofs.YtcojnkjcbopnbaaGreatDoor

/- (*nfa.Prog).put: a walk. -/
namespace Go.Proofs.YtcojnkjcbopnbaaGreatDoor
open Go.RowKit

/-- What laying leaves. -/
def Laid (w : World) (p : Nat) (sv : Value) (st : Int) (r : Nat × List St) (e : Ending) (w' : World) : Prop :=
  ∃ sv', e = .returned (.int .i64 r.1) ∧ Mch w' p r.2 sv' st ∧ Turn p sv w w' sv'

theorem below_drew_new (V : World) (o : Obj) : Below V.heap.size V (V.drew.alloc o) := (below_drew V).alloc (Nat.le_refl _) o
theorem push_c0 {V w1 : World} {o : Obj} {p : Nat} {ss : List St} {sv : Value} {st : Int} (h : Mch V p ss sv st) (hg : (V.drew.alloc o).grownBy w1 sv.ownBlock) : w1.cell? ⟨p, 0, none⟩ = some sv := by
  have h1 := h.after (below_drew_new V o)
  exact (hg.cell_far ⟨p, 0, none⟩ h1.lt (fun e => h.notP e.symm)).trans h1.c0
theorem push_z0 {V w1 : World} {o : Obj} {p : Nat} {ss : List St} {sv : Value} {st : Int} (h : Mch V p ss sv st) (hg : (V.drew.alloc o).grownBy w1 sv.ownBlock) : w1.frozen? ⟨p, 0, none⟩ = false := by
  have h1 := h.after (below_drew_new V o)
  exact (hg.frozen_far ⟨p, 0, none⟩ h1.lt (fun e => h.notP e.symm)).trans (h1.z 0)

set_option maxRecDepth 100000 in
theorem put_spec (p : Nat) (ss : List St) (sv : Value) (st : Int) (s : St) (w : World) (h : Mch w p ss sv st) (hlen : ss.length ≤ 1000000000) :
    Calls Tryz.prog 69 #[.pointer (some ⟨p, 0, none⟩), .agg (stC s)] w (Laid w p sv st (ss.length, ss ++ [s])) := by
  obtain ⟨i0, hi0', hz0, hz1, hz2⟩ := info_parts info_state3
  obtain ⟨V, hV⟩ : ∃ V, V = w.alloc (.cells (stC s) 124) := ⟨_, rfl⟩
  have B1 : Below w.heap.size w V := by rw [hV]; exact below_new _ _
  have HV1 := Lib.hid (h.after B1)
  have HB := Lib.hid B1
  have R1 : Hid (V.heap[w.heap.size]? = some (.cells (stC s) 124 (0, 0))) := Lib.hid (by rw [hV]; exact heap_alloc_last _ _)
  have HM := Lib.hid h
  have hplt := h.lt
  have hpv : p < V.heap.size := by have := B1.size; omega
  have hbv : w.heap.size < V.heap.size := by rw [hV, World.size_alloc]; omega
  have hone := Lib.hid (stC_one s)
  go_enter Tryz.func69, Tryz.ntmps69
  go_upto_region 1 with (fail)
  rw [← hV]
  clear hV B1 h
  have c0 := HV1.out.c0
  have r0 : V.cell? ⟨w.heap.size, 0, none⟩ = some (.int .i64 s.k) := cell_of_row _ _ 0 _ _ _ R1.out
  have r1 : V.cell? ⟨w.heap.size, 1, none⟩ = some (.int .u64 (s.f 0)) := cell_of_row _ _ 1 _ _ _ R1.out
  have r2 : V.cell? ⟨w.heap.size, 2, none⟩ = some (.int .u64 (s.f 1)) := cell_of_row _ _ 2 _ _ _ R1.out
  have r3 : V.cell? ⟨w.heap.size, 3, none⟩ = some (.int .u64 (s.f 2)) := cell_of_row _ _ 3 _ _ _ R1.out
  have r4 : V.cell? ⟨w.heap.size, 4, none⟩ = some (.int .u64 (s.f 3)) := cell_of_row _ _ 4 _ _ _ R1.out
  have r5 : V.cell? ⟨w.heap.size, 5, none⟩ = some (.int .i64 s.nx) := cell_of_row _ _ 5 _ _ _ R1.out
  have r6 : V.cell? ⟨w.heap.size, 6, none⟩ = some (.int .i64 s.ot) := cell_of_row _ _ 6 _ _ _ R1.out
  go_region_law ((refine step_append_lies _ rfl (.tmp 9) (.tmp 11) 85 rfl (p + 1) 124 i0 (.agg #[.int .i64 0, .int .u64 0, .int .u64 0, .int .u64 0, .int .u64 0, .int .i64 0, .int .i64 0]) 7 56 Tryz.underlying85 hi0' hz0 hz1 hz2 rfl (by decide) sv ss.length (flatS ss) (by simp [Act.eval]) (World.ownsRow.alloc (World.ownsRow.drew HV1.out.own) _) ⟨V.heap.size, 0, none⟩ 1 1 (stC s).toList (by simp [Act.eval]) rfl (World.news_of_block (heap_alloc_last V.drew (.cells (stC s) 124))) hone.out (by decide) (by unfold maxLen; omega) (by omega) (by simp; omega) _ rfl ?_; intro g cap w1 hown hgrow hat hlt; have d0 := push_c0 HV1.out hgrow; have dz := push_z0 HV1.out hgrow))
  all_goals
    go_wp2_with fail
    go_ret
    refine ⟨.slice (some ⟨g, 0, none⟩) (ss.length + 1) cap, rfl, ?_⟩
    have hg : (V.drew.alloc (.cells (stC s) 124)).grownBy w1 sv.ownBlock := hgrow
    have hsz : (V.drew.alloc (.cells (stC s) 124)).heap.size = V.heap.size + 1 := World.size_alloc _ _
    exact HM.out.push (Below.step HB.out (below_drew_new V _)) hg hown (by
      rcases hat with e | e
      · exact Or.inl e.symm
      · refine Or.inr ⟨g, rfl, ?_⟩
        have e' : g = (V.drew.alloc (.cells (stC s) 124)).heap.size := e
        omega)
end Go.Proofs.YtcojnkjcbopnbaaGreatDoor

/- ere.isOf, ere.areTimes: walks. -/
namespace Go.Proofs.YtcojnkjcbopnbaaGreatDoor
open Go.RowKit

/-- A row of numbers. -/
def intC (ks : List Int) : Array Value := (ks.map fun k => Value.int .i64 k).toArray
/-- Numbers in a slice: none, or those of a block. -/
def IntsAt (w : World) (v : Value) (ks : List Int) : Prop :=
  (ks = [] ∧ v = .slice none 0 0) ∨ (∃ b c, v = .slice (some ⟨b, 0, none⟩) ks.length c ∧ ks.length ≤ 100 ∧ w.heap[b]? = some (.cells (intC ks) 3 (0, 0)))
theorem IntsAt.keep {w w' : World} {v : Value} {ks : List Int} (h : IntsAt w v ks) (e : ∀ (k : Nat) (c : Array Value), w.heap[k]? = some (.cells c 3 (0, 0)) → w'.heap[k]? = w.heap[k]?) : IntsAt w' v ks := by
  rcases h with h | ⟨b, c, rfl, hl, hc⟩
  · exact Or.inl h
  · exact Or.inr ⟨b, c, rfl, hl, (e b _ hc).trans hc⟩
theorem IntsAt.after {w w' : World} {v : Value} {ks : List Int} (h : IntsAt w v ks) (hb : Below w.heap.size w w') : IntsAt w' v ks := h.keep fun k _ hk => hb.block k (Array.getElem?_eq_some_iff.1 hk).1
theorem ints_none (w : World) : IntsAt w (.slice none 0 0) [] := Or.inl ⟨rfl, rfl⟩

/-- Whether a number is one of them. -/
def among (ks : List Int) (k : Int) : Bool := ks.contains k
theorem contains_spec (v : Value) (ks : List Int) (x : Int) (w : World) (h : IntsAt w v ks) :
    Calls Tryz.prog 130 #[v, .int .i64 x] w fun e w' => e = .returned (.bool (among ks x)) ∧ w' = w := by
  rcases h with ⟨rfl, rfl⟩ | ⟨b, c, rfl, hl, hc⟩
  · exact Tryz.slices_Contains_int_empty _ _ _ _
  · have h := Tryz.slices_Contains_int b 0 ks.length c ks x w (Nat.le_refl _) (by omega) (fun j hj => by
      rw [Nat.zero_add, cell_of_row _ _ j _ _ _ hc]
      simp [intC, hj, List.getD])
    rw [List.take_length] at h
    exact h

set_option maxRecDepth 100000 in
theorem isOf_spec (k : Int) (f : Nat → Nat) (lo hi : Int) (sl v : Value) (ks : List Int) (w : World) (h : IntsAt w v ks) :
    Calls Tryz.prog 116 #[.agg (reC k f lo hi sl), v] w fun e w' => e = .returned (.bool (among ks k)) ∧ Below w.heap.size w w' := by
  go_enter Tryz.func116, Tryz.ntmps116
  go_upto_region 1 with (fail)
  obtain ⟨W, hW, hX, hB, _⟩ := re_box w (reC k f lo hi sl)
  rw [← hW]
  clear hW
  have c0 := (eight_re hX.out.eight).1
  have H := Lib.hid (contains_spec v ks k W (h.after hB.out))
  clear h
  go_wp2_with fail
  refine H.out.mono ?_
  rintro e w1 ⟨rfl, rfl⟩
  go_wp2_with fail
  go_ret
  exact ⟨rfl, hB.out⟩

theorem areTimes_spec (lo hi : Int) (h0 : 0 ≤ lo) (h1 : lo ≤ 50) (h : hi = -1 ∨ (lo ≤ hi ∧ hi ≤ 50)) (w : World) :
    Calls Tryz.prog 132 #[.int .i64 lo, .int .i64 hi] w fun e w' => e = .returned (.bool true) ∧ w' = w := by
  rcases h with rfl | ⟨h2, h3⟩
  · go_enter Tryz.func132, Tryz.ntmps132
    go_wp2_with fail
    go_ret
    exact ⟨rfl, rfl⟩
  · have hn : (hi == -1) = false := by simp; omega
    go_enter Tryz.func132, Tryz.ntmps132
    go_wp2_with fail
    go_ret
    exact ⟨rfl, rfl⟩
end Go.Proofs.YtcojnkjcbopnbaaGreatDoor
