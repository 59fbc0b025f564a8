/- How a text is walked: plain Lean, and a walker's rows that are changed about. -/
import Derived.Test.YtbojoiacedhjiaaComeT
import Derived.Test.YtbojoiacedhjiaaHas
import Derived.Test.YtbojoiacedhjiaaFlat
namespace Go.Proofs.Ytbojoiacedhjiaa
open Go.RowKit

def byteN (s : ByteArray) (k : Nat) : Nat := if h : k < s.size then s[k].toNat else 0
theorem byteN_lt (s : ByteArray) (k : Nat) : byteN s k < 256 := by
  unfold byteN
  split
  · exact (s[k]).toNat_lt
  · omega
/-- One state that waited: if the byte is in its set, its next is come to. -/
def oneN (ss : List St) (size c place : Nat) (x : Wk) (i : Nat) : Wk :=
  match ss[i]? with
  | none => x
  | some s => if bit s.f c = true then comeN ss size ss.length s.nx (place + 1) x else x
def stepN (ss : List St) (size c place : Nat) (l : List Nat) (x : Wk) : Wk := l.foldl (oneN ss size c place) x
def clearN (x : Wk) : Wk := { x with wait := [] }
def walkN (ss : List St) (s : ByteArray) : Nat → Nat → Wk → Wk
  | 0, _, x => x
  | d + 1, place, x => if x.wait = [] then x else walkN ss s d (place + 1) (stepN ss s.size (byteN s place) place x.wait (clearN x))
def beginWk (ss : List St) : Wk := ⟨List.replicate ss.length 0, [], []⟩
/-- All places to which a machine goes. -/
def toldN (ss : List St) (start : Nat) (s : ByteArray) (at_ : Nat) : List Nat := (walkN ss s (s.size - at_) at_ (comeN ss s.size ss.length start at_ (beginWk ss))).told

/-- What holds of a machine. -/
structure SsOk (ss : List St) : Prop where
  pos : 0 < ss.length
  few : ss.length ≤ 1000
  next : ∀ s, s ∈ ss → s.nx < ss.length ∧ s.ot < ss.length
  fits : ∀ s, s ∈ ss → Fits s.f
/-- What holds of a walker between two bytes. -/
structure WkOk (ss : List St) (x : Wk) (b : Nat) : Prop where
  len : x.seen.length = ss.length
  wait : ∀ j, j ∈ x.wait → j < ss.length
  few : x.wait.length ≤ 2000
  told : x.told.length ≤ b
theorem wkOk_begin (ss : List St) : WkOk ss (beginWk ss) 0 := ⟨by simp [beginWk], (fun j hj => by cases hj), by show (0 : Nat) ≤ 2000; omega, Nat.le_refl _⟩
theorem WkOk.come {ss : List St} {x : Wk} {b : Nat} (hs : SsOk ss) (h : WkOk ss x b) (hw : x.wait.length = 0) (size i place : Nat) (hi : i < ss.length) : WkOk ss (comeN ss size ss.length i place x) (b + 1000) := by
  have hc := comeN_ok ss size ss.length i place x (by rw [h.len]; exact hi) (fun s hm => by rw [h.len]; exact hs.next s hm)
  have hu := unseen_le x.seen (place + 1)
  have h1 := hs.few
  have h2 := h.len
  have h3 := h.told
  exact ⟨hc.len.trans h.len, fun j hj => by have := hc.below (fun j hj => by rw [h.len]; exact h.wait j hj) j hj; omega, by have := hc.wait; omega, by have := hc.told; omega⟩
/-- What holds of a walker within a step. -/
structure InOk (ss : List St) (x : Wk) (b m : Nat) : Prop where
  len : x.seen.length = ss.length
  below : ∀ j, j ∈ x.wait → j < ss.length
  wait : x.wait.length + unseen x.seen m ≤ 1000
  told : x.told.length + unseen x.seen m ≤ b + 1000
theorem InOk.clear {ss : List St} {x : Wk} {b : Nat} (hs : SsOk ss) (h : WkOk ss x b) (m : Nat) : InOk ss (clearN x) b m := by
  have hu := unseen_le x.seen m
  have h1 := hs.few
  have h2 := h.len
  have h3 := h.told
  exact ⟨h.len, (fun j hj => by cases hj), by show 0 + unseen x.seen m ≤ 1000; omega, by show x.told.length + unseen x.seen m ≤ _; omega⟩
theorem InOk.one {ss : List St} {x : Wk} {b place : Nat} (hs : SsOk ss) (h : InOk ss x b (place + 1 + 1)) (size c i : Nat) : InOk ss (oneN ss size c place x i) b (place + 1 + 1) := by
  unfold oneN
  split
  · exact h
  · rename_i s hse
    split
    · have hm := List.mem_of_getElem? hse
      have hc := comeN_ok ss size ss.length s.nx (place + 1) x (by rw [h.len]; exact (hs.next s hm).1) (fun s hm => by rw [h.len]; exact hs.next s hm)
      exact ⟨hc.len.trans h.len, fun j hj => by have := hc.below (fun j hj => by rw [h.len]; exact h.below j hj) j hj; have := h.len; omega, Nat.le_trans hc.wait h.wait, Nat.le_trans hc.told h.told⟩
    · exact h
theorem InOk.out {ss : List St} {x : Wk} {b m : Nat} (h : InOk ss x b m) : WkOk ss x (b + 1000) := ⟨h.len, h.below, by have := h.wait; omega, by have := h.told; omega⟩

/-- The row that was walked through last, or none. -/
structure NowOk (w : World) (P O : Nat → Prop) (wk nb : Nat) (wv nv : Value) : Prop where
  row : ∃ n xs, w.ownsRow 0 3 1 nv n xs
  nwk : nv.ownBlock ≠ some wk
  nnb : nv.ownBlock ≠ some nb
  nwv : ∀ k, nv.ownBlock = some k → wv.ownBlock ≠ some k
  np : ∀ k, P k → nv.ownBlock ≠ some k
  no : ∀ k, nv.ownBlock = some k → ¬ O k
/-- A slice cut to nothing. -/
def cutV : Value → Value
  | .slice a _ c => .slice a 0 c
  | v => v
theorem cutV_own (v : Value) : (cutV v).ownBlock = v.ownBlock := by
  cases v with
  | slice a n c => cases a <;> rfl
  | _ => rfl
theorem owns_cut {w : World} {v : Value} {n : Nat} {xs : List Value} (h : w.ownsRow 0 3 1 v n xs) : w.ownsRow 0 3 1 (cutV v) 0 [] := by
  refine ⟨rfl, ?_⟩
  rcases h.2 with ⟨rfl, _⟩ | ⟨g, cap, cur, rfl, hb, hg, _, hc, hs, _⟩
  · exact Or.inl ⟨rfl, rfl⟩
  · exact Or.inr ⟨g, cap, cur, rfl, hb, hg, Nat.zero_le _, hc, hs, by simp⟩
theorem owns_shape {w : World} {e : TypeId} {v : Value} {n : Nat} {xs : List Value} (h : w.ownsRow 0 e 1 v n xs) : v = .slice none 0 0 ∨ ∃ g cap, v = .slice (some ⟨g, 0, none⟩) n cap ∧ n ≤ cap := by
  rcases h.2 with ⟨rfl, _⟩ | ⟨g, cap, cur, rfl, _, _, h1, _⟩
  · exact Or.inl rfl
  · exact Or.inr ⟨g, cap, rfl, h1⟩

variable {w : World} {P : Nat → Prop} {wk nb g cap : Nat} {fv : Value} {size : Nat} {ss : List St} {T : List Nat → (Nat → Prop) → World → Prop} {x : Wk} {wv nv : Value} {O : Nat → Prop}

/-- Those blocks, and the row that is being walked through. -/
def OrRow (P : Nat → Prop) (v : Value) : Nat → Prop := fun k => P k ∨ v.ownBlock = some k
/-- The rows changed about: what waited is walked through, what was walked through last is written anew. -/
theorem WkM.swap (hT : Teller T) (h : WkM w P wk nb g cap fv size ss T x wv O) (hn : NowOk w P O wk nb wv nv) :
    WkM (w.setCell ⟨wk, 3, none⟩ (cutV nv)) (OrRow P wv) wk nb g cap fv size ss T (clearN x) (cutV nv) O ∧ KeepP P w (w.setCell ⟨wk, 3, none⟩ (cutV nv)) := by
  have ot : ∀ k, k ≠ wk → (w.setCell ⟨wk, 3, none⟩ (cutV nv)).heap[k]? = w.heap[k]? := fun k hk => heap_setCell_other w ⟨wk, 3, none⟩ k _ hk
  obtain ⟨n, xs, hrow⟩ := hn.row
  constructor
  · refine { h with row := ?_, seen := ?_, states := ?_, wait := ?_, told := ?_, low := ?_, pg := Or.inl h.pg, pw := ?_, pn := ?_, ww := by rw [cutV_own]; exact hn.nwk, wnb := by rw [cutV_own]; exact hn.nnb, wp := ?_, oo := fun k hk => hn.no k (by rwa [cutV_own] at hk), op := ?_ }
    · rw [heap_setCell_same w wk 3 _ _ _ h.row]; rfl
    · rw [ot nb (fun e => h.wn e.symm)]; exact h.seen
    · exact ownsRow_setCell_other h.states (a := ⟨wk, 3, none⟩) (by simp only [Value.ownBlock]; intro e; cases e; exact h.pw h.pg) _
    · exact ownsRow_setCell_other (owns_cut hrow) (a := ⟨wk, 3, none⟩) (by rw [cutV_own]; exact hn.nwk) _
    · exact hT.keep h.told fun k hk => ot k (fun e => h.ow (e ▸ hk))
    · rintro k (hk | hk)
      · have := h.low k hk; simpa using this
      · have := (h.wait.lt k hk).2; simpa using this
    · rintro (hk | hk)
      · exact h.pw hk
      · exact h.ww hk
    · rintro (hk | hk)
      · exact h.pn hk
      · exact h.wnb hk
    · rintro k (hk | hk)
      · rw [cutV_own]; exact hn.np k hk
      · rw [cutV_own]; exact fun e => hn.nwv k e hk
    · rintro k (hk | hk)
      · exact h.op k hk
      · exact h.oo k hk
  · exact ⟨rfl, rfl, rfl, by simp, fun k hk => ot k (fun e => h.pw (e ▸ hk))⟩
/-- What was walked through is the row walked through last. -/
theorem WkM.back {wv' : Value} {l : List Nat} (h : WkM w (OrRow P wv) wk nb g cap fv size ss T x wv' O) (hp : P g) (hr : w.ownsRow 0 3 1 wv l.length (ints l)) (hwk : wv.ownBlock ≠ some wk) (hnb : wv.ownBlock ≠ some nb) (hpn : ∀ k, P k → wv.ownBlock ≠ some k) :
    WkM w P wk nb g cap fv size ss T x wv' O ∧ NowOk w P O wk nb wv' wv :=
  ⟨{ h with low := fun k hk => h.low k (Or.inl hk), pg := hp, pw := fun hk => h.pw (Or.inl hk), pn := fun hk => h.pn (Or.inl hk), wp := fun k hk => h.wp k (Or.inl hk), op := fun k hk => h.op k (Or.inl hk) },
    ⟨⟨_, _, hr⟩, hwk, hnb, fun k hk => h.wp k (Or.inr hk), hpn, fun k hk => h.op k (Or.inr hk)⟩⟩
theorem KeepP.ofRow {a c : World} {v : Value} (h : KeepP (OrRow P v) a c) : KeepP P a c := ⟨h.os, h.tape, h.output, h.size, fun k hk => h.block k (Or.inl hk)⟩
/-- A row that stays. -/
theorem owns_keep {a c : World} {v : Value} {n : Nat} {xs : List Value} (h : KeepP (OrRow P v) a c) (hr : a.ownsRow 0 3 1 v n xs) : c.ownsRow 0 3 1 v n xs := by
  refine ⟨hr.1, ?_⟩
  rcases hr.2 with h0 | ⟨g', cap', cur, rfl, hb, hg, rest⟩
  · exact Or.inl h0
  · exact Or.inr ⟨g', cap', cur, rfl, hb, by rw [h.block g' (Or.inr rfl)]; exact hg, rest⟩
theorem walkN_stop (ss : List St) (s : ByteArray) (d place : Nat) (x : Wk) (h : x.wait = []) : walkN ss s d place x = x := by
  cases d with
  | zero => rfl
  | succ d => unfold walkN; rw [if_pos h]
theorem walkN_go (ss : List St) (s : ByteArray) (j : Nat) (x : Wk) (h : x.wait ≠ []) (hj : j < s.size) : walkN ss s (s.size - j) j x = walkN ss s (s.size - (j + 1)) (j + 1) (stepN ss s.size (byteN s j) j x.wait (clearN x)) := by
  rw [show s.size - j = (s.size - (j + 1)) + 1 by omega]
  conv => lhs; unfold walkN
  rw [if_neg h]
theorem WkM.moved {w0 : World} {O0 : Nat → Prop} (h : WkM w P wk nb g cap fv size ss T x wv O) (hP : P = fun k => k < w0.heap.size ∧ ¬ O0 k) (hk : KeepP P w0 w) : Moved O0 O w0 w := by
  refine ⟨hk.os, hk.tape, hk.output, hk.size, fun k h1 h2 => hk.block k (by rw [hP]; exact ⟨h1, h2⟩), fun k hO => ?_⟩
  by_cases h1 : O0 k
  · exact Or.inl h1
  · right
    rcases Nat.lt_or_ge k w0.heap.size with h2 | h2
    · exact absurd hO (h.op k (by rw [hP]; exact ⟨h2, h1⟩))
    · exact h2
theorem NowOk.after (h : NowOk w P O wk nb wv nv) {w' : World} (hb : Below w.heap.size w w') : NowOk w' P O wk nb wv nv := by
  obtain ⟨n, xs, hr⟩ := h.row
  exact { h with row := ⟨n, xs, owns_after hr hb⟩ }
end Go.Proofs.Ytbojoiacedhjiaa
