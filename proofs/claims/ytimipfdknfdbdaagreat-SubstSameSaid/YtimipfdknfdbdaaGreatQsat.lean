/- Merged by program: WalkT, LayOk, NBuild. -/
import Derived.Deep.RegionWith
import Derived.Test.YtimipfdknfdbdaaGreatQsas
import Derived.Test.YtimipfdknfdbdaaGreatQsaj
import Derived.Test.YtimipfdknfdbdaaGreatQsam
import Derived.Test.YtimipfdknfdbdaaGreatQsar
/- How a text is walked: plain Lean, and a walker's rows that are changed about. -/
namespace Go.Proofs.YtimipfdknfdbdaaGreat
open Go.RowKit

def byteN (s : ByteArray) (k : Nat) : Nat := if h : k < s.size then s[k].toNat else 0
theorem byteN_lt (s : ByteArray) (k : Nat) : byteN s k < 256 := by
  unfold byteN
  split
  · exact (s[k]).toNat_lt
  · omega
/-- One state that waited: if the byte is in its set, its next is come to. -/
def oneN (ss : List St) (size c place : Nat) (x : Wk) (i : Nat) : Wk :=
  match ss[i]? with
  | none => x
  | some s => if bit s.f c = true then comeN ss size ss.length s.nx (place + 1) x else x
def stepN (ss : List St) (size c place : Nat) (l : List Nat) (x : Wk) : Wk := l.foldl (oneN ss size c place) x
def clearN (x : Wk) : Wk := { x with wait := [] }
def walkN (ss : List St) (s : ByteArray) : Nat → Nat → Wk → Wk
  | 0, _, x => x
  | d + 1, place, x => if x.wait = [] then x else walkN ss s d (place + 1) (stepN ss s.size (byteN s place) place x.wait (clearN x))
def beginWk (ss : List St) : Wk := ⟨List.replicate ss.length 0, [], []⟩
/-- All places to which a machine goes. -/
def toldN (ss : List St) (start : Nat) (s : ByteArray) (at_ : Nat) : List Nat := (walkN ss s (s.size - at_) at_ (comeN ss s.size ss.length start at_ (beginWk ss))).told

/-- What holds of a machine. -/
structure SsOk (ss : List St) : Prop where
  pos : 0 < ss.length
  few : ss.length ≤ 1000
  next : ∀ s, s ∈ ss → s.nx < ss.length ∧ s.ot < ss.length
  fits : ∀ s, s ∈ ss → Fits s.f
/-- What holds of a walker between two bytes. -/
structure WkOk (ss : List St) (x : Wk) (b : Nat) : Prop where
  len : x.seen.length = ss.length
  wait : ∀ j, j ∈ x.wait → j < ss.length
  few : x.wait.length ≤ 2000
  told : x.told.length ≤ b
theorem wkOk_begin (ss : List St) : WkOk ss (beginWk ss) 0 := ⟨by simp [beginWk], (fun j hj => by cases hj), by show (0 : Nat) ≤ 2000; omega, Nat.le_refl _⟩
theorem WkOk.come {ss : List St} {x : Wk} {b : Nat} (hs : SsOk ss) (h : WkOk ss x b) (hw : x.wait.length = 0) (size i place : Nat) (hi : i < ss.length) : WkOk ss (comeN ss size ss.length i place x) (b + 1000) := by
  have hc := comeN_ok ss size ss.length i place x (by rw [h.len]; exact hi) (fun s hm => by rw [h.len]; exact hs.next s hm)
  have hu := unseen_le x.seen (place + 1)
  have h1 := hs.few
  have h2 := h.len
  have h3 := h.told
  exact ⟨hc.len.trans h.len, fun j hj => by have := hc.below (fun j hj => by rw [h.len]; exact h.wait j hj) j hj; omega, by have := hc.wait; omega, by have := hc.told; omega⟩
/-- What holds of a walker within a step. -/
structure InOk (ss : List St) (x : Wk) (b m : Nat) : Prop where
  len : x.seen.length = ss.length
  below : ∀ j, j ∈ x.wait → j < ss.length
  wait : x.wait.length + unseen x.seen m ≤ 1000
  told : x.told.length + unseen x.seen m ≤ b + 1000
theorem InOk.clear {ss : List St} {x : Wk} {b : Nat} (hs : SsOk ss) (h : WkOk ss x b) (m : Nat) : InOk ss (clearN x) b m := by
  have hu := unseen_le x.seen m
  have h1 := hs.few
  have h2 := h.len
  have h3 := h.told
  exact ⟨h.len, (fun j hj => by cases hj), by show 0 + unseen x.seen m ≤ 1000; omega, by show x.told.length + unseen x.seen m ≤ _; omega⟩
theorem InOk.one {ss : List St} {x : Wk} {b place : Nat} (hs : SsOk ss) (h : InOk ss x b (place + 1 + 1)) (size c i : Nat) : InOk ss (oneN ss size c place x i) b (place + 1 + 1) := by
  unfold oneN
  split
  · exact h
  · rename_i s hse
    split
    · have hm := List.mem_of_getElem? hse
      have hc := comeN_ok ss size ss.length s.nx (place + 1) x (by rw [h.len]; exact (hs.next s hm).1) (fun s hm => by rw [h.len]; exact hs.next s hm)
      exact ⟨hc.len.trans h.len, fun j hj => by have := hc.below (fun j hj => by rw [h.len]; exact h.below j hj) j hj; have := h.len; omega, Nat.le_trans hc.wait h.wait, Nat.le_trans hc.told h.told⟩
    · exact h
theorem InOk.out {ss : List St} {x : Wk} {b m : Nat} (h : InOk ss x b m) : WkOk ss x (b + 1000) := ⟨h.len, h.below, by have := h.wait; omega, by have := h.told; omega⟩

/-- The row that was walked through last, or none. -/
structure NowOk (w : World) (P O : Nat → Prop) (wk nb : Nat) (wv nv : Value) : Prop where
  row : ∃ n xs, w.ownsRow 0 3 1 nv n xs
  nwk : nv.ownBlock ≠ some wk
  nnb : nv.ownBlock ≠ some nb
  nwv : ∀ k, nv.ownBlock = some k → wv.ownBlock ≠ some k
  np : ∀ k, P k → nv.ownBlock ≠ some k
  no : ∀ k, nv.ownBlock = some k → ¬ O k
/-- A slice cut to nothing. -/
def cutV : Value → Value
  | .slice a _ c => .slice a 0 c
  | v => v
theorem cutV_own (v : Value) : (cutV v).ownBlock = v.ownBlock := by
  cases v with
  | slice a n c => cases a <;> rfl
  | _ => rfl
theorem owns_cut {w : World} {v : Value} {n : Nat} {xs : List Value} (h : w.ownsRow 0 3 1 v n xs) : w.ownsRow 0 3 1 (cutV v) 0 [] := by
  refine ⟨rfl, ?_⟩
  rcases h.2 with ⟨rfl, _⟩ | ⟨g, cap, cur, rfl, hb, hg, _, hc, hs, _⟩
  · exact Or.inl ⟨rfl, rfl⟩
  · exact Or.inr ⟨g, cap, cur, rfl, hb, hg, Nat.zero_le _, hc, hs, by simp⟩
theorem owns_shape {w : World} {e : TypeId} {v : Value} {n : Nat} {xs : List Value} (h : w.ownsRow 0 e 1 v n xs) : v = .slice none 0 0 ∨ ∃ g cap, v = .slice (some ⟨g, 0, none⟩) n cap ∧ n ≤ cap := by
  rcases h.2 with ⟨rfl, _⟩ | ⟨g, cap, cur, rfl, _, _, h1, _⟩
  · exact Or.inl rfl
  · exact Or.inr ⟨g, cap, rfl, h1⟩

variable {w : World} {P : Nat → Prop} {wk nb g cap : Nat} {fv : Value} {size : Nat} {ss : List St} {T : List Nat → (Nat → Prop) → World → Prop} {x : Wk} {wv nv : Value} {O : Nat → Prop}

/-- Those blocks, and the row that is being walked through. -/
def OrRow (P : Nat → Prop) (v : Value) : Nat → Prop := fun k => P k ∨ v.ownBlock = some k
/-- The rows changed about: what waited is walked through, what was walked through last is written anew. -/
theorem WkM.swap (hT : Teller T) (h : WkM w P wk nb g cap fv size ss T x wv O) (hn : NowOk w P O wk nb wv nv) :
    WkM (w.setCell ⟨wk, 3, none⟩ (cutV nv)) (OrRow P wv) wk nb g cap fv size ss T (clearN x) (cutV nv) O ∧ KeepP P w (w.setCell ⟨wk, 3, none⟩ (cutV nv)) := by
  have ot : ∀ k, k ≠ wk → (w.setCell ⟨wk, 3, none⟩ (cutV nv)).heap[k]? = w.heap[k]? := fun k hk => heap_setCell_other w ⟨wk, 3, none⟩ k _ hk
  obtain ⟨n, xs, hrow⟩ := hn.row
  constructor
  · refine { h with row := ?_, seen := ?_, states := ?_, wait := ?_, told := ?_, low := ?_, pg := Or.inl h.pg, pw := ?_, pn := ?_, ww := by rw [cutV_own]; exact hn.nwk, wnb := by rw [cutV_own]; exact hn.nnb, wp := ?_, oo := fun k hk => hn.no k (by rwa [cutV_own] at hk), op := ?_ }
    · rw [heap_setCell_same w wk 3 _ _ _ h.row]; rfl
    · rw [ot nb (fun e => h.wn e.symm)]; exact h.seen
    · exact ownsRow_setCell_other h.states (a := ⟨wk, 3, none⟩) (by simp only [Value.ownBlock]; intro e; cases e; exact h.pw h.pg) _
    · exact ownsRow_setCell_other (owns_cut hrow) (a := ⟨wk, 3, none⟩) (by rw [cutV_own]; exact hn.nwk) _
    · exact hT.keep h.told fun k hk => ot k (fun e => h.ow (e ▸ hk))
    · rintro k (hk | hk)
      · have := h.low k hk; simpa using this
      · have := (h.wait.lt k hk).2; simpa using this
    · rintro (hk | hk)
      · exact h.pw hk
      · exact h.ww hk
    · rintro (hk | hk)
      · exact h.pn hk
      · exact h.wnb hk
    · rintro k (hk | hk)
      · rw [cutV_own]; exact hn.np k hk
      · rw [cutV_own]; exact fun e => hn.nwv k e hk
    · rintro k (hk | hk)
      · exact h.op k hk
      · exact h.oo k hk
  · exact ⟨rfl, rfl, rfl, by simp, fun k hk => ot k (fun e => h.pw (e ▸ hk))⟩
/-- What was walked through is the row walked through last. -/
theorem WkM.back {wv' : Value} {l : List Nat} (h : WkM w (OrRow P wv) wk nb g cap fv size ss T x wv' O) (hp : P g) (hr : w.ownsRow 0 3 1 wv l.length (ints l)) (hwk : wv.ownBlock ≠ some wk) (hnb : wv.ownBlock ≠ some nb) (hpn : ∀ k, P k → wv.ownBlock ≠ some k) :
    WkM w P wk nb g cap fv size ss T x wv' O ∧ NowOk w P O wk nb wv' wv :=
  ⟨{ h with low := fun k hk => h.low k (Or.inl hk), pg := hp, pw := fun hk => h.pw (Or.inl hk), pn := fun hk => h.pn (Or.inl hk), wp := fun k hk => h.wp k (Or.inl hk), op := fun k hk => h.op k (Or.inl hk) },
    ⟨⟨_, _, hr⟩, hwk, hnb, fun k hk => h.wp k (Or.inr hk), hpn, fun k hk => h.op k (Or.inr hk)⟩⟩
theorem KeepP.ofRow {a c : World} {v : Value} (h : KeepP (OrRow P v) a c) : KeepP P a c := ⟨h.os, h.tape, h.output, h.size, fun k hk => h.block k (Or.inl hk)⟩
/-- A row that stays. -/
theorem owns_keep {a c : World} {v : Value} {n : Nat} {xs : List Value} (h : KeepP (OrRow P v) a c) (hr : a.ownsRow 0 3 1 v n xs) : c.ownsRow 0 3 1 v n xs := by
  refine ⟨hr.1, ?_⟩
  rcases hr.2 with h0 | ⟨g', cap', cur, rfl, hb, hg, rest⟩
  · exact Or.inl h0
  · exact Or.inr ⟨g', cap', cur, rfl, hb, by rw [h.block g' (Or.inr rfl)]; exact hg, rest⟩
theorem walkN_stop (ss : List St) (s : ByteArray) (d place : Nat) (x : Wk) (h : x.wait = []) : walkN ss s d place x = x := by
  cases d with
  | zero => rfl
  | succ d => unfold walkN; rw [if_pos h]
theorem walkN_go (ss : List St) (s : ByteArray) (j : Nat) (x : Wk) (h : x.wait ≠ []) (hj : j < s.size) : walkN ss s (s.size - j) j x = walkN ss s (s.size - (j + 1)) (j + 1) (stepN ss s.size (byteN s j) j x.wait (clearN x)) := by
  rw [show s.size - j = (s.size - (j + 1)) + 1 by omega]
  conv => lhs; unfold walkN
  rw [if_neg h]
theorem WkM.moved {w0 : World} {O0 : Nat → Prop} (h : WkM w P wk nb g cap fv size ss T x wv O) (hP : P = fun k => k < w0.heap.size ∧ ¬ O0 k) (hk : KeepP P w0 w) : Moved O0 O w0 w := by
  refine ⟨hk.os, hk.tape, hk.output, hk.size, fun k h1 h2 => hk.block k (by rw [hP]; exact ⟨h1, h2⟩), fun k hO => ?_⟩
  by_cases h1 : O0 k
  · exact Or.inl h1
  · right
    rcases Nat.lt_or_ge k w0.heap.size with h2 | h2
    · exact absurd hO (h.op k (by rw [hP]; exact ⟨h2, h1⟩))
    · exact h2
theorem NowOk.after (h : NowOk w P O wk nb wv nv) {w' : World} (hb : Below w.heap.size w w') : NowOk w' P O wk nb wv nv := by
  obtain ⟨n, xs, hr⟩ := h.row
  exact { h with row := ⟨n, xs, owns_after hr hb⟩ }
end Go.Proofs.YtimipfdknfdbdaaGreat

/- What holds of a machine that was laid: plain Lean. -/
namespace Go.Proofs.YtimipfdknfdbdaaGreat
open Go.RowKit

/-- States that lead to one of the first n. -/
def OkS (n : Nat) (ss : List St) : Prop := ∀ s, s ∈ ss → (s.nx < n ∧ s.ot < n) ∧ Fits s.f
theorem OkS.mono {n m : Nat} {ss : List St} (h : OkS n ss) (hm : n ≤ m) : OkS m ss := fun s hs => ⟨⟨Nat.lt_of_lt_of_le (h s hs).1.1 hm, Nat.lt_of_lt_of_le (h s hs).1.2 hm⟩, (h s hs).2⟩
/-- A machine while it is laid, of n states at least. -/
structure LOk (n : Nat) (x : Mk) : Prop where
  start : x.1 < x.2.length
  ok : OkS x.2.length x.2
  len : n ≤ x.2.length
theorem LOk.less {n m : Nat} {x : Mk} (h : LOk n x) (hm : m ≤ n) : LOk m x := ⟨h.start, h.ok, Nat.le_trans hm h.len⟩
theorem LOk.put {n : Nat} {ss : List St} (hn : n ≤ ss.length) (h : OkS ss.length ss) (s : St) (h1 : s.nx < ss.length) (h2 : s.ot < ss.length) (h3 : Fits s.f) : LOk n (putN ss s) := by
  refine ⟨by simp [putN], fun t ht => ?_, by simp [putN]; omega⟩
  simp only [putN, List.length_append, List.length_singleton] at ht ⊢
  rcases List.mem_append.1 ht with ht | ht
  · exact (h.mono (Nat.le_succ _)) t ht
  · rw [List.mem_singleton.1 ht]
    exact ⟨⟨by omega, by omega⟩, h3⟩
/-- What lays keeps it so. -/
def LayP (f : Nat → List St → Mk) : Prop := ∀ next ss, next < ss.length → OkS ss.length ss → LOk ss.length (f next ss)
theorem fits_zero' : Fits zero4 := fits_zero
theorem iterN_ok (f : Mk → Mk) (n : Nat) (h : ∀ x, LOk n x → LOk n (f x)) (j : Nat) : ∀ x, LOk n x → LOk n (iterN f j x) := by
  induction j with
  | zero => intro x hx; exact hx
  | succ j ih => intro x hx; exact ih _ (h x hx)
theorem foldl_ok {α : Type} (f : Mk → α → Mk) (n : Nat) (l : List α) (h : ∀ x i, i ∈ l → LOk n x → LOk n (f x i)) : ∀ x, LOk n x → LOk n (l.foldl f x) := by
  induction l with
  | nil => intro x hx; exact hx
  | cons i l ih =>
    intro x hx
    exact ih (fun y j hj => h y j (List.mem_cons_of_mem _ hj)) _ (h x i List.mem_cons_self hx)
theorem ringN_ok (f : Nat → List St → Mk) (hf : LayP f) (next : Nat) (ss : List St) (hn : next < ss.length) (h : OkS ss.length ss) : LOk ss.length (ringN f next ss) := by
  have h0 := LOk.put (Nat.le_refl _) h (forkS 0 next) (by show 0 < _; omega) hn fits_zero'
  have h1 := hf ss.length (ss ++ [forkS 0 next]) (by simp) h0.ok
  obtain ⟨r, hr⟩ : ∃ r, r = f ss.length (ss ++ [forkS 0 next]) := ⟨_, rfl⟩
  rw [← hr] at h1
  have hl : ss.length + 1 ≤ r.2.length := by have := h1.len; simpa using this
  unfold ringN
  rw [← hr]
  refine ⟨by rw [setNx_len]; show ss.length < _; omega, fun t ht => ?_, by rw [setNx_len]; show ss.length ≤ _; omega⟩
  rw [setNx_len]
  unfold setNx at ht
  split at ht
  · rename_i s hs
    rcases List.mem_or_eq_of_mem_set ht with ht | rfl
    · exact h1.ok t ht
    · have := h1.ok s (List.mem_of_getElem? hs)
      exact ⟨⟨h1.start, this.1.2⟩, this.2⟩
  · exact h1.ok t ht
theorem layN_ok (d : Nat) : ∀ (q : Plan), Wf d q → LayP (layN d q) := by
  induction d with
  | zero => intro q h; exact h.elim
  | succ d ih =>
    intro q h next ss hn hs
    have hw := h.1
    have h0 : LOk ss.length (next, ss) := ⟨hn, hs, Nat.le_refl _⟩
    unfold layN
    split
    · rename_i hk
      refine LOk.put (Nat.le_refl _) hs _ hn (by show 0 < _; omega) ?_
      unfold leafS
      simp only
      split
      · exact hw.fits
      · exact fits_zero'
    · split
      · unfold catN
        refine foldl_ok _ _ _ (fun x i _ hx => ?_) _ h0
        exact (ih _ (h.2 _ (List.getElem_mem i.isLt)) x.1 x.2 hx.start hx.ok).less hx.len
      · split
        · rename_i hk
          obtain ⟨hne, _⟩ := hw.alt hk
          unfold altN
          rw [List.getLast?_eq_some_getLast hne]
          simp only
          refine foldl_ok _ _ _ (fun x i _ hx => ?_) _ ((ih _ (h.2 _ (List.getLast_mem hne)) next ss hn hs))
          have hm : q.kids.dropLast[i] ∈ q.kids := List.dropLast_subset _ (List.getElem_mem i.isLt)
          have h1 := ih _ (h.2 _ hm) next x.2 (Nat.lt_of_lt_of_le hn hx.len) hx.ok
          unfold branchN
          exact LOk.put (Nat.le_trans hx.len h1.len) h1.ok _ h1.start (Nat.lt_of_lt_of_le hx.start h1.len) fits_zero'
        · split
          · rename_i hk
            obtain ⟨c, hc, l0, l1, lh, hr⟩ := hw.rep hk
            rw [hc]
            simp only
            have hcw : LayP (layN d c) := ih c (h.2 c (by rw [hc]; exact List.mem_singleton_self c))
            unfold timesN
            refine iterN_ok _ _ (fun x hx => (hcw x.1 x.2 hx.start hx.ok).less hx.len) _ _ (iterN_ok _ _ (fun x hx => ?_) _ _ ?_)
            · have h1 := hcw x.1 x.2 hx.start hx.ok
              unfold mayN
              exact LOk.put (Nat.le_trans hx.len h1.len) h1.ok _ h1.start (Nat.lt_of_lt_of_le hn (Nat.le_trans hx.len h1.len)) fits_zero'
            · split
              · exact ringN_ok _ hcw next ss hn hs
              · exact h0
          · exact h0
/-- A machine that was laid holds together. -/
theorem ssOk_of (q : Plan) (d : Nat) (hw : Wf d q) (g : St) (hg : g.nx = 0 ∧ g.ot = 0 ∧ Fits g.f) : SsOk (layN d q 0 [g]).2 ∧ (layN d q 0 [g]).1 < (layN d q 0 [g]).2.length := by
  have h := layN_ok d q hw 0 [g] (by simp) (fun s hs => by rw [List.mem_singleton.1 hs]; exact ⟨⟨by rw [hg.1]; exact Nat.zero_lt_one, by rw [hg.2.1]; exact Nat.zero_lt_one⟩, hg.2.2⟩)
  have hl := layN_len d q 0 [g] hw
  have hn := hw.own.n
  refine ⟨⟨by have := h.start; omega, by simp at hl; omega, fun s hs => (h.ok s hs).1, fun s hs => (h.ok s hs).2⟩, h.start⟩
end Go.Proofs.YtimipfdknfdbdaaGreat

/- nfa.Build at a tree that has not too many states: a walk. -/
namespace Go.Proofs.YtimipfdknfdbdaaGreat
open Go.RowKit

def goalS : St := ⟨0, zero4, 0, 0⟩
/-- A tree's machine. -/
def machN (t : Tree) : Mk := layN 101 (planN 101 t) 0 [goalS]
/-- What Build leaves. -/
def Built (w : World) (t : Tree) (e : Ending) (w' : World) : Prop :=
  ∃ p sv, e = .returned (.tuple #[.pointer (some ⟨p, 0, none⟩), .int .i64 0]) ∧ w.heap.size ≤ p ∧ Mch w' p (machN t).2 sv (machN t).1 ∧ Below w.heap.size w w'

theorem mch_new (w : World) : Mch (w.alloc (.cells #[.slice none 0 0, .int .i64 0] 46)) w.heap.size [] (.slice none 0 0) 0 := ⟨heap_alloc_last w _, World.ownsRow_nil _ _ _ _⟩

/-- What Build tells of a tree that can be, or can't. -/
def BuildOut (w : World) (t : Tree) (R : Bool → Prop) (e : Ending) (w' : World) : Prop :=
  ∃ b, R b ∧ ((b = false ∧ e = .returned (.tuple #[.pointer none, .int .i64 1]) ∧ Below w.heap.size w w') ∨ (b = true ∧ 500 ≤ (planN 101 t).n ∧ e = .returned (.tuple #[.pointer none, .int .i64 2]) ∧ Below w.heap.size w w') ∨
    (b = true ∧ (planN 101 t).n < 500 ∧ Good 101 (-1) t ∧ Built w t e w'))

set_option maxRecDepth 100000 in
set_option maxHeartbeats 2000000 in
theorem build_gen (t : Tree) (R : Bool → Prop) (rs : Array Value) (B : Nat → Prop) (w : World) (h : At w B t rs)
    (hcan : ∀ W, At W B t rs → Calls Tryz.prog 19 #[.agg rs] W fun e w' => ∃ b : Bool, e = .returned (.bool b) ∧ Hid (R b ∧ (b = true → Good 101 (-1) t)) ∧ Below W.heap.size W w') :
    Calls Tryz.prog 11 #[.agg rs] w (BuildOut w t R) := by
  obtain ⟨W, hW, hX, hB, _⟩ := re_box w rs
  obtain ⟨a, c, e, _⟩ := h.opens
  have HC := Lib.hid (hcan W (h.after hB.out))
  have HPl := Lib.hid (fun (hg : Good 101 (-1) t) (W' : World) (hb : Below W.heap.size W W') => planOf_spec 101 (-1) t rs B W' ((h.after hB.out).after hb) hg)
  have HLay := Lib.hid (fun (hg : Good 101 (-1) t) (hn : (planN 101 t).n < 500) (p : Nat) (sv : Value) (qs : Array Value) (W' : World) (hm : Mch W' p [goalS] sv 0) (hat : PAt W' (fun k => k < p) (planN 101 t) qs) => show Calls Tryz.prog 21 #[.pointer (some ⟨p, 0, none⟩), .agg qs, .int .i64 0] W' (Laid W' p sv 0 (layN 101 (planN 101 t) 0 [goalS])) from lay_spec 101 (planN 101 t) qs (fun k => k < p) 0 p [goalS] sv 0 W' hat (fun _ h => h) (planN_wf 101 (-1) t hg hn) hm (by decide))
  obtain ⟨q, hq⟩ : ∃ q, q = planN 101 t := ⟨_, rfl⟩
  have hMach : Hid (machN t = layN 101 q 0 [goalS]) := Lib.hid (by unfold machN; rw [hq])
  rw [← hq] at HPl HLay
  have HQ := Lib.hid hq
  have HPut := Lib.hid (fun (p : Nat) (W' : World) (hm : Mch W' p [] (.slice none 0 0) 0) => show Calls Tryz.prog 22 #[.pointer (some ⟨p, 0, none⟩), .agg #[.int .i64 0, .int .u64 0, .int .u64 0, .int .u64 0, .int .u64 0, .int .i64 0, .int .i64 0]] W' (Laid W' p (.slice none 0 0) 0 (0, [goalS])) from put_spec p [] (.slice none 0 0) 0 goalS W' hm (by decide))
  subst e
  clear h hcan hq
  go_enter Tryz.func11, Tryz.ntmps11
  go_upto_region 1 with (fail)
  rw [← hW]
  clear hW
  obtain ⟨c0, c1, c2, c3, c4, c5, c6, c7⟩ := eight_re hX.out.eight
  unfold reC at HC HPl
  go_wp2_with fail
  refine HC.out.mono ?_
  rintro e w1 ⟨bb, rfl, hbb, b1⟩
  have X1 := Lib.hid (hX.out.after b1)
  have B1 := Lib.hid (Below.step hB.out b1)
  cases bb with
  | false =>
    clear b1 c0 c1 c2 c3 c4 c5 c6 c7 HPl HC
    go_wp2_with fail
    go_ret2
    exact ⟨false, hbb.out.1, Or.inl ⟨rfl, rfl, B1.out⟩⟩
  | true =>
  have HGd := Lib.hid (hbb.out.2 rfl)
  have HP1 := Lib.hid (HPl.out HGd.out w1 b1)
  have HL1 := Lib.hid (fun hn => HLay.out HGd.out hn)
  clear HLay
  clear b1 c0 c1 c2 c3 c4 c5 c6 c7 HPl HC
  obtain ⟨c0, c1, c2, c3, c4, c5, c6, c7⟩ := eight_re X1.out.eight
  go_wp2_with fail
  refine HP1.out.mono ?_
  rintro e w2 ⟨ps, rfl, hat, b2⟩
  have B2 := Lib.hid (Below.step B1.out b2)
  obtain ⟨a2, c2', e, _⟩ := hat.opens
  subst e
  have HAT := Lib.hid hat
  clear b2 hat c0 c1 c2 c3 c4 c5 c6 c7 HP1
  unfold plC
  go_upto_region 4 with (fail)
  obtain ⟨V, hV, hY, hBV, _⟩ := pl_box w2 (plC q.k q.f q.lo q.hi q.n (.slice a2 q.kids.length c2'))
  change Code.wp _ _ _ _ (w2.alloc (Obj.cells (plC q.k q.f q.lo q.hi q.n (.slice a2 q.kids.length c2')) 64))
  rw [← hV]
  have B3 := Lib.hid (Below.step B2.out hBV.out)
  have A3 := Lib.hid ((HAT.out.after hBV.out).inWorld)
  clear hV
  obtain ⟨q0, q1, q2, q3, q4, q5, q6, q7, q8⟩ := nine_pl hY.out.nine
  by_cases hn : q.n < 500
  rotate_left
  · have hn2 : decide ((500 : Int) ≤ q.n) = true := decide_eq_true (by omega)
    go_wp2_with fail
    go_ret2
    exact ⟨true, hbb.out.1, Or.inr (Or.inl ⟨rfl, by rw [← HQ.out]; omega, rfl, B3.out⟩)⟩
  · have HL2 := Lib.hid (HL1.out hn)
    clear HL1
    go_upto_region 7 with (fail)
    obtain ⟨U, hU⟩ : ∃ U, U = V.alloc (.cells #[.slice none 0 0, .int .i64 0] 46) := ⟨_, rfl⟩
    change Code.wp _ _ _ _ (V.alloc (.cells #[.slice none 0 0, .int .i64 0] 46))
    rw [← hU]
    have MU : Hid (Mch U V.heap.size [] (.slice none 0 0) 0) := Lib.hid (by rw [hU]; exact mch_new V)
    have bU : Below V.heap.size V U := by rw [hU]; exact below_new _ _
    have PU := Lib.hid (hY.out.after bU)
    have AU := Lib.hid ((A3.out.after bU).weakS (T := fun k => k < V.heap.size) fun k hk => hk.2)
    have BU := Lib.hid (Below.step B3.out bU)
    have hVw : w.heap.size ≤ V.heap.size := B3.out.size
    clear hU bU A3 hY q0 q1 q2 q3 q4 q5 q6 q7 q8
    unfold plC at AU
    obtain ⟨q0, q1, q2, q3, q4, q5, q6, q7, q8⟩ := nine_pl PU.out.nine
    go_region_with (first
      | (go_at_call 22; refine (HPut.out V.heap.size _ ?_).mono ?_; exact MU.out.after (below_drew U); rintro e w5 ⟨sv1, rfl, hM, hT⟩; have A5 := Lib.hid ((AU.out.after (below_drew U)).keep fun k hk hlt => hT.block k hlt (by have hk' : k < V.heap.size := hk; omega) (by simp [Value.ownBlock])); have P5 := Lib.hid ((PU.out.after (below_drew U)).turn (MU.out.after (below_drew U)) hT); obtain ⟨d0, d1, d2, d3, d4, d5, d6, d7, d8⟩ := nine_pl P5.out.nine; have HM5 := Lib.hid hM; have HT5 := Lib.hid hT; clear hM hT)
      | (go_at_call 21; refine (HL2.out V.heap.size _ _ _ HM5.out A5.out).mono ?_; rintro e w6 ⟨sv2, rfl, hM6, hT6⟩; have z1 := hM6.z 1; have g1 := hM6.c1; have HM6 := Lib.hid hM6; have HT6 := Lib.hid hT6; clear hM6 hT6))
    all_goals
      go_wp2_with fail
      go_ret2
      refine ⟨true, hbb.out.1, Or.inr (Or.inr ⟨rfl, by rw [← HQ.out]; exact hn, HGd.out, V.heap.size, sv2, rfl, hVw, ?_, ?_⟩)⟩
      · rw [hMach.out]
        exact (HM6.out.setStart _).1
      · have h1 : Below w.heap.size w U.drew := BU.out.drew
        have h2 : Below w.heap.size U.drew w6 := (HT5.out.trans HT6.out).below hVw BU.out.size (fun k hk => by simp [Value.ownBlock] at hk)
        exact (h1.trans h2).setCell (p := ⟨V.heap.size, 1, none⟩) hVw _

/-- A tree that was parsed, whatever it is. -/
theorem build_any (t : Tree) (rs : Array Value) (B : Nat → Prop) (w : World) (h : At w B t rs) (hf : Fine (-1) t) :
    Calls Tryz.prog 11 #[.agg rs] w (BuildOut w t (fun _ => True)) :=
  build_gen t _ rs B w h fun W hW => (can_any t rs B W hW hf).mono fun _ _ ⟨b, e1, h1, h2⟩ => ⟨b, e1, Lib.hid ⟨trivial, h1.out⟩, h2⟩
theorem build_yes (t : Tree) (rs : Array Value) (B : Nat → Prop) (w : World) (h : At w B t rs) (hg : Good 100 (-1) t) (hg1 : Good 101 (-1) t) (hn : (planN 101 t).n < 500) :
    Calls Tryz.prog 11 #[.agg rs] w (Built w t) := by
  refine (build_gen t (fun b => b = true) rs B w h fun W hW => (can_spec t rs B W hW hg).mono fun _ _ ⟨e1, h2⟩ => ⟨true, e1, Lib.hid ⟨rfl, fun _ => hg1⟩, h2⟩).mono ?_
  rintro e w' ⟨b, hb, h | h | h⟩
  · rw [hb] at h; exact absurd h.1 (by decide)
  · omega
  · exact h.2.2.2
/-- The machine of a tree that can be and is not too great holds together. -/
theorem mach_ok (t : Tree) (hg : Good 101 (-1) t) (hn : (planN 101 t).n < 500) : SsOk (machN t).2 ∧ (machN t).1 < (machN t).2.length :=
  ssOk_of _ 101 (planN_wf 101 (-1) t hg hn) goalS ⟨rfl, rfl, fits_zero'⟩
end Go.Proofs.YtimipfdknfdbdaaGreat
