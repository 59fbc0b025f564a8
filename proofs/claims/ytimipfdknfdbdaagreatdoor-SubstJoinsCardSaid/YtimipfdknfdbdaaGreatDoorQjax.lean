/- Merged by program: Has, WalkT, LayOk. -/
import Derived.Test.YtimipfdknfdbdaaGreatDoorQjac
import Derived.Test.YtimipfdknfdbdaaGreatDoorQjaw
import Derived.Test.YtimipfdknfdbdaaGreatDoorQjan
import Derived.Test.YtimipfdknfdbdaaGreatDoorQjap
/- class.Has: a walk. -/
namespace Go.Proofs.YtimipfdknfdbdaaGreatDoor
open Go.RowKit

theorem and_one (x k : Nat) (hx : x < 18446744073709551616) : (bits BinOp.and IntKind.u64 ((x : Int) / 2 ^ k) 1 == 1) = x.testBit k := by
  have e : ((x : Int) / 2 ^ k) = ((x / 2 ^ k : Nat) : Int) := by simp
  have h1 : x / 2 ^ k < 18446744073709551616 := Nat.lt_of_le_of_lt (Nat.div_le_self _ _) hx
  rw [e, show (1 : Int) = ((1 : Nat) : Int) from rfl, bits_and_u64_nat _ _ h1 (by decide), Nat.and_one_is_mod, Nat.testBit_eq_decide_div_mod_eq]
  rcases Nat.mod_two_eq_zero_or_one (x / 2 ^ k) with h | h <;> rw [h] <;> rfl

set_option maxRecDepth 100000 in
theorem has_exact (f : Nat → Nat) (hf : Fits f) (c : Nat) (hc : c < 256) (w : World) :
    Calls Tryz.prog 98 #[.agg (words f), .int .u8 c] w fun e w' => e = .returned (.bool (bit f c)) ∧ w' = w.alloc (.cells (words f) 45) := by
  have hk : c / 64 < 4 := by omega
  have hw := words_get f hk
  go_enter Tryz.func98, Tryz.ntmps98
  go_wp2
  go_ret
  exact ⟨ret_bool (and_one _ _ (hf _ hk)), rfl⟩
theorem has_spec (f : Nat → Nat) (hf : Fits f) (c : Nat) (hc : c < 256) (w : World) :
    Calls Tryz.prog 98 #[.agg (words f), .int .u8 c] w fun e w' => e = .returned (.bool (bit f c)) ∧ Below w.heap.size w w' := by
  refine (has_exact f hf c hc w).mono ?_
  rintro e w' ⟨rfl, rfl⟩
  exact ⟨rfl, below_new _ _⟩
end Go.Proofs.YtimipfdknfdbdaaGreatDoor

/- How a text is walked: plain Lean, and a walker's rows that are changed about. -/
namespace Go.Proofs.YtimipfdknfdbdaaGreatDoor
open Go.RowKit

def byteN (s : ByteArray) (k : Nat) : Nat := if h : k < s.size then s[k].toNat else 0
theorem byteN_lt (s : ByteArray) (k : Nat) : byteN s k < 256 := by
  unfold byteN
  split
  · exact (s[k]).toNat_lt
  · omega
/-- One state that waited: if the byte is in its set, its next is come to. -/
def oneN (ss : List St) (size c place : Nat) (x : Wk) (i : Nat) : Wk :=
  match ss[i]? with
  | none => x
  | some s => if bit s.f c = true then comeN ss size ss.length s.nx (place + 1) x else x
def stepN (ss : List St) (size c place : Nat) (l : List Nat) (x : Wk) : Wk := l.foldl (oneN ss size c place) x
def clearN (x : Wk) : Wk := { x with wait := [] }
def walkN (ss : List St) (s : ByteArray) : Nat → Nat → Wk → Wk
  | 0, _, x => x
  | d + 1, place, x => if x.wait = [] then x else walkN ss s d (place + 1) (stepN ss s.size (byteN s place) place x.wait (clearN x))
def beginWk (ss : List St) : Wk := ⟨List.replicate ss.length 0, [], []⟩
/-- All places to which a machine goes. -/
def toldN (ss : List St) (start : Nat) (s : ByteArray) (at_ : Nat) : List Nat := (walkN ss s (s.size - at_) at_ (comeN ss s.size ss.length start at_ (beginWk ss))).told

/-- What holds of a machine. -/
structure SsOk (ss : List St) : Prop where
  pos : 0 < ss.length
  few : ss.length ≤ 1000
  next : ∀ s, s ∈ ss → s.nx < ss.length ∧ s.ot < ss.length
  fits : ∀ s, s ∈ ss → Fits s.f
/-- What holds of a walker between two bytes. -/
structure WkOk (ss : List St) (x : Wk) (b : Nat) : Prop where
  len : x.seen.length = ss.length
  wait : ∀ j, j ∈ x.wait → j < ss.length
  few : x.wait.length ≤ 2000
  told : x.told.length ≤ b
theorem wkOk_begin (ss : List St) : WkOk ss (beginWk ss) 0 := ⟨by simp [beginWk], (fun j hj => by cases hj), by show (0 : Nat) ≤ 2000; omega, Nat.le_refl _⟩
theorem WkOk.come {ss : List St} {x : Wk} {b : Nat} (hs : SsOk ss) (h : WkOk ss x b) (hw : x.wait.length = 0) (size i place : Nat) (hi : i < ss.length) : WkOk ss (comeN ss size ss.length i place x) (b + 1000) := by
  have hc := comeN_ok ss size ss.length i place x (by rw [h.len]; exact hi) (fun s hm => by rw [h.len]; exact hs.next s hm)
  have hu := unseen_le x.seen (place + 1)
  have h1 := hs.few
  have h2 := h.len
  have h3 := h.told
  exact ⟨hc.len.trans h.len, fun j hj => by have := hc.below (fun j hj => by rw [h.len]; exact h.wait j hj) j hj; omega, by have := hc.wait; omega, by have := hc.told; omega⟩
/-- What holds of a walker within a step. -/
structure InOk (ss : List St) (x : Wk) (b m : Nat) : Prop where
  len : x.seen.length = ss.length
  below : ∀ j, j ∈ x.wait → j < ss.length
  wait : x.wait.length + unseen x.seen m ≤ 1000
  told : x.told.length + unseen x.seen m ≤ b + 1000
theorem InOk.clear {ss : List St} {x : Wk} {b : Nat} (hs : SsOk ss) (h : WkOk ss x b) (m : Nat) : InOk ss (clearN x) b m := by
  have hu := unseen_le x.seen m
  have h1 := hs.few
  have h2 := h.len
  have h3 := h.told
  exact ⟨h.len, (fun j hj => by cases hj), by show 0 + unseen x.seen m ≤ 1000; omega, by show x.told.length + unseen x.seen m ≤ _; omega⟩
theorem InOk.one {ss : List St} {x : Wk} {b place : Nat} (hs : SsOk ss) (h : InOk ss x b (place + 1 + 1)) (size c i : Nat) : InOk ss (oneN ss size c place x i) b (place + 1 + 1) := by
  unfold oneN
  split
  · exact h
  · rename_i s hse
    split
    · have hm := List.mem_of_getElem? hse
      have hc := comeN_ok ss size ss.length s.nx (place + 1) x (by rw [h.len]; exact (hs.next s hm).1) (fun s hm => by rw [h.len]; exact hs.next s hm)
      exact ⟨hc.len.trans h.len, fun j hj => by have := hc.below (fun j hj => by rw [h.len]; exact h.below j hj) j hj; have := h.len; omega, Nat.le_trans hc.wait h.wait, Nat.le_trans hc.told h.told⟩
    · exact h
theorem InOk.out {ss : List St} {x : Wk} {b m : Nat} (h : InOk ss x b m) : WkOk ss x (b + 1000) := ⟨h.len, h.below, by have := h.wait; omega, by have := h.told; omega⟩

/-- The row that was walked through last, or none. -/
structure NowOk (w : World) (P O : Nat → Prop) (wk nb : Nat) (wv nv : Value) : Prop where
  row : ∃ n xs, w.ownsRow 0 3 1 nv n xs
  nwk : nv.ownBlock ≠ some wk
  nnb : nv.ownBlock ≠ some nb
  nwv : ∀ k, nv.ownBlock = some k → wv.ownBlock ≠ some k
  np : ∀ k, P k → nv.ownBlock ≠ some k
  no : ∀ k, nv.ownBlock = some k → ¬ O k
/-- A slice cut to nothing. -/
def cutV : Value → Value
  | .slice a _ c => .slice a 0 c
  | v => v
theorem cutV_own (v : Value) : (cutV v).ownBlock = v.ownBlock := by
  cases v with
  | slice a n c => cases a <;> rfl
  | _ => rfl
theorem owns_cut {w : World} {v : Value} {n : Nat} {xs : List Value} (h : w.ownsRow 0 3 1 v n xs) : w.ownsRow 0 3 1 (cutV v) 0 [] := by
  refine ⟨rfl, ?_⟩
  rcases h.2 with ⟨rfl, _⟩ | ⟨g, cap, cur, rfl, hb, hg, _, hc, hs, _⟩
  · exact Or.inl ⟨rfl, rfl⟩
  · exact Or.inr ⟨g, cap, cur, rfl, hb, hg, Nat.zero_le _, hc, hs, by simp⟩
theorem owns_shape {w : World} {e : TypeId} {v : Value} {n : Nat} {xs : List Value} (h : w.ownsRow 0 e 1 v n xs) : v = .slice none 0 0 ∨ ∃ g cap, v = .slice (some ⟨g, 0, none⟩) n cap ∧ n ≤ cap := by
  rcases h.2 with ⟨rfl, _⟩ | ⟨g, cap, cur, rfl, _, _, h1, _⟩
  · exact Or.inl rfl
  · exact Or.inr ⟨g, cap, rfl, h1⟩

variable {w : World} {P : Nat → Prop} {wk nb g cap : Nat} {fv : Value} {size : Nat} {ss : List St} {T : List Nat → (Nat → Prop) → World → Prop} {x : Wk} {wv nv : Value} {O : Nat → Prop}

/-- Those blocks, and the row that is being walked through. -/
def OrRow (P : Nat → Prop) (v : Value) : Nat → Prop := fun k => P k ∨ v.ownBlock = some k
/-- The rows changed about: what waited is walked through, what was walked through last is written anew. -/
theorem WkM.swap (hT : Teller T) (h : WkM w P wk nb g cap fv size ss T x wv O) (hn : NowOk w P O wk nb wv nv) :
    WkM (w.setCell ⟨wk, 3, none⟩ (cutV nv)) (OrRow P wv) wk nb g cap fv size ss T (clearN x) (cutV nv) O ∧ KeepP P w (w.setCell ⟨wk, 3, none⟩ (cutV nv)) := by
  have ot : ∀ k, k ≠ wk → (w.setCell ⟨wk, 3, none⟩ (cutV nv)).heap[k]? = w.heap[k]? := fun k hk => heap_setCell_other w ⟨wk, 3, none⟩ k _ hk
  obtain ⟨n, xs, hrow⟩ := hn.row
  constructor
  · refine { h with row := ?_, seen := ?_, states := ?_, wait := ?_, told := ?_, low := ?_, pg := Or.inl h.pg, pw := ?_, pn := ?_, ww := by rw [cutV_own]; exact hn.nwk, wnb := by rw [cutV_own]; exact hn.nnb, wp := ?_, oo := fun k hk => hn.no k (by rwa [cutV_own] at hk), op := ?_ }
    · rw [heap_setCell_same w wk 3 _ _ _ h.row]; rfl
    · rw [ot nb (fun e => h.wn e.symm)]; exact h.seen
    · exact ownsRow_setCell_other h.states (a := ⟨wk, 3, none⟩) (by simp only [Value.ownBlock]; intro e; cases e; exact h.pw h.pg) _
    · exact ownsRow_setCell_other (owns_cut hrow) (a := ⟨wk, 3, none⟩) (by rw [cutV_own]; exact hn.nwk) _
    · exact hT.keep h.told fun k hk => ot k (fun e => h.ow (e ▸ hk))
    · rintro k (hk | hk)
      · have := h.low k hk; simpa using this
      · have := (h.wait.lt k hk).2; simpa using this
    · rintro (hk | hk)
      · exact h.pw hk
      · exact h.ww hk
    · rintro (hk | hk)
      · exact h.pn hk
      · exact h.wnb hk
    · rintro k (hk | hk)
      · rw [cutV_own]; exact hn.np k hk
      · rw [cutV_own]; exact fun e => hn.nwv k e hk
    · rintro k (hk | hk)
      · exact h.op k hk
      · exact h.oo k hk
  · exact ⟨rfl, rfl, rfl, by simp, fun k hk => ot k (fun e => h.pw (e ▸ hk))⟩
/-- What was walked through is the row walked through last. -/
theorem WkM.back {wv' : Value} {l : List Nat} (h : WkM w (OrRow P wv) wk nb g cap fv size ss T x wv' O) (hp : P g) (hr : w.ownsRow 0 3 1 wv l.length (ints l)) (hwk : wv.ownBlock ≠ some wk) (hnb : wv.ownBlock ≠ some nb) (hpn : ∀ k, P k → wv.ownBlock ≠ some k) :
    WkM w P wk nb g cap fv size ss T x wv' O ∧ NowOk w P O wk nb wv' wv :=
  ⟨{ h with low := fun k hk => h.low k (Or.inl hk), pg := hp, pw := fun hk => h.pw (Or.inl hk), pn := fun hk => h.pn (Or.inl hk), wp := fun k hk => h.wp k (Or.inl hk), op := fun k hk => h.op k (Or.inl hk) },
    ⟨⟨_, _, hr⟩, hwk, hnb, fun k hk => h.wp k (Or.inr hk), hpn, fun k hk => h.op k (Or.inr hk)⟩⟩
theorem KeepP.ofRow {a c : World} {v : Value} (h : KeepP (OrRow P v) a c) : KeepP P a c := ⟨h.os, h.tape, h.output, h.size, fun k hk => h.block k (Or.inl hk)⟩
/-- A row that stays. -/
theorem owns_keep {a c : World} {v : Value} {n : Nat} {xs : List Value} (h : KeepP (OrRow P v) a c) (hr : a.ownsRow 0 3 1 v n xs) : c.ownsRow 0 3 1 v n xs := by
  refine ⟨hr.1, ?_⟩
  rcases hr.2 with h0 | ⟨g', cap', cur, rfl, hb, hg, rest⟩
  · exact Or.inl h0
  · exact Or.inr ⟨g', cap', cur, rfl, hb, by rw [h.block g' (Or.inr rfl)]; exact hg, rest⟩
theorem walkN_stop (ss : List St) (s : ByteArray) (d place : Nat) (x : Wk) (h : x.wait = []) : walkN ss s d place x = x := by
  cases d with
  | zero => rfl
  | succ d => unfold walkN; rw [if_pos h]
theorem walkN_go (ss : List St) (s : ByteArray) (j : Nat) (x : Wk) (h : x.wait ≠ []) (hj : j < s.size) : walkN ss s (s.size - j) j x = walkN ss s (s.size - (j + 1)) (j + 1) (stepN ss s.size (byteN s j) j x.wait (clearN x)) := by
  rw [show s.size - j = (s.size - (j + 1)) + 1 by omega]
  conv => lhs; unfold walkN
  rw [if_neg h]
theorem WkM.moved {w0 : World} {O0 : Nat → Prop} (h : WkM w P wk nb g cap fv size ss T x wv O) (hP : P = fun k => k < w0.heap.size ∧ ¬ O0 k) (hk : KeepP P w0 w) : Moved O0 O w0 w := by
  refine ⟨hk.os, hk.tape, hk.output, hk.size, fun k h1 h2 => hk.block k (by rw [hP]; exact ⟨h1, h2⟩), fun k hO => ?_⟩
  by_cases h1 : O0 k
  · exact Or.inl h1
  · right
    rcases Nat.lt_or_ge k w0.heap.size with h2 | h2
    · exact absurd hO (h.op k (by rw [hP]; exact ⟨h2, h1⟩))
    · exact h2
theorem NowOk.after (h : NowOk w P O wk nb wv nv) {w' : World} (hb : Below w.heap.size w w') : NowOk w' P O wk nb wv nv := by
  obtain ⟨n, xs, hr⟩ := h.row
  exact { h with row := ⟨n, xs, owns_after hr hb⟩ }
end Go.Proofs.YtimipfdknfdbdaaGreatDoor

/- What holds of a machine that was laid: plain Lean. -/
namespace Go.Proofs.YtimipfdknfdbdaaGreatDoor
open Go.RowKit

/-- States that lead to one of the first n. -/
def OkS (n : Nat) (ss : List St) : Prop := ∀ s, s ∈ ss → (s.nx < n ∧ s.ot < n) ∧ Fits s.f
theorem OkS.mono {n m : Nat} {ss : List St} (h : OkS n ss) (hm : n ≤ m) : OkS m ss := fun s hs => ⟨⟨Nat.lt_of_lt_of_le (h s hs).1.1 hm, Nat.lt_of_lt_of_le (h s hs).1.2 hm⟩, (h s hs).2⟩
/-- A machine while it is laid, of n states at least. -/
structure LOk (n : Nat) (x : Mk) : Prop where
  start : x.1 < x.2.length
  ok : OkS x.2.length x.2
  len : n ≤ x.2.length
theorem LOk.less {n m : Nat} {x : Mk} (h : LOk n x) (hm : m ≤ n) : LOk m x := ⟨h.start, h.ok, Nat.le_trans hm h.len⟩
theorem LOk.put {n : Nat} {ss : List St} (hn : n ≤ ss.length) (h : OkS ss.length ss) (s : St) (h1 : s.nx < ss.length) (h2 : s.ot < ss.length) (h3 : Fits s.f) : LOk n (putN ss s) := by
  refine ⟨by simp [putN], fun t ht => ?_, by simp [putN]; omega⟩
  simp only [putN, List.length_append, List.length_singleton] at ht ⊢
  rcases List.mem_append.1 ht with ht | ht
  · exact (h.mono (Nat.le_succ _)) t ht
  · rw [List.mem_singleton.1 ht]
    exact ⟨⟨by omega, by omega⟩, h3⟩
/-- What lays keeps it so. -/
def LayP (f : Nat → List St → Mk) : Prop := ∀ next ss, next < ss.length → OkS ss.length ss → LOk ss.length (f next ss)
theorem fits_zero' : Fits zero4 := fits_zero
theorem iterN_ok (f : Mk → Mk) (n : Nat) (h : ∀ x, LOk n x → LOk n (f x)) (j : Nat) : ∀ x, LOk n x → LOk n (iterN f j x) := by
  induction j with
  | zero => intro x hx; exact hx
  | succ j ih => intro x hx; exact ih _ (h x hx)
theorem foldl_ok {α : Type} (f : Mk → α → Mk) (n : Nat) (l : List α) (h : ∀ x i, i ∈ l → LOk n x → LOk n (f x i)) : ∀ x, LOk n x → LOk n (l.foldl f x) := by
  induction l with
  | nil => intro x hx; exact hx
  | cons i l ih =>
    intro x hx
    exact ih (fun y j hj => h y j (List.mem_cons_of_mem _ hj)) _ (h x i List.mem_cons_self hx)
theorem ringN_ok (f : Nat → List St → Mk) (hf : LayP f) (next : Nat) (ss : List St) (hn : next < ss.length) (h : OkS ss.length ss) : LOk ss.length (ringN f next ss) := by
  have h0 := LOk.put (Nat.le_refl _) h (forkS 0 next) (by show 0 < _; omega) hn fits_zero'
  have h1 := hf ss.length (ss ++ [forkS 0 next]) (by simp) h0.ok
  obtain ⟨r, hr⟩ : ∃ r, r = f ss.length (ss ++ [forkS 0 next]) := ⟨_, rfl⟩
  rw [← hr] at h1
  have hl : ss.length + 1 ≤ r.2.length := by have := h1.len; simpa using this
  unfold ringN
  rw [← hr]
  refine ⟨by rw [setNx_len]; show ss.length < _; omega, fun t ht => ?_, by rw [setNx_len]; show ss.length ≤ _; omega⟩
  rw [setNx_len]
  unfold setNx at ht
  split at ht
  · rename_i s hs
    rcases List.mem_or_eq_of_mem_set ht with ht | rfl
    · exact h1.ok t ht
    · have := h1.ok s (List.mem_of_getElem? hs)
      exact ⟨⟨h1.start, this.1.2⟩, this.2⟩
  · exact h1.ok t ht
theorem layN_ok (d : Nat) : ∀ (q : Plan), Wf d q → LayP (layN d q) := by
  induction d with
  | zero => intro q h; exact h.elim
  | succ d ih =>
    intro q h next ss hn hs
    have hw := h.1
    have h0 : LOk ss.length (next, ss) := ⟨hn, hs, Nat.le_refl _⟩
    unfold layN
    split
    · rename_i hk
      refine LOk.put (Nat.le_refl _) hs _ hn (by show 0 < _; omega) ?_
      unfold leafS
      simp only
      split
      · exact hw.fits
      · exact fits_zero'
    · split
      · unfold catN
        refine foldl_ok _ _ _ (fun x i _ hx => ?_) _ h0
        exact (ih _ (h.2 _ (List.getElem_mem i.isLt)) x.1 x.2 hx.start hx.ok).less hx.len
      · split
        · rename_i hk
          obtain ⟨hne, _⟩ := hw.alt hk
          unfold altN
          rw [List.getLast?_eq_some_getLast hne]
          simp only
          refine foldl_ok _ _ _ (fun x i _ hx => ?_) _ ((ih _ (h.2 _ (List.getLast_mem hne)) next ss hn hs))
          have hm : q.kids.dropLast[i] ∈ q.kids := List.dropLast_subset _ (List.getElem_mem i.isLt)
          have h1 := ih _ (h.2 _ hm) next x.2 (Nat.lt_of_lt_of_le hn hx.len) hx.ok
          unfold branchN
          exact LOk.put (Nat.le_trans hx.len h1.len) h1.ok _ h1.start (Nat.lt_of_lt_of_le hx.start h1.len) fits_zero'
        · split
          · rename_i hk
            obtain ⟨c, hc, l0, l1, lh, hr⟩ := hw.rep hk
            rw [hc]
            simp only
            have hcw : LayP (layN d c) := ih c (h.2 c (by rw [hc]; exact List.mem_singleton_self c))
            unfold timesN
            refine iterN_ok _ _ (fun x hx => (hcw x.1 x.2 hx.start hx.ok).less hx.len) _ _ (iterN_ok _ _ (fun x hx => ?_) _ _ ?_)
            · have h1 := hcw x.1 x.2 hx.start hx.ok
              unfold mayN
              exact LOk.put (Nat.le_trans hx.len h1.len) h1.ok _ h1.start (Nat.lt_of_lt_of_le hn (Nat.le_trans hx.len h1.len)) fits_zero'
            · split
              · exact ringN_ok _ hcw next ss hn hs
              · exact h0
          · exact h0
/-- A machine that was laid holds together. -/
theorem ssOk_of (q : Plan) (d : Nat) (hw : Wf d q) (g : St) (hg : g.nx = 0 ∧ g.ot = 0 ∧ Fits g.f) : SsOk (layN d q 0 [g]).2 ∧ (layN d q 0 [g]).1 < (layN d q 0 [g]).2.length := by
  have h := layN_ok d q hw 0 [g] (by simp) (fun s hs => by rw [List.mem_singleton.1 hs]; exact ⟨⟨by rw [hg.1]; exact Nat.zero_lt_one, by rw [hg.2.1]; exact Nat.zero_lt_one⟩, hg.2.2⟩)
  have hl := layN_len d q 0 [g] hw
  have hn := hw.own.n
  refine ⟨⟨by have := h.start; omega, by simp at hl; omega, fun s hs => (h.ok s hs).1, fun s hs => (h.ok s hs).2⟩, h.start⟩
end Go.Proofs.YtimipfdknfdbdaaGreatDoor
