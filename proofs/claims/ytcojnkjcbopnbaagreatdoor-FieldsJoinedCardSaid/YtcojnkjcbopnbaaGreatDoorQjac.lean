/- Merged by program: PostD, PostAct, FOwn, Set, Quad, Tree. -/
import Derived.ProofKit
import Derived.OpenShut
import Derived.Deep.DeepHandedRow
import Derived.Lib.LaidTab
import GoSem.PinnedTables
import Derived.Lib.SmallJoins
import Derived.Test.YtcojnkjcbopnbaaGreatDoorQjaa
import Derived.Test.YtcojnkjcbopnbaaGreatDoorQjab
/- What a row asks behind a call whose arguments lead to no memory and which makes new memory at most; the two tables as the program's text lays them. -/
namespace Go.Proofs.YtcojnkjcbopnbaaGreatDoor
open Go.ChangeShapes Go.WideShapes Go.ChangeAt Go.RowKit Go.ChangeMaps

theorem nat_byte {a : Int} (h : (Lit.int .u8 a).wf = true) : ∃ n : Nat, a = n ∧ n < 256 := by
  have e1 : IntKind.u8.min = 0 := by decide
  have e2 : IntKind.u8.max = 255 := by decide
  simp [Lit.wf, e1, e2] at h
  exact ⟨a.toNat, by omega, by omega⟩
theorem max_cell {w : World} (h : w.ShapedOpen Tryz.prog) : ∃ m : Int, w.cell? ⟨0, 0, none⟩ = some (.int .i64 m) := Tryz.laysM219.s1_3 w h

theorem post_bare {H : Type} {enc : TypeId × Value → H} {f : Func} {s : ChangeSpec} {fresh handsOn : Bool} {W W' : World} {args : Array Value} {v : Value} {ds gs : List (DataW H)}
    (hW : DataW.Whole enc Tryz.prog f.params.toList s.vars false W args.toList ds gs [])
    (hres : ∀ (b : Nat) (sp : Nat → Bool) (hd : Bool), DataW.TrodAll enc Tryz.prog W' b sp hd f.resultTypes.toList (v.resultList f.resultTypes.size) (s.fn H (ds ++ gs)).results [])
    (hargs : ∀ sp : Nat → Bool, DataW.TrodAll enc Tryz.prog W' 0 sp true f.params.toList args.toList (s.fn H (ds ++ gs)).args [])
    (hvars : ∀ sp : Nat → Bool, DataW.TrodVars enc Tryz.prog W' sp s.vars (s.fn H (ds ++ gs)).vars [])
    (hb : Below W.heap.size W W') :
    s.post enc Tryz.prog f false fresh handsOn false W args v W' := by
  refine ⟨ds, gs, [], [], [], [], hW, hres _ _ _, hargs _, hvars _, World.keptBut_mono (fun p hp => ?_) (hb.frame (fun _ => False)), fun h => ?_⟩
  · exact absurd hp (by simp)
  · exact absurd h (by simp)

def layFirst : Obj → Obj
  | .cells _ t frozen => .cells (Go.Pinned.utf8FirstZ.map fun (n : Nat) => Value.int .u8 (n : Int)).toArray t frozen
  | o => o
def layRanges : Obj → Obj
  | .cells _ t frozen => .cells #[.int .u8 128, .int .u8 191, .int .u8 160, .int .u8 191, .int .u8 128, .int .u8 159, .int .u8 144, .int .u8 191, .int .u8 128, .int .u8 143, .int .u8 0, .int .u8 0, .int .u8 0, .int .u8 0, .int .u8 0, .int .u8 0, .int .u8 0, .int .u8 0, .int .u8 0, .int .u8 0, .int .u8 0, .int .u8 0, .int .u8 0, .int .u8 0, .int .u8 0, .int .u8 0, .int .u8 0, .int .u8 0, .int .u8 0, .int .u8 0, .int .u8 0, .int .u8 0] t frozen
  | o => o
/-- The settled world, unicode/utf8's two tables laid as their initialisers lay them. -/
noncomputable def laidWorld (os : Os) : World :=
  { World.holding Tryz.prog os ⟨#[], #[], []⟩ with heap := ((World.holding Tryz.prog os ⟨#[], #[], []⟩).heap.modify 1 layFirst).modify 2 layRanges }
end Go.Proofs.YtcojnkjcbopnbaaGreatDoor

/- An act as an argument. -/
namespace Go.Proofs.YtcojnkjcbopnbaaGreatDoor
open Go.ChangeShapes Go.WideShapes Go.ChangeAt Go.RowKit Go.ChangeMaps

theorem cells_act : Tryz.prog.cellsOf 30 = 4 := by kernel_rfl
def actV (k n : Int) (s u : ByteArray) : Value := .agg #[.int .i64 k, .int .i64 n, .string s, .string u]
def actD {H : Type} (k n : Int) (s u : ByteArray) : DataW H := .agg [.lit (.int .i64 k), .lit (.int .i64 n), .lit (.string s.data.toList), .lit (.string u.data.toList)]
def ActFits (k n : Int) (s u : ByteArray) : Prop := (Lit.int .i64 k).wf = true ∧ (Lit.int .i64 n).wf = true ∧ s.size ≤ maxLen ∧ u.size ≤ maxLen

set_option maxRecDepth 100000 in
theorem open_act {H : Type} {enc : TypeId × Value → H} {W : World} {base b0 : Nat} {sp : Nat → Bool} {hd : Bool} {v : Value} {d : DataW H} {p : List MemPlace} (hv : Value.okWide Tryz.prog W .any b0 30 v) (h : DataW.Trod enc Tryz.prog W base sp hd 30 v d p) :
    ∃ (k n : Int) (s u : ByteArray), v = actV k n s u ∧ d = actD k n s u ∧ p = [] ∧ ActFits k n s u := by
  obtain ⟨c0, c1, c2, c3, y0, y1, y2, y3, m, rfl, rfl, rfl, hy0, hy1, hy2, hy3⟩ := Joins.open_agg4 Tryz.underlying30 (by kernel_rfl) cells_act hv h
  obtain ⟨k, e0, rfl, w0⟩ := DataW.trod_int Tryz.underlying3 hy0
  obtain ⟨n, e1, rfl, w1⟩ := DataW.trod_int Tryz.underlying3 hy1
  obtain ⟨s, e2, rfl, w2⟩ := DataW.trod_string Tryz.underlying9 hy2
  obtain ⟨u, e3, rfl, w3⟩ := DataW.trod_string Tryz.underlying9 hy3
  simp at e0 e1 e2 e3
  subst e0 e1 e2 e3
  exact ⟨k, n, s, u, rfl, rfl, rfl, w0, w1, w2, w3⟩

set_option maxRecDepth 100000 in
theorem shut_act {H : Type} {enc : TypeId × Value → H} {W : World} {base : Nat} {sp : Nat → Bool} {hd : Bool} {k n : Int} {s u : ByteArray} (hf : ActFits k n s u) :
    DataW.Trod enc Tryz.prog W base sp hd 30 (actV k n s u) (actD k n s u) [] := by
  obtain ⟨wk, wn, ws, wu⟩ := hf
  unfold actV actD
  simpa using Joins.shut_agg4 (enc := enc) (w := W) (base := base) (spare := sp) (held := hd) (y0 := (.lit (.int .i64 k), [])) (y1 := (.lit (.int .i64 n), [])) (y2 := (.lit (.string s.data.toList), [])) (y3 := (.lit (.string u.data.toList), [])) Tryz.underlying30 (by kernel_rfl) cells_act
    ⟨1, by simp [DataW.trod, Tryz.underlying3, wk]⟩ ⟨1, by simp [DataW.trod, Tryz.underlying3, wn]⟩ ⟨1, by simp [DataW.trod, Tryz.underlying9, ws]⟩ ⟨1, by simp [DataW.trod, Tryz.underlying9, wu]⟩
end Go.Proofs.YtcojnkjcbopnbaaGreatDoor

/- Rows of texts that a call has made, by their base: plain. -/
namespace Go.Proofs.YtcojnkjcbopnbaaGreatDoor
open Go.RowKit

theorem own_low {w : World} {B B' : Nat} {e : TypeId} {size n : Nat} {v : Value} {xs : List Value} (h : w.ownsRow B e size v n xs) (hle : B' ≤ B) : w.ownsRow B' e size v n xs := by
  refine ⟨h.1, ?_⟩
  rcases h.2 with h0 | ⟨g', cap', cur', e1, hbg, hg, rest⟩
  · exact Or.inl h0
  · exact Or.inr ⟨g', cap', cur', e1, Nat.le_trans hle hbg, hg, rest⟩

/-- A slice of texts that was made since. -/
def NewStrs (w w' : World) (v : Value) (l : List ByteArray) : Prop := w'.ownsRow w.heap.size 9 1 v l.length (l.map Value.string)
theorem NewStrs.shape {w w' : World} {v : Value} {l : List ByteArray} (h : NewStrs w w' v l) : ∃ a c, v = .slice a l.length c := by
  rcases h.2 with ⟨e, h0⟩ | ⟨g', cap', cur, e, _⟩
  · exact ⟨none, 0, by rw [e, h0]⟩
  · exact ⟨_, _, e⟩
end Go.Proofs.YtcojnkjcbopnbaaGreatDoor

/- Sets of bytes as four words: plain Lean. -/
namespace Go.Proofs.YtcojnkjcbopnbaaGreatDoor

/-- The four words of a set. -/
def words (f : Nat → Nat) : Array Value := #[.int .u64 (f 0), .int .u64 (f 1), .int .u64 (f 2), .int .u64 (f 3)]
/-- Whether a byte is in it. -/
def bit (f : Nat → Nat) (c : Nat) : Bool := (f (c / 64)).testBit (c % 64)
def Fits (f : Nat → Nat) : Prop := ∀ k, k < 4 → f k < 18446744073709551616

theorem words_get (f : Nat → Nat) {k : Nat} (h : k < 4) : (words f)[k]? = some (.int .u64 (f k)) := by
  have : k = 0 ∨ k = 1 ∨ k = 2 ∨ k = 3 := by omega
  rcases this with rfl | rfl | rfl | rfl <;> rfl
theorem words_set (f : Nat → Nat) {k : Nat} (h : k < 4) (x : Nat) : (words f).setIfInBounds k (.int .u64 x) = words (fun j => if j = k then x else f j) := by
  have : k = 0 ∨ k = 1 ∨ k = 2 ∨ k = 3 := by omega
  rcases this with rfl | rfl | rfl | rfl <;> rfl
theorem words_congr {f g : Nat → Nat} (h : ∀ k, k < 4 → f k = g k) : words f = words g := by
  unfold words
  rw [h 0 (by omega), h 1 (by omega), h 2 (by omega), h 3 (by omega)]

theorem word_ext {f g : Nat → Nat} (hf : Fits f) (hg : Fits g) (h : ∀ c, c < 256 → bit f c = bit g c) : ∀ k, k < 4 → f k = g k := by
  intro k hk
  apply Nat.eq_of_testBit_eq
  intro i
  rcases Nat.lt_or_ge i 64 with hi | hi
  · have h1 := h (64 * k + i) (by omega)
    unfold bit at h1
    have e1 : (64 * k + i) / 64 = k := by omega
    have e2 : (64 * k + i) % 64 = i := by omega
    rwa [e1, e2] at h1
  · have hp : 18446744073709551616 ≤ 2 ^ i := Nat.pow_le_pow_right (n := 2) (i := 64) (by decide) hi
    rw [Nat.testBit_lt_two_pow (Nat.lt_of_lt_of_le (hf k hk) hp), Nat.testBit_lt_two_pow (Nat.lt_of_lt_of_le (hg k hk) hp)]
theorem words_ext {f g : Nat → Nat} (hf : Fits f) (hg : Fits g) (h : ∀ c, c < 256 → bit f c = bit g c) : words f = words g := words_congr (word_ext hf hg h)

theorem bit_of (x k : Nat) : x.testBit k = ((x >>> k) % 2 == 1) := by
  rw [Nat.testBit_eq_decide_div_mod_eq, Nat.shiftRight_eq_div_pow]
  by_cases h : x / 2 ^ k % 2 = 1 <;> simp [h]
end Go.Proofs.YtcojnkjcbopnbaaGreatDoor

/- A set's four words in memory. -/
namespace Go.Proofs.YtcojnkjcbopnbaaGreatDoor
open Go.RowKit

structure Quad (w : World) (b : Nat) (f : Nat → Nat) : Prop where
  c : ∀ k, k < 4 → w.cell? ⟨b, k, none⟩ = some (.int .u64 (f k))
  z : ∀ k, k < 4 → w.frozen? ⟨b, k, none⟩ = false

theorem Quad.lt {w : World} {b : Nat} {f : Nat → Nat} (h : Quad w b f) : b < w.heap.size := cell_lt (h.c 0 (by omega))
theorem Quad.below {w w' : World} {b B : Nat} {f : Nat → Nat} (h : Quad w b f) (hb : Below B w w') (hB : b < B) : Quad w' b f := by
  have hlt := h.lt
  exact ⟨fun k hk => by rw [hb.cell (p := ⟨b, k, none⟩) hB]; exact h.c k hk, fun k hk => by rw [hb.frozen (p := ⟨b, k, none⟩) hB]; exact h.z k hk⟩
theorem Quad.after {w w' : World} {b : Nat} {f : Nat → Nat} (h : Quad w b f) (hb : Below w.heap.size w w') : Quad w' b f := h.below hb h.lt
theorem Quad.congr {w : World} {b : Nat} {f g : Nat → Nat} (h : Quad w b f) (e : ∀ k, k < 4 → f k = g k) : Quad w b g :=
  ⟨fun k hk => by rw [← e k hk]; exact h.c k hk, h.z⟩
theorem quad_new (w : World) (f : Nat → Nat) (t : TypeId) : Quad (w.alloc (.cells (words f) t)) w.heap.size f := by
  refine ⟨fun k hk => ?_, fun k hk => ?_⟩
  · rw [cell_of_row _ _ k (words f) t (0, 0) (heap_alloc_last w _)]; exact words_get f hk
  · exact frozen_of_row _ _ k (words f) t (heap_alloc_last w _)
theorem addr_ne {b k b' k' : Nat} (h : b ≠ b' ∨ k ≠ k') : (⟨b, k, none⟩ : Addr) ≠ ⟨b', k', none⟩ := by
  intro e
  injection e with e1 e2
  rcases h with h | h
  · exact h e1
  · exact h e2
theorem Quad.set {w : World} {b : Nat} {f : Nat → Nat} (h : Quad w b f) {k : Nat} (hk : k < 4) (x : Nat) :
    Quad (w.setCell ⟨b, k, none⟩ (.int .u64 x)) b (fun j => if j = k then x else f j) := by
  refine ⟨fun j hj => ?_, fun j hj => ?_⟩
  · by_cases e : j = k
    · subst e
      rw [if_pos rfl]
      exact cell_same (h.c j hj)
    · rw [if_neg e, cell_other (addr_ne (Or.inr (Ne.symm e)))]
      exact h.c j hj
  · rw [World.frozen?_setCell]; exact h.z j hj
theorem Quad.other {w : World} {b : Nat} {f : Nat → Nat} (h : Quad w b f) {b' k : Nat} (hb : b ≠ b') (v : Value) : Quad (w.setCell ⟨b', k, none⟩ v) b f := by
  refine ⟨fun j hj => ?_, fun j hj => ?_⟩
  · rw [cell_other (addr_ne (Or.inl (Ne.symm hb)))]; exact h.c j hj
  · rw [World.frozen?_setCell]; exact h.z j hj
/-- The four words of a block stored to. -/
def put4 (w : World) (b : Nat) (f : Nat → Nat) : World :=
  (((w.setCell ⟨b, 0, none⟩ (.int .u64 (f 0))).setCell ⟨b, 1, none⟩ (.int .u64 (f 1))).setCell ⟨b, 2, none⟩ (.int .u64 (f 2))).setCell ⟨b, 3, none⟩ (.int .u64 (f 3))
theorem Quad.put4 {w : World} {b : Nat} {g : Nat → Nat} (h : Quad w b g) (f : Nat → Nat) : Quad (put4 w b f) b f := by
  refine ((((h.set (k := 0) (by omega) (f 0)).set (k := 1) (by omega) (f 1)).set (k := 2) (by omega) (f 2)).set (k := 3) (by omega) (f 3)).congr ?_
  intro k hk
  have : k = 0 ∨ k = 1 ∨ k = 2 ∨ k = 3 := by omega
  rcases this with rfl | rfl | rfl | rfl <;> rfl
theorem Quad.put4_other {w : World} {b : Nat} {g : Nat → Nat} (h : Quad w b g) {b' : Nat} (hb : b ≠ b') (f : Nat → Nat) : Quad (Go.Proofs.YtcojnkjcbopnbaaGreatDoor.put4 w b' f) b g :=
  (((h.other hb _).other hb _).other hb _).other hb _
theorem below_put4 {B : Nat} {w w' : World} (h : Below B w w') {b : Nat} (hb : B ≤ b) (f : Nat → Nat) : Below B w (put4 w' b f) :=
  (((h.setCell (by simpa using hb) _).setCell (by simpa using hb) _).setCell (by simpa using hb) _).setCell (by simpa using hb) _

def zero4 : Nat → Nat := fun _ => 0
theorem fits_zero : Fits zero4 := fun _ _ => by unfold zero4; decide
theorem bit_zero (c : Nat) : bit zero4 c = false := by simp [bit, zero4]
theorem boxed2 (w : World) (f g : Nat → Nat) (t u : TypeId) : ∃ W, W = (w.alloc (.cells (words f) t)).alloc (.cells (words g) u) ∧ Hid (Quad W w.heap.size f) ∧ Hid (Quad W (w.heap.size + 1) g) ∧ Hid (Below w.heap.size w W) := by
  refine ⟨_, rfl, Lib.hid ((quad_new w f t).after (below_new _ _)), ?_, Lib.hid (Below.step (below_new _ _) (below_new _ _))⟩
  have h := quad_new (w.alloc (.cells (words f) t)) g u
  rw [World.size_alloc] at h
  exact Lib.hid h
theorem boxed3 (w : World) (f g h : Nat → Nat) (t u v : TypeId) : ∃ W, W = ((w.alloc (.cells (words f) t)).alloc (.cells (words g) u)).alloc (.cells (words h) v) ∧ Hid (Quad W w.heap.size f) ∧ Hid (Quad W (w.heap.size + 1) g) ∧ Hid (Quad W (w.heap.size + 1 + 1) h) ∧ Hid (Below w.heap.size w W) := by
  obtain ⟨W, hW, q0, q1, hb⟩ := boxed2 w f g t u
  have h2 := quad_new W h v
  have hs : W.heap.size = w.heap.size + 1 + 1 := by rw [hW, World.size_alloc, World.size_alloc]
  refine ⟨_, rfl, ?_, ?_, ?_, ?_⟩
  · rw [← hW]; exact Lib.hid (q0.out.after (below_new _ _))
  · rw [← hW]; exact Lib.hid (q1.out.after (below_new _ _))
  · rw [← hW, ← hs]; exact Lib.hid h2
  · rw [← hW]; exact Lib.hid (Below.step hb.out (below_new _ _))
/-- What a result's cells are read as, behind the store. -/
theorem put4_reads {w : World} {b : Nat} {g : Nat → Nat} (h : Quad w b g) (f : Nat → Nat) :
    (put4 w b f).cell? ⟨b, 0, none⟩ = some (.int .u64 (f 0)) ∧ (put4 w b f).cell? ⟨b, 1, none⟩ = some (.int .u64 (f 1)) ∧ (put4 w b f).cell? ⟨b, 2, none⟩ = some (.int .u64 (f 2)) ∧ (put4 w b f).cell? ⟨b, 3, none⟩ = some (.int .u64 (f 3)) :=
  ⟨(h.put4 f).c 0 (by omega), (h.put4 f).c 1 (by omega), (h.put4 f).c 2 (by omega), (h.put4 f).c 3 (by omega)⟩
end Go.Proofs.YtcojnkjcbopnbaaGreatDoor

/- Patterns' trees: plain Lean, and trees in memory. -/
namespace Go.Proofs.YtcojnkjcbopnbaaGreatDoor
open Go.RowKit

/-- A pattern's tree. -/
inductive Tree where
  | mk (k : Int) (f : Nat → Nat) (lo hi : Int) (l : List Tree)
namespace Tree
def k : Tree → Int | .mk k _ _ _ _ => k
def f : Tree → Nat → Nat | .mk _ f _ _ _ => f
def lo : Tree → Int | .mk _ _ lo _ _ => lo
def hi : Tree → Int | .mk _ _ _ hi _ => hi
def kids : Tree → List Tree | .mk _ _ _ _ l => l
theorem eta (t : Tree) : t = .mk t.k t.f t.lo t.hi t.kids := by cases t; rfl
end Tree

/-- A tree's eight cells. -/
def reC (k : Int) (f : Nat → Nat) (lo hi : Int) (sl : Value) : Array Value := #[.int .i64 k, .int .u64 (f 0), .int .u64 (f 1), .int .u64 (f 2), .int .u64 (f 3), .int .i64 lo, .int .i64 hi, sl]
theorem reC_size (k : Int) (f : Nat → Nat) (lo hi : Int) (sl : Value) : (reC k f lo hi sl).size = 8 := rfl
theorem reC_congr (k : Int) {f g : Nat → Nat} (lo hi : Int) (sl : Value) (h : ∀ i, i < 4 → f i = g i) : reC k f lo hi sl = reC k g lo hi sl := by
  unfold reC
  rw [h 0 (by omega), h 1 (by omega), h 2 (by omega), h 3 (by omega)]

def Eight (w : World) (b o : Nat) (cs : Array Value) : Prop := ∀ j, j < 8 → w.cell? ⟨b, o + j, none⟩ = cs[j]?

/-- A tree lies in memory, in blocks of S: what its eight cells are. -/
inductive At (w : World) (S : Nat → Prop) : Tree → Array Value → Prop
  | leaf (k : Int) (f : Nat → Nat) (lo hi : Int) (a : Option Addr) (c : Nat) : At w S (.mk k f lo hi []) (reC k f lo hi (.slice a 0 c))
  | node (k : Int) (f : Nat → Nat) (lo hi : Int) (l : List Tree) (b off c : Nat) (cs : Nat → Array Value) (hl : l ≠ []) (hc : l.length ≤ c) (hB : S b)
      (h8 : ∀ i, i < l.length → Eight w b (off + i * 8) (cs i)) (hk : ∀ i (h : i < l.length), At w S l[i] (cs i)) : At w S (.mk k f lo hi l) (reC k f lo hi (.slice (some ⟨b, off, none⟩) l.length c))

/-- Trees lie in a slice. -/
def SlAt (w : World) (S : Nat → Prop) (l : List Tree) (v : Value) : Prop :=
  (l = [] ∧ ∃ a c, v = .slice a 0 c) ∨
  (l ≠ [] ∧ ∃ (b off c : Nat) (cs : Nat → Array Value), v = .slice (some ⟨b, off, none⟩) l.length c ∧ l.length ≤ c ∧ S b ∧ (∀ i, i < l.length → Eight w b (off + i * 8) (cs i)) ∧ ∀ i (h : i < l.length), At w S l[i] (cs i))

theorem At.open {w : World} {S : Nat → Prop} {t : Tree} {cs : Array Value} (h : At w S t cs) : ∃ sl, cs = reC t.k t.f t.lo t.hi sl ∧ SlAt w S t.kids sl := by
  cases h with
  | leaf k f lo hi a c => exact ⟨_, rfl, Or.inl ⟨rfl, _, _, rfl⟩⟩
  | node k f lo hi l b off c cs hl hc hB h8 hk => exact ⟨_, rfl, Or.inr ⟨hl, b, off, c, cs, rfl, hc, hB, h8, hk⟩⟩
theorem SlAt.shut {w : World} {S : Nat → Prop} {l : List Tree} {sl : Value} (h : SlAt w S l sl) (k : Int) (f : Nat → Nat) (lo hi : Int) : At w S (.mk k f lo hi l) (reC k f lo hi sl) := by
  rcases h with ⟨rfl, a, c, rfl⟩ | ⟨hl, b, off, c, cs, rfl, hc, hB, h8, hk⟩
  · exact .leaf k f lo hi a c
  · exact .node k f lo hi l b off c cs hl hc hB h8 hk
theorem SlAt.shape {w : World} {S : Nat → Prop} {l : List Tree} {v : Value} (h : SlAt w S l v) : ∃ a c, v = .slice a l.length c := by
  rcases h with ⟨rfl, a, c, rfl⟩ | ⟨hl, b, off, c, cs, rfl, _⟩
  · exact ⟨_, _, rfl⟩
  · exact ⟨_, _, rfl⟩
theorem At.opens {w : World} {S : Nat → Prop} {t : Tree} {cs : Array Value} (h : At w S t cs) : ∃ a c, cs = reC t.k t.f t.lo t.hi (.slice a t.kids.length c) ∧ SlAt w S t.kids (.slice a t.kids.length c) := by
  obtain ⟨sl, rfl, hs⟩ := h.open
  obtain ⟨a, c, rfl⟩ := hs.shape
  exact ⟨a, c, rfl, hs⟩
theorem At.size {w : World} {S : Nat → Prop} {t : Tree} {cs : Array Value} (h : At w S t cs) : cs.size = 8 := by
  obtain ⟨sl, rfl, _⟩ := h.open
  rfl

theorem Eight.lt {w : World} {b o : Nat} {cs : Array Value} (h : Eight w b o cs) (hs : cs.size = 8) : b < w.heap.size := by
  have h0 := h 0 (by omega)
  rw [Array.getElem?_eq_getElem (by omega)] at h0
  exact cell_lt h0
theorem Eight.keep {w w' : World} {b o : Nat} {cs : Array Value} (h : Eight w b o cs) (e : w'.heap[b]? = w.heap[b]?) : Eight w' b o cs :=
  fun j hj => by rw [World.cell?_of_block (a := ⟨b, o + j, none⟩) e]; exact h j hj

theorem At.keep {w w' : World} {S : Nat → Prop} {t : Tree} {cs : Array Value} (h : At w S t cs) (e : ∀ k, S k → k < w.heap.size → w'.heap[k]? = w.heap[k]?) : At w' S t cs := by
  induction h with
  | leaf k f lo hi a c => exact .leaf k f lo hi a c
  | node k f lo hi l b off c cs hl hc hB h8 hk ih =>
    exact .node k f lo hi l b off c cs hl hc hB (fun i hi => (h8 i hi).keep (e b hB ((h8 i hi).lt (hk i hi).size))) ih
theorem At.weakS {w : World} {S T : Nat → Prop} {t : Tree} {cs : Array Value} (h : At w S t cs) (e : ∀ k, S k → T k) : At w T t cs := by
  induction h with
  | leaf k f lo hi a c => exact .leaf k f lo hi a c
  | node k f lo hi l b off c cs hl hc hB h8 hk ih => exact .node k f lo hi l b off c cs hl hc (e b hB) h8 ih
/-- A tree's blocks are there. -/
theorem At.inWorld {w : World} {S : Nat → Prop} {t : Tree} {cs : Array Value} (h : At w S t cs) : At w (fun b => S b ∧ b < w.heap.size) t cs := by
  induction h with
  | leaf k f lo hi a c => exact .leaf k f lo hi a c
  | node k f lo hi l b off c cs hl hc hB h8 hk ih =>
    have h0 : 0 < l.length := by cases l with | nil => exact absurd rfl hl | cons => simp
    exact .node k f lo hi l b off c cs hl hc ⟨hB, (h8 0 h0).lt (hk 0 h0).size⟩ h8 ih
/-- All blocks from C on. -/
def Up (C : Nat) : Nat → Prop := fun b => C ≤ b
theorem At.weak {w : World} {B C : Nat} {t : Tree} {cs : Array Value} (h : At w (Up B) t cs) (e : C ≤ B) : At w (Up C) t cs := h.weakS fun _ hk => Nat.le_trans e hk
theorem SlAt.keep {w w' : World} {S : Nat → Prop} {l : List Tree} {v : Value} (h : SlAt w S l v) (e : ∀ k, S k → k < w.heap.size → w'.heap[k]? = w.heap[k]?) : SlAt w' S l v := by
  rcases h with h | ⟨hl, b, off, c, cs, rfl, hc, hB, h8, hk⟩
  · exact Or.inl h
  · exact Or.inr ⟨hl, b, off, c, cs, rfl, hc, hB, fun i hi => (h8 i hi).keep (e b hB ((h8 i hi).lt (hk i hi).size)), fun i hi => (hk i hi).keep e⟩
theorem At.after {w w' : World} {S : Nat → Prop} {t : Tree} {cs : Array Value} (h : At w S t cs) (hb : Below w.heap.size w w') : At w' S t cs := h.keep fun k _ hk => hb.block k hk
theorem SlAt.after {w w' : World} {S : Nat → Prop} {l : List Tree} {v : Value} (h : SlAt w S l v) (hb : Below w.heap.size w w') : SlAt w' S l v := h.keep fun k _ hk => hb.block k hk
theorem Eight.after {w w' : World} {b o : Nat} {cs : Array Value} (h : Eight w b o cs) (hs : cs.size = 8) (hb : Below w.heap.size w w') : Eight w' b o cs := h.keep (hb.block b (h.lt hs))

/-- All that was there stands, but one block. -/
structure But (p : Nat) (w w' : World) : Prop where
  os : w'.os = w.os
  tape : w'.tape = w.tape
  output : w'.output = w.output
  size : w.heap.size ≤ w'.heap.size
  block : ∀ k, k < w.heap.size → k ≠ p → w'.heap[k]? = w.heap[k]?
theorem But.refl (p : Nat) (w : World) : But p w w := ⟨rfl, rfl, rfl, Nat.le_refl _, fun _ _ _ => rfl⟩
theorem But.of {p : Nat} {w w' : World} (h : Below w.heap.size w w') : But p w w' := ⟨h.os, h.tape, h.output, h.size, fun k hk _ => h.block k hk⟩
theorem But.trans {p : Nat} {w w1 w2 : World} (h : But p w w1) (g : But p w1 w2) : But p w w2 :=
  ⟨g.os.trans h.os, g.tape.trans h.tape, g.output.trans h.output, Nat.le_trans h.size g.size, fun k hk hp => (g.block k (Nat.lt_of_lt_of_le hk h.size) hp).trans (h.block k hk hp)⟩
theorem But.then {p : Nat} {w w1 w2 : World} (h : But p w w1) (g : Below w1.heap.size w1 w2) : But p w w2 := h.trans (.of g)
theorem But.below {p B : Nat} {w w' : World} (h : But p w w') (hB : B ≤ p) (hs : B ≤ w.heap.size) : Below B w w' :=
  ⟨h.os, h.tape, h.output, h.size, fun k hk => h.block k (by omega) (by omega)⟩
theorem At.butS {p : Nat} {w w' : World} {S : Nat → Prop} {t : Tree} {cs : Array Value} (h : At w S t cs) (hb : But p w w') (hp : ¬ S p) : At w' S t cs := h.keep fun k hB hk => hb.block k hk (fun e => hp (e ▸ hB))
theorem SlAt.butS {p : Nat} {w w' : World} {S : Nat → Prop} {l : List Tree} {v : Value} (h : SlAt w S l v) (hb : But p w w') (hp : ¬ S p) : SlAt w' S l v := h.keep fun k hB hk => hb.block k hk (fun e => hp (e ▸ hB))
theorem At.but {p : Nat} {w w' : World} {B : Nat} {t : Tree} {cs : Array Value} (h : At w (Up B) t cs) (hb : But p w w') (hp : p < B) : At w' (Up B) t cs := h.butS hb (by unfold Up; omega)
theorem SlAt.but {p : Nat} {w w' : World} {B : Nat} {l : List Tree} {v : Value} (h : SlAt w (Up B) l v) (hb : But p w w') (hp : p < B) : SlAt w' (Up B) l v := h.butS hb (by unfold Up; omega)

theorem below_setRow {B : Nat} {w w' : World} (h : Below B w w') {b : Nat} (hb : B ≤ b) (q : Array Value) : Below B w (w'.setRow b q) :=
  ⟨h.os, h.tape, h.output, by have := h.size; simpa [World.setRow] using this, fun k hk => by rw [Go.setRow_other _ _ _ _ (by omega)]; exact h.block k hk⟩


/-- A block of a tree's eight cells. -/
structure Box (w : World) (b : Nat) (cs : Array Value) : Prop where
  row : w.heap[b]? = some (.cells cs 68 (0, 0))
theorem Box.lt {w : World} {b : Nat} {cs : Array Value} (h : Box w b cs) : b < w.heap.size := (Array.getElem?_eq_some_iff.1 h.row).1
theorem Box.c {w : World} {b : Nat} {cs : Array Value} (h : Box w b cs) (j : Nat) : w.cell? ⟨b, j, none⟩ = cs[j]? := cell_of_row _ _ j _ _ _ h.row
theorem Box.z {w : World} {b : Nat} {cs : Array Value} (h : Box w b cs) (j : Nat) : w.frozen? ⟨b, j, none⟩ = false := frozen_of_row _ _ j _ _ h.row
theorem Box.eight {w : World} {b : Nat} {cs : Array Value} (h : Box w b cs) : Eight w b 0 cs := fun j _ => by rw [Nat.zero_add]; exact h.c j
theorem Box.after {w w' : World} {b : Nat} {cs : Array Value} (h : Box w b cs) (hb : Below w.heap.size w w') : Box w' b cs := ⟨by rw [hb.block b h.lt]; exact h.row⟩
theorem Box.but {p : Nat} {w w' : World} {b : Nat} {cs : Array Value} (h : Box w b cs) (hb : But p w w') (hp : b ≠ p) : Box w' b cs := ⟨by rw [hb.block b h.lt hp]; exact h.row⟩
theorem Box.setRow {w : World} {b : Nat} {cs : Array Value} (h : Box w b cs) (ds : Array Value) : Box (w.setRow b ds) b ds := ⟨setRow_heap _ _ _ _ _ _ h.row⟩
theorem box_new (w : World) (cs : Array Value) : Box (w.alloc (.cells cs 68)) w.heap.size cs := ⟨heap_alloc_last w _⟩
theorem re_box (w : World) (cs : Array Value) : ∃ W, W = w.alloc (.cells cs 68) ∧ Hid (Box W w.heap.size cs) ∧ Hid (Below w.heap.size w W) ∧ Hid (W.heap.size = w.heap.size + 1) :=
  ⟨_, rfl, Lib.hid (box_new w cs), Lib.hid (below_new w _), Lib.hid (World.size_alloc _ _)⟩
def zeroR : Array Value := reC 0 zero4 0 0 (.slice none 0 0)

/-- The eight cells, each by itself. -/
theorem eight_re {w : World} {b o : Nat} {k : Int} {f : Nat → Nat} {lo hi : Int} {sl : Value} (h : Eight w b o (reC k f lo hi sl)) :
    w.cell? ⟨b, o, none⟩ = some (.int .i64 k) ∧ w.cell? ⟨b, o + 1, none⟩ = some (.int .u64 (f 0)) ∧ w.cell? ⟨b, o + 2, none⟩ = some (.int .u64 (f 1)) ∧ w.cell? ⟨b, o + 3, none⟩ = some (.int .u64 (f 2)) ∧ w.cell? ⟨b, o + 4, none⟩ = some (.int .u64 (f 3)) ∧
    w.cell? ⟨b, o + 5, none⟩ = some (.int .i64 lo) ∧ w.cell? ⟨b, o + 6, none⟩ = some (.int .i64 hi) ∧ w.cell? ⟨b, o + 7, none⟩ = some sl :=
  ⟨h 0 (by omega), h 1 (by omega), h 2 (by omega), h 3 (by omega), h 4 (by omega), h 5 (by omega), h 6 (by omega), h 7 (by omega)⟩
theorem eight_zero {w : World} {b o : Nat} {k lo hi : Int} {sl : Value} (h : Eight w b o (reC k zero4 lo hi sl)) :
    w.cell? ⟨b, o, none⟩ = some (.int .i64 k) ∧ w.cell? ⟨b, o + 1, none⟩ = some (.int .u64 0) ∧ w.cell? ⟨b, o + 2, none⟩ = some (.int .u64 0) ∧ w.cell? ⟨b, o + 3, none⟩ = some (.int .u64 0) ∧ w.cell? ⟨b, o + 4, none⟩ = some (.int .u64 0) ∧
    w.cell? ⟨b, o + 5, none⟩ = some (.int .i64 lo) ∧ w.cell? ⟨b, o + 6, none⟩ = some (.int .i64 hi) ∧ w.cell? ⟨b, o + 7, none⟩ = some sl := eight_re h
end Go.Proofs.YtcojnkjcbopnbaaGreatDoor
