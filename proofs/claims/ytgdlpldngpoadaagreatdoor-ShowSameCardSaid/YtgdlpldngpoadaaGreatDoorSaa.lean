/- Merged by program: Base, Nd, NdSame. -/
import Derived.Test.YtgdlpldngpoadaaGreatDoorRows
import Derived.WalkKit
import Derived.WalkSpells
import Derived.WalkLawsBesides
import Derived.Lib.Hide
import Derived.LoopTactic
import Derived.Laws.RangeAny
import Derived.Laws.OwnMore
import Derived.OwnWalk
import Derived.WalkSmall
import Derived.Lib.OthersKept
import Derived.Deep.QuietTactic
import Derived.BigQuiet
import Derived.Deep.DeepCutAuto
import Derived.Deep.CutBlock
import Derived.Deep.RegionHeld3
import Derived.Deep.WholeRow
import Derived.Laws.StructEq
import Derived.RegionTactic
import Derived.Laws.Bits64
import Derived.Laws.Bits64b
import Derived.KernelRfl
import Derived.Lib.Strings
import Derived.Lib.ConvBytes
/- What every text here stands on: the imports of the walk, plain lemmas. -/
namespace Go.Proofs.YtgdlpldngpoadaaGreatDoor
open Go.RowKit

theorem own : ownKnob Tryz.prog.godebug = none := by kernel_rfl

theorem Below.drewN' {B : Nat} {a w : World} (h : Below B a w) (n : Nat) : Below B a (w.drewN n) := by
  induction n with
  | zero => exact h
  | succ n ih => exact ⟨ih.os, ih.tape, ih.output, ih.size, ih.block⟩

theorem Below.step {w w1 w2 : World} (h : Below w.heap.size w w1) (h2 : Below w1.heap.size w1 w2) : Below w.heap.size w w2 :=
  h.trans (h2.mono h.size)
theorem below_new (w : World) (o : Obj) : Below w.heap.size w (w.alloc o) := (Below.refl _ _).alloc (Nat.le_refl _) o
theorem below_drew (w : World) : Below w.heap.size w w.drew := (Below.refl _ _).drew

theorem cell_lt {W : World} {a : Addr} {v : Value} (h : W.cell? a = some v) : a.block < W.heap.size := by
  rcases Nat.lt_or_ge a.block W.heap.size with h' | h'
  · exact h'
  · exfalso
    have e : W.heap[a.block]? = none := Array.getElem?_eq_none h'
    simp [World.cell?, e] at h

theorem cell_other {w : World} {a b : Addr} {v : Value} (h : a ≠ b) : (w.setCell a v).cell? b = w.cell? b := World.cell?_setCell_other w a b v h
theorem cell_same {w : World} {a : Addr} {v u : Value} (h : w.cell? a = some u) : (w.setCell a v).cell? a = some v := World.cell?_setCell_same w a v h

theorem ret_i64 {a b : Int} (h : a = b) : Ending.returned (.int .i64 a) = .returned (.int .i64 b) := by rw [h]
theorem ret_str {a b : ByteArray} (h : a = b) : Ending.returned (.string a) = .returned (.string b) := by rw [h]
theorem ret_bool {a b : Bool} (h : a = b) : Ending.returned (.bool a) = .returned (.bool b) := by rw [h]
end Go.Proofs.YtgdlpldngpoadaaGreatDoor

/- Programs' trees: plain Lean, and trees in memory. -/
namespace Go.Proofs.YtgdlpldngpoadaaGreatDoor
open Go.RowKit

/-- A program's tree. -/
inductive Nd where
  | mk (k : Int) (s : ByteArray) (n a : Int) (l : List Nd) (p : List ByteArray)
namespace Nd
def k : Nd → Int | .mk k _ _ _ _ _ => k
def s : Nd → ByteArray | .mk _ s _ _ _ _ => s
def n : Nd → Int | .mk _ _ n _ _ _ => n
def a : Nd → Int | .mk _ _ _ a _ _ => a
def kids : Nd → List Nd | .mk _ _ _ _ l _ => l
def p : Nd → List ByteArray | .mk _ _ _ _ _ p => p
theorem eta (t : Nd) : t = .mk t.k t.s t.n t.a t.kids t.p := by cases t; rfl
end Nd

/-- A tree's six cells. -/
def ndC (k : Int) (s : ByteArray) (n a : Int) (sl sp : Value) : Array Value := #[.int .i64 k, .string s, .int .i64 n, .int .i64 a, sl, sp]
theorem ndC_size (k : Int) (s : ByteArray) (n a : Int) (sl sp : Value) : (ndC k s n a sl sp).size = 6 := rfl

def Six (w : World) (b o : Nat) (cs : Array Value) : Prop := ∀ j, j < 6 → w.cell? ⟨b, o + j, none⟩ = cs[j]?

/-- Texts lie in a slice, in blocks of S. -/
def PAt (w : World) (S : Nat → Prop) (l : List ByteArray) (v : Value) : Prop :=
  (l = [] ∧ ∃ a c, v = .slice a 0 c ∧ (a = none → c = 0)) ∨
  (l ≠ [] ∧ ∃ (b off c : Nat), v = .slice (some ⟨b, off, none⟩) l.length c ∧ l.length ≤ c ∧ S b ∧ ∀ i (h : i < l.length), w.cell? ⟨b, off + i, none⟩ = some (.string l[i]))

/-- A tree lies in memory, in blocks of S: what its six cells are. -/
inductive At (w : World) (S : Nat → Prop) : Nd → Array Value → Prop
  | leaf (k : Int) (s : ByteArray) (n a : Int) (p : List ByteArray) (x : Option Addr) (c : Nat) (sp : Value) (hp : PAt w S p sp) : At w S (.mk k s n a [] p) (ndC k s n a (.slice x 0 c) sp)
  | node (k : Int) (s : ByteArray) (n a : Int) (l : List Nd) (p : List ByteArray) (b off c : Nat) (sp : Value) (cs : Nat → Array Value) (hl : l ≠ []) (hc : l.length ≤ c) (hB : S b) (hp : PAt w S p sp)
      (h6 : ∀ i, i < l.length → Six w b (off + i * 6) (cs i)) (hk : ∀ i (h : i < l.length), At w S l[i] (cs i)) : At w S (.mk k s n a l p) (ndC k s n a (.slice (some ⟨b, off, none⟩) l.length c) sp)

/-- Trees lie in a slice. -/
def SlAt (w : World) (S : Nat → Prop) (l : List Nd) (v : Value) : Prop :=
  (l = [] ∧ ∃ a c, v = .slice a 0 c) ∨
  (l ≠ [] ∧ ∃ (b off c : Nat) (cs : Nat → Array Value), v = .slice (some ⟨b, off, none⟩) l.length c ∧ l.length ≤ c ∧ S b ∧ (∀ i, i < l.length → Six w b (off + i * 6) (cs i)) ∧ ∀ i (h : i < l.length), At w S l[i] (cs i))

theorem At.open {w : World} {S : Nat → Prop} {t : Nd} {cs : Array Value} (h : At w S t cs) : ∃ sl sp, cs = ndC t.k t.s t.n t.a sl sp ∧ SlAt w S t.kids sl ∧ PAt w S t.p sp := by
  cases h with
  | leaf k s n a p x c sp hp => exact ⟨_, _, rfl, Or.inl ⟨rfl, _, _, rfl⟩, hp⟩
  | node k s n a l p b off c sp cs hl hc hB hp h6 hk => exact ⟨_, _, rfl, Or.inr ⟨hl, b, off, c, cs, rfl, hc, hB, h6, hk⟩, hp⟩
theorem SlAt.shut {w : World} {S : Nat → Prop} {l : List Nd} {p : List ByteArray} {sl sp : Value} (h : SlAt w S l sl) (hp : PAt w S p sp) (k : Int) (s : ByteArray) (n a : Int) : At w S (.mk k s n a l p) (ndC k s n a sl sp) := by
  rcases h with ⟨rfl, x, c, rfl⟩ | ⟨hl, b, off, c, cs, rfl, hc, hB, h6, hk⟩
  · exact .leaf k s n a p x c sp hp
  · exact .node k s n a l p b off c sp cs hl hc hB hp h6 hk
theorem SlAt.shape {w : World} {S : Nat → Prop} {l : List Nd} {v : Value} (h : SlAt w S l v) : ∃ a c, v = .slice a l.length c := by
  rcases h with ⟨rfl, a, c, rfl⟩ | ⟨hl, b, off, c, cs, rfl, _⟩
  · exact ⟨_, _, rfl⟩
  · exact ⟨_, _, rfl⟩
theorem PAt.shape {w : World} {S : Nat → Prop} {l : List ByteArray} {v : Value} (h : PAt w S l v) : ∃ a c, v = .slice a l.length c := by
  rcases h with ⟨rfl, a, c, rfl, _⟩ | ⟨hl, b, off, c, rfl, _⟩
  · exact ⟨_, _, rfl⟩
  · exact ⟨_, _, rfl⟩
theorem SlAt.nil (w : World) (S : Nat → Prop) (a : Option Addr) (c : Nat) : SlAt w S [] (.slice a 0 c) := Or.inl ⟨rfl, _, _, rfl⟩
theorem PAt.nil (w : World) (S : Nat → Prop) (a : Option Addr) (c : Nat) (h : a = none → c = 0) : PAt w S [] (.slice a 0 c) := Or.inl ⟨rfl, _, _, rfl, h⟩
theorem PAt.zero (w : World) (S : Nat → Prop) : PAt w S [] (.slice none 0 0) := .nil _ _ _ _ fun _ => rfl
/-- A tree's cells, with the shape of its slices. -/
theorem At.opens {w : World} {S : Nat → Prop} {t : Nd} {cs : Array Value} (h : At w S t cs) : ∃ x c y d, cs = ndC t.k t.s t.n t.a (.slice x t.kids.length c) (.slice y t.p.length d) ∧ SlAt w S t.kids (.slice x t.kids.length c) ∧ PAt w S t.p (.slice y t.p.length d) := by
  obtain ⟨sl, sp, rfl, hs, hp⟩ := h.open
  obtain ⟨a, c, rfl⟩ := hs.shape
  obtain ⟨b, d, rfl⟩ := hp.shape
  exact ⟨a, c, b, d, rfl, hs, hp⟩
theorem At.size {w : World} {S : Nat → Prop} {t : Nd} {cs : Array Value} (h : At w S t cs) : cs.size = 6 := by
  obtain ⟨sl, sp, rfl, _⟩ := h.open
  rfl

theorem Six.lt {w : World} {b o : Nat} {cs : Array Value} (h : Six w b o cs) (hs : cs.size = 6) : b < w.heap.size := by
  have h0 := h 0 (by omega)
  rw [Array.getElem?_eq_getElem (by omega)] at h0
  exact cell_lt h0
theorem Six.keep {w w' : World} {b o : Nat} {cs : Array Value} (h : Six w b o cs) (e : w'.heap[b]? = w.heap[b]?) : Six w' b o cs :=
  fun j hj => by rw [World.cell?_of_block (a := ⟨b, o + j, none⟩) e]; exact h j hj
theorem PAt.keep {w w' : World} {S : Nat → Prop} {l : List ByteArray} {v : Value} (h : PAt w S l v) (e : ∀ k, S k → k < w.heap.size → w'.heap[k]? = w.heap[k]?) : PAt w' S l v := by
  rcases h with h | ⟨hl, b, off, c, rfl, hc, hB, hk⟩
  · exact Or.inl h
  · have h0 : 0 < l.length := by cases l with | nil => exact absurd rfl hl | cons => simp
    exact Or.inr ⟨hl, b, off, c, rfl, hc, hB, fun i hi => by rw [World.cell?_of_block (a := ⟨b, off + i, none⟩) (e b hB (cell_lt (hk 0 h0)))]; exact hk i hi⟩
theorem PAt.weakS {w : World} {S T : Nat → Prop} {l : List ByteArray} {v : Value} (h : PAt w S l v) (e : ∀ k, S k → T k) : PAt w T l v := by
  rcases h with h | ⟨hl, b, off, c, rfl, hc, hB, hk⟩
  · exact Or.inl h
  · exact Or.inr ⟨hl, b, off, c, rfl, hc, e b hB, hk⟩
theorem At.keep {w w' : World} {S : Nat → Prop} {t : Nd} {cs : Array Value} (h : At w S t cs) (e : ∀ k, S k → k < w.heap.size → w'.heap[k]? = w.heap[k]?) : At w' S t cs := by
  induction h with
  | leaf k s n a p x c sp hp => exact .leaf k s n a p x c sp (hp.keep e)
  | node k s n a l p b off c sp cs hl hc hB hp h6 hk ih =>
    exact .node k s n a l p b off c sp cs hl hc hB (hp.keep e) (fun i hi => (h6 i hi).keep (e b hB ((h6 i hi).lt (hk i hi).size))) ih
theorem At.weakS {w : World} {S T : Nat → Prop} {t : Nd} {cs : Array Value} (h : At w S t cs) (e : ∀ k, S k → T k) : At w T t cs := by
  induction h with
  | leaf k s n a p x c sp hp => exact .leaf k s n a p x c sp (hp.weakS e)
  | node k s n a l p b off c sp cs hl hc hB hp h6 hk ih => exact .node k s n a l p b off c sp cs hl hc (e b hB) (hp.weakS e) h6 ih
/-- All blocks from C on. -/
def Up (C : Nat) : Nat → Prop := fun b => C ≤ b
theorem At.weak {w : World} {B C : Nat} {t : Nd} {cs : Array Value} (h : At w (Up B) t cs) (e : C ≤ B) : At w (Up C) t cs := h.weakS fun _ hk => Nat.le_trans e hk
theorem SlAt.keep {w w' : World} {S : Nat → Prop} {l : List Nd} {v : Value} (h : SlAt w S l v) (e : ∀ k, S k → k < w.heap.size → w'.heap[k]? = w.heap[k]?) : SlAt w' S l v := by
  rcases h with h | ⟨hl, b, off, c, cs, rfl, hc, hB, h6, hk⟩
  · exact Or.inl h
  · exact Or.inr ⟨hl, b, off, c, cs, rfl, hc, hB, fun i hi => (h6 i hi).keep (e b hB ((h6 i hi).lt (hk i hi).size)), fun i hi => (hk i hi).keep e⟩
theorem SlAt.weakS {w : World} {S T : Nat → Prop} {l : List Nd} {v : Value} (h : SlAt w S l v) (e : ∀ k, S k → T k) : SlAt w T l v := by
  rcases h with h | ⟨hl, b, off, c, cs, rfl, hc, hB, h6, hk⟩
  · exact Or.inl h
  · exact Or.inr ⟨hl, b, off, c, cs, rfl, hc, e b hB, h6, fun i hi => (hk i hi).weakS e⟩
theorem At.after {w w' : World} {S : Nat → Prop} {t : Nd} {cs : Array Value} (h : At w S t cs) (hb : Below w.heap.size w w') : At w' S t cs := h.keep fun k _ hk => hb.block k hk
theorem SlAt.after {w w' : World} {S : Nat → Prop} {l : List Nd} {v : Value} (h : SlAt w S l v) (hb : Below w.heap.size w w') : SlAt w' S l v := h.keep fun k _ hk => hb.block k hk
theorem PAt.after {w w' : World} {S : Nat → Prop} {l : List ByteArray} {v : Value} (h : PAt w S l v) (hb : Below w.heap.size w w') : PAt w' S l v := h.keep fun k _ hk => hb.block k hk
theorem Six.after {w w' : World} {b o : Nat} {cs : Array Value} (h : Six w b o cs) (hs : cs.size = 6) (hb : Below w.heap.size w w') : Six w' b o cs := h.keep (hb.block b (h.lt hs))

/-- A block of a tree's six cells. -/
structure Box (w : World) (b : Nat) (cs : Array Value) : Prop where
  row : w.heap[b]? = some (.cells cs 25 (0, 0))
theorem Box.lt {w : World} {b : Nat} {cs : Array Value} (h : Box w b cs) : b < w.heap.size := (Array.getElem?_eq_some_iff.1 h.row).1
theorem Box.c {w : World} {b : Nat} {cs : Array Value} (h : Box w b cs) (j : Nat) : w.cell? ⟨b, j, none⟩ = cs[j]? := cell_of_row _ _ j _ _ _ h.row
theorem Box.z {w : World} {b : Nat} {cs : Array Value} (h : Box w b cs) (j : Nat) : w.frozen? ⟨b, j, none⟩ = false := frozen_of_row _ _ j _ _ h.row
theorem Box.six {w : World} {b : Nat} {cs : Array Value} (h : Box w b cs) : Six w b 0 cs := fun j _ => by rw [Nat.zero_add]; exact h.c j
theorem Box.after {w w' : World} {b : Nat} {cs : Array Value} (h : Box w b cs) (hb : Below w.heap.size w w') : Box w' b cs := ⟨by rw [hb.block b h.lt]; exact h.row⟩
theorem Box.setRow {w : World} {b : Nat} {cs : Array Value} (h : Box w b cs) (ds : Array Value) : Box (w.setRow b ds) b ds := ⟨setRow_heap _ _ _ _ _ _ h.row⟩
theorem box_new (w : World) (cs : Array Value) : Box (w.alloc (.cells cs 25)) w.heap.size cs := ⟨heap_alloc_last w _⟩
theorem nd_box (w : World) (cs : Array Value) : ∃ W, W = w.alloc (.cells cs 25) ∧ Hid (Box W w.heap.size cs) ∧ Hid (Below w.heap.size w W) ∧ Hid (W.heap.size = w.heap.size + 1) :=
  ⟨_, rfl, Lib.hid (box_new w cs), Lib.hid (below_new w _), Lib.hid (World.size_alloc _ _)⟩

/-- The six cells, each by itself. -/
theorem six_nd {w : World} {b o : Nat} {k : Int} {s : ByteArray} {n a : Int} {sl sp : Value} (h : Six w b o (ndC k s n a sl sp)) :
    w.cell? ⟨b, o, none⟩ = some (.int .i64 k) ∧ w.cell? ⟨b, o + 1, none⟩ = some (.string s) ∧ w.cell? ⟨b, o + 2, none⟩ = some (.int .i64 n) ∧ w.cell? ⟨b, o + 3, none⟩ = some (.int .i64 a) ∧ w.cell? ⟨b, o + 4, none⟩ = some sl ∧ w.cell? ⟨b, o + 5, none⟩ = some sp :=
  ⟨h 0 (by omega), h 1 (by omega), h 2 (by omega), h 3 (by omega), h 4 (by omega), h 5 (by omega)⟩
end Go.Proofs.YtgdlpldngpoadaaGreatDoor

/- The document's Names, Same: walks. -/
namespace Go.Proofs.YtgdlpldngpoadaaGreatDoor
open Go.RowKit

def bytesP (l : List ByteArray) : List (List UInt8) := l.map (·.data.toList)
def namesB (l m : List ByteArray) : Bool := decide (bytesP l = bytesP m)
theorem namesB_refl (l : List ByteArray) : namesB l l = true := decide_eq_true rfl
theorem bytesP_len {l m : List ByteArray} (h : bytesP l = bytesP m) : l.length = m.length := by
  have := congrArg List.length h
  simpa [bytesP] using this
theorem PAt.cell {w : World} {S : Nat → Prop} {l : List ByteArray} {a : Option Addr} {c : Nat} (h : PAt w S l (.slice a l.length c)) (i : Nat) (hi : i < l.length) :
    ∃ b off, a = some ⟨b, off, none⟩ ∧ w.cell? ⟨b, off + i, none⟩ = some (.string l[i]) := by
  rcases h with ⟨rfl, _⟩ | ⟨hl, b, off, c', e, hc, hB, hk⟩
  · exact absurd hi (by simp)
  · simp only [Value.slice.injEq] at e
    obtain ⟨rfl, _, _⟩ := e
    exact ⟨b, off, rfl, hk i hi⟩

set_option maxRecDepth 100000 in
theorem names_spec (l m : List ByteArray) (v u : Value) (S T : Nat → Prop) (w : World) (hl : PAt w S l v) (hm : PAt w T m u) (hb : l.length ≤ 9223372036854775807) :
    Calls Tryz.prog 21 #[v, u] w fun e w' => e = .returned (.bool (namesB l m)) ∧ Below w.heap.size w w' := by
  obtain ⟨a, c, rfl⟩ := hl.shape
  obtain ⟨a2, c2, rfl⟩ := hm.shape
  have HL := Lib.hid hl
  have HM := Lib.hid hm
  clear hl hm
  obtain ⟨n, hn⟩ : ∃ n, n = l.length := ⟨_, rfl⟩
  obtain ⟨k, hk⟩ : ∃ k, k = m.length := ⟨_, rfl⟩
  rw [← hn] at HL hb ⊢
  rw [← hk] at HM ⊢
  have HN := Lib.hid hn
  have HK := Lib.hid hk
  clear hn hk
  have hbi : (n : Int) ≤ 9223372036854775807 := by omega
  by_cases hne : n = k
  · subst hne
    go_enter Tryz.func21, Tryz.ntmps21
    go_wp2_with fail
    go_loopw [5] (fun y wr => ∃ i : Nat, y = .int .i64 i ∧ i ≤ n ∧ Hid (bytesP (l.take i) = bytesP (m.take i)) ∧ Hid (Below w.heap.size w wr)) (fun y _ => n - (intOf y).toNat)
    case atStart => exact ⟨0, rfl, by omega, Lib.hid rfl, Lib.hid (Below.refl _ _)⟩
    case round =>
      obtain ⟨i, rfl, hi, HE, hbw⟩ := hrel
      by_cases hgo : i < n
      · have HL1 := HL.out
        have HM1 := HM.out
        rw [HN.out] at HL1
        rw [HK.out] at HM1
        have hil : i < l.length := by rw [← HN.out]; exact hgo
        have him : i < m.length := by rw [← HK.out]; exact hgo
        obtain ⟨b, off, ea, e1⟩ := (HL1.after hbw.out).cell i hil
        obtain ⟨b2, off2, ea2, e2⟩ := (HM1.after hbw.out).cell i him
        obtain ⟨x, hx⟩ : ∃ x, x = l[i] := ⟨_, rfl⟩
        obtain ⟨y, hy⟩ : ∃ y, y = m[i] := ⟨_, rfl⟩
        rw [← hx] at e1
        rw [← hy] at e2
        subst ea ea2
        have HX : Hid (bytesP (l.take (i + 1)) = bytesP (l.take i) ++ [x.toList]) := Lib.hid (by rw [List.take_succ_eq_append_getElem hil, ← hx, Lib.toList_data]; simp [bytesP])
        have HY : Hid (bytesP (m.take (i + 1)) = bytesP (m.take i) ++ [y.toList]) := Lib.hid (by rw [List.take_succ_eq_append_getElem him, ← hy, Lib.toList_data]; simp [bytesP])
        clear hx hy HL1 HM1 hil him
        by_cases hq : x.toList = y.toList
        · have hqb : (x.toList == y.toList) = true := by rw [hq]; exact beq_self_eq_true _
          have HQ := Lib.hid hq
          clear hq
          go_wp2_with fail
          go_quiet (fail)
          go_wp2_with fail
          go_roundw
          case rel => exact ⟨i + 1, by go_num, by omega, Lib.hid (by rw [HX.out, HY.out, HE.out, HQ.out]), by first | exact hbw | exact Lib.hid (Below.drewN' hbw.out _)⟩
          case measure => simp [intOf]; omega
        · have hqb : (x.toList == y.toList) = false := beq_eq_false_iff_ne.2 hq
          have HQ := Lib.hid hq
          have HF : Hid (namesB l m = false) := Lib.hid (decide_eq_false (fun h => HQ.out (by
            have h1 : bytesP (l.take (i + 1)) = bytesP (m.take (i + 1)) := by unfold bytesP at h ⊢; rw [List.map_take, List.map_take, h]
            rw [HX.out, HY.out, HE.out] at h1
            simpa using h1)))
          clear hq
          go_wp2_with fail
          go_quiet (fail)
          go_wp2_with fail
          go_ret
          exact ⟨by rw [HF.out]; rfl, by first | exact hbw.out | exact Below.drewN' hbw.out _⟩
      · have hin : i = n := by omega
        subst hin
        have HF : Hid (namesB l m = true) := Lib.hid (decide_eq_true (by
          have h1 := HE.out
          rw [HN.out, List.take_length, ← HN.out, HK.out, List.take_length] at h1
          exact h1))
        go_wp2_with fail
        go_ret
        exact ⟨by rw [HF.out]; rfl, hbw.out⟩
  · have hnb : ((n : Int) == k) = false := by simp; omega
    have HF : Hid (namesB l m = false) := Lib.hid (decide_eq_false (fun h => hne (by rw [HN.out, HK.out]; exact bytesP_len h)))
    clear hne
    go_enter Tryz.func21, Tryz.ntmps21
    go_wp2_with fail
    go_ret
    exact ⟨by rw [HF.out]; rfl, by first | exact Below.refl _ _ | exact Below.drewN' (Below.refl _ _) _⟩

/-- So many storeys, none too wide. -/
def Low : Nat → Nd → Prop
  | 0, _ => False
  | n + 1, t => t.kids.length ≤ 1000000 ∧ t.p.length ≤ 9223372036854775807 ∧ ∀ c, c ∈ t.kids → Low n c
/-- Whether two trees are one; wh: their places, too. -/
def headB (wh : Bool) (t u : Nd) : Bool := (t.k == u.k) && ((t.s.toList == u.s.toList) && ((t.n == u.n) && ((!wh || t.a == u.a) && (namesB t.p u.p && decide (t.kids.length = u.kids.length)))))
def allB (f : Nd → Nd → Bool) : List Nd → List Nd → Bool
  | a :: l, b :: m => f a b && allB f l m
  | _, _ => true
def sameF : Nat → Bool → Nd → Nd → Bool
  | 0, _, _, _ => true
  | n + 1, wh, t, u => headB wh t u && allB (sameF n wh) t.kids u.kids
theorem allB_take (f : Nd → Nd → Bool) : ∀ (l m : List Nd) (i : Nat) (hl : i < l.length) (hm : i < m.length), allB f (l.take (i + 1)) (m.take (i + 1)) = (allB f (l.take i) (m.take i) && f l[i] m[i])
  | [], _, i, hl, _ => absurd hl (by simp)
  | _ :: _, [], i, _, hm => absurd hm (by simp)
  | a :: l, b :: m, 0, _, _ => by simp [allB]
  | a :: l, b :: m, i + 1, hl, hm => by
    have := allB_take f l m i (by simpa using hl) (by simpa using hm)
    simp only [List.take_succ_cons, allB, List.getElem_cons_succ, this, Bool.and_assoc]
theorem allB_no (f : Nd → Nd → Bool) : ∀ (l m : List Nd) (i : Nat) (hl : i < l.length) (hm : i < m.length), f l[i] m[i] = false → allB f l m = false
  | [], _, i, hl, _, _ => absurd hl (by simp)
  | _ :: _, [], i, _, hm, _ => absurd hm (by simp)
  | a :: l, b :: m, 0, _, _, h => by simp at h; simp [allB, h]
  | a :: l, b :: m, i + 1, hl, hm, h => by
    have := allB_no f l m i (by simpa using hl) (by simpa using hm) (by simpa using h)
    simp [allB, this]
theorem sameF_refl (n : Nat) (wh : Bool) : ∀ t, sameF n wh t t = true := by
  induction n with
  | zero => intro t; rfl
  | succ n ih =>
    intro t
    have : ∀ l, allB (sameF n wh) l l = true := by
      intro l
      induction l with
      | nil => rfl
      | cons a l il => simp [allB, ih a, il]
    simp [sameF, headB, namesB_refl, this]

theorem keep14 {w0 w1 w2 : World} {a0 a1 a2 a3 a4 a5 a6 a7 a8 a9 a10 a11 a12 a13 : Addr} {v0 v1 v2 v3 v4 v5 v6 v7 v8 v9 v10 v11 v12 v13 : Value} (h : Hid (Below w0.heap.size w0 w1) ∧ w1.cell? a0 = some v0 ∧ w1.cell? a1 = some v1 ∧ w1.cell? a2 = some v2 ∧ w1.cell? a3 = some v3 ∧ w1.cell? a4 = some v4 ∧ w1.cell? a5 = some v5 ∧ w1.cell? a6 = some v6 ∧ w1.cell? a7 = some v7 ∧ w1.cell? a8 = some v8 ∧ w1.cell? a9 = some v9 ∧ w1.cell? a10 = some v10 ∧ w1.cell? a11 = some v11 ∧ w1.cell? a12 = some v12 ∧ w1.cell? a13 = some v13) (hb : Below w1.heap.size w1 w2) :
    Hid (Below w0.heap.size w0 w2) ∧ w2.cell? a0 = some v0 ∧ w2.cell? a1 = some v1 ∧ w2.cell? a2 = some v2 ∧ w2.cell? a3 = some v3 ∧ w2.cell? a4 = some v4 ∧ w2.cell? a5 = some v5 ∧ w2.cell? a6 = some v6 ∧ w2.cell? a7 = some v7 ∧ w2.cell? a8 = some v8 ∧ w2.cell? a9 = some v9 ∧ w2.cell? a10 = some v10 ∧ w2.cell? a11 = some v11 ∧ w2.cell? a12 = some v12 ∧ w2.cell? a13 = some v13 := by
  obtain ⟨h0, e0, e1, e2, e3, e4, e5, e6, e7, e8, e9, e10, e11, e12, e13⟩ := h
  have keep : ∀ {a : Addr} {v : Value}, w1.cell? a = some v → w2.cell? a = some v := fun {a v} e => by rw [hb.cell (p := a) (cell_lt e)]; exact e
  exact ⟨Lib.hid (Below.step h0.out hb), keep e0, keep e1, keep e2, keep e3, keep e4, keep e5, keep e6, keep e7, keep e8, keep e9, keep e10, keep e11, keep e12, keep e13⟩

/-- Two boxes of two trees. -/
structure Two (w V : World) (t u : Nd) (S T : Nat → Prop) (x : Option Addr) (c : Nat) (y : Option Addr) (d : Nat) (x2 : Option Addr) (c2 : Nat) (y2 : Option Addr) (d2 : Nat) : Prop where
  b1 : Box V w.heap.size (ndC t.k t.s t.n t.a (.slice x t.kids.length c) (.slice y t.p.length d))
  b2 : Box V (w.heap.size + 1) (ndC u.k u.s u.n u.a (.slice x2 u.kids.length c2) (.slice y2 u.p.length d2))
  s1 : SlAt V S t.kids (.slice x t.kids.length c)
  s2 : SlAt V T u.kids (.slice x2 u.kids.length c2)
  p1 : PAt V S t.p (.slice y t.p.length d)
  p2 : PAt V T u.p (.slice y2 u.p.length d2)
  below : Below w.heap.size w V
theorem Two.after {w V V' : World} {t u : Nd} {S T : Nat → Prop} {x : Option Addr} {c : Nat} {y : Option Addr} {d : Nat} {x2 : Option Addr} {c2 : Nat} {y2 : Option Addr} {d2 : Nat} (h : Two w V t u S T x c y d x2 c2 y2 d2) (hb : Below V.heap.size V V') : Two w V' t u S T x c y d x2 c2 y2 d2 :=
  ⟨h.b1.after hb, h.b2.after hb, h.s1.after hb, h.s2.after hb, h.p1.after hb, h.p2.after hb, Below.step h.below hb⟩

set_option maxRecDepth 100000 in
set_option maxHeartbeats 1000000 in
theorem same_head (wh : Bool) (t u : Nd) (cs ds : Array Value) (S T : Nat → Prop) (w : World) (h : At w S t cs) (g : At w T u ds) (hp : t.p.length ≤ 9223372036854775807) (hh : headB wh t u = false) :
    Calls Tryz.prog 10 #[.agg cs, .agg ds, .bool wh] w fun e w' => e = .returned (.bool false) ∧ Below w.heap.size w w' := by
  obtain ⟨x, c, y, d, rfl, hs, hq⟩ := h.opens
  obtain ⟨x2, c2, y2, d2, rfl, hs2, hq2⟩ := g.opens
  clear h g
  go_enter Tryz.func10, Tryz.ntmps10
  go_upto_region 1 with (fail)
  obtain ⟨W, hW, hX, hB, hsz⟩ := nd_box w (ndC t.k t.s t.n t.a (.slice x t.kids.length c) (.slice y t.p.length d))
  obtain ⟨V, hV, hY, hBV, _⟩ := nd_box W (ndC u.k u.s u.n u.a (.slice x2 u.kids.length c2) (.slice y2 u.p.length d2))
  rw [hsz.out] at hY
  change Code.wp _ _ _ _ ((w.alloc (Obj.cells (ndC t.k t.s t.n t.a (.slice x t.kids.length c) (.slice y t.p.length d)) 25)).alloc (Obj.cells (ndC u.k u.s u.n u.a (.slice x2 u.kids.length c2) (.slice y2 u.p.length d2)) 25))
  rw [← hW, ← hV]
  have HB := Lib.hid (Below.step hB.out hBV.out)
  obtain ⟨c0, c1, c2', c3, c4, c5⟩ := six_nd (hX.out.after hBV.out).six
  obtain ⟨d0, d1, d2', d3, d4, d5⟩ := six_nd hY.out.six
  have HNm := Lib.hid (names_spec t.p u.p _ _ S T V (hq.after HB.out) (hq2.after HB.out) hp)
  clear hW hV hX hY hBV hsz hB hs hs2 hq hq2 hp
  unfold headB at hh
  by_cases e0 : t.k = u.k
  case neg =>
    have b0 : (t.k != u.k) = true := by simpa using e0
    clear hh e0
    go_wp2_with fail
    go_ret
    exact ⟨rfl, HB.out⟩
  have b0' : (t.k == u.k) = true := by simpa using e0
  have b0 : (t.k != u.k) = false := by simpa using e0
  rw [b0', Bool.true_and] at hh
  clear e0 b0'
  by_cases e1 : t.s.toList = u.s.toList
  case neg =>
    have b1 : (t.s.toList == u.s.toList) = false := by simpa using e1
    clear hh e1
    go_wp2_with fail
    go_ret
    exact ⟨rfl, HB.out⟩
  have b1 : (t.s.toList == u.s.toList) = true := by simpa using e1
  rw [b1, Bool.true_and] at hh
  clear e1
  by_cases e2 : t.n = u.n
  case neg =>
    have b2 : (t.n != u.n) = true := by simpa using e2
    clear hh e2
    go_wp2_with fail
    go_ret
    exact ⟨rfl, HB.out⟩
  have b2' : (t.n == u.n) = true := by simpa using e2
  have b2 : (t.n != u.n) = false := by simpa using e2
  rw [b2', Bool.true_and] at hh
  clear e2 b2'
  have fin : ∀ (wh : Bool), wh = true ∨ wh = false := by intro wh; cases wh <;> simp
  by_cases e3 : (!wh || t.a == u.a) = true
  case neg =>
    have b3 : wh = true ∧ (t.a != u.a) = true := by
      cases wh <;> simp at e3 ⊢
      exact e3
    obtain ⟨rfl, b3⟩ := b3
    clear hh e3 fin
    go_wp2_with fail
    go_ret
    exact ⟨rfl, HB.out⟩
  rw [e3, Bool.true_and] at hh
  rcases hP : namesB t.p u.p with _ | _
  · rw [hP] at HNm
    clear hh hP
    cases wh
    case false =>
      clear e3 fin
      go_wp2_with fail
      refine HNm.out.mono ?_
      rintro e w1 ⟨rfl, bb⟩
      have B1 := Lib.hid (Below.step HB.out bb)
      clear bb
      go_wp2_with fail
      go_ret
      exact ⟨rfl, B1.out⟩
    case true =>
      have b3 : (t.a != u.a) = false := by simpa using e3
      clear e3 fin
      go_wp2_with fail
      refine HNm.out.mono ?_
      rintro e w1 ⟨rfl, bb⟩
      have B1 := Lib.hid (Below.step HB.out bb)
      clear bb
      go_wp2_with fail
      go_ret
      exact ⟨rfl, B1.out⟩
  · rw [hP] at HNm hh
    rw [Bool.true_and] at hh
    have b4 : ((t.kids.length : Int) != (u.kids.length : Int)) = true := by
      have : t.kids.length ≠ u.kids.length := by simpa using hh
      simp; omega
    clear hh hP
    cases wh
    case false =>
      clear e3 fin
      go_wp2_with fail
      refine HNm.out.mono ?_
      rintro e w1 ⟨rfl, bb⟩
      have B1 := Lib.hid (Below.step HB.out bb)
      have keep : ∀ {a : Addr} {v : Value}, V.cell? a = some v → w1.cell? a = some v := fun {a v} e => by rw [bb.cell (p := a) (cell_lt e)]; exact e
      have c4' := keep c4
      have d4' := keep d4
      clear bb keep
      go_wp2_with fail
      go_ret
      exact ⟨rfl, B1.out⟩
    case true =>
      have b3 : (t.a != u.a) = false := by simpa using e3
      clear e3 fin
      go_wp2_with fail
      refine HNm.out.mono ?_
      rintro e w1 ⟨rfl, bb⟩
      have B1 := Lib.hid (Below.step HB.out bb)
      have keep : ∀ {a : Addr} {v : Value}, V.cell? a = some v → w1.cell? a = some v := fun {a v} e => by rw [bb.cell (p := a) (cell_lt e)]; exact e
      have c4' := keep c4
      have d4' := keep d4
      clear bb keep
      go_wp2_with fail
      go_ret
      exact ⟨rfl, B1.out⟩
end Go.Proofs.YtgdlpldngpoadaaGreatDoor
