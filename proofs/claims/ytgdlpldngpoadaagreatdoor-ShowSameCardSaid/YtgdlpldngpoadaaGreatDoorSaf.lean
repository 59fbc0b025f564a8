/- Merged by program: RWords, RNext. -/
import Derived.Maps.AppendAt
import Derived.RegionTactic
import Derived.BigRegion
import Derived.Laws.Tables
import Derived.Test.YtgdlpldngpoadaaGreatDoorSae
/- The document's Words, of a text whose tokens are told step by step: a walk. -/
namespace Go.Proofs.YtgdlpldngpoadaaGreatDoor
open Go.RowKit

theorem info_tokr : (Tryz.prog.info? 68).map (fun i => (i.zero, i.size, i.bytes)) = some (some (.agg #[.int .i64 0, .string ⟨#[]⟩, .int .i64 0]), 3, 32) := by kernel_rfl
def tkV (T : Tok) : List Value := [.int .i64 T.K, .string T.S, .int .i64 T.A]
def tksV (l : List Tok) : List Value := l.flatMap tkV
theorem tksV_snoc (l : List Tok) (T : Tok) : tksV (l ++ [T]) = tksV l ++ tkV T := by simp [tksV]
theorem tksV_len (l : List Tok) : (tksV l).length = l.length * 3 := by
  induction l with
  | nil => rfl
  | cons a l ih =>
    have : tksV (a :: l) = tkV a ++ tksV l := rfl
    rw [this, List.length_append, ih]
    show 3 + l.length * 3 = (l.length + 1) * 3
    omega
theorem tksV_get : ∀ (l : List Tok) (i : Nat) (h : i < l.length) (r : Nat), r < 3 → (tksV l)[i * 3 + r]? = (tkV l[i])[r]?
  | [], i, h, _, _ => absurd h (by simp)
  | a :: l, 0, _, r, hr => by
    have : tksV (a :: l) = tkV a ++ tksV l := rfl
    rw [this, Nat.zero_mul, Nat.zero_add, List.getElem?_append_left (by show r < 3; exact hr)]
    rfl
  | a :: l, i + 1, h, r, hr => by
    have e : tksV (a :: l) = tkV a ++ tksV l := rfl
    rw [e, List.getElem?_append_right (by show 3 ≤ _; omega)]
    have e2 : (i + 1) * 3 + r - (tkV a).length = i * 3 + r := by show (i + 1) * 3 + r - 3 = _; omega
    rw [e2]
    exact tksV_get l i (by simpa using h) r hr
/-- Tokens in a block. -/
structure TkAt (w : World) (g : Nat) (l : List Tok) : Prop where
  cell : ∀ i (h : i < l.length), w.cell? ⟨g, 0 + i * 3, none⟩ = some (.int .i64 l[i].K) ∧ w.cell? ⟨g, 0 + i * 3 + 1, none⟩ = some (.string l[i].S) ∧ w.cell? ⟨g, 0 + i * 3 + 2, none⟩ = some (.int .i64 l[i].A)
theorem TkAt.keep {w w' : World} {g : Nat} {l : List Tok} (h : TkAt w g l) (e : w'.heap[g]? = w.heap[g]?) : TkAt w' g l :=
  ⟨fun i hi => by
    obtain ⟨a, b, c⟩ := h.cell i hi
    exact ⟨by rw [World.cell?_of_block (a := ⟨g, 0 + i * 3, none⟩) e]; exact a, by rw [World.cell?_of_block (a := ⟨g, 0 + i * 3 + 1, none⟩) e]; exact b, by rw [World.cell?_of_block (a := ⟨g, 0 + i * 3 + 2, none⟩) e]; exact c⟩⟩
theorem tks_at {w : World} {base g n cap : Nat} {l : List Tok} (h : w.ownsRow base 68 3 (.slice (some ⟨g, 0, none⟩) n cap) l.length (tksV l)) : TkAt w g l := by
  refine ⟨fun i hi => ?_⟩
  have key : ∀ r, r < 3 → w.cell? ⟨g, 0 + i * 3 + r, none⟩ = (tkV l[i])[r]? := fun r hr => by
    rw [Nat.zero_add]
    have hc := h.cells (g := g) rfl (i * 3 + r)
    have hg := tksV_get l i hi r hr
    cases hx : (tkV l[i])[r]? with
    | none => exact absurd hx (by rw [List.getElem?_eq_none_iff]; show ¬ 3 ≤ r; omega)
    | some u => have := hc u (by rw [hg, hx]); simpa [Addr.add_lit] using this
  exact ⟨key 0 (by omega), key 1 (by omega), key 2 (by omega)⟩

/-- One token at i, the next one at j. -/
def RStep (s : ByteArray) (i : Nat) (T : Tok) (j : Nat) : Prop :=
  ∃ q : Nat, (∀ (v : Value) (w : World), Calls Tryz.prog 47 #[.string s, .int .i64 i, v] w fun e w' => e = .returned (.tuple #[.agg #[.int .i64 T.K, .string T.S, .int .i64 T.A], .int .i64 q, .int .i64 0]) ∧ Below w.heap.size w w') ∧
    (∀ w : World, Calls Tryz.prog 46 #[.string s, .int .i64 q] w fun e w' => e = .returned (.int .i64 j) ∧ w' = w)
inductive RSteps (s : ByteArray) : Nat → List Tok → Prop
  | done : RSteps s s.size []
  | step (i j : Nat) (T : Tok) (l : List Tok) (hi : i < s.size) (h : RStep s i T j) (hr : RSteps s j l) : RSteps s i (T :: l)
def endT (n : Nat) : Tok := ⟨0, ⟨#[]⟩, n⟩

theorem own_sl {w : World} {B : Nat} {e : TypeId} {v : Value} {n sz : Nat} {xs : List Value} (h : w.ownsRow B e sz v n xs) : ∃ a c, v = .slice a n c := by
  rcases h.2 with ⟨rfl, rfl⟩ | ⟨g, cap, cur, rfl, _⟩
  · exact ⟨_, _, rfl⟩
  · exact ⟨_, _, rfl⟩
theorem own_to {w w' : World} {base : Nat} {e : TypeId} {size : Nat} {v : Value} {n : Nat} {xs : List Value} (h : w.ownsRow base e size v n xs) (hb : Below w.heap.size w w') : w'.ownsRow base e size v n xs :=
  h.kept (row := none) ⟨hb.os, hb.tape, hb.output, hb.size, fun k hk _ => hb.block k hk⟩ (by cases v.ownBlock <;> simp)

def WordsOut (w : World) (l : List Tok) (e : Ending) (w' : World) : Prop := ∃ g c : Nat, e = .returned (.tuple #[.slice (some ⟨g, 0, none⟩) l.length c, .int .i64 0, .int .i64 0]) ∧ TkAt w' g l ∧ l.length ≤ c ∧ w.heap.size ≤ g ∧ g < w'.heap.size ∧ Below w.heap.size w w'

set_option maxRecDepth 100000 in
set_option maxHeartbeats 2000000 in
theorem rwords_spec (s : ByteArray) (hs : s.size ≤ 8000) (i0 : Nat) (L : List Tok) (hL : L.length ≤ 2000) (h0 : ∀ w : World, Calls Tryz.prog 46 #[.string s, .int .i64 0] w fun e w' => e = .returned (.int .i64 i0) ∧ w' = w) (hst : RSteps s i0 L) (w : World) :
    Calls Tryz.prog 24 #[.string s] w (WordsOut w (L ++ [endT s.size])) := by
  have H0 := Lib.hid h0
  have HST := Lib.hid hst
  obtain ⟨i1, hi, hz0, hz1, hz2⟩ := info_parts info_tokr
  have HInfo := Lib.hid (And.intro hi (And.intro hz0 (And.intro hz1 hz2)))
  clear hi hz0 hz1 hz2 h0 hst
  go_enter Tryz.func24, Tryz.ntmps24
  go_upto_region 4 with (fail)
  obtain ⟨V, hV⟩ : ∃ V, V = w.alloc (.cells #[] 68) := ⟨_, rfl⟩
  have HO : Hid (V.ownsRow w.heap.size 68 3 (.slice (some ⟨w.heap.size, 0, none⟩) 0 0) 0 (tksV [])) := Lib.hid (by rw [hV]; exact World.ownsRow_lit (base := w.heap.size) (e := 68) (size := 3) w #[] 0 (Nat.le_refl _) (by simp only [maxLen]; omega) (by simp))
  have HB : Hid (Below w.heap.size w V) := Lib.hid (by rw [hV]; exact below_new _ _)
  rw [← hV]
  clear hV
  go_wp2_with fail
  refine (H0.out _).mono ?_
  rintro e w1 ⟨rfl, rfl⟩
  go_wp2_with fail
  go_loopg [5, 6, 7, 8, 9] L.length (fun n x y _ _ _ wr => ∃ (p : Option Addr) (c k : Nat) (l r : List Tok), x = .slice p l.length c ∧ y = .int .i64 k ∧ Hid (r.length = n) ∧ Hid (l ++ r = L) ∧ k ≤ s.size ∧ Hid (RSteps s k r) ∧ Hid (wr.ownsRow w.heap.size 68 3 (.slice p l.length c) l.length (tksV l)) ∧ Hid (Below w.heap.size w wr))
  case atStart =>
    refine ⟨_, _, i0, [], L, rfl, rfl, Lib.hid rfl, Lib.hid rfl, ?_, HST, HO, HB⟩
    have := HST.out
    cases this with
    | done => omega
    | step j T l a hi h hr => omega
  case round =>
    obtain ⟨p, c, k, l, r, rfl, rfl, HN, HL, hk, HS, HR, HBr⟩ := hrel
    have HLN : Hid (l.length + r.length = L.length) := Lib.hid (by rw [← HL.out]; simp)
    have hl2 : l.length ≤ 2000 := by have := HLN.out; omega
    cases r with
    | nil =>
      have hks : k = s.size := by have := HS.out; cases this; rfl
      subst hks
      have hf : ((l.length : Int) == 3000) = false := by simp; omega
      have HLL : Hid (l = L) := Lib.hid (by have := HL.out; simpa using this)
      obtain ⟨hi, hz0, hz1, hz2⟩ := HInfo.out
      go_wp2_with (at_builtin; refine wpList_append_own _ rfl _ _ 46 rfl w.heap.size 68 i1 (.agg #[.int .i64 0, .string ⟨#[]⟩, .int .i64 0]) 3 32 Tryz.underlying46 hi hz0 hz1 hz2 rfl (by decide) _ _ _ rfl (own_to HR.out (below_new _ _)) ⟨wr.heap.size, 0, none⟩ 1 1 [.int .i64 0, .string ⟨#[]⟩, .int .i64 s.size] rfl rfl ?c1 ?c2 ?c3 ?c4 ?c5 ?_)
      case c1 =>
        intro i u hi
        simp only [Addr.add_lit, Nat.zero_add]
        rw [cell_of_row _ _ i _ _ (0, 0) (heap_alloc_last wr _)]
        match i, hi with
        | 0, hi => exact hi
        | 1, hi => exact hi
        | 2, hi => exact hi
      case c2 => intro u hu; simp at hu; rcases hu with rfl | rfl | rfl <;> rfl
      case c3 => unfold maxLen; omega
      case c4 => omega
      case c5 => have := HBr.out.size; simp; omega
      intro v' w6 hown' hgrow _
      obtain ⟨a1, c1, hv'⟩ := own_sl hown'
      subst hv'
      have HOUT : Hid (∃ g, a1 = some ⟨g, 0, none⟩ ∧ TkAt w6 g (L ++ [endT s.size]) ∧ l.length + 1 ≤ c1 ∧ w.heap.size ≤ g ∧ g < w6.heap.size) := Lib.hid (by
        have e1 : (tksV l ++ [.int .i64 0, .string ⟨#[]⟩, .int .i64 s.size]) = tksV (L ++ [endT s.size]) := by rw [tksV_snoc, HLL.out]; rfl
        have e2 : l.length + 1 = (L ++ [endT s.size]).length := by rw [HLL.out]; simp
        rw [e1, e2] at hown'
        rcases hown'.2 with ⟨e, h0⟩ | ⟨g, cap, cur, e, hb, hrow, hcap, _⟩
        · simp at h0
        · simp only [Value.slice.injEq] at e
          obtain ⟨rfl, _, rfl⟩ := e
          exact ⟨g, rfl, tks_at hown', by rw [e2]; exact hcap, hb, (Array.getElem?_eq_some_iff.1 hrow).1⟩)
      have HBo : Hid (Below w.heap.size w w6) := Lib.hid ((Below.trans HBr.out ((below_new wr _).mono HBr.out.size)).grown hgrow (by have := HBr.out.size; simp; omega) (fun k hk => by have := (HR.out.lt k hk).1; omega))
      have HLe : Hid (l.length + 1 = (L ++ [endT s.size]).length) := Lib.hid (by rw [HLL.out]; simp)
      clear hown' hgrow hi hz0 hz1 hz2
      go_wp2_with fail
      go_ret3
      obtain ⟨g, e, hT, hc, hg, hg2⟩ := HOUT.out
      refine ⟨g, c1, ?_, hT, by rw [← HLe.out]; exact hc, hg, hg2, HBo.out⟩
      rw [e, ← HLe.out]
      simp
    | cons T r =>
      have hks : k < s.size := by have := HS.out; cases this; assumption
      obtain ⟨j, ⟨q, hnx, hsk⟩, hjs, HS2⟩ : ∃ j, RStep s k T j ∧ j ≤ s.size ∧ Hid (RSteps s j r) := by
        have := HS.out
        cases this with
        | step i j T l hi h hr =>
          refine ⟨j, h, ?_, Lib.hid hr⟩
          cases hr with
          | done => omega
          | step => omega
      have HNX := Lib.hid hnx
      have HSK := Lib.hid hsk
      have hf : ((l.length : Int) == 3000) = false := by simp; omega
      clear hnx hsk
      go_wp2_with fail
      refine (HNX.out _ _).mono ?_
      rintro e w2 ⟨rfl, b2⟩
      have HB2 := Lib.hid (HBr.out.trans (b2.mono HBr.out.size))
      have HR2 := Lib.hid (own_to HR.out b2)
      clear b2
      go_upto_region 7 with (fail)
      obtain ⟨W5, hW5, R5, HR5, HB5, hs5⟩ : ∃ W5, W5 = w2.alloc (.cells #[.int .i64 T.K, .string T.S, .int .i64 T.A] 68) ∧ Hid (W5.heap[w2.heap.size]? = some (.cells #[.int .i64 T.K, .string T.S, .int .i64 T.A] 68 (0, 0))) ∧ Hid (W5.ownsRow w.heap.size 68 3 (.slice p l.length c) l.length (tksV l)) ∧ Hid (Below w.heap.size w W5) ∧ Hid (W5.heap.size = w2.heap.size + 1) :=
        ⟨_, rfl, Lib.hid (heap_alloc_last w2 _), Lib.hid (own_to HR2.out (below_new _ _)), Lib.hid (HB2.out.trans ((below_new w2 _).mono HB2.out.size)), Lib.hid (World.size_alloc _ _)⟩
      change Code.wp _ _ _ _ (w2.alloc (Obj.cells #[.int .i64 T.K, .string T.S, .int .i64 T.A] 68))
      rw [← hW5]
      clear hW5
      have d0 : W5.cell? ⟨w2.heap.size, 0, none⟩ = some (.int .i64 T.K) := cell_of_row _ _ 0 _ _ _ R5.out
      have d1 : W5.cell? ⟨w2.heap.size, 1, none⟩ = some (.string T.S) := cell_of_row _ _ 1 _ _ _ R5.out
      have d2 : W5.cell? ⟨w2.heap.size, 2, none⟩ = some (.int .i64 T.A) := cell_of_row _ _ 2 _ _ _ R5.out
      obtain ⟨hi, hz0, hz1, hz2⟩ := HInfo.out
      go_wp2_with (at_builtin; refine wpList_append_own _ rfl _ _ 46 rfl w.heap.size 68 i1 (.agg #[.int .i64 0, .string ⟨#[]⟩, .int .i64 0]) 3 32 Tryz.underlying46 hi hz0 hz1 hz2 rfl (by decide) _ _ _ rfl (own_to HR5.out (below_new _ _)) ⟨W5.heap.size, 0, none⟩ 1 1 [.int .i64 T.K, .string T.S, .int .i64 T.A] rfl rfl ?c1 ?c2 ?c3 ?c4 ?c5 ?_)
      case c1 =>
        intro i u hi
        simp only [Addr.add_lit, Nat.zero_add]
        rw [cell_of_row _ _ i _ _ (0, 0) (heap_alloc_last W5 _)]
        match i, hi with
        | 0, hi => exact hi
        | 1, hi => exact hi
        | 2, hi => exact hi
      case c2 => intro u hu; simp at hu; rcases hu with rfl | rfl | rfl <;> rfl
      case c3 => unfold maxLen; omega
      case c4 => omega
      case c5 => have := HB5.out.size; simp; omega
      intro v' w6 hown' hgrow _
      obtain ⟨a1, c1, hv'⟩ := own_sl hown'
      subst hv'
      have HB6 : Hid (Below w.heap.size w w6) := Lib.hid ((Below.trans HB5.out ((below_new W5 _).mono HB5.out.size)).grown hgrow (by have := HB5.out.size; simp; omega) (fun k hk => by have := (HR5.out.lt k hk).1; omega))
      have HR6 : Hid (w6.ownsRow w.heap.size 68 3 (.slice a1 (l ++ [T]).length c1) (l ++ [T]).length (tksV (l ++ [T]))) := Lib.hid (by
        have e2 : (l ++ [T]).length = l.length + 1 := by simp
        rw [e2, tksV_snoc]
        exact hown')
      have HLen : Hid ((l ++ [T]).length = l.length + 1) := Lib.hid (by simp)
      clear hown' hgrow hi hz0 hz1 hz2 d0 d1 d2
      go_wp2_with fail
      refine (HSK.out _).mono ?_
      rintro e w7 ⟨rfl, rfl⟩
      go_wp2_with fail
      go_roundg r.length
      case measure => have := HN.out; simp at this; omega
      case rel => exact ⟨a1, c1, j, l ++ [T], r, by rw [HLen.out], rfl, Lib.hid rfl, Lib.hid (by rw [List.append_assoc]; exact HL.out), hjs, HS2, HR6, HB6⟩
end Go.Proofs.YtgdlpldngpoadaaGreatDoor

/- The document's next at a name of one letter, a sign of one byte, a number of one digit: walks (gen_rnext.py). -/
namespace Go.Proofs.YtgdlpldngpoadaaGreatDoor
open Go.RowKit

def NextOut (K : Int) (t : ByteArray) (i q : Nat) (w : World) (e : Ending) (w' : World) : Prop := e = .returned (.tuple #[.agg #[.int .i64 K, .string t, .int .i64 i], .int .i64 q, .int .i64 0]) ∧ Below w.heap.size w w'
def tkC (K : Int) (t : ByteArray) (a : Int) : Array Value := #[.int .i64 K, .string t, .int .i64 a]
/-- next's two variables: its result, its token. -/
structure NxB (w V : World) (K : Int) (t : ByteArray) (a : Int) : Prop where
  res : V.heap[w.heap.size]? = some (.cells (tkC 0 ⟨#[]⟩ 0) 68 (0, 0))
  box : V.heap[w.heap.size + 1]? = some (.cells (tkC K t a) 68 (0, 0))
  below : Below w.heap.size w V
theorem NxB.after {w V W : World} {K a : Int} {t : ByteArray} (h : NxB w V K t a) (hb : Below V.heap.size V W) : NxB w W K t a :=
  ⟨by rw [hb.block _ ((Array.getElem?_eq_some_iff.1 h.res).1)]; exact h.res, by rw [hb.block _ ((Array.getElem?_eq_some_iff.1 h.box).1)]; exact h.box, Below.step h.below hb⟩
theorem NxB.c0 {w V : World} {K a : Int} {t : ByteArray} (h : NxB w V K t a) : V.cell? ⟨w.heap.size + 1, 0, none⟩ = some (.int .i64 K) := cell_of_row _ _ 0 _ _ _ h.box
theorem NxB.c1 {w V : World} {K a : Int} {t : ByteArray} (h : NxB w V K t a) : V.cell? ⟨w.heap.size + 1, 1, none⟩ = some (.string t) := cell_of_row _ _ 1 _ _ _ h.box
theorem NxB.c2 {w V : World} {K a : Int} {t : ByteArray} (h : NxB w V K t a) : V.cell? ⟨w.heap.size + 1, 2, none⟩ = some (.int .i64 a) := cell_of_row _ _ 2 _ _ _ h.box
theorem NxB.z {w V : World} {K a : Int} {t : ByteArray} (h : NxB w V K t a) (j : Nat) : V.frozen? ⟨w.heap.size + 1, j, none⟩ = false := frozen_of_row _ _ j _ _ h.box
theorem NxB.fresh (w : World) (a : Int) : ∃ V, V = ((w.alloc (.cells #[.int .i64 0, .string ⟨#[]⟩, .int .i64 0] 68)).alloc (.cells #[.int .i64 0, .string ⟨#[]⟩, .int .i64 a] 68)).drew ∧ Hid (NxB w V 0 ⟨#[]⟩ a) := by
  refine ⟨_, rfl, Lib.hid ⟨?_, ?_, ?_⟩⟩
  · show ((w.alloc _).alloc _).heap[_]? = _
    rw [Lib.alloc_old _ _ _ (by rw [World.size_alloc]; omega)]
    exact heap_alloc_last w _
  · show ((w.alloc _).alloc _).heap[_]? = _
    have := heap_alloc_last (w.alloc (.cells #[.int .i64 0, .string ⟨#[]⟩, .int .i64 0] 68)) (.cells #[.int .i64 0, .string ⟨#[]⟩, .int .i64 a] 68)
    rw [World.size_alloc] at this
    exact this
  · exact ((below_new w _).alloc (by rw [World.size_alloc]; omega) _).drew
theorem NxB.put {w V : World} {K a : Int} {t : ByteArray} (h : NxB w V K t a) (K' : Int) (t' : ByteArray) : NxB w ((V.setCell ⟨w.heap.size + 1, 0, none⟩ (.int .i64 K')).setCell ⟨w.heap.size + 1, 1, none⟩ (.string t')) K' t' a := by
  have e1 : (V.setCell ⟨w.heap.size + 1, 0, none⟩ (.int .i64 K')).heap[w.heap.size + 1]? = some (.cells (tkC K' t a) 68 (0, 0)) := by rw [heap_setCell_same _ _ 0 _ _ _ h.box]; rfl
  refine ⟨?_, by rw [heap_setCell_same _ _ 1 _ _ _ e1]; rfl, (h.below.setCell (p := ⟨w.heap.size + 1, 0, none⟩) (by show _ ≤ w.heap.size + 1; omega) _).setCell (p := ⟨w.heap.size + 1, 1, none⟩) (by show _ ≤ w.heap.size + 1; omega) _⟩
  rw [heap_setCell_other _ _ _ _ (by show w.heap.size ≠ w.heap.size + 1; omega), heap_setCell_other _ _ _ _ (by show w.heap.size ≠ w.heap.size + 1; omega)]
  exact h.res
theorem tk_one (K : Int) (t : ByteArray) (a : Int) : (tkC K t a).all (·.oneCell') = true := by
  simp [tkC]
  exact ⟨rfl, rfl, rfl⟩
theorem info_tok1 : (Tryz.prog.info? 68).map (·.size) = some 3 := by kernel_rfl
theorem below_row {B : Nat} {w w' : World} (h : Below B w w') {b : Nat} (hb : B ≤ b) (q : Array Value) : Below B w (w'.setRow b q) :=
  ⟨h.os, h.tape, h.output, by have := h.size; simpa [World.setRow] using this, fun k hk => by rw [Go.setRow_other _ _ _ _ (by omega)]; exact h.block k hk⟩

set_option maxRecDepth 100000 in
set_option maxHeartbeats 1000000 in
theorem rnext_name (s : ByteArray) (hs : s.size ≤ 8000) (i : Nat) (hi : i < s.size) (h : letB s[i] = true) (hn : ∀ h1 : i + 1 < s.size, letB s[i + 1] = false ∧ digB s[i + 1] = false ∧ s[i + 1].toNat ≠ 40) (t : ByteArray) (ht : t = s.extract i (i + 1)) (hw : wordB t.data.toList = false) (ho : ownB t.data.toList = false) (v : Value) (w : World) :
    Calls Tryz.prog 47 #[.string s, .int .i64 i, v] w (NextOut 5 t i (i + 1) w) := by
  have HI := info_tok1
  obtain ⟨j, hj⟩ : ∃ j, j = i + 1 := ⟨_, rfl⟩
  have hn' : ∀ h1 : j < s.size, letB s[j] = false ∧ digB s[j] = false ∧ s[j].toNat ≠ 40 := by subst hj; exact hn
  rw [← hj] at ht ⊢
  have hji : (i : Int) + 1 = j := by omega
  have HL := Lib.hid (fun w => rletter_is s[i] true h w)
  have h10 : ((s[i].toNat : Int) == 10) = false := by
    have h' : letB s[i] = true := h
    unfold letB at h'
    simp at h' ⊢
    omega
  have HW := Lib.hid (fun w => rword_spec t t.data.toList rfl w)
  have HO := Lib.hid (fun w => rown_spec t t.data.toList rfl w)
  have HA := Lib.hid (fun w => rat_spec s j w)
  rw [hw] at HW
  rw [ho] at HO
  have htz : t.size = 1 := by rw [ht, ByteArray.size_extract]; omega
  have htz2 : decide ((40 : Int) < t.size) = false := decide_eq_false (by omega)
  have hsx : s.extract i j = t := ht.symm
  have hjs : j ≤ s.size := by omega
  have hij : (i : Int) ≤ j := by omega
  clear h hw ho ht htz hj hn
  go_enter Tryz.func47, Tryz.ntmps47
  go_wp2_with fail
  go_region
  obtain ⟨V, hV, HB⟩ := NxB.fresh w i
  change Exit.then _ _ _ _ ((w.alloc (.cells #[.int .i64 0, .string ⟨#[]⟩, .int .i64 0] 68)).alloc (.cells #[.int .i64 0, .string ⟨#[]⟩, .int .i64 i] 68)).drew
  rw [← hV]
  clear hV
  go_wp2_with fail
  refine (HL.out _).mono ?_
  rintro e w1 ⟨rfl, rfl⟩
  go_wp2_with fail
  refine wp_loop_rounds 1 ?_
  rw [rounds_succ]
  by_cases hlt : j < s.size
  · obtain ⟨n1, n2, n3⟩ := hn' hlt
    have HL1 := Lib.hid (fun w => rletter_is s[j] false n1 w)
    have HN1 := Lib.hid (fun w => rnum_is s[j] false n2 w)
    have hat : ((((atB s j).toNat : Nat) : Int) == 40) = false := by rw [atB_lt hlt]; simp; omega
    clear hn' n1 n2 n3
    go_wp2_with fail
    refine (HL1.out _).mono ?_
    rintro e w1 ⟨rfl, rfl⟩
    go_wp2_with fail
    refine (HN1.out _).mono ?_
    rintro e w1 ⟨rfl, rfl⟩
    have c0 := HB.out.c0; have c1 := HB.out.c1; have z0 := HB.out.z 0; have z1 := HB.out.z 1
    go_wp2_with fail
    go_region
    obtain ⟨V2, hV2, HB2⟩ : ∃ V2, V2 = ((w1.setCell ⟨w.heap.size + 1, 0, none⟩ (.int .i64 5)).setCell ⟨w.heap.size + 1, 1, none⟩ (.string t)).drew ∧ Hid (NxB w V2 5 t i) := ⟨_, rfl, Lib.hid ((HB.out.put 5 t).after (below_drew _))⟩
    change Exit.then _ _ _ _ ((w1.setCell ⟨w.heap.size + 1, 0, none⟩ (.int .i64 5)).setCell ⟨w.heap.size + 1, 1, none⟩ (.string t)).drew
    rw [← hV2]
    clear hV2 c0 c1 z0 z1
    have c1 := HB2.out.c1
    go_wp2_with fail
    refine (HW.out _).mono ?_
    rintro e w3 ⟨rfl, b3⟩
    have HB3 := Lib.hid (HB2.out.after b3)
    clear b3 c1
    have c1 := HB3.out.c1
    go_wp2_with fail
    refine (HO.out _).mono ?_
    rintro e w4 ⟨rfl, b4⟩
    have HB4 := Lib.hid (HB3.out.after b4)
    clear b4 c1
    go_wp2_with fail
    refine (HA.out _).mono ?_
    rintro e w5 ⟨rfl, rfl⟩
    have c0 := HB4.out.c0; have c1 := HB4.out.c1; have c2 := HB4.out.c2
    have hr := HB4.out.res
    go_wp2_with (refine wpList_store_row rfl 68 (.tmp 6) (.tmp 171) rfl w.heap.size (tkC 5 t i) rfl rfl 68 (tkC 0 ⟨#[]⟩ 0) HB4.out.res HI rfl (tk_one _ _ _) ?_)
    refine bodyPost_ret (v := .tuple #[.agg #[.int .i64 5, .string t, .int .i64 i], .int .i64 j, .int .i64 0]) ?_ rfl ⟨rfl, below_row HB4.out.below (Nat.le_refl _) _⟩
    have hz := setRow_heap _ _ _ (tkC 5 t i) _ _ hr
    have e0 : (w5.setRow w.heap.size (tkC 5 t i)).cell? ⟨w.heap.size, 0, none⟩ = some (.int .i64 5) := cell_of_row _ _ 0 _ _ _ hz
    have e1 : (w5.setRow w.heap.size (tkC 5 t i)).cell? ⟨w.heap.size, 1, none⟩ = some (.string t) := cell_of_row _ _ 1 _ _ _ hz
    have e2 : (w5.setRow w.heap.size (tkC 5 t i)).cell? ⟨w.heap.size, 2, none⟩ = some (.int .i64 i) := cell_of_row _ _ 2 _ _ _ hz
    simp [results, Tryz.results47, go_sem, e0, e1, e2]
  · have hlb : decide ((j : Int) < s.size) = false := decide_eq_false (by omega)
    have hat : ((((atB s j).toNat : Nat) : Int) == 40) = false := by unfold atB; rw [dif_neg hlt]; rfl
    clear hn'
    have c0 := HB.out.c0; have c1 := HB.out.c1; have z0 := HB.out.z 0; have z1 := HB.out.z 1
    go_wp2_with fail
    go_region
    obtain ⟨V2, hV2, HB2⟩ : ∃ V2, V2 = ((w1.setCell ⟨w.heap.size + 1, 0, none⟩ (.int .i64 5)).setCell ⟨w.heap.size + 1, 1, none⟩ (.string t)).drew ∧ Hid (NxB w V2 5 t i) := ⟨_, rfl, Lib.hid ((HB.out.put 5 t).after (below_drew _))⟩
    change Exit.then _ _ _ _ ((w1.setCell ⟨w.heap.size + 1, 0, none⟩ (.int .i64 5)).setCell ⟨w.heap.size + 1, 1, none⟩ (.string t)).drew
    rw [← hV2]
    clear hV2 c0 c1 z0 z1
    have c1 := HB2.out.c1
    go_wp2_with fail
    refine (HW.out _).mono ?_
    rintro e w3 ⟨rfl, b3⟩
    have HB3 := Lib.hid (HB2.out.after b3)
    clear b3 c1
    have c1 := HB3.out.c1
    go_wp2_with fail
    refine (HO.out _).mono ?_
    rintro e w4 ⟨rfl, b4⟩
    have HB4 := Lib.hid (HB3.out.after b4)
    clear b4 c1
    go_wp2_with fail
    refine (HA.out _).mono ?_
    rintro e w5 ⟨rfl, rfl⟩
    have c0 := HB4.out.c0; have c1 := HB4.out.c1; have c2 := HB4.out.c2
    have hr := HB4.out.res
    go_wp2_with (refine wpList_store_row rfl 68 (.tmp 6) (.tmp 171) rfl w.heap.size (tkC 5 t i) rfl rfl 68 (tkC 0 ⟨#[]⟩ 0) HB4.out.res HI rfl (tk_one _ _ _) ?_)
    refine bodyPost_ret (v := .tuple #[.agg #[.int .i64 5, .string t, .int .i64 i], .int .i64 j, .int .i64 0]) ?_ rfl ⟨rfl, below_row HB4.out.below (Nat.le_refl _) _⟩
    have hz := setRow_heap _ _ _ (tkC 5 t i) _ _ hr
    have e0 : (w5.setRow w.heap.size (tkC 5 t i)).cell? ⟨w.heap.size, 0, none⟩ = some (.int .i64 5) := cell_of_row _ _ 0 _ _ _ hz
    have e1 : (w5.setRow w.heap.size (tkC 5 t i)).cell? ⟨w.heap.size, 1, none⟩ = some (.string t) := cell_of_row _ _ 1 _ _ _ hz
    have e2 : (w5.setRow w.heap.size (tkC 5 t i)).cell? ⟨w.heap.size, 2, none⟩ = some (.int .i64 i) := cell_of_row _ _ 2 _ _ _ hz
    simp [results, Tryz.results47, go_sem, e0, e1, e2]

set_option maxRecDepth 100000 in
set_option maxHeartbeats 2000000 in
theorem rnext_sign (s : ByteArray) (hs : s.size ≤ 8000) (i : Nat) (hi : i + 1 < s.size) (hl : letB s[i] = false) (hd : digB s[i] = false) (hb : s[i].toNat ≠ 10 ∧ s[i].toNat ≠ 46 ∧ s[i].toNat ≠ 34 ∧ s[i].toNat ≠ 47) (t u : ByteArray) (ht : t = s.extract i (i + 1)) (hu : u = s.extract i (i + 2)) (h1 : decide (t.data.toList ∈ sign1L) = true) (h2 : decide (u.data.toList ∈ sign2L) = false) (v : Value) (w : World) :
    Calls Tryz.prog 47 #[.string s, .int .i64 i, v] w (NextOut 9 t i (i + 1) w) := by
  have HI := info_tok1
  obtain ⟨j, hj⟩ : ∃ j, j = i + 1 := ⟨_, rfl⟩
  obtain ⟨k, hk⟩ : ∃ k, k = i + 2 := ⟨_, rfl⟩
  rw [← hj] at ht hi ⊢
  rw [← hk] at hu
  have hji : (i : Int) + 1 = j := by omega
  have hki : (i : Int) + 2 = k := by omega
  have hlt : i < s.size := by omega
  have HL := Lib.hid (fun w => rletter_is s[i] false hl w)
  have HD := Lib.hid (fun w => rnum_is s[i] false hd w)
  have b0 : ((s[i].toNat : Int) == 10) = false := by have := hb.1; simp; omega
  have b1 : ((s[i].toNat : Int) == 46) = false := by have := hb.2.1; simp; omega
  have b2 : ((s[i].toNat : Int) == 34) = false := by have := hb.2.2.1; simp; omega
  have b3 : ((s[i].toNat : Int) == 47) = false := by have := hb.2.2.2; simp; omega
  have hib : decide ((j : Int) < s.size) = true := decide_eq_true (by omega)
  have H2 : Hid (∀ w : World, Calls Tryz.prog 95 #[.slice (some ⟨w.heap.size, 0, none⟩) 15 15, .string u] (w.alloc (.cells #[.string ⟨#[43, 43]⟩, .string ⟨#[45, 45]⟩, .string ⟨#[43, 61]⟩, .string ⟨#[45, 61]⟩, .string ⟨#[42, 61]⟩, .string ⟨#[47, 61]⟩, .string ⟨#[37, 61]⟩, .string ⟨#[61, 61]⟩, .string ⟨#[33, 61]⟩, .string ⟨#[60, 61]⟩, .string ⟨#[62, 61]⟩, .string ⟨#[62, 62]⟩, .string ⟨#[33, 126]⟩, .string ⟨#[38, 38]⟩, .string ⟨#[124, 124]⟩] 9)) fun e w' => e = .returned (.bool false) ∧ w' = (w.alloc (.cells #[.string ⟨#[43, 43]⟩, .string ⟨#[45, 45]⟩, .string ⟨#[43, 61]⟩, .string ⟨#[45, 61]⟩, .string ⟨#[42, 61]⟩, .string ⟨#[47, 61]⟩, .string ⟨#[37, 61]⟩, .string ⟨#[61, 61]⟩, .string ⟨#[33, 61]⟩, .string ⟨#[60, 61]⟩, .string ⟨#[62, 61]⟩, .string ⟨#[62, 62]⟩, .string ⟨#[33, 126]⟩, .string ⟨#[38, 38]⟩, .string ⟨#[124, 124]⟩] 9))) := Lib.hid (fun w => by have h := in_alloc sign2L 15 rfl u u.data.toList rfl w; rw [show decide (u.data.toList ∈ sign2L) = false from h2] at h; exact h)
  have H1 : Hid (∀ w : World, Calls Tryz.prog 95 #[.slice (some ⟨w.heap.size, 0, none⟩) 21 21, .string t] (w.alloc (.cells #[.string ⟨#[123]⟩, .string ⟨#[125]⟩, .string ⟨#[40]⟩, .string ⟨#[41]⟩, .string ⟨#[91]⟩, .string ⟨#[93]⟩, .string ⟨#[59]⟩, .string ⟨#[44]⟩, .string ⟨#[43]⟩, .string ⟨#[45]⟩, .string ⟨#[42]⟩, .string ⟨#[47]⟩, .string ⟨#[37]⟩, .string ⟨#[60]⟩, .string ⟨#[62]⟩, .string ⟨#[33]⟩, .string ⟨#[126]⟩, .string ⟨#[63]⟩, .string ⟨#[58]⟩, .string ⟨#[61]⟩, .string ⟨#[36]⟩] 9)) fun e w' => e = .returned (.bool true) ∧ w' = (w.alloc (.cells #[.string ⟨#[123]⟩, .string ⟨#[125]⟩, .string ⟨#[40]⟩, .string ⟨#[41]⟩, .string ⟨#[91]⟩, .string ⟨#[93]⟩, .string ⟨#[59]⟩, .string ⟨#[44]⟩, .string ⟨#[43]⟩, .string ⟨#[45]⟩, .string ⟨#[42]⟩, .string ⟨#[47]⟩, .string ⟨#[37]⟩, .string ⟨#[60]⟩, .string ⟨#[62]⟩, .string ⟨#[33]⟩, .string ⟨#[126]⟩, .string ⟨#[63]⟩, .string ⟨#[58]⟩, .string ⟨#[61]⟩, .string ⟨#[36]⟩] 9))) := Lib.hid (fun w => by have h := in_alloc sign1L 21 rfl t t.data.toList rfl w; rw [show decide (t.data.toList ∈ sign1L) = true from h1] at h; exact h)
  have hsx : s.extract i j = t := ht.symm
  have hsx2 : s.extract i k = u := hu.symm
  have hjs : j ≤ s.size := by omega
  have hks : k ≤ s.size := by omega
  have hij : (i : Int) ≤ j := by omega
  have hik : (i : Int) ≤ k := by omega
  have hks2 : (k : Int) ≤ s.size := by omega
  clear hl hd hb ht hu hj hk h1 h2
  go_enter Tryz.func47, Tryz.ntmps47
  go_wp2_with fail
  go_region
  obtain ⟨V, hV, HB⟩ := NxB.fresh w i
  change Exit.then _ _ _ _ ((w.alloc (.cells #[.int .i64 0, .string ⟨#[]⟩, .int .i64 0] 68)).alloc (.cells #[.int .i64 0, .string ⟨#[]⟩, .int .i64 i] 68)).drew
  rw [← hV]
  clear hV
  go_wp2_with fail
  refine (HL.out _).mono ?_
  rintro e w1 ⟨rfl, rfl⟩
  go_wp2_with fail
  refine (HD.out _).mono ?_
  rintro e w1 ⟨rfl, rfl⟩
  have c0 := HB.out.c0; have c1 := HB.out.c1; have z0 := HB.out.z 0; have z1 := HB.out.z 1
  go_wp2_with fail
  go_region
  obtain ⟨V2, hV2, HB2⟩ : ∃ V2, V2 = ((w1.setCell ⟨w.heap.size + 1, 0, none⟩ (.int .i64 9)).setCell ⟨w.heap.size + 1, 1, none⟩ (.string t)).drew ∧ Hid (NxB w V2 9 t i) := ⟨_, rfl, Lib.hid ((HB.out.put 9 t).after (below_drew _))⟩
  change Exit.then _ _ _ _ ((w1.setCell ⟨w.heap.size + 1, 0, none⟩ (.int .i64 9)).setCell ⟨w.heap.size + 1, 1, none⟩ (.string t)).drew
  rw [← hV2]
  clear hV2 c0 c1 z0 z1
  have c1 := HB2.out.c1
  go_wp2_with fail
  refine (H2.out _).mono ?_
  rintro e w3 ⟨rfl, e3⟩
  have HB3 : Hid (NxB w w3 9 t i) := Lib.hid (by rw [e3]; exact HB2.out.after (below_new _ _))
  clear e3 c1
  have c1 : (w3.alloc (.cells #[.string ⟨#[123]⟩, .string ⟨#[125]⟩, .string ⟨#[40]⟩, .string ⟨#[41]⟩, .string ⟨#[91]⟩, .string ⟨#[93]⟩, .string ⟨#[59]⟩, .string ⟨#[44]⟩, .string ⟨#[43]⟩, .string ⟨#[45]⟩, .string ⟨#[42]⟩, .string ⟨#[47]⟩, .string ⟨#[37]⟩, .string ⟨#[60]⟩, .string ⟨#[62]⟩, .string ⟨#[33]⟩, .string ⟨#[126]⟩, .string ⟨#[63]⟩, .string ⟨#[58]⟩, .string ⟨#[61]⟩, .string ⟨#[36]⟩] 9)).cell? ⟨w.heap.size + 1, 1, none⟩ = some (.string t) := (HB3.out.after (below_new _ _)).c1
  go_wp2_with fail
  refine (H1.out _).mono ?_
  rintro e w5 ⟨rfl, e5⟩
  have HB5 : Hid (NxB w w5 9 t i) := Lib.hid (by rw [e5]; exact HB3.out.after (below_new _ _))
  clear e5 c1
  have c0 := HB5.out.c0; have c1 := HB5.out.c1; have c2 := HB5.out.c2
  have hr := HB5.out.res
  go_wp2_with (refine wpList_store_row rfl 68 (.tmp 6) (.tmp 171) rfl w.heap.size (tkC 9 t i) rfl rfl 68 (tkC 0 ⟨#[]⟩ 0) HB5.out.res HI rfl (tk_one _ _ _) ?_)
  refine bodyPost_ret (v := .tuple #[.agg #[.int .i64 9, .string t, .int .i64 i], .int .i64 j, .int .i64 0]) ?_ rfl ⟨rfl, below_row HB5.out.below (Nat.le_refl _) _⟩
  have hz := setRow_heap _ _ _ (tkC 9 t i) _ _ hr
  have e0 : (w5.setRow w.heap.size (tkC 9 t i)).cell? ⟨w.heap.size, 0, none⟩ = some (.int .i64 9) := cell_of_row _ _ 0 _ _ _ hz
  have e1 : (w5.setRow w.heap.size (tkC 9 t i)).cell? ⟨w.heap.size, 1, none⟩ = some (.string t) := cell_of_row _ _ 1 _ _ _ hz
  have e2 : (w5.setRow w.heap.size (tkC 9 t i)).cell? ⟨w.heap.size, 2, none⟩ = some (.int .i64 i) := cell_of_row _ _ 2 _ _ _ hz
  simp [results, Tryz.results47, go_sem, e0, e1, e2]

set_option maxRecDepth 100000 in
set_option maxHeartbeats 2000000 in
theorem rnext_num (s : ByteArray) (hs : s.size ≤ 8000) (i : Nat) (hi : i < s.size) (hl : letB s[i] = false) (hd : digB s[i] = true) (h10 : s[i].toNat ≠ 10) (hn : digB (atB s (i + 1)) = false ∧ (atB s (i + 1)).toNat ≠ 46) (t : ByteArray) (ht : t = s.extract i (i + 1)) (v : Value) (w : World) :
    Calls Tryz.prog 47 #[.string s, .int .i64 i, v] w (NextOut 2 t i (i + 1) w) := by
  have HI := info_tok1
  obtain ⟨j, hj⟩ : ∃ j, j = i + 1 := ⟨_, rfl⟩
  rw [← hj] at ht hn ⊢
  have hji : (i : Int) + 1 = j := by omega
  have HL := Lib.hid (fun w => rletter_is s[i] false hl w)
  have HD := Lib.hid (fun w => rnum_is s[i] true hd w)
  have HA := Lib.hid (fun w => by have h := rat_spec s i w; rw [atB_lt hi] at h; exact h)
  have HA2 := Lib.hid (fun w => rat_spec s j w)
  have HD2 := Lib.hid (fun w => rnum_is (atB s j) false hn.1 w)
  have b0 : ((s[i].toNat : Int) == 10) = false := by simp; omega
  have b1 : ((((atB s j).toNat : Nat) : Int) == 46) = false := by have := hn.2; simp; omega
  have hsx : s.extract i j = t := ht.symm
  have hjs : j ≤ s.size := by omega
  have hij : (i : Int) ≤ j := by omega
  clear hl hd h10 hn ht hj
  go_enter Tryz.func47, Tryz.ntmps47
  go_wp2_with fail
  go_region
  obtain ⟨V, hV, HB⟩ := NxB.fresh w i
  change Exit.then _ _ _ _ ((w.alloc (.cells #[.int .i64 0, .string ⟨#[]⟩, .int .i64 0] 68)).alloc (.cells #[.int .i64 0, .string ⟨#[]⟩, .int .i64 i] 68)).drew
  rw [← hV]
  clear hV
  go_wp2_with fail
  refine (HL.out _).mono ?_
  rintro e w1 ⟨rfl, rfl⟩
  go_wp2_with fail
  refine (HD.out _).mono ?_
  rintro e w1 ⟨rfl, rfl⟩
  go_wp2_with fail
  refine wp_loop_rounds 2 ?_
  rw [rounds_succ]
  go_wp2_with fail
  refine (HA.out _).mono ?_
  rintro e w1 ⟨rfl, rfl⟩
  go_wp2_with fail
  refine (HD.out _).mono ?_
  rintro e w1 ⟨rfl, rfl⟩
  go_wp2_with fail
  rw [rounds_succ]
  go_wp2_with fail
  refine (HA2.out _).mono ?_
  rintro e w1 ⟨rfl, rfl⟩
  go_wp2_with fail
  refine (HD2.out _).mono ?_
  rintro e w1 ⟨rfl, rfl⟩
  go_wp2_with fail
  refine (HA2.out _).mono ?_
  rintro e w1 ⟨rfl, rfl⟩
  have c0 := HB.out.c0; have c1 := HB.out.c1; have z0 := HB.out.z 0; have z1 := HB.out.z 1
  go_wp2_with fail
  go_region
  obtain ⟨V2, hV2, HB2⟩ : ∃ V2, V2 = ((w1.setCell ⟨w.heap.size + 1, 0, none⟩ (.int .i64 2)).setCell ⟨w.heap.size + 1, 1, none⟩ (.string t)).drew ∧ Hid (NxB w V2 2 t i) := ⟨_, rfl, Lib.hid ((HB.out.put 2 t).after (below_drew _))⟩
  change Exit.inBlock _ _ _ _ ((w1.setCell ⟨w.heap.size + 1, 0, none⟩ (.int .i64 2)).setCell ⟨w.heap.size + 1, 1, none⟩ (.string t)).drew
  rw [← hV2]
  clear hV2 c0 c1 z0 z1
  have c1 := HB2.out.c1
  have c0 := HB2.out.c0; have c1 := HB2.out.c1; have c2 := HB2.out.c2
  have hr := HB2.out.res
  go_wp2_with (refine wpList_store_row rfl 68 (.tmp 6) (.tmp 171) rfl w.heap.size (tkC 2 t i) rfl rfl 68 (tkC 0 ⟨#[]⟩ 0) HB2.out.res HI rfl (tk_one _ _ _) ?_)
  refine bodyPost_ret (v := .tuple #[.agg #[.int .i64 2, .string t, .int .i64 i], .int .i64 j, .int .i64 0]) ?_ rfl ⟨rfl, below_row HB2.out.below (Nat.le_refl _) _⟩
  have hz := setRow_heap _ _ _ (tkC 2 t i) _ _ hr
  have e0 : (V2.setRow w.heap.size (tkC 2 t i)).cell? ⟨w.heap.size, 0, none⟩ = some (.int .i64 2) := cell_of_row _ _ 0 _ _ _ hz
  have e1 : (V2.setRow w.heap.size (tkC 2 t i)).cell? ⟨w.heap.size, 1, none⟩ = some (.string t) := cell_of_row _ _ 1 _ _ _ hz
  have e2 : (V2.setRow w.heap.size (tkC 2 t i)).cell? ⟨w.heap.size, 2, none⟩ = some (.int .i64 i) := cell_of_row _ _ 2 _ _ _ hz
  simp [results, Tryz.results47, go_sem, e0, e1, e2]
end Go.Proofs.YtgdlpldngpoadaaGreatDoor
