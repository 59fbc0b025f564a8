/- (*nfa.Prog).lay at states by themselves, and at nothing: walks. -/
import Derived.Test.YtbojoiacedhjiaaLayN
namespace Go.Proofs.Ytbojoiacedhjiaa
open Go.RowKit

/-- A box of one cell. -/
structure One (w : World) (b : Nat) (v : Value) (t : TypeId) : Prop where
  row : w.heap[b]? = some (.cells #[v] t (0, 0))
theorem One.lt {w : World} {b : Nat} {v : Value} {t : TypeId} (h : One w b v t) : b < w.heap.size := (Array.getElem?_eq_some_iff.1 h.row).1
theorem One.c {w : World} {b : Nat} {v : Value} {t : TypeId} (h : One w b v t) : w.cell? ⟨b, 0, none⟩ = some v := cell_of_row _ _ 0 _ _ _ h.row
theorem One.z {w : World} {b : Nat} {v : Value} {t : TypeId} (h : One w b v t) : w.frozen? ⟨b, 0, none⟩ = false := frozen_of_row _ _ 0 _ _ h.row
theorem One.keep {w w' : World} {b : Nat} {v : Value} {t : TypeId} (h : One w b v t) (e : w'.heap[b]? = w.heap[b]?) : One w' b v t := ⟨e.trans h.row⟩
theorem One.after {w w' : World} {b : Nat} {v : Value} {t : TypeId} (h : One w b v t) (hb : Below w.heap.size w w') : One w' b v t := h.keep (hb.block b h.lt)
theorem One.set {w : World} {b : Nat} {v : Value} {t : TypeId} (h : One w b v t) (u : Value) : One (w.setCell ⟨b, 0, none⟩ u) b u t := ⟨by rw [heap_setCell_same w b 0 _ _ _ h.row]; rfl⟩
theorem one_new (w : World) (v : Value) (t : TypeId) : One (w.alloc (.cells #[v] t)) w.heap.size v t := ⟨heap_alloc_last w _⟩

/-- The boxes of a call of lay. -/
structure LayB (W w : World) (p : Nat) (qs : Array Value) (next : Nat) : Prop where
  ptr : One W w.heap.size (.pointer (some ⟨p, 0, none⟩)) 29
  q : PBox W (w.heap.size + 1) qs
  nx : One W (w.heap.size + 2) (.int .i64 next) 3
theorem layB_new (w : World) (p : Nat) (qs : Array Value) (next : Nat) : ∃ W, W = ((w.alloc (.cells #[.pointer (some ⟨p, 0, none⟩)] 29)).alloc (.cells qs 45)).alloc (.cells #[.int .i64 next] 3) ∧ Hid (LayB W w p qs next) ∧ Hid (Below w.heap.size w W) ∧ Hid (W.heap.size = w.heap.size + 3) := by
  obtain ⟨W1, e1⟩ : ∃ W1, W1 = w.alloc (.cells #[.pointer (some ⟨p, 0, none⟩)] 29) := ⟨_, rfl⟩
  obtain ⟨W2, e2⟩ : ∃ W2, W2 = W1.alloc (.cells qs 45) := ⟨_, rfl⟩
  have s1 : W1.heap.size = w.heap.size + 1 := by rw [e1, World.size_alloc]
  have s2 : W2.heap.size = w.heap.size + 2 := by rw [e2, World.size_alloc, s1]
  have b1 : Below w.heap.size w W1 := by rw [e1]; exact below_new _ _
  have b2 : Below W1.heap.size W1 W2 := by rw [e2]; exact below_new _ _
  have b3 := below_new W2 (.cells #[.int .i64 next] 3)
  have o1 : One W1 w.heap.size (.pointer (some ⟨p, 0, none⟩)) 29 := by rw [e1]; exact one_new _ _ _
  have o2 : PBox W2 (w.heap.size + 1) qs := by rw [e2, ← s1]; exact pbox_new _ _
  have o3 := one_new W2 (.int .i64 next) 3
  rw [s2] at o3
  refine ⟨_, rfl, ?_, ?_, ?_⟩
  · rw [← e1, ← e2]; exact Lib.hid ⟨(o1.after b2).after b3, o2.after b3, o3⟩
  · rw [← e1, ← e2]; exact Lib.hid (Below.step (Below.step b1 b2) b3)
  · rw [← e1, ← e2]; exact Lib.hid (by rw [World.size_alloc, s2])
theorem Laid.of {w W : World} {p : Nat} {sv : Value} {st : Int} {r : Mk} {e : Ending} {w' : World} (hb : Below w.heap.size w W) (h : Laid W p sv st r e w') : Laid w p sv st r e w' := by
  obtain ⟨sv', e1, h1, h2⟩ := h
  exact ⟨sv', e1, h1, (Turn.of hb).trans h2⟩

theorem leaf_set (f : Nat → Nat) (next : Nat) (q : Plan) (hk : q.k = 1) (hf : q.f = f) : stC (leafS q next) = #[.int .i64 1, .int .u64 (f 0), .int .u64 (f 1), .int .u64 (f 2), .int .u64 (f 3), .int .i64 next, .int .i64 0] := by
  unfold leafS
  rw [hk, if_pos rfl, hf]
  rfl
theorem leaf_two (next : Nat) (q : Plan) (hk : q.k = 2) : stC (leafS q next) = #[.int .i64 2, .int .u64 0, .int .u64 0, .int .u64 0, .int .u64 0, .int .i64 next, .int .i64 0] := by
  unfold leafS
  rw [hk, if_neg (by omega)]
  rfl
theorem leaf_three (next : Nat) (q : Plan) (hk : q.k = 3) : stC (leafS q next) = #[.int .i64 3, .int .u64 0, .int .u64 0, .int .u64 0, .int .u64 0, .int .i64 next, .int .i64 0] := by
  unfold leafS
  rw [hk, if_neg (by omega)]
  rfl

set_option maxRecDepth 100000 in
theorem lay_leaf (q : Plan) (sl : Value) (next : Nat) (p : Nat) (ss : List St) (sv : Value) (st : Int) (w : World) (hk : q.k = 1 ∨ q.k = 2 ∨ q.k = 3) (h : Mch w p ss sv st) (hlen : ss.length ≤ 1000000000) :
    Calls Try.prog 15 #[.pointer (some ⟨p, 0, none⟩), .agg (plC q.k q.f q.lo q.hi q.n sl), .int .i64 next] w (Laid w p sv st (putN ss (leafS q next))) := by
  obtain ⟨W, hW, HL, HB, _⟩ := layB_new w p (plC q.k q.f q.lo q.hi q.n sl) next
  have HP := Lib.hid (put_spec p ss sv st (leafS q next) W (h.after HB.out) hlen)
  clear h
  rcases hk with e | e | e
  · rw [leaf_set q.f next q e rfl] at HP
    have h1 : (q.k == 1) = true := by rw [e]; rfl
    clear e
    go_enter Try.func15, Try.ntmps15
    go_upto_region 1 with (fail)
    rw [← hW]
    clear hW
    obtain ⟨c0, c1, c2, c3, c4, c5, c6, c7, c8⟩ := nine_pl HL.out.q.nine
    have d0 := HL.out.ptr.c
    have d2 := HL.out.nx.c
    go_wp2_with fail
    refine HP.out.mono ?_
    rintro e w1 hl
    obtain ⟨sv', rfl, h1, h2⟩ := hl
    have HL2 := Lib.hid (Laid.of HB.out (⟨sv', rfl, h1, h2⟩ : Laid W p sv st _ _ w1))
    clear h1 h2
    go_wp2_with fail
    go_ret
    exact HL2.out
  · rw [leaf_two next q e] at HP
    have h1 : (q.k == 1) = false := by rw [e]; rfl
    have h2 : (q.k == 2) = true := by rw [e]; rfl
    clear e
    go_enter Try.func15, Try.ntmps15
    go_upto_region 1 with (fail)
    rw [← hW]
    clear hW
    obtain ⟨c0, c1, c2, c3, c4, c5, c6, c7, c8⟩ := nine_pl HL.out.q.nine
    have d0 := HL.out.ptr.c
    have d2 := HL.out.nx.c
    go_wp2_with fail
    refine HP.out.mono ?_
    rintro e w1 hl
    obtain ⟨sv', rfl, h1, h2⟩ := hl
    have HL2 := Lib.hid (Laid.of HB.out (⟨sv', rfl, h1, h2⟩ : Laid W p sv st _ _ w1))
    clear h1 h2
    go_wp2_with fail
    go_ret
    exact HL2.out
  · rw [leaf_three next q e] at HP
    have h1 : (q.k == 1) = false := by rw [e]; rfl
    have h2 : (q.k == 2) = false := by rw [e]; rfl
    have h3 : (q.k == 3) = true := by rw [e]; rfl
    clear e
    go_enter Try.func15, Try.ntmps15
    go_upto_region 1 with (fail)
    rw [← hW]
    clear hW
    obtain ⟨c0, c1, c2, c3, c4, c5, c6, c7, c8⟩ := nine_pl HL.out.q.nine
    have d0 := HL.out.ptr.c
    have d2 := HL.out.nx.c
    go_wp2_with fail
    refine HP.out.mono ?_
    rintro e w1 hl
    obtain ⟨sv', rfl, h1, h2⟩ := hl
    have HL2 := Lib.hid (Laid.of HB.out (⟨sv', rfl, h1, h2⟩ : Laid W p sv st _ _ w1))
    clear h1 h2
    go_wp2_with fail
    go_ret
    exact HL2.out

set_option maxRecDepth 100000 in
theorem lay_none (q : Plan) (sl : Value) (next : Nat) (p : Nat) (ss : List St) (sv : Value) (st : Int) (w : World) (h1 : q.k ≠ 1) (h2 : q.k ≠ 2) (h3 : q.k ≠ 3) (h4 : q.k ≠ 4) (h5 : q.k ≠ 5) (h6 : q.k ≠ 6) (h : Mch w p ss sv st) :
    Calls Try.prog 15 #[.pointer (some ⟨p, 0, none⟩), .agg (plC q.k q.f q.lo q.hi q.n sl), .int .i64 next] w (Laid w p sv st (next, ss)) := by
  obtain ⟨W, hW, HL, HB, _⟩ := layB_new w p (plC q.k q.f q.lo q.hi q.n sl) next
  have HM := Lib.hid (h.after HB.out)
  have e1 : (q.k == 1) = false := beq_eq_false_iff_ne.2 h1
  have e2 : (q.k == 2) = false := beq_eq_false_iff_ne.2 h2
  have e3 : (q.k == 3) = false := beq_eq_false_iff_ne.2 h3
  have e4 : (q.k == 4) = false := beq_eq_false_iff_ne.2 h4
  have e5 : (q.k == 5) = false := beq_eq_false_iff_ne.2 h5
  have e6 : (q.k == 6) = false := beq_eq_false_iff_ne.2 h6
  clear h h1 h2 h3 h4 h5 h6
  go_enter Try.func15, Try.ntmps15
  go_upto_region 1 with (fail)
  rw [← hW]
  clear hW
  obtain ⟨c0, c1, c2, c3, c4, c5, c6, c7, c8⟩ := nine_pl HL.out.q.nine
  have d0 := HL.out.ptr.c
  have d2 := HL.out.nx.c
  go_wp2_with fail
  go_ret
  exact ⟨sv, rfl, HM.out, Turn.of HB.out⟩
end Go.Proofs.Ytbojoiacedhjiaa
