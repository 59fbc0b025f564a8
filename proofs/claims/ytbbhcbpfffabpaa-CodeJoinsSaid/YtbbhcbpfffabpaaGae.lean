/- Merged by program: T3CellA, T3Tri, T3CellB. -/
import Derived.Laws.StructEq
import Derived.Deep.RegionHeld3
import Derived.Test.YtbbhcbpfffabpaaGac
import Derived.Test.YtbbhcbpfffabpaaGad
import Derived.Test.YtbbhcbpfffabpaaGab
/- Contracts of the small functions of package cell, and of the document's answers: no drawn region. -/
namespace Go.Proofs.Ytbbhcbpfffabpaa.T3
open Go.Proofs.Ytbbhcbpfffabpaa Go.Proofs
open Go.RowKit

/-! ### What a text is, as a number -/
def pN (l : List UInt8) : Int := if parseNone l then 0 else (back (parseVal l)).1
def pE (l : List UInt8) : Nat := if parseNone l then 0 else parseEnd l
def pR (l : List UInt8) : Int := if parseNone l then 0 else (back (parseVal l)).2
theorem parse_three (l : List UInt8) : parseAns l = .tuple #[.int .i64 (pN l), .int .i64 (pE l : Int), .int .i64 (pR l)] := by
  unfold parseAns num3 pN pE pR
  split <;> rfl

/-- All of a text is a number. -/
def wholeB (t : ByteArray) : Bool := decide (pR t.data.toList = 0) && decide (pE t.data.toList ≠ 0) && decide (pE t.data.toList = t.size)
theorem whole_cases (t : ByteArray) :
    (wholeB t = true ∧ pR t.data.toList = 0 ∧ pE t.data.toList = t.size ∧ 0 < t.size) ∨
    (wholeB t = false ∧ (pR t.data.toList != 0) = true) ∨
    (wholeB t = false ∧ pR t.data.toList = 0 ∧ pE t.data.toList = 0) ∨
    (wholeB t = false ∧ pR t.data.toList = 0 ∧ ((pE t.data.toList : Int) == 0) = false ∧ ((pE t.data.toList : Int) != (t.size : Int)) = true) := by
  unfold wholeB
  by_cases h1 : pR t.data.toList = 0
  · by_cases h2 : pE t.data.toList = 0
    · exact Or.inr (Or.inr (Or.inl ⟨by simp [h2], h1, h2⟩))
    · by_cases h3 : pE t.data.toList = t.size
      · exact Or.inl ⟨by rw [h1, h3, decide_eq_true (show t.size ≠ 0 by omega)]; simp, h1, h3, by omega⟩
      · refine Or.inr (Or.inr (Or.inr ⟨by simp [h3], h1, ?_, ?_⟩))
        · rw [beq_eq_false_iff_ne]; omega
        · rw [bne_iff_ne]; omega
  · exact Or.inr (Or.inl ⟨by simp [h1], by rw [bne_iff_ne]; exact h1⟩)

def showT (n : Int) : ByteArray := ⟨(showText n).toArray⟩
theorem showT_of {t : ByteArray} {n : Int} (h : t.data.toList = showText n) : t = showT n := by
  apply ByteArray.ext
  apply Array.toList_inj.1
  rw [h]; rfl

theorem show_is (n : Int) (w : World) (hn : Fits n) :
    Calls Try.prog 69 #[.int .i64 n] w fun e w' => e = .returned (.string (showT n)) ∧ Below w.heap.size w w' :=
  (show_any n w hn).mono fun _ _ ⟨_, ht, he, hb⟩ => ⟨by rw [he, showT_of ht], hb⟩
theorem ofStr_any (s : ByteArray) (w : World) :
    Calls Try.prog 47 #[.string s] w fun e w' => e = .returned (.agg #[.int .i64 2, .int .i64 0, .string s]) ∧ Below w.heap.size w w' := by
  go_enter Try.func47, Try.ntmps47
  go_wp2
  refine bodyPost_ret (v := .agg #[.int .i64 2, .int .i64 0, .string s]) (by simp [results, Try.results47, go_sem]) rfl ⟨rfl, (Below.refl _ _).alloc (Nat.le_refl _) _⟩

theorem ofNum_any (n : Int) (w : World) :
    Calls Try.prog 53 #[.int .i64 n] w fun e w' => e = .returned (.agg #[.int .i64 1, .int .i64 n, .string ⟨#[]⟩]) ∧ Below w.heap.size w w' := by
  go_enter Try.func53, Try.ntmps53
  go_wp2
  refine bodyPost_ret (v := .agg #[.int .i64 1, .int .i64 n, .string ⟨#[]⟩]) (by simp [results, Try.results53, go_sem]) rfl ⟨rfl, (Below.refl _ _).alloc (Nat.le_refl _) _⟩

def cmpI (m n : Int) : Int := if m < n then -1 else if n < m then 1 else 0

theorem isNaN_any (n : Int) (w : World) :
    Calls Try.prog 76 #[.int .i64 n] w fun e w' => e = .returned (.bool false) ∧ w = w' := by
  have g : (n != n) = false := by rw [bne_self_eq_false]
  go_enter Try.func76, Try.ntmps76
  go_wp2
  go_ret
  exact ⟨rfl, rfl⟩

theorem cmp_any (m n : Int) (w : World) :
    Calls Try.prog 57 #[.int .i64 m, .int .i64 n] w fun e w' => e = .returned (.int .i64 (cmpI m n)) ∧ w = w' := by
  have N1 := Lib.hid (fun w => isNaN_any m w)
  have N2 := Lib.hid (fun w => isNaN_any n w)
  unfold cmpI
  by_cases h1 : m < n
  · rw [if_pos h1]
    go_enter Try.func57, Try.ntmps57
    go_wp2_with fail
    refine (N1.out _).mono ?_
    rintro e w1 ⟨rfl, rfl⟩
    go_wp2_with fail
    refine (N2.out _).mono ?_
    rintro e w1 ⟨rfl, rfl⟩
    go_wp2_with fail
    go_ret
    exact ⟨rfl, rfl⟩
  · rw [if_neg h1]
    by_cases h2 : n < m
    · rw [if_pos h2]
      go_enter Try.func57, Try.ntmps57
      go_wp2_with fail
      refine (N1.out _).mono ?_
      rintro e w1 ⟨rfl, rfl⟩
      go_wp2_with fail
      refine (N2.out _).mono ?_
      rintro e w1 ⟨rfl, rfl⟩
      go_wp2_with fail
      go_ret
      exact ⟨rfl, rfl⟩
    · rw [if_neg h2]
      go_enter Try.func57, Try.ntmps57
      go_wp2_with fail
      refine (N1.out _).mono ?_
      rintro e w1 ⟨rfl, rfl⟩
      go_wp2_with fail
      refine (N2.out _).mono ?_
      rintro e w1 ⟨rfl, rfl⟩
      go_wp2_with fail
      go_ret
      exact ⟨rfl, rfl⟩

/-! ### A cell's kind -/
theorem kind_cases (k : Int) : k = 0 ∨ k = 1 ∨ k = 2 ∨ k = 3 ∨ ((k == 0) = false ∧ (k == 1) = false ∧ (k == 2) = false ∧ (k == 3) = false) := by
  by_cases h0 : k = 0
  · exact Or.inl h0
  · by_cases h1 : k = 1
    · exact Or.inr (Or.inl h1)
    · by_cases h2 : k = 2
      · exact Or.inr (Or.inr (Or.inl h2))
      · by_cases h3 : k = 3
        · exact Or.inr (Or.inr (Or.inr (Or.inl h3)))
        · exact Or.inr (Or.inr (Or.inr (Or.inr ⟨beq_eq_false_iff_ne.2 h0, beq_eq_false_iff_ne.2 h1, beq_eq_false_iff_ne.2 h2, beq_eq_false_iff_ne.2 h3⟩)))

/-- A cell's text. -/
def strC (k n : Int) (s : ByteArray) : ByteArray := if k = 1 then showT n else if k = 2 ∨ k = 3 then s else ⟨#[]⟩
/-- A cell's number, if it is no text. -/
def numC (k n : Int) : Int := if k = 1 ∨ k = 3 then n else 0

theorem str_any (k n : Int) (s : ByteArray) (hn : Fits n) (w : World) :
    Calls Try.prog 46 #[.agg #[.int .i64 k, .int .i64 n, .string s]] w fun e w' => e = .returned (.string (strC k n s)) ∧ Below w.heap.size w w' := by
  have S := Lib.hid (fun w => show_is n w hn)
  have B0 := Lib.hid ((Below.refl w.heap.size w).alloc (Nat.le_refl _) (.cells #[.int .i64 k, .int .i64 n, .string s] 23))
  rcases kind_cases k with rfl | rfl | rfl | rfl | ⟨g0, g1, g2, g3⟩
  · go_enter Try.func46, Try.ntmps46
    go_wp2_with fail
    go_ret
    exact ⟨rfl, B0.out⟩
  · go_enter Try.func46, Try.ntmps46
    go_wp2_with fail
    refine (S.out _).mono ?_
    rintro e w1 ⟨rfl, b1⟩
    have B1 := Lib.hid (Below.step B0.out b1); clear b1
    go_wp2_with fail
    go_ret
    exact ⟨rfl, B1.out⟩
  · go_enter Try.func46, Try.ntmps46
    go_wp2_with fail
    go_ret
    exact ⟨rfl, B0.out⟩
  · go_enter Try.func46, Try.ntmps46
    go_wp2_with fail
    go_ret
    exact ⟨rfl, B0.out⟩
  · have e : strC k n s = ⟨#[]⟩ := by
      rw [beq_eq_false_iff_ne] at g1 g2 g3
      unfold strC
      rw [if_neg g1, if_neg (by simp [g2, g3])]
    rw [e]; clear e
    go_enter Try.func46, Try.ntmps46
    go_wp2_with fail
    go_ret
    exact ⟨rfl, B0.out⟩

theorem num_cell (k n : Int) (s : ByteArray) (hk : k ≠ 2) (w : World) :
    Calls Try.prog 42 #[.agg #[.int .i64 k, .int .i64 n, .string s]] w fun e w' => e = .returned (.tuple #[.int .i64 (numC k n), .int .i64 0]) ∧ Below w.heap.size w w' := by
  have B0 := Lib.hid ((Below.refl w.heap.size w).alloc (Nat.le_refl _) (.cells #[.int .i64 k, .int .i64 n, .string s] 23))
  rcases kind_cases k with rfl | rfl | rfl | rfl | ⟨g0, g1, g2, g3⟩
  · go_enter Try.func42, Try.ntmps42
    go_wp2_with fail
    go_ret2
    exact ⟨rfl, B0.out⟩
  · go_enter Try.func42, Try.ntmps42
    go_wp2_with fail
    go_ret2
    exact ⟨rfl, B0.out⟩
  · exact absurd rfl hk
  · go_enter Try.func42, Try.ntmps42
    go_wp2_with fail
    go_ret2
    exact ⟨rfl, B0.out⟩
  · have e : numC k n = 0 := by
      rw [beq_eq_false_iff_ne] at g1 g3
      unfold numC
      rw [if_neg (by simp [g1, g3])]
    rw [e]; clear e hk
    go_enter Try.func42, Try.ntmps42
    go_wp2_with fail
    go_ret2
    exact ⟨rfl, B0.out⟩
end Go.Proofs.Ytbbhcbpfffabpaa.T3

/- A cell's three parts in memory: kept by calls; what a region that draws its order needs. -/
namespace Go.Proofs.Ytbbhcbpfffabpaa.T3
open Go.Proofs.Ytbbhcbpfffabpaa Go.Proofs
open Go.RowKit

theorem cell_lt {W : World} {a : Addr} {v : Value} (h : W.cell? a = some v) : a.block < W.heap.size := by
  rcases Nat.lt_or_ge a.block W.heap.size with h' | h'
  · exact h'
  · exfalso
    have e : W.heap[a.block]? = none := Array.getElem?_eq_none h'
    simp [World.cell?, e] at h

structure Tri (w : World) (b : Nat) (x y z : Value) : Prop where
  c0 : w.cell? ⟨b, 0, none⟩ = some x
  c1 : w.cell? ⟨b, 1, none⟩ = some y
  c2 : w.cell? ⟨b, 2, none⟩ = some z
  f0 : w.frozen? ⟨b, 0, none⟩ = false
  f1 : w.frozen? ⟨b, 1, none⟩ = false
  f2 : w.frozen? ⟨b, 2, none⟩ = false

theorem Tri.lt {w : World} {b : Nat} {x y z : Value} (h : Tri w b x y z) : b < w.heap.size := cell_lt h.c0
theorem Tri.below {w w' : World} {b : Nat} {x y z : Value} (h : Tri w b x y z) (hb : Below w.heap.size w w') : Tri w' b x y z := by
  have hlt := h.lt
  exact ⟨by rw [hb.cell (p := ⟨b, 0, none⟩) hlt]; exact h.c0, by rw [hb.cell (p := ⟨b, 1, none⟩) hlt]; exact h.c1, by rw [hb.cell (p := ⟨b, 2, none⟩) hlt]; exact h.c2,
    by rw [hb.frozen (p := ⟨b, 0, none⟩) hlt]; exact h.f0, by rw [hb.frozen (p := ⟨b, 1, none⟩) hlt]; exact h.f1, by rw [hb.frozen (p := ⟨b, 2, none⟩) hlt]; exact h.f2⟩
theorem tri_new (w : World) (x y z : Value) (t : TypeId) : Tri (w.alloc (.cells #[x, y, z] t)) w.heap.size x y z := by
  refine ⟨?_, ?_, ?_, ?_, ?_, ?_⟩ <;> simp [go_sem]
theorem below_new (w : World) (o : Obj) : Below w.heap.size w (w.alloc o) := (Below.refl _ _).alloc (Nat.le_refl _) o
theorem below_drew (w : World) : Below w.heap.size w w.drew := (Below.refl _ _).drew

theorem Tri.after {w w' : World} {b : Nat} {x y z : Value} (h : Tri w b x y z) (hb : Below w.drew.heap.size w.drew w') : Tri w' b x y z := (h.below (below_drew w)).below hb
theorem Below.after {w0 w w' : World} (h : Below w0.heap.size w0 w) (hb : Below w.drew.heap.size w.drew w') : Below w0.heap.size w0 w' := Below.step (Below.step h (below_drew w)) hb
/-- The result's cell, stored to. -/
theorem tri_end {w W : World} {x y z : Value} (T : Tri W w.heap.size x y z) (hb : Below w.heap.size w W) (k n s : Value) :
    (((W.setCell ⟨w.heap.size, 0, none⟩ k).setCell ⟨w.heap.size, 1, none⟩ n).setCell ⟨w.heap.size, 2, none⟩ s).cell? ⟨w.heap.size, 0, none⟩ = some k ∧
    (((W.setCell ⟨w.heap.size, 0, none⟩ k).setCell ⟨w.heap.size, 1, none⟩ n).setCell ⟨w.heap.size, 2, none⟩ s).cell? ⟨w.heap.size, 1, none⟩ = some n ∧
    (((W.setCell ⟨w.heap.size, 0, none⟩ k).setCell ⟨w.heap.size, 1, none⟩ n).setCell ⟨w.heap.size, 2, none⟩ s).cell? ⟨w.heap.size, 2, none⟩ = some s ∧
    Below w.heap.size w (((W.setCell ⟨w.heap.size, 0, none⟩ k).setCell ⟨w.heap.size, 1, none⟩ n).setCell ⟨w.heap.size, 2, none⟩ s) := by
  have n01 : (⟨w.heap.size, 0, none⟩ : Addr) ≠ ⟨w.heap.size, 1, none⟩ := by intro e; injection e with e1 e2; omega
  have n02 : (⟨w.heap.size, 0, none⟩ : Addr) ≠ ⟨w.heap.size, 2, none⟩ := by intro e; injection e with e1 e2; omega
  have n12 : (⟨w.heap.size, 1, none⟩ : Addr) ≠ ⟨w.heap.size, 2, none⟩ := by intro e; injection e with e1 e2; omega
  refine ⟨?_, ?_, ?_, ((hb.setCell (by simp) _).setCell (by simp) _).setCell (by simp) _⟩
  · rw [cell_other (Ne.symm n02), cell_other (Ne.symm n01)]; exact cell_same T.c0
  · rw [cell_other (Ne.symm n12)]; exact cell_same (u := y) (by rw [cell_other n01]; exact T.c1)
  · exact cell_same (u := z) (by rw [cell_other n12, cell_other n02]; exact T.c2)

/-! ### What a region that draws its order holds: one, two, three cells -/
theorem keep1 {w0 W W' : World} {b : Nat} {x y z : Value} (h : Hid (Below w0.heap.size w0 W) ∧ W.cell? ⟨b, 0, none⟩ = some x ∧ W.cell? ⟨b, 1, none⟩ = some y ∧ W.cell? ⟨b, 2, none⟩ = some z) (hb : Below W.heap.size W W') :
    Hid (Below w0.heap.size w0 W') ∧ W'.cell? ⟨b, 0, none⟩ = some x ∧ W'.cell? ⟨b, 1, none⟩ = some y ∧ W'.cell? ⟨b, 2, none⟩ = some z := by
  obtain ⟨h0, h1, h2, h3⟩ := h
  have hlt := cell_lt h1
  exact ⟨Lib.hid (Below.step h0.out hb), by rw [hb.cell (p := ⟨b, 0, none⟩) hlt]; exact h1, by rw [hb.cell (p := ⟨b, 1, none⟩) hlt]; exact h2, by rw [hb.cell (p := ⟨b, 2, none⟩) hlt]; exact h3⟩
theorem keep2 {w0 W W' : World} {b c : Nat} {x y z x' y' z' : Value} (h : Hid (Below w0.heap.size w0 W) ∧ W.cell? ⟨b, 0, none⟩ = some x ∧ W.cell? ⟨b, 1, none⟩ = some y ∧ W.cell? ⟨b, 2, none⟩ = some z ∧ W.cell? ⟨c, 0, none⟩ = some x' ∧ W.cell? ⟨c, 1, none⟩ = some y' ∧ W.cell? ⟨c, 2, none⟩ = some z') (hb : Below W.heap.size W W') :
    Hid (Below w0.heap.size w0 W') ∧ W'.cell? ⟨b, 0, none⟩ = some x ∧ W'.cell? ⟨b, 1, none⟩ = some y ∧ W'.cell? ⟨b, 2, none⟩ = some z ∧ W'.cell? ⟨c, 0, none⟩ = some x' ∧ W'.cell? ⟨c, 1, none⟩ = some y' ∧ W'.cell? ⟨c, 2, none⟩ = some z' := by
  obtain ⟨h0, h1, h2, h3, h4⟩ := h
  obtain ⟨k0, k1, k2, k3⟩ := keep1 ⟨h0, h1, h2, h3⟩ hb
  exact ⟨k0, k1, k2, k3, (keep1 ⟨h0, h4⟩ hb).2⟩
theorem keep3 {w0 W W' : World} {b c d : Nat} {x y z x' y' z' x2 y2 z2 : Value} (h : Hid (Below w0.heap.size w0 W) ∧ W.cell? ⟨b, 0, none⟩ = some x ∧ W.cell? ⟨b, 1, none⟩ = some y ∧ W.cell? ⟨b, 2, none⟩ = some z ∧ W.cell? ⟨c, 0, none⟩ = some x' ∧ W.cell? ⟨c, 1, none⟩ = some y' ∧ W.cell? ⟨c, 2, none⟩ = some z' ∧ W.cell? ⟨d, 0, none⟩ = some x2 ∧ W.cell? ⟨d, 1, none⟩ = some y2 ∧ W.cell? ⟨d, 2, none⟩ = some z2) (hb : Below W.heap.size W W') :
    Hid (Below w0.heap.size w0 W') ∧ W'.cell? ⟨b, 0, none⟩ = some x ∧ W'.cell? ⟨b, 1, none⟩ = some y ∧ W'.cell? ⟨b, 2, none⟩ = some z ∧ W'.cell? ⟨c, 0, none⟩ = some x' ∧ W'.cell? ⟨c, 1, none⟩ = some y' ∧ W'.cell? ⟨c, 2, none⟩ = some z' ∧ W'.cell? ⟨d, 0, none⟩ = some x2 ∧ W'.cell? ⟨d, 1, none⟩ = some y2 ∧ W'.cell? ⟨d, 2, none⟩ = some z2 := by
  obtain ⟨h0, h1, h2, h3, h4⟩ := h
  obtain ⟨k0, k1, k2, k3⟩ := keep1 ⟨h0, h1, h2, h3⟩ hb
  exact ⟨k0, k1, k2, k3, (keep2 ⟨h0, h4⟩ hb).2⟩
theorem held1 {w0 W : World} {b : Nat} {x y z : Value} (hb : Below w0.heap.size w0 W) (T : Tri W b x y z) :
    Hid (Below w0.heap.size w0 W) ∧ W.cell? ⟨b, 0, none⟩ = some x ∧ W.cell? ⟨b, 1, none⟩ = some y ∧ W.cell? ⟨b, 2, none⟩ = some z := ⟨Lib.hid hb, T.c0, T.c1, T.c2⟩
theorem held2 {w0 W : World} {b c : Nat} {x y z x' y' z' : Value} (hb : Below w0.heap.size w0 W) (T : Tri W b x y z) (T' : Tri W c x' y' z') :
    Hid (Below w0.heap.size w0 W) ∧ W.cell? ⟨b, 0, none⟩ = some x ∧ W.cell? ⟨b, 1, none⟩ = some y ∧ W.cell? ⟨b, 2, none⟩ = some z ∧ W.cell? ⟨c, 0, none⟩ = some x' ∧ W.cell? ⟨c, 1, none⟩ = some y' ∧ W.cell? ⟨c, 2, none⟩ = some z' := ⟨Lib.hid hb, T.c0, T.c1, T.c2, T'.c0, T'.c1, T'.c2⟩
theorem held3 {w0 W : World} {b c d : Nat} {x y z x' y' z' x2 y2 z2 : Value} (hb : Below w0.heap.size w0 W) (T : Tri W b x y z) (T' : Tri W c x' y' z') (T2 : Tri W d x2 y2 z2) :
    Hid (Below w0.heap.size w0 W) ∧ W.cell? ⟨b, 0, none⟩ = some x ∧ W.cell? ⟨b, 1, none⟩ = some y ∧ W.cell? ⟨b, 2, none⟩ = some z ∧ W.cell? ⟨c, 0, none⟩ = some x' ∧ W.cell? ⟨c, 1, none⟩ = some y' ∧ W.cell? ⟨c, 2, none⟩ = some z' ∧ W.cell? ⟨d, 0, none⟩ = some x2 ∧ W.cell? ⟨d, 1, none⟩ = some y2 ∧ W.cell? ⟨d, 2, none⟩ = some z2 :=
  ⟨Lib.hid hb, T.c0, T.c1, T.c2, T'.c0, T'.c1, T'.c2, T2.c0, T2.c1, T2.c2⟩
theorem boxed3 (w : World) (x y z x' y' z' x2 y2 z2 : Value) (t : TypeId) :
    Hid (Below w.heap.size w (((w.alloc (.cells #[x, y, z] t)).alloc (.cells #[x', y', z'] t)).alloc (.cells #[x2, y2, z2] t))) ∧ Tri (((w.alloc (.cells #[x, y, z] t)).alloc (.cells #[x', y', z'] t)).alloc (.cells #[x2, y2, z2] t)) w.heap.size x y z ∧
    Tri (((w.alloc (.cells #[x, y, z] t)).alloc (.cells #[x', y', z'] t)).alloc (.cells #[x2, y2, z2] t)) (w.heap.size + 1) x' y' z' ∧ Tri (((w.alloc (.cells #[x, y, z] t)).alloc (.cells #[x', y', z'] t)).alloc (.cells #[x2, y2, z2] t)) (w.heap.size + 1 + 1) x2 y2 z2 := by
  have h1 := tri_new (w.alloc (.cells #[x, y, z] t)) x' y' z' t
  have h2 := tri_new ((w.alloc (.cells #[x, y, z] t)).alloc (.cells #[x', y', z'] t)) x2 y2 z2 t
  rw [World.size_alloc] at h1
  rw [World.size_alloc, World.size_alloc] at h2
  exact ⟨Lib.hid (Below.step (Below.step (below_new _ _) (below_new _ _)) (below_new _ _)), ((tri_new w x y z t).below (below_new _ _)).below (below_new _ _), h1.below (below_new _ _), h2⟩
end Go.Proofs.Ytbbhcbpfffabpaa.T3

/- Contracts of cell.Input, Compare. -/
namespace Go.Proofs.Ytbbhcbpfffabpaa.T3
open Go.Proofs.Ytbbhcbpfffabpaa Go.Proofs
open Go.RowKit
open Go.Lib (compareBytes)

/-! ### Input -/
def looksB (s : ByteArray) : Bool := wholeB (trimB s)
def inK (s : ByteArray) : Int := if looksB s then 3 else 2
def inN (s : ByteArray) : Int := if looksB s then pN (trimB s).data.toList else 0

theorem dropWhile_le (p : UInt8 → Bool) : ∀ l : List UInt8, (l.dropWhile p).length ≤ l.length
  | [] => Nat.le_refl _
  | a :: l => by
    rw [List.dropWhile_cons]
    split
    · have := dropWhile_le p l; simp; omega
    · exact Nat.le_refl _
theorem trimB_size (s : ByteArray) : (trimB s).size ≤ s.size := by
  have h : (Lib.trimS s.data.toList [32, 9, 10]).length ≤ s.data.toList.length := by
    unfold Lib.trimS Lib.trimLeftS Lib.trimRightS
    refine Nat.le_trans (dropWhile_le _ _) ?_
    rw [List.length_reverse]
    refine Nat.le_trans (dropWhile_le _ _) ?_
    rw [List.length_reverse]
    exact Nat.le_refl _
  rw [Lib.size_eq, Lib.size_eq]
  exact h

def cmpC (k n : Int) (s : ByteArray) (k' n' : Int) (s' : ByteArray) : Int :=
  if k = 2 ∨ k' = 2 then compareBytes (strC k n s).data.toList (strC k' n' s').data.toList else cmpI (numC k n) (numC k' n')

theorem boxed2 (w : World) (x y z x' y' z' : Value) (t t' : TypeId) :
    Hid (Below w.heap.size w ((w.alloc (.cells #[x, y, z] t)).alloc (.cells #[x', y', z'] t'))) ∧ Tri ((w.alloc (.cells #[x, y, z] t)).alloc (.cells #[x', y', z'] t')) w.heap.size x y z ∧ Tri ((w.alloc (.cells #[x, y, z] t)).alloc (.cells #[x', y', z'] t')) (w.heap.size + 1) x' y' z' := by
  have h := tri_new (w.alloc (.cells #[x, y, z] t)) x' y' z' t'
  rw [World.size_alloc] at h
  exact ⟨Lib.hid (Below.step (below_new _ _) (below_new _ _)), (tri_new w x y z t).below (below_new _ _), h⟩

set_option maxHeartbeats 1000000 in
theorem compare_cell (k n : Int) (s : ByteArray) (k' n' : Int) (s' : ByteArray) (hn : Fits n) (hn' : Fits n') (w : World) :
    Calls Try.prog 29 #[.agg #[.int .i64 k, .int .i64 n, .string s], .agg #[.int .i64 k', .int .i64 n', .string s']] w fun e w' => e = .returned (.int .i64 (cmpC k n s k' n' s')) ∧ Below w.heap.size w w' := by
  have S1 := Lib.hid (fun w => str_any k n s hn w)
  have S2 := Lib.hid (fun w => str_any k' n' s' hn' w)
  have C := Lib.hid (fun w => compare_any (strC k n s) (strC k' n' s') w)
  have B0 := boxed2 w (.int .i64 k) (.int .i64 n) (.string s) (.int .i64 k') (.int .i64 n') (.string s') 23 23
  have H0 := Lib.hid (held2 B0.1.out B0.2.1 B0.2.2)
  by_cases h : k = 2 ∨ k' = 2
  · unfold cmpC
    rw [if_pos h]
    have hb : (k == 2) = true ∨ ((k == 2) = false ∧ (k' == 2) = true) := by
      rw [beq_iff_eq, beq_iff_eq, beq_eq_false_iff_ne]; omega
    clear h hn hn' B0
    rcases hb with hb | ⟨hb, hb'⟩
    all_goals
      go_enter Try.func29, Try.ntmps29
      go_wp2_with fail
      go_region_held3 (fun w' => Hid (Below w.heap.size w w') ∧ w'.cell? ⟨w.heap.size, 0, none⟩ = some (.int .i64 k) ∧ w'.cell? ⟨w.heap.size, 1, none⟩ = some (.int .i64 n) ∧ w'.cell? ⟨w.heap.size, 2, none⟩ = some (.string s) ∧ w'.cell? ⟨w.heap.size + 1, 0, none⟩ = some (.int .i64 k') ∧ w'.cell? ⟨w.heap.size + 1, 1, none⟩ = some (.int .i64 n') ∧ w'.cell? ⟨w.heap.size + 1, 2, none⟩ = some (.string s'))
        (first | exact keep2 H0.out (below_drew _) | exact keep2 (by assumption) (by assumption) | assumption)
        (first
          | (go_at_call_of 46 (Value.agg #[.int .i64 k, .int .i64 n, .string s]); refine (S1.out _).mono ?_; rintro e w1 ⟨rfl, b1⟩)
          | (go_at_call_of 46 (Value.agg #[.int .i64 k', .int .i64 n', .string s']); refine (S2.out _).mono ?_; rintro e w1 ⟨rfl, b1⟩)
          | (go_at_call 56; refine (C.out _).mono ?_; rintro e w1 ⟨rfl, rfl⟩))
      all_goals
        have HE := Lib.hid (And.left (show Hid _ ∧ _ by assumption))
        go_wp2_with fail
        go_ret
        exact ⟨rfl, HE.out.out⟩
  · unfold cmpC
    rw [if_neg h]
    have g1 : (k == 2) = false := by rw [beq_eq_false_iff_ne]; omega
    have g2 : (k' == 2) = false := by rw [beq_eq_false_iff_ne]; omega
    have N1 := Lib.hid (fun w => num_cell k n s (by omega) w)
    have N2 := Lib.hid (fun w => num_cell k' n' s' (by omega) w)
    have CM := Lib.hid (fun w => cmp_any (numC k n) (numC k' n') w)
    have HT := Lib.hid B0.2.2
    have HB := Lib.hid B0.1.out
    clear h hn hn' B0 H0 S1 S2 C
    go_enter Try.func29, Try.ntmps29
    go_wp2_with fail
    refine (N1.out _).mono ?_
    rintro e w1 ⟨rfl, b1⟩
    have T1 := HT.out.below b1
    have c0 := T1.c0; have c1 := T1.c1; have c2 := T1.c2
    have B1 := Lib.hid (Below.step HB.out b1); clear b1 T1
    go_wp2_with fail
    refine (N2.out _).mono ?_
    rintro e w2 ⟨rfl, b2⟩
    have B2 := Lib.hid (Below.step B1.out b2); clear b2
    go_wp2_with fail
    refine (CM.out _).mono ?_
    rintro e w3 ⟨rfl, rfl⟩
    go_wp2_with fail
    go_ret
    exact ⟨rfl, B2.out⟩
end Go.Proofs.Ytbbhcbpfffabpaa.T3
