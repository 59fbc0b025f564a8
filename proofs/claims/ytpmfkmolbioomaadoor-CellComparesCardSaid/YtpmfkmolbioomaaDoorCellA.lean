/- Contracts of the small functions of package cell, and of the document's answers: no drawn region. -/
import Derived.Test.YtpmfkmolbioomaaDoorThere
import Derived.Test.YtpmfkmolbioomaaDoorTrim
import Derived.Test.YtpmfkmolbioomaaDoorCompare
import Derived.Laws.StructEq
import Derived.Deep.RegionHeld3
namespace Go.Proofs.YtpmfkmolbioomaaDoor
open Go.RowKit

/-! ### What a text is, as a number -/
def pN (l : List UInt8) : Int := if parseNone l then 0 else (back (parseVal l)).1
def pE (l : List UInt8) : Nat := if parseNone l then 0 else parseEnd l
def pR (l : List UInt8) : Int := if parseNone l then 0 else (back (parseVal l)).2
theorem parse_three (l : List UInt8) : parseAns l = .tuple #[.int .i64 (pN l), .int .i64 (pE l : Int), .int .i64 (pR l)] := by
  unfold parseAns num3 pN pE pR
  split <;> rfl

/-- All of a text is a number. -/
def wholeB (t : ByteArray) : Bool := decide (pR t.data.toList = 0) && decide (pE t.data.toList ≠ 0) && decide (pE t.data.toList = t.size)
theorem whole_cases (t : ByteArray) :
    (wholeB t = true ∧ pR t.data.toList = 0 ∧ pE t.data.toList = t.size ∧ 0 < t.size) ∨
    (wholeB t = false ∧ (pR t.data.toList != 0) = true) ∨
    (wholeB t = false ∧ pR t.data.toList = 0 ∧ pE t.data.toList = 0) ∨
    (wholeB t = false ∧ pR t.data.toList = 0 ∧ ((pE t.data.toList : Int) == 0) = false ∧ ((pE t.data.toList : Int) != (t.size : Int)) = true) := by
  unfold wholeB
  by_cases h1 : pR t.data.toList = 0
  · by_cases h2 : pE t.data.toList = 0
    · exact Or.inr (Or.inr (Or.inl ⟨by simp [h2], h1, h2⟩))
    · by_cases h3 : pE t.data.toList = t.size
      · exact Or.inl ⟨by rw [h1, h3, decide_eq_true (show t.size ≠ 0 by omega)]; simp, h1, h3, by omega⟩
      · refine Or.inr (Or.inr (Or.inr ⟨by simp [h3], h1, ?_, ?_⟩))
        · rw [beq_eq_false_iff_ne]; omega
        · rw [bne_iff_ne]; omega
  · exact Or.inr (Or.inl ⟨by simp [h1], by rw [bne_iff_ne]; exact h1⟩)

def showT (n : Int) : ByteArray := ⟨(showText n).toArray⟩
theorem showT_of {t : ByteArray} {n : Int} (h : t.data.toList = showText n) : t = showT n := by
  apply ByteArray.ext
  apply Array.toList_inj.1
  rw [h]; rfl

theorem show_is (n : Int) (w : World) (hn : Fits n) :
    Calls Tryd.prog 32 #[.int .i64 n] w fun e w' => e = .returned (.string (showT n)) ∧ Below w.heap.size w w' :=
  (show_any n w hn).mono fun _ _ ⟨_, ht, he, hb⟩ => ⟨by rw [he, showT_of ht], hb⟩
set_option maxHeartbeats 400000 in
theorem whole_any (t : ByteArray) (ht : t.size ≤ 281474976710656) (w : World) :
    Calls Tryd.prog 23 #[.string t] w fun e w' => e = .returned (.tuple #[.int .i64 (if wholeB t then pN t.data.toList else 0), .bool (wholeB t)]) ∧ w = w' := by
  have P := Lib.hid (fun w => parse_any t w ht)
  have P3 := Lib.hid (parse_three t.data.toList)
  rcases whole_cases t with ⟨h0, h1, h2, h3⟩ | ⟨h0, h1⟩ | ⟨h0, h1, h2⟩ | ⟨h0, h1, h2, h3⟩
  · rw [h0]
    rw [h1, h2] at P3
    have g1 : ((t.size : Int) == 0) = false := by rw [beq_eq_false_iff_ne]; omega
    clear h0 h1 h2 h3 ht
    go_enter Tryd.func23, Tryd.ntmps23
    go_wp2_with fail
    refine (P.out _).mono ?_
    rintro e w1 ⟨rfl, rfl⟩
    rw [P3.out]
    go_wp2_with fail
    go_ret2
    exact ⟨rfl, rfl⟩
  · rw [h0]
    clear h0 ht
    go_enter Tryd.func23, Tryd.ntmps23
    go_wp2_with fail
    refine (P.out _).mono ?_
    rintro e w1 ⟨rfl, rfl⟩
    rw [P3.out]
    go_wp2_with fail
    go_ret2
    exact ⟨rfl, rfl⟩
  · rw [h0]
    rw [h1, h2] at P3
    clear h0 h1 h2 ht
    go_enter Tryd.func23, Tryd.ntmps23
    go_wp2_with fail
    refine (P.out _).mono ?_
    rintro e w1 ⟨rfl, rfl⟩
    rw [P3.out]
    go_wp2_with fail
    go_ret2
    exact ⟨rfl, rfl⟩
  · rw [h0]
    rw [h1] at P3
    clear h0 h1 ht
    go_enter Tryd.func23, Tryd.ntmps23
    go_wp2_with fail
    refine (P.out _).mono ?_
    rintro e w1 ⟨rfl, rfl⟩
    rw [P3.out]
    go_wp2_with fail
    go_ret2
    exact ⟨rfl, rfl⟩

/-! ### Cells that are made -/
theorem ofStr_any (s : ByteArray) (w : World) :
    Calls Tryd.prog 13 #[.string s] w fun e w' => e = .returned (.agg #[.int .i64 2, .int .i64 0, .string s]) ∧ Below w.heap.size w w' := by
  go_enter Tryd.func13, Tryd.ntmps13
  go_wp2
  refine bodyPost_ret (v := .agg #[.int .i64 2, .int .i64 0, .string s]) (by simp [results, Tryd.results13, go_sem]) rfl ⟨rfl, (Below.refl _ _).alloc (Nat.le_refl _) _⟩

theorem ofNum_any (n : Int) (w : World) :
    Calls Tryd.prog 20 #[.int .i64 n] w fun e w' => e = .returned (.agg #[.int .i64 1, .int .i64 n, .string ⟨#[]⟩]) ∧ Below w.heap.size w w' := by
  go_enter Tryd.func20, Tryd.ntmps20
  go_wp2
  refine bodyPost_ret (v := .agg #[.int .i64 1, .int .i64 n, .string ⟨#[]⟩]) (by simp [results, Tryd.results20, go_sem]) rfl ⟨rfl, (Below.refl _ _).alloc (Nat.le_refl _) _⟩

theorem small_any (k n : Int) (s : ByteArray) (w : World) :
    Calls Tryd.prog 14 #[.agg #[.int .i64 k, .int .i64 n, .string s]] w fun e w' => e = .returned (.bool (decide ((s.size : Int) ≤ 300))) ∧ Below w.heap.size w w' := by
  go_enter Tryd.func14, Tryd.ntmps14
  go_wp2
  go_ret
  exact ⟨rfl, (Below.refl _ _).alloc (Nat.le_refl _) _⟩

/-! ### Of two numbers -/
def cmpI (m n : Int) : Int := if m < n then -1 else if n < m then 1 else 0

theorem isNaN_any (n : Int) (w : World) :
    Calls Tryd.prog 42 #[.int .i64 n] w fun e w' => e = .returned (.bool false) ∧ w = w' := by
  have g : (n != n) = false := by rw [bne_self_eq_false]
  go_enter Tryd.func42, Tryd.ntmps42
  go_wp2
  go_ret
  exact ⟨rfl, rfl⟩

theorem cmp_any (m n : Int) (w : World) :
    Calls Tryd.prog 29 #[.int .i64 m, .int .i64 n] w fun e w' => e = .returned (.int .i64 (cmpI m n)) ∧ w = w' := by
  have N1 := Lib.hid (fun w => isNaN_any m w)
  have N2 := Lib.hid (fun w => isNaN_any n w)
  unfold cmpI
  by_cases h1 : m < n
  · rw [if_pos h1]
    go_enter Tryd.func29, Tryd.ntmps29
    go_wp2_with fail
    refine (N1.out _).mono ?_
    rintro e w1 ⟨rfl, rfl⟩
    go_wp2_with fail
    refine (N2.out _).mono ?_
    rintro e w1 ⟨rfl, rfl⟩
    go_wp2_with fail
    go_ret
    exact ⟨rfl, rfl⟩
  · rw [if_neg h1]
    by_cases h2 : n < m
    · rw [if_pos h2]
      go_enter Tryd.func29, Tryd.ntmps29
      go_wp2_with fail
      refine (N1.out _).mono ?_
      rintro e w1 ⟨rfl, rfl⟩
      go_wp2_with fail
      refine (N2.out _).mono ?_
      rintro e w1 ⟨rfl, rfl⟩
      go_wp2_with fail
      go_ret
      exact ⟨rfl, rfl⟩
    · rw [if_neg h2]
      go_enter Tryd.func29, Tryd.ntmps29
      go_wp2_with fail
      refine (N1.out _).mono ?_
      rintro e w1 ⟨rfl, rfl⟩
      go_wp2_with fail
      refine (N2.out _).mono ?_
      rintro e w1 ⟨rfl, rfl⟩
      go_wp2_with fail
      go_ret
      exact ⟨rfl, rfl⟩

/-! ### A cell's kind -/
theorem kind_cases (k : Int) : k = 0 ∨ k = 1 ∨ k = 2 ∨ k = 3 ∨ ((k == 0) = false ∧ (k == 1) = false ∧ (k == 2) = false ∧ (k == 3) = false) := by
  by_cases h0 : k = 0
  · exact Or.inl h0
  · by_cases h1 : k = 1
    · exact Or.inr (Or.inl h1)
    · by_cases h2 : k = 2
      · exact Or.inr (Or.inr (Or.inl h2))
      · by_cases h3 : k = 3
        · exact Or.inr (Or.inr (Or.inr (Or.inl h3)))
        · exact Or.inr (Or.inr (Or.inr (Or.inr ⟨beq_eq_false_iff_ne.2 h0, beq_eq_false_iff_ne.2 h1, beq_eq_false_iff_ne.2 h2, beq_eq_false_iff_ne.2 h3⟩)))

/-- A cell's text. -/
def strC (k n : Int) (s : ByteArray) : ByteArray := if k = 1 then showT n else if k = 2 ∨ k = 3 then s else ⟨#[]⟩
/-- A cell's number, if it is no text. -/
def numC (k n : Int) : Int := if k = 1 ∨ k = 3 then n else 0

theorem str_any (k n : Int) (s : ByteArray) (hn : Fits n) (w : World) :
    Calls Tryd.prog 21 #[.agg #[.int .i64 k, .int .i64 n, .string s]] w fun e w' => e = .returned (.string (strC k n s)) ∧ Below w.heap.size w w' := by
  have S := Lib.hid (fun w => show_is n w hn)
  have B0 := Lib.hid ((Below.refl w.heap.size w).alloc (Nat.le_refl _) (.cells #[.int .i64 k, .int .i64 n, .string s] 24))
  rcases kind_cases k with rfl | rfl | rfl | rfl | ⟨g0, g1, g2, g3⟩
  · go_enter Tryd.func21, Tryd.ntmps21
    go_wp2_with fail
    go_ret
    exact ⟨rfl, B0.out⟩
  · go_enter Tryd.func21, Tryd.ntmps21
    go_wp2_with fail
    refine (S.out _).mono ?_
    rintro e w1 ⟨rfl, b1⟩
    have B1 := Lib.hid (Below.step B0.out b1); clear b1
    go_wp2_with fail
    go_ret
    exact ⟨rfl, B1.out⟩
  · go_enter Tryd.func21, Tryd.ntmps21
    go_wp2_with fail
    go_ret
    exact ⟨rfl, B0.out⟩
  · go_enter Tryd.func21, Tryd.ntmps21
    go_wp2_with fail
    go_ret
    exact ⟨rfl, B0.out⟩
  · have e : strC k n s = ⟨#[]⟩ := by
      rw [beq_eq_false_iff_ne] at g1 g2 g3
      unfold strC
      rw [if_neg g1, if_neg (by simp [g2, g3])]
    rw [e]; clear e
    go_enter Tryd.func21, Tryd.ntmps21
    go_wp2_with fail
    go_ret
    exact ⟨rfl, B0.out⟩

theorem num_cell (k n : Int) (s : ByteArray) (hk : k ≠ 2) (w : World) :
    Calls Tryd.prog 28 #[.agg #[.int .i64 k, .int .i64 n, .string s]] w fun e w' => e = .returned (.tuple #[.int .i64 (numC k n), .int .i64 0]) ∧ Below w.heap.size w w' := by
  have B0 := Lib.hid ((Below.refl w.heap.size w).alloc (Nat.le_refl _) (.cells #[.int .i64 k, .int .i64 n, .string s] 24))
  rcases kind_cases k with rfl | rfl | rfl | rfl | ⟨g0, g1, g2, g3⟩
  · go_enter Tryd.func28, Tryd.ntmps28
    go_wp2_with fail
    go_ret2
    exact ⟨rfl, B0.out⟩
  · go_enter Tryd.func28, Tryd.ntmps28
    go_wp2_with fail
    go_ret2
    exact ⟨rfl, B0.out⟩
  · exact absurd rfl hk
  · go_enter Tryd.func28, Tryd.ntmps28
    go_wp2_with fail
    go_ret2
    exact ⟨rfl, B0.out⟩
  · have e : numC k n = 0 := by
      rw [beq_eq_false_iff_ne] at g1 g3
      unfold numC
      rw [if_neg (by simp [g1, g3])]
    rw [e]; clear e hk
    go_enter Tryd.func28, Tryd.ntmps28
    go_wp2_with fail
    go_ret2
    exact ⟨rfl, B0.out⟩
end Go.Proofs.YtpmfkmolbioomaaDoor
