/- Merged by program: C15A, C15Bb, T1DecA, T1DivMath. -/
import Derived.Test.YtbbhcbpfffabpaaRows
import Derived.WalkKit
import Derived.WalkSpells
import Derived.WalkLawsBesides
import Derived.Lib.Hide
import Derived.Test.YtbbhcbpfffabpaaGak
/- Cells' numbers and truths: the program's Num, Truth, the document's. -/
namespace Go.Proofs.Ytbbhcbpfffabpaa
open Go.RowKit T3

/-- A cell's number, and why there is none. -/
def numL (k n : Int) (s : ByteArray) : Int × Int := if k = 2 then (pN s.data.toList, pR s.data.toList) else (if k = 1 ∨ k = 3 then n else 0, 0)
def truthL (k n : Int) (s : ByteArray) : Bool := if k = 2 then decide (s.size ≠ 0) else decide (k = 1 ∨ k = 3) && decide (n ≠ 0)
def two (p : Int × Int) : Value := .tuple #[.int .i64 p.1, .int .i64 p.2]

theorem ne_lit {s t : ByteArray} (h : s ≠ t) : (s.toList == t.toList) = false := by
  rw [beq_eq_false_iff_ne]
  intro e
  rw [Lib.toList_data, Lib.toList_data] at e
  exact h (by cases s; cases t; simpa using e)
theorem size_pos {s : ByteArray} (h : s ≠ ⟨#[]⟩) : s.size ≠ 0 := by
  intro e
  exact h (by cases s with | mk d => exact congrArg ByteArray.mk (Array.eq_empty_of_size_eq_zero e))

set_option maxRecDepth 100000 in
theorem leading_any (s : ByteArray) (hs : s.size ≤ 281474976710656) (w : World) :
    Calls Try.prog 67 #[.string s] w fun e w' => e = .returned (two (pN s.data.toList, pR s.data.toList)) ∧ Below w.heap.size w w' := by
  have HP := Lib.hid (fun w => parse_any s w hs)
  clear hs
  go_enter Try.func67, Try.ntmps67
  go_wp2_with fail
  refine (HP.out _).mono ?_
  rintro e w1 ⟨rfl, b1⟩
  rw [parse_three]
  have B1 : Hid (Below w.heap.size w w1) := Lib.hid (by first | exact b1 | (rw [← b1]; exact Below.refl _ _))
  clear b1
  go_wp2_with fail
  go_ret2
  exact ⟨rfl, B1.out⟩

set_option maxRecDepth 100000 in
theorem num_any (k n : Int) (s : ByteArray) (hs : s.size ≤ 281474976710656) (w : World) :
    Calls Try.prog 42 #[.agg #[.int .i64 k, .int .i64 n, .string s]] w fun e w' => e = .returned (two (numL k n s)) ∧ Below w.heap.size w w' := by
  have HL := Lib.hid (fun w => leading_any s hs w)
  have B0 := Lib.hid ((Below.refl w.heap.size w).alloc (Nat.le_refl _) (.cells #[.int .i64 k, .int .i64 n, .string s] 23))
  rcases kind_cases k with rfl | rfl | rfl | rfl | ⟨g0, g1, g2, g3⟩
  · rw [show numL 0 n s = (0, 0) from rfl]
    go_enter Try.func42, Try.ntmps42
    go_wp2_with fail
    go_ret2
    exact ⟨rfl, B0.out⟩
  · rw [show numL 1 n s = (n, 0) from rfl]
    go_enter Try.func42, Try.ntmps42
    go_wp2_with fail
    go_ret2
    exact ⟨rfl, B0.out⟩
  · rw [show numL 2 n s = (pN s.data.toList, pR s.data.toList) from rfl]
    go_enter Try.func42, Try.ntmps42
    go_wp2_with fail
    refine (HL.out _).mono ?_
    rintro e w1 ⟨rfl, b1⟩
    unfold two
    have B1 := Lib.hid (Below.step B0.out b1)
    clear b1
    go_wp2_with fail
    go_ret2
    exact ⟨rfl, B1.out⟩
  · rw [show numL 3 n s = (n, 0) from rfl]
    go_enter Try.func42, Try.ntmps42
    go_wp2_with fail
    go_ret2
    exact ⟨rfl, B0.out⟩
  · rw [show numL k n s = (0, 0) from by rw [beq_eq_false_iff_ne] at g1 g2 g3; unfold numL; rw [if_neg g2, if_neg (by simp [g1, g3])]]
    go_enter Try.func42, Try.ntmps42
    go_wp2_with fail
    go_ret2
    exact ⟨rfl, B0.out⟩

set_option maxRecDepth 100000 in
theorem refNum_any (k n : Int) (s : ByteArray) (hs : s.size ≤ 300) (w : World) :
    Calls Try.prog 32 #[.agg #[.int .i64 k, .int .i64 n, .string s]] w fun e w' => e = .returned (two (numL k n s)) ∧ Below w.heap.size w w' := by
  have HL := Lib.hid (fun w => refParse_any s w hs)
  have B0 := Lib.hid ((Below.refl w.heap.size w).alloc (Nat.le_refl _) (.cells #[.int .i64 k, .int .i64 n, .string s] 23))
  rcases kind_cases k with rfl | rfl | rfl | rfl | ⟨g0, g1, g2, g3⟩
  · rw [show numL 0 n s = (0, 0) from rfl]
    go_enter Try.func32, Try.ntmps32
    go_wp2_with fail
    go_ret2
    exact ⟨rfl, B0.out⟩
  · rw [show numL 1 n s = (n, 0) from rfl]
    go_enter Try.func32, Try.ntmps32
    go_wp2_with fail
    go_ret2
    exact ⟨rfl, B0.out⟩
  · rw [show numL 2 n s = (pN s.data.toList, pR s.data.toList) from rfl]
    go_enter Try.func32, Try.ntmps32
    go_wp2_with fail
    refine (HL.out _).mono ?_
    rintro e w1 ⟨rfl, b1⟩
    rw [parse_three]
    have B1 := Lib.hid (Below.step B0.out b1)
    clear b1
    go_wp2_with fail
    go_ret2
    exact ⟨rfl, B1.out⟩
  · rw [show numL 3 n s = (n, 0) from rfl]
    go_enter Try.func32, Try.ntmps32
    go_wp2_with fail
    go_ret2
    exact ⟨rfl, B0.out⟩
  · rw [show numL k n s = (0, 0) from by rw [beq_eq_false_iff_ne] at g1 g2 g3; unfold numL; rw [if_neg g2, if_neg (by simp [g1, g3])]]
    go_enter Try.func32, Try.ntmps32
    go_wp2_with fail
    go_ret2
    exact ⟨rfl, B0.out⟩

set_option maxRecDepth 100000 in
theorem truth_any (k n : Int) (s : ByteArray) (w : World) :
    Calls Try.prog 39 #[.agg #[.int .i64 k, .int .i64 n, .string s]] w fun e w' => e = .returned (.bool (truthL k n s)) ∧ Below w.heap.size w w' := by
  have B0 := Lib.hid ((Below.refl w.heap.size w).alloc (Nat.le_refl _) (.cells #[.int .i64 k, .int .i64 n, .string s] 23))
  rcases kind_cases k with rfl | rfl | rfl | rfl | ⟨g0, g1, g2, g3⟩
  · rw [show truthL 0 n s = false from by simp [truthL]]
    go_enter Try.func39, Try.ntmps39
    go_wp2_with fail
    go_ret
    exact ⟨rfl, B0.out⟩
  · rw [show truthL 1 n s = decide (n ≠ 0) from by simp [truthL]]
    by_cases h0 : n = 0
    · subst h0
      go_enter Try.func39, Try.ntmps39
      go_wp2_with fail
      go_ret
      exact ⟨rfl, B0.out⟩
    · have h1 : (n != 0) = true := by simpa using h0
      have HD := Lib.hid (show decide (n ≠ 0) = true from by simpa using h0)
      clear h0
      go_enter Try.func39, Try.ntmps39
      go_wp2_with fail
      go_ret
      exact ⟨by rw [HD.out]; rfl, B0.out⟩
  · rw [show truthL 2 n s = decide (s.size ≠ 0) from by simp [truthL]]
    by_cases h0 : s = ⟨#[]⟩
    · subst h0
      go_enter Try.func39, Try.ntmps39
      go_wp2_with fail
      go_ret
      exact ⟨rfl, B0.out⟩
    · have HD := Lib.hid (show decide (s.size ≠ 0) = true from by simpa using size_pos h0)
      have h1 : (s.toList == (⟨#[]⟩ : ByteArray).toList) = false := ne_lit h0
      have h2 : (0 : Int) < s.size := by have := size_pos h0; omega
      have HE : Hid ((!s.toList.isEmpty) = true) := Lib.hid (by have := size_pos h0; rw [Lib.toList_data]; cases s with | mk d => cases d with | mk l => cases l with | nil => exact absurd rfl this | cons a l => rfl)
      have HP : Hid (decide (0 < s.size) = true) := Lib.hid (decide_eq_true (by omega))
      clear h0
      go_enter Try.func39, Try.ntmps39
      go_wp2_with fail
      go_ret
      exact ⟨by rw [HD.out]; first | rfl | (rw [← HE.out]; rfl) | (rw [← HP.out]; rfl), B0.out⟩
  · rw [show truthL 3 n s = decide (n ≠ 0) from by simp [truthL]]
    by_cases h0 : n = 0
    · subst h0
      go_enter Try.func39, Try.ntmps39
      go_wp2_with fail
      go_ret
      exact ⟨rfl, B0.out⟩
    · have h1 : (n != 0) = true := by simpa using h0
      have HD := Lib.hid (show decide (n ≠ 0) = true from by simpa using h0)
      clear h0
      go_enter Try.func39, Try.ntmps39
      go_wp2_with fail
      go_ret
      exact ⟨by rw [HD.out]; rfl, B0.out⟩
  · rw [show truthL k n s = false from by rw [beq_eq_false_iff_ne] at g1 g2 g3; unfold truthL; rw [if_neg g2]; simp [g1, g3]]
    go_enter Try.func39, Try.ntmps39
    go_wp2_with fail
    go_ret
    exact ⟨rfl, B0.out⟩

set_option maxRecDepth 100000 in
theorem refTruth_any (k n : Int) (s : ByteArray) (w : World) :
    Calls Try.prog 43 #[.agg #[.int .i64 k, .int .i64 n, .string s]] w fun e w' => e = .returned (.bool (truthL k n s)) ∧ Below w.heap.size w w' := by
  have B0 := Lib.hid ((Below.refl w.heap.size w).alloc (Nat.le_refl _) (.cells #[.int .i64 k, .int .i64 n, .string s] 23))
  rcases kind_cases k with rfl | rfl | rfl | rfl | ⟨g0, g1, g2, g3⟩
  · rw [show truthL 0 n s = false from by simp [truthL]]
    go_enter Try.func43, Try.ntmps43
    go_wp2_with fail
    go_ret
    exact ⟨rfl, B0.out⟩
  · rw [show truthL 1 n s = decide (n ≠ 0) from by simp [truthL]]
    by_cases h0 : n = 0
    · subst h0
      go_enter Try.func43, Try.ntmps43
      go_wp2_with fail
      go_ret
      exact ⟨rfl, B0.out⟩
    · have h1 : (n != 0) = true := by simpa using h0
      have HD := Lib.hid (show decide (n ≠ 0) = true from by simpa using h0)
      clear h0
      go_enter Try.func43, Try.ntmps43
      go_wp2_with fail
      go_ret
      exact ⟨by rw [HD.out]; rfl, B0.out⟩
  · rw [show truthL 2 n s = decide (s.size ≠ 0) from by simp [truthL]]
    by_cases h0 : s = ⟨#[]⟩
    · subst h0
      go_enter Try.func43, Try.ntmps43
      go_wp2_with fail
      go_ret
      exact ⟨rfl, B0.out⟩
    · have HD := Lib.hid (show decide (s.size ≠ 0) = true from by simpa using size_pos h0)
      have h1 : (s.toList == (⟨#[]⟩ : ByteArray).toList) = false := ne_lit h0
      have h2 : (0 : Int) < s.size := by have := size_pos h0; omega
      have HE : Hid ((!s.toList.isEmpty) = true) := Lib.hid (by have := size_pos h0; rw [Lib.toList_data]; cases s with | mk d => cases d with | mk l => cases l with | nil => exact absurd rfl this | cons a l => rfl)
      have HP : Hid (decide (0 < s.size) = true) := Lib.hid (decide_eq_true (by omega))
      clear h0
      go_enter Try.func43, Try.ntmps43
      go_wp2_with fail
      go_ret
      exact ⟨by rw [HD.out]; first | rfl | (rw [← HE.out]; rfl) | (rw [← HP.out]; rfl), B0.out⟩
  · rw [show truthL 3 n s = decide (n ≠ 0) from by simp [truthL]]
    by_cases h0 : n = 0
    · subst h0
      go_enter Try.func43, Try.ntmps43
      go_wp2_with fail
      go_ret
      exact ⟨rfl, B0.out⟩
    · have h1 : (n != 0) = true := by simpa using h0
      have HD := Lib.hid (show decide (n ≠ 0) = true from by simpa using h0)
      clear h0
      go_enter Try.func43, Try.ntmps43
      go_wp2_with fail
      go_ret
      exact ⟨by rw [HD.out]; rfl, B0.out⟩
  · rw [show truthL k n s = false from by rw [beq_eq_false_iff_ne] at g1 g2 g3; unfold truthL; rw [if_neg g2]; simp [g1, g3]]
    go_enter Try.func43, Try.ntmps43
    go_wp2_with fail
    go_ret
    exact ⟨rfl, B0.out⟩
end Go.Proofs.Ytbbhcbpfffabpaa

/- The document's Bool of layer 15. -/
namespace Go.Proofs.Ytbbhcbpfffabpaa
open Go.RowKit T3

set_option maxRecDepth 100000 in
theorem refBool_any (b : Bool) (w : World) : Calls Try.prog 31 #[.bool b] w fun e w' => e = .returned (.agg (cellC 1 (boolN b) ⟨#[]⟩)) ∧ Below w.heap.size w w' := by
  have HI := info_cell
  obtain ⟨W, hW, hX, hB, _⟩ := cx_new w zeroC
  cases b with
  | true =>
    go_enter Try.func31, Try.ntmps31
    go_upto_region 1 with (fail)
    change Code.wp _ _ _ _ (w.alloc (Obj.cells zeroC 23))
    rw [← hW]
    clear hW
    go_wp2_with (refine wpList_store_row rfl 23 (.tmp 2) (.tmp 4) rfl w.heap.size (cellC 1 1000000 ⟨#[]⟩) rfl rfl 23 zeroC hX.out.row HI rfl (cell_one3 _ _ _) ?_)
    refine bodyPost_ret (v := .agg (cellC 1 1000000 ⟨#[]⟩)) (results_cell_row (by rfl) _ _ w.heap.size 23 _ (0, 0) _ (by rfl) (hX.out.setRow _).row Try.underlying23 (by rfl) HI) rfl ?_
    exact ⟨rfl, below_row hB.out (Nat.le_refl _) _⟩
  | false =>
    go_enter Try.func31, Try.ntmps31
    go_upto_region 1 with (fail)
    change Code.wp _ _ _ _ (w.alloc (Obj.cells zeroC 23))
    rw [← hW]
    clear hW
    go_wp2_with (refine wpList_store_row rfl 23 (.tmp 2) (.tmp 5) rfl w.heap.size (cellC 1 0 ⟨#[]⟩) rfl rfl 23 zeroC hX.out.row HI rfl (cell_one3 _ _ _) ?_)
    refine bodyPost_ret (v := .agg (cellC 1 0 ⟨#[]⟩)) (results_cell_row (by rfl) _ _ w.heap.size 23 _ (0, 0) _ (by rfl) (hX.out.setRow _).row Try.underlying23 (by rfl) HI) rfl ?_
    exact ⟨rfl, below_row hB.out (Nat.le_refl _) _⟩
end Go.Proofs.Ytbbhcbpfffabpaa

/- Contracts of the plain functions of dec. -/
namespace Go.Proofs.Ytbbhcbpfffabpaa.T1
open Go.Proofs.Ytbbhcbpfffabpaa Go.Proofs
open Go.RowKit

def Fits (n : Int) : Prop := -9223372036854775808 ≤ n ∧ n ≤ 9223372036854775807
instance (n : Int) : Decidable (Fits n) := by unfold Fits; infer_instance
def back (n : Int) : Int × Int := if Fits n then (n, 0) else (0, 10)
def ans (p : Int × Int) : Value := .tuple #[.int .i64 p.1, .int .i64 p.2]

theorem ans_yes {n : Int} (h : Fits n) : ans (back n) = .tuple #[.int .i64 n, .int .i64 0] := by
  simp [ans, back, h]
theorem ans_no {n : Int} (h : ¬ Fits n) : ans (back n) = .tuple #[.int .i64 0, .int .i64 10] := by
  simp [ans, back, h]

set_option maxHeartbeats 400000 in
theorem add_any (a b : Int) (w : World) (ha : Fits a) (hb : Fits b) :
    Calls Try.prog 24 #[.int .i64 a, .int .i64 b] w fun e w' => e = .returned (ans (back (a + b))) ∧ w = w' := by
  unfold Fits at ha hb
  obtain ⟨a1, a2⟩ := ha
  obtain ⟨b1, b2⟩ := hb
  rcases (show (0 < b ∧ 9223372036854775807 - b < a) ∨ (0 < b ∧ a ≤ 9223372036854775807 - b) ∨ (b < 0 ∧ a < -9223372036854775808 - b) ∨ (b < 0 ∧ -9223372036854775808 - b ≤ a) ∨ (0 ≤ b ∧ b ≤ 0) from by omega) with ⟨h0, h1⟩ | ⟨h0, h1⟩ | ⟨h0, h1⟩ | ⟨h0, h1⟩ | ⟨h0, h1⟩
  case' inl => rw [ans_no (by unfold Fits; omega)]
  case' inr.inl => rw [ans_yes (by unfold Fits; omega)]
  case' inr.inr.inl => rw [ans_no (by unfold Fits; omega)]
  case' inr.inr.inr.inl => rw [ans_yes (by unfold Fits; omega)]
  case' inr.inr.inr.inr => rw [ans_yes (by unfold Fits; omega)]
  all_goals
    go_enter Try.func24, Try.ntmps24
    go_wp2
    go_ret2
    exact ⟨rfl, rfl⟩

set_option maxHeartbeats 400000 in
theorem sub_any (a b : Int) (w : World) (ha : Fits a) (hb : Fits b) :
    Calls Try.prog 25 #[.int .i64 a, .int .i64 b] w fun e w' => e = .returned (ans (back (a - b))) ∧ w = w' := by
  unfold Fits at ha hb
  obtain ⟨a1, a2⟩ := ha
  obtain ⟨b1, b2⟩ := hb
  rcases (show (b < 0 ∧ 9223372036854775807 + b < a) ∨ (b < 0 ∧ a ≤ 9223372036854775807 + b) ∨ (0 < b ∧ a < -9223372036854775808 + b) ∨ (0 < b ∧ -9223372036854775808 + b ≤ a) ∨ (0 ≤ b ∧ b ≤ 0) from by omega) with ⟨h0, h1⟩ | ⟨h0, h1⟩ | ⟨h0, h1⟩ | ⟨h0, h1⟩ | ⟨h0, h1⟩
  case' inl => rw [ans_no (by unfold Fits; omega)]
  case' inr.inl => rw [ans_yes (by unfold Fits; omega)]
  case' inr.inr.inl => rw [ans_no (by unfold Fits; omega)]
  case' inr.inr.inr.inl => rw [ans_yes (by unfold Fits; omega)]
  case' inr.inr.inr.inr => rw [ans_yes (by unfold Fits; omega)]
  all_goals
    go_enter Try.func25, Try.ntmps25
    go_wp2
    go_ret2
    exact ⟨rfl, rfl⟩

theorem neg_any (a : Int) (w : World) (ha : Fits a) :
    Calls Try.prog 66 #[.int .i64 a] w fun e w' => e = .returned (ans (back (-a))) ∧ w = w' := by
  go_enter Try.func66, Try.ntmps66
  go_wp2_with (go_at_call 25; refine (sub_any _ _ _ (by unfold Fits; omega) ha).mono ?_; rintro e w' ⟨rfl, rfl⟩; unfold ans; rw [show (0 : Int) - a = -a from by omega])
  go_ret2
  exact ⟨rfl, rfl⟩

theorem wrapU (a : Int) : IntKind.u64.wrap a = a % 18446744073709551616 := by
  simp [IntKind.wrap, IntKind.signed, IntKind.bits]

theorem ret_int {k : IntKind} {a b : Int} (h : a = b) : Ending.returned (.int k a) = .returned (.int k b) := by rw [h]
theorem ret_ans {a b c d : Int} (h : a = c) (h' : b = d) : Ending.returned (.tuple #[.int .i64 a, .int .i64 b]) = .returned (.tuple #[.int .i64 c, .int .i64 d]) := by rw [h, h']

theorem tmod_near (a : Int) (ha : Fits a) : Fits (a - a.tmod 1000000) := by
  unfold Fits at *
  have h := Int.tmod_add_mul_tdiv a 1000000
  rcases (show 0 ≤ a ∨ a ≤ 0 from by omega) with h0 | h0
  · have h1 := Int.tmod_nonneg 1000000 h0
    have h2 := Int.tdiv_nonneg h0 (show (0 : Int) ≤ 1000000 from by omega)
    omega
  · have h1 := Int.tmod_nonneg 1000000 (show 0 ≤ -a from by omega)
    have h2 := Int.tdiv_nonneg (show 0 ≤ -a from by omega) (show (0 : Int) ≤ 1000000 from by omega)
    rw [Int.neg_tmod] at h1
    rw [Int.neg_tdiv] at h2
    omega

theorem size_any (a : Int) (w : World) (ha : Fits a) :
    Calls Try.prog 55 #[.int .i64 a] w fun e w' => e = .returned (.int .u64 a.natAbs) ∧ w = w' := by
  have h : a < 0 → IntKind.u64.wrap (-IntKind.u64.wrap a) = a.natAbs := by
    unfold Fits at ha
    intro h0
    rw [wrapU, wrapU]
    omega
  have H := Lib.hid h; clear h
  unfold Fits at ha
  obtain ⟨a1, a2⟩ := ha
  rcases (show a < 0 ∨ 0 ≤ a from by omega) with h | h
  all_goals
    go_enter Try.func55, Try.ntmps55
    go_wp2
    go_ret
  · exact ⟨ret_int (H.out h), rfl⟩
  · exact ⟨ret_int (by omega), rfl⟩

set_option maxHeartbeats 400000 in
theorem signed_any (n : Nat) (b : Bool) (w : World) (hn : n ≤ 18446744073709551615) :
    Calls Try.prog 74 #[.int .u64 n, .bool b] w fun e w' => e = .returned (ans (back (if b then -(n : Int) else n))) ∧ w = w' := by
  cases b
  · rcases (show n ≤ 9223372036854775807 ∨ 9223372036854775807 < n from by omega) with h | h
    · rw [if_neg (by simp), ans_yes (by unfold Fits; omega)]
      go_enter Try.func74, Try.ntmps74
      go_wp2
      go_ret2
      exact ⟨rfl, rfl⟩
    · rw [if_neg (by simp), ans_no (by unfold Fits; omega)]
      go_enter Try.func74, Try.ntmps74
      go_wp2
      go_ret2
      exact ⟨rfl, rfl⟩
  · rcases (show n ≤ 9223372036854775808 ∨ 9223372036854775808 < n from by omega) with h | h
    · have h0 : n ≤ 9223372036854775808 → wrap64 (IntKind.u64.wrap (-(n : Int))) = -(n : Int) := by
        intro h0
        rw [wrapU]
        unfold wrap64
        omega
      have H := Lib.hid h0; clear h0
      rw [if_pos rfl, ans_yes (by unfold Fits; omega)]
      go_enter Try.func74, Try.ntmps74
      go_wp2
      go_ret2
      exact ⟨ret_ans (H.out h) rfl, rfl⟩
    · rw [if_pos rfl, ans_no (by unfold Fits; omega)]
      go_enter Try.func74, Try.ntmps74
      go_wp2
      go_ret2
      exact ⟨rfl, rfl⟩

def modAns (a b : Int) : Int × Int := if b = 0 then (0, 11) else (a.tmod b, 0)
set_option maxHeartbeats 400000 in
theorem mod_any (a b : Int) (w : World) (ha : Fits a) (hb : Fits b) :
    Calls Try.prog 28 #[.int .i64 a, .int .i64 b] w fun e w' => e = .returned (ans (modAns a b)) ∧ w = w' := by
  by_cases h0 : b = 0
  · subst h0
    rw [show ans (modAns a 0) = .tuple #[.int .i64 0, .int .i64 11] from rfl]
    go_enter Try.func28, Try.ntmps28
    go_wp2
    go_ret2
    exact ⟨rfl, rfl⟩
  · rw [show ans (modAns a b) = .tuple #[.int .i64 (a.tmod b), .int .i64 0] from by simp [ans, modAns, h0]]
    have hh : ((b : Int) == 0) = false := by simpa using h0
    unfold Fits at ha hb
    obtain ⟨a1, a2⟩ := ha
    obtain ⟨b1, b2⟩ := hb
    go_enter Try.func28, Try.ntmps28
    go_wp2
    go_ret2
    exact ⟨rfl, rfl⟩
end Go.Proofs.Ytbbhcbpfffabpaa.T1

/- Plain mathematics of long division by two digits of 32 bits: no program. -/
namespace Go.Proofs.Ytbbhcbpfffabpaa.T1
open Go.Proofs.Ytbbhcbpfffabpaa Go.Proofs

theorem kn_more {B U d y v1 v0 q r : Nat} (hy : y = v1 * B + v0) (hU : U < y) (hd : d < B) (hq : q * v1 + r = U) (h : B ≤ q ∨ B * r + d < q * v0) :
    (U * B + d) / y < q := by
  have hy0 : 0 < y := by omega
  rw [Nat.div_lt_iff_lt_mul hy0]
  rcases h with h | h
  · have h1 : (U + 1) * B ≤ y * B := Nat.mul_le_mul_right _ hU
    have h2 : B * y ≤ q * y := Nat.mul_le_mul_right _ h
    rw [Nat.add_mul] at h1
    rw [Nat.mul_comm B y] at h2
    omega
  · have h1 : q * y = q * v1 * B + q * v0 := by rw [hy, Nat.mul_add, Nat.mul_assoc]
    have h2 : U * B = q * v1 * B + B * r := by rw [← hq, Nat.add_mul, Nat.mul_comm r B]
    omega

theorem kn_less {B U d y v1 v0 q r : Nat} (hy : y = v1 * B + v0) (hy0 : 0 < y) (hq : q * v1 + r = U) (h : q * v0 ≤ B * r + d) :
    q ≤ (U * B + d) / y := by
  rw [Nat.le_div_iff_mul_le hy0]
  have h1 : q * y = q * v1 * B + q * v0 := by rw [hy, Nat.mul_add, Nat.mul_assoc]
  have h2 : U * B = q * v1 * B + B * r := by rw [← hq, Nat.add_mul, Nat.mul_comm r B]
  omega

theorem kn_small {B U y v1 v0 q r : Nat} (hy : y = v1 * B + v0) (hv0 : v0 < B) (hU : U < y) (hq : q * v1 + r = U) (hr : B ≤ r) : q < B := by
  have h1 : q * v1 < B * v1 := by rw [Nat.mul_comm B v1]; omega
  exact Nat.lt_of_mul_lt_mul_right h1

theorem kn_out {B U d y v1 v0 q r : Nat} (hy : y = v1 * B + v0) (hv0 : v0 < B) (hU : U < y) (hq : q * v1 + r = U) (hr : B ≤ r) :
    q ≤ (U * B + d) / y := by
  have hqB := kn_small hy hv0 hU hq hr
  refine kn_less hy (by omega) hq ?_
  have h1 : q * v0 ≤ B * B := Nat.mul_le_mul (by omega) (by omega)
  have h2 : B * B ≤ B * r := Nat.mul_le_mul_left _ hr
  omega

theorem kn_first {B U d y v1 v0 : Nat} (hy : y = v1 * B + v0) (hv1 : 0 < v1) (hd : d < B) : (U * B + d) / y ≤ U / v1 := by
  rw [Nat.le_div_iff_mul_le hv1]
  rcases Nat.eq_zero_or_pos y with h0 | h0
  · subst h0; simp
  have h1 : (U * B + d) / y * y ≤ U * B + d := Nat.div_mul_le_self _ _
  generalize (U * B + d) / y = q at h1 ⊢
  have h2 : q * y = q * v1 * B + q * v0 := by rw [hy, Nat.mul_add, Nat.mul_assoc]
  have h3 : q * v1 * B < (U + 1) * B := by rw [Nat.add_mul]; omega
  have := Nat.lt_of_mul_lt_mul_right h3
  omega

theorem kn_digit {B U d y : Nat} (hU : U < y) (hd : d < B) : (U * B + d) / y < B := by
  rw [Nat.div_lt_iff_lt_mul (by omega)]
  have h1 : (U + 1) * B ≤ y * B := Nat.mul_le_mul_right _ hU
  rw [Nat.add_mul] at h1
  rw [Nat.mul_comm B y]
  omega

theorem kn_two {B U d1 d0 y : Nat} (hy : 0 < y) :
    ((U * B + d1) * B + d0) / y = (U * B + d1) / y * B + ((U * B + d1) % y * B + d0) / y := by
  have h := Nat.div_add_mod (U * B + d1) y
  have h' : (U * B + d1) * B = y * ((U * B + d1) / y * B) + (U * B + d1) % y * B := by
    rw [← Nat.mul_assoc, ← Nat.add_mul, h]
  rw [h', Nat.add_assoc, Nat.mul_add_div hy]

/-- A shift of the two words. -/
theorem kn_shift {hi lo s : Nat} (hs : s ≤ 63) :
    (hi * 2 ^ s + lo / 2 ^ (64 - s)) * 2 ^ 64 + lo * 2 ^ s % 2 ^ 64 = (hi * 2 ^ 64 + lo) * 2 ^ s := by
  have e : 2 ^ 64 = 2 ^ (64 - s) * 2 ^ s := by rw [← Nat.pow_add]; congr 1; omega
  have h1 : lo * 2 ^ s / 2 ^ 64 = lo / 2 ^ (64 - s) := by
    rw [e, Nat.mul_div_mul_right _ _ (Nat.two_pow_pos s)]
  have h2 := Nat.div_add_mod (lo * 2 ^ s) (2 ^ 64)
  rw [h1] at h2
  rw [Nat.add_mul, Nat.add_mul, Nat.mul_assoc, Nat.mul_assoc, Nat.mul_comm (2 ^ s) (2 ^ 64), Nat.add_assoc, Nat.mul_comm (lo / 2 ^ (64 - s)) (2 ^ 64), h2]

end Go.Proofs.Ytbbhcbpfffabpaa.T1
