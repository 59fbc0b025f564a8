/- Contracts of the plain functions of dec. -/
import Derived.Test.YtghbhaoogcgbfaaRows
import Derived.WalkKit
import Derived.WalkSpells
import Derived.WalkLawsBesides
import Derived.Lib.Hide
namespace Go.Proofs.Ytghbhaoogcgbfaa
open Go.RowKit

def Fits (n : Int) : Prop := -9223372036854775808 ≤ n ∧ n ≤ 9223372036854775807
instance (n : Int) : Decidable (Fits n) := by unfold Fits; infer_instance
def back (n : Int) : Int × Int := if Fits n then (n, 0) else (0, 10)
def ans (p : Int × Int) : Value := .tuple #[.int .i64 p.1, .int .i64 p.2]

theorem ans_yes {n : Int} (h : Fits n) : ans (back n) = .tuple #[.int .i64 n, .int .i64 0] := by
  simp [ans, back, h]
theorem ans_no {n : Int} (h : ¬ Fits n) : ans (back n) = .tuple #[.int .i64 0, .int .i64 10] := by
  simp [ans, back, h]

set_option maxHeartbeats 400000 in
theorem add_any (a b : Int) (w : World) (ha : Fits a) (hb : Fits b) :
    Calls Try.prog 11 #[.int .i64 a, .int .i64 b] w fun e w' => e = .returned (ans (back (a + b))) ∧ w = w' := by
  unfold Fits at ha hb
  obtain ⟨a1, a2⟩ := ha
  obtain ⟨b1, b2⟩ := hb
  rcases (show (0 < b ∧ 9223372036854775807 - b < a) ∨ (0 < b ∧ a ≤ 9223372036854775807 - b) ∨ (b < 0 ∧ a < -9223372036854775808 - b) ∨ (b < 0 ∧ -9223372036854775808 - b ≤ a) ∨ (0 ≤ b ∧ b ≤ 0) from by omega) with ⟨h0, h1⟩ | ⟨h0, h1⟩ | ⟨h0, h1⟩ | ⟨h0, h1⟩ | ⟨h0, h1⟩
  case' inl => rw [ans_no (by unfold Fits; omega)]
  case' inr.inl => rw [ans_yes (by unfold Fits; omega)]
  case' inr.inr.inl => rw [ans_no (by unfold Fits; omega)]
  case' inr.inr.inr.inl => rw [ans_yes (by unfold Fits; omega)]
  case' inr.inr.inr.inr => rw [ans_yes (by unfold Fits; omega)]
  all_goals
    go_enter Try.func11, Try.ntmps11
    go_wp2
    go_ret2
    exact ⟨rfl, rfl⟩

set_option maxHeartbeats 400000 in
theorem sub_any (a b : Int) (w : World) (ha : Fits a) (hb : Fits b) :
    Calls Try.prog 13 #[.int .i64 a, .int .i64 b] w fun e w' => e = .returned (ans (back (a - b))) ∧ w = w' := by
  unfold Fits at ha hb
  obtain ⟨a1, a2⟩ := ha
  obtain ⟨b1, b2⟩ := hb
  rcases (show (b < 0 ∧ 9223372036854775807 + b < a) ∨ (b < 0 ∧ a ≤ 9223372036854775807 + b) ∨ (0 < b ∧ a < -9223372036854775808 + b) ∨ (0 < b ∧ -9223372036854775808 + b ≤ a) ∨ (0 ≤ b ∧ b ≤ 0) from by omega) with ⟨h0, h1⟩ | ⟨h0, h1⟩ | ⟨h0, h1⟩ | ⟨h0, h1⟩ | ⟨h0, h1⟩
  case' inl => rw [ans_no (by unfold Fits; omega)]
  case' inr.inl => rw [ans_yes (by unfold Fits; omega)]
  case' inr.inr.inl => rw [ans_no (by unfold Fits; omega)]
  case' inr.inr.inr.inl => rw [ans_yes (by unfold Fits; omega)]
  case' inr.inr.inr.inr => rw [ans_yes (by unfold Fits; omega)]
  all_goals
    go_enter Try.func13, Try.ntmps13
    go_wp2
    go_ret2
    exact ⟨rfl, rfl⟩

theorem neg_any (a : Int) (w : World) (ha : Fits a) :
    Calls Try.prog 15 #[.int .i64 a] w fun e w' => e = .returned (ans (back (-a))) ∧ w = w' := by
  go_enter Try.func15, Try.ntmps15
  go_wp2_with (go_at_call 13; refine (sub_any _ _ _ (by unfold Fits; omega) ha).mono ?_; rintro e w' ⟨rfl, rfl⟩; unfold ans; rw [show (0 : Int) - a = -a from by omega])
  go_ret2
  exact ⟨rfl, rfl⟩

theorem wrapU (a : Int) : IntKind.u64.wrap a = a % 18446744073709551616 := by
  simp [IntKind.wrap, IntKind.signed, IntKind.bits]

theorem ret_int {k : IntKind} {a b : Int} (h : a = b) : Ending.returned (.int k a) = .returned (.int k b) := by rw [h]
theorem ret_ans {a b c d : Int} (h : a = c) (h' : b = d) : Ending.returned (.tuple #[.int .i64 a, .int .i64 b]) = .returned (.tuple #[.int .i64 c, .int .i64 d]) := by rw [h, h']

theorem tmod_near (a : Int) (ha : Fits a) : Fits (a - a.tmod 1000000) := by
  unfold Fits at *
  have h := Int.tmod_add_mul_tdiv a 1000000
  rcases (show 0 ≤ a ∨ a ≤ 0 from by omega) with h0 | h0
  · have h1 := Int.tmod_nonneg 1000000 h0
    have h2 := Int.tdiv_nonneg h0 (show (0 : Int) ≤ 1000000 from by omega)
    omega
  · have h1 := Int.tmod_nonneg 1000000 (show 0 ≤ -a from by omega)
    have h2 := Int.tdiv_nonneg (show 0 ≤ -a from by omega) (show (0 : Int) ≤ 1000000 from by omega)
    rw [Int.neg_tmod] at h1
    rw [Int.neg_tdiv] at h2
    omega

theorem int_any (a : Int) (w : World) (ha : Fits a) :
    Calls Try.prog 26 #[.int .i64 a] w fun e w' => e = .returned (.int .i64 (a.tdiv 1000000 * 1000000)) ∧ w = w' := by
  have h : wrap64 (a - a.tmod 1000000) = a.tdiv 1000000 * 1000000 := by
    have h0 := tmod_near a ha
    unfold Fits at h0
    rw [IntWalk.wrap64_in _ ⟨by omega, by omega⟩]
    have := Int.tmod_add_mul_tdiv a 1000000; omega
  unfold Fits at ha
  obtain ⟨a1, a2⟩ := ha
  have H := Lib.hid h; clear h
  go_enter Try.func26, Try.ntmps26
  go_wp2
  go_ret
  exact ⟨ret_int H.out, rfl⟩

theorem size_any (a : Int) (w : World) (ha : Fits a) :
    Calls Try.prog 37 #[.int .i64 a] w fun e w' => e = .returned (.int .u64 a.natAbs) ∧ w = w' := by
  have h : a < 0 → IntKind.u64.wrap (-IntKind.u64.wrap a) = a.natAbs := by
    unfold Fits at ha
    intro h0
    rw [wrapU, wrapU]
    omega
  have H := Lib.hid h; clear h
  unfold Fits at ha
  obtain ⟨a1, a2⟩ := ha
  rcases (show a < 0 ∨ 0 ≤ a from by omega) with h | h
  all_goals
    go_enter Try.func37, Try.ntmps37
    go_wp2
    go_ret
  · exact ⟨ret_int (H.out h), rfl⟩
  · exact ⟨ret_int (by omega), rfl⟩

set_option maxHeartbeats 400000 in
theorem signed_any (n : Nat) (b : Bool) (w : World) (hn : n ≤ 18446744073709551615) :
    Calls Try.prog 42 #[.int .u64 n, .bool b] w fun e w' => e = .returned (ans (back (if b then -(n : Int) else n))) ∧ w = w' := by
  cases b
  · rcases (show n ≤ 9223372036854775807 ∨ 9223372036854775807 < n from by omega) with h | h
    · rw [if_neg (by simp), ans_yes (by unfold Fits; omega)]
      go_enter Try.func42, Try.ntmps42
      go_wp2
      go_ret2
      exact ⟨rfl, rfl⟩
    · rw [if_neg (by simp), ans_no (by unfold Fits; omega)]
      go_enter Try.func42, Try.ntmps42
      go_wp2
      go_ret2
      exact ⟨rfl, rfl⟩
  · rcases (show n ≤ 9223372036854775808 ∨ 9223372036854775808 < n from by omega) with h | h
    · have h0 : n ≤ 9223372036854775808 → wrap64 (IntKind.u64.wrap (-(n : Int))) = -(n : Int) := by
        intro h0
        rw [wrapU]
        unfold wrap64
        omega
      have H := Lib.hid h0; clear h0
      rw [if_pos rfl, ans_yes (by unfold Fits; omega)]
      go_enter Try.func42, Try.ntmps42
      go_wp2
      go_ret2
      exact ⟨ret_ans (H.out h) rfl, rfl⟩
    · rw [if_pos rfl, ans_no (by unfold Fits; omega)]
      go_enter Try.func42, Try.ntmps42
      go_wp2
      go_ret2
      exact ⟨rfl, rfl⟩

set_option maxHeartbeats 400000 in
theorem whole_any (n : Int) (w : World) (hn : Fits n) :
    Calls Try.prog 24 #[.int .i64 n] w fun e w' => e = .returned (ans (back (n * 1000000))) ∧ w = w' := by
  unfold Fits at hn
  obtain ⟨n1, n2⟩ := hn
  rcases (show n < -9223372036854 ∨ (-9223372036854 ≤ n ∧ n ≤ 9223372036854) ∨ 9223372036854 < n from by omega) with h | ⟨h, h'⟩ | h
  case' inl => rw [ans_no (by unfold Fits; omega)]
  case' inr.inl => rw [ans_yes (by unfold Fits; omega)]
  case' inr.inr => rw [ans_no (by unfold Fits; omega)]
  all_goals
    go_enter Try.func24, Try.ntmps24
    go_wp2
    go_ret2
    exact ⟨rfl, rfl⟩

def modAns (a b : Int) : Int × Int := if b = 0 then (0, 11) else (a.tmod b, 0)
set_option maxHeartbeats 400000 in
theorem mod_any (a b : Int) (w : World) (ha : Fits a) (hb : Fits b) :
    Calls Try.prog 22 #[.int .i64 a, .int .i64 b] w fun e w' => e = .returned (ans (modAns a b)) ∧ w = w' := by
  by_cases h0 : b = 0
  · subst h0
    rw [show ans (modAns a 0) = .tuple #[.int .i64 0, .int .i64 11] from rfl]
    go_enter Try.func22, Try.ntmps22
    go_wp2
    go_ret2
    exact ⟨rfl, rfl⟩
  · rw [show ans (modAns a b) = .tuple #[.int .i64 (a.tmod b), .int .i64 0] from by simp [ans, modAns, h0]]
    have hh : ((b : Int) == 0) = false := by simpa using h0
    unfold Fits at ha hb
    obtain ⟨a1, a2⟩ := ha
    obtain ⟨b1, b2⟩ := hb
    go_enter Try.func22, Try.ntmps22
    go_wp2
    go_ret2
    exact ⟨rfl, rfl⟩
end Go.Proofs.Ytghbhaoogcgbfaa
