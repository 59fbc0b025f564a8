/- Contracts of the plain functions of dec. -/
import Derived.Test.YtpmfkmolbioomaaDoorBase
namespace Go.Proofs.YtpmfkmolbioomaaDoor
open Go.RowKit

def Fits (n : Int) : Prop := -9223372036854775808 ≤ n ∧ n ≤ 9223372036854775807
instance (n : Int) : Decidable (Fits n) := by unfold Fits; infer_instance
def back (n : Int) : Int × Int := if Fits n then (n, 0) else (0, 10)
def ans (p : Int × Int) : Value := .tuple #[.int .i64 p.1, .int .i64 p.2]

theorem ans_yes {n : Int} (h : Fits n) : ans (back n) = .tuple #[.int .i64 n, .int .i64 0] := by
  simp [ans, back, h]
theorem ans_no {n : Int} (h : ¬ Fits n) : ans (back n) = .tuple #[.int .i64 0, .int .i64 10] := by
  simp [ans, back, h]

theorem wrapU (a : Int) : IntKind.u64.wrap a = a % 18446744073709551616 := by
  simp [IntKind.wrap, IntKind.signed, IntKind.bits]

theorem ret_int {k : IntKind} {a b : Int} (h : a = b) : Ending.returned (.int k a) = .returned (.int k b) := by rw [h]
theorem ret_ans {a b c d : Int} (h : a = c) (h' : b = d) : Ending.returned (.tuple #[.int .i64 a, .int .i64 b]) = .returned (.tuple #[.int .i64 c, .int .i64 d]) := by rw [h, h']

theorem size_any (a : Int) (w : World) (ha : Fits a) :
    Calls Tryd.prog 44 #[.int .i64 a] w fun e w' => e = .returned (.int .u64 a.natAbs) ∧ w = w' := by
  have h : a < 0 → IntKind.u64.wrap (-IntKind.u64.wrap a) = a.natAbs := by
    unfold Fits at ha
    intro h0
    rw [wrapU, wrapU]
    omega
  have H := Lib.hid h; clear h
  unfold Fits at ha
  obtain ⟨a1, a2⟩ := ha
  rcases (show a < 0 ∨ 0 ≤ a from by omega) with h | h
  all_goals
    go_enter Tryd.func44, Tryd.ntmps44
    go_wp2
    go_ret
  · exact ⟨ret_int (H.out h), rfl⟩
  · exact ⟨ret_int (by omega), rfl⟩

set_option maxHeartbeats 400000 in
theorem signed_any (n : Nat) (b : Bool) (w : World) (hn : n ≤ 18446744073709551615) :
    Calls Tryd.prog 47 #[.int .u64 n, .bool b] w fun e w' => e = .returned (ans (back (if b then -(n : Int) else n))) ∧ w = w' := by
  cases b
  · rcases (show n ≤ 9223372036854775807 ∨ 9223372036854775807 < n from by omega) with h | h
    · rw [if_neg (by simp), ans_yes (by unfold Fits; omega)]
      go_enter Tryd.func47, Tryd.ntmps47
      go_wp2
      go_ret2
      exact ⟨rfl, rfl⟩
    · rw [if_neg (by simp), ans_no (by unfold Fits; omega)]
      go_enter Tryd.func47, Tryd.ntmps47
      go_wp2
      go_ret2
      exact ⟨rfl, rfl⟩
  · rcases (show n ≤ 9223372036854775808 ∨ 9223372036854775808 < n from by omega) with h | h
    · have h0 : n ≤ 9223372036854775808 → wrap64 (IntKind.u64.wrap (-(n : Int))) = -(n : Int) := by
        intro h0
        rw [wrapU]
        unfold wrap64
        omega
      have H := Lib.hid h0; clear h0
      rw [if_pos rfl, ans_yes (by unfold Fits; omega)]
      go_enter Tryd.func47, Tryd.ntmps47
      go_wp2
      go_ret2
      exact ⟨ret_ans (H.out h) rfl, rfl⟩
    · rw [if_pos rfl, ans_no (by unfold Fits; omega)]
      go_enter Tryd.func47, Tryd.ntmps47
      go_wp2
      go_ret2
      exact ⟨rfl, rfl⟩

end Go.Proofs.YtpmfkmolbioomaaDoor
