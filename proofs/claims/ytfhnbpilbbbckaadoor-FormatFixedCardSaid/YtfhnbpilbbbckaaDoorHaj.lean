/- Merged by program: T3Base, T3DecA, T3DecB, T3ParseMath. -/
import Derived.Test.YtfhnbpilbbbckaaDoorRows
import Derived.WalkKit
import Derived.WalkSpells
import Derived.WalkLawsBesides
import Derived.Lib.Hide
import Derived.LoopTactic
import Derived.Laws.RangeAny
import Derived.Laws.OwnMore
import Derived.OwnWalk
import Derived.WalkSmall
import Derived.Lib.OthersKept
import Derived.Deep.QuietTactic
import Derived.BigQuiet
import Derived.Deep.DeepCutAuto
import Derived.Deep.CutBlock
import Derived.KernelRfl
/- What every text here stands on: the imports of the walk, plain lemmas. -/
namespace Go.Proofs.YtfhnbpilbbbckaaDoor.T3
open Go.Proofs.YtfhnbpilbbbckaaDoor Go.Proofs
open Go.RowKit

theorem own : ownKnob Tryd.prog.godebug = none := by kernel_rfl

theorem Below.drewN' {B : Nat} {a w : World} (h : Below B a w) (n : Nat) : Below B a (w.drewN n) := by
  induction n with
  | zero => exact h
  | succ n ih => exact ⟨ih.os, ih.tape, ih.output, ih.size, ih.block⟩

theorem Below.step {w w1 w2 : World} (h : Below w.heap.size w w1) (h2 : Below w1.heap.size w1 w2) : Below w.heap.size w w2 :=
  h.trans (h2.mono h.size)

theorem ret_i64 {a b : Int} (h : a = b) : Ending.returned (.int .i64 a) = .returned (.int .i64 b) := by rw [h]
theorem ret_str {a b : ByteArray} (h : a = b) : Ending.returned (.string a) = .returned (.string b) := by rw [h]
end Go.Proofs.YtfhnbpilbbbckaaDoor.T3

/- Contracts of the plain functions of dec. -/
namespace Go.Proofs.YtfhnbpilbbbckaaDoor.T3
open Go.Proofs.YtfhnbpilbbbckaaDoor Go.Proofs
open Go.RowKit

def Fits (n : Int) : Prop := -9223372036854775808 ≤ n ∧ n ≤ 9223372036854775807
instance (n : Int) : Decidable (Fits n) := by unfold Fits; infer_instance
def back (n : Int) : Int × Int := if Fits n then (n, 0) else (0, 10)
def ans (p : Int × Int) : Value := .tuple #[.int .i64 p.1, .int .i64 p.2]

theorem ans_yes {n : Int} (h : Fits n) : ans (back n) = .tuple #[.int .i64 n, .int .i64 0] := by
  simp [ans, back, h]
theorem ans_no {n : Int} (h : ¬ Fits n) : ans (back n) = .tuple #[.int .i64 0, .int .i64 10] := by
  simp [ans, back, h]

theorem wrapU (a : Int) : IntKind.u64.wrap a = a % 18446744073709551616 := by
  simp [IntKind.wrap, IntKind.signed, IntKind.bits]

theorem ret_int {k : IntKind} {a b : Int} (h : a = b) : Ending.returned (.int k a) = .returned (.int k b) := by rw [h]
theorem ret_ans {a b c d : Int} (h : a = c) (h' : b = d) : Ending.returned (.tuple #[.int .i64 a, .int .i64 b]) = .returned (.tuple #[.int .i64 c, .int .i64 d]) := by rw [h, h']

theorem size_any (a : Int) (w : World) (ha : Fits a) :
    Calls Tryd.prog 92 #[.int .i64 a] w fun e w' => e = .returned (.int .u64 a.natAbs) ∧ w = w' := by
  have h : a < 0 → IntKind.u64.wrap (-IntKind.u64.wrap a) = a.natAbs := by
    unfold Fits at ha
    intro h0
    rw [wrapU, wrapU]
    omega
  have H := Lib.hid h; clear h
  unfold Fits at ha
  obtain ⟨a1, a2⟩ := ha
  rcases (show a < 0 ∨ 0 ≤ a from by omega) with h | h
  all_goals
    go_enter Tryd.func92, Tryd.ntmps92
    go_wp2
    go_ret
  · exact ⟨ret_int (H.out h), rfl⟩
  · exact ⟨ret_int (by omega), rfl⟩

set_option maxHeartbeats 400000 in
theorem signed_any (n : Nat) (b : Bool) (w : World) (hn : n ≤ 18446744073709551615) :
    Calls Tryd.prog 97 #[.int .u64 n, .bool b] w fun e w' => e = .returned (ans (back (if b then -(n : Int) else n))) ∧ w = w' := by
  cases b
  · rcases (show n ≤ 9223372036854775807 ∨ 9223372036854775807 < n from by omega) with h | h
    · rw [if_neg (by simp), ans_yes (by unfold Fits; omega)]
      go_enter Tryd.func97, Tryd.ntmps97
      go_wp2
      go_ret2
      exact ⟨rfl, rfl⟩
    · rw [if_neg (by simp), ans_no (by unfold Fits; omega)]
      go_enter Tryd.func97, Tryd.ntmps97
      go_wp2
      go_ret2
      exact ⟨rfl, rfl⟩
  · rcases (show n ≤ 9223372036854775808 ∨ 9223372036854775808 < n from by omega) with h | h
    · have h0 : n ≤ 9223372036854775808 → wrap64 (IntKind.u64.wrap (-(n : Int))) = -(n : Int) := by
        intro h0
        rw [wrapU]
        unfold wrap64
        omega
      have H := Lib.hid h0; clear h0
      rw [if_pos rfl, ans_yes (by unfold Fits; omega)]
      go_enter Tryd.func97, Tryd.ntmps97
      go_wp2
      go_ret2
      exact ⟨ret_ans (H.out h) rfl, rfl⟩
    · rw [if_pos rfl, ans_no (by unfold Fits; omega)]
      go_enter Tryd.func97, Tryd.ntmps97
      go_wp2
      go_ret2
      exact ⟨rfl, rfl⟩

end Go.Proofs.YtfhnbpilbbbckaaDoor.T3

/- Contracts of dec's products and quotients. -/
namespace Go.Proofs.YtfhnbpilbbbckaaDoor.T3
open Go.Proofs.YtfhnbpilbbbckaaDoor Go.Proofs
open Go.RowKit

def Drew (w w' : World) : Prop := ∃ n, w' = w.drewN n

theorem Drew.refl (w : World) : Drew w w := ⟨0, rfl⟩

def sgn (b : Bool) (n : Nat) : Int := if b then -(n : Int) else n

theorem signed_sgn (n : Nat) (b : Bool) (w : World) (hn : n ≤ 18446744073709551615) :
    Calls Tryd.prog 97 #[.int .u64 n, .bool b] w fun e w' => e = .returned (ans (back (sgn b n))) ∧ w = w' := signed_any n b w hn

theorem natAbs_lt {a : Int} (h : Fits a) : a.natAbs < 18446744073709551616 := by unfold Fits at h; omega

end Go.Proofs.YtfhnbpilbbbckaaDoor.T3

/- Plain mathematics of texts of numbers: no program. -/
namespace Go.Proofs.YtfhnbpilbbbckaaDoor.T3
open Go.Proofs.YtfhnbpilbbbckaaDoor Go.Proofs

def isDig (c : UInt8) : Bool := decide (48 ≤ c.toNat) && decide (c.toNat ≤ 57)
def isBl (c : UInt8) : Bool := decide (c.toNat = 32) || decide (c.toNat = 9) || decide (c.toNat = 10)

theorem isDig_yes {c : UInt8} (h : isDig c = true) : 48 ≤ c.toNat ∧ c.toNat ≤ 57 := by
  simpa [isDig] using h
theorem isDig_no {c : UInt8} (h : isDig c = false) : c.toNat < 48 ∨ 57 < c.toNat := by
  simp [isDig] at h; omega

theorem tw_lt {p : UInt8 → Bool} : ∀ {l : List UInt8} {k : Nat}, k < (l.takeWhile p).length → ∀ hk : k < l.length, p l[k] = true
  | [], k, h, _ => by simp at h
  | a :: l, k, h, hk => by
    rw [List.takeWhile_cons] at h
    split at h
    · rename_i ha
      cases k with
      | zero => simpa using ha
      | succ k =>
        have := tw_lt (p := p) (l := l) (k := k) (by simpa using h) (by simpa using hk)
        simpa using this
    · simp at h

theorem tw_end {p : UInt8 → Bool} : ∀ {l : List UInt8} (hk : (l.takeWhile p).length < l.length), p l[(l.takeWhile p).length] = false
  | [], h => by simp at h
  | a :: l, h => by
    by_cases ha : p a = true
    · have h2 : (List.takeWhile p (a :: l)).length = (List.takeWhile p l).length + 1 := by simp [ha]
      have := tw_end (p := p) (l := l) (by rw [h2] at h; simpa using h)
      simp only [h2, List.getElem_cons_succ]
      exact this
    · have h2 : (List.takeWhile p (a :: l)).length = 0 := by simp [ha]
      simp only [h2, List.getElem_cons_zero]
      simpa using ha

theorem tw_le {p : UInt8 → Bool} (l : List UInt8) : (l.takeWhile p).length ≤ l.length := (List.takeWhile_sublist p).length_le

theorem tw_take {p : UInt8 → Bool} (l : List UInt8) : l.take (l.takeWhile p).length = l.takeWhile p := by
  induction l with
  | nil => rfl
  | cons a l ih =>
    rw [List.takeWhile_cons]
    split
    · simp [ih]
    · simp

def dstep (n : Nat) (c : UInt8) : Nat := n * 10 + (c.toNat - 48)
def dval (l : List UInt8) : Nat := l.foldl dstep 0

theorem dval_snoc (l : List UInt8) (c : UInt8) : dval (l ++ [c]) = dval l * 10 + (c.toNat - 48) := by
  simp [dval, dstep]

/-- A number that is counted up to a greatest one. -/
def Sat (r v : Nat) : Prop := (r = v ∧ v ≤ 18446744073709551615) ∨ (r = 18446744073709551615 ∧ 9223372036854775808 < v)

def pushN (n : Nat) (c : Nat) : Nat := if 1844674407370955160 < n then 18446744073709551615 else n * 10 + (c - 48)

theorem Sat.le {r v : Nat} (h : Sat r v) : r ≤ 18446744073709551615 := by unfold Sat at h; omega

theorem Sat.push {r v c : Nat} (h : Sat r v) (hc : c ≤ 57) : Sat (pushN r c) (v * 10 + (c - 48)) := by
  unfold Sat pushN at *
  split <;> omega

def pad6 (p : List UInt8) : List UInt8 := p.take 6 ++ List.replicate (6 - p.length) 48
def mval (whole part : List UInt8) : Nat := dval (whole ++ pad6 part)

theorem pad6_len (p : List UInt8) : (pad6 p).length = 6 := by
  simp [pad6]; omega

theorem pad6_lt {p : List UInt8} {k : Nat} (h : k < p.length) (hk : k < 6) : (pad6 p)[k]'(by rw [pad6_len]; exact hk) = p[k] := by
  unfold pad6
  rw [List.getElem_append_left (by simp; omega)]
  simp

theorem pad6_ge {p : List UInt8} {k : Nat} (h : p.length ≤ k) (hk : k < 6) : (pad6 p)[k]'(by rw [pad6_len]; exact hk) = 48 := by
  unfold pad6
  rw [List.getElem_append_right (by simp; omega)]
  simp

end Go.Proofs.YtfhnbpilbbbckaaDoor.T3
