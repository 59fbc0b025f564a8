/- aukletref04.Named: a walk. -/
import Derived.Test.YtfdgjgmgkcoopaaBase
namespace Go.Proofs.Ytfdgjgmgkcoopaa
open Go.RowKit

def upC (c : Nat) : Bool := decide (65 ≤ c) && decide (c ≤ 90)
def lowC (c : Nat) : Bool := decide (97 ≤ c) && decide (c ≤ 122)
def digC (c : Nat) : Bool := decide (48 ≤ c) && decide (c ≤ 57)
/-- Whether a byte is of the class of that name, and whether there is one. -/
def refNamed (name : ByteArray) (c : Nat) : Bool × Bool :=
  if (name.toList == [97, 108, 112, 104, 97]) = true then (upC c || lowC c, true) else
  if (name.toList == [100, 105, 103, 105, 116]) = true then (digC c, true) else
  if (name.toList == [97, 108, 110, 117, 109]) = true then (upC c || lowC c || digC c, true) else
  if (name.toList == [117, 112, 112, 101, 114]) = true then (upC c, true) else
  if (name.toList == [108, 111, 119, 101, 114]) = true then (lowC c, true) else
  if (name.toList == [115, 112, 97, 99, 101]) = true then (decide (c = 32) || (decide (9 ≤ c) && decide (c ≤ 13)), true) else
  if (name.toList == [98, 108, 97, 110, 107]) = true then (decide (c = 32) || decide (c = 9), true) else
  if (name.toList == [112, 117, 110, 99, 116]) = true then (decide (32 < c) && decide (c < 127) && !upC c && !lowC c && !digC c, true) else
  if (name.toList == [112, 114, 105, 110, 116]) = true then (decide (32 ≤ c) && decide (c < 127), true) else
  if (name.toList == [103, 114, 97, 112, 104]) = true then (decide (32 < c) && decide (c < 127), true) else
  if (name.toList == [99, 110, 116, 114, 108]) = true then (decide (c < 32) || decide (c = 127), true) else
  if (name.toList == [120, 100, 105, 103, 105, 116]) = true then (digC c || (decide (65 ≤ c) && decide (c ≤ 70)) || (decide (97 ≤ c) && decide (c ≤ 102)), true) else
  (false, false)

theorem nt {b : Bool} (h : b = false) : ¬ b = true := by rw [h]; decide
theorem named_at {name : ByteArray} {c : Nat} {r : Bool × Bool} (h : refNamed name c = r) {a b : Bool} (ha : a = r.1) (hb : b = r.2) :
    Ending.returned (.tuple #[.bool a, .bool b]) = .returned (.tuple #[.bool (refNamed name c).1, .bool (refNamed name c).2]) := by rw [h, ha, hb]
theorem bool_at {a b : Bool} (h : a = true ↔ b = true) : Value.bool a = Value.bool b := by rw [Bool.eq_iff_iff.2 h]

theorem ref_alpha {name : ByteArray} {c : Nat} (h0 : (name.toList == [97, 108, 112, 104, 97]) = true) : refNamed name c = (upC c || lowC c, true) := by
  unfold refNamed
  rw [if_pos h0]
theorem ref_digit {name : ByteArray} {c : Nat} (h0 : (name.toList == [97, 108, 112, 104, 97]) = false) (h1 : (name.toList == [100, 105, 103, 105, 116]) = true) : refNamed name c = (digC c, true) := by
  unfold refNamed
  rw [if_neg (nt h0), if_pos h1]
theorem ref_alnum {name : ByteArray} {c : Nat} (h0 : (name.toList == [97, 108, 112, 104, 97]) = false) (h1 : (name.toList == [100, 105, 103, 105, 116]) = false) (h2 : (name.toList == [97, 108, 110, 117, 109]) = true) : refNamed name c = (upC c || lowC c || digC c, true) := by
  unfold refNamed
  rw [if_neg (nt h0), if_neg (nt h1), if_pos h2]
theorem ref_upper {name : ByteArray} {c : Nat} (h0 : (name.toList == [97, 108, 112, 104, 97]) = false) (h1 : (name.toList == [100, 105, 103, 105, 116]) = false) (h2 : (name.toList == [97, 108, 110, 117, 109]) = false) (h3 : (name.toList == [117, 112, 112, 101, 114]) = true) : refNamed name c = (upC c, true) := by
  unfold refNamed
  rw [if_neg (nt h0), if_neg (nt h1), if_neg (nt h2), if_pos h3]
theorem ref_lower {name : ByteArray} {c : Nat} (h0 : (name.toList == [97, 108, 112, 104, 97]) = false) (h1 : (name.toList == [100, 105, 103, 105, 116]) = false) (h2 : (name.toList == [97, 108, 110, 117, 109]) = false) (h3 : (name.toList == [117, 112, 112, 101, 114]) = false) (h4 : (name.toList == [108, 111, 119, 101, 114]) = true) : refNamed name c = (lowC c, true) := by
  unfold refNamed
  rw [if_neg (nt h0), if_neg (nt h1), if_neg (nt h2), if_neg (nt h3), if_pos h4]
theorem ref_space {name : ByteArray} {c : Nat} (h0 : (name.toList == [97, 108, 112, 104, 97]) = false) (h1 : (name.toList == [100, 105, 103, 105, 116]) = false) (h2 : (name.toList == [97, 108, 110, 117, 109]) = false) (h3 : (name.toList == [117, 112, 112, 101, 114]) = false) (h4 : (name.toList == [108, 111, 119, 101, 114]) = false) (h5 : (name.toList == [115, 112, 97, 99, 101]) = true) : refNamed name c = (decide (c = 32) || (decide (9 ≤ c) && decide (c ≤ 13)), true) := by
  unfold refNamed
  rw [if_neg (nt h0), if_neg (nt h1), if_neg (nt h2), if_neg (nt h3), if_neg (nt h4), if_pos h5]
theorem ref_blank {name : ByteArray} {c : Nat} (h0 : (name.toList == [97, 108, 112, 104, 97]) = false) (h1 : (name.toList == [100, 105, 103, 105, 116]) = false) (h2 : (name.toList == [97, 108, 110, 117, 109]) = false) (h3 : (name.toList == [117, 112, 112, 101, 114]) = false) (h4 : (name.toList == [108, 111, 119, 101, 114]) = false) (h5 : (name.toList == [115, 112, 97, 99, 101]) = false) (h6 : (name.toList == [98, 108, 97, 110, 107]) = true) : refNamed name c = (decide (c = 32) || decide (c = 9), true) := by
  unfold refNamed
  rw [if_neg (nt h0), if_neg (nt h1), if_neg (nt h2), if_neg (nt h3), if_neg (nt h4), if_neg (nt h5), if_pos h6]
theorem ref_punct {name : ByteArray} {c : Nat} (h0 : (name.toList == [97, 108, 112, 104, 97]) = false) (h1 : (name.toList == [100, 105, 103, 105, 116]) = false) (h2 : (name.toList == [97, 108, 110, 117, 109]) = false) (h3 : (name.toList == [117, 112, 112, 101, 114]) = false) (h4 : (name.toList == [108, 111, 119, 101, 114]) = false) (h5 : (name.toList == [115, 112, 97, 99, 101]) = false) (h6 : (name.toList == [98, 108, 97, 110, 107]) = false) (h7 : (name.toList == [112, 117, 110, 99, 116]) = true) : refNamed name c = (decide (32 < c) && decide (c < 127) && !upC c && !lowC c && !digC c, true) := by
  unfold refNamed
  rw [if_neg (nt h0), if_neg (nt h1), if_neg (nt h2), if_neg (nt h3), if_neg (nt h4), if_neg (nt h5), if_neg (nt h6), if_pos h7]
theorem ref_print {name : ByteArray} {c : Nat} (h0 : (name.toList == [97, 108, 112, 104, 97]) = false) (h1 : (name.toList == [100, 105, 103, 105, 116]) = false) (h2 : (name.toList == [97, 108, 110, 117, 109]) = false) (h3 : (name.toList == [117, 112, 112, 101, 114]) = false) (h4 : (name.toList == [108, 111, 119, 101, 114]) = false) (h5 : (name.toList == [115, 112, 97, 99, 101]) = false) (h6 : (name.toList == [98, 108, 97, 110, 107]) = false) (h7 : (name.toList == [112, 117, 110, 99, 116]) = false) (h8 : (name.toList == [112, 114, 105, 110, 116]) = true) : refNamed name c = (decide (32 ≤ c) && decide (c < 127), true) := by
  unfold refNamed
  rw [if_neg (nt h0), if_neg (nt h1), if_neg (nt h2), if_neg (nt h3), if_neg (nt h4), if_neg (nt h5), if_neg (nt h6), if_neg (nt h7), if_pos h8]
theorem ref_graph {name : ByteArray} {c : Nat} (h0 : (name.toList == [97, 108, 112, 104, 97]) = false) (h1 : (name.toList == [100, 105, 103, 105, 116]) = false) (h2 : (name.toList == [97, 108, 110, 117, 109]) = false) (h3 : (name.toList == [117, 112, 112, 101, 114]) = false) (h4 : (name.toList == [108, 111, 119, 101, 114]) = false) (h5 : (name.toList == [115, 112, 97, 99, 101]) = false) (h6 : (name.toList == [98, 108, 97, 110, 107]) = false) (h7 : (name.toList == [112, 117, 110, 99, 116]) = false) (h8 : (name.toList == [112, 114, 105, 110, 116]) = false) (h9 : (name.toList == [103, 114, 97, 112, 104]) = true) : refNamed name c = (decide (32 < c) && decide (c < 127), true) := by
  unfold refNamed
  rw [if_neg (nt h0), if_neg (nt h1), if_neg (nt h2), if_neg (nt h3), if_neg (nt h4), if_neg (nt h5), if_neg (nt h6), if_neg (nt h7), if_neg (nt h8), if_pos h9]
theorem ref_cntrl {name : ByteArray} {c : Nat} (h0 : (name.toList == [97, 108, 112, 104, 97]) = false) (h1 : (name.toList == [100, 105, 103, 105, 116]) = false) (h2 : (name.toList == [97, 108, 110, 117, 109]) = false) (h3 : (name.toList == [117, 112, 112, 101, 114]) = false) (h4 : (name.toList == [108, 111, 119, 101, 114]) = false) (h5 : (name.toList == [115, 112, 97, 99, 101]) = false) (h6 : (name.toList == [98, 108, 97, 110, 107]) = false) (h7 : (name.toList == [112, 117, 110, 99, 116]) = false) (h8 : (name.toList == [112, 114, 105, 110, 116]) = false) (h9 : (name.toList == [103, 114, 97, 112, 104]) = false) (h10 : (name.toList == [99, 110, 116, 114, 108]) = true) : refNamed name c = (decide (c < 32) || decide (c = 127), true) := by
  unfold refNamed
  rw [if_neg (nt h0), if_neg (nt h1), if_neg (nt h2), if_neg (nt h3), if_neg (nt h4), if_neg (nt h5), if_neg (nt h6), if_neg (nt h7), if_neg (nt h8), if_neg (nt h9), if_pos h10]
theorem ref_xdigit {name : ByteArray} {c : Nat} (h0 : (name.toList == [97, 108, 112, 104, 97]) = false) (h1 : (name.toList == [100, 105, 103, 105, 116]) = false) (h2 : (name.toList == [97, 108, 110, 117, 109]) = false) (h3 : (name.toList == [117, 112, 112, 101, 114]) = false) (h4 : (name.toList == [108, 111, 119, 101, 114]) = false) (h5 : (name.toList == [115, 112, 97, 99, 101]) = false) (h6 : (name.toList == [98, 108, 97, 110, 107]) = false) (h7 : (name.toList == [112, 117, 110, 99, 116]) = false) (h8 : (name.toList == [112, 114, 105, 110, 116]) = false) (h9 : (name.toList == [103, 114, 97, 112, 104]) = false) (h10 : (name.toList == [99, 110, 116, 114, 108]) = false) (h11 : (name.toList == [120, 100, 105, 103, 105, 116]) = true) : refNamed name c = (digC c || (decide (65 ≤ c) && decide (c ≤ 70)) || (decide (97 ≤ c) && decide (c ≤ 102)), true) := by
  unfold refNamed
  rw [if_neg (nt h0), if_neg (nt h1), if_neg (nt h2), if_neg (nt h3), if_neg (nt h4), if_neg (nt h5), if_neg (nt h6), if_neg (nt h7), if_neg (nt h8), if_neg (nt h9), if_neg (nt h10), if_pos h11]
theorem ref_none {name : ByteArray} {c : Nat} (h0 : (name.toList == [97, 108, 112, 104, 97]) = false) (h1 : (name.toList == [100, 105, 103, 105, 116]) = false) (h2 : (name.toList == [97, 108, 110, 117, 109]) = false) (h3 : (name.toList == [117, 112, 112, 101, 114]) = false) (h4 : (name.toList == [108, 111, 119, 101, 114]) = false) (h5 : (name.toList == [115, 112, 97, 99, 101]) = false) (h6 : (name.toList == [98, 108, 97, 110, 107]) = false) (h7 : (name.toList == [112, 117, 110, 99, 116]) = false) (h8 : (name.toList == [112, 114, 105, 110, 116]) = false) (h9 : (name.toList == [103, 114, 97, 112, 104]) = false) (h10 : (name.toList == [99, 110, 116, 114, 108]) = false) (h11 : (name.toList == [120, 100, 105, 103, 105, 116]) = false) : refNamed name c = (false, false) := by
  unfold refNamed
  rw [if_neg (nt h0), if_neg (nt h1), if_neg (nt h2), if_neg (nt h3), if_neg (nt h4), if_neg (nt h5), if_neg (nt h6), if_neg (nt h7), if_neg (nt h8), if_neg (nt h9), if_neg (nt h10), if_neg (nt h11)]

set_option maxRecDepth 100000 in
set_option maxHeartbeats 1000000 in
theorem rnamed_spec (name : ByteArray) (c : Nat) (w : World) :
    Calls Try.prog 14 #[.string name, .int .i64 c] w fun e w' => e = .returned (.tuple #[.bool (refNamed name c).1, .bool (refNamed name c).2]) ∧ w' = w := by
  go_enter Try.func14, Try.ntmps14
  go_upto_region 1 with (fail)
  go_cut [6, 7, 8] (fun x y z wx => x = .bool (upC c) ∧ y = .bool (lowC c) ∧ z = .bool (digC c) ∧ wx = w)
  case first =>
    rcases (show c < 48 ∨ (48 ≤ c ∧ c ≤ 57) ∨ (58 ≤ c ∧ c < 65) ∨ (65 ≤ c ∧ c ≤ 90) ∨ (91 ≤ c ∧ c < 97) ∨ (97 ≤ c ∧ c ≤ 122) ∨ 123 ≤ c from by omega) with h | ⟨h, h'⟩ | ⟨h, h'⟩ | ⟨h, h'⟩ | ⟨h, h'⟩ | ⟨h, h'⟩ | h
    all_goals
      go_wp2_with fail
      go_meet
      refine ⟨bool_at ?_, bool_at ?_, bool_at ?_, rfl⟩ <;> simp [upC, lowC, digC] <;> omega
  case rest =>
    obtain ⟨rfl, rfl, rfl, rfl⟩ := hcut
    go_step
    cases h0 : (name.toList == [97, 108, 112, 104, 97])
    case true =>
      cases hq0 : upC c <;>
      cases hq1 : lowC c <;>
      (go_wp2_with fail
       all_goals (go_ret2; refine ⟨named_at (ref_alpha h0) (Bool.eq_iff_iff.2 ?_) rfl, rfl⟩; simp [hq0, hq1] <;> omega))
    cases h1 : (name.toList == [100, 105, 103, 105, 116])
    case true =>
      cases hq0 : digC c <;>
      (go_wp2_with fail
       all_goals (go_ret2; refine ⟨named_at (ref_digit h0 h1) (Bool.eq_iff_iff.2 ?_) rfl, rfl⟩; simp [hq0] <;> omega))
    cases h2 : (name.toList == [97, 108, 110, 117, 109])
    case true =>
      cases hq0 : upC c <;>
      cases hq1 : lowC c <;>
      cases hq2 : digC c <;>
      (go_wp2_with fail
       all_goals (go_ret2; refine ⟨named_at (ref_alnum h0 h1 h2) (Bool.eq_iff_iff.2 ?_) rfl, rfl⟩; simp [hq0, hq1, hq2] <;> omega))
    cases h3 : (name.toList == [117, 112, 112, 101, 114])
    case true =>
      cases hq0 : upC c <;>
      (go_wp2_with fail
       all_goals (go_ret2; refine ⟨named_at (ref_upper h0 h1 h2 h3) (Bool.eq_iff_iff.2 ?_) rfl, rfl⟩; simp [hq0] <;> omega))
    cases h4 : (name.toList == [108, 111, 119, 101, 114])
    case true =>
      cases hq0 : lowC c <;>
      (go_wp2_with fail
       all_goals (go_ret2; refine ⟨named_at (ref_lower h0 h1 h2 h3 h4) (Bool.eq_iff_iff.2 ?_) rfl, rfl⟩; simp [hq0] <;> omega))
    cases h5 : (name.toList == [115, 112, 97, 99, 101])
    case true =>
      (go_wp2_with fail
       all_goals (go_ret2; refine ⟨named_at (ref_space h0 h1 h2 h3 h4 h5) (Bool.eq_iff_iff.2 ?_) rfl, rfl⟩; simp <;> omega))
    cases h6 : (name.toList == [98, 108, 97, 110, 107])
    case true =>
      (go_wp2_with fail
       all_goals (go_ret2; refine ⟨named_at (ref_blank h0 h1 h2 h3 h4 h5 h6) (Bool.eq_iff_iff.2 ?_) rfl, rfl⟩; simp <;> omega))
    cases h7 : (name.toList == [112, 117, 110, 99, 116])
    case true =>
      cases hq0 : upC c <;>
      cases hq1 : lowC c <;>
      cases hq2 : digC c <;>
      (go_wp2_with fail
       all_goals (go_ret2; refine ⟨named_at (ref_punct h0 h1 h2 h3 h4 h5 h6 h7) (Bool.eq_iff_iff.2 ?_) rfl, rfl⟩; simp [hq0, hq1, hq2] <;> omega))
    cases h8 : (name.toList == [112, 114, 105, 110, 116])
    case true =>
      (go_wp2_with fail
       all_goals (go_ret2; refine ⟨named_at (ref_print h0 h1 h2 h3 h4 h5 h6 h7 h8) (Bool.eq_iff_iff.2 ?_) rfl, rfl⟩; simp <;> omega))
    cases h9 : (name.toList == [103, 114, 97, 112, 104])
    case true =>
      (go_wp2_with fail
       all_goals (go_ret2; refine ⟨named_at (ref_graph h0 h1 h2 h3 h4 h5 h6 h7 h8 h9) (Bool.eq_iff_iff.2 ?_) rfl, rfl⟩; simp <;> omega))
    cases h10 : (name.toList == [99, 110, 116, 114, 108])
    case true =>
      (go_wp2_with fail
       all_goals (go_ret2; refine ⟨named_at (ref_cntrl h0 h1 h2 h3 h4 h5 h6 h7 h8 h9 h10) (Bool.eq_iff_iff.2 ?_) rfl, rfl⟩; simp <;> omega))
    cases h11 : (name.toList == [120, 100, 105, 103, 105, 116])
    case true =>
      cases hq0 : digC c <;>
      (go_wp2_with fail
       all_goals (go_ret2; refine ⟨named_at (ref_xdigit h0 h1 h2 h3 h4 h5 h6 h7 h8 h9 h10 h11) (Bool.eq_iff_iff.2 ?_) rfl, rfl⟩; simp [hq0] <;> omega))
    go_wp2_with fail
    go_ret2
    exact ⟨named_at (ref_none h0 h1 h2 h3 h4 h5 h6 h7 h8 h9 h10 h11) rfl rfl, rfl⟩
end Go.Proofs.Ytfdgjgmgkcoopaa
