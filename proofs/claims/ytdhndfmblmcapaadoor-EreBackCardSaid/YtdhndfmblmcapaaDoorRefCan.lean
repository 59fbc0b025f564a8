/- ref.Can: a walk, case by case (made by gen_refcan.py). -/
import Derived.Test.YtdhndfmblmcapaaDoorParts
namespace Go.Proofs.YtdhndfmblmcapaaDoor
open Go.RowKit

/-- A tree as memory holds it: its sets' words fit. -/
inductive Wf : Tree → Prop
  | mk (k : Int) (f : Nat → Nat) (lo hi : Int) (l : List Tree) (hf : Fits f) (hc : ∀ i, 4 ≤ i → f i = 0) (hk : ∀ c, c ∈ l → Wf c) : Wf (.mk k f lo hi l)
theorem fit_mk (within k : Int) (f : Nat → Nat) (lo hi : Int) (l : List Tree) (hf : Fits f) (h0 : 0 ≤ k) (h6 : k ≤ 6) (hs : k ≠ 1 → ∀ i, i < 4 → f i = 0) (ht : k ≠ 6 → lo = 0 ∧ hi = 0) (ha : k < 4 → l = []) (he : k = 0 → within ≠ 4)
    (hp : k = 4 ∨ k = 5 → k ≠ within ∧ 2 ≤ l.length) (hr : k = 6 → l.length = 1 ∧ 0 ≤ lo ∧ lo ≤ 50 ∧ (hi = -1 ∨ (lo ≤ hi ∧ hi ≤ 50))) (hl : l.length ≤ 400) : FitT within (.mk k f lo hi l) :=
  ⟨hf, h0, h6, hs, ht, ha, he, hp, hr, Nat.le_trans hl (by omega)⟩

def CanAns (G : Prop) (w : World) (e : Ending) (w' : World) : Prop := ∃ b : Bool, e = .returned (.bool b) ∧ Hid (b = true → G) ∧ Below w.heap.size w w'
/-- What Can does at trees of so many storeys. -/
def CansAt (n : Nat) : Prop :=
  ∀ (within : Int) (t : Tree) (cs : Array Value) (S : Nat → Prop) (d deep : Nat) (w : World), At w S t cs → Wf t → nodesN d t ≤ 400 → n ≤ d → deep + n = 101 →
    Calls Tryd.prog 8 #[.agg cs, .int .i64 within, .int .i64 deep] w (CanAns (Good n within t) w)


set_option maxRecDepth 100000 in
set_option maxHeartbeats 8000000 in
theorem can_0 (n : Nat) (within : Int) (f : Nat → Nat) (lo hi : Int) (l : List Tree) (a : Option Addr) (c : Nat) (S : Nat → Prop) (d' deep : Nat) (w : World) (hsl : SlAt w S l (.slice a l.length c)) (HF : Hid (Fits f)) (HW : Hid (∀ x, x ∈ l → Wf x)) (HN : Hid (∀ x, x ∈ l → nodesN d' x ≤ 400)) (hlen : l.length + 1 ≤ 400) (hd : deep + (n + 1) = 101) :
    Calls Tryd.prog 8 #[.agg (reC 0 f lo hi (.slice a l.length c)), .int .i64 within, .int .i64 deep] w (CanAns (Good (n + 1) within (.mk 0 f lo hi l)) w) := by
  have hdeep : deep ≤ 100 := by omega
  obtain ⟨z, hz⟩ : ∃ z : Bool, z = true ↔ ∀ i, i < 4 → f i = zero4 i := by
    by_cases e : ∀ i, i < 4 → f i = zero4 i
    · exact ⟨true, fun _ => e, fun _ => rfl⟩
    · exact ⟨false, fun h => absurd h (by decide), fun h => absurd h e⟩
  have hq : ∀ w, (Op.equalIn 10000 24 (.agg #[.int .u64 (f 0), .int .u64 (f 1), .int .u64 (f 2), .int .u64 (f 3)]) (.agg #[.int .u64 0, .int .u64 0, .int .u64 0, .int .u64 0])).run Tryd.prog w = .ok z w :=
    fun w => equal_words f zero4 w z hz
  have HZ := Lib.hid hz
  clear hz
  go_enter Tryd.func8, Tryd.ntmps8
  go_upto_region 1 with (fail)
  obtain ⟨W, hW, hX, hB, _⟩ := re_box w (reC 0 f lo hi (.slice a l.length c))
  rw [← hW]
  clear hW
  have S1 := Lib.hid (hsl.after hB.out)
  clear hsl
  obtain ⟨c0, c1, c2, c3, c4, c5, c6, c7⟩ := eight_re hX.out.eight
  cases z with
  | false =>
    go_wp2_with fail
    go_ret
    exact ⟨false, rfl, Lib.hid (fun h => absurd h (by decide)), hB.out⟩
  | true =>
    have HZ4 : Hid (∀ i, i < 4 → f i = 0) := Lib.hid (HZ.out.1 rfl)
    clear HZ
    by_cases elo : lo = 0
    rotate_left
    · have nl : (lo == 0) = false := beq_eq_false_iff_ne.2 elo
      go_wp2_with fail
      go_ret
      exact ⟨false, rfl, Lib.hid (fun h => absurd h (by decide)), hB.out⟩
    subst elo
    by_cases ehi : hi = 0
    rotate_left
    · have nl : (hi == 0) = false := beq_eq_false_iff_ne.2 ehi
      go_wp2_with fail
      go_ret
      exact ⟨false, rfl, Lib.hid (fun h => absurd h (by decide)), hB.out⟩
    subst ehi
    by_cases hl : 0 < l.length
    · go_wp2_with fail
      go_ret
      exact ⟨false, rfl, Lib.hid (fun h => absurd h (by decide)), hB.out⟩
    obtain rfl : l = [] := List.eq_nil_of_length_eq_zero (by omega)
    simp only [List.length_nil] at c7 hl ⊢
    by_cases w4 : within = 4
    · subst w4
      go_wp2_with fail
      go_ret
      exact ⟨false, rfl, Lib.hid (fun h => absurd h (by decide)), hB.out⟩
    have nw : (within == 4) = false := beq_eq_false_iff_ne.2 w4
    go_wp2_with fail
    refine wp_loop_rounds 1 ?_
    rw [rounds_succ]
    go_wp2_with fail
    go_ret
    exact ⟨true, rfl, Lib.hid (fun _ => ⟨(fit_mk within 0 f 0 0 [] HF.out (by omega) (by omega) (fun _ => HZ4.out) (fun _ => ⟨rfl, rfl⟩) (fun _ => rfl) (fun _ => w4) (fun h => by omega) (fun h => by omega) (by first | omega | (simp only [List.length_nil]; omega) | (simp only [List.length_singleton]; omega))), fun x hx => absurd hx (by simp [Tree.kids])⟩), hB.out⟩

set_option maxRecDepth 100000 in
set_option maxHeartbeats 8000000 in
theorem can_1 (n : Nat) (within : Int) (f : Nat → Nat) (lo hi : Int) (l : List Tree) (a : Option Addr) (c : Nat) (S : Nat → Prop) (d' deep : Nat) (w : World) (hsl : SlAt w S l (.slice a l.length c)) (HF : Hid (Fits f)) (HW : Hid (∀ x, x ∈ l → Wf x)) (HN : Hid (∀ x, x ∈ l → nodesN d' x ≤ 400)) (hlen : l.length + 1 ≤ 400) (hd : deep + (n + 1) = 101) :
    Calls Tryd.prog 8 #[.agg (reC 1 f lo hi (.slice a l.length c)), .int .i64 within, .int .i64 deep] w (CanAns (Good (n + 1) within (.mk 1 f lo hi l)) w) := by
  have hdeep : deep ≤ 100 := by omega
  obtain ⟨z, hz⟩ : ∃ z : Bool, z = true ↔ ∀ i, i < 4 → f i = zero4 i := by
    by_cases e : ∀ i, i < 4 → f i = zero4 i
    · exact ⟨true, fun _ => e, fun _ => rfl⟩
    · exact ⟨false, fun h => absurd h (by decide), fun h => absurd h e⟩
  have hq : ∀ w, (Op.equalIn 10000 24 (.agg #[.int .u64 (f 0), .int .u64 (f 1), .int .u64 (f 2), .int .u64 (f 3)]) (.agg #[.int .u64 0, .int .u64 0, .int .u64 0, .int .u64 0])).run Tryd.prog w = .ok z w :=
    fun w => equal_words f zero4 w z hz
  have HZ := Lib.hid hz
  clear hz
  go_enter Tryd.func8, Tryd.ntmps8
  go_upto_region 1 with (fail)
  obtain ⟨W, hW, hX, hB, _⟩ := re_box w (reC 1 f lo hi (.slice a l.length c))
  rw [← hW]
  clear hW
  have S1 := Lib.hid (hsl.after hB.out)
  clear hsl
  obtain ⟨c0, c1, c2, c3, c4, c5, c6, c7⟩ := eight_re hX.out.eight
  by_cases elo : lo = 0
  rotate_left
  · have nl : (lo == 0) = false := beq_eq_false_iff_ne.2 elo
    go_wp2_with fail
    go_ret
    exact ⟨false, rfl, Lib.hid (fun h => absurd h (by decide)), hB.out⟩
  subst elo
  by_cases ehi : hi = 0
  rotate_left
  · have nl : (hi == 0) = false := beq_eq_false_iff_ne.2 ehi
    go_wp2_with fail
    go_ret
    exact ⟨false, rfl, Lib.hid (fun h => absurd h (by decide)), hB.out⟩
  subst ehi
  by_cases hl : 0 < l.length
  · go_wp2_with fail
    go_ret
    exact ⟨false, rfl, Lib.hid (fun h => absurd h (by decide)), hB.out⟩
  obtain rfl : l = [] := List.eq_nil_of_length_eq_zero (by omega)
  simp only [List.length_nil] at c7 hl ⊢
  go_wp2_with fail
  refine wp_loop_rounds 1 ?_
  rw [rounds_succ]
  go_wp2_with fail
  go_ret
  exact ⟨true, rfl, Lib.hid (fun _ => ⟨(fit_mk within 1 f 0 0 [] HF.out (by omega) (by omega) (fun h => absurd rfl h) (fun _ => ⟨rfl, rfl⟩) (fun _ => rfl) (fun h => by omega) (fun h => by omega) (fun h => by omega) (by first | omega | (simp only [List.length_nil]; omega) | (simp only [List.length_singleton]; omega))), fun x hx => absurd hx (by simp [Tree.kids])⟩), hB.out⟩

set_option maxRecDepth 100000 in
set_option maxHeartbeats 8000000 in
theorem can_2 (n : Nat) (within : Int) (f : Nat → Nat) (lo hi : Int) (l : List Tree) (a : Option Addr) (c : Nat) (S : Nat → Prop) (d' deep : Nat) (w : World) (hsl : SlAt w S l (.slice a l.length c)) (HF : Hid (Fits f)) (HW : Hid (∀ x, x ∈ l → Wf x)) (HN : Hid (∀ x, x ∈ l → nodesN d' x ≤ 400)) (hlen : l.length + 1 ≤ 400) (hd : deep + (n + 1) = 101) :
    Calls Tryd.prog 8 #[.agg (reC 2 f lo hi (.slice a l.length c)), .int .i64 within, .int .i64 deep] w (CanAns (Good (n + 1) within (.mk 2 f lo hi l)) w) := by
  have hdeep : deep ≤ 100 := by omega
  obtain ⟨z, hz⟩ : ∃ z : Bool, z = true ↔ ∀ i, i < 4 → f i = zero4 i := by
    by_cases e : ∀ i, i < 4 → f i = zero4 i
    · exact ⟨true, fun _ => e, fun _ => rfl⟩
    · exact ⟨false, fun h => absurd h (by decide), fun h => absurd h e⟩
  have hq : ∀ w, (Op.equalIn 10000 24 (.agg #[.int .u64 (f 0), .int .u64 (f 1), .int .u64 (f 2), .int .u64 (f 3)]) (.agg #[.int .u64 0, .int .u64 0, .int .u64 0, .int .u64 0])).run Tryd.prog w = .ok z w :=
    fun w => equal_words f zero4 w z hz
  have HZ := Lib.hid hz
  clear hz
  go_enter Tryd.func8, Tryd.ntmps8
  go_upto_region 1 with (fail)
  obtain ⟨W, hW, hX, hB, _⟩ := re_box w (reC 2 f lo hi (.slice a l.length c))
  rw [← hW]
  clear hW
  have S1 := Lib.hid (hsl.after hB.out)
  clear hsl
  obtain ⟨c0, c1, c2, c3, c4, c5, c6, c7⟩ := eight_re hX.out.eight
  cases z with
  | false =>
    go_wp2_with fail
    go_ret
    exact ⟨false, rfl, Lib.hid (fun h => absurd h (by decide)), hB.out⟩
  | true =>
    have HZ4 : Hid (∀ i, i < 4 → f i = 0) := Lib.hid (HZ.out.1 rfl)
    clear HZ
    by_cases elo : lo = 0
    rotate_left
    · have nl : (lo == 0) = false := beq_eq_false_iff_ne.2 elo
      go_wp2_with fail
      go_ret
      exact ⟨false, rfl, Lib.hid (fun h => absurd h (by decide)), hB.out⟩
    subst elo
    by_cases ehi : hi = 0
    rotate_left
    · have nl : (hi == 0) = false := beq_eq_false_iff_ne.2 ehi
      go_wp2_with fail
      go_ret
      exact ⟨false, rfl, Lib.hid (fun h => absurd h (by decide)), hB.out⟩
    subst ehi
    by_cases hl : 0 < l.length
    · go_wp2_with fail
      go_ret
      exact ⟨false, rfl, Lib.hid (fun h => absurd h (by decide)), hB.out⟩
    obtain rfl : l = [] := List.eq_nil_of_length_eq_zero (by omega)
    simp only [List.length_nil] at c7 hl ⊢
    go_wp2_with fail
    refine wp_loop_rounds 1 ?_
    rw [rounds_succ]
    go_wp2_with fail
    go_ret
    exact ⟨true, rfl, Lib.hid (fun _ => ⟨(fit_mk within 2 f 0 0 [] HF.out (by omega) (by omega) (fun _ => HZ4.out) (fun _ => ⟨rfl, rfl⟩) (fun _ => rfl) (fun h => by omega) (fun h => by omega) (fun h => by omega) (by first | omega | (simp only [List.length_nil]; omega) | (simp only [List.length_singleton]; omega))), fun x hx => absurd hx (by simp [Tree.kids])⟩), hB.out⟩

set_option maxRecDepth 100000 in
set_option maxHeartbeats 8000000 in
theorem can_3 (n : Nat) (within : Int) (f : Nat → Nat) (lo hi : Int) (l : List Tree) (a : Option Addr) (c : Nat) (S : Nat → Prop) (d' deep : Nat) (w : World) (hsl : SlAt w S l (.slice a l.length c)) (HF : Hid (Fits f)) (HW : Hid (∀ x, x ∈ l → Wf x)) (HN : Hid (∀ x, x ∈ l → nodesN d' x ≤ 400)) (hlen : l.length + 1 ≤ 400) (hd : deep + (n + 1) = 101) :
    Calls Tryd.prog 8 #[.agg (reC 3 f lo hi (.slice a l.length c)), .int .i64 within, .int .i64 deep] w (CanAns (Good (n + 1) within (.mk 3 f lo hi l)) w) := by
  have hdeep : deep ≤ 100 := by omega
  obtain ⟨z, hz⟩ : ∃ z : Bool, z = true ↔ ∀ i, i < 4 → f i = zero4 i := by
    by_cases e : ∀ i, i < 4 → f i = zero4 i
    · exact ⟨true, fun _ => e, fun _ => rfl⟩
    · exact ⟨false, fun h => absurd h (by decide), fun h => absurd h e⟩
  have hq : ∀ w, (Op.equalIn 10000 24 (.agg #[.int .u64 (f 0), .int .u64 (f 1), .int .u64 (f 2), .int .u64 (f 3)]) (.agg #[.int .u64 0, .int .u64 0, .int .u64 0, .int .u64 0])).run Tryd.prog w = .ok z w :=
    fun w => equal_words f zero4 w z hz
  have HZ := Lib.hid hz
  clear hz
  go_enter Tryd.func8, Tryd.ntmps8
  go_upto_region 1 with (fail)
  obtain ⟨W, hW, hX, hB, _⟩ := re_box w (reC 3 f lo hi (.slice a l.length c))
  rw [← hW]
  clear hW
  have S1 := Lib.hid (hsl.after hB.out)
  clear hsl
  obtain ⟨c0, c1, c2, c3, c4, c5, c6, c7⟩ := eight_re hX.out.eight
  cases z with
  | false =>
    go_wp2_with fail
    go_ret
    exact ⟨false, rfl, Lib.hid (fun h => absurd h (by decide)), hB.out⟩
  | true =>
    have HZ4 : Hid (∀ i, i < 4 → f i = 0) := Lib.hid (HZ.out.1 rfl)
    clear HZ
    by_cases elo : lo = 0
    rotate_left
    · have nl : (lo == 0) = false := beq_eq_false_iff_ne.2 elo
      go_wp2_with fail
      go_ret
      exact ⟨false, rfl, Lib.hid (fun h => absurd h (by decide)), hB.out⟩
    subst elo
    by_cases ehi : hi = 0
    rotate_left
    · have nl : (hi == 0) = false := beq_eq_false_iff_ne.2 ehi
      go_wp2_with fail
      go_ret
      exact ⟨false, rfl, Lib.hid (fun h => absurd h (by decide)), hB.out⟩
    subst ehi
    by_cases hl : 0 < l.length
    · go_wp2_with fail
      go_ret
      exact ⟨false, rfl, Lib.hid (fun h => absurd h (by decide)), hB.out⟩
    obtain rfl : l = [] := List.eq_nil_of_length_eq_zero (by omega)
    simp only [List.length_nil] at c7 hl ⊢
    go_wp2_with fail
    refine wp_loop_rounds 1 ?_
    rw [rounds_succ]
    go_wp2_with fail
    go_ret
    exact ⟨true, rfl, Lib.hid (fun _ => ⟨(fit_mk within 3 f 0 0 [] HF.out (by omega) (by omega) (fun _ => HZ4.out) (fun _ => ⟨rfl, rfl⟩) (fun _ => rfl) (fun h => by omega) (fun h => by omega) (fun h => by omega) (by first | omega | (simp only [List.length_nil]; omega) | (simp only [List.length_singleton]; omega))), fun x hx => absurd hx (by simp [Tree.kids])⟩), hB.out⟩

set_option maxRecDepth 100000 in
set_option maxHeartbeats 8000000 in
theorem can_4 (n : Nat) (HI : Hid (CansAt n)) (within : Int) (f : Nat → Nat) (lo hi : Int) (l : List Tree) (a : Option Addr) (c : Nat) (S : Nat → Prop) (d' deep : Nat) (w : World) (hsl : SlAt w S l (.slice a l.length c)) (HF : Hid (Fits f)) (HW : Hid (∀ x, x ∈ l → Wf x)) (HN : Hid (∀ x, x ∈ l → nodesN d' x ≤ 400)) (hlen : l.length + 1 ≤ 400) (hdd' : n ≤ d') (hd : deep + (n + 1) = 101) :
    Calls Tryd.prog 8 #[.agg (reC 4 f lo hi (.slice a l.length c)), .int .i64 within, .int .i64 deep] w (CanAns (Good (n + 1) within (.mk 4 f lo hi l)) w) := by
  have hdeep : deep ≤ 100 := by omega
  obtain ⟨z, hz⟩ : ∃ z : Bool, z = true ↔ ∀ i, i < 4 → f i = zero4 i := by
    by_cases e : ∀ i, i < 4 → f i = zero4 i
    · exact ⟨true, fun _ => e, fun _ => rfl⟩
    · exact ⟨false, fun h => absurd h (by decide), fun h => absurd h e⟩
  have hq : ∀ w, (Op.equalIn 10000 24 (.agg #[.int .u64 (f 0), .int .u64 (f 1), .int .u64 (f 2), .int .u64 (f 3)]) (.agg #[.int .u64 0, .int .u64 0, .int .u64 0, .int .u64 0])).run Tryd.prog w = .ok z w :=
    fun w => equal_words f zero4 w z hz
  have HZ := Lib.hid hz
  clear hz
  go_enter Tryd.func8, Tryd.ntmps8
  go_upto_region 1 with (fail)
  obtain ⟨W, hW, hX, hB, _⟩ := re_box w (reC 4 f lo hi (.slice a l.length c))
  rw [← hW]
  clear hW
  have S1 := Lib.hid (hsl.after hB.out)
  clear hsl
  obtain ⟨c0, c1, c2, c3, c4, c5, c6, c7⟩ := eight_re hX.out.eight
  cases z with
  | false =>
    go_wp2_with fail
    go_ret
    exact ⟨false, rfl, Lib.hid (fun h => absurd h (by decide)), hB.out⟩
  | true =>
    have HZ4 : Hid (∀ i, i < 4 → f i = 0) := Lib.hid (HZ.out.1 rfl)
    clear HZ
    by_cases elo : lo = 0
    rotate_left
    · have nl : (lo == 0) = false := beq_eq_false_iff_ne.2 elo
      go_wp2_with fail
      go_ret
      exact ⟨false, rfl, Lib.hid (fun h => absurd h (by decide)), hB.out⟩
    subst elo
    by_cases ehi : hi = 0
    rotate_left
    · have nl : (hi == 0) = false := beq_eq_false_iff_ne.2 ehi
      go_wp2_with fail
      go_ret
      exact ⟨false, rfl, Lib.hid (fun h => absurd h (by decide)), hB.out⟩
    subst ehi
    by_cases hw : within = 4
    · subst hw
      go_wp2_with fail
      go_ret
      exact ⟨false, rfl, Lib.hid (fun h => absurd h (by decide)), hB.out⟩
    have nw : ((4 : Int) == within) = false := beq_eq_false_iff_ne.2 (Ne.symm hw)
    by_cases h2 : l.length < 2
    · go_wp2_with fail
      go_ret
      exact ⟨false, rfl, Lib.hid (fun h => absurd h (by decide)), hB.out⟩
    go_wp2_with fail
    go_loopw [8] (fun y wr => ∃ i : Nat, y = .int .i64 i ∧ i ≤ l.length ∧ Hid (∀ x, x ∈ (l : List Tree).take i → Good n 4 x) ∧ Hid (Below W.heap.size W wr)) (fun y _ => l.length - (intOf y).toNat)
    case atStart => exact ⟨0, rfl, by omega, Lib.hid (fun x hx => absurd hx (by simp)), Lib.hid (Below.refl _ _)⟩
    case round =>
      obtain ⟨i, rfl, hi', hG, hb⟩ := hrel
      clear c0 c1 c2 c3 c4 c5 c6 c7
      have X1 := Lib.hid (hX.out.after hb.out)
      obtain ⟨c0, c1, c2, c3, c4, c5, c6, c7⟩ := eight_re X1.out.eight
      try simp only [List.length_singleton] at c7
      by_cases hgo : i < l.length
      · rcases S1.out with ⟨e, _⟩ | ⟨hl, b, off, c', cs, e, hc, hBb, h8, hat⟩
        · first | exact absurd e (by simp) | (rw [e] at hgo; exact absurd hgo (by simp))
        · simp only [Value.slice.injEq] at e
          obtain ⟨rfl, _, rfl⟩ := e
          have hgo' : i < (l : List Tree).length := by first | exact hgo | (simp only [List.length_singleton]; exact hgo)
          have hT := hat i hgo'
          have hT' := hT.after hb.out
          obtain ⟨ai, ci, e, _⟩ := hT.opens
          have h8i := (h8 i hgo').after hT.size hb.out
          rw [e] at h8i hT'
          obtain ⟨d0, d1, d2, d3, d4, d5, d6, d7⟩ := eight_re h8i
          have HC := Lib.hid (HI.out 4 (l : List Tree)[i] _ S d' (deep + 1) _ hT' (HW.out _ (List.getElem_mem hgo')) (HN.out _ (List.getElem_mem hgo')) hdd' (by omega))
          have hcl : l.length ≤ c := by first | exact hc | (simp only [List.length_singleton] at hc; exact hc)
          have HTK := Lib.hid (List.take_succ_eq_append_getElem hgo')
          clear e hT hT' h8 hat h8i hc
          go_wp2_with fail
          refine HC.out.mono ?_
          rintro e w2 ⟨v, rfl, hv, b2⟩
          have B2 := Lib.hid (Below.step hb.out b2)
          clear b2
          cases v with
          | false =>
            go_wp2_with fail
            go_ret
            exact ⟨false, rfl, Lib.hid (fun h => absurd h (by decide)), Below.step hB.out B2.out⟩
          | true =>
            have HG2 : Hid (∀ x, x ∈ (l : List Tree).take (i + 1) → Good n 4 x) := Lib.hid (by
              rw [HTK.out]
              intro x hx
              rcases List.mem_append.1 hx with hx | hx
              · exact hG.out x hx
              · rw [List.mem_singleton.1 hx]; exact hv.out rfl)
            go_wp2_with fail
            go_roundw
            case rel => exact ⟨i + 1, by go_num, by omega, HG2, B2⟩
            case measure => simp [intOf]; omega
      · go_wp2_with fail
        go_ret
        refine ⟨true, rfl, Lib.hid (fun _ => ⟨(fit_mk within 4 f 0 0 l HF.out (by omega) (by omega) (fun _ => HZ4.out) (fun _ => ⟨rfl, rfl⟩) (fun h => by omega) (fun h => by omega) (fun _ => ⟨fun e => hw e.symm, by omega⟩) (fun h => by omega) (by first | omega | (simp only [List.length_nil]; omega) | (simp only [List.length_singleton]; omega))), ?_⟩), Below.step hB.out hb.out⟩
        have e1 := hG.out
        rw [List.take_of_length_le (by first | omega | (simp only [List.length_singleton]; omega))] at e1
        exact e1

set_option maxRecDepth 100000 in
set_option maxHeartbeats 8000000 in
theorem can_5 (n : Nat) (HI : Hid (CansAt n)) (within : Int) (f : Nat → Nat) (lo hi : Int) (l : List Tree) (a : Option Addr) (c : Nat) (S : Nat → Prop) (d' deep : Nat) (w : World) (hsl : SlAt w S l (.slice a l.length c)) (HF : Hid (Fits f)) (HW : Hid (∀ x, x ∈ l → Wf x)) (HN : Hid (∀ x, x ∈ l → nodesN d' x ≤ 400)) (hlen : l.length + 1 ≤ 400) (hdd' : n ≤ d') (hd : deep + (n + 1) = 101) :
    Calls Tryd.prog 8 #[.agg (reC 5 f lo hi (.slice a l.length c)), .int .i64 within, .int .i64 deep] w (CanAns (Good (n + 1) within (.mk 5 f lo hi l)) w) := by
  have hdeep : deep ≤ 100 := by omega
  obtain ⟨z, hz⟩ : ∃ z : Bool, z = true ↔ ∀ i, i < 4 → f i = zero4 i := by
    by_cases e : ∀ i, i < 4 → f i = zero4 i
    · exact ⟨true, fun _ => e, fun _ => rfl⟩
    · exact ⟨false, fun h => absurd h (by decide), fun h => absurd h e⟩
  have hq : ∀ w, (Op.equalIn 10000 24 (.agg #[.int .u64 (f 0), .int .u64 (f 1), .int .u64 (f 2), .int .u64 (f 3)]) (.agg #[.int .u64 0, .int .u64 0, .int .u64 0, .int .u64 0])).run Tryd.prog w = .ok z w :=
    fun w => equal_words f zero4 w z hz
  have HZ := Lib.hid hz
  clear hz
  go_enter Tryd.func8, Tryd.ntmps8
  go_upto_region 1 with (fail)
  obtain ⟨W, hW, hX, hB, _⟩ := re_box w (reC 5 f lo hi (.slice a l.length c))
  rw [← hW]
  clear hW
  have S1 := Lib.hid (hsl.after hB.out)
  clear hsl
  obtain ⟨c0, c1, c2, c3, c4, c5, c6, c7⟩ := eight_re hX.out.eight
  cases z with
  | false =>
    go_wp2_with fail
    go_ret
    exact ⟨false, rfl, Lib.hid (fun h => absurd h (by decide)), hB.out⟩
  | true =>
    have HZ4 : Hid (∀ i, i < 4 → f i = 0) := Lib.hid (HZ.out.1 rfl)
    clear HZ
    by_cases elo : lo = 0
    rotate_left
    · have nl : (lo == 0) = false := beq_eq_false_iff_ne.2 elo
      go_wp2_with fail
      go_ret
      exact ⟨false, rfl, Lib.hid (fun h => absurd h (by decide)), hB.out⟩
    subst elo
    by_cases ehi : hi = 0
    rotate_left
    · have nl : (hi == 0) = false := beq_eq_false_iff_ne.2 ehi
      go_wp2_with fail
      go_ret
      exact ⟨false, rfl, Lib.hid (fun h => absurd h (by decide)), hB.out⟩
    subst ehi
    by_cases hw : within = 5
    · subst hw
      go_wp2_with fail
      go_ret
      exact ⟨false, rfl, Lib.hid (fun h => absurd h (by decide)), hB.out⟩
    have nw : ((5 : Int) == within) = false := beq_eq_false_iff_ne.2 (Ne.symm hw)
    by_cases h2 : l.length < 2
    · go_wp2_with fail
      go_ret
      exact ⟨false, rfl, Lib.hid (fun h => absurd h (by decide)), hB.out⟩
    go_wp2_with fail
    go_loopw [8] (fun y wr => ∃ i : Nat, y = .int .i64 i ∧ i ≤ l.length ∧ Hid (∀ x, x ∈ (l : List Tree).take i → Good n 5 x) ∧ Hid (Below W.heap.size W wr)) (fun y _ => l.length - (intOf y).toNat)
    case atStart => exact ⟨0, rfl, by omega, Lib.hid (fun x hx => absurd hx (by simp)), Lib.hid (Below.refl _ _)⟩
    case round =>
      obtain ⟨i, rfl, hi', hG, hb⟩ := hrel
      clear c0 c1 c2 c3 c4 c5 c6 c7
      have X1 := Lib.hid (hX.out.after hb.out)
      obtain ⟨c0, c1, c2, c3, c4, c5, c6, c7⟩ := eight_re X1.out.eight
      try simp only [List.length_singleton] at c7
      by_cases hgo : i < l.length
      · rcases S1.out with ⟨e, _⟩ | ⟨hl, b, off, c', cs, e, hc, hBb, h8, hat⟩
        · first | exact absurd e (by simp) | (rw [e] at hgo; exact absurd hgo (by simp))
        · simp only [Value.slice.injEq] at e
          obtain ⟨rfl, _, rfl⟩ := e
          have hgo' : i < (l : List Tree).length := by first | exact hgo | (simp only [List.length_singleton]; exact hgo)
          have hT := hat i hgo'
          have hT' := hT.after hb.out
          obtain ⟨ai, ci, e, _⟩ := hT.opens
          have h8i := (h8 i hgo').after hT.size hb.out
          rw [e] at h8i hT'
          obtain ⟨d0, d1, d2, d3, d4, d5, d6, d7⟩ := eight_re h8i
          have HC := Lib.hid (HI.out 5 (l : List Tree)[i] _ S d' (deep + 1) _ hT' (HW.out _ (List.getElem_mem hgo')) (HN.out _ (List.getElem_mem hgo')) hdd' (by omega))
          have hcl : l.length ≤ c := by first | exact hc | (simp only [List.length_singleton] at hc; exact hc)
          have HTK := Lib.hid (List.take_succ_eq_append_getElem hgo')
          clear e hT hT' h8 hat h8i hc
          go_wp2_with fail
          refine HC.out.mono ?_
          rintro e w2 ⟨v, rfl, hv, b2⟩
          have B2 := Lib.hid (Below.step hb.out b2)
          clear b2
          cases v with
          | false =>
            go_wp2_with fail
            go_ret
            exact ⟨false, rfl, Lib.hid (fun h => absurd h (by decide)), Below.step hB.out B2.out⟩
          | true =>
            have HG2 : Hid (∀ x, x ∈ (l : List Tree).take (i + 1) → Good n 5 x) := Lib.hid (by
              rw [HTK.out]
              intro x hx
              rcases List.mem_append.1 hx with hx | hx
              · exact hG.out x hx
              · rw [List.mem_singleton.1 hx]; exact hv.out rfl)
            go_wp2_with fail
            go_roundw
            case rel => exact ⟨i + 1, by go_num, by omega, HG2, B2⟩
            case measure => simp [intOf]; omega
      · go_wp2_with fail
        go_ret
        refine ⟨true, rfl, Lib.hid (fun _ => ⟨(fit_mk within 5 f 0 0 l HF.out (by omega) (by omega) (fun _ => HZ4.out) (fun _ => ⟨rfl, rfl⟩) (fun h => by omega) (fun h => by omega) (fun _ => ⟨fun e => hw e.symm, by omega⟩) (fun h => by omega) (by first | omega | (simp only [List.length_nil]; omega) | (simp only [List.length_singleton]; omega))), ?_⟩), Below.step hB.out hb.out⟩
        have e1 := hG.out
        rw [List.take_of_length_le (by first | omega | (simp only [List.length_singleton]; omega))] at e1
        exact e1

set_option maxRecDepth 100000 in
set_option maxHeartbeats 8000000 in
theorem can_6 (n : Nat) (HI : Hid (CansAt n)) (within : Int) (f : Nat → Nat) (lo hi : Int) (l : List Tree) (a : Option Addr) (c : Nat) (S : Nat → Prop) (d' deep : Nat) (w : World) (hsl : SlAt w S l (.slice a l.length c)) (HF : Hid (Fits f)) (HW : Hid (∀ x, x ∈ l → Wf x)) (HN : Hid (∀ x, x ∈ l → nodesN d' x ≤ 400)) (hlen : l.length + 1 ≤ 400) (hdd' : n ≤ d') (hd : deep + (n + 1) = 101) :
    Calls Tryd.prog 8 #[.agg (reC 6 f lo hi (.slice a l.length c)), .int .i64 within, .int .i64 deep] w (CanAns (Good (n + 1) within (.mk 6 f lo hi l)) w) := by
  have hdeep : deep ≤ 100 := by omega
  obtain ⟨z, hz⟩ : ∃ z : Bool, z = true ↔ ∀ i, i < 4 → f i = zero4 i := by
    by_cases e : ∀ i, i < 4 → f i = zero4 i
    · exact ⟨true, fun _ => e, fun _ => rfl⟩
    · exact ⟨false, fun h => absurd h (by decide), fun h => absurd h e⟩
  have hq : ∀ w, (Op.equalIn 10000 24 (.agg #[.int .u64 (f 0), .int .u64 (f 1), .int .u64 (f 2), .int .u64 (f 3)]) (.agg #[.int .u64 0, .int .u64 0, .int .u64 0, .int .u64 0])).run Tryd.prog w = .ok z w :=
    fun w => equal_words f zero4 w z hz
  have HZ := Lib.hid hz
  clear hz
  go_enter Tryd.func8, Tryd.ntmps8
  go_upto_region 1 with (fail)
  obtain ⟨W, hW, hX, hB, _⟩ := re_box w (reC 6 f lo hi (.slice a l.length c))
  rw [← hW]
  clear hW
  have S1 := Lib.hid (hsl.after hB.out)
  clear hsl
  obtain ⟨c0, c1, c2, c3, c4, c5, c6, c7⟩ := eight_re hX.out.eight
  cases z with
  | false =>
    go_wp2_with fail
    go_ret
    exact ⟨false, rfl, Lib.hid (fun h => absurd h (by decide)), hB.out⟩
  | true =>
    have HZ4 : Hid (∀ i, i < 4 → f i = 0) := Lib.hid (HZ.out.1 rfl)
    clear HZ
    by_cases h1 : l.length = 1
    rotate_left
    · have n1 : ((l.length : Int) == 1) = false := beq_eq_false_iff_ne.2 (by omega)
      go_wp2_with fail
      go_ret
      exact ⟨false, rfl, Lib.hid (fun h => absurd h (by decide)), hB.out⟩
    obtain ⟨u, rfl⟩ : ∃ u, l = [u] := List.length_eq_one_iff.1 h1
    clear h1
    simp only [List.length_singleton] at c7 S1 hX hlen ⊢
    by_cases p1 : lo < 0
    · go_wp2_with fail
      go_ret
      exact ⟨false, rfl, Lib.hid (fun h => absurd h (by decide)), hB.out⟩
    by_cases p2 : 50 < lo
    · go_wp2_with fail
      go_ret
      exact ⟨false, rfl, Lib.hid (fun h => absurd h (by decide)), hB.out⟩
    by_cases p3 : 50 < hi
    · go_wp2_with fail
      go_ret
      exact ⟨false, rfl, Lib.hid (fun h => absurd h (by decide)), hB.out⟩
    by_cases p4 : hi < lo
    · by_cases p5 : hi = -1
      · subst p5
        rcases S1.out with ⟨e, _⟩ | ⟨_, b, off, c', cs, e, hc, hBb, h8, hat⟩
        · exact absurd e (by simp)
        simp only [Value.slice.injEq] at e
        obtain ⟨rfl, e1, rfl⟩ := e
        clear e1
        have hT : At W S u (cs 0) := hat 0 (by simp)
        obtain ⟨ai, ci, e, _⟩ := hT.opens
        have E0 : Eight W b off (cs 0) := by have := h8 0 (by simp); rwa [Nat.zero_mul, Nat.add_zero] at this
        rw [e] at E0 hT
        obtain ⟨d0, d1, d2, d3, d4, d5, d6, d7⟩ := eight_re E0
        have HC := Lib.hid (HI.out 6 u _ S d' (deep + 1) W hT (HW.out _ (by simp)) (HN.out _ (by simp)) hdd' (by omega))
        clear e hT h8 hat E0 hc
        go_wp2_with fail
        refine wp_loop_rounds 2 ?_
        rw [rounds_succ]
        go_wp2_with fail
        refine HC.out.mono ?_
        rintro e w2 ⟨v, rfl, hv, b2⟩
        have B2 := Lib.hid (Below.step hB.out b2)
        have X2 := Lib.hid (hX.out.after b2)
        clear b2 c0 c1 c2 c3 c4 c5 c6 c7 d0 d1 d2 d3 d4 d5 d6 d7
        cases v with
        | false =>
          go_wp2_with fail
          go_ret
          exact ⟨false, rfl, Lib.hid (fun h => absurd h (by decide)), B2.out⟩
        | true =>
          have HG : Hid (∀ x, x ∈ [u] → Good n 6 x) := Lib.hid (fun x hx => by rw [List.mem_singleton.1 hx]; exact hv.out rfl)
          obtain ⟨c0, c1, c2, c3, c4, c5, c6, c7⟩ := eight_re X2.out.eight
          go_wp2_with fail
          rw [rounds_succ]
          go_wp2_with fail
          go_ret
          exact ⟨true, rfl, Lib.hid (fun _ => ⟨(fit_mk within 6 f lo (-1) [u] HF.out (by omega) (by omega) (fun _ => HZ4.out) (fun h => absurd rfl h) (fun h => by omega) (fun h => by omega) (fun h => by omega) (fun _ => ⟨rfl, by omega, by omega, by omega⟩) (by first | omega | (simp only [List.length_nil]; omega) | (simp only [List.length_singleton]; omega))), HG.out⟩), B2.out⟩
      · have n5 : (hi == -1) = false := beq_eq_false_iff_ne.2 p5
        go_wp2_with fail
        go_ret
        exact ⟨false, rfl, Lib.hid (fun h => absurd h (by decide)), hB.out⟩
    · skip
      rcases S1.out with ⟨e, _⟩ | ⟨_, b, off, c', cs, e, hc, hBb, h8, hat⟩
      · exact absurd e (by simp)
      simp only [Value.slice.injEq] at e
      obtain ⟨rfl, e1, rfl⟩ := e
      clear e1
      have hT : At W S u (cs 0) := hat 0 (by simp)
      obtain ⟨ai, ci, e, _⟩ := hT.opens
      have E0 : Eight W b off (cs 0) := by have := h8 0 (by simp); rwa [Nat.zero_mul, Nat.add_zero] at this
      rw [e] at E0 hT
      obtain ⟨d0, d1, d2, d3, d4, d5, d6, d7⟩ := eight_re E0
      have HC := Lib.hid (HI.out 6 u _ S d' (deep + 1) W hT (HW.out _ (by simp)) (HN.out _ (by simp)) hdd' (by omega))
      clear e hT h8 hat E0 hc
      go_wp2_with fail
      refine wp_loop_rounds 2 ?_
      rw [rounds_succ]
      go_wp2_with fail
      refine HC.out.mono ?_
      rintro e w2 ⟨v, rfl, hv, b2⟩
      have B2 := Lib.hid (Below.step hB.out b2)
      have X2 := Lib.hid (hX.out.after b2)
      clear b2 c0 c1 c2 c3 c4 c5 c6 c7 d0 d1 d2 d3 d4 d5 d6 d7
      cases v with
      | false =>
        go_wp2_with fail
        go_ret
        exact ⟨false, rfl, Lib.hid (fun h => absurd h (by decide)), B2.out⟩
      | true =>
        have HG : Hid (∀ x, x ∈ [u] → Good n 6 x) := Lib.hid (fun x hx => by rw [List.mem_singleton.1 hx]; exact hv.out rfl)
        obtain ⟨c0, c1, c2, c3, c4, c5, c6, c7⟩ := eight_re X2.out.eight
        go_wp2_with fail
        rw [rounds_succ]
        go_wp2_with fail
        go_ret
        exact ⟨true, rfl, Lib.hid (fun _ => ⟨(fit_mk within 6 f lo hi [u] HF.out (by omega) (by omega) (fun _ => HZ4.out) (fun h => absurd rfl h) (fun h => by omega) (fun h => by omega) (fun h => by omega) (fun _ => ⟨rfl, by omega, by omega, by omega⟩) (by first | omega | (simp only [List.length_nil]; omega) | (simp only [List.length_singleton]; omega))), HG.out⟩), B2.out⟩

set_option maxRecDepth 100000 in
theorem refcan_spec (n : Nat) : CansAt n := by
  induction n with
  | zero =>
    intro within t cs S d deep w h _ _ _ hd
    obtain ⟨a, c, rfl, _⟩ := h.opens
    have hd' : 100 < deep := by omega
    clear h
    go_enter Tryd.func8, Tryd.ntmps8
    go_upto_region 1 with (fail)
    obtain ⟨W, hW, hX, hB, _⟩ := re_box w (reC t.k t.f t.lo t.hi (.slice a t.kids.length c))
    rw [← hW]
    clear hW
    obtain ⟨c0, c1, c2, c3, c4, c5, c6, c7⟩ := eight_re hX.out.eight
    go_wp2_with fail
    go_ret
    exact ⟨false, rfl, Lib.hid (fun h => absurd h (by decide)), hB.out⟩
  | succ n ih =>
    intro within t cs S d deep w h hwf hnd hdd hd
    have HI := Lib.hid ih; clear ih
    obtain ⟨d', rfl⟩ : ∃ d', d = d' + 1 := ⟨d - 1, by omega⟩
    obtain ⟨hlen, hnk⟩ := nodes_kids hnd
    have HN := Lib.hid hnk
    have hdd' : n ≤ d' := by omega
    have hdeep : deep ≤ 100 := by omega
    obtain ⟨sl, rfl, hsl⟩ := h.open
    obtain ⟨a, c, rfl⟩ := hsl.shape
    clear h hnd hdd hnk
    obtain ⟨k, f, lo, hi, l, hf, _, hk⟩ := hwf
    have HF := Lib.hid hf
    have HW := Lib.hid hk
    clear hf hk
    simp only [Tree.k, Tree.f, Tree.lo, Tree.hi, Tree.kids] at hlen HN hsl ⊢
    by_cases kk : k = 0 ∨ k = 1 ∨ k = 2 ∨ k = 3 ∨ k = 4 ∨ k = 5 ∨ k = 6
    · rcases kk with rfl | rfl | rfl | rfl | rfl | rfl | rfl
      · exact can_0 n within f lo hi l a c S d' deep w hsl HF HW HN hlen hd
      · exact can_1 n within f lo hi l a c S d' deep w hsl HF HW HN hlen hd
      · exact can_2 n within f lo hi l a c S d' deep w hsl HF HW HN hlen hd
      · exact can_3 n within f lo hi l a c S d' deep w hsl HF HW HN hlen hd
      · exact can_4 n HI within f lo hi l a c S d' deep w hsl HF HW HN hlen hdd' hd
      · exact can_5 n HI within f lo hi l a c S d' deep w hsl HF HW HN hlen hdd' hd
      · exact can_6 n HI within f lo hi l a c S d' deep w hsl HF HW HN hlen hdd' hd
    · by_cases k0 : k < 0
      · go_enter Tryd.func8, Tryd.ntmps8
        go_upto_region 1 with (fail)
        obtain ⟨W, hW, hX, hB, _⟩ := re_box w (reC k f lo hi (.slice a l.length c))
        rw [← hW]
        clear hW
        obtain ⟨c0, c1, c2, c3, c4, c5, c6, c7⟩ := eight_re hX.out.eight
        go_wp2_with fail
        go_ret
        exact ⟨false, rfl, Lib.hid (fun h => absurd h (by decide)), hB.out⟩
      · have k6 : 6 < k := by omega
        clear kk
        go_enter Tryd.func8, Tryd.ntmps8
        go_upto_region 1 with (fail)
        obtain ⟨W, hW, hX, hB, _⟩ := re_box w (reC k f lo hi (.slice a l.length c))
        rw [← hW]
        clear hW
        obtain ⟨c0, c1, c2, c3, c4, c5, c6, c7⟩ := eight_re hX.out.eight
        go_wp2_with fail
        go_ret
        exact ⟨false, rfl, Lib.hid (fun h => absurd h (by decide)), hB.out⟩
end Go.Proofs.YtdhndfmblmcapaaDoor
