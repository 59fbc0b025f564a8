/- Merged by program: RCan, RCount. -/
import Derived.Test.YtcojnkjcbopnbaaGreatDoorQjau
/- aukletref05.Can at a tree that was read: an answer (made by gen_rcan.py). -/
namespace Go.Proofs.YtcojnkjcbopnbaaGreatDoor
open Go.RowKit

def RAns (w : World) (e : Ending) (w' : World) : Prop := ∃ b : Bool, e = .returned (.bool b) ∧ Below w.heap.size w w'
def RCansAt (n : Nat) : Prop :=
  ∀ (within : Int) (t : Tree) (cs : Array Value) (S : Nat → Prop) (deep : Nat) (w : World), At w S t cs → Fine within t → deep + n = 101 →
    Calls Tryz.prog 72 #[.agg cs, .int .i64 within, .int .i64 deep] w (RAns w)

set_option maxRecDepth 100000 in
set_option maxHeartbeats 4000000 in
theorem rcan_0 (within : Int) (f : Nat → Nat) (a : Option Addr) (c deep : Nat) (w : World) (HZ : Hid (∀ i, i < 4 → f i = zero4 i)) (hw : within ≠ 4) (hdeep : deep ≤ 100) :
    Calls Tryz.prog 72 #[.agg (reC 0 f 0 0 (.slice a 0 c)), .int .i64 within, .int .i64 deep] w (RAns w) := by
  have hq : ∀ w, (Op.equalIn 10000 65 (.agg #[.int .u64 (f 0), .int .u64 (f 1), .int .u64 (f 2), .int .u64 (f 3)]) (.agg #[.int .u64 0, .int .u64 0, .int .u64 0, .int .u64 0])).run Tryz.prog w = .ok true w :=
    fun w => equal_words f zero4 w true ⟨fun _ i hi => HZ.out i hi, fun _ => rfl⟩
  have nw : (within == 4) = false := beq_eq_false_iff_ne.2 hw
  go_enter Tryz.func72, Tryz.ntmps72
  go_upto_region 1 with (fail)
  obtain ⟨W, hW, hX, hB, _⟩ := re_box w (reC 0 f 0 0 (.slice a 0 c))
  rw [← hW]
  clear hW
  obtain ⟨c0, c1, c2, c3, c4, c5, c6, c7⟩ := eight_re hX.out.eight
  go_wp2_with fail
  refine wp_loop_rounds 1 ?_
  rw [rounds_succ]
  go_wp2_with fail
  go_ret
  exact ⟨true, rfl, hB.out⟩

set_option maxRecDepth 100000 in
set_option maxHeartbeats 4000000 in
theorem rcan_1 (within : Int) (f : Nat → Nat) (a : Option Addr) (c deep : Nat) (w : World) (hdeep : deep ≤ 100) :
    Calls Tryz.prog 72 #[.agg (reC 1 f 0 0 (.slice a 0 c)), .int .i64 within, .int .i64 deep] w (RAns w) := by
  go_enter Tryz.func72, Tryz.ntmps72
  go_upto_region 1 with (fail)
  obtain ⟨W, hW, hX, hB, _⟩ := re_box w (reC 1 f 0 0 (.slice a 0 c))
  rw [← hW]
  clear hW
  obtain ⟨c0, c1, c2, c3, c4, c5, c6, c7⟩ := eight_re hX.out.eight
  go_wp2_with fail
  refine wp_loop_rounds 1 ?_
  rw [rounds_succ]
  go_wp2_with fail
  go_ret
  exact ⟨true, rfl, hB.out⟩

set_option maxRecDepth 100000 in
set_option maxHeartbeats 4000000 in
theorem rcan_2 (within : Int) (f : Nat → Nat) (a : Option Addr) (c deep : Nat) (w : World) (HZ : Hid (∀ i, i < 4 → f i = zero4 i)) (hdeep : deep ≤ 100) :
    Calls Tryz.prog 72 #[.agg (reC 2 f 0 0 (.slice a 0 c)), .int .i64 within, .int .i64 deep] w (RAns w) := by
  have hq : ∀ w, (Op.equalIn 10000 65 (.agg #[.int .u64 (f 0), .int .u64 (f 1), .int .u64 (f 2), .int .u64 (f 3)]) (.agg #[.int .u64 0, .int .u64 0, .int .u64 0, .int .u64 0])).run Tryz.prog w = .ok true w :=
    fun w => equal_words f zero4 w true ⟨fun _ i hi => HZ.out i hi, fun _ => rfl⟩
  go_enter Tryz.func72, Tryz.ntmps72
  go_upto_region 1 with (fail)
  obtain ⟨W, hW, hX, hB, _⟩ := re_box w (reC 2 f 0 0 (.slice a 0 c))
  rw [← hW]
  clear hW
  obtain ⟨c0, c1, c2, c3, c4, c5, c6, c7⟩ := eight_re hX.out.eight
  go_wp2_with fail
  refine wp_loop_rounds 1 ?_
  rw [rounds_succ]
  go_wp2_with fail
  go_ret
  exact ⟨true, rfl, hB.out⟩

set_option maxRecDepth 100000 in
set_option maxHeartbeats 4000000 in
theorem rcan_3 (within : Int) (f : Nat → Nat) (a : Option Addr) (c deep : Nat) (w : World) (HZ : Hid (∀ i, i < 4 → f i = zero4 i)) (hdeep : deep ≤ 100) :
    Calls Tryz.prog 72 #[.agg (reC 3 f 0 0 (.slice a 0 c)), .int .i64 within, .int .i64 deep] w (RAns w) := by
  have hq : ∀ w, (Op.equalIn 10000 65 (.agg #[.int .u64 (f 0), .int .u64 (f 1), .int .u64 (f 2), .int .u64 (f 3)]) (.agg #[.int .u64 0, .int .u64 0, .int .u64 0, .int .u64 0])).run Tryz.prog w = .ok true w :=
    fun w => equal_words f zero4 w true ⟨fun _ i hi => HZ.out i hi, fun _ => rfl⟩
  go_enter Tryz.func72, Tryz.ntmps72
  go_upto_region 1 with (fail)
  obtain ⟨W, hW, hX, hB, _⟩ := re_box w (reC 3 f 0 0 (.slice a 0 c))
  rw [← hW]
  clear hW
  obtain ⟨c0, c1, c2, c3, c4, c5, c6, c7⟩ := eight_re hX.out.eight
  go_wp2_with fail
  refine wp_loop_rounds 1 ?_
  rw [rounds_succ]
  go_wp2_with fail
  go_ret
  exact ⟨true, rfl, hB.out⟩

set_option maxRecDepth 100000 in
set_option maxHeartbeats 8000000 in
theorem rcan_4 (n : Nat) (HI : Hid (RCansAt n)) (within : Int) (f : Nat → Nat) (l : List Tree) (a : Option Addr) (c : Nat) (S : Nat → Prop) (deep : Nat) (w : World) (hsl : SlAt w S l (.slice a l.length c)) (HZ : Hid (∀ i, i < 4 → f i = zero4 i)) (HK : Hid (∀ x, x ∈ l → Fine 4 x)) (hw : 4 ≠ within) (h2 : 2 ≤ l.length) (hl : l.length ≤ 1000000) (hd : deep + (n + 1) = 101) :
    Calls Tryz.prog 72 #[.agg (reC 4 f 0 0 (.slice a l.length c)), .int .i64 within, .int .i64 deep] w (RAns w) := by
  have hdeep : deep ≤ 100 := by omega
  have hq : ∀ w, (Op.equalIn 10000 65 (.agg #[.int .u64 (f 0), .int .u64 (f 1), .int .u64 (f 2), .int .u64 (f 3)]) (.agg #[.int .u64 0, .int .u64 0, .int .u64 0, .int .u64 0])).run Tryz.prog w = .ok true w :=
    fun w => equal_words f zero4 w true ⟨fun _ i hi => HZ.out i hi, fun _ => rfl⟩
  have nw : ((4 : Int) == within) = false := beq_eq_false_iff_ne.2 hw
  go_enter Tryz.func72, Tryz.ntmps72
  go_upto_region 1 with (fail)
  obtain ⟨W, hW, hX, hB, _⟩ := re_box w (reC 4 f 0 0 (.slice a l.length c))
  rw [← hW]
  clear hW
  have S1 := Lib.hid (hsl.after hB.out)
  clear hsl
  obtain ⟨c0, c1, c2, c3, c4, c5, c6, c7⟩ := eight_re hX.out.eight
  go_wp2_with fail
  go_loopw [8] (fun y wr => ∃ i : Nat, y = .int .i64 i ∧ i ≤ l.length ∧ Hid (Below W.heap.size W wr)) (fun y _ => l.length - (intOf y).toNat)
  case atStart => exact ⟨0, rfl, by omega, Lib.hid (Below.refl _ _)⟩
  case round =>
    obtain ⟨i, rfl, hi', hb⟩ := hrel
    clear c0 c1 c2 c3 c4 c5 c6 c7
    have X1 := Lib.hid (hX.out.after hb.out)
    obtain ⟨c0, c1, c2, c3, c4, c5, c6, c7⟩ := eight_re X1.out.eight
    by_cases hgo : i < l.length
    · rcases S1.out with ⟨e, _⟩ | ⟨hl', b, off, c', cs, e, hc, hBb, h8, hat⟩
      · first | exact absurd e (by simp) | (rw [e] at hgo; exact absurd hgo (by simp))
      · simp only [Value.slice.injEq] at e
        obtain ⟨rfl, _, rfl⟩ := e
        have hT := hat i hgo
        have hT' := hT.after hb.out
        obtain ⟨ai, ci, e, _⟩ := hT.opens
        have h8i := (h8 i hgo).after hT.size hb.out
        rw [e] at h8i hT'
        obtain ⟨d0, d1, d2, d3, d4, d5, d6, d7⟩ := eight_re h8i
        have HC := Lib.hid (HI.out 4 l[i] _ S (deep + 1) _ hT' (HK.out _ (List.getElem_mem hgo)) (by omega))
        have hcl : l.length ≤ c := hc
        clear e hT hT' h8 hat h8i hc
        go_wp2_with fail
        refine HC.out.mono ?_
        rintro e w2 ⟨v, rfl, b2⟩
        have B2 := Lib.hid (Below.step hb.out b2)
        clear b2
        cases v with
        | false =>
          go_wp2_with fail
          go_ret
          exact ⟨false, rfl, Below.step hB.out B2.out⟩
        | true =>
          go_wp2_with fail
          go_roundw
          case rel => exact ⟨i + 1, by go_num, by omega, B2⟩
          case measure => simp [intOf]; omega
    · go_wp2_with fail
      go_ret
      exact ⟨true, rfl, Below.step hB.out hb.out⟩

set_option maxRecDepth 100000 in
set_option maxHeartbeats 8000000 in
theorem rcan_5 (n : Nat) (HI : Hid (RCansAt n)) (within : Int) (f : Nat → Nat) (l : List Tree) (a : Option Addr) (c : Nat) (S : Nat → Prop) (deep : Nat) (w : World) (hsl : SlAt w S l (.slice a l.length c)) (HZ : Hid (∀ i, i < 4 → f i = zero4 i)) (HK : Hid (∀ x, x ∈ l → Fine 5 x)) (hw : 5 ≠ within) (h2 : 2 ≤ l.length) (hl : l.length ≤ 1000000) (hd : deep + (n + 1) = 101) :
    Calls Tryz.prog 72 #[.agg (reC 5 f 0 0 (.slice a l.length c)), .int .i64 within, .int .i64 deep] w (RAns w) := by
  have hdeep : deep ≤ 100 := by omega
  have hq : ∀ w, (Op.equalIn 10000 65 (.agg #[.int .u64 (f 0), .int .u64 (f 1), .int .u64 (f 2), .int .u64 (f 3)]) (.agg #[.int .u64 0, .int .u64 0, .int .u64 0, .int .u64 0])).run Tryz.prog w = .ok true w :=
    fun w => equal_words f zero4 w true ⟨fun _ i hi => HZ.out i hi, fun _ => rfl⟩
  have nw : ((5 : Int) == within) = false := beq_eq_false_iff_ne.2 hw
  go_enter Tryz.func72, Tryz.ntmps72
  go_upto_region 1 with (fail)
  obtain ⟨W, hW, hX, hB, _⟩ := re_box w (reC 5 f 0 0 (.slice a l.length c))
  rw [← hW]
  clear hW
  have S1 := Lib.hid (hsl.after hB.out)
  clear hsl
  obtain ⟨c0, c1, c2, c3, c4, c5, c6, c7⟩ := eight_re hX.out.eight
  go_wp2_with fail
  go_loopw [8] (fun y wr => ∃ i : Nat, y = .int .i64 i ∧ i ≤ l.length ∧ Hid (Below W.heap.size W wr)) (fun y _ => l.length - (intOf y).toNat)
  case atStart => exact ⟨0, rfl, by omega, Lib.hid (Below.refl _ _)⟩
  case round =>
    obtain ⟨i, rfl, hi', hb⟩ := hrel
    clear c0 c1 c2 c3 c4 c5 c6 c7
    have X1 := Lib.hid (hX.out.after hb.out)
    obtain ⟨c0, c1, c2, c3, c4, c5, c6, c7⟩ := eight_re X1.out.eight
    by_cases hgo : i < l.length
    · rcases S1.out with ⟨e, _⟩ | ⟨hl', b, off, c', cs, e, hc, hBb, h8, hat⟩
      · first | exact absurd e (by simp) | (rw [e] at hgo; exact absurd hgo (by simp))
      · simp only [Value.slice.injEq] at e
        obtain ⟨rfl, _, rfl⟩ := e
        have hT := hat i hgo
        have hT' := hT.after hb.out
        obtain ⟨ai, ci, e, _⟩ := hT.opens
        have h8i := (h8 i hgo).after hT.size hb.out
        rw [e] at h8i hT'
        obtain ⟨d0, d1, d2, d3, d4, d5, d6, d7⟩ := eight_re h8i
        have HC := Lib.hid (HI.out 5 l[i] _ S (deep + 1) _ hT' (HK.out _ (List.getElem_mem hgo)) (by omega))
        have hcl : l.length ≤ c := hc
        clear e hT hT' h8 hat h8i hc
        go_wp2_with fail
        refine HC.out.mono ?_
        rintro e w2 ⟨v, rfl, b2⟩
        have B2 := Lib.hid (Below.step hb.out b2)
        clear b2
        cases v with
        | false =>
          go_wp2_with fail
          go_ret
          exact ⟨false, rfl, Below.step hB.out B2.out⟩
        | true =>
          go_wp2_with fail
          go_roundw
          case rel => exact ⟨i + 1, by go_num, by omega, B2⟩
          case measure => simp [intOf]; omega
    · go_wp2_with fail
      go_ret
      exact ⟨true, rfl, Below.step hB.out hb.out⟩

set_option maxRecDepth 100000 in
set_option maxHeartbeats 8000000 in
theorem rcan_6 (n : Nat) (HI : Hid (RCansAt n)) (within : Int) (f : Nat → Nat) (l : List Tree) (a : Option Addr) (c : Nat) (S : Nat → Prop) (deep : Nat) (w : World) (hsl : SlAt w S l (.slice a l.length c)) (HZ : Hid (∀ i, i < 4 → f i = zero4 i)) (HK : Hid (∀ x, x ∈ l → Fine 6 x)) (lo hi : Int) (hl1 : l.length = 1) (h0 : 0 ≤ lo) (h50 : lo ≤ 50) (hh : hi = -1 ∨ (lo ≤ hi ∧ hi ≤ 50)) (hd : deep + (n + 1) = 101) :
    Calls Tryz.prog 72 #[.agg (reC 6 f lo hi (.slice a l.length c)), .int .i64 within, .int .i64 deep] w (RAns w) := by
  have hdeep : deep ≤ 100 := by omega
  have hq : ∀ w, (Op.equalIn 10000 65 (.agg #[.int .u64 (f 0), .int .u64 (f 1), .int .u64 (f 2), .int .u64 (f 3)]) (.agg #[.int .u64 0, .int .u64 0, .int .u64 0, .int .u64 0])).run Tryz.prog w = .ok true w :=
    fun w => equal_words f zero4 w true ⟨fun _ i hi => HZ.out i hi, fun _ => rfl⟩
  have HL1 := Lib.hid hl1
  have hne : ((l.length : Int) != 1) = false := by rw [hl1]; rfl
  have hl : l.length ≤ 1000000 := by omega
  clear hl1
  go_enter Tryz.func72, Tryz.ntmps72
  go_upto_region 1 with (fail)
  obtain ⟨W, hW, hX, hB, _⟩ := re_box w (reC 6 f lo hi (.slice a l.length c))
  rw [← hW]
  clear hW
  have S1 := Lib.hid (hsl.after hB.out)
  clear hsl
  obtain ⟨c0, c1, c2, c3, c4, c5, c6, c7⟩ := eight_re hX.out.eight
  rcases hh with rfl | ⟨hh1, hh2⟩
  · go_wp2_with fail
    go_loopw [8] (fun y wr => ∃ i : Nat, y = .int .i64 i ∧ i ≤ l.length ∧ Hid (Below W.heap.size W wr)) (fun y _ => l.length - (intOf y).toNat)
    case atStart => exact ⟨0, rfl, by omega, Lib.hid (Below.refl _ _)⟩
    case round =>
      obtain ⟨i, rfl, hi', hb⟩ := hrel
      clear c0 c1 c2 c3 c4 c5 c6 c7
      have X1 := Lib.hid (hX.out.after hb.out)
      obtain ⟨c0, c1, c2, c3, c4, c5, c6, c7⟩ := eight_re X1.out.eight
      by_cases hgo : i < l.length
      · rcases S1.out with ⟨e, _⟩ | ⟨hl', b, off, c', cs, e, hc, hBb, h8, hat⟩
        · first | exact absurd e (by simp) | (rw [e] at hgo; exact absurd hgo (by simp))
        · simp only [Value.slice.injEq] at e
          obtain ⟨rfl, _, rfl⟩ := e
          have hT := hat i hgo
          have hT' := hT.after hb.out
          obtain ⟨ai, ci, e, _⟩ := hT.opens
          have h8i := (h8 i hgo).after hT.size hb.out
          rw [e] at h8i hT'
          obtain ⟨d0, d1, d2, d3, d4, d5, d6, d7⟩ := eight_re h8i
          have HC := Lib.hid (HI.out 6 l[i] _ S (deep + 1) _ hT' (HK.out _ (List.getElem_mem hgo)) (by omega))
          have hcl : l.length ≤ c := hc
          clear e hT hT' h8 hat h8i hc
          go_wp2_with fail
          refine HC.out.mono ?_
          rintro e w2 ⟨v, rfl, b2⟩
          have B2 := Lib.hid (Below.step hb.out b2)
          clear b2
          cases v with
          | false =>
            go_wp2_with fail
            go_ret
            exact ⟨false, rfl, Below.step hB.out B2.out⟩
          | true =>
            go_wp2_with fail
            go_roundw
            case rel => exact ⟨i + 1, by go_num, by omega, B2⟩
            case measure => simp [intOf]; omega
      · go_wp2_with fail
        go_ret
        exact ⟨true, rfl, Below.step hB.out hb.out⟩
  · have nh : ¬ hi < lo := by omega
    go_wp2_with fail
    go_loopw [8] (fun y wr => ∃ i : Nat, y = .int .i64 i ∧ i ≤ l.length ∧ Hid (Below W.heap.size W wr)) (fun y _ => l.length - (intOf y).toNat)
    case atStart => exact ⟨0, rfl, by omega, Lib.hid (Below.refl _ _)⟩
    case round =>
      obtain ⟨i, rfl, hi', hb⟩ := hrel
      clear c0 c1 c2 c3 c4 c5 c6 c7
      have X1 := Lib.hid (hX.out.after hb.out)
      obtain ⟨c0, c1, c2, c3, c4, c5, c6, c7⟩ := eight_re X1.out.eight
      by_cases hgo : i < l.length
      · rcases S1.out with ⟨e, _⟩ | ⟨hl', b, off, c', cs, e, hc, hBb, h8, hat⟩
        · first | exact absurd e (by simp) | (rw [e] at hgo; exact absurd hgo (by simp))
        · simp only [Value.slice.injEq] at e
          obtain ⟨rfl, _, rfl⟩ := e
          have hT := hat i hgo
          have hT' := hT.after hb.out
          obtain ⟨ai, ci, e, _⟩ := hT.opens
          have h8i := (h8 i hgo).after hT.size hb.out
          rw [e] at h8i hT'
          obtain ⟨d0, d1, d2, d3, d4, d5, d6, d7⟩ := eight_re h8i
          have HC := Lib.hid (HI.out 6 l[i] _ S (deep + 1) _ hT' (HK.out _ (List.getElem_mem hgo)) (by omega))
          have hcl : l.length ≤ c := hc
          clear e hT hT' h8 hat h8i hc
          go_wp2_with fail
          refine HC.out.mono ?_
          rintro e w2 ⟨v, rfl, b2⟩
          have B2 := Lib.hid (Below.step hb.out b2)
          clear b2
          cases v with
          | false =>
            go_wp2_with fail
            go_ret
            exact ⟨false, rfl, Below.step hB.out B2.out⟩
          | true =>
            go_wp2_with fail
            go_roundw
            case rel => exact ⟨i + 1, by go_num, by omega, B2⟩
            case measure => simp [intOf]; omega
      · go_wp2_with fail
        go_ret
        exact ⟨true, rfl, Below.step hB.out hb.out⟩

set_option maxRecDepth 100000 in
theorem rcan_any (n : Nat) : RCansAt n := by
  induction n with
  | zero =>
    intro within t cs S deep w h _ hd
    obtain ⟨a, c, rfl, _⟩ := h.opens
    have hd' : 100 < deep := by omega
    clear h
    go_enter Tryz.func72, Tryz.ntmps72
    go_upto_region 1 with (fail)
    obtain ⟨W, hW, hX, hB, _⟩ := re_box w (reC t.k t.f t.lo t.hi (.slice a t.kids.length c))
    rw [← hW]
    clear hW
    obtain ⟨c0, c1, c2, c3, c4, c5, c6, c7⟩ := eight_re hX.out.eight
    go_wp2_with fail
    go_ret
    exact ⟨false, rfl, hB.out⟩
  | succ n ih =>
    intro within t cs S deep w h hf hd
    have HI := Lib.hid ih; clear ih
    have hdeep : deep ≤ 100 := by omega
    obtain ⟨sl, rfl, hsl⟩ := h.open
    obtain ⟨a, c, rfl⟩ := hsl.shape
    clear h
    have ft := hf.fit
    have HK := Lib.hid hf.kid
    clear hf
    obtain ⟨k, f, lo, hi, l⟩ := t
    simp only [Tree.k, Tree.f, Tree.lo, Tree.hi, Tree.kids] at HK hsl ⊢
    have h0 : (0 : Int) ≤ k := ft.k0
    have h6 : k ≤ 6 := ft.k6
    have hz : k ≠ 1 → Hid (∀ i, i < 4 → f i = zero4 i) := fun h => Lib.hid (fun i hi => ft.set h i hi)
    have ht : k ≠ 6 → lo = 0 ∧ hi = 0 := ft.times
    have hal : k < 4 → l = [] := ft.alone
    have hpt : k = 4 ∨ k = 5 → k ≠ within ∧ 2 ≤ l.length := ft.parts
    have hem : k = 0 → within ≠ 4 := ft.empty
    have hrp : k = 6 → l.length = 1 ∧ 0 ≤ lo ∧ lo ≤ 50 ∧ (hi = -1 ∨ (lo ≤ hi ∧ hi ≤ 50)) := ft.rep
    have hfew : l.length ≤ 1000000 := ft.few
    have kk : k = 0 ∨ k = 1 ∨ k = 2 ∨ k = 3 ∨ k = 4 ∨ k = 5 ∨ k = 6 := by omega
    rcases kk with rfl | rfl | rfl | rfl | rfl | rfl | rfl
    · obtain ⟨rfl, rfl⟩ := ht (by omega); obtain rfl := hal (by omega); exact rcan_0 within f a c deep w (hz (by omega)) (hem rfl) hdeep
    · obtain ⟨rfl, rfl⟩ := ht (by omega); obtain rfl := hal (by omega); exact rcan_1 within f a c deep w hdeep
    · obtain ⟨rfl, rfl⟩ := ht (by omega); obtain rfl := hal (by omega); exact rcan_2 within f a c deep w (hz (by omega)) hdeep
    · obtain ⟨rfl, rfl⟩ := ht (by omega); obtain rfl := hal (by omega); exact rcan_3 within f a c deep w (hz (by omega)) hdeep
    · obtain ⟨rfl, rfl⟩ := ht (by omega); exact rcan_4 n HI within f l a c S deep w hsl (hz (by omega)) HK (hpt (Or.inl rfl)).1 (hpt (Or.inl rfl)).2 hfew hd
    · obtain ⟨rfl, rfl⟩ := ht (by omega); exact rcan_5 n HI within f l a c S deep w hsl (hz (by omega)) HK (hpt (Or.inr rfl)).1 (hpt (Or.inr rfl)).2 hfew hd
    · obtain ⟨r1, r2, r3, r4⟩ := hrp rfl; exact rcan_6 n HI within f l a c S deep w hsl (hz (by omega)) HK lo hi r1 r2 r3 r4 hd
end Go.Proofs.YtcojnkjcbopnbaaGreatDoor

/- aukletref06.count, States at a tree that was read: a number (made by gen_rcount.py). -/
namespace Go.Proofs.YtcojnkjcbopnbaaGreatDoor
open Go.RowKit

def NAns (w : World) (e : Ending) (w' : World) : Prop := ∃ n : Int, e = .returned (.int .i64 n) ∧ 0 ≤ n ∧ n ≤ 1000 ∧ Below w.heap.size w w'

set_option maxRecDepth 100000 in
set_option maxHeartbeats 8000000 in
theorem rcount_leaf (k : Int) (h1 : 1 ≤ k) (h3 : k ≤ 3) (f : Nat → Nat) (lo hi : Int) (a : Option Addr) (n c : Nat) (w : World) :
    Calls Tryz.prog 73 #[.agg (reC k f lo hi (.slice a n c))] w (NAns w) := by
  go_enter Tryz.func73, Tryz.ntmps73
  go_upto_region 1 with (fail)
  obtain ⟨W, hW, hX, hB, _⟩ := re_box w (reC k f lo hi (.slice a n c))
  rw [← hW]
  clear hW
  obtain ⟨c0, c1, c2, c3, c4, c5, c6, c7⟩ := eight_re hX.out.eight
  go_wp2_with fail
  go_ret
  exact ⟨1, rfl, by omega, by omega, hB.out⟩

set_option maxRecDepth 100000 in
set_option maxHeartbeats 8000000 in
theorem rcount_0 (f : Nat → Nat) (lo hi : Int) (l : List Tree) (a : Option Addr) (c : Nat) (S : Nat → Prop) (w : World) (hsl : SlAt w S l (.slice a l.length c)) (hfew : l.length ≤ 1000000)
    (HI : Hid (∀ x, x ∈ l → ∀ (cs : Array Value) (S : Nat → Prop) (w : World), At w S x cs → Calls Tryz.prog 73 #[.agg cs] w (NAns w))) :
    Calls Tryz.prog 73 #[.agg (reC 0 f lo hi (.slice a l.length c))] w (NAns w) := by
  go_enter Tryz.func73, Tryz.ntmps73
  go_upto_region 1 with (fail)
  obtain ⟨W, hW, hX, hB, _⟩ := re_box w (reC 0 f lo hi (.slice a l.length c))
  rw [← hW]
  clear hW
  have S1 := Lib.hid (hsl.after hB.out)
  clear hsl
  obtain ⟨c0, c1, c2, c3, c4, c5, c6, c7⟩ := eight_re hX.out.eight
  go_wp2_with fail
  go_loopw [3, 4] (fun x y wr => ∃ (n : Int) (i : Nat), x = .int .i64 n ∧ y = .int .i64 i ∧ i ≤ l.length ∧ 0 ≤ n ∧ n ≤ 500 ∧ Hid (Below W.heap.size W wr)) (fun _ y _ => l.length - (intOf y).toNat)
  case atStart => exact ⟨0, 0, rfl, rfl, by omega, by omega, by omega, Lib.hid (Below.refl _ _)⟩
  case round =>
    obtain ⟨n, i, rfl, rfl, hi', hn0, hn5, hb⟩ := hrel
    clear c0 c1 c2 c3 c4 c5 c6 c7
    have X1 := Lib.hid (hX.out.after hb.out)
    obtain ⟨c0, c1, c2, c3, c4, c5, c6, c7⟩ := eight_re X1.out.eight
    by_cases hgo : i < l.length
    · rcases S1.out with ⟨e, _⟩ | ⟨hl', b, off, c', cs, e, hc, hBb, h8, hat⟩
      · first | exact absurd e (by simp) | (rw [e] at hgo; exact absurd hgo (by simp))
      · simp only [Value.slice.injEq] at e
        obtain ⟨rfl, _, rfl⟩ := e
        have hT := hat i hgo
        have hT' := hT.after hb.out
        obtain ⟨ai, ci, e, _⟩ := hT.opens
        have h8i := (h8 i hgo).after hT.size hb.out
        rw [e] at h8i hT'
        obtain ⟨d0, d1, d2, d3, d4, d5, d6, d7⟩ := eight_re h8i
        have HC := Lib.hid (HI.out l[i] (List.getElem_mem hgo) _ S _ hT')
        have hcl : l.length ≤ c := hc
        clear e hT hT' h8 hat h8i hc
        go_wp2_with fail
        refine HC.out.mono ?_
        rintro e w2 ⟨v, rfl, hv0, hv1, b2⟩
        have B2 := Lib.hid (Below.step hb.out b2)
        clear b2
        by_cases h500 : 500 < n + v
        · have hdd : decide (500 < n + v) = true := decide_eq_true h500
          go_wp2_with fail
          go_ret
          exact ⟨1000, rfl, by omega, by omega, Below.step hB.out B2.out⟩
        · have hdd : decide (500 < n + v) = false := decide_eq_false h500
          go_wp2_with fail
          go_roundw
          case rel => exact ⟨n + v, i + 1, rfl, by go_num, by omega, by omega, by omega, B2⟩
          case measure => simp [intOf]; omega
    · obtain rfl : i = l.length := by omega
      go_wp2_with fail
      go_ret
      exact ⟨n, rfl, by omega, by omega, Below.step hB.out hb.out⟩

set_option maxRecDepth 100000 in
set_option maxHeartbeats 8000000 in
theorem rcount_4 (f : Nat → Nat) (lo hi : Int) (l : List Tree) (a : Option Addr) (c : Nat) (S : Nat → Prop) (w : World) (hsl : SlAt w S l (.slice a l.length c)) (hfew : l.length ≤ 1000000)
    (HI : Hid (∀ x, x ∈ l → ∀ (cs : Array Value) (S : Nat → Prop) (w : World), At w S x cs → Calls Tryz.prog 73 #[.agg cs] w (NAns w))) :
    Calls Tryz.prog 73 #[.agg (reC 4 f lo hi (.slice a l.length c))] w (NAns w) := by
  go_enter Tryz.func73, Tryz.ntmps73
  go_upto_region 1 with (fail)
  obtain ⟨W, hW, hX, hB, _⟩ := re_box w (reC 4 f lo hi (.slice a l.length c))
  rw [← hW]
  clear hW
  have S1 := Lib.hid (hsl.after hB.out)
  clear hsl
  obtain ⟨c0, c1, c2, c3, c4, c5, c6, c7⟩ := eight_re hX.out.eight
  go_wp2_with fail
  go_loopw [3, 4] (fun x y wr => ∃ (n : Int) (i : Nat), x = .int .i64 n ∧ y = .int .i64 i ∧ i ≤ l.length ∧ 0 ≤ n ∧ n ≤ 500 ∧ Hid (Below W.heap.size W wr)) (fun _ y _ => l.length - (intOf y).toNat)
  case atStart => exact ⟨0, 0, rfl, rfl, by omega, by omega, by omega, Lib.hid (Below.refl _ _)⟩
  case round =>
    obtain ⟨n, i, rfl, rfl, hi', hn0, hn5, hb⟩ := hrel
    clear c0 c1 c2 c3 c4 c5 c6 c7
    have X1 := Lib.hid (hX.out.after hb.out)
    obtain ⟨c0, c1, c2, c3, c4, c5, c6, c7⟩ := eight_re X1.out.eight
    by_cases hgo : i < l.length
    · rcases S1.out with ⟨e, _⟩ | ⟨hl', b, off, c', cs, e, hc, hBb, h8, hat⟩
      · first | exact absurd e (by simp) | (rw [e] at hgo; exact absurd hgo (by simp))
      · simp only [Value.slice.injEq] at e
        obtain ⟨rfl, _, rfl⟩ := e
        have hT := hat i hgo
        have hT' := hT.after hb.out
        obtain ⟨ai, ci, e, _⟩ := hT.opens
        have h8i := (h8 i hgo).after hT.size hb.out
        rw [e] at h8i hT'
        obtain ⟨d0, d1, d2, d3, d4, d5, d6, d7⟩ := eight_re h8i
        have HC := Lib.hid (HI.out l[i] (List.getElem_mem hgo) _ S _ hT')
        have hcl : l.length ≤ c := hc
        clear e hT hT' h8 hat h8i hc
        go_wp2_with fail
        refine HC.out.mono ?_
        rintro e w2 ⟨v, rfl, hv0, hv1, b2⟩
        have B2 := Lib.hid (Below.step hb.out b2)
        clear b2
        by_cases h500 : 500 < n + v
        · have hdd : decide (500 < n + v) = true := decide_eq_true h500
          go_wp2_with fail
          go_ret
          exact ⟨1000, rfl, by omega, by omega, Below.step hB.out B2.out⟩
        · have hdd : decide (500 < n + v) = false := decide_eq_false h500
          go_wp2_with fail
          go_roundw
          case rel => exact ⟨n + v, i + 1, rfl, by go_num, by omega, by omega, by omega, B2⟩
          case measure => simp [intOf]; omega
    · obtain rfl : i = l.length := by omega
      go_wp2_with fail
      go_ret
      exact ⟨n, rfl, by omega, by omega, Below.step hB.out hb.out⟩

set_option maxRecDepth 100000 in
set_option maxHeartbeats 8000000 in
theorem rcount_5 (f : Nat → Nat) (lo hi : Int) (l : List Tree) (a : Option Addr) (c : Nat) (S : Nat → Prop) (w : World) (hsl : SlAt w S l (.slice a l.length c)) (h2 : 2 ≤ l.length) (hfew : l.length ≤ 1000000)
    (HI : Hid (∀ x, x ∈ l → ∀ (cs : Array Value) (S : Nat → Prop) (w : World), At w S x cs → Calls Tryz.prog 73 #[.agg cs] w (NAns w))) :
    Calls Tryz.prog 73 #[.agg (reC 5 f lo hi (.slice a l.length c))] w (NAns w) := by
  go_enter Tryz.func73, Tryz.ntmps73
  go_upto_region 1 with (fail)
  obtain ⟨W, hW, hX, hB, _⟩ := re_box w (reC 5 f lo hi (.slice a l.length c))
  rw [← hW]
  clear hW
  have S1 := Lib.hid (hsl.after hB.out)
  clear hsl
  obtain ⟨c0, c1, c2, c3, c4, c5, c6, c7⟩ := eight_re hX.out.eight
  go_wp2_with fail
  go_loopw [3, 4] (fun x y wr => ∃ (n : Int) (i : Nat), x = .int .i64 n ∧ y = .int .i64 i ∧ i ≤ l.length ∧ 0 ≤ n ∧ n ≤ 500 ∧ Hid (Below W.heap.size W wr)) (fun _ y _ => l.length - (intOf y).toNat)
  case atStart => exact ⟨0, 0, rfl, rfl, by omega, by omega, by omega, Lib.hid (Below.refl _ _)⟩
  case round =>
    obtain ⟨n, i, rfl, rfl, hi', hn0, hn5, hb⟩ := hrel
    clear c0 c1 c2 c3 c4 c5 c6 c7
    have X1 := Lib.hid (hX.out.after hb.out)
    obtain ⟨c0, c1, c2, c3, c4, c5, c6, c7⟩ := eight_re X1.out.eight
    by_cases hgo : i < l.length
    · rcases S1.out with ⟨e, _⟩ | ⟨hl', b, off, c', cs, e, hc, hBb, h8, hat⟩
      · first | exact absurd e (by simp) | (rw [e] at hgo; exact absurd hgo (by simp))
      · simp only [Value.slice.injEq] at e
        obtain ⟨rfl, _, rfl⟩ := e
        have hT := hat i hgo
        have hT' := hT.after hb.out
        obtain ⟨ai, ci, e, _⟩ := hT.opens
        have h8i := (h8 i hgo).after hT.size hb.out
        rw [e] at h8i hT'
        obtain ⟨d0, d1, d2, d3, d4, d5, d6, d7⟩ := eight_re h8i
        have HC := Lib.hid (HI.out l[i] (List.getElem_mem hgo) _ S _ hT')
        have hcl : l.length ≤ c := hc
        clear e hT hT' h8 hat h8i hc
        go_wp2_with fail
        refine HC.out.mono ?_
        rintro e w2 ⟨v, rfl, hv0, hv1, b2⟩
        have B2 := Lib.hid (Below.step hb.out b2)
        clear b2
        by_cases h500 : 500 < n + v
        · have hdd : decide (500 < n + v) = true := decide_eq_true h500
          go_wp2_with fail
          go_ret
          exact ⟨1000, rfl, by omega, by omega, Below.step hB.out B2.out⟩
        · have hdd : decide (500 < n + v) = false := decide_eq_false h500
          go_wp2_with fail
          go_roundw
          case rel => exact ⟨n + v, i + 1, rfl, by go_num, by omega, by omega, by omega, B2⟩
          case measure => simp [intOf]; omega
    · obtain rfl : i = l.length := by omega
      by_cases h500 : 500 < n + l.length - 1
      · have hdd : decide (500 < n + (l.length : Int) - 1) = true := decide_eq_true h500
        go_wp2_with fail
        go_ret
        exact ⟨1000, rfl, by omega, by omega, Below.step hB.out hb.out⟩
      · have hdd : decide (500 < n + (l.length : Int) - 1) = false := decide_eq_false h500
        go_wp2_with fail
        go_ret
        exact ⟨_, rfl, by omega, by omega, Below.step hB.out hb.out⟩

set_option maxRecDepth 100000 in
set_option maxHeartbeats 8000000 in
theorem rcount_6 (f : Nat → Nat) (lo hi : Int) (l : List Tree) (a : Option Addr) (c : Nat) (S : Nat → Prop) (w : World) (hsl : SlAt w S l (.slice a l.length c)) (h0 : 0 ≤ lo) (h50 : lo ≤ 50) (hh : hi = -1 ∨ (lo ≤ hi ∧ hi ≤ 50)) (hfew : l.length ≤ 1000000)
    (HI : Hid (∀ x, x ∈ l → ∀ (cs : Array Value) (S : Nat → Prop) (w : World), At w S x cs → Calls Tryz.prog 73 #[.agg cs] w (NAns w))) :
    Calls Tryz.prog 73 #[.agg (reC 6 f lo hi (.slice a l.length c))] w (NAns w) := by
  have HH := Lib.hid hh
  clear hh
  go_enter Tryz.func73, Tryz.ntmps73
  go_upto_region 1 with (fail)
  obtain ⟨W, hW, hX, hB, _⟩ := re_box w (reC 6 f lo hi (.slice a l.length c))
  rw [← hW]
  clear hW
  have S1 := Lib.hid (hsl.after hB.out)
  clear hsl
  obtain ⟨c0, c1, c2, c3, c4, c5, c6, c7⟩ := eight_re hX.out.eight
  go_wp2_with fail
  go_loopw [3, 4] (fun x y wr => ∃ (n : Int) (i : Nat), x = .int .i64 n ∧ y = .int .i64 i ∧ i ≤ l.length ∧ 0 ≤ n ∧ n ≤ 500 ∧ Hid (Below W.heap.size W wr)) (fun _ y _ => l.length - (intOf y).toNat)
  case atStart => exact ⟨0, 0, rfl, rfl, by omega, by omega, by omega, Lib.hid (Below.refl _ _)⟩
  case round =>
    obtain ⟨n, i, rfl, rfl, hi', hn0, hn5, hb⟩ := hrel
    clear c0 c1 c2 c3 c4 c5 c6 c7
    have X1 := Lib.hid (hX.out.after hb.out)
    obtain ⟨c0, c1, c2, c3, c4, c5, c6, c7⟩ := eight_re X1.out.eight
    by_cases hgo : i < l.length
    · rcases S1.out with ⟨e, _⟩ | ⟨hl', b, off, c', cs, e, hc, hBb, h8, hat⟩
      · first | exact absurd e (by simp) | (rw [e] at hgo; exact absurd hgo (by simp))
      · simp only [Value.slice.injEq] at e
        obtain ⟨rfl, _, rfl⟩ := e
        have hT := hat i hgo
        have hT' := hT.after hb.out
        obtain ⟨ai, ci, e, _⟩ := hT.opens
        have h8i := (h8 i hgo).after hT.size hb.out
        rw [e] at h8i hT'
        obtain ⟨d0, d1, d2, d3, d4, d5, d6, d7⟩ := eight_re h8i
        have HC := Lib.hid (HI.out l[i] (List.getElem_mem hgo) _ S _ hT')
        have hcl : l.length ≤ c := hc
        clear e hT hT' h8 hat h8i hc
        go_wp2_with fail
        refine HC.out.mono ?_
        rintro e w2 ⟨v, rfl, hv0, hv1, b2⟩
        have B2 := Lib.hid (Below.step hb.out b2)
        clear b2
        by_cases h500 : 500 < n + v
        · have hdd : decide (500 < n + v) = true := decide_eq_true h500
          go_wp2_with fail
          go_ret
          exact ⟨1000, rfl, by omega, by omega, Below.step hB.out B2.out⟩
        · have hdd : decide (500 < n + v) = false := decide_eq_false h500
          go_wp2_with fail
          go_roundw
          case rel => exact ⟨n + v, i + 1, rfl, by go_num, by omega, by omega, by omega, B2⟩
          case measure => simp [intOf]; omega
    · obtain rfl : i = l.length := by omega
      have m0 : 0 ≤ lo * n := Int.mul_nonneg h0 hn0
      have m1 : lo * n ≤ 50 * 500 := Int.mul_le_mul h50 hn5 hn0 (by omega)
      have mw : IntKind.i64.wrap (lo * n) = lo * n := by rw [IntKind.wrap_i64]; omega
      rcases HH.out with hm | ⟨hh1, hh2⟩
      · subst hm
        by_cases h500 : 500 < lo * n + n + 1
        · have hdd : decide (500 < lo * n + n + 1) = true := decide_eq_true h500
          go_wp2_with fail
          go_ret
          exact ⟨1000, rfl, by omega, by omega, Below.step hB.out hb.out⟩
        · have hdd : decide (500 < lo * n + n + 1) = false := decide_eq_false h500
          go_wp2_with fail
          go_ret
          exact ⟨_, rfl, by omega, by omega, Below.step hB.out hb.out⟩
      · have hh0 : ¬ hi < 0 := by omega
        have p0 : 0 ≤ (hi - lo) * (n + 1) := Int.mul_nonneg (by omega) (by omega)
        have p1 : (hi - lo) * (n + 1) ≤ 50 * 501 := Int.mul_le_mul (by omega) (by omega) (by omega) (by omega)
        have pw : IntKind.i64.wrap ((hi - lo) * (n + 1)) = (hi - lo) * (n + 1) := by rw [IntKind.wrap_i64]; omega
        by_cases h500 : 500 < lo * n + (hi - lo) * (n + 1)
        · have hdd : decide (500 < lo * n + (hi - lo) * (n + 1)) = true := decide_eq_true h500
          go_wp2_with fail
          go_ret
          exact ⟨1000, rfl, by omega, by omega, Below.step hB.out hb.out⟩
        · have hdd : decide (500 < lo * n + (hi - lo) * (n + 1)) = false := decide_eq_false h500
          go_wp2_with fail
          go_ret
          exact ⟨_, rfl, by omega, by omega, Below.step hB.out hb.out⟩

theorem rcount_any (within : Int) (t : Tree) (hf : Fine within t) : ∀ (cs : Array Value) (S : Nat → Prop) (w : World), At w S t cs →
    Calls Tryz.prog 73 #[.agg cs] w (NAns w) := by
  induction hf with
  | mk within t ft hk ih =>
    intro cs S w h
    have HI := Lib.hid ih
    clear ih hk
    obtain ⟨sl, rfl, hsl⟩ := h.open
    obtain ⟨a, c, rfl⟩ := hsl.shape
    clear h
    obtain ⟨k, f, lo, hi, l⟩ := t
    simp only [Tree.k, Tree.f, Tree.lo, Tree.hi, Tree.kids] at HI hsl ⊢
    have h0 : (0 : Int) ≤ k := ft.k0
    have h6 : k ≤ 6 := ft.k6
    have hpt : k = 4 ∨ k = 5 → k ≠ within ∧ 2 ≤ l.length := ft.parts
    have hrp : k = 6 → l.length = 1 ∧ 0 ≤ lo ∧ lo ≤ 50 ∧ (hi = -1 ∨ (lo ≤ hi ∧ hi ≤ 50)) := ft.rep
    have hfew : l.length ≤ 1000000 := ft.few
    by_cases k13 : 1 ≤ k ∧ k ≤ 3
    · exact rcount_leaf k k13.1 k13.2 f lo hi a l.length c w
    have ke : k = 0 ∨ k = 4 ∨ k = 5 ∨ k = 6 := by omega
    rcases ke with rfl | rfl | rfl | rfl
    · exact rcount_0 f lo hi l a c S w hsl hfew HI
    · exact rcount_4 f lo hi l a c S w hsl hfew HI
    · exact rcount_5 f lo hi l a c S w hsl (hpt (Or.inr rfl)).2 hfew HI
    · obtain ⟨_, r2, r3, r4⟩ := hrp rfl; exact rcount_6 f lo hi l a c S w hsl r2 r3 r4 hfew HI

set_option maxRecDepth 100000 in
theorem rstates_any (t : Tree) (cs : Array Value) (S : Nat → Prop) (w : World) (h : At w S t cs) (hf : Fine (-1) t) :
    Calls Tryz.prog 47 #[.agg cs] w fun e w' => ∃ n : Int, e = .returned (.int .i64 n) ∧ Below w.heap.size w w' := by
  obtain ⟨W, hW, hX, hB, _⟩ := re_box w cs
  have HC := Lib.hid (rcan_any 100 (-1) t cs S 1 W (h.after hB.out) hf (by omega))
  have HN := Lib.hid (fun w2 (b2 : Below W.heap.size W w2) => rcount_any (-1) t hf cs S w2 ((h.after hB.out).after b2))
  obtain ⟨a, c, rfl, _⟩ := h.opens
  clear h hf
  go_enter Tryz.func47, Tryz.ntmps47
  go_upto_region 1 with (fail)
  rw [← hW]
  clear hW
  obtain ⟨c0, c1, c2, c3, c4, c5, c6, c7⟩ := eight_re hX.out.eight
  go_wp2_with fail
  refine HC.out.mono ?_
  rintro e w1 ⟨b, rfl, b1⟩
  have X1 := Lib.hid (hX.out.after b1)
  have HN1 := Lib.hid (HN.out w1 b1)
  have B1 := Lib.hid (Below.step hB.out b1)
  clear b1 c0 c1 c2 c3 c4 c5 c6 c7
  cases b with
  | false =>
    go_wp2_with fail
    go_ret
    exact ⟨0, rfl, B1.out⟩
  | true =>
    obtain ⟨c0, c1, c2, c3, c4, c5, c6, c7⟩ := eight_re X1.out.eight
    go_wp2_with fail
    refine HN1.out.mono ?_
    rintro e w2 ⟨n, rfl, n0, n1, b2⟩
    have B2 := Lib.hid (Below.step B1.out b2)
    clear b2
    by_cases h5 : 500 < n
    · have hdd : decide (500 < n) = true := decide_eq_true h5
      go_wp2_with fail
      go_ret
      exact ⟨_, rfl, B2.out⟩
    · have hdd : decide (500 < n) = false := decide_eq_false h5
      go_wp2_with fail
      go_ret
      exact ⟨_, rfl, B2.out⟩
end Go.Proofs.YtcojnkjcbopnbaaGreatDoor
