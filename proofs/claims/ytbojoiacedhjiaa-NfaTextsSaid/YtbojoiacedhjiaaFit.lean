/- ere.isFit: walks, kind by kind. -/
import Derived.Test.YtbojoiacedhjiaaNone
import Derived.Test.YtbojoiacedhjiaaEq
namespace Go.Proofs.Ytbojoiacedhjiaa
open Go.RowKit

theorem zero_same : ∀ w, (Op.equalIn 10000 26 (.agg #[.int .u64 0, .int .u64 0, .int .u64 0, .int .u64 0]) (.agg #[.int .u64 0, .int .u64 0, .int .u64 0, .int .u64 0])).run Try.prog w = .ok true w :=
  fun w => equal_words zero4 zero4 w true (by simp)

set_option maxRecDepth 100000 in
theorem fit_small (k : Int) (h : k = 0 ∨ k = 2 ∨ k = 3) (a : Option Addr) (c : Nat) (w : World) :
    Calls Try.prog 25 #[.agg (reC k zero4 0 0 (.slice a 0 c))] w fun e w' => e = .returned (.bool true) ∧ Below w.heap.size w w' := by
  have hq := zero_same
  rcases h with rfl | rfl | rfl
  all_goals
    go_enter Try.func25, Try.ntmps25
    go_upto_region 1 with (fail)
    obtain ⟨W, hW, hX, hB, _⟩ := re_box w (reC _ zero4 0 0 (.slice a 0 c))
    rw [← hW]
    clear hW
    obtain ⟨c0, c1, c2, c3, c4, c5, c6, c7⟩ := eight_zero hX.out.eight
    go_wp2_with fail
    go_ret
    exact ⟨rfl, hB.out⟩

set_option maxRecDepth 100000 in
theorem fit_set (f : Nat → Nat) (a : Option Addr) (c : Nat) (w : World) :
    Calls Try.prog 25 #[.agg (reC 1 f 0 0 (.slice a 0 c))] w fun e w' => e = .returned (.bool true) ∧ Below w.heap.size w w' := by
  go_enter Try.func25, Try.ntmps25
  go_upto_region 1 with (fail)
  obtain ⟨W, hW, hX, hB, _⟩ := re_box w (reC 1 f 0 0 (.slice a 0 c))
  rw [← hW]
  clear hW
  obtain ⟨c0, c1, c2, c3, c4, c5, c6, c7⟩ := eight_re hX.out.eight
  go_wp2_with fail
  go_ret
  exact ⟨rfl, hB.out⟩

set_option maxRecDepth 100000 in
theorem fit_rep (lo hi : Int) (h0 : 0 ≤ lo) (h1 : lo ≤ 50) (h : hi = -1 ∨ (lo ≤ hi ∧ hi ≤ 50)) (a : Option Addr) (c : Nat) (w : World) :
    Calls Try.prog 25 #[.agg (reC 6 zero4 lo hi (.slice a 1 c))] w fun e w' => e = .returned (.bool true) ∧ Below w.heap.size w w' := by
  have hq := zero_same
  have HT := Lib.hid (areTimes_spec lo hi h0 h1 h)
  clear h0 h1 h
  go_enter Try.func25, Try.ntmps25
  go_upto_region 1 with (fail)
  obtain ⟨W, hW, hX, hB, _⟩ := re_box w (reC 6 zero4 lo hi (.slice a 1 c))
  rw [← hW]
  clear hW
  obtain ⟨c0, c1, c2, c3, c4, c5, c6, c7⟩ := eight_zero hX.out.eight
  go_wp2_with fail
  refine (HT.out _).mono ?_
  rintro e w1 ⟨rfl, rfl⟩
  go_wp2_with fail
  go_ret
  exact ⟨rfl, hB.out⟩

set_option maxRecDepth 100000 in
theorem fit_cat (l : List Tree) (sl : Value) (B : Nat → Prop) (w : World) (hsl : SlAt w B l sl) (h2 : 2 ≤ l.length) (hlen : l.length ≤ 1000000) (hk : NoneOf [4, 0] l) :
    Calls Try.prog 25 #[.agg (reC 4 zero4 0 0 sl)] w fun e w' => e = .returned (.bool true) ∧ Below w.heap.size w w' := by
  have hq := zero_same
  obtain ⟨a, c, rfl⟩ : ∃ a c, sl = .slice a l.length c := by
    rcases hsl with ⟨rfl, a, c, rfl⟩ | ⟨hl, b, off, c, cs, rfl, _⟩
    · exact ⟨_, _, rfl⟩
    · exact ⟨_, _, rfl⟩
  go_enter Try.func25, Try.ntmps25
  go_upto_region 1 with (fail)
  obtain ⟨W, hW, hX, hB, _⟩ := re_box w (reC 4 zero4 0 0 (.slice a l.length c))
  rw [← hW]
  clear hW
  obtain ⟨c0, c1, c2, c3, c4, c5, c6, c7⟩ := eight_zero hX.out.eight
  have hb := below_new W (.cells #[.int .i64 4, .int .i64 0] 3)
  have HN := Lib.hid (hasNone_spec l _ (.slice (some ⟨W.heap.size, 0, none⟩) 2 2) [4, 0] B _ ((hsl.after hB.out).after hb) hlen ⟨_, _, _, rfl⟩ (Or.inr ⟨_, _, rfl, by decide, heap_alloc_last W _⟩) hk)
  have HB := Lib.hid (Below.step hB.out hb)
  clear hb hsl hk
  go_wp2_with fail
  refine HN.out.mono ?_
  rintro e w1 ⟨rfl, b1⟩
  have B1 := Lib.hid (Below.step HB.out b1)
  clear b1
  go_wp2_with fail
  go_ret
  exact ⟨rfl, B1.out⟩

set_option maxRecDepth 100000 in
theorem fit_alt (l : List Tree) (sl : Value) (B : Nat → Prop) (w : World) (hsl : SlAt w B l sl) (h2 : 2 ≤ l.length) (hlen : l.length ≤ 1000000) (hk : NoneOf [5] l) :
    Calls Try.prog 25 #[.agg (reC 5 zero4 0 0 sl)] w fun e w' => e = .returned (.bool true) ∧ Below w.heap.size w w' := by
  have hq := zero_same
  obtain ⟨a, c, rfl⟩ : ∃ a c, sl = .slice a l.length c := by
    rcases hsl with ⟨rfl, a, c, rfl⟩ | ⟨hl, b, off, c, cs, rfl, _⟩
    · exact ⟨_, _, rfl⟩
    · exact ⟨_, _, rfl⟩
  go_enter Try.func25, Try.ntmps25
  go_upto_region 1 with (fail)
  obtain ⟨W, hW, hX, hB, _⟩ := re_box w (reC 5 zero4 0 0 (.slice a l.length c))
  rw [← hW]
  clear hW
  obtain ⟨c0, c1, c2, c3, c4, c5, c6, c7⟩ := eight_zero hX.out.eight
  have hb := below_new W (.cells #[.int .i64 5] 3)
  have HN := Lib.hid (hasNone_spec l _ (.slice (some ⟨W.heap.size, 0, none⟩) 1 1) [5] B _ ((hsl.after hB.out).after hb) hlen ⟨_, _, _, rfl⟩ (Or.inr ⟨_, _, rfl, by decide, heap_alloc_last W _⟩) hk)
  have HB := Lib.hid (Below.step hB.out hb)
  clear hb hsl hk
  go_wp2_with fail
  refine HN.out.mono ?_
  rintro e w1 ⟨rfl, b1⟩
  have B1 := Lib.hid (Below.step HB.out b1)
  clear b1
  go_wp2_with fail
  go_ret
  exact ⟨rfl, B1.out⟩
end Go.Proofs.Ytbojoiacedhjiaa
