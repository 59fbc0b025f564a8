/- ere.isOf, ere.areTimes: walks. -/
import Derived.Test.YtbojoiacedhjiaaTree
import Derived.Test.YtbojoiacedhjiaaShelf
namespace Go.Proofs.Ytbojoiacedhjiaa
open Go.RowKit

/-- A row of numbers. -/
def intC (ks : List Int) : Array Value := (ks.map fun k => Value.int .i64 k).toArray
/-- Numbers in a slice: none, or those of a block. -/
def IntsAt (w : World) (v : Value) (ks : List Int) : Prop :=
  (ks = [] ∧ v = .slice none 0 0) ∨ (∃ b c, v = .slice (some ⟨b, 0, none⟩) ks.length c ∧ ks.length ≤ 100 ∧ w.heap[b]? = some (.cells (intC ks) 3 (0, 0)))
theorem IntsAt.keep {w w' : World} {v : Value} {ks : List Int} (h : IntsAt w v ks) (e : ∀ (k : Nat) (c : Array Value), w.heap[k]? = some (.cells c 3 (0, 0)) → w'.heap[k]? = w.heap[k]?) : IntsAt w' v ks := by
  rcases h with h | ⟨b, c, rfl, hl, hc⟩
  · exact Or.inl h
  · exact Or.inr ⟨b, c, rfl, hl, (e b _ hc).trans hc⟩
theorem IntsAt.after {w w' : World} {v : Value} {ks : List Int} (h : IntsAt w v ks) (hb : Below w.heap.size w w') : IntsAt w' v ks := h.keep fun k _ hk => hb.block k (Array.getElem?_eq_some_iff.1 hk).1
theorem ints_none (w : World) : IntsAt w (.slice none 0 0) [] := Or.inl ⟨rfl, rfl⟩

/-- Whether a number is one of them. -/
def among (ks : List Int) (k : Int) : Bool := ks.contains k
theorem contains_spec (v : Value) (ks : List Int) (x : Int) (w : World) (h : IntsAt w v ks) :
    Calls Try.prog 33 #[v, .int .i64 x] w fun e w' => e = .returned (.bool (among ks x)) ∧ w' = w := by
  rcases h with ⟨rfl, rfl⟩ | ⟨b, c, rfl, hl, hc⟩
  · exact Try.slices_Contains_int_empty _ _ _ _
  · have h := Try.slices_Contains_int b 0 ks.length c ks x w (Nat.le_refl _) (by omega) (fun j hj => by
      rw [Nat.zero_add, cell_of_row _ _ j _ _ _ hc]
      simp [intC, hj, List.getD])
    rw [List.take_length] at h
    exact h

set_option maxRecDepth 100000 in
theorem isOf_spec (k : Int) (f : Nat → Nat) (lo hi : Int) (sl v : Value) (ks : List Int) (w : World) (h : IntsAt w v ks) :
    Calls Try.prog 31 #[.agg (reC k f lo hi sl), v] w fun e w' => e = .returned (.bool (among ks k)) ∧ Below w.heap.size w w' := by
  go_enter Try.func31, Try.ntmps31
  go_upto_region 1 with (fail)
  obtain ⟨W, hW, hX, hB, _⟩ := re_box w (reC k f lo hi sl)
  rw [← hW]
  clear hW
  have c0 := (eight_re hX.out.eight).1
  have H := Lib.hid (contains_spec v ks k W (h.after hB.out))
  clear h
  go_wp2_with fail
  refine H.out.mono ?_
  rintro e w1 ⟨rfl, rfl⟩
  go_wp2_with fail
  go_ret
  exact ⟨rfl, hB.out⟩

theorem areTimes_spec (lo hi : Int) (h0 : 0 ≤ lo) (h1 : lo ≤ 50) (h : hi = -1 ∨ (lo ≤ hi ∧ hi ≤ 50)) (w : World) :
    Calls Try.prog 28 #[.int .i64 lo, .int .i64 hi] w fun e w' => e = .returned (.bool true) ∧ w' = w := by
  rcases h with rfl | ⟨h2, h3⟩
  · go_enter Try.func28, Try.ntmps28
    go_wp2_with fail
    go_ret
    exact ⟨rfl, rfl⟩
  · have hn : (hi == -1) = false := by simp; omega
    go_enter Try.func28, Try.ntmps28
    go_wp2_with fail
    go_ret
    exact ⟨rfl, rfl⟩
end Go.Proofs.Ytbojoiacedhjiaa
