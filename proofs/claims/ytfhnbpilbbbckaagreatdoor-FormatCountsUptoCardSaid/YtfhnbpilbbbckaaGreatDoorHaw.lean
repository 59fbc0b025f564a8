/- Merged by program: T3CellE, LawCells. -/
import Derived.Deep.RegionHeld3
import Derived.Test.YtfhnbpilbbbckaaGreatDoorHao
import Derived.Test.YtfhnbpilbbbckaaGreatDoorHav
/- Contract of the document's Can. -/
namespace Go.Proofs.YtfhnbpilbbbckaaGreatDoor.T3
open Go.Proofs.YtfhnbpilbbbckaaGreatDoor Go.Proofs
open Go.RowKit

section
variable {P : Program} {ops : Array Oper} {Q : Exit → Act → World → Prop} {md : Region.Mode} {S : World → Prop}
/-- An operation of a drawn region that its guard wants, taken first. -/
theorem takeW {i d : Nat} {oi : Oper} {v : Value} {fuel : Nat} {listed : Array Bool} {a : Act} {w : World} (hi : ops[i]? = some oi) (hd : oi.dst = some d)
    (hs : Region.noSelect ops = true) (hf : Region.free md ops listed i = true) (hr : (Region.ready md ops listed).contains i = true)
    (hQ : ∀ c a w, Q (.panic c) (a.put (some d) v) w → Q (.panic c) a w) (hw : Region.wanted oi (yielded ops a.tmps) = true) (hx : ∀ w, S w → (execOp a.eval oi).run P w = .ok (.value v) w) (hS : S w)
    (h : wpAnyH P md ops Q S fuel (listed.setIfInBounds i true) ⟨a.tmps.setIfInBounds d v, a.defers⟩ w) : wpAnyH P md ops Q S (fuel + 1) listed a w :=
  wpAnyH_take hi hs hf hr (by rw [hd]; exact hQ) (Or.inl ⟨hw, hx⟩) hS (by rw [hd]; exact h)
/-- One that its guard passes over. -/
theorem skipW {i d : Nat} {oi : Oper} {fuel : Nat} {listed : Array Bool} {a : Act} {w : World} (hi : ops[i]? = some oi) (hd : oi.dst = some d)
    (hs : Region.noSelect ops = true) (hf : Region.free md ops listed i = true) (hr : (Region.ready md ops listed).contains i = true)
    (hQ : ∀ c a w, Q (.panic c) (a.put (some d) undef) w → Q (.panic c) a w) (hw : Region.wanted oi (yielded ops a.tmps) = false) (hS : S w)
    (h : wpAnyH P md ops Q S fuel (listed.setIfInBounds i true) ⟨a.tmps.setIfInBounds d undef, a.defers⟩ w) : wpAnyH P md ops Q S (fuel + 1) listed a w :=
  wpAnyH_take hi hs hf hr (by rw [hd]; exact hQ) (Or.inr ⟨hw, rfl⟩) hS (by rw [hd]; exact h)
end

set_option maxRecDepth 100000 in
set_option maxHeartbeats 8000000 in
theorem refCan_looks (n K M : Int) (s : ByteArray) (r : Bool) (w : World) (hr : (K = 3 ∧ M = n ∧ r = true) ∨ (K = 3 ∧ ¬ M = n ∧ r = false) ∨ (K = 2 ∧ r = false)) (I : Hid (∀ w, Calls Tryz.prog 22 #[.string s] w fun e w' => e = .returned (.agg #[.int .i64 K, .int .i64 M, .string s]) ∧ Below w.heap.size w w')) :
    Calls Tryz.prog 10 #[.agg #[.int .i64 3, .int .i64 n, .string s]] w fun e w' => e = .returned (.bool r) ∧ Below w.heap.size w w' := by
  have B0 := boxed1 w (.int .i64 3) (.int .i64 n) (.string s) 30
  have H0 := Lib.hid (held1 B0.1.out B0.2)
  clear B0
  go_enter Tryz.func10, Tryz.ntmps10
  go_wp2_with fail
  refine wp_region_held_drew (S := fun w' => Hid (Below w.heap.size w w') ∧ w'.cell? ⟨w.heap.size, 0, none⟩ = some (.int .i64 3) ∧ w'.cell? ⟨w.heap.size, 1, none⟩ = some (.int .i64 n) ∧ w'.cell? ⟨w.heap.size, 2, none⟩ = some (.string s)) (by kernel_rfl) (keep1 H0.out (below_drew _)) (fun hHeld => ?_)
  refine takeW (i := 0) (d := 3) (v := .pointer (some ⟨w.heap.size, 0, none⟩)) rfl rfl (by kernel_rfl) (by kernel_rfl) (by kernel_rfl) (fun _ _ _ h => h) (by rfl) (fun w' hSw => by go_simp) (by assumption) ?_
  simp only [List.setIfInBounds_toArray, List.set_cons_zero, List.set_cons_succ]
  refine takeW (i := 1) (d := 4) (v := .int .i64 3) rfl rfl (by kernel_rfl) (by kernel_rfl) (by kernel_rfl) (fun _ _ _ h => h) (by rfl) (fun w' hSw => by go_simp) (by assumption) ?_
  simp only [List.setIfInBounds_toArray, List.set_cons_zero, List.set_cons_succ]
  refine takeW (i := 2) (d := 5) (v := .bool false) rfl rfl (by kernel_rfl) (by kernel_rfl) (by kernel_rfl) (fun _ _ _ h => h) (by rfl) (fun w' hSw => by go_simp) (by assumption) ?_
  simp only [List.setIfInBounds_toArray, List.set_cons_zero, List.set_cons_succ]
  refine takeW (i := 3) (d := 6) (v := .bool false) rfl rfl (by kernel_rfl) (by kernel_rfl) (by kernel_rfl) (fun _ _ _ h => h) (by rfl) (fun w' hSw => by go_simp) (by assumption) ?_
  simp only [List.setIfInBounds_toArray, List.set_cons_zero, List.set_cons_succ]
  refine skipW (i := 4) (d := 7) rfl rfl (by kernel_rfl) (by kernel_rfl) (by kernel_rfl) (fun _ _ _ h => h) (by rfl) (by assumption) ?_
  simp only [List.setIfInBounds_toArray, List.set_cons_zero, List.set_cons_succ]
  refine skipW (i := 5) (d := 8) rfl rfl (by kernel_rfl) (by kernel_rfl) (by kernel_rfl) (fun _ _ _ h => h) (by rfl) (by assumption) ?_
  simp only [List.setIfInBounds_toArray, List.set_cons_zero, List.set_cons_succ]
  refine skipW (i := 6) (d := 9) rfl rfl (by kernel_rfl) (by kernel_rfl) (by kernel_rfl) (fun _ _ _ h => h) (by rfl) (by assumption) ?_
  simp only [List.setIfInBounds_toArray, List.set_cons_zero, List.set_cons_succ]
  refine takeW (i := 7) (d := 10) (v := .bool false) rfl rfl (by kernel_rfl) (by kernel_rfl) (by kernel_rfl) (fun _ _ _ h => h) (by rfl) (fun w' hSw => by go_simp) (by assumption) ?_
  simp only [List.setIfInBounds_toArray, List.set_cons_zero, List.set_cons_succ]
  refine takeW (i := 8) (d := 11) (v := .bool false) rfl rfl (by kernel_rfl) (by kernel_rfl) (by kernel_rfl) (fun _ _ _ h => h) (by rfl) (fun w' hSw => by go_simp) (by assumption) ?_
  simp only [List.setIfInBounds_toArray, List.set_cons_zero, List.set_cons_succ]
  refine skipW (i := 9) (d := 12) rfl rfl (by kernel_rfl) (by kernel_rfl) (by kernel_rfl) (fun _ _ _ h => h) (by rfl) (by assumption) ?_
  simp only [List.setIfInBounds_toArray, List.set_cons_zero, List.set_cons_succ]
  refine skipW (i := 10) (d := 13) rfl rfl (by kernel_rfl) (by kernel_rfl) (by kernel_rfl) (fun _ _ _ h => h) (by rfl) (by assumption) ?_
  simp only [List.setIfInBounds_toArray, List.set_cons_zero, List.set_cons_succ]
  refine skipW (i := 11) (d := 14) rfl rfl (by kernel_rfl) (by kernel_rfl) (by kernel_rfl) (fun _ _ _ h => h) (by rfl) (by assumption) ?_
  simp only [List.setIfInBounds_toArray, List.set_cons_zero, List.set_cons_succ]
  refine takeW (i := 12) (d := 15) (v := .bool false) rfl rfl (by kernel_rfl) (by kernel_rfl) (by kernel_rfl) (fun _ _ _ h => h) (by rfl) (fun w' hSw => by go_simp) (by assumption) ?_
  simp only [List.setIfInBounds_toArray, List.set_cons_zero, List.set_cons_succ]
  refine takeW (i := 13) (d := 16) (v := .bool false) rfl rfl (by kernel_rfl) (by kernel_rfl) (by kernel_rfl) (fun _ _ _ h => h) (by rfl) (fun w' hSw => by go_simp) (by assumption) ?_
  simp only [List.setIfInBounds_toArray, List.set_cons_zero, List.set_cons_succ]
  refine takeW (i := 14) (d := 17) (v := .pointer (some ⟨w.heap.size, 0, none⟩)) rfl rfl (by kernel_rfl) (by kernel_rfl) (by kernel_rfl) (fun _ _ _ h => h) (by rfl) (fun w' hSw => by go_simp) (by assumption) ?_
  simp only [List.setIfInBounds_toArray, List.set_cons_zero, List.set_cons_succ]
  refine takeW (i := 15) (d := 18) (v := .int .i64 3) rfl rfl (by kernel_rfl) (by kernel_rfl) (by kernel_rfl) (fun _ _ _ h => h) (by rfl) (fun w' hSw => by go_simp) (by assumption) ?_
  simp only [List.setIfInBounds_toArray, List.set_cons_zero, List.set_cons_succ]
  refine takeW (i := 16) (d := 19) (v := .bool false) rfl rfl (by kernel_rfl) (by kernel_rfl) (by kernel_rfl) (fun _ _ _ h => h) (by rfl) (fun w' hSw => by go_simp) (by assumption) ?_
  simp only [List.setIfInBounds_toArray, List.set_cons_zero, List.set_cons_succ]
  refine takeW (i := 17) (d := 20) (v := .bool false) rfl rfl (by kernel_rfl) (by kernel_rfl) (by kernel_rfl) (fun _ _ _ h => h) (by rfl) (fun w' hSw => by go_simp) (by assumption) ?_
  simp only [List.setIfInBounds_toArray, List.set_cons_zero, List.set_cons_succ]
  refine skipW (i := 18) (d := 21) rfl rfl (by kernel_rfl) (by kernel_rfl) (by kernel_rfl) (fun _ _ _ h => h) (by rfl) (by assumption) ?_
  simp only [List.setIfInBounds_toArray, List.set_cons_zero, List.set_cons_succ]
  refine skipW (i := 19) (d := 22) rfl rfl (by kernel_rfl) (by kernel_rfl) (by kernel_rfl) (fun _ _ _ h => h) (by rfl) (by assumption) ?_
  simp only [List.setIfInBounds_toArray, List.set_cons_zero, List.set_cons_succ]
  refine skipW (i := 20) (d := 23) rfl rfl (by kernel_rfl) (by kernel_rfl) (by kernel_rfl) (fun _ _ _ h => h) (by rfl) (by assumption) ?_
  simp only [List.setIfInBounds_toArray, List.set_cons_zero, List.set_cons_succ]
  refine takeW (i := 21) (d := 24) (v := .bool false) rfl rfl (by kernel_rfl) (by kernel_rfl) (by kernel_rfl) (fun _ _ _ h => h) (by rfl) (fun w' hSw => by go_simp) (by assumption) ?_
  simp only [List.setIfInBounds_toArray, List.set_cons_zero, List.set_cons_succ]
  refine takeW (i := 22) (d := 25) (v := .bool false) rfl rfl (by kernel_rfl) (by kernel_rfl) (by kernel_rfl) (fun _ _ _ h => h) (by rfl) (fun w' hSw => by go_simp) (by assumption) ?_
  simp only [List.setIfInBounds_toArray, List.set_cons_zero, List.set_cons_succ]
  refine takeW (i := 23) (d := 26) (v := .bool false) rfl rfl (by kernel_rfl) (by kernel_rfl) (by kernel_rfl) (fun _ _ _ h => h) (by rfl) (fun w' hSw => by go_simp) (by assumption) ?_
  simp only [List.setIfInBounds_toArray, List.set_cons_zero, List.set_cons_succ]
  refine takeW (i := 24) (d := 27) (v := .pointer (some ⟨w.heap.size, 0, none⟩)) rfl rfl (by kernel_rfl) (by kernel_rfl) (by kernel_rfl) (fun _ _ _ h => h) (by rfl) (fun w' hSw => by go_simp) (by assumption) ?_
  simp only [List.setIfInBounds_toArray, List.set_cons_zero, List.set_cons_succ]
  refine takeW (i := 25) (d := 28) (v := .int .i64 3) rfl rfl (by kernel_rfl) (by kernel_rfl) (by kernel_rfl) (fun _ _ _ h => h) (by rfl) (fun w' hSw => by go_simp) (by assumption) ?_
  simp only [List.setIfInBounds_toArray, List.set_cons_zero, List.set_cons_succ]
  refine takeW (i := 26) (d := 29) (v := .bool false) rfl rfl (by kernel_rfl) (by kernel_rfl) (by kernel_rfl) (fun _ _ _ h => h) (by rfl) (fun w' hSw => by go_simp) (by assumption) ?_
  simp only [List.setIfInBounds_toArray, List.set_cons_zero, List.set_cons_succ]
  refine takeW (i := 27) (d := 30) (v := .bool false) rfl rfl (by kernel_rfl) (by kernel_rfl) (by kernel_rfl) (fun _ _ _ h => h) (by rfl) (fun w' hSw => by go_simp) (by assumption) ?_
  simp only [List.setIfInBounds_toArray, List.set_cons_zero, List.set_cons_succ]
  refine skipW (i := 28) (d := 31) rfl rfl (by kernel_rfl) (by kernel_rfl) (by kernel_rfl) (fun _ _ _ h => h) (by rfl) (by assumption) ?_
  simp only [List.setIfInBounds_toArray, List.set_cons_zero, List.set_cons_succ]
  refine skipW (i := 29) (d := 32) rfl rfl (by kernel_rfl) (by kernel_rfl) (by kernel_rfl) (fun _ _ _ h => h) (by rfl) (by assumption) ?_
  simp only [List.setIfInBounds_toArray, List.set_cons_zero, List.set_cons_succ]
  refine skipW (i := 30) (d := 33) rfl rfl (by kernel_rfl) (by kernel_rfl) (by kernel_rfl) (fun _ _ _ h => h) (by rfl) (by assumption) ?_
  simp only [List.setIfInBounds_toArray, List.set_cons_zero, List.set_cons_succ]
  refine takeW (i := 31) (d := 34) (v := .bool false) rfl rfl (by kernel_rfl) (by kernel_rfl) (by kernel_rfl) (fun _ _ _ h => h) (by rfl) (fun w' hSw => by go_simp) (by assumption) ?_
  simp only [List.setIfInBounds_toArray, List.set_cons_zero, List.set_cons_succ]
  refine takeW (i := 32) (d := 35) (v := .bool false) rfl rfl (by kernel_rfl) (by kernel_rfl) (by kernel_rfl) (fun _ _ _ h => h) (by rfl) (fun w' hSw => by go_simp) (by assumption) ?_
  simp only [List.setIfInBounds_toArray, List.set_cons_zero, List.set_cons_succ]
  refine takeW (i := 33) (d := 36) (v := .bool false) rfl rfl (by kernel_rfl) (by kernel_rfl) (by kernel_rfl) (fun _ _ _ h => h) (by rfl) (fun w' hSw => by go_simp) (by assumption) ?_
  simp only [List.setIfInBounds_toArray, List.set_cons_zero, List.set_cons_succ]
  refine takeW (i := 34) (d := 37) (v := .pointer (some ⟨w.heap.size, 0, none⟩)) rfl rfl (by kernel_rfl) (by kernel_rfl) (by kernel_rfl) (fun _ _ _ h => h) (by rfl) (fun w' hSw => by go_simp) (by assumption) ?_
  simp only [List.setIfInBounds_toArray, List.set_cons_zero, List.set_cons_succ]
  refine takeW (i := 35) (d := 38) (v := .int .i64 3) rfl rfl (by kernel_rfl) (by kernel_rfl) (by kernel_rfl) (fun _ _ _ h => h) (by rfl) (fun w' hSw => by go_simp) (by assumption) ?_
  simp only [List.setIfInBounds_toArray, List.set_cons_zero, List.set_cons_succ]
  refine takeW (i := 36) (d := 39) (v := .bool true) rfl rfl (by kernel_rfl) (by kernel_rfl) (by kernel_rfl) (fun _ _ _ h => h) (by rfl) (fun w' hSw => by go_simp) (by assumption) ?_
  simp only [List.setIfInBounds_toArray, List.set_cons_zero, List.set_cons_succ]
  refine takeW (i := 37) (d := 40) (v := .bool true) rfl rfl (by kernel_rfl) (by kernel_rfl) (by kernel_rfl) (fun _ _ _ h => h) (by rfl) (fun w' hSw => by go_simp) (by assumption) ?_
  simp only [List.setIfInBounds_toArray, List.set_cons_zero, List.set_cons_succ]
  refine takeW (i := 38) (d := 41) (v := .pointer (some ⟨w.heap.size, 2, none⟩)) rfl rfl (by kernel_rfl) (by kernel_rfl) (by kernel_rfl) (fun _ _ _ h => h) (by rfl) (fun w' hSw => by go_simp) (by assumption) ?_
  simp only [List.setIfInBounds_toArray, List.set_cons_zero, List.set_cons_succ]
  refine takeW (i := 39) (d := 42) (v := .string s) rfl rfl (by kernel_rfl) (by kernel_rfl) (by kernel_rfl) (fun _ _ _ h => h) (by rfl) (fun w' hSw => by go_simp) (by assumption) ?_
  simp only [List.setIfInBounds_toArray, List.set_cons_zero, List.set_cons_succ]
  refine takeW (i := 41) (d := 44) (v := .agg #[.int .i64 3, .int .i64 n, .string s]) rfl rfl (by kernel_rfl) (by kernel_rfl) (by kernel_rfl) (fun _ _ _ h => h) (by rfl) (fun w' hSw => by go_simp) (by assumption) ?_
  simp only [List.setIfInBounds_toArray, List.set_cons_zero, List.set_cons_succ]
  refine wpAnyH_ready (rs := [40]) (by kernel_rfl) (by simp) ?_
  refine AllReadyH.cons rfl (fun X hX => ?_) AllReadyH.nil
  rw [if_pos (by rfl)]
  go_simp
  refine (I.out _).mono ?_
  rintro e w1 ⟨rfl, b1⟩
  go_wp2_with fail
  refine hX.out _ _ (keep1 hHeld b1) (fun hH2 => ?_)
  clear hX X hHeld b1
  refine takeW (i := 42) (d := 45) (v := .bool r) rfl rfl (by kernel_rfl) (by kernel_rfl) (by kernel_rfl) (fun _ _ _ h => h) (by rfl) (fun w' hSw => by rcases hr with ⟨rfl, rfl, rfl⟩ | ⟨rfl, h, rfl⟩ | ⟨rfl, rfl⟩ <;> go_simp) (by assumption) ?_
  simp only [List.setIfInBounds_toArray, List.set_cons_zero, List.set_cons_succ]
  refine takeW (i := 43) (d := 46) (v := .bool r) rfl rfl (by kernel_rfl) (by kernel_rfl) (by kernel_rfl) (fun _ _ _ h => h) (by rfl) (fun w' hSw => by go_simp) (by assumption) ?_
  simp only [List.setIfInBounds_toArray, List.set_cons_zero, List.set_cons_succ]
  refine takeW (i := 44) (d := 47) (v := .bool r) rfl rfl (by kernel_rfl) (by kernel_rfl) (by kernel_rfl) (fun _ _ _ h => h) (by rfl) (fun w' hSw => by go_simp) (by assumption) ?_
  simp only [List.setIfInBounds_toArray, List.set_cons_zero, List.set_cons_succ]
  refine takeW (i := 45) (d := 2) (v := .bool r) rfl rfl (by kernel_rfl) (by kernel_rfl) (by kernel_rfl) (fun _ _ _ h => h) (by rfl) (fun w' hSw => by go_simp) (by assumption) ?_
  simp only [List.setIfInBounds_toArray, List.set_cons_zero, List.set_cons_succ]
  refine wpAnyH_done (by kernel_rfl) ?_ _
  have HE := Lib.hid hH2.1
  clear hH2 hr
  go_wp2_with fail
  go_ret
  exact ⟨rfl, HE.out.out⟩

set_option maxHeartbeats 4000000 in
theorem refCan_any (k n : Int) (s : ByteArray) (hs : s.size ≤ 300) (w : World) :
    Calls Tryz.prog 10 #[.agg #[.int .i64 k, .int .i64 n, .string s]] w fun e w' => e = .returned (.bool (canB k n s)) ∧ Below w.heap.size w w' := by
  have I := Lib.hid (fun w => refInput_any s hs w)
  have HB := (boxed1 w (.int .i64 k) (.int .i64 n) (.string s) 30).1
  clear hs
  rcases can_cases k n s with ⟨rfl, rfl, h2, hc⟩ | ⟨rfl, rfl, h2, hc⟩ | ⟨rfl, h1, hc⟩ | ⟨rfl, h2, hc⟩ | ⟨rfl, h2, hc⟩ | ⟨rfl, rfl, hc⟩ | ⟨rfl, h1, hc⟩ | ⟨rfl, hk, rfl, hc⟩ | ⟨rfl, hk, hn, hc⟩ | ⟨rfl, hk, hc⟩ | ⟨g0, g1, g2, g3, hc⟩
  · rw [hc]; clear hc I
    have he : s.toList.isEmpty = true := by rw [h2]; rfl
    go_enter Tryz.func10, Tryz.ntmps10
    go_wp2_with fail
    go_quiet (fail)
    go_wp2_with fail
    go_ret
    exact ⟨rfl, Below.drewN' HB.out _⟩
  · rw [hc]; clear hc I
    have he : s.toList.isEmpty = false := by cases hs : s.toList with | nil => exact absurd hs h2 | cons a l => rfl
    clear h2
    go_enter Tryz.func10, Tryz.ntmps10
    go_wp2_with fail
    go_quiet (fail)
    go_wp2_with fail
    go_ret
    exact ⟨rfl, Below.drewN' HB.out _⟩
  · rw [hc]; clear hc I
    have hb : (n == 0) = false := beq_eq_false_iff_ne.2 h1
    clear h1
    go_enter Tryz.func10, Tryz.ntmps10
    go_wp2_with fail
    go_quiet (fail)
    go_wp2_with fail
    go_ret
    exact ⟨rfl, Below.drewN' HB.out _⟩
  · rw [hc]; clear hc I
    have he : s.toList.isEmpty = true := by rw [h2]; rfl
    go_enter Tryz.func10, Tryz.ntmps10
    go_wp2_with fail
    go_quiet (fail)
    go_wp2_with fail
    go_ret
    exact ⟨rfl, Below.drewN' HB.out _⟩
  · rw [hc]; clear hc I
    have he : s.toList.isEmpty = false := by cases hs : s.toList with | nil => exact absurd hs h2 | cons a l => rfl
    clear h2
    go_enter Tryz.func10, Tryz.ntmps10
    go_wp2_with fail
    go_quiet (fail)
    go_wp2_with fail
    go_ret
    exact ⟨rfl, Below.drewN' HB.out _⟩
  · rw [hc]; clear hc I
    go_enter Tryz.func10, Tryz.ntmps10
    go_wp2_with fail
    go_quiet (fail)
    go_wp2_with fail
    go_ret
    exact ⟨rfl, Below.drewN' HB.out _⟩
  · rw [hc]; clear hc I
    have hb : (n == 0) = false := beq_eq_false_iff_ne.2 h1
    clear h1
    go_enter Tryz.func10, Tryz.ntmps10
    go_wp2_with fail
    go_quiet (fail)
    go_wp2_with fail
    go_ret
    exact ⟨rfl, Below.drewN' HB.out _⟩
  · rw [hc]
    exact refCan_looks _ (inK s) (inN s) s true w (Or.inl ⟨hk, rfl, rfl⟩) I
  · rw [hc]
    exact refCan_looks n (inK s) (inN s) s false w (Or.inr (Or.inl ⟨hk, fun h => hn h.symm, rfl⟩)) I
  · rw [hc]
    exact refCan_looks n (inK s) (inN s) s false w (Or.inr (Or.inr ⟨hk, rfl⟩)) I
  · rw [hc]; clear hc I
    go_enter Tryz.func10, Tryz.ntmps10
    go_wp2_with fail
    go_quiet (fail)
    go_wp2_with fail
    go_ret
    exact ⟨rfl, Below.drewN' HB.out _⟩
end Go.Proofs.YtfhnbpilbbbckaaGreatDoor.T3

/- The law's cells: which cells of an argument are taken: a walk. -/
namespace Go.Proofs.YtfhnbpilbbbckaaGreatDoor
open Go.RowKit

def okC (c : Cel) : Bool := decide (c.s.size ≤ 100) && T3.canB c.k c.n c.s
def pickC (l : List Cel) : List Cel := (l.take 8).filter okC
theorem own_below {w w' : World} {base : Nat} {e : TypeId} {size n : Nat} {v : Value} {xs : List Value} (h : w.ownsRow base e size v n xs) (hb : Below w.heap.size w w') : w'.ownsRow base e size v n xs := by
  refine ⟨h.1, ?_⟩
  rcases h.2 with h0 | ⟨g, cap, cur, hv, hg, hh, rest⟩
  · exact Or.inl h0
  · refine Or.inr ⟨g, cap, cur, hv, hg, ?_, rest⟩
    rw [hb.block g (Array.getElem?_eq_some_iff.1 hh).1]
    exact hh
/-- What the law's cells tells. -/
def CellsOut (l : List Cel) (w : World) (e : Ending) (w' : World) : Prop :=
  ∃ p c, e = .returned (.slice p (pickC l).length c) ∧ Hid (w'.ownsRow w.heap.size 30 3 (.slice p (pickC l).length c) (pickC l).length (cvals (pickC l))) ∧ Below w.heap.size w w'

theorem take_filter {l : List Cel} {i : Nat} (h : i < l.length) : (l.take (i + 1)).filter okC = (l.take i).filter okC ++ (if okC l[i] then [l[i]] else []) := by
  rw [List.take_succ_eq_append_getElem h, List.filter_append]
  congr 1
  cases hb : okC l[i] <;> simp [hb]
theorem filter_len (l : List Cel) (i : Nat) : ((l.take i).filter okC).length ≤ i := by
  have h1 := List.length_filter_le okC (l.take i)
  rw [List.length_take] at h1
  omega

set_option maxRecDepth 100000 in
set_option maxHeartbeats 2000000 in
theorem lawCells_any (l : List Cel) (p : Option Addr) (n cap : Nat) (w : World) (hn : n ≤ 9223372036854775807) (hlen : n = l.length)
    (hcells : l = [] ∨ ∃ b off, p = some ⟨b, off, none⟩ ∧ ∀ i c, l[i]? = some c → w.cell? ⟨b, off + i * 3, none⟩ = some (.int .i64 c.k) ∧ w.cell? ⟨b, off + i * 3 + 1, none⟩ = some (.int .i64 c.n) ∧ w.cell? ⟨b, off + i * 3 + 2, none⟩ = some (.string c.s)) :
    Calls Tryz.prog 7 #[.slice p n cap] w (CellsOut l w) := by
  have H := Lib.hid hcells
  have HN := Lib.hid hlen
  clear hcells hlen
  go_enter Tryz.func7, Tryz.ntmps7
  go_wp2_with fail
  have B0 := Lib.hid (below_new w (.cells #[] 30))
  have O0 : Hid ((w.alloc (.cells #[] 30)).ownsRow w.heap.size 30 3 (.slice (some ⟨w.heap.size, 0, none⟩) 0 0) 0 (cvals [])) := Lib.hid (World.ownsRow_lit (base := w.heap.size) (e := 30) (size := 3) w #[] 0 (Nat.le_refl _) (by simp only [maxLen]; omega) (by simp))
  go_loopw [3, 4] (fun x y wr => ∃ (i k : Nat) (q : Option Addr) (c : Nat), x = .slice q k c ∧ y = .int .i64 i ∧ i ≤ 8 ∧ i ≤ n ∧ k ≤ i ∧ Hid (k = ((l.take i).filter okC).length ∧ wr.ownsRow w.heap.size 30 3 (.slice q k c) k (cvals ((l.take i).filter okC)) ∧ Below w.heap.size w wr)) (fun _ y _ => 8 - (intOf y).toNat)
  case atStart => exact ⟨0, 0, _, 0, rfl, rfl, by omega, by omega, by omega, Lib.hid ⟨rfl, O0.out, B0.out⟩⟩
  case round =>
    obtain ⟨i, k, q, c, rfl, rfl, hi8, hin, hki, HA⟩ := hrel
    by_cases hlt : i < n ∧ i < 8
    · have hil : i < l.length := by rw [← HN.out]; exact hlt.1
      have HT := Lib.hid (take_filter hil)
      have hx := List.getElem?_eq_getElem hil
      obtain ⟨x, hxe⟩ : ∃ x, x = l[i] := ⟨_, rfl⟩
      rw [← hxe] at hx HT
      obtain ⟨b, off, rfl, hc⟩ : ∃ b off, p = some ⟨b, off, none⟩ ∧ ∀ i c, l[i]? = some c → w.cell? ⟨b, off + i * 3, none⟩ = some (.int .i64 c.k) ∧ w.cell? ⟨b, off + i * 3 + 1, none⟩ = some (.int .i64 c.n) ∧ w.cell? ⟨b, off + i * 3 + 2, none⟩ = some (.string c.s) := by
        rcases H.out with h0 | h0
        · rw [h0] at hil; simp at hil
        · exact h0
      obtain ⟨e0, e1, e2⟩ := hc i x hx
      have hbw : b < w.heap.size := cell_lt e0
      have key : ∀ (o : Nat) (v : Value), w.cell? ⟨b, o, none⟩ = some v → wr.cell? ⟨b, o, none⟩ = some v := fun o v hv => by
        rw [HA.out.2.2.cell (p := ⟨b, o, none⟩) hbw]; exact hv
      have c0 := key _ _ e0
      have c1 := key _ _ e1
      have c2 := key _ _ e2
      have hbr : b < wr.heap.size := cell_lt c0
      have dt1 : decide ((i : Int) < (n : Int)) = true := decide_eq_true (by omega)
      have dt2 : decide ((i : Int) < 8) = true := decide_eq_true (by omega)
      clear hc hx hxe e0 e1 e2 key
      have hlt1 := hlt.1
      have hlt2 := hlt.2
      clear hlt
      by_cases hs : x.s.size ≤ 100
      · have d1 : decide ((x.s.size : Int) ≤ 100) = true := decide_eq_true (by omega)
        have HC := Lib.hid (fun W => T3.refCan_any x.k x.n x.s (by omega) W)
        have HO : Hid (okC x = T3.canB x.k x.n x.s) := Lib.hid (by unfold okC; rw [decide_eq_true hs, Bool.true_and])
        obtain ⟨V, hV⟩ : ∃ V, V = T3.canB x.k x.n x.s := ⟨_, rfl⟩
        rw [← hV] at HC HO
        clear hV hs
        cases V with
        | true =>
          have HF : Hid ((l.take (i + 1)).filter okC = (l.take i).filter okC ++ [x]) := Lib.hid (by rw [HT.out, HO.out]; rfl)
          go_wp2_with fail
          refine (HC.out _).mono ?_
          rintro e w1 ⟨rfl, b1⟩
          have OW1 := Lib.hid (own_below HA.out.2.1 b1)
          have B1 := Lib.hid (Below.step HA.out.2.2 b1)
          have key2 : ∀ (o : Nat) (v : Value), wr.cell? ⟨b, o, none⟩ = some v → w1.cell? ⟨b, o, none⟩ = some v := fun o v hv => by
            rw [b1.cell (p := ⟨b, o, none⟩) hbr]; exact hv
          have d0 := key2 _ _ c0
          have d2 := key2 _ _ c1
          have d3 := key2 _ _ c2
          have hb1 : b < w1.heap.size := cell_lt d0
          have OW2 := Lib.hid (OW1.out.alloc (.cells #[.int .i64 x.k, .int .i64 x.n, .string x.s] 30))
          have B2 := Lib.hid (Below.step B1.out (below_new w1 (.cells #[.int .i64 x.k, .int .i64 x.n, .string x.s] 30)))
          have hone : CellsAt (w1.alloc (.cells #[.int .i64 x.k, .int .i64 x.n, .string x.s] 30)) (some ⟨w1.heap.size, 0, none⟩) 1 1 [x] := by
            refine ⟨rfl, by omega, by omega, fun e => by simp at e, Or.inr ⟨w1.heap.size, 0, rfl, fun j y hj => ?_⟩⟩
            have hj0 : j = 0 := by have := (List.getElem?_eq_some_iff.1 hj).1; simpa using this
            subst hj0
            simp at hj
            subst hj
            refine ⟨?_, ?_, ?_⟩ <;> simp [go_sem]
          have HONE := Lib.hid hone
          clear b1 key2 hone c0 c1 c2
          have hbs2 : w.heap.size ≤ (w1.alloc (.cells #[.int .i64 x.k, .int .i64 x.n, .string x.s] 30)).heap.size := B2.out.size
          have hk1 : k + 1 ≤ 1000000 := by omega
          go_wp2_with (at_builtin; (refine wp_append_cells rfl _ _ rfl w.heap.size _ (.slice q k c) k ((l.take i).filter okC) _ 1 1 [x] rfl OW2.out rfl HONE.out hk1 hbs2 ?_; intro p' c' w3 ho hg))
          have OW3 := Lib.hid ho.out
          have B3 := Lib.hid (B2.out.grown hg.out B2.out.size (fun j hj => (OW2.out.lt j hj).1))
          clear ho hg
          go_wp2_with fail
          go_roundw
          case rel =>
            refine ⟨i + 1, k + 1, p', c', rfl, by go_num, by omega, by omega, by omega, Lib.hid ⟨?_, ?_, B3.out⟩⟩
            · rw [HF.out, List.length_append, ← HA.out.1]; rfl
            · rw [HF.out]; exact OW3.out
          case measure => simp [intOf]; omega
        | false =>
          have HF : Hid ((l.take (i + 1)).filter okC = (l.take i).filter okC) := Lib.hid (by rw [HT.out, HO.out]; simp)
          go_wp2_with fail
          refine (HC.out _).mono ?_
          rintro e w1 ⟨rfl, b1⟩
          have OW1 := Lib.hid (own_below HA.out.2.1 b1)
          have B1 := Lib.hid (Below.step HA.out.2.2 b1)
          clear b1
          go_wp2_with fail
          go_roundw
          case rel => exact ⟨i + 1, k, q, c, rfl, by go_num, by omega, by omega, by omega, Lib.hid ⟨by rw [HF.out]; exact HA.out.1, by rw [HF.out]; exact OW1.out, B1.out⟩⟩
          case measure => simp [intOf]; omega
      · have d1 : decide ((x.s.size : Int) ≤ 100) = false := decide_eq_false (by omega)
        have HF : Hid ((l.take (i + 1)).filter okC = (l.take i).filter okC) := Lib.hid (by
          have ho : okC x = false := by unfold okC; rw [decide_eq_false hs, Bool.false_and]
          rw [HT.out, ho]; simp)
        clear hs
        go_wp2_with fail
        go_roundw
        case rel => exact ⟨i + 1, k, q, c, rfl, by go_num, by omega, by omega, by omega, Lib.hid ⟨by rw [HF.out]; exact HA.out.1, by rw [HF.out]; exact HA.out.2.1, HA.out.2.2⟩⟩
        case measure => simp [intOf]; omega
    · have HP : Hid (pickC l = (l.take i).filter okC) := Lib.hid (by
        unfold pickC
        have h : l.take 8 = l.take i := by
          have := HN.out
          rcases Nat.lt_or_ge i 8 with h8 | h8
          · have hin2 : n ≤ i := Nat.le_of_not_lt fun h => hlt ⟨h, h8⟩
            rw [List.take_of_length_le (by omega), List.take_of_length_le (by omega)]
          · rw [show i = 8 from by omega]
        rw [h])
      have fin : CellsOut l w (.returned (.slice q k c)) wr := ⟨q, c, by rw [HP.out, ← HA.out.1], Lib.hid (by rw [HP.out, ← HA.out.1]; exact HA.out.2.1), HA.out.2.2⟩
      have FIN := Lib.hid fin
      clear fin
      by_cases h1 : i < n
      · have dt1 : decide ((i : Int) < (n : Int)) = true := decide_eq_true (by omega)
        have dt2 : decide ((i : Int) < 8) = false := decide_eq_false (by omega)
        clear hlt
        go_wp2_with fail
        go_ret
        exact FIN.out
      · have dt1 : decide ((i : Int) < (n : Int)) = false := decide_eq_false (by omega)
        clear hlt
        go_wp2_with fail
        go_ret
        exact FIN.out
end Go.Proofs.YtfhnbpilbbbckaaGreatDoor
