/- Contract of cell.Can. -/
import Derived.Test.YtpmfkmolbioomaaDoorCellB
namespace Go.Proofs.YtpmfkmolbioomaaDoor
open Go.RowKit

/-- There can be such a cell. -/
def canB (k n : Int) (s : ByteArray) : Bool :=
  if k = 0 then decide (n = 0 ∧ s.toList = []) else if k = 1 then decide (s.toList = []) else if k = 2 then decide (n = 0) else if k = 3 then decide (looksB s = true ∧ n = inN s) else false
theorem canB_0 (n : Int) (s : ByteArray) : canB 0 n s = decide (n = 0 ∧ s.toList = []) := rfl
theorem canB_1 (n : Int) (s : ByteArray) : canB 1 n s = decide (s.toList = []) := rfl
theorem canB_2 (n : Int) (s : ByteArray) : canB 2 n s = decide (n = 0) := rfl
theorem canB_3 (n : Int) (s : ByteArray) : canB 3 n s = decide (looksB s = true ∧ n = inN s) := rfl
theorem canB_else {k : Int} (n : Int) (s : ByteArray) (g0 : (k == 0) = false) (g1 : (k == 1) = false) (g2 : (k == 2) = false) (g3 : (k == 3) = false) : canB k n s = false := by
  rw [beq_eq_false_iff_ne] at g0 g1 g2 g3
  unfold canB
  rw [if_neg g0, if_neg g1, if_neg g2, if_neg g3]

/-- How a cell stands: what it is, and that it can be or can't. -/
theorem can_cases (k n : Int) (s : ByteArray) :
    (k = 0 ∧ n = 0 ∧ s.toList = [] ∧ canB k n s = true) ∨ (k = 0 ∧ n = 0 ∧ ¬ s.toList = [] ∧ canB k n s = false) ∨ (k = 0 ∧ ¬ n = 0 ∧ canB k n s = false) ∨
    (k = 1 ∧ s.toList = [] ∧ canB k n s = true) ∨ (k = 1 ∧ ¬ s.toList = [] ∧ canB k n s = false) ∨
    (k = 2 ∧ n = 0 ∧ canB k n s = true) ∨ (k = 2 ∧ ¬ n = 0 ∧ canB k n s = false) ∨
    (k = 3 ∧ inK s = 3 ∧ n = inN s ∧ canB k n s = true) ∨ (k = 3 ∧ inK s = 3 ∧ ¬ n = inN s ∧ canB k n s = false) ∨ (k = 3 ∧ inK s = 2 ∧ canB k n s = false) ∨
    ((k == 0) = false ∧ (k == 1) = false ∧ (k == 2) = false ∧ (k == 3) = false ∧ canB k n s = false) := by
  rcases kind_cases k with rfl | rfl | rfl | rfl | ⟨g0, g1, g2, g3⟩
  · rw [canB_0]
    by_cases h1 : n = 0
    · by_cases h2 : s.toList = []
      · exact Or.inl ⟨rfl, h1, h2, decide_eq_true ⟨h1, h2⟩⟩
      · exact Or.inr (Or.inl ⟨rfl, h1, h2, decide_eq_false (fun h => h2 h.2)⟩)
    · exact Or.inr (Or.inr (Or.inl ⟨rfl, h1, decide_eq_false (fun h => h1 h.1)⟩))
  · rw [canB_1]
    by_cases h2 : s.toList = []
    · exact Or.inr (Or.inr (Or.inr (Or.inl ⟨rfl, h2, decide_eq_true h2⟩)))
    · exact Or.inr (Or.inr (Or.inr (Or.inr (Or.inl ⟨rfl, h2, decide_eq_false h2⟩))))
  · rw [canB_2]
    by_cases h1 : n = 0
    · exact Or.inr (Or.inr (Or.inr (Or.inr (Or.inr (Or.inl ⟨rfl, h1, decide_eq_true h1⟩)))))
    · exact Or.inr (Or.inr (Or.inr (Or.inr (Or.inr (Or.inr (Or.inl ⟨rfl, h1, decide_eq_false h1⟩))))))
  · rw [canB_3]
    by_cases h1 : looksB s = true
    · have hk : inK s = 3 := by unfold inK; rw [if_pos h1]
      by_cases h2 : n = inN s
      · exact Or.inr (Or.inr (Or.inr (Or.inr (Or.inr (Or.inr (Or.inr (Or.inl ⟨rfl, hk, h2, decide_eq_true ⟨h1, h2⟩⟩)))))))
      · exact Or.inr (Or.inr (Or.inr (Or.inr (Or.inr (Or.inr (Or.inr (Or.inr (Or.inl ⟨rfl, hk, h2, decide_eq_false (fun h => h2 h.2)⟩))))))))
    · have hk : inK s = 2 := by unfold inK; rw [if_neg h1]
      exact Or.inr (Or.inr (Or.inr (Or.inr (Or.inr (Or.inr (Or.inr (Or.inr (Or.inr (Or.inl ⟨rfl, hk, decide_eq_false (fun h => h1 h.1)⟩)))))))))
  · exact Or.inr (Or.inr (Or.inr (Or.inr (Or.inr (Or.inr (Or.inr (Or.inr (Or.inr (Or.inr ⟨g0, g1, g2, g3, canB_else n s g0 g1 g2 g3⟩)))))))))

theorem boxed1 (w : World) (x y z : Value) (t : TypeId) : Hid (Below w.heap.size w (w.alloc (.cells #[x, y, z] t))) ∧ Tri (w.alloc (.cells #[x, y, z] t)) w.heap.size x y z :=
  ⟨Lib.hid (below_new _ _), tri_new w x y z t⟩

set_option maxHeartbeats 4000000 in
theorem can_any (k n : Int) (s : ByteArray) (hs : s.size ≤ 281474976710656) (w : World) :
    Calls Tryd.prog 12 #[.agg #[.int .i64 k, .int .i64 n, .string s]] w fun e w' => e = .returned (.bool (canB k n s)) ∧ Below w.heap.size w w' := by
  have I := Lib.hid (fun w => input_any s hs w)
  have ON := Lib.hid (fun w => ofNum_any n w)
  have OS := Lib.hid (fun w => ofStr_any s w)
  have B0 := boxed1 w (.int .i64 k) (.int .i64 n) (.string s) 24
  have H0 := Lib.hid (held1 B0.1.out B0.2)
  have HB := B0.1
  clear B0 hs
  rcases can_cases k n s with ⟨rfl, rfl, h2, hc⟩ | ⟨rfl, rfl, h2, hc⟩ | ⟨rfl, h1, hc⟩ | ⟨rfl, h2, hc⟩ | ⟨rfl, h2, hc⟩ | ⟨rfl, rfl, hc⟩ | ⟨rfl, h1, hc⟩ | ⟨rfl, hk, rfl, hc⟩ | ⟨rfl, hk, hn, hc⟩ | ⟨rfl, hk, hc⟩ | ⟨g0, g1, g2, g3, hc⟩
  · rw [hc]; clear hc
    clear I ON OS
    go_enter Tryd.func12, Tryd.ntmps12
    go_wp2_with fail
    go_ret
    exact ⟨rfl, HB.out⟩
  · rw [hc]; clear hc
    clear I ON OS
    go_enter Tryd.func12, Tryd.ntmps12
    go_wp2_with fail
    go_ret
    exact ⟨rfl, HB.out⟩
  · rw [hc]; clear hc
    clear I ON OS
    go_enter Tryd.func12, Tryd.ntmps12
    go_wp2_with fail
    go_ret
    exact ⟨rfl, HB.out⟩
  · rw [hc]; clear hc
    go_enter Tryd.func12, Tryd.ntmps12
    go_wp2_with fail
    go_region_held3 (fun w' => Hid (Below w.heap.size w w') ∧ w'.cell? ⟨w.heap.size, 0, none⟩ = some (.int .i64 1) ∧ w'.cell? ⟨w.heap.size, 1, none⟩ = some (.int .i64 n) ∧ w'.cell? ⟨w.heap.size, 2, none⟩ = some (.string s))
      (first | exact keep1 H0.out (below_drew _) | exact keep1 (by assumption) (by assumption) | assumption)
      ((go_at_call 20; refine (ON.out _).mono ?_; rintro e w1 ⟨rfl, b1⟩))
    have HE := Lib.hid (And.left (show Hid _ ∧ _ by assumption))
    go_wp2_with fail
    go_ret
    exact ⟨rfl, HE.out.out⟩
  · rw [hc]; clear hc
    go_enter Tryd.func12, Tryd.ntmps12
    go_wp2_with fail
    go_region_held3 (fun w' => Hid (Below w.heap.size w w') ∧ w'.cell? ⟨w.heap.size, 0, none⟩ = some (.int .i64 1) ∧ w'.cell? ⟨w.heap.size, 1, none⟩ = some (.int .i64 n) ∧ w'.cell? ⟨w.heap.size, 2, none⟩ = some (.string s))
      (first | exact keep1 H0.out (below_drew _) | exact keep1 (by assumption) (by assumption) | assumption)
      ((go_at_call 20; refine (ON.out _).mono ?_; rintro e w1 ⟨rfl, b1⟩))
    have HE := Lib.hid (And.left (show Hid _ ∧ _ by assumption))
    go_wp2_with fail
    go_ret
    exact ⟨rfl, HE.out.out⟩
  · rw [hc]; clear hc
    go_enter Tryd.func12, Tryd.ntmps12
    go_wp2_with fail
    go_region_held3 (fun w' => Hid (Below w.heap.size w w') ∧ w'.cell? ⟨w.heap.size, 0, none⟩ = some (.int .i64 2) ∧ w'.cell? ⟨w.heap.size, 1, none⟩ = some (.int .i64 0) ∧ w'.cell? ⟨w.heap.size, 2, none⟩ = some (.string s))
      (first | exact keep1 H0.out (below_drew _) | exact keep1 (by assumption) (by assumption) | assumption)
      ((go_at_call 13; refine (OS.out _).mono ?_; rintro e w1 ⟨rfl, b1⟩))
    have HE := Lib.hid (And.left (show Hid _ ∧ _ by assumption))
    go_wp2_with fail
    go_ret
    exact ⟨rfl, HE.out.out⟩
  · rw [hc]; clear hc
    go_enter Tryd.func12, Tryd.ntmps12
    go_wp2_with fail
    go_region_held3 (fun w' => Hid (Below w.heap.size w w') ∧ w'.cell? ⟨w.heap.size, 0, none⟩ = some (.int .i64 2) ∧ w'.cell? ⟨w.heap.size, 1, none⟩ = some (.int .i64 n) ∧ w'.cell? ⟨w.heap.size, 2, none⟩ = some (.string s))
      (first | exact keep1 H0.out (below_drew _) | exact keep1 (by assumption) (by assumption) | assumption)
      ((go_at_call 13; refine (OS.out _).mono ?_; rintro e w1 ⟨rfl, b1⟩))
    have HE := Lib.hid (And.left (show Hid _ ∧ _ by assumption))
    go_wp2_with fail
    go_ret
    exact ⟨rfl, HE.out.out⟩
  · rw [hc]; clear hc
    rw [hk] at I
    go_enter Tryd.func12, Tryd.ntmps12
    go_wp2_with fail
    go_region_held3 (fun w' => Hid (Below w.heap.size w w') ∧ w'.cell? ⟨w.heap.size, 0, none⟩ = some (.int .i64 3) ∧ w'.cell? ⟨w.heap.size, 1, none⟩ = some (.int .i64 (inN s)) ∧ w'.cell? ⟨w.heap.size, 2, none⟩ = some (.string s))
      (first | exact keep1 H0.out (below_drew _) | exact keep1 (by assumption) (by assumption) | assumption)
      ((go_at_call 10; refine (I.out _).mono ?_; rintro e w1 ⟨rfl, b1⟩))
    have HE := Lib.hid (And.left (show Hid _ ∧ _ by assumption))
    go_wp2_with fail
    go_ret
    exact ⟨rfl, HE.out.out⟩
  · rw [hc]; clear hc
    rw [hk] at I
    go_enter Tryd.func12, Tryd.ntmps12
    go_wp2_with fail
    go_region_held3 (fun w' => Hid (Below w.heap.size w w') ∧ w'.cell? ⟨w.heap.size, 0, none⟩ = some (.int .i64 3) ∧ w'.cell? ⟨w.heap.size, 1, none⟩ = some (.int .i64 n) ∧ w'.cell? ⟨w.heap.size, 2, none⟩ = some (.string s))
      (first | exact keep1 H0.out (below_drew _) | exact keep1 (by assumption) (by assumption) | assumption)
      ((go_at_call 10; refine (I.out _).mono ?_; rintro e w1 ⟨rfl, b1⟩))
    have HE := Lib.hid (And.left (show Hid _ ∧ _ by assumption))
    go_wp2_with fail
    go_ret
    exact ⟨rfl, HE.out.out⟩
  · rw [hc]; clear hc
    rw [hk] at I
    go_enter Tryd.func12, Tryd.ntmps12
    go_wp2_with fail
    go_region_held3 (fun w' => Hid (Below w.heap.size w w') ∧ w'.cell? ⟨w.heap.size, 0, none⟩ = some (.int .i64 3) ∧ w'.cell? ⟨w.heap.size, 1, none⟩ = some (.int .i64 n) ∧ w'.cell? ⟨w.heap.size, 2, none⟩ = some (.string s))
      (first | exact keep1 H0.out (below_drew _) | exact keep1 (by assumption) (by assumption) | assumption)
      ((go_at_call 10; refine (I.out _).mono ?_; rintro e w1 ⟨rfl, b1⟩))
    have HE := Lib.hid (And.left (show Hid _ ∧ _ by assumption))
    go_wp2_with fail
    go_ret
    exact ⟨rfl, HE.out.out⟩
  · rw [hc]; clear hc
    clear I ON OS
    go_enter Tryd.func12, Tryd.ntmps12
    go_wp2_with fail
    go_ret
    exact ⟨rfl, HB.out⟩
end Go.Proofs.YtpmfkmolbioomaaDoor
