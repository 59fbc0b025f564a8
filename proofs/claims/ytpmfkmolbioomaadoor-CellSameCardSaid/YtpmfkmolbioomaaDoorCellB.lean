/- Contracts of cell.Input, Compare. -/
import Derived.Test.YtpmfkmolbioomaaDoorCellA
import Derived.Test.YtpmfkmolbioomaaDoorTri
namespace Go.Proofs.YtpmfkmolbioomaaDoor
open Go.RowKit
open Go.Lib (compareBytes)

/-! ### Input -/
def looksB (s : ByteArray) : Bool := wholeB (trimB s)
def inK (s : ByteArray) : Int := if looksB s then 3 else 2
def inN (s : ByteArray) : Int := if looksB s then pN (trimB s).data.toList else 0

theorem dropWhile_le (p : UInt8 → Bool) : ∀ l : List UInt8, (l.dropWhile p).length ≤ l.length
  | [] => Nat.le_refl _
  | a :: l => by
    rw [List.dropWhile_cons]
    split
    · have := dropWhile_le p l; simp; omega
    · exact Nat.le_refl _
theorem trimB_size (s : ByteArray) : (trimB s).size ≤ s.size := by
  have h : (Lib.trimS s.data.toList [32, 9, 10]).length ≤ s.data.toList.length := by
    unfold Lib.trimS Lib.trimLeftS Lib.trimRightS
    refine Nat.le_trans (dropWhile_le _ _) ?_
    rw [List.length_reverse]
    refine Nat.le_trans (dropWhile_le _ _) ?_
    rw [List.length_reverse]
    exact Nat.le_refl _
  rw [Lib.size_eq, Lib.size_eq]
  exact h

set_option maxHeartbeats 400000 in
theorem input_any (s : ByteArray) (hs : s.size ≤ 281474976710656) (w : World) :
    Calls Tryd.prog 10 #[.string s] w fun e w' => e = .returned (.agg #[.int .i64 (inK s), .int .i64 (inN s), .string s]) ∧ Below w.heap.size w w' := by
  have T := Lib.hid (fun w => textTrim_any s (by simp only [maxLen]; omega) w)
  have W := Lib.hid (fun w => whole_any (trimB s) (by have := trimB_size s; omega) w)
  have O := Lib.hid (fun w => ofStr_any s w)
  have R0 := Lib.hid (tri_new w (.int .i64 0) (.int .i64 0) (.string ⟨#[]⟩) 24)
  have B0 := Lib.hid (below_new w (.cells #[.int .i64 0, .int .i64 0, .string ⟨#[]⟩] 24))
  clear hs
  unfold inK inN looksB
  cases hw : wholeB (trimB s)
  · rw [hw] at W
    rw [if_neg (by decide), if_neg (by decide)]
    clear hw
    go_enter Tryd.func10, Tryd.ntmps10
    go_wp2_with fail
    refine (T.out _).mono ?_
    rintro e w1 ⟨rfl, b1⟩
    have R1 := Lib.hid (R0.out.below b1)
    have B1 := Lib.hid (Below.step B0.out b1); clear b1
    go_wp2_with fail
    refine (W.out _).mono ?_
    rintro e w2 ⟨rfl, rfl⟩
    go_wp2_with fail
    refine (O.out _).mono ?_
    rintro e w3 ⟨rfl, b3⟩
    have R3 := R1.out.below b3
    have B3 := Lib.hid (Below.step B1.out b3); clear b3
    have c0 := R3.c0; have c1 := R3.c1; have c2 := R3.c2; have f0 := R3.f0; have f1 := R3.f1; have f2 := R3.f2
    have R3' := Lib.hid R3; clear R3
    go_wp2_with fail
    obtain ⟨e0, e1, e2, hb⟩ := tri_end R3'.out B3.out (.int .i64 2) (.int .i64 0) (.string s)
    refine bodyPost_ret (v := .agg #[.int .i64 2, .int .i64 0, .string s]) (by simp [results, Tryd.results10, go_sem, e0, e1, e2]) rfl ⟨rfl, hb⟩
  · rw [hw] at W
    rw [if_pos rfl, if_pos rfl]
    clear hw
    go_enter Tryd.func10, Tryd.ntmps10
    go_wp2_with fail
    refine (T.out _).mono ?_
    rintro e w1 ⟨rfl, b1⟩
    have R1 := Lib.hid (R0.out.below b1)
    have B1 := Lib.hid (Below.step B0.out b1); clear b1
    have c0 := R1.out.c0; have c1 := R1.out.c1; have c2 := R1.out.c2; have f0 := R1.out.f0; have f1 := R1.out.f1; have f2 := R1.out.f2
    go_wp2_with fail
    refine (W.out _).mono ?_
    rintro e w2 ⟨rfl, rfl⟩
    go_wp2_with fail
    obtain ⟨e0, e1, e2, hb⟩ := tri_end R1.out B1.out (.int .i64 3) (.int .i64 (pN (trimB s).data.toList)) (.string s)
    refine bodyPost_ret (v := .agg #[.int .i64 3, .int .i64 (pN (trimB s).data.toList), .string s]) (by simp [results, Tryd.results10, go_sem, e0, e1, e2]) rfl ⟨rfl, hb⟩

/-! ### Compare -/
def cmpC (k n : Int) (s : ByteArray) (k' n' : Int) (s' : ByteArray) : Int :=
  if k = 2 ∨ k' = 2 then compareBytes (strC k n s).data.toList (strC k' n' s').data.toList else cmpI (numC k n) (numC k' n')

theorem boxed2 (w : World) (x y z x' y' z' : Value) (t t' : TypeId) :
    Hid (Below w.heap.size w ((w.alloc (.cells #[x, y, z] t)).alloc (.cells #[x', y', z'] t'))) ∧ Tri ((w.alloc (.cells #[x, y, z] t)).alloc (.cells #[x', y', z'] t')) w.heap.size x y z ∧ Tri ((w.alloc (.cells #[x, y, z] t)).alloc (.cells #[x', y', z'] t')) (w.heap.size + 1) x' y' z' := by
  have h := tri_new (w.alloc (.cells #[x, y, z] t)) x' y' z' t'
  rw [World.size_alloc] at h
  exact ⟨Lib.hid (Below.step (below_new _ _) (below_new _ _)), (tri_new w x y z t).below (below_new _ _), h⟩

set_option maxHeartbeats 1000000 in
theorem compare_cell (k n : Int) (s : ByteArray) (k' n' : Int) (s' : ByteArray) (hn : Fits n) (hn' : Fits n') (w : World) :
    Calls Tryd.prog 16 #[.agg #[.int .i64 k, .int .i64 n, .string s], .agg #[.int .i64 k', .int .i64 n', .string s']] w fun e w' => e = .returned (.int .i64 (cmpC k n s k' n' s')) ∧ Below w.heap.size w w' := by
  have S1 := Lib.hid (fun w => str_any k n s hn w)
  have S2 := Lib.hid (fun w => str_any k' n' s' hn' w)
  have C := Lib.hid (fun w => compare_any (strC k n s) (strC k' n' s') w)
  have B0 := boxed2 w (.int .i64 k) (.int .i64 n) (.string s) (.int .i64 k') (.int .i64 n') (.string s') 24 24
  have H0 := Lib.hid (held2 B0.1.out B0.2.1 B0.2.2)
  by_cases h : k = 2 ∨ k' = 2
  · unfold cmpC
    rw [if_pos h]
    have hb : (k == 2) = true ∨ ((k == 2) = false ∧ (k' == 2) = true) := by
      rw [beq_iff_eq, beq_iff_eq, beq_eq_false_iff_ne]; omega
    clear h hn hn' B0
    rcases hb with hb | ⟨hb, hb'⟩
    all_goals
      go_enter Tryd.func16, Tryd.ntmps16
      go_wp2_with fail
      go_region_held3 (fun w' => Hid (Below w.heap.size w w') ∧ w'.cell? ⟨w.heap.size, 0, none⟩ = some (.int .i64 k) ∧ w'.cell? ⟨w.heap.size, 1, none⟩ = some (.int .i64 n) ∧ w'.cell? ⟨w.heap.size, 2, none⟩ = some (.string s) ∧ w'.cell? ⟨w.heap.size + 1, 0, none⟩ = some (.int .i64 k') ∧ w'.cell? ⟨w.heap.size + 1, 1, none⟩ = some (.int .i64 n') ∧ w'.cell? ⟨w.heap.size + 1, 2, none⟩ = some (.string s'))
        (first | exact keep2 H0.out (below_drew _) | exact keep2 (by assumption) (by assumption) | assumption)
        (first
          | (go_at_call_of 21 (Value.agg #[.int .i64 k, .int .i64 n, .string s]); refine (S1.out _).mono ?_; rintro e w1 ⟨rfl, b1⟩)
          | (go_at_call_of 21 (Value.agg #[.int .i64 k', .int .i64 n', .string s']); refine (S2.out _).mono ?_; rintro e w1 ⟨rfl, b1⟩)
          | (go_at_call 27; refine (C.out _).mono ?_; rintro e w1 ⟨rfl, rfl⟩))
      all_goals
        have HE := Lib.hid (And.left (show Hid _ ∧ _ by assumption))
        go_wp2_with fail
        go_ret
        exact ⟨rfl, HE.out.out⟩
  · unfold cmpC
    rw [if_neg h]
    have g1 : (k == 2) = false := by rw [beq_eq_false_iff_ne]; omega
    have g2 : (k' == 2) = false := by rw [beq_eq_false_iff_ne]; omega
    have N1 := Lib.hid (fun w => num_cell k n s (by omega) w)
    have N2 := Lib.hid (fun w => num_cell k' n' s' (by omega) w)
    have CM := Lib.hid (fun w => cmp_any (numC k n) (numC k' n') w)
    have HT := Lib.hid B0.2.2
    have HB := Lib.hid B0.1.out
    clear h hn hn' B0 H0 S1 S2 C
    go_enter Tryd.func16, Tryd.ntmps16
    go_wp2_with fail
    refine (N1.out _).mono ?_
    rintro e w1 ⟨rfl, b1⟩
    have T1 := HT.out.below b1
    have c0 := T1.c0; have c1 := T1.c1; have c2 := T1.c2
    have B1 := Lib.hid (Below.step HB.out b1); clear b1 T1
    go_wp2_with fail
    refine (N2.out _).mono ?_
    rintro e w2 ⟨rfl, b2⟩
    have B2 := Lib.hid (Below.step B1.out b2); clear b2
    go_wp2_with fail
    refine (CM.out _).mono ?_
    rintro e w3 ⟨rfl, rfl⟩
    go_wp2_with fail
    go_ret
    exact ⟨rfl, B2.out⟩
end Go.Proofs.YtpmfkmolbioomaaDoor
