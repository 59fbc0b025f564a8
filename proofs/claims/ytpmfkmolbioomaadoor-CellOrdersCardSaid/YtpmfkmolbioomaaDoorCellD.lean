/- Contracts of the document's answers for cells: Input, Str, Compare. -/
import Derived.Test.YtpmfkmolbioomaaDoorCellC
import Derived.Test.YtpmfkmolbioomaaDoorRefShow
import Derived.Test.YtpmfkmolbioomaaDoorRefQ
namespace Go.Proofs.YtpmfkmolbioomaaDoor
open Go.RowKit
open Go.Lib (compareBytes)

theorem refShow_is (n : Int) (w : World) (hn : Fits n) :
    Calls Tryd.prog 22 #[.int .i64 n] w fun e w' => e = .returned (.string (showT n)) ∧ Below w.heap.size w w' :=
  (refShow_any n w hn).mono fun _ _ ⟨_, ht, he, hb⟩ => ⟨by rw [he, showT_of ht], hb⟩

theorem ref_cases (t : ByteArray) :
    (wholeB t = true ∧ pR t.data.toList = 0 ∧ pE t.data.toList = t.size ∧ 0 < t.size) ∨
    (wholeB t = false ∧ ¬ 0 < t.size) ∨
    (wholeB t = false ∧ 0 < t.size ∧ ((pE t.data.toList : Int) == (t.size : Int)) = false) ∨
    (wholeB t = false ∧ 0 < t.size ∧ pE t.data.toList = t.size ∧ (pR t.data.toList == 0) = false) := by
  by_cases h0 : 0 < t.size
  · by_cases h2 : pE t.data.toList = t.size
    · by_cases h3 : pR t.data.toList = 0
      · exact Or.inl ⟨by unfold wholeB; rw [h2, h3, decide_eq_true (show t.size ≠ 0 by omega)]; simp, h3, h2, h0⟩
      · exact Or.inr (Or.inr (Or.inr ⟨by unfold wholeB; rw [decide_eq_false h3]; simp, h0, h2, beq_eq_false_iff_ne.2 h3⟩))
    · exact Or.inr (Or.inr (Or.inl ⟨by unfold wholeB; rw [decide_eq_false h2]; simp, h0, by rw [beq_eq_false_iff_ne]; omega⟩))
  · refine Or.inr (Or.inl ⟨?_, h0⟩)
    unfold wholeB
    by_cases h2 : pE t.data.toList = t.size
    · rw [h2, decide_eq_false (show ¬ t.size ≠ 0 by omega)]; simp
    · rw [decide_eq_false h2]; simp

set_option maxHeartbeats 1000000 in
theorem refInput_any (s : ByteArray) (hs : s.size ≤ 300) (w : World) :
    Calls Tryd.prog 11 #[.string s] w fun e w' => e = .returned (.agg #[.int .i64 (inK s), .int .i64 (inN s), .string s]) ∧ Below w.heap.size w w' := by
  have T := Lib.hid (fun w => refTrim_any s (by simp only [maxLen]; omega) w)
  have P := Lib.hid (fun w => refParse_any (trimB s) w (by have := trimB_size s; omega))
  have hz : (trimB s).size ≤ 300 := by have := trimB_size s; omega
  have P3 := Lib.hid (parse_three (trimB s).data.toList)
  have R0 := Lib.hid (tri_new w (.int .i64 0) (.int .i64 0) (.string ⟨#[]⟩) 24)
  have B0 := Lib.hid (below_new w (.cells #[.int .i64 0, .int .i64 0, .string ⟨#[]⟩] 24))
  clear hs
  unfold inK inN looksB
  rcases ref_cases (trimB s) with ⟨h0, h1, h2, h3⟩ | ⟨h0, h1⟩ | ⟨h0, h1, h2⟩ | ⟨h0, h1, h2, h3⟩
  · rw [h0, if_pos rfl, if_pos rfl]
    rw [h1, h2] at P3
    clear h1 h2
    clear h0
    go_enter Tryd.func11, Tryd.ntmps11
    go_wp2_with fail
    refine (T.out _).mono ?_
    rintro e w1 ⟨rfl, rfl⟩
    go_wp2_with fail
    refine (P.out _).mono ?_
    rintro e w2 ⟨rfl, b2⟩
    have R2 := Lib.hid (R0.out.below b2)
    have B2 := Lib.hid (Below.step B0.out b2); clear b2
    have c0 := R2.out.c0; have c1 := R2.out.c1; have c2 := R2.out.c2; have f0 := R2.out.f0; have f1 := R2.out.f1; have f2 := R2.out.f2
    rw [P3.out]
    go_wp2_with fail
    obtain ⟨e0, e1, e2, hb⟩ := tri_end R2.out B2.out (.int .i64 3) (.int .i64 (pN (trimB s).data.toList)) (.string s)
    refine bodyPost_ret (v := .agg #[.int .i64 3, .int .i64 (pN (trimB s).data.toList), .string s]) (by simp [results, Tryd.results11, go_sem, e0, e1, e2]) rfl ⟨rfl, hb⟩
  · rw [h0, if_neg (by decide), if_neg (by decide)]
    clear h0
    go_enter Tryd.func11, Tryd.ntmps11
    go_wp2_with fail
    refine (T.out _).mono ?_
    rintro e w1 ⟨rfl, rfl⟩
    go_wp2_with fail
    refine (P.out _).mono ?_
    rintro e w2 ⟨rfl, b2⟩
    have R2 := Lib.hid (R0.out.below b2)
    have B2 := Lib.hid (Below.step B0.out b2); clear b2
    have c0 := R2.out.c0; have c1 := R2.out.c1; have c2 := R2.out.c2; have f0 := R2.out.f0; have f1 := R2.out.f1; have f2 := R2.out.f2
    rw [P3.out]
    go_wp2_with fail
    obtain ⟨e0, e1, e2, hb⟩ := tri_end R2.out B2.out (.int .i64 2) (.int .i64 0) (.string s)
    refine bodyPost_ret (v := .agg #[.int .i64 2, .int .i64 0, .string s]) (by simp [results, Tryd.results11, go_sem, e0, e1, e2]) rfl ⟨rfl, hb⟩
  · rw [h0, if_neg (by decide), if_neg (by decide)]
    clear h0
    go_enter Tryd.func11, Tryd.ntmps11
    go_wp2_with fail
    refine (T.out _).mono ?_
    rintro e w1 ⟨rfl, rfl⟩
    go_wp2_with fail
    refine (P.out _).mono ?_
    rintro e w2 ⟨rfl, b2⟩
    have R2 := Lib.hid (R0.out.below b2)
    have B2 := Lib.hid (Below.step B0.out b2); clear b2
    have c0 := R2.out.c0; have c1 := R2.out.c1; have c2 := R2.out.c2; have f0 := R2.out.f0; have f1 := R2.out.f1; have f2 := R2.out.f2
    rw [P3.out]
    go_wp2_with fail
    obtain ⟨e0, e1, e2, hb⟩ := tri_end R2.out B2.out (.int .i64 2) (.int .i64 0) (.string s)
    refine bodyPost_ret (v := .agg #[.int .i64 2, .int .i64 0, .string s]) (by simp [results, Tryd.results11, go_sem, e0, e1, e2]) rfl ⟨rfl, hb⟩
  · rw [h0, if_neg (by decide), if_neg (by decide)]
    rw [h2] at P3
    clear h2
    clear h0
    go_enter Tryd.func11, Tryd.ntmps11
    go_wp2_with fail
    refine (T.out _).mono ?_
    rintro e w1 ⟨rfl, rfl⟩
    go_wp2_with fail
    refine (P.out _).mono ?_
    rintro e w2 ⟨rfl, b2⟩
    have R2 := Lib.hid (R0.out.below b2)
    have B2 := Lib.hid (Below.step B0.out b2); clear b2
    have c0 := R2.out.c0; have c1 := R2.out.c1; have c2 := R2.out.c2; have f0 := R2.out.f0; have f1 := R2.out.f1; have f2 := R2.out.f2
    rw [P3.out]
    go_wp2_with fail
    obtain ⟨e0, e1, e2, hb⟩ := tri_end R2.out B2.out (.int .i64 2) (.int .i64 0) (.string s)
    refine bodyPost_ret (v := .agg #[.int .i64 2, .int .i64 0, .string s]) (by simp [results, Tryd.results11, go_sem, e0, e1, e2]) rfl ⟨rfl, hb⟩

theorem refStr_any (k n : Int) (s : ByteArray) (hn : Fits n) (w : World) :
    Calls Tryd.prog 31 #[.agg #[.int .i64 k, .int .i64 n, .string s]] w fun e w' => e = .returned (.string (strC k n s)) ∧ Below w.heap.size w w' := by
  have S := Lib.hid (fun w => refShow_is n w hn)
  have B0 := Lib.hid ((Below.refl w.heap.size w).alloc (Nat.le_refl _) (.cells #[.int .i64 k, .int .i64 n, .string s] 24))
  rcases kind_cases k with rfl | rfl | rfl | rfl | ⟨g0, g1, g2, g3⟩
  · go_enter Tryd.func31, Tryd.ntmps31
    go_wp2_with fail
    go_ret
    exact ⟨rfl, B0.out⟩
  · go_enter Tryd.func31, Tryd.ntmps31
    go_wp2_with fail
    refine (S.out _).mono ?_
    rintro e w1 ⟨rfl, b1⟩
    have B1 := Lib.hid (Below.step B0.out b1); clear b1
    go_wp2_with fail
    go_ret
    exact ⟨rfl, B1.out⟩
  · go_enter Tryd.func31, Tryd.ntmps31
    go_wp2_with fail
    go_ret
    exact ⟨rfl, B0.out⟩
  · go_enter Tryd.func31, Tryd.ntmps31
    go_wp2_with fail
    go_ret
    exact ⟨rfl, B0.out⟩
  · have e : strC k n s = ⟨#[]⟩ := by
      rw [beq_eq_false_iff_ne] at g1 g2 g3
      unfold strC
      rw [if_neg g1, if_neg (by simp [g2, g3])]
    rw [e]; clear e
    go_enter Tryd.func31, Tryd.ntmps31
    go_wp2_with fail
    go_ret
    exact ⟨rfl, B0.out⟩

theorem showT_size (n : Int) : (showT n).size ≤ 21 := by
  have h := showText_len n
  rw [Lib.size_eq]
  exact h
theorem strC_size (k n : Int) (s : ByteArray) (hs : s.size ≤ 300) : (strC k n s).size ≤ 300 := by
  unfold strC
  split
  · have := showT_size n; omega
  · split
    · exact hs
    · exact Nat.zero_le _

def refCmpC (k n : Int) (s : ByteArray) (k' n' : Int) (s' : ByteArray) : Int :=
  if k = 2 ∨ k' = 2 then compareBytes (strC k n s).data.toList (strC k' n' s').data.toList else if n = n' then 0 else if n < n' then -1 else 1

set_option maxHeartbeats 1000000 in
theorem refCompare_cell (k n : Int) (s : ByteArray) (k' n' : Int) (s' : ByteArray) (hn : Fits n) (hn' : Fits n') (hs : s.size ≤ 300) (hs' : s'.size ≤ 300) (w : World) :
    Calls Tryd.prog 17 #[.agg #[.int .i64 k, .int .i64 n, .string s], .agg #[.int .i64 k', .int .i64 n', .string s']] w fun e w' => e = .returned (.int .i64 (refCmpC k n s k' n' s')) ∧ Below w.heap.size w w' := by
  have S1 := Lib.hid (fun w => refStr_any k n s hn w)
  have S2 := Lib.hid (fun w => refStr_any k' n' s' hn' w)
  have C := Lib.hid (fun w => refCompare_any (strC k n s) (strC k' n' s') (by have := strC_size k n s hs; simp only [maxLen]; omega) (by have := strC_size k' n' s' hs'; simp only [maxLen]; omega) w)
  have B0 := boxed2 w (.int .i64 k) (.int .i64 n) (.string s) (.int .i64 k') (.int .i64 n') (.string s') 24 24
  have H0 := Lib.hid (held2 B0.1.out B0.2.1 B0.2.2)
  by_cases h : k = 2 ∨ k' = 2
  · unfold refCmpC
    rw [if_pos h]
    have hb : (k == 2) = true ∨ ((k == 2) = false ∧ (k' == 2) = true) := by
      rw [beq_iff_eq, beq_iff_eq, beq_eq_false_iff_ne]; omega
    clear h hn hn' B0 hs hs'
    rcases hb with hb | ⟨hb, hb'⟩
    all_goals
      go_enter Tryd.func17, Tryd.ntmps17
      go_wp2_with fail
      go_region_held3 (fun w' => Hid (Below w.heap.size w w') ∧ w'.cell? ⟨w.heap.size, 0, none⟩ = some (.int .i64 k) ∧ w'.cell? ⟨w.heap.size, 1, none⟩ = some (.int .i64 n) ∧ w'.cell? ⟨w.heap.size, 2, none⟩ = some (.string s) ∧ w'.cell? ⟨w.heap.size + 1, 0, none⟩ = some (.int .i64 k') ∧ w'.cell? ⟨w.heap.size + 1, 1, none⟩ = some (.int .i64 n') ∧ w'.cell? ⟨w.heap.size + 1, 2, none⟩ = some (.string s'))
        (first | exact keep2 H0.out (below_drew _) | exact keep2 (by assumption) (by assumption) | assumption)
        (first
          | (go_at_call_of 31 (Value.agg #[.int .i64 k, .int .i64 n, .string s]); refine (S1.out _).mono ?_; rintro e w1 ⟨rfl, b1⟩)
          | (go_at_call_of 31 (Value.agg #[.int .i64 k', .int .i64 n', .string s']); refine (S2.out _).mono ?_; rintro e w1 ⟨rfl, b1⟩)
          | (go_at_call 30; refine (C.out _).mono ?_; rintro e w1 ⟨rfl, b1⟩))
      all_goals
        have HE := Lib.hid (And.left (show Hid _ ∧ _ by assumption))
        go_wp2_with fail
        go_ret
        exact ⟨rfl, HE.out.out⟩
  · unfold refCmpC
    rw [if_neg h]
    have g1 : (k == 2) = false := by rw [beq_eq_false_iff_ne]; omega
    have g2 : (k' == 2) = false := by rw [beq_eq_false_iff_ne]; omega
    have HB := Lib.hid B0.1.out
    clear h hn hn' B0 H0 S1 S2 C hs hs'
    by_cases h1 : n = n'
    · rw [if_pos h1]
      subst h1
      go_enter Tryd.func17, Tryd.ntmps17
      go_wp2_with fail
      go_ret
      exact ⟨rfl, HB.out⟩
    · rw [if_neg h1]
      by_cases h2 : n < n'
      · rw [if_pos h2]
        go_enter Tryd.func17, Tryd.ntmps17
        go_wp2_with fail
        go_ret
        exact ⟨rfl, HB.out⟩
      · rw [if_neg h2]
        go_enter Tryd.func17, Tryd.ntmps17
        go_wp2_with fail
        go_ret
        exact ⟨rfl, HB.out⟩
end Go.Proofs.YtpmfkmolbioomaaDoor
