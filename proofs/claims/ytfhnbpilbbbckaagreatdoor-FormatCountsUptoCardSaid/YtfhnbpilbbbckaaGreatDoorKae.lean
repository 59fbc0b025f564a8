/- Merged by program: T9Can. -/
import Derived.Test.YtfhnbpilbbbckaaGreatDoorHaw
import Derived.Test.YtfhnbpilbbbckaaGreatDoorKad
/- The document's Input and Can at texts of up to 1048576 bytes. -/
namespace Go.Proofs.YtfhnbpilbbbckaaGreatDoor.T9
open Go.Proofs.YtfhnbpilbbbckaaGreatDoor.T3
open Go.Proofs.YtfhnbpilbbbckaaGreatDoor Go.Proofs
open Go.RowKit
open Go.Lib (compareBytes)

set_option maxHeartbeats 1000000 in
theorem refInput_any (s : ByteArray) (hs : s.size ≤ 1048576) (w : World) :
    Calls Tryz.prog 22 #[.string s] w fun e w' => e = .returned (.agg #[.int .i64 (inK s), .int .i64 (inN s), .string s]) ∧ Below w.heap.size w w' := by
  have T := Lib.hid (fun w => refTrim_any s (by simp only [maxLen]; omega) w)
  have P := Lib.hid (fun w => refParse_any (trimB s) w (by have := trimB_size s; omega))
  have hz : (trimB s).size ≤ 1048576 := by have := trimB_size s; omega
  have P3 := Lib.hid (parse_three (trimB s).data.toList)
  have R0 := Lib.hid (tri_new w (.int .i64 0) (.int .i64 0) (.string ⟨#[]⟩) 30)
  have B0 := Lib.hid (below_new w (.cells #[.int .i64 0, .int .i64 0, .string ⟨#[]⟩] 30))
  clear hs
  unfold inK inN looksB
  rcases ref_cases (trimB s) with ⟨h0, h1, h2, h3⟩ | ⟨h0, h1⟩ | ⟨h0, h1, h2⟩ | ⟨h0, h1, h2, h3⟩
  · rw [h0, if_pos rfl, if_pos rfl]
    rw [h1, h2] at P3
    clear h1 h2
    clear h0
    go_enter Tryz.func22, Tryz.ntmps22
    go_wp2_with fail
    refine (T.out _).mono ?_
    rintro e w1 ⟨rfl, rfl⟩
    go_wp2_with fail
    refine (P.out _).mono ?_
    rintro e w2 ⟨rfl, b2⟩
    have R2 := Lib.hid (R0.out.below b2)
    have B2 := Lib.hid (Below.step B0.out b2); clear b2
    have c0 := R2.out.c0; have c1 := R2.out.c1; have c2 := R2.out.c2; have f0 := R2.out.f0; have f1 := R2.out.f1; have f2 := R2.out.f2
    rw [P3.out]
    go_wp2_with fail
    obtain ⟨e0, e1, e2, hb⟩ := tri_end R2.out B2.out (.int .i64 3) (.int .i64 (pN (trimB s).data.toList)) (.string s)
    refine bodyPost_ret (v := .agg #[.int .i64 3, .int .i64 (pN (trimB s).data.toList), .string s]) (by simp [results, Tryz.results22, go_sem, e0, e1, e2]) rfl ⟨rfl, hb⟩
  · rw [h0, if_neg (by decide), if_neg (by decide)]
    clear h0
    go_enter Tryz.func22, Tryz.ntmps22
    go_wp2_with fail
    refine (T.out _).mono ?_
    rintro e w1 ⟨rfl, rfl⟩
    go_wp2_with fail
    refine (P.out _).mono ?_
    rintro e w2 ⟨rfl, b2⟩
    have R2 := Lib.hid (R0.out.below b2)
    have B2 := Lib.hid (Below.step B0.out b2); clear b2
    have c0 := R2.out.c0; have c1 := R2.out.c1; have c2 := R2.out.c2; have f0 := R2.out.f0; have f1 := R2.out.f1; have f2 := R2.out.f2
    rw [P3.out]
    go_wp2_with fail
    obtain ⟨e0, e1, e2, hb⟩ := tri_end R2.out B2.out (.int .i64 2) (.int .i64 0) (.string s)
    refine bodyPost_ret (v := .agg #[.int .i64 2, .int .i64 0, .string s]) (by simp [results, Tryz.results22, go_sem, e0, e1, e2]) rfl ⟨rfl, hb⟩
  · rw [h0, if_neg (by decide), if_neg (by decide)]
    clear h0
    go_enter Tryz.func22, Tryz.ntmps22
    go_wp2_with fail
    refine (T.out _).mono ?_
    rintro e w1 ⟨rfl, rfl⟩
    go_wp2_with fail
    refine (P.out _).mono ?_
    rintro e w2 ⟨rfl, b2⟩
    have R2 := Lib.hid (R0.out.below b2)
    have B2 := Lib.hid (Below.step B0.out b2); clear b2
    have c0 := R2.out.c0; have c1 := R2.out.c1; have c2 := R2.out.c2; have f0 := R2.out.f0; have f1 := R2.out.f1; have f2 := R2.out.f2
    rw [P3.out]
    go_wp2_with fail
    obtain ⟨e0, e1, e2, hb⟩ := tri_end R2.out B2.out (.int .i64 2) (.int .i64 0) (.string s)
    refine bodyPost_ret (v := .agg #[.int .i64 2, .int .i64 0, .string s]) (by simp [results, Tryz.results22, go_sem, e0, e1, e2]) rfl ⟨rfl, hb⟩
  · rw [h0, if_neg (by decide), if_neg (by decide)]
    rw [h2] at P3
    clear h2
    clear h0
    go_enter Tryz.func22, Tryz.ntmps22
    go_wp2_with fail
    refine (T.out _).mono ?_
    rintro e w1 ⟨rfl, rfl⟩
    go_wp2_with fail
    refine (P.out _).mono ?_
    rintro e w2 ⟨rfl, b2⟩
    have R2 := Lib.hid (R0.out.below b2)
    have B2 := Lib.hid (Below.step B0.out b2); clear b2
    have c0 := R2.out.c0; have c1 := R2.out.c1; have c2 := R2.out.c2; have f0 := R2.out.f0; have f1 := R2.out.f1; have f2 := R2.out.f2
    rw [P3.out]
    go_wp2_with fail
    obtain ⟨e0, e1, e2, hb⟩ := tri_end R2.out B2.out (.int .i64 2) (.int .i64 0) (.string s)
    refine bodyPost_ret (v := .agg #[.int .i64 2, .int .i64 0, .string s]) (by simp [results, Tryz.results22, go_sem, e0, e1, e2]) rfl ⟨rfl, hb⟩

set_option maxHeartbeats 4000000 in
theorem refCan_any (k n : Int) (s : ByteArray) (hs : s.size ≤ 1048576) (w : World) :
    Calls Tryz.prog 10 #[.agg #[.int .i64 k, .int .i64 n, .string s]] w fun e w' => e = .returned (.bool (canB k n s)) ∧ Below w.heap.size w w' := by
  have I := Lib.hid (fun w => refInput_any s hs w)
  have HB := (boxed1 w (.int .i64 k) (.int .i64 n) (.string s) 30).1
  clear hs
  rcases can_cases k n s with ⟨rfl, rfl, h2, hc⟩ | ⟨rfl, rfl, h2, hc⟩ | ⟨rfl, h1, hc⟩ | ⟨rfl, h2, hc⟩ | ⟨rfl, h2, hc⟩ | ⟨rfl, rfl, hc⟩ | ⟨rfl, h1, hc⟩ | ⟨rfl, hk, rfl, hc⟩ | ⟨rfl, hk, hn, hc⟩ | ⟨rfl, hk, hc⟩ | ⟨g0, g1, g2, g3, hc⟩
  · rw [hc]; clear hc I
    have he : s.toList.isEmpty = true := by rw [h2]; rfl
    go_enter Tryz.func10, Tryz.ntmps10
    go_wp2_with fail
    go_quiet (fail)
    go_wp2_with fail
    go_ret
    exact ⟨rfl, Below.drewN' HB.out _⟩
  · rw [hc]; clear hc I
    have he : s.toList.isEmpty = false := by cases hs : s.toList with | nil => exact absurd hs h2 | cons a l => rfl
    clear h2
    go_enter Tryz.func10, Tryz.ntmps10
    go_wp2_with fail
    go_quiet (fail)
    go_wp2_with fail
    go_ret
    exact ⟨rfl, Below.drewN' HB.out _⟩
  · rw [hc]; clear hc I
    have hb : (n == 0) = false := beq_eq_false_iff_ne.2 h1
    clear h1
    go_enter Tryz.func10, Tryz.ntmps10
    go_wp2_with fail
    go_quiet (fail)
    go_wp2_with fail
    go_ret
    exact ⟨rfl, Below.drewN' HB.out _⟩
  · rw [hc]; clear hc I
    have he : s.toList.isEmpty = true := by rw [h2]; rfl
    go_enter Tryz.func10, Tryz.ntmps10
    go_wp2_with fail
    go_quiet (fail)
    go_wp2_with fail
    go_ret
    exact ⟨rfl, Below.drewN' HB.out _⟩
  · rw [hc]; clear hc I
    have he : s.toList.isEmpty = false := by cases hs : s.toList with | nil => exact absurd hs h2 | cons a l => rfl
    clear h2
    go_enter Tryz.func10, Tryz.ntmps10
    go_wp2_with fail
    go_quiet (fail)
    go_wp2_with fail
    go_ret
    exact ⟨rfl, Below.drewN' HB.out _⟩
  · rw [hc]; clear hc I
    go_enter Tryz.func10, Tryz.ntmps10
    go_wp2_with fail
    go_quiet (fail)
    go_wp2_with fail
    go_ret
    exact ⟨rfl, Below.drewN' HB.out _⟩
  · rw [hc]; clear hc I
    have hb : (n == 0) = false := beq_eq_false_iff_ne.2 h1
    clear h1
    go_enter Tryz.func10, Tryz.ntmps10
    go_wp2_with fail
    go_quiet (fail)
    go_wp2_with fail
    go_ret
    exact ⟨rfl, Below.drewN' HB.out _⟩
  · rw [hc]
    exact refCan_looks _ (inK s) (inN s) s true w (Or.inl ⟨hk, rfl, rfl⟩) I
  · rw [hc]
    exact refCan_looks n (inK s) (inN s) s false w (Or.inr (Or.inl ⟨hk, fun h => hn h.symm, rfl⟩)) I
  · rw [hc]
    exact refCan_looks n (inK s) (inN s) s false w (Or.inr (Or.inr ⟨hk, rfl⟩)) I
  · rw [hc]; clear hc I
    go_enter Tryz.func10, Tryz.ntmps10
    go_wp2_with fail
    go_quiet (fail)
    go_wp2_with fail
    go_ret
    exact ⟨rfl, Below.drewN' HB.out _⟩
end Go.Proofs.YtfhnbpilbbbckaaGreatDoor.T9
