/- Merged by program: T3CellD, C15B. -/
import Derived.Test.YtbbhcbpfffabpaaGaf
import Derived.Test.YtbbhcbpfffabpaaGai
import Derived.Test.YtbbhcbpfffabpaaGaj
/- Contracts of the document's answers for cells: Input, Str, Compare. -/
namespace Go.Proofs.Ytbbhcbpfffabpaa.T3
open Go.Proofs.Ytbbhcbpfffabpaa Go.Proofs
open Go.RowKit
open Go.Lib (compareBytes)

theorem refShow_is (n : Int) (w : World) (hn : Fits n) :
    Calls Try.prog 70 #[.int .i64 n] w fun e w' => e = .returned (.string (showT n)) ∧ Below w.heap.size w w' :=
  (refShow_any n w hn).mono fun _ _ ⟨_, ht, he, hb⟩ => ⟨by rw [he, showT_of ht], hb⟩

theorem ref_cases (t : ByteArray) :
    (wholeB t = true ∧ pR t.data.toList = 0 ∧ pE t.data.toList = t.size ∧ 0 < t.size) ∨
    (wholeB t = false ∧ ¬ 0 < t.size) ∨
    (wholeB t = false ∧ 0 < t.size ∧ ((pE t.data.toList : Int) == (t.size : Int)) = false) ∨
    (wholeB t = false ∧ 0 < t.size ∧ pE t.data.toList = t.size ∧ (pR t.data.toList == 0) = false) := by
  by_cases h0 : 0 < t.size
  · by_cases h2 : pE t.data.toList = t.size
    · by_cases h3 : pR t.data.toList = 0
      · exact Or.inl ⟨by unfold wholeB; rw [h2, h3, decide_eq_true (show t.size ≠ 0 by omega)]; simp, h3, h2, h0⟩
      · exact Or.inr (Or.inr (Or.inr ⟨by unfold wholeB; rw [decide_eq_false h3]; simp, h0, h2, beq_eq_false_iff_ne.2 h3⟩))
    · exact Or.inr (Or.inr (Or.inl ⟨by unfold wholeB; rw [decide_eq_false h2]; simp, h0, by rw [beq_eq_false_iff_ne]; omega⟩))
  · refine Or.inr (Or.inl ⟨?_, h0⟩)
    unfold wholeB
    by_cases h2 : pE t.data.toList = t.size
    · rw [h2, decide_eq_false (show ¬ t.size ≠ 0 by omega)]; simp
    · rw [decide_eq_false h2]; simp

set_option maxHeartbeats 1000000 in
theorem refInput_any (s : ByteArray) (hs : s.size ≤ 300) (w : World) :
    Calls Try.prog 45 #[.string s] w fun e w' => e = .returned (.agg #[.int .i64 (inK s), .int .i64 (inN s), .string s]) ∧ Below w.heap.size w w' := by
  have T := Lib.hid (fun w => refTrim_any s (by simp only [maxLen]; omega) w)
  have P := Lib.hid (fun w => refParse_any (trimB s) w (by have := trimB_size s; omega))
  have hz : (trimB s).size ≤ 300 := by have := trimB_size s; omega
  have P3 := Lib.hid (parse_three (trimB s).data.toList)
  have R0 := Lib.hid (tri_new w (.int .i64 0) (.int .i64 0) (.string ⟨#[]⟩) 23)
  have B0 := Lib.hid (below_new w (.cells #[.int .i64 0, .int .i64 0, .string ⟨#[]⟩] 23))
  clear hs
  unfold inK inN looksB
  rcases ref_cases (trimB s) with ⟨h0, h1, h2, h3⟩ | ⟨h0, h1⟩ | ⟨h0, h1, h2⟩ | ⟨h0, h1, h2, h3⟩
  · rw [h0, if_pos rfl, if_pos rfl]
    rw [h1, h2] at P3
    clear h1 h2
    clear h0
    go_enter Try.func45, Try.ntmps45
    go_wp2_with fail
    refine (T.out _).mono ?_
    rintro e w1 ⟨rfl, rfl⟩
    go_wp2_with fail
    refine (P.out _).mono ?_
    rintro e w2 ⟨rfl, b2⟩
    have R2 := Lib.hid (R0.out.below b2)
    have B2 := Lib.hid (Below.step B0.out b2); clear b2
    have c0 := R2.out.c0; have c1 := R2.out.c1; have c2 := R2.out.c2; have f0 := R2.out.f0; have f1 := R2.out.f1; have f2 := R2.out.f2
    rw [P3.out]
    go_wp2_with fail
    obtain ⟨e0, e1, e2, hb⟩ := tri_end R2.out B2.out (.int .i64 3) (.int .i64 (pN (trimB s).data.toList)) (.string s)
    refine bodyPost_ret (v := .agg #[.int .i64 3, .int .i64 (pN (trimB s).data.toList), .string s]) (by simp [results, Try.results45, go_sem, e0, e1, e2]) rfl ⟨rfl, hb⟩
  · rw [h0, if_neg (by decide), if_neg (by decide)]
    clear h0
    go_enter Try.func45, Try.ntmps45
    go_wp2_with fail
    refine (T.out _).mono ?_
    rintro e w1 ⟨rfl, rfl⟩
    go_wp2_with fail
    refine (P.out _).mono ?_
    rintro e w2 ⟨rfl, b2⟩
    have R2 := Lib.hid (R0.out.below b2)
    have B2 := Lib.hid (Below.step B0.out b2); clear b2
    have c0 := R2.out.c0; have c1 := R2.out.c1; have c2 := R2.out.c2; have f0 := R2.out.f0; have f1 := R2.out.f1; have f2 := R2.out.f2
    rw [P3.out]
    go_wp2_with fail
    obtain ⟨e0, e1, e2, hb⟩ := tri_end R2.out B2.out (.int .i64 2) (.int .i64 0) (.string s)
    refine bodyPost_ret (v := .agg #[.int .i64 2, .int .i64 0, .string s]) (by simp [results, Try.results45, go_sem, e0, e1, e2]) rfl ⟨rfl, hb⟩
  · rw [h0, if_neg (by decide), if_neg (by decide)]
    clear h0
    go_enter Try.func45, Try.ntmps45
    go_wp2_with fail
    refine (T.out _).mono ?_
    rintro e w1 ⟨rfl, rfl⟩
    go_wp2_with fail
    refine (P.out _).mono ?_
    rintro e w2 ⟨rfl, b2⟩
    have R2 := Lib.hid (R0.out.below b2)
    have B2 := Lib.hid (Below.step B0.out b2); clear b2
    have c0 := R2.out.c0; have c1 := R2.out.c1; have c2 := R2.out.c2; have f0 := R2.out.f0; have f1 := R2.out.f1; have f2 := R2.out.f2
    rw [P3.out]
    go_wp2_with fail
    obtain ⟨e0, e1, e2, hb⟩ := tri_end R2.out B2.out (.int .i64 2) (.int .i64 0) (.string s)
    refine bodyPost_ret (v := .agg #[.int .i64 2, .int .i64 0, .string s]) (by simp [results, Try.results45, go_sem, e0, e1, e2]) rfl ⟨rfl, hb⟩
  · rw [h0, if_neg (by decide), if_neg (by decide)]
    rw [h2] at P3
    clear h2
    clear h0
    go_enter Try.func45, Try.ntmps45
    go_wp2_with fail
    refine (T.out _).mono ?_
    rintro e w1 ⟨rfl, rfl⟩
    go_wp2_with fail
    refine (P.out _).mono ?_
    rintro e w2 ⟨rfl, b2⟩
    have R2 := Lib.hid (R0.out.below b2)
    have B2 := Lib.hid (Below.step B0.out b2); clear b2
    have c0 := R2.out.c0; have c1 := R2.out.c1; have c2 := R2.out.c2; have f0 := R2.out.f0; have f1 := R2.out.f1; have f2 := R2.out.f2
    rw [P3.out]
    go_wp2_with fail
    obtain ⟨e0, e1, e2, hb⟩ := tri_end R2.out B2.out (.int .i64 2) (.int .i64 0) (.string s)
    refine bodyPost_ret (v := .agg #[.int .i64 2, .int .i64 0, .string s]) (by simp [results, Try.results45, go_sem, e0, e1, e2]) rfl ⟨rfl, hb⟩

theorem refStr_any (k n : Int) (s : ByteArray) (hn : Fits n) (w : World) :
    Calls Try.prog 49 #[.agg #[.int .i64 k, .int .i64 n, .string s]] w fun e w' => e = .returned (.string (strC k n s)) ∧ Below w.heap.size w w' := by
  have S := Lib.hid (fun w => refShow_is n w hn)
  have B0 := Lib.hid ((Below.refl w.heap.size w).alloc (Nat.le_refl _) (.cells #[.int .i64 k, .int .i64 n, .string s] 23))
  rcases kind_cases k with rfl | rfl | rfl | rfl | ⟨g0, g1, g2, g3⟩
  · go_enter Try.func49, Try.ntmps49
    go_wp2_with fail
    go_ret
    exact ⟨rfl, B0.out⟩
  · go_enter Try.func49, Try.ntmps49
    go_wp2_with fail
    refine (S.out _).mono ?_
    rintro e w1 ⟨rfl, b1⟩
    have B1 := Lib.hid (Below.step B0.out b1); clear b1
    go_wp2_with fail
    go_ret
    exact ⟨rfl, B1.out⟩
  · go_enter Try.func49, Try.ntmps49
    go_wp2_with fail
    go_ret
    exact ⟨rfl, B0.out⟩
  · go_enter Try.func49, Try.ntmps49
    go_wp2_with fail
    go_ret
    exact ⟨rfl, B0.out⟩
  · have e : strC k n s = ⟨#[]⟩ := by
      rw [beq_eq_false_iff_ne] at g1 g2 g3
      unfold strC
      rw [if_neg g1, if_neg (by simp [g2, g3])]
    rw [e]; clear e
    go_enter Try.func49, Try.ntmps49
    go_wp2_with fail
    go_ret
    exact ⟨rfl, B0.out⟩

theorem showT_size (n : Int) : (showT n).size ≤ 21 := by
  have h := showText_len n
  rw [Lib.size_eq]
  exact h
theorem strC_size (k n : Int) (s : ByteArray) (hs : s.size ≤ 300) : (strC k n s).size ≤ 300 := by
  unfold strC
  split
  · have := showT_size n; omega
  · split
    · exact hs
    · exact Nat.zero_le _

def refCmpC (k n : Int) (s : ByteArray) (k' n' : Int) (s' : ByteArray) : Int :=
  if k = 2 ∨ k' = 2 then compareBytes (strC k n s).data.toList (strC k' n' s').data.toList else if n = n' then 0 else if n < n' then -1 else 1

set_option maxHeartbeats 1000000 in
theorem refCompare_cell (k n : Int) (s : ByteArray) (k' n' : Int) (s' : ByteArray) (hn : Fits n) (hn' : Fits n') (hs : s.size ≤ 300) (hs' : s'.size ≤ 300) (w : World) :
    Calls Try.prog 30 #[.agg #[.int .i64 k, .int .i64 n, .string s], .agg #[.int .i64 k', .int .i64 n', .string s']] w fun e w' => e = .returned (.int .i64 (refCmpC k n s k' n' s')) ∧ Below w.heap.size w w' := by
  have S1 := Lib.hid (fun w => refStr_any k n s hn w)
  have S2 := Lib.hid (fun w => refStr_any k' n' s' hn' w)
  have C := Lib.hid (fun w => refCompare_any (strC k n s) (strC k' n' s') (by have := strC_size k n s hs; simp only [maxLen]; omega) (by have := strC_size k' n' s' hs'; simp only [maxLen]; omega) w)
  have B0 := boxed2 w (.int .i64 k) (.int .i64 n) (.string s) (.int .i64 k') (.int .i64 n') (.string s') 23 23
  have H0 := Lib.hid (held2 B0.1.out B0.2.1 B0.2.2)
  by_cases h : k = 2 ∨ k' = 2
  · unfold refCmpC
    rw [if_pos h]
    have hb : (k == 2) = true ∨ ((k == 2) = false ∧ (k' == 2) = true) := by
      rw [beq_iff_eq, beq_iff_eq, beq_eq_false_iff_ne]; omega
    clear h hn hn' B0 hs hs'
    rcases hb with hb | ⟨hb, hb'⟩
    all_goals
      go_enter Try.func30, Try.ntmps30
      go_wp2_with fail
      go_region_held3 (fun w' => Hid (Below w.heap.size w w') ∧ w'.cell? ⟨w.heap.size, 0, none⟩ = some (.int .i64 k) ∧ w'.cell? ⟨w.heap.size, 1, none⟩ = some (.int .i64 n) ∧ w'.cell? ⟨w.heap.size, 2, none⟩ = some (.string s) ∧ w'.cell? ⟨w.heap.size + 1, 0, none⟩ = some (.int .i64 k') ∧ w'.cell? ⟨w.heap.size + 1, 1, none⟩ = some (.int .i64 n') ∧ w'.cell? ⟨w.heap.size + 1, 2, none⟩ = some (.string s'))
        (first | exact keep2 H0.out (below_drew _) | exact keep2 (by assumption) (by assumption) | assumption)
        (first
          | (go_at_call_of 49 (Value.agg #[.int .i64 k, .int .i64 n, .string s]); refine (S1.out _).mono ?_; rintro e w1 ⟨rfl, b1⟩)
          | (go_at_call_of 49 (Value.agg #[.int .i64 k', .int .i64 n', .string s']); refine (S2.out _).mono ?_; rintro e w1 ⟨rfl, b1⟩)
          | (go_at_call 58; refine (C.out _).mono ?_; rintro e w1 ⟨rfl, b1⟩))
      all_goals
        have HE := Lib.hid (And.left (show Hid _ ∧ _ by assumption))
        go_wp2_with fail
        go_ret
        exact ⟨rfl, HE.out.out⟩
  · unfold refCmpC
    rw [if_neg h]
    have g1 : (k == 2) = false := by rw [beq_eq_false_iff_ne]; omega
    have g2 : (k' == 2) = false := by rw [beq_eq_false_iff_ne]; omega
    have HB := Lib.hid B0.1.out
    clear h hn hn' B0 H0 S1 S2 C hs hs'
    by_cases h1 : n = n'
    · rw [if_pos h1]
      subst h1
      go_enter Try.func30, Try.ntmps30
      go_wp2_with fail
      go_ret
      exact ⟨rfl, HB.out⟩
    · rw [if_neg h1]
      by_cases h2 : n < n'
      · rw [if_pos h2]
        go_enter Try.func30, Try.ntmps30
        go_wp2_with fail
        go_ret
        exact ⟨rfl, HB.out⟩
      · rw [if_neg h2]
        go_enter Try.func30, Try.ntmps30
        go_wp2_with fail
        go_ret
        exact ⟨rfl, HB.out⟩
end Go.Proofs.Ytbbhcbpfffabpaa.T3

/- The document's Bool, num, str of layer 15. -/
namespace Go.Proofs.Ytbbhcbpfffabpaa
open Go.RowKit T3

def zeroC : Array Value := #[.int .i64 0, .int .i64 0, .string ⟨#[]⟩]
def cellC (k n : Int) (s : ByteArray) : Array Value := #[.int .i64 k, .int .i64 n, .string s]
theorem info_cell : (Try.prog.info? 23).map (·.size) = some 3 := by kernel_rfl
theorem cell_one3 (k n : Int) (s : ByteArray) : (cellC k n s).all (·.oneCell') = true := by
  simp [cellC]
  exact ⟨rfl, rfl, rfl⟩
/-- A cell in a block of its own. -/
structure Cx (w : World) (b : Nat) (cs : Array Value) : Prop where
  row : w.heap[b]? = some (.cells cs 23 (0, 0))
theorem Cx.lt {w : World} {b : Nat} {cs : Array Value} (h : Cx w b cs) : b < w.heap.size := (Array.getElem?_eq_some_iff.1 h.row).1
theorem Cx.c {w : World} {b : Nat} {cs : Array Value} (h : Cx w b cs) (j : Nat) : w.cell? ⟨b, j, none⟩ = cs[j]? := cell_of_row _ _ j _ _ _ h.row
theorem Cx.after {w w' : World} {b : Nat} {cs : Array Value} (h : Cx w b cs) (hb : Below w.heap.size w w') : Cx w' b cs := ⟨by rw [hb.block b h.lt]; exact h.row⟩
theorem Cx.setRow {w : World} {b : Nat} {cs : Array Value} (h : Cx w b cs) (ds : Array Value) : Cx (w.setRow b ds) b ds := ⟨setRow_heap _ _ _ _ _ _ h.row⟩
theorem below_row {B : Nat} {w w' : World} (h : Below B w w') {b : Nat} (hb : B ≤ b) (q : Array Value) : Below B w (w'.setRow b q) :=
  ⟨h.os, h.tape, h.output, by have := h.size; simpa [World.setRow] using this, fun k hk => by rw [Go.setRow_other _ _ _ _ (by omega)]; exact h.block k hk⟩
theorem three_of {w : World} {b : Nat} {k n : Int} {s : ByteArray} (h : Cx w b (cellC k n s)) : w.cell? ⟨b, 0, none⟩ = some (.int .i64 k) ∧ w.cell? ⟨b, 1, none⟩ = some (.int .i64 n) ∧ w.cell? ⟨b, 2, none⟩ = some (.string s) := ⟨h.c 0, h.c 1, h.c 2⟩
theorem cx_new (w : World) (cs : Array Value) : ∃ W, W = w.alloc (.cells cs 23) ∧ Hid (Cx W w.heap.size cs) ∧ Hid (Below w.heap.size w W) ∧ Hid (W.heap.size = w.heap.size + 1) :=
  ⟨_, rfl, Lib.hid ⟨heap_alloc_last w _⟩, Lib.hid (below_new w _), Lib.hid (World.size_alloc _ _)⟩

/-- A cell and an error. -/
def twoC (k n : Int) (s : ByteArray) (e : Int) : Value := .tuple #[.agg (cellC k n s), .int .i64 e]
def boolN (b : Bool) : Int := if b = true then 1000000 else 0

/-- A Number, if there is no error. -/
def numA (p : Int × Int) : Value := if p.2 = 0 then twoC 1 p.1 ⟨#[]⟩ 0 else twoC 0 0 ⟨#[]⟩ p.2
set_option maxRecDepth 100000 in
theorem refnum_any (n e : Int) (w : World) : Calls Try.prog 33 #[.int .i64 n, .int .i64 e] w fun r w' => r = .returned (numA (n, e)) ∧ Below w.heap.size w w' := by
  have HI := info_cell
  obtain ⟨W, hW, hX, hB, _⟩ := cx_new w zeroC
  by_cases h0 : e = 0
  · subst h0
    go_enter Try.func33, Try.ntmps33
    go_upto_region 1 with (fail)
    change Code.wp _ _ _ _ (w.alloc (Obj.cells zeroC 23))
    rw [← hW]
    clear hW
    go_wp2_with (refine wpList_store_row rfl 23 (.tmp 4) (.tmp 11) rfl w.heap.size (cellC 1 n ⟨#[]⟩) rfl rfl 23 zeroC hX.out.row HI rfl (cell_one3 _ _ _) ?_)
    obtain ⟨Z, hZ, HZ, BZ⟩ : ∃ Z, Z = W.setRow w.heap.size (cellC 1 n ⟨#[]⟩) ∧ Hid (Cx Z w.heap.size (cellC 1 n ⟨#[]⟩)) ∧ Hid (Below w.heap.size w Z) := ⟨_, rfl, Lib.hid (hX.out.setRow _), Lib.hid (below_row hB.out (Nat.le_refl _) _)⟩
    rw [← hZ]
    clear hZ
    obtain ⟨d0, d1, d2⟩ := three_of HZ.out
    refine bodyPost_ret (v := twoC 1 n ⟨#[]⟩ 0) ?_ rfl ?_
    · simp [results, Try.results33, go_sem, d0, d1, d2, twoC, cellC]
    · exact ⟨rfl, BZ.out⟩
  · have hne : (e != 0) = true := by simpa using h0
    have HA : Hid (numA (n, e) = twoC 0 0 ⟨#[]⟩ e) := Lib.hid (by unfold numA; rw [if_neg h0])
    clear h0
    go_enter Try.func33, Try.ntmps33
    go_upto_region 1 with (fail)
    change Code.wp _ _ _ _ (w.alloc (Obj.cells zeroC 23))
    rw [← hW]
    clear hW
    go_wp2_with (refine wpList_store_row rfl 23 (.tmp 4) (.tmp 8) rfl w.heap.size (cellC 0 0 ⟨#[]⟩) rfl rfl 23 zeroC hX.out.row HI rfl (cell_one3 _ _ _) ?_)
    obtain ⟨Z, hZ, HZ, BZ⟩ : ∃ Z, Z = W.setRow w.heap.size (cellC 0 0 ⟨#[]⟩) ∧ Hid (Cx Z w.heap.size (cellC 0 0 ⟨#[]⟩)) ∧ Hid (Below w.heap.size w Z) := ⟨_, rfl, Lib.hid (hX.out.setRow _), Lib.hid (below_row hB.out (Nat.le_refl _) _)⟩
    rw [← hZ]
    clear hZ
    obtain ⟨d0, d1, d2⟩ := three_of HZ.out
    refine bodyPost_ret (v := twoC 0 0 ⟨#[]⟩ e) ?_ rfl ?_
    · simp [results, Try.results33, go_sem, d0, d1, d2, twoC, cellC]
    · exact ⟨by rw [HA.out], BZ.out⟩

/-- A Text, if it is not too long. -/
def strA (s : ByteArray) : Value := if s.size ≤ 65536 then twoC 2 0 s 0 else twoC 0 0 ⟨#[]⟩ 2
set_option maxRecDepth 100000 in
theorem refstr_any (s : ByteArray) (w : World) : Calls Try.prog 48 #[.string s] w fun r w' => r = .returned (strA s) ∧ Below w.heap.size w w' := by
  have HI := info_cell
  obtain ⟨W, hW, hX, hB, _⟩ := cx_new w zeroC
  by_cases h0 : s.size ≤ 65536
  · have hle : (s.size : Int) ≤ 65536 := by omega
    have HA : Hid (strA s = twoC 2 0 s 0) := Lib.hid (by unfold strA; rw [if_pos h0])
    clear h0
    go_enter Try.func48, Try.ntmps48
    go_upto_region 1 with (fail)
    change Code.wp _ _ _ _ (w.alloc (Obj.cells zeroC 23))
    rw [← hW]
    clear hW
    go_wp2_with (refine wpList_store_row rfl 23 (.tmp 2) (.tmp 9) rfl w.heap.size (cellC 2 0 s) rfl rfl 23 zeroC hX.out.row HI rfl (cell_one3 _ _ _) ?_)
    obtain ⟨Z, hZ, HZ, BZ⟩ : ∃ Z, Z = W.setRow w.heap.size (cellC 2 0 s) ∧ Hid (Cx Z w.heap.size (cellC 2 0 s)) ∧ Hid (Below w.heap.size w Z) := ⟨_, rfl, Lib.hid (hX.out.setRow _), Lib.hid (below_row hB.out (Nat.le_refl _) _)⟩
    rw [← hZ]
    clear hZ
    obtain ⟨d0, d1, d2⟩ := three_of HZ.out
    refine bodyPost_ret (v := twoC 2 0 s 0) ?_ rfl ?_
    · simp [results, Try.results48, go_sem, d0, d1, d2, twoC, cellC]
    · exact ⟨by rw [HA.out], BZ.out⟩
  · have hgt : (65536 : Int) < s.size := by omega
    have HA : Hid (strA s = twoC 0 0 ⟨#[]⟩ 2) := Lib.hid (by unfold strA; rw [if_neg h0])
    clear h0
    go_enter Try.func48, Try.ntmps48
    go_upto_region 1 with (fail)
    change Code.wp _ _ _ _ (w.alloc (Obj.cells zeroC 23))
    rw [← hW]
    clear hW
    go_wp2_with (refine wpList_store_row rfl 23 (.tmp 2) (.tmp 7) rfl w.heap.size (cellC 0 0 ⟨#[]⟩) rfl rfl 23 zeroC hX.out.row HI rfl (cell_one3 _ _ _) ?_)
    obtain ⟨Z, hZ, HZ, BZ⟩ : ∃ Z, Z = W.setRow w.heap.size (cellC 0 0 ⟨#[]⟩) ∧ Hid (Cx Z w.heap.size (cellC 0 0 ⟨#[]⟩)) ∧ Hid (Below w.heap.size w Z) := ⟨_, rfl, Lib.hid (hX.out.setRow _), Lib.hid (below_row hB.out (Nat.le_refl _) _)⟩
    rw [← hZ]
    clear hZ
    obtain ⟨d0, d1, d2⟩ := three_of HZ.out
    refine bodyPost_ret (v := twoC 0 0 ⟨#[]⟩ 2) ?_ rfl ?_
    · simp [results, Try.results48, go_sem, d0, d1, d2, twoC, cellC]
    · exact ⟨by rw [HA.out], BZ.out⟩
end Go.Proofs.Ytbbhcbpfffabpaa
