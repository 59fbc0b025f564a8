/- ere.reader.group, and the atom in brackets: walks. -/
import Derived.Test.YtdhndfmblmcapaaDoorAtoms
namespace Go.Proofs.YtdhndfmblmcapaaDoor
open Go.RowKit

set_option maxRecDepth 100000 in
theorem group_go (l : List UInt8) (t : Tree) (n : Nat) (hP : PatternAt l t n) (s : ByteArray) (k d p : Nat) (w : World) (rest : List UInt8) (hdrop : s.data.toList.drop k = l ++ 41 :: rest) (hs : s.size ≤ 400) (hks : k ≤ s.size) (hr : Rdr w p s k d) (hd : d + (n + 1) ≤ 20) (at_ : Int) :
    Calls Tryd.prog 61 #[.pointer (some ⟨p, 0, none⟩), .int .i64 at_] w (Went p s (k + l.length + 1) d t w) := by
  have HP := Lib.hid (fun w (h : Rdr w p s k (d + 1)) => (hP s k (d + 1) p w (41 :: rest) hdrop (Or.inr rfl) hs hks (by omega) h).1 (by omega))
  have hlen : k + l.length < s.size := by
    have h1 := congrArg List.length hdrop
    rw [List.length_drop, List.length_append, List.length_cons] at h1
    have h2 : s.data.toList.length = s.size := by simp
    omega
  have h20 : ((d : Int) == 20) = false := by simp; omega
  have hne : (((k + l.length : Nat) : Int) == s.size) = false := by simp; omega
  have hd20 : d ≤ 19 := by omega
  have HI := info_re
  have hlt := hr.lt
  clear hdrop hP
  go_enter Tryd.func61, Tryd.ntmps61
  go_upto_region 1 with (fail)
  obtain ⟨W, hW, hX, hB, hsz⟩ := re_box w zeroR
  change Code.wp _ _ _ _ (w.alloc (Obj.cells zeroR 27))
  rw [← hW]
  clear hW
  have R := Lib.hid (hr.after hB.out)
  have c0 := R.out.c0; have c1 := R.out.c1; have c2 := R.out.c2; have z2 := R.out.z 2
  go_upto_region 4 with (fail)
  obtain ⟨V, hV, R1, X1, B1⟩ : ∃ V, V = W.setCell ⟨p, 2, none⟩ (.int .i64 ((d : Int) + 1)) ∧ Hid (Rdr V p s k (d + 1)) ∧ Hid (Box V w.heap.size zeroR) ∧ Hid (But p w V) :=
    ⟨_, rfl, Lib.hid (R.out.put2 (d + 1)), Lib.hid (hX.out.but (but_put _ _ _ _) (by omega)), Lib.hid ((But.of hB.out).put _ _)⟩
  rw [← hV]
  clear hV c0 c1 c2 z2
  go_wp2_with fail
  refine (HP.out _ R1.out).mono ?_
  rintro e w1 ⟨cs, rfl, hat, R2, b1⟩
  have X2 := Lib.hid (X1.out.but b1 (by omega))
  have R3 := Lib.hid R2
  have B2 := Lib.hid (B1.out.trans b1)
  have hg : w.heap.size < V.heap.size := X1.out.lt
  have hV1 := b1.size
  have T := Lib.hid hat
  obtain ⟨a, c, rfl, _⟩ := hat.opens
  clear b1 R2 hat
  simp only [reC]
  go_upto_region 5 with (fail)
  obtain ⟨U, hU, hY, hBU, _⟩ := re_box w1 (reC t.k t.f t.lo t.hi (.slice a t.kids.length c))
  change Code.wp _ _ _ _ (w1.alloc (Obj.cells (reC t.k t.f t.lo t.hi (.slice a t.kids.length c)) 27))
  rw [← hU]
  clear hU
  have R4 := Lib.hid (R3.out.after hBU.out)
  have X4 := Lib.hid (X2.out.after hBU.out)
  have B4 := Lib.hid (B2.out.then hBU.out)
  have c0 := R4.out.c0; have c1 := R4.out.c1
  go_quiet (fail)
  clear c0 c1 hne h20
  obtain ⟨D, hD, bD⟩ : ∃ D, D = U.drewN _ ∧ Below U.heap.size U D := ⟨_, rfl, drewN_below U _⟩
  rw [← hD]
  clear hD
  have R5 := Lib.hid (R4.out.after bD)
  have X5 := Lib.hid (X4.out.after bD)
  have Y5 := Lib.hid (hY.out.after bD)
  have B5 := Lib.hid (B4.out.then bD)
  have hD1 := bD.size
  have T5 := Lib.hid ((T.out.after hBU.out).after bD)
  clear bD
  have c1 := R5.out.c1; have c2 := R5.out.c2; have z1 := R5.out.z 1; have z2 := R5.out.z 2
  go_upto_region 9 with (fail)
  obtain ⟨E, hE, R6, X6, Y6, B6, T6⟩ : ∃ E, E = (D.setCell ⟨p, 1, none⟩ (.int .i64 ((k : Int) + l.length + 1))).setCell ⟨p, 2, none⟩ (.int .i64 (d : Int)) ∧ Hid (Rdr E p s (k + l.length + 1) d) ∧ Hid (Box E w.heap.size zeroR) ∧ Hid (Box E w1.heap.size (reC t.k t.f t.lo t.hi (.slice a t.kids.length c))) ∧ Hid (But p w E) ∧ Hid (At E (Up V.heap.size) t (reC t.k t.f t.lo t.hi (.slice a t.kids.length c))) :=
    ⟨_, rfl, Lib.hid ((R5.out.put1 (k + l.length + 1)).put2 d), Lib.hid ((X5.out.but (but_put _ _ _ _) (by omega)).but (but_put _ _ _ _) (by omega)), Lib.hid ((Y5.out.but (but_put _ _ _ _) (by omega)).but (but_put _ _ _ _) (by omega)), Lib.hid ((B5.out.put _ _).put _ _), Lib.hid ((T5.out.but (but_put _ _ _ _) (by omega)).but (but_put _ _ _ _) (by omega))⟩
  rw [← hE]
  clear hE c1 c2 z1 z2
  obtain ⟨c0, c1, c2, c3, c4, c5, c6, c7⟩ := eight_re Y6.out.eight
  go_wp2_with (refine wpList_store_row rfl 27 (.tmp 4) (.tmp 53) rfl w.heap.size (reC t.k t.f t.lo t.hi (.slice a t.kids.length c)) rfl rfl 27 zeroR X6.out.row HI rfl (re_one _ _ _ _ _ _ _) ?_)
  refine bodyPost_ret (v := .agg (reC t.k t.f t.lo t.hi (.slice a t.kids.length c))) (results_cell_row (by rfl) _ _ w.heap.size 27 _ (0, 0) _ (by rfl) (X6.out.setRow _).row Tryd.underlying27 (by rfl) HI) rfl ?_
  exact went_end ((T6.out.setRow hg _).weak (by omega)) R6.out B6.out (Nat.le_refl _) hlt

set_option maxRecDepth 100000 in
theorem group_full (s : ByteArray) (k p : Nat) (w : World) (hr : Rdr w p s k 20) (at_ : Int) :
    Calls Tryd.prog 61 #[.pointer (some ⟨p, 0, none⟩), .int .i64 at_] w (Fell p w) := by
  go_enter Tryd.func61, Tryd.ntmps61
  go_upto_region 1 with (fail)
  obtain ⟨W, hW, hX, hB, hsz⟩ := re_box w zeroR
  change Code.wp _ _ _ _ (w.alloc (Obj.cells zeroR 27))
  rw [← hW]
  clear hW
  have R := Lib.hid (hr.after hB.out)
  have c2 := R.out.c2
  go_wp2_with fail
  exact ⟨rfl, at_, rfl, .of hB.out⟩

set_option maxRecDepth 100000 in
theorem group_fell (l : List UInt8) (t : Tree) (n : Nat) (hP : PatternAt l t n) (s : ByteArray) (k d p : Nat) (w : World) (rest : List UInt8) (hdrop : s.data.toList.drop k = l ++ 41 :: rest) (hs : s.size ≤ 400) (hks : k ≤ s.size) (hr : Rdr w p s k d) (hd20 : d ≤ 19) (hd : 20 < d + (n + 1)) (at_ : Int) :
    Calls Tryd.prog 61 #[.pointer (some ⟨p, 0, none⟩), .int .i64 at_] w (Fell p w) := by
  have HP := Lib.hid (fun w (h : Rdr w p s k (d + 1)) => (hP s k (d + 1) p w (41 :: rest) hdrop (Or.inr rfl) hs hks (by omega) h).2 (by omega))
  have h20 : ((d : Int) == 20) = false := by simp; omega
  have hlt := hr.lt
  clear hdrop hP
  go_enter Tryd.func61, Tryd.ntmps61
  go_upto_region 1 with (fail)
  obtain ⟨W, hW, hX, hB, hsz⟩ := re_box w zeroR
  change Code.wp _ _ _ _ (w.alloc (Obj.cells zeroR 27))
  rw [← hW]
  clear hW
  have R := Lib.hid (hr.after hB.out)
  have c2 := R.out.c2; have z2 := R.out.z 2
  go_upto_region 4 with (fail)
  obtain ⟨V, hV, R1, B1⟩ : ∃ V, V = W.setCell ⟨p, 2, none⟩ (.int .i64 ((d : Int) + 1)) ∧ Hid (Rdr V p s k (d + 1)) ∧ Hid (But p w V) :=
    ⟨_, rfl, Lib.hid (R.out.put2 (d + 1)), Lib.hid ((But.of hB.out).put _ _)⟩
  rw [← hV]
  clear hV c2 z2
  go_wp2_with fail
  refine (HP.out _ R1.out).mono ?_
  rintro e w1 ⟨a, rfl, b1⟩
  have B2 := Lib.hid (B1.out.trans b1)
  clear b1
  go_wp2_with fail
  exact ⟨rfl, a, rfl, B2.out⟩

set_option maxRecDepth 100000 in
theorem atom_grp (l : List UInt8) (t : Tree) (n : Nat) (hP : PatternAt l t n) : AtomAt (40 :: (l ++ [41])) t (n + 1) := by
  intro s k d p w rest hdrop _ hs _ hd hr
  obtain ⟨hk, ek⟩ := drop_get hdrop
  have hb : s[k].toNat = 40 := by rw [ek]; rfl
  have hdrop1 : s.data.toList.drop (k + 1) = l ++ 41 :: rest := by
    have : s.data.toList.drop (k + 1) = (s.data.toList.drop k).drop 1 := by rw [List.drop_drop]
    rw [this, hdrop]; simp
  have HI := info_re
  have hlt := hr.lt
  refine ⟨fun hn => ?_, fun hn => ?_⟩
  · have HE := Lib.hid (fun w h at_ => group_go l t n hP s (k + 1) d p w rest hdrop1 hs (by omega) h hn at_)
    have hlen : k + (40 :: (l ++ [41])).length = k + 1 + l.length + 1 := by simp; omega
    rw [hlen]
    clear hdrop ek hdrop1 hP hlen
    go_enter Tryd.func56, Tryd.ntmps56
    go_upto_region 1 with (fail)
    obtain ⟨W, hW, hX, hB, _⟩ := re_box w zeroR
    change Code.wp _ _ _ _ (w.alloc (Obj.cells zeroR 27))
    rw [← hW]
    clear hW
    have R := Lib.hid (hr.after hB.out)
    have c0 := R.out.c0; have c1 := R.out.c1; have z1 := R.out.z 1
    go_upto_region 4 with (fail)
    obtain ⟨V, hV, R1, X1, B1⟩ : ∃ V, V = W.setCell ⟨p, 1, none⟩ (.int .i64 ((k : Int) + 1)) ∧ Hid (Rdr V p s (k + 1) d) ∧ Hid (Box V w.heap.size zeroR) ∧ Hid (But p w V) :=
      ⟨_, rfl, Lib.hid (R.out.put1 (k + 1)), Lib.hid (hX.out.but (but_put _ _ _ _) (by omega)), Lib.hid ((But.of hB.out).put _ _)⟩
    rw [← hV]
    clear hV c0 c1 z1
    go_wp2_with fail
    refine (HE.out _ R1.out _).mono ?_
    rintro e w1 ⟨cs, rfl, hat, R2, b1⟩
    have X2 := Lib.hid (X1.out.but b1 (by omega))
    have R3 := Lib.hid R2
    have B2 := Lib.hid (B1.out.trans b1)
    have hg : w.heap.size < V.heap.size := X1.out.lt
    have T := Lib.hid hat
    obtain ⟨a, c, rfl, _⟩ := hat.opens
    clear b1 R2 hat
    go_wp2_with (refine wpList_store_row rfl 27 (.tmp 2) (.tmp 27) rfl w.heap.size (reC t.k t.f t.lo t.hi (.slice a t.kids.length c)) rfl rfl 27 zeroR X2.out.row HI rfl (re_one _ _ _ _ _ _ _) ?_)
    refine bodyPost_ret (v := .agg (reC t.k t.f t.lo t.hi (.slice a t.kids.length c))) (results_cell_row (by rfl) _ _ w.heap.size 27 _ (0, 0) _ (by rfl) (X2.out.setRow _).row Tryd.underlying27 (by rfl) HI) rfl ?_
    exact went_end ((T.out.setRow hg _).weak (by omega)) R3.out B2.out (Nat.le_refl _) hlt
  · have HE := Lib.hid (fun w (h : Rdr w p s (k + 1) d) at_ => show Calls Tryd.prog 61 #[.pointer (some ⟨p, 0, none⟩), .int .i64 at_] w (Fell p w) by
      by_cases h20 : d = 20
      · subst h20; exact group_full s (k + 1) p w h at_
      · exact group_fell l t n hP s (k + 1) d p w rest hdrop1 hs (by omega) h (by omega) hn at_)
    clear hdrop ek hdrop1 hP
    go_enter Tryd.func56, Tryd.ntmps56
    go_upto_region 1 with (fail)
    obtain ⟨W, hW, hX, hB, _⟩ := re_box w zeroR
    change Code.wp _ _ _ _ (w.alloc (Obj.cells zeroR 27))
    rw [← hW]
    clear hW
    have R := Lib.hid (hr.after hB.out)
    have c0 := R.out.c0; have c1 := R.out.c1; have z1 := R.out.z 1
    go_upto_region 4 with (fail)
    obtain ⟨V, hV, R1, B1⟩ : ∃ V, V = W.setCell ⟨p, 1, none⟩ (.int .i64 ((k : Int) + 1)) ∧ Hid (Rdr V p s (k + 1) d) ∧ Hid (But p w V) :=
      ⟨_, rfl, Lib.hid (R.out.put1 (k + 1)), Lib.hid ((But.of hB.out).put _ _)⟩
    rw [← hV]
    clear hV c0 c1 z1
    go_wp2_with fail
    refine (HE.out _ R1.out _).mono ?_
    rintro e w1 ⟨a, rfl, b1⟩
    have B2 := Lib.hid (B1.out.trans b1)
    clear b1
    go_wp2_with fail
    exact ⟨rfl, a, rfl, B2.out⟩
end Go.Proofs.YtdhndfmblmcapaaDoor
