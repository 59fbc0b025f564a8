/- ere.reader.atom, escaped, bracket: walks. -/
import Derived.Test.YtdhndfmblmcapaaDoorWent
import Derived.Test.YtdhndfmblmcapaaDoorNot
namespace Go.Proofs.YtdhndfmblmcapaaDoor
open Go.RowKit

set_option maxRecDepth 100000 in
theorem atom_beg : AtomAt [94] (.mk 2 zero4 0 0 []) 0 := by
  intro s k d p w rest hdrop _ hs _ hd hr
  refine ⟨fun _ => ?_, fun h => by omega⟩
  obtain ⟨hk, ek⟩ := drop_get hdrop
  have hb : s[k].toNat = 94 := by rw [ek]; rfl
  have HI := info_re
  clear hdrop ek
  go_enter Tryd.func56, Tryd.ntmps56
  go_upto_region 1 with (fail)
  obtain ⟨W, hW, hX, hB, _⟩ := re_box w zeroR
  change Code.wp _ _ _ _ (w.alloc (Obj.cells zeroR 27))
  rw [← hW]
  clear hW
  have R := Lib.hid (hr.after hB.out)
  have c0 := R.out.c0; have c1 := R.out.c1; have z1 := R.out.z 1
  go_upto_region 4 with (fail)
  obtain ⟨V, hV, R1, X1, B1⟩ : ∃ V, V = W.setCell ⟨p, 1, none⟩ (.int .i64 ((k : Int) + 1)) ∧ Hid (Rdr V p s (k + 1) d) ∧ Hid (Box V w.heap.size zeroR) ∧ Hid (But p w V) :=
    ⟨_, rfl, Lib.hid (R.out.put1 (k + 1)), Lib.hid (hX.out.but (but_put _ _ _ _) (by have := hr.lt; omega)), Lib.hid ((But.of hB.out).put _ _)⟩
  rw [← hV]
  clear hV c0 c1 z1
  go_wp2_with (refine wpList_store_row rfl 27 (.tmp 2) (.tmp 52) rfl w.heap.size (reC 2 zero4 0 0 (.slice none 0 0)) rfl rfl 27 zeroR X1.out.row HI rfl (re_one _ _ _ _ _ _ _) ?_)
  refine bodyPost_ret (v := .agg (reC 2 zero4 0 0 (.slice none 0 0))) (results_cell_row (by rfl) _ _ w.heap.size 27 _ (0, 0) _ (by rfl) (X1.out.setRow _).row Tryd.underlying27 (by rfl) HI) rfl ?_
  exact went_end (.leaf _ _ _ _ _ _) R1.out B1.out (Nat.le_refl _) hr.lt

set_option maxRecDepth 100000 in
theorem atom_end_ : AtomAt [36] (.mk 3 zero4 0 0 []) 0 := by
  intro s k d p w rest hdrop _ hs _ hd hr
  refine ⟨fun _ => ?_, fun h => by omega⟩
  obtain ⟨hk, ek⟩ := drop_get hdrop
  have hb : s[k].toNat = 36 := by rw [ek]; rfl
  have HI := info_re
  clear hdrop ek
  go_enter Tryd.func56, Tryd.ntmps56
  go_upto_region 1 with (fail)
  obtain ⟨W, hW, hX, hB, _⟩ := re_box w zeroR
  change Code.wp _ _ _ _ (w.alloc (Obj.cells zeroR 27))
  rw [← hW]
  clear hW
  have R := Lib.hid (hr.after hB.out)
  have c0 := R.out.c0; have c1 := R.out.c1; have z1 := R.out.z 1
  go_upto_region 4 with (fail)
  obtain ⟨V, hV, R1, X1, B1⟩ : ∃ V, V = W.setCell ⟨p, 1, none⟩ (.int .i64 ((k : Int) + 1)) ∧ Hid (Rdr V p s (k + 1) d) ∧ Hid (Box V w.heap.size zeroR) ∧ Hid (But p w V) :=
    ⟨_, rfl, Lib.hid (R.out.put1 (k + 1)), Lib.hid (hX.out.but (but_put _ _ _ _) (by have := hr.lt; omega)), Lib.hid ((But.of hB.out).put _ _)⟩
  rw [← hV]
  clear hV c0 c1 z1
  go_wp2_with (refine wpList_store_row rfl 27 (.tmp 2) (.tmp 55) rfl w.heap.size (reC 3 zero4 0 0 (.slice none 0 0)) rfl rfl 27 zeroR X1.out.row HI rfl (re_one _ _ _ _ _ _ _) ?_)
  refine bodyPost_ret (v := .agg (reC 3 zero4 0 0 (.slice none 0 0))) (results_cell_row (by rfl) _ _ w.heap.size 27 _ (0, 0) _ (by rfl) (X1.out.setRow _).row Tryd.underlying27 (by rfl) HI) rfl ?_
  exact went_end (.leaf _ _ _ _ _ _) R1.out B1.out (Nat.le_refl _) hr.lt

set_option maxRecDepth 100000 in
theorem atom_any : AtomAt [46] (.mk 1 (notW zero4) 0 0 []) 0 := by
  intro s k d p w rest hdrop _ hs _ hd hr
  refine ⟨fun _ => ?_, fun h => by omega⟩
  obtain ⟨hk, ek⟩ := drop_get hdrop
  have hb : s[k].toNat = 46 := by rw [ek]; rfl
  have HI := info_re
  have HA := Lib.hid (fun w => not_spec zero4 fits_zero w)
  clear hdrop ek
  go_enter Tryd.func56, Tryd.ntmps56
  go_upto_region 1 with (fail)
  obtain ⟨W, hW, hX, hB, _⟩ := re_box w zeroR
  change Code.wp _ _ _ _ (w.alloc (Obj.cells zeroR 27))
  rw [← hW]
  clear hW
  have R := Lib.hid (hr.after hB.out)
  have c0 := R.out.c0; have c1 := R.out.c1; have z1 := R.out.z 1
  go_upto_region 4 with (fail)
  obtain ⟨V, hV, R1, X1, B1⟩ : ∃ V, V = W.setCell ⟨p, 1, none⟩ (.int .i64 ((k : Int) + 1)) ∧ Hid (Rdr V p s (k + 1) d) ∧ Hid (Box V w.heap.size zeroR) ∧ Hid (But p w V) :=
    ⟨_, rfl, Lib.hid (R.out.put1 (k + 1)), Lib.hid (hX.out.but (but_put _ _ _ _) (by have := hr.lt; omega)), Lib.hid ((But.of hB.out).put _ _)⟩
  rw [← hV]
  clear hV c0 c1 z1
  go_wp2_with fail
  refine (HA.out _).mono ?_
  rintro e w1 ⟨rfl, b1⟩
  have X2 := Lib.hid (X1.out.after b1)
  have R2 := Lib.hid (R1.out.after b1)
  have B2 := Lib.hid (B1.out.then b1)
  clear b1
  simp only [words]
  go_wp2_with (refine wpList_store_row rfl 27 (.tmp 2) (.tmp 49) rfl w.heap.size (reC 1 (notW zero4) 0 0 (.slice none 0 0)) rfl rfl 27 zeroR X2.out.row HI rfl (re_one _ _ _ _ _ _ _) ?_)
  refine bodyPost_ret (v := .agg (reC 1 (notW zero4) 0 0 (.slice none 0 0))) (results_cell_row (by rfl) _ _ w.heap.size 27 _ (0, 0) _ (by rfl) (X2.out.setRow _).row Tryd.underlying27 (by rfl) HI) rfl ?_
  exact went_end (.leaf _ _ _ _ _ _) R2.out B2.out (Nat.le_refl _) hr.lt

set_option maxRecDepth 100000 in
theorem reesc_spec (c : UInt8) (n110 : c ≠ 110) (n116 : c ≠ 116) (s : ByteArray) (k d p : Nat) (w : World) (rest : List UInt8) (hdrop : s.data.toList.drop k = c :: rest) (hs : s.size ≤ 400) (hr : Rdr w p s k d) :
    Calls Tryd.prog 63 #[.pointer (some ⟨p, 0, none⟩)] w (Went p s (k + 1) d (oneT c.toNat) w) := by
  obtain ⟨hk, ek⟩ := drop_get hdrop
  have h1 : ((k : Int) == s.size) = false := by simp; omega
  have h2 : ((s[k].toNat : Int) == 110) = false := by
    rw [ek]
    simp
    intro e
    exact n110 (by apply UInt8.toNat.inj; show c.toNat = 110; omega)
  have h3 : ((s[k].toNat : Int) == 116) = false := by
    rw [ek]
    simp
    intro e
    exact n116 (by apply UInt8.toNat.inj; show c.toNat = 116; omega)
  rw [← ek]
  have HA := Lib.hid (fun w => ofByte_spec s[k].toNat (UInt8.toNat_lt _) w)
  have HI := info_re
  clear hdrop ek n110 n116
  go_enter Tryd.func63, Tryd.ntmps63
  go_upto_region 1 with (fail)
  obtain ⟨W, hW, hX, hB, _⟩ := re_box w zeroR
  change Code.wp _ _ _ _ (w.alloc (Obj.cells zeroR 27))
  rw [← hW]
  clear hW
  have R := Lib.hid (hr.after hB.out)
  have c0 := R.out.c0; have c1 := R.out.c1; have z1 := R.out.z 1
  have hk0 : (0 : Int) ≤ k := by omega
  have hk1 : (k : Int) < s.size := by omega
  go_quiet (fail)
  go_wp2_with fail
  go_quiet (fail)
  go_upto_region 5 with (fail)
  obtain ⟨V, hV, R1, X1, B1⟩ : ∃ V, V = (W.drewN _).setCell ⟨p, 1, none⟩ (.int .i64 ((k : Int) + 1)) ∧ Hid (Rdr V p s (k + 1) d) ∧ Hid (Box V w.heap.size zeroR) ∧ Hid (But p w V) :=
    ⟨_, rfl, Lib.hid ((R.out.after (drewN_below _ _)).put1 (k + 1)), Lib.hid ((hX.out.after (drewN_below _ _)).but (but_put _ _ _ _) (by have := hr.lt; omega)), Lib.hid (((But.of hB.out).then (drewN_below _ _)).put _ _)⟩
  rw [← hV]
  clear hV c0 c1 z1 h1
  go_wp2_with fail
  refine (HA.out _).mono ?_
  rintro e w1 ⟨rfl, b1⟩
  have X2 := Lib.hid (X1.out.after b1)
  have R2 := Lib.hid (R1.out.after b1)
  have B2 := Lib.hid (B1.out.then b1)
  clear b1
  go_wp2_with (refine wpList_store_row rfl 27 (.tmp 2) (.tmp 42) rfl w.heap.size (reC 1 (oneF s[k].toNat) 0 0 (.slice none 0 0)) rfl rfl 27 zeroR X2.out.row HI rfl (re_one _ _ _ _ _ _ _) ?_)
  refine bodyPost_ret (v := .agg (reC 1 (oneF s[k].toNat) 0 0 (.slice none 0 0))) (results_cell_row (by rfl) _ _ w.heap.size 27 _ (0, 0) _ (by rfl) (X2.out.setRow _).row Tryd.underlying27 (by rfl) HI) rfl ?_
  exact went_end (.leaf _ _ _ _ _ _) R2.out B2.out (Nat.le_refl _) hr.lt

set_option maxRecDepth 100000 in
theorem atom_esc (c : UInt8) (n110 : c ≠ 110) (n116 : c ≠ 116) : AtomAt [92, c] (oneT c.toNat) 0 := by
  intro s k d p w rest hdrop _ hs _ hd hr
  refine ⟨fun _ => ?_, fun h => by omega⟩
  obtain ⟨hk, ek⟩ := drop_get hdrop
  have hb : s[k].toNat = 92 := by rw [ek]; rfl
  have hdrop1 : s.data.toList.drop (k + 1) = c :: rest := by
    have : s.data.toList.drop (k + 1) = (s.data.toList.drop k).drop 1 := by rw [List.drop_drop]
    rw [this, hdrop]; rfl
  have HE := Lib.hid (fun w h => reesc_spec c n110 n116 s (k + 1) d p w rest hdrop1 hs h)
  have HI := info_re
  clear hdrop ek hdrop1
  go_enter Tryd.func56, Tryd.ntmps56
  go_upto_region 1 with (fail)
  obtain ⟨W, hW, hX, hB, _⟩ := re_box w zeroR
  change Code.wp _ _ _ _ (w.alloc (Obj.cells zeroR 27))
  rw [← hW]
  clear hW
  have R := Lib.hid (hr.after hB.out)
  have c0 := R.out.c0; have c1 := R.out.c1; have z1 := R.out.z 1
  go_upto_region 4 with (fail)
  obtain ⟨V, hV, R1, X1, B1⟩ : ∃ V, V = W.setCell ⟨p, 1, none⟩ (.int .i64 ((k : Int) + 1)) ∧ Hid (Rdr V p s (k + 1) d) ∧ Hid (Box V w.heap.size zeroR) ∧ Hid (But p w V) :=
    ⟨_, rfl, Lib.hid (R.out.put1 (k + 1)), Lib.hid (hX.out.but (but_put _ _ _ _) (by have := hr.lt; omega)), Lib.hid ((But.of hB.out).put _ _)⟩
  rw [← hV]
  clear hV c0 c1 z1
  go_wp2_with fail
  refine (HE.out _ R1.out).mono ?_
  rintro e w1 ⟨cs, rfl, hat, R2, b1⟩
  have X2 := Lib.hid (X1.out.but b1 (by have := hr.lt; omega))
  have R3 := Lib.hid R2
  have B2 := Lib.hid (B1.out.trans b1)
  have hg : w.heap.size < V.heap.size := X1.out.lt
  have T := Lib.hid hat
  obtain ⟨a, c, rfl, _⟩ := hat.opens
  clear b1 R2 hat
  go_wp2_with (refine wpList_store_row rfl 27 (.tmp 2) (.tmp 36) rfl w.heap.size (reC (oneT _).k (oneT _).f (oneT _).lo (oneT _).hi (.slice a (oneT _).kids.length c)) rfl rfl 27 zeroR X2.out.row HI rfl (re_one _ _ _ _ _ _ _) ?_)
  refine bodyPost_ret (v := .agg (reC (oneT _).k (oneT _).f (oneT _).lo (oneT _).hi (.slice a (oneT _).kids.length c))) (results_cell_row (by rfl) _ _ w.heap.size 27 _ (0, 0) _ (by rfl) (X2.out.setRow _).row Tryd.underlying27 (by rfl) HI) rfl ?_
  exact went_end ((T.out.setRow hg _).weak (by omega)) R3.out B2.out (Nat.le_refl _) hr.lt

theorem showL_cons (f : Nat → Nat) : ∃ r, showL f = 91 :: r := by
  unfold showL
  split
  · exact ⟨_, rfl⟩
  · exact ⟨_, rfl⟩

set_option maxRecDepth 100000 in
theorem bracket_spec (f : Nat → Nat) (hf : Fits f) (s : ByteArray) (k d p : Nat) (w : World) (rest : List UInt8) (hdrop : s.data.toList.drop k = showL f ++ rest) (hs : s.size ≤ 400) (j : Nat) (hr : Rdr w p s j d) :
    Calls Tryd.prog 62 #[.pointer (some ⟨p, 0, none⟩), .int .i64 k] w (Went p s (k + (showL f).length) d (.mk 1 f 0 0 []) w) := by
  have HP := Lib.hid (fun w => parse_show f hf s k rest hdrop (by omega) w)
  have HI := info_re
  clear hdrop
  go_enter Tryd.func62, Tryd.ntmps62
  go_upto_region 1 with (fail)
  obtain ⟨W, hW, hX, hB, _⟩ := re_box w zeroR
  change Code.wp _ _ _ _ (w.alloc (Obj.cells zeroR 27))
  rw [← hW]
  clear hW
  have R := Lib.hid (hr.after hB.out)
  have c0 := R.out.c0
  go_wp2_with fail
  refine (HP.out _).mono ?_
  rintro e w1 ⟨rfl, b1⟩
  have X1 := Lib.hid (hX.out.after b1)
  have R1 := Lib.hid (R.out.after b1)
  have B1 := Lib.hid (Below.step hB.out b1)
  clear b1 c0
  simp only [words]
  go_upto_region 2 with (fail)
  obtain ⟨V, hV, QV, BV⟩ := quad_box w1 f 24
  change Code.wp _ _ _ _ (w1.alloc (Obj.cells (words f) 24))
  rw [← hV]
  clear hV
  have X2 := Lib.hid (X1.out.after BV.out)
  have R2 := Lib.hid (R1.out.after BV.out)
  have B2 := Lib.hid (Below.step B1.out BV.out)
  have c1 := R2.out.c1; have z1 := R2.out.z 1
  have hlt := hr.lt
  have hgt := B1.out.size
  go_upto_region 5 with (fail)
  obtain ⟨U, hU, R3, X3, B3, Q3⟩ : ∃ U, U = V.setCell ⟨p, 1, none⟩ (.int .i64 ((k : Int) + ((showL f).length : Int))) ∧ Hid (Rdr U p s (k + (showL f).length) d) ∧ Hid (Box U w.heap.size zeroR) ∧ Hid (But p w U) ∧ Hid (Quad U w1.heap.size f) :=
    ⟨_, rfl, Lib.hid (by have := R2.out.put1 (k + (showL f).length); rwa [Int.natCast_add] at this), Lib.hid (X2.out.but (but_put _ _ _ _) (by omega)), Lib.hid ((But.of B2.out).put _ _), Lib.hid (QV.out.other (by omega) _)⟩
  rw [← hU]
  clear hU c1 z1
  have c0 := Q3.out.c 0 (by omega); have c1 := Q3.out.c 1 (by omega); have c2 := Q3.out.c 2 (by omega); have c3 := Q3.out.c 3 (by omega)
  go_wp2_with (refine wpList_store_row rfl 27 (.tmp 4) (.tmp 29) rfl w.heap.size (reC 1 f 0 0 (.slice none 0 0)) rfl rfl 27 zeroR X3.out.row HI rfl (re_one _ _ _ _ _ _ _) ?_)
  refine bodyPost_ret (v := .agg (reC 1 f 0 0 (.slice none 0 0))) (results_cell_row (by rfl) _ _ w.heap.size 27 _ (0, 0) _ (by rfl) (X3.out.setRow _).row Tryd.underlying27 (by rfl) HI) rfl ?_
  exact went_end (.leaf _ _ _ _ _ _) R3.out B3.out (Nat.le_refl _) hlt

set_option maxRecDepth 100000 in
theorem atom_set (f : Nat → Nat) (hf : Fits f) : AtomAt (showL f) (.mk 1 f 0 0 []) 0 := by
  intro s k d p w rest hdrop _ hs _ hd hr
  refine ⟨fun _ => ?_, fun h => by omega⟩
  obtain ⟨r, er⟩ := showL_cons f
  obtain ⟨hk, ek⟩ := drop_get (hdrop.trans (by rw [er]; rfl))
  have hb : s[k].toNat = 91 := by rw [ek]; rfl
  have HE := Lib.hid (fun w j h => bracket_spec f hf s k d p w rest hdrop hs j h)
  have HI := info_re
  clear hdrop ek er
  go_enter Tryd.func56, Tryd.ntmps56
  go_upto_region 1 with (fail)
  obtain ⟨W, hW, hX, hB, _⟩ := re_box w zeroR
  change Code.wp _ _ _ _ (w.alloc (Obj.cells zeroR 27))
  rw [← hW]
  clear hW
  have R := Lib.hid (hr.after hB.out)
  have c0 := R.out.c0; have c1 := R.out.c1; have z1 := R.out.z 1
  go_upto_region 4 with (fail)
  obtain ⟨V, hV, R1, X1, B1⟩ : ∃ V, V = W.setCell ⟨p, 1, none⟩ (.int .i64 ((k : Int) + 1)) ∧ Hid (Rdr V p s (k + 1) d) ∧ Hid (Box V w.heap.size zeroR) ∧ Hid (But p w V) :=
    ⟨_, rfl, Lib.hid (R.out.put1 (k + 1)), Lib.hid (hX.out.but (but_put _ _ _ _) (by have := hr.lt; omega)), Lib.hid ((But.of hB.out).put _ _)⟩
  rw [← hV]
  clear hV c0 c1 z1
  go_wp2_with fail
  refine (HE.out _ _ R1.out).mono ?_
  rintro e w1 ⟨cs, rfl, hat, R2, b1⟩
  have X2 := Lib.hid (X1.out.but b1 (by have := hr.lt; omega))
  have R3 := Lib.hid R2
  have B2 := Lib.hid (B1.out.trans b1)
  have hg : w.heap.size < V.heap.size := X1.out.lt
  have T := Lib.hid hat
  obtain ⟨a, c, rfl, _⟩ := hat.opens
  clear b1 R2 hat
  go_wp2_with (refine wpList_store_row rfl 27 (.tmp 2) (.tmp 32) rfl w.heap.size (reC 1 f 0 0 (.slice a 0 c)) rfl rfl 27 zeroR X2.out.row HI rfl (re_one _ _ _ _ _ _ _) ?_)
  refine bodyPost_ret (v := .agg (reC 1 f 0 0 (.slice a 0 c))) (results_cell_row (by rfl) _ _ w.heap.size 27 _ (0, 0) _ (by rfl) (X2.out.setRow _).row Tryd.underlying27 (by rfl) HI) rfl ?_
  exact went_end ((T.out.setRow hg _).weak (by omega)) R3.out B2.out (Nat.le_refl _) hr.lt

end Go.Proofs.YtdhndfmblmcapaaDoor
