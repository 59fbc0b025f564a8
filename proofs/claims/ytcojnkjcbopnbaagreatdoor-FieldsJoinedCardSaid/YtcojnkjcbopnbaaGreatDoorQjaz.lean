/- Merged by program: SetRow, ReadA, ReadB. -/
import Derived.Test.YtcojnkjcbopnbaaGreatDoorQjah
import Derived.Test.YtcojnkjcbopnbaaGreatDoorQjay
/- What memory keeps behind a row's store. -/
namespace Go.Proofs.YtcojnkjcbopnbaaGreatDoor
open Go.RowKit

theorem At.setRowS {V : World} {S : Nat → Prop} {g : Nat} {t : Tree} {cs : Array Value} (h : At V S t cs) (hg : ¬ S g) (ds : Array Value) : At (V.setRow g ds) S t cs :=
  h.keep fun _ hk _ => Go.setRow_other _ _ _ _ (fun e => hg (e ▸ hk))
theorem At.setRow {V : World} {C g : Nat} {t : Tree} {cs : Array Value} (h : At V (Up C) t cs) (hg : g < C) (ds : Array Value) : At (V.setRow g ds) (Up C) t cs := h.setRowS (by unfold Up; omega) ds
theorem But.setRow {p g : Nat} {w V : World} (h : But p w V) (hg : w.heap.size ≤ g) (ds : Array Value) : But p w (V.setRow g ds) :=
  ⟨h.os, h.tape, h.output, by have := h.size; simpa [World.setRow] using this, fun k hk hp => by rw [Go.setRow_other _ _ _ _ (by omega)]; exact h.block k hk hp⟩
theorem Rdr.setRow {p g : Nat} {V : World} {s : ByteArray} {k d : Nat} (h : Rdr V p s k d) (hg : p ≠ g) (ds : Array Value) : Rdr (V.setRow g ds) p s k d :=
  ⟨by rw [Go.setRow_other _ _ _ _ hg]; exact h.row⟩

theorem Box.put {w : World} {b : Nat} {cs : Array Value} (h : Box w b cs) (j : Nat) (v : Value) : Box (w.setCell ⟨b, j, none⟩ v) b (cs.setIfInBounds j v) :=
  ⟨by rw [heap_setCell_same _ _ j _ _ _ h.row]⟩
theorem Box.other {w : World} {b : Nat} {cs : Array Value} (h : Box w b cs) {c : Nat} (hc : b ≠ c) (j : Nat) (v : Value) : Box (w.setCell ⟨c, j, none⟩ v) b cs :=
  ⟨by rw [heap_setCell_other _ _ _ _ hc]; exact h.row⟩
theorem Box.drew {w : World} {b : Nat} {cs : Array Value} (h : Box w b cs) : Box w.drew b cs := h.after (below_drew w)

end Go.Proofs.YtcojnkjcbopnbaaGreatDoor

/- reader.bracket, escaped, group, atom at any text: walks. -/
namespace Go.Proofs.YtcojnkjcbopnbaaGreatDoor
open Go.RowKit

theorem fine_leaf (k : Int) (f : Nat → Nat) (hk : k = 1 ∨ ((k = 2 ∨ k = 3) ∧ ∀ i, i < 4 → f i = 0)) (hf : Fits f) : Fine (-1) (.mk k f 0 0 []) := by
  refine .mk _ _ ⟨hf, ?_, ?_, fun h => ?_, fun _ => ⟨rfl, rfl⟩, fun _ => rfl, fun _ => by decide, fun h => ?_, fun h => ?_, Nat.zero_le _⟩ (fun c hc => by cases hc)
  · show 0 ≤ k; rcases hk with h | ⟨h | h, _⟩ <;> omega
  · show k ≤ 6; rcases hk with h | ⟨h | h, _⟩ <;> omega
  · rcases hk with h1 | ⟨_, h1⟩
    · exact absurd h1 h
    · exact h1
  · have h' : k = 4 ∨ k = 5 := h; rcases hk with h1 | ⟨h1 | h1, _⟩ <;> omega
  · have h' : k = 6 := h; rcases hk with h1 | ⟨h1 | h1, _⟩ <;> omega
set_option maxRecDepth 100000 in
theorem bracketA (p : Nat) (s : ByteArray) (k j d : Nat) (w : World) (hk : k < s.size) (hb : s[k].toNat = 91) (hs : s.size ≤ 400) (hx : RdX w p s j d) :
    Calls Tryz.prog 139 #[.pointer (some ⟨p, 0, none⟩), .int .i64 k] w (ReadA 1 0 p s k d w) := by
  obtain ⟨W, hW, hX, hB, _⟩ := re_box w zeroR
  have XW := Lib.hid (hx.after hB.out)
  have HP := Lib.hid (classParse_any s k hk hb hs W XW.out.mx)
  have HI := info_re
  have hlt := hx.r.lt
  clear hx
  go_enter Tryz.func139, Tryz.ntmps139
  go_upto_region 1 with (fail)
  change Code.wp _ _ _ _ (w.alloc (Obj.cells zeroR 68))
  rw [← hW]
  clear hW
  have c0 := XW.out.r.c0
  go_wp2_with fail
  refine HP.out.mono ?_
  rintro e w1 ⟨f, n, x, rfl, hf, b1⟩
  have X1 := Lib.hid (hX.out.after b1)
  have R1 := Lib.hid (XW.out.r.after b1)
  have B1 := Lib.hid (Below.step hB.out b1)
  clear b1 c0
  simp only [words]
  go_upto_region 2 with (fail)
  obtain ⟨V, hV, QV, BV⟩ := quad_box w1 f 65
  change Code.wp _ _ _ _ (w1.alloc (Obj.cells (words f) 65))
  rw [← hV]
  clear hV
  have X2 := Lib.hid (X1.out.after BV.out)
  have R2 := Lib.hid (R1.out.after BV.out)
  have B2 := Lib.hid (Below.step B1.out BV.out)
  by_cases hx0 : x = 0
  rotate_left
  · have hxb : (x == 0) = false := beq_eq_false_iff_ne.2 hx0
    have HX0 := Lib.hid hx0; clear hx0
    go_wp2_with fail
    exact ⟨rfl, Or.inr ⟨k, x, HX0.out, rfl, .of B2.out⟩⟩
  subst hx0
  obtain ⟨hn1, hn2⟩ := hf.out.2 rfl
  have c1 := R2.out.c1; have z1 := R2.out.z 1
  have hgt := B1.out.size
  go_upto_region 5 with (fail)
  obtain ⟨U, hU, R3, X3, B3, Q3⟩ : ∃ U, U = V.setCell ⟨p, 1, none⟩ (.int .i64 (n : Int)) ∧ Hid (Rdr U p s n d) ∧ Hid (Box U w.heap.size zeroR) ∧ Hid (But p w U) ∧ Hid (Quad U w1.heap.size f) :=
    ⟨_, rfl, Lib.hid (R2.out.put1 n), Lib.hid (X2.out.but (but_put _ _ _ _) (by omega)), Lib.hid ((But.of B2.out).put _ _), Lib.hid (QV.out.other (by omega) _)⟩
  rw [← hU]
  clear hU c1 z1
  have c0 := Q3.out.c 0 (by omega); have c1 := Q3.out.c 1 (by omega); have c2 := Q3.out.c 2 (by omega); have c3 := Q3.out.c 3 (by omega)
  go_wp2_with (refine wpList_store_row rfl 68 (.tmp 4) (.tmp 29) rfl w.heap.size (reC 1 f 0 0 (.slice none 0 0)) rfl rfl 68 zeroR X3.out.row HI rfl (re_one _ _ _ _ _ _ _) ?_)
  refine bodyPost_ret (v := .agg (reC 1 f 0 0 (.slice none 0 0))) (results_cell_row (by rfl) _ _ w.heap.size 68 _ (0, 0) _ (by rfl) (X3.out.setRow _).row Tryz.underlying68 (by rfl) HI) rfl ?_
  exact Or.inl ⟨.mk 1 f 0 0 [], _, n, rfl, .leaf _ _ _ _ _ _, Lib.hid ⟨fine_leaf 1 f (Or.inl rfl) hf.out.1, Nat.zero_le _, by omega, hn2⟩, R3.out.setRow (by omega) _, B3.out.setRow (Nat.le_refl _) _⟩
end Go.Proofs.YtcojnkjcbopnbaaGreatDoor

/- reader.escaped, group, atom at any text: walks (made by gen_read.py's like). -/
namespace Go.Proofs.YtcojnkjcbopnbaaGreatDoor
open Go.RowKit

theorem ReadA.shift {m x p k d : Nat} {s : ByteArray} {w : World} {e : Ending} {w' : World} (h : ReadA m x p s (k + 1) d w e w') : ReadA 1 x p s k d w e w' := by
  rcases h with ⟨t, cs, k', e1, hat, hf, hr, hb⟩ | h
  · exact Or.inl ⟨t, cs, k', e1, hat, Lib.hid ⟨hf.out.1, by have := hf.out.2.1; omega, by have := hf.out.2.2.1; omega, hf.out.2.2.2⟩, hr, hb⟩
  · exact Or.inr h

set_option maxRecDepth 100000 in
theorem esc_n (p : Nat) (s : ByteArray) (k d : Nat) (w : World) (hk : k < s.size) (hs : s.size ≤ 400) (h2 : ((s[k].toNat : Int) == 110) = true) (hr : Rdr w p s k d) :
    Calls Tryz.prog 140 #[.pointer (some ⟨p, 0, none⟩)] w (ReadA 1 0 p s k d w) := by
  have h1 : ((k : Int) == s.size) = false := by simp; omega
  have HA := Lib.hid (fun w => ofByte_spec 10 (by decide) w)
  have HI := info_re
  have hlt := hr.lt
  go_enter Tryz.func140, Tryz.ntmps140
  go_upto_region 1 with (fail)
  obtain ⟨W, hW, hX, hB, _⟩ := re_box w zeroR
  change Code.wp _ _ _ _ (w.alloc (Obj.cells zeroR 68))
  rw [← hW]
  clear hW
  have R := Lib.hid (hr.after hB.out)
  have c0 := R.out.c0; have c1 := R.out.c1; have z1 := R.out.z 1
  have hk0 : (0 : Int) ≤ k := by omega
  have hk1 : (k : Int) < s.size := by omega
  go_quiet (fail)
  go_wp2_with fail
  go_quiet (fail)
  go_upto_region 5 with (fail)
  obtain ⟨V, hV, R1, X1, B1⟩ : ∃ V, V = (W.drewN _).setCell ⟨p, 1, none⟩ (.int .i64 ((k : Int) + 1)) ∧ Hid (Rdr V p s (k + 1) d) ∧ Hid (Box V w.heap.size zeroR) ∧ Hid (But p w V) :=
    ⟨_, rfl, Lib.hid ((R.out.after (drewN_below _ _)).put1 (k + 1)), Lib.hid ((hX.out.after (drewN_below _ _)).but (but_put _ _ _ _) (by omega)), Lib.hid (((But.of hB.out).then (drewN_below _ _)).put _ _)⟩
  rw [← hV]
  clear hV c0 c1 z1 h1
  go_wp2_with fail
  refine (HA.out _).mono ?_
  rintro e w1 ⟨rfl, b1⟩
  have X2 := Lib.hid (X1.out.after b1)
  have R2 := Lib.hid (R1.out.after b1)
  have B2 := Lib.hid (B1.out.then b1)
  clear b1
  go_wp2_with (refine wpList_store_row rfl 68 (.tmp 2) (.tmp 42) rfl w.heap.size (reC 1 (oneF 10) 0 0 (.slice none 0 0)) rfl rfl 68 zeroR X2.out.row HI rfl (re_one _ _ _ _ _ _ _) ?_)
  refine bodyPost_ret (v := .agg (reC 1 (oneF 10) 0 0 (.slice none 0 0))) (results_cell_row (by rfl) _ _ w.heap.size 68 _ (0, 0) _ (by rfl) (X2.out.setRow _).row Tryz.underlying68 (by rfl) HI) rfl ?_
  exact Or.inl ⟨oneT 10, _, k + 1, rfl, .leaf _ _ _ _ _ _, Lib.hid ⟨fine_leaf 1 _ (Or.inl rfl) (fits_oneF _), Nat.zero_le _, Nat.le_refl _, by omega⟩, R2.out.setRow (by omega) _, B2.out.setRow (Nat.le_refl _) _⟩

set_option maxRecDepth 100000 in
theorem esc_t (p : Nat) (s : ByteArray) (k d : Nat) (w : World) (hk : k < s.size) (hs : s.size ≤ 400) (h2 : ((s[k].toNat : Int) == 110) = false) (h3 : ((s[k].toNat : Int) == 116) = true) (hr : Rdr w p s k d) :
    Calls Tryz.prog 140 #[.pointer (some ⟨p, 0, none⟩)] w (ReadA 1 0 p s k d w) := by
  have h1 : ((k : Int) == s.size) = false := by simp; omega
  have HA := Lib.hid (fun w => ofByte_spec 9 (by decide) w)
  have HI := info_re
  have hlt := hr.lt
  go_enter Tryz.func140, Tryz.ntmps140
  go_upto_region 1 with (fail)
  obtain ⟨W, hW, hX, hB, _⟩ := re_box w zeroR
  change Code.wp _ _ _ _ (w.alloc (Obj.cells zeroR 68))
  rw [← hW]
  clear hW
  have R := Lib.hid (hr.after hB.out)
  have c0 := R.out.c0; have c1 := R.out.c1; have z1 := R.out.z 1
  have hk0 : (0 : Int) ≤ k := by omega
  have hk1 : (k : Int) < s.size := by omega
  go_quiet (fail)
  go_wp2_with fail
  go_quiet (fail)
  go_upto_region 5 with (fail)
  obtain ⟨V, hV, R1, X1, B1⟩ : ∃ V, V = (W.drewN _).setCell ⟨p, 1, none⟩ (.int .i64 ((k : Int) + 1)) ∧ Hid (Rdr V p s (k + 1) d) ∧ Hid (Box V w.heap.size zeroR) ∧ Hid (But p w V) :=
    ⟨_, rfl, Lib.hid ((R.out.after (drewN_below _ _)).put1 (k + 1)), Lib.hid ((hX.out.after (drewN_below _ _)).but (but_put _ _ _ _) (by omega)), Lib.hid (((But.of hB.out).then (drewN_below _ _)).put _ _)⟩
  rw [← hV]
  clear hV c0 c1 z1 h1
  go_wp2_with fail
  refine (HA.out _).mono ?_
  rintro e w1 ⟨rfl, b1⟩
  have X2 := Lib.hid (X1.out.after b1)
  have R2 := Lib.hid (R1.out.after b1)
  have B2 := Lib.hid (B1.out.then b1)
  clear b1
  go_wp2_with (refine wpList_store_row rfl 68 (.tmp 2) (.tmp 42) rfl w.heap.size (reC 1 (oneF 9) 0 0 (.slice none 0 0)) rfl rfl 68 zeroR X2.out.row HI rfl (re_one _ _ _ _ _ _ _) ?_)
  refine bodyPost_ret (v := .agg (reC 1 (oneF 9) 0 0 (.slice none 0 0))) (results_cell_row (by rfl) _ _ w.heap.size 68 _ (0, 0) _ (by rfl) (X2.out.setRow _).row Tryz.underlying68 (by rfl) HI) rfl ?_
  exact Or.inl ⟨oneT 9, _, k + 1, rfl, .leaf _ _ _ _ _ _, Lib.hid ⟨fine_leaf 1 _ (Or.inl rfl) (fits_oneF _), Nat.zero_le _, Nat.le_refl _, by omega⟩, R2.out.setRow (by omega) _, B2.out.setRow (Nat.le_refl _) _⟩

set_option maxRecDepth 100000 in
theorem esc_c (p : Nat) (s : ByteArray) (k d : Nat) (w : World) (hk : k < s.size) (hs : s.size ≤ 400) (h2 : ((s[k].toNat : Int) == 110) = false) (h3 : ((s[k].toNat : Int) == 116) = false) (hr : Rdr w p s k d) :
    Calls Tryz.prog 140 #[.pointer (some ⟨p, 0, none⟩)] w (ReadA 1 0 p s k d w) := by
  have h1 : ((k : Int) == s.size) = false := by simp; omega
  have HA := Lib.hid (fun w => ofByte_spec s[k].toNat (UInt8.toNat_lt _) w)
  have HI := info_re
  have hlt := hr.lt
  go_enter Tryz.func140, Tryz.ntmps140
  go_upto_region 1 with (fail)
  obtain ⟨W, hW, hX, hB, _⟩ := re_box w zeroR
  change Code.wp _ _ _ _ (w.alloc (Obj.cells zeroR 68))
  rw [← hW]
  clear hW
  have R := Lib.hid (hr.after hB.out)
  have c0 := R.out.c0; have c1 := R.out.c1; have z1 := R.out.z 1
  have hk0 : (0 : Int) ≤ k := by omega
  have hk1 : (k : Int) < s.size := by omega
  go_quiet (fail)
  go_wp2_with fail
  go_quiet (fail)
  go_upto_region 5 with (fail)
  obtain ⟨V, hV, R1, X1, B1⟩ : ∃ V, V = (W.drewN _).setCell ⟨p, 1, none⟩ (.int .i64 ((k : Int) + 1)) ∧ Hid (Rdr V p s (k + 1) d) ∧ Hid (Box V w.heap.size zeroR) ∧ Hid (But p w V) :=
    ⟨_, rfl, Lib.hid ((R.out.after (drewN_below _ _)).put1 (k + 1)), Lib.hid ((hX.out.after (drewN_below _ _)).but (but_put _ _ _ _) (by omega)), Lib.hid (((But.of hB.out).then (drewN_below _ _)).put _ _)⟩
  rw [← hV]
  clear hV c0 c1 z1 h1
  go_wp2_with fail
  refine (HA.out _).mono ?_
  rintro e w1 ⟨rfl, b1⟩
  have X2 := Lib.hid (X1.out.after b1)
  have R2 := Lib.hid (R1.out.after b1)
  have B2 := Lib.hid (B1.out.then b1)
  clear b1
  go_wp2_with (refine wpList_store_row rfl 68 (.tmp 2) (.tmp 42) rfl w.heap.size (reC 1 (oneF s[k].toNat) 0 0 (.slice none 0 0)) rfl rfl 68 zeroR X2.out.row HI rfl (re_one _ _ _ _ _ _ _) ?_)
  refine bodyPost_ret (v := .agg (reC 1 (oneF s[k].toNat) 0 0 (.slice none 0 0))) (results_cell_row (by rfl) _ _ w.heap.size 68 _ (0, 0) _ (by rfl) (X2.out.setRow _).row Tryz.underlying68 (by rfl) HI) rfl ?_
  exact Or.inl ⟨oneT s[k].toNat, _, k + 1, rfl, .leaf _ _ _ _ _ _, Lib.hid ⟨fine_leaf 1 _ (Or.inl rfl) (fits_oneF _), Nat.zero_le _, Nat.le_refl _, by omega⟩, R2.out.setRow (by omega) _, B2.out.setRow (Nat.le_refl _) _⟩

set_option maxRecDepth 100000 in
theorem escapedA (p : Nat) (s : ByteArray) (k d : Nat) (w : World) (hk : k ≤ s.size) (hs : s.size ≤ 400) (hr : Rdr w p s k d) :
    Calls Tryz.prog 140 #[.pointer (some ⟨p, 0, none⟩)] w (ReadA 1 0 p s k d w) := by
  by_cases he : k = s.size
  · have h1 : ((k : Int) == s.size) = true := by rw [he]; exact beq_self_eq_true _
    clear he
    go_enter Tryz.func140, Tryz.ntmps140
    go_upto_region 1 with (fail)
    obtain ⟨W, hW, hX, hB, _⟩ := re_box w zeroR
    change Code.wp _ _ _ _ (w.alloc (Obj.cells zeroR 68))
    rw [← hW]
    clear hW
    have R := Lib.hid (hr.after hB.out)
    have c0 := R.out.c0; have c1 := R.out.c1
    go_quiet (fail)
    go_wp2_with fail
    exact ⟨rfl, Or.inr ⟨k, 3, by decide, rfl, (But.of hB.out).then (drewN_below _ _)⟩⟩
  · have hlt : k < s.size := by omega
    cases h2 : ((s[k].toNat : Int) == 110) with
    | true => exact esc_n p s k d w hlt hs h2 hr
    | false =>
      cases h3 : ((s[k].toNat : Int) == 116) with
      | true => exact esc_t p s k d w hlt hs h2 h3 hr
      | false => exact esc_c p s k d w hlt hs h2 h3 hr

/-- What reads a pattern in so many brackets. -/
def PatA (d : Nat) : Prop := ∀ (p : Nat) (s : ByteArray) (k : Nat) (w : World), k ≤ s.size → s.size ≤ 400 → RdX w p s k d → Calls Tryz.prog 65 #[.pointer (some ⟨p, 0, none⟩)] w (ReadA 0 1 p s k d w)

set_option maxRecDepth 100000 in
set_option maxHeartbeats 1000000 in
theorem groupA (d : Nat) (hP : d < 20 → PatA (d + 1)) (hd : d ≤ 20) (p : Nat) (s : ByteArray) (k : Nat) (w : World) (hk : k ≤ s.size) (hs : s.size ≤ 400) (hx : RdX w p s k d) (at_ : Int) :
    Calls Tryz.prog 138 #[.pointer (some ⟨p, 0, none⟩), .int .i64 at_] w (ReadA 1 0 p s k d w) := by
  by_cases h20' : d = 20
  · subst h20'
    have hr := hx.r
    go_enter Tryz.func138, Tryz.ntmps138
    go_upto_region 1 with (fail)
    obtain ⟨W, hW, hX, hB, hsz⟩ := re_box w zeroR
    change Code.wp _ _ _ _ (w.alloc (Obj.cells zeroR 68))
    rw [← hW]
    clear hW
    have R := Lib.hid (hr.after hB.out)
    have c2 := R.out.c2
    go_wp2_with fail
    exact ⟨rfl, Or.inr ⟨at_, 2, by decide, rfl, .of hB.out⟩⟩
  have HP := Lib.hid (hP (by omega))
  have h20 : ((d : Int) == 20) = false := by simp; omega
  have hd20 : d ≤ 19 := by omega
  have HI := info_re
  have hlt := hx.r.lt
  have HX := Lib.hid hx
  clear hP hx
  go_enter Tryz.func138, Tryz.ntmps138
  go_upto_region 1 with (fail)
  obtain ⟨W, hW, hX, hB, hsz⟩ := re_box w zeroR
  change Code.wp _ _ _ _ (w.alloc (Obj.cells zeroR 68))
  rw [← hW]
  clear hW
  have R := Lib.hid (HX.out.r.after hB.out)
  have c0 := R.out.c0; have c1 := R.out.c1; have c2 := R.out.c2; have z2 := R.out.z 2
  go_upto_region 4 with (fail)
  obtain ⟨V, hV, R1, X1, B1⟩ : ∃ V, V = W.setCell ⟨p, 2, none⟩ (.int .i64 ((d : Int) + 1)) ∧ Hid (Rdr V p s k (d + 1)) ∧ Hid (Box V w.heap.size zeroR) ∧ Hid (But p w V) :=
    ⟨_, rfl, Lib.hid (R.out.put2 (d + 1)), Lib.hid (hX.out.but (but_put _ _ _ _) (by omega)), Lib.hid ((But.of hB.out).put _ _)⟩
  rw [← hV]
  clear hV c0 c1 c2 z2
  have HC := Lib.hid (HP.out p s k V hk hs (HX.out.go B1.out R1.out))
  go_wp2_with fail
  refine HC.out.mono ?_
  rintro e w1 (⟨t, cs, k1, rfl, hat, hf, R2, b1⟩ | hfell)
  rotate_left
  · obtain ⟨a, x, hx0, rfl, b1⟩ := hfell
    have B2 := Lib.hid (B1.out.trans b1)
    have HX0 := Lib.hid hx0
    clear b1 hx0
    go_wp2_with fail
    exact ⟨rfl, Or.inr ⟨a, x, HX0.out, rfl, B2.out⟩⟩
  have hk1 := hf.out.2.2.2
  have X2 := Lib.hid (X1.out.but b1 (by omega))
  have R3 := Lib.hid R2
  have B2 := Lib.hid (B1.out.trans b1)
  have hg : w.heap.size < V.heap.size := X1.out.lt
  have hV1 := b1.size
  have T := Lib.hid hat
  obtain ⟨a, c, rfl, _⟩ := hat.opens
  clear b1 R2 hat
  simp only [reC]
  go_upto_region 5 with (fail)
  obtain ⟨U, hU, hY, hBU, _⟩ := re_box w1 (reC t.k t.f t.lo t.hi (.slice a t.kids.length c))
  change Code.wp _ _ _ _ (w1.alloc (Obj.cells (reC t.k t.f t.lo t.hi (.slice a t.kids.length c)) 68))
  rw [← hU]
  clear hU
  have R4 := Lib.hid (R3.out.after hBU.out)
  have X4 := Lib.hid (X2.out.after hBU.out)
  have B4 := Lib.hid (B2.out.then hBU.out)
  have c0 := R4.out.c0; have c1 := R4.out.c1
  by_cases hend : k1 = s.size
  · have hne : (((k1 : Nat) : Int) == s.size) = true := by rw [hend]; exact beq_self_eq_true _
    clear hend
    go_quiet (fail)
    obtain ⟨D, hD, bD⟩ : ∃ D, D = U.drewN _ ∧ Below U.heap.size U D := ⟨_, rfl, drewN_below U _⟩
    rw [← hD]
    clear hD c0 c1
    have R5 := Lib.hid (R4.out.after bD)
    have B5 := Lib.hid (B4.out.then bD)
    clear bD
    have c1 := R5.out.c1
    go_wp2_with fail
    exact ⟨rfl, Or.inr ⟨k1, 3, by decide, rfl, B5.out⟩⟩
  have hne : (((k1 : Nat) : Int) == s.size) = false := by simp; omega
  go_quiet (fail)
  clear c0 c1 hne h20
  obtain ⟨D, hD, bD⟩ : ∃ D, D = U.drewN _ ∧ Below U.heap.size U D := ⟨_, rfl, drewN_below U _⟩
  rw [← hD]
  clear hD
  have R5 := Lib.hid (R4.out.after bD)
  have X5 := Lib.hid (X4.out.after bD)
  have Y5 := Lib.hid (hY.out.after bD)
  have B5 := Lib.hid (B4.out.then bD)
  have hD1 := bD.size
  have T5 := Lib.hid ((T.out.after hBU.out).after bD)
  clear bD
  have c1 := R5.out.c1; have c2 := R5.out.c2; have z1 := R5.out.z 1; have z2 := R5.out.z 2
  go_upto_region 9 with (fail)
  obtain ⟨E, hE, R6, X6, Y6, B6, T6⟩ : ∃ E, E = (D.setCell ⟨p, 1, none⟩ (.int .i64 ((k1 : Int) + 1))).setCell ⟨p, 2, none⟩ (.int .i64 (d : Int)) ∧ Hid (Rdr E p s (k1 + 1) d) ∧ Hid (Box E w.heap.size zeroR) ∧ Hid (Box E w1.heap.size (reC t.k t.f t.lo t.hi (.slice a t.kids.length c))) ∧ Hid (But p w E) ∧ Hid (At E (Up V.heap.size) t (reC t.k t.f t.lo t.hi (.slice a t.kids.length c))) :=
    ⟨_, rfl, Lib.hid ((R5.out.put1 (k1 + 1)).put2 d), Lib.hid ((X5.out.but (but_put _ _ _ _) (by omega)).but (but_put _ _ _ _) (by omega)), Lib.hid ((Y5.out.but (but_put _ _ _ _) (by omega)).but (but_put _ _ _ _) (by omega)), Lib.hid ((B5.out.put _ _).put _ _), Lib.hid ((T5.out.but (but_put _ _ _ _) (by omega)).but (but_put _ _ _ _) (by omega))⟩
  rw [← hE]
  clear hE c1 c2 z1 z2
  obtain ⟨c0, c1, c2, c3, c4, c5, c6, c7⟩ := eight_re Y6.out.eight
  go_wp2_with (refine wpList_store_row rfl 68 (.tmp 4) (.tmp 53) rfl w.heap.size (reC t.k t.f t.lo t.hi (.slice a t.kids.length c)) rfl rfl 68 zeroR X6.out.row HI rfl (re_one _ _ _ _ _ _ _) ?_)
  refine bodyPost_ret (v := .agg (reC t.k t.f t.lo t.hi (.slice a t.kids.length c))) (results_cell_row (by rfl) _ _ w.heap.size 68 _ (0, 0) _ (by rfl) (X6.out.setRow _).row Tryz.underlying68 (by rfl) HI) rfl ?_
  have hf1 := hf.out.2.1
  have hf2 := hf.out.2.2.1
  exact Or.inl ⟨t, _, k1 + 1, rfl, (T6.out.setRow hg _).weak (by omega), Lib.hid ⟨hf.out.1, by omega, by omega, by omega⟩, R6.out.setRow (by omega) _, B6.out.setRow (Nat.le_refl _) _⟩

set_option maxRecDepth 100000 in
set_option maxHeartbeats 1000000 in
theorem atomA_grp (d p : Nat) (s : ByteArray) (k : Nat) (w : World) (hk : k < s.size) (hs : s.size ≤ 400) (hx : RdX w p s k d) (hb : s[k].toNat = 40) (hP : d < 20 → PatA (d + 1)) (hd : d ≤ 20):
    Calls Tryz.prog 128 #[.pointer (some ⟨p, 0, none⟩)] w (ReadA 1 0 p s k d w) := by
  have HX := Lib.hid hx
  have HI := info_re
  have hlt := hx.r.lt
  have HC := Lib.hid (fun V (hV : RdX V p s (k + 1) d) => (groupA d hP hd p s (k + 1) V (by omega) hs hV (k : Int)).mono fun _ _ h => h.shift)
  clear hx
  go_enter Tryz.func128, Tryz.ntmps128
  go_upto_region 1 with (fail)
  obtain ⟨W, hW, hX, hB, _⟩ := re_box w zeroR
  change Code.wp _ _ _ _ (w.alloc (Obj.cells zeroR 68))
  rw [← hW]
  clear hW
  have R := Lib.hid (HX.out.r.after hB.out)
  have c0 := R.out.c0; have c1 := R.out.c1; have z1 := R.out.z 1
  go_upto_region 4 with (fail)
  obtain ⟨V, hV, R1, X1, B1⟩ : ∃ V, V = W.setCell ⟨p, 1, none⟩ (.int .i64 ((k : Int) + 1)) ∧ Hid (Rdr V p s (k + 1) d) ∧ Hid (Box V w.heap.size zeroR) ∧ Hid (But p w V) :=
    ⟨_, rfl, Lib.hid (R.out.put1 (k + 1)), Lib.hid (hX.out.but (but_put _ _ _ _) (by omega)), Lib.hid ((But.of hB.out).put _ _)⟩
  rw [← hV]
  clear hV c0 c1 z1
  have XV := Lib.hid (HX.out.go B1.out R1.out)
  have HE := Lib.hid (HC.out V XV.out)
  go_wp2_with fail
  refine HE.out.mono ?_
  rintro e w1 (⟨t, cs, k1, rfl, hat, hf, R2, b1⟩ | hfell)
  rotate_left
  · obtain ⟨a, x, hx0, rfl, b1⟩ := hfell
    have B2 := Lib.hid (B1.out.trans b1)
    have HX0 := Lib.hid hx0
    clear b1 hx0
    go_wp2_with fail
    exact ⟨rfl, Or.inr ⟨a, x, HX0.out, rfl, B2.out⟩⟩
  have X2 := Lib.hid (X1.out.but b1 (by omega))
  have R3 := Lib.hid R2
  have B2 := Lib.hid (B1.out.trans b1)
  have hg : w.heap.size < V.heap.size := X1.out.lt
  have T := Lib.hid hat
  obtain ⟨a, c, rfl, _⟩ := hat.opens
  clear b1 R2 hat
  go_wp2_with (refine wpList_store_row rfl 68 (.tmp 2) (.tmp 27) rfl w.heap.size (reC t.k t.f t.lo t.hi (.slice a t.kids.length c)) rfl rfl 68 zeroR X2.out.row HI rfl (re_one _ _ _ _ _ _ _) ?_)
  refine bodyPost_ret (v := .agg (reC t.k t.f t.lo t.hi (.slice a t.kids.length c))) (results_cell_row (by rfl) _ _ w.heap.size 68 _ (0, 0) _ (by rfl) (X2.out.setRow _).row Tryz.underlying68 (by rfl) HI) rfl ?_
  exact Or.inl ⟨t, _, k1, rfl, (T.out.setRow hg _).weak (by omega), hf, R3.out.setRow (by omega) _, B2.out.setRow (Nat.le_refl _) _⟩

set_option maxRecDepth 100000 in
set_option maxHeartbeats 1000000 in
theorem atomA_set (d p : Nat) (s : ByteArray) (k : Nat) (w : World) (hk : k < s.size) (hs : s.size ≤ 400) (hx : RdX w p s k d) (hb : s[k].toNat = 91) :
    Calls Tryz.prog 128 #[.pointer (some ⟨p, 0, none⟩)] w (ReadA 1 0 p s k d w) := by
  have HX := Lib.hid hx
  have HI := info_re
  have hlt := hx.r.lt
  have HC := Lib.hid (fun V (hV : RdX V p s (k + 1) d) => bracketA p s k (k + 1) d V hk hb hs hV)
  clear hx
  go_enter Tryz.func128, Tryz.ntmps128
  go_upto_region 1 with (fail)
  obtain ⟨W, hW, hX, hB, _⟩ := re_box w zeroR
  change Code.wp _ _ _ _ (w.alloc (Obj.cells zeroR 68))
  rw [← hW]
  clear hW
  have R := Lib.hid (HX.out.r.after hB.out)
  have c0 := R.out.c0; have c1 := R.out.c1; have z1 := R.out.z 1
  go_upto_region 4 with (fail)
  obtain ⟨V, hV, R1, X1, B1⟩ : ∃ V, V = W.setCell ⟨p, 1, none⟩ (.int .i64 ((k : Int) + 1)) ∧ Hid (Rdr V p s (k + 1) d) ∧ Hid (Box V w.heap.size zeroR) ∧ Hid (But p w V) :=
    ⟨_, rfl, Lib.hid (R.out.put1 (k + 1)), Lib.hid (hX.out.but (but_put _ _ _ _) (by omega)), Lib.hid ((But.of hB.out).put _ _)⟩
  rw [← hV]
  clear hV c0 c1 z1
  have XV := Lib.hid (HX.out.go B1.out R1.out)
  have HE := Lib.hid (HC.out V XV.out)
  go_wp2_with fail
  refine HE.out.mono ?_
  rintro e w1 (⟨t, cs, k1, rfl, hat, hf, R2, b1⟩ | hfell)
  rotate_left
  · obtain ⟨a, x, hx0, rfl, b1⟩ := hfell
    have B2 := Lib.hid (B1.out.trans b1)
    have HX0 := Lib.hid hx0
    clear b1 hx0
    go_wp2_with fail
    exact ⟨rfl, Or.inr ⟨a, x, HX0.out, rfl, B2.out⟩⟩
  have X2 := Lib.hid (X1.out.but b1 (by omega))
  have R3 := Lib.hid R2
  have B2 := Lib.hid (B1.out.trans b1)
  have hg : w.heap.size < V.heap.size := X1.out.lt
  have T := Lib.hid hat
  obtain ⟨a, c, rfl, _⟩ := hat.opens
  clear b1 R2 hat
  go_wp2_with (refine wpList_store_row rfl 68 (.tmp 2) (.tmp 32) rfl w.heap.size (reC t.k t.f t.lo t.hi (.slice a t.kids.length c)) rfl rfl 68 zeroR X2.out.row HI rfl (re_one _ _ _ _ _ _ _) ?_)
  refine bodyPost_ret (v := .agg (reC t.k t.f t.lo t.hi (.slice a t.kids.length c))) (results_cell_row (by rfl) _ _ w.heap.size 68 _ (0, 0) _ (by rfl) (X2.out.setRow _).row Tryz.underlying68 (by rfl) HI) rfl ?_
  exact Or.inl ⟨t, _, k1, rfl, (T.out.setRow hg _).weak (by omega), hf, R3.out.setRow (by omega) _, B2.out.setRow (Nat.le_refl _) _⟩

set_option maxRecDepth 100000 in
set_option maxHeartbeats 1000000 in
theorem atomA_esc (d p : Nat) (s : ByteArray) (k : Nat) (w : World) (hk : k < s.size) (hs : s.size ≤ 400) (hx : RdX w p s k d) (hb : s[k].toNat = 92) :
    Calls Tryz.prog 128 #[.pointer (some ⟨p, 0, none⟩)] w (ReadA 1 0 p s k d w) := by
  have HX := Lib.hid hx
  have HI := info_re
  have hlt := hx.r.lt
  have HC := Lib.hid (fun V (hV : RdX V p s (k + 1) d) => (escapedA p s (k + 1) d V (by omega) hs hV.r).mono fun _ _ h => h.shift)
  clear hx
  go_enter Tryz.func128, Tryz.ntmps128
  go_upto_region 1 with (fail)
  obtain ⟨W, hW, hX, hB, _⟩ := re_box w zeroR
  change Code.wp _ _ _ _ (w.alloc (Obj.cells zeroR 68))
  rw [← hW]
  clear hW
  have R := Lib.hid (HX.out.r.after hB.out)
  have c0 := R.out.c0; have c1 := R.out.c1; have z1 := R.out.z 1
  go_upto_region 4 with (fail)
  obtain ⟨V, hV, R1, X1, B1⟩ : ∃ V, V = W.setCell ⟨p, 1, none⟩ (.int .i64 ((k : Int) + 1)) ∧ Hid (Rdr V p s (k + 1) d) ∧ Hid (Box V w.heap.size zeroR) ∧ Hid (But p w V) :=
    ⟨_, rfl, Lib.hid (R.out.put1 (k + 1)), Lib.hid (hX.out.but (but_put _ _ _ _) (by omega)), Lib.hid ((But.of hB.out).put _ _)⟩
  rw [← hV]
  clear hV c0 c1 z1
  have XV := Lib.hid (HX.out.go B1.out R1.out)
  have HE := Lib.hid (HC.out V XV.out)
  go_wp2_with fail
  refine HE.out.mono ?_
  rintro e w1 (⟨t, cs, k1, rfl, hat, hf, R2, b1⟩ | hfell)
  rotate_left
  · obtain ⟨a, x, hx0, rfl, b1⟩ := hfell
    have B2 := Lib.hid (B1.out.trans b1)
    have HX0 := Lib.hid hx0
    clear b1 hx0
    go_wp2_with fail
    exact ⟨rfl, Or.inr ⟨a, x, HX0.out, rfl, B2.out⟩⟩
  have X2 := Lib.hid (X1.out.but b1 (by omega))
  have R3 := Lib.hid R2
  have B2 := Lib.hid (B1.out.trans b1)
  have hg : w.heap.size < V.heap.size := X1.out.lt
  have T := Lib.hid hat
  obtain ⟨a, c, rfl, _⟩ := hat.opens
  clear b1 R2 hat
  go_wp2_with (refine wpList_store_row rfl 68 (.tmp 2) (.tmp 36) rfl w.heap.size (reC t.k t.f t.lo t.hi (.slice a t.kids.length c)) rfl rfl 68 zeroR X2.out.row HI rfl (re_one _ _ _ _ _ _ _) ?_)
  refine bodyPost_ret (v := .agg (reC t.k t.f t.lo t.hi (.slice a t.kids.length c))) (results_cell_row (by rfl) _ _ w.heap.size 68 _ (0, 0) _ (by rfl) (X2.out.setRow _).row Tryz.underlying68 (by rfl) HI) rfl ?_
  exact Or.inl ⟨t, _, k1, rfl, (T.out.setRow hg _).weak (by omega), hf, R3.out.setRow (by omega) _, B2.out.setRow (Nat.le_refl _) _⟩

set_option maxRecDepth 100000 in
set_option maxHeartbeats 1000000 in
theorem atomA_r1 (d p : Nat) (s : ByteArray) (k : Nat) (w : World) (hk : k < s.size) (hs : s.size ≤ 400) (hx : RdX w p s k d) (hb : s[k].toNat = 42) :
    Calls Tryz.prog 128 #[.pointer (some ⟨p, 0, none⟩)] w (ReadA 1 0 p s k d w) := by
  have HX := Lib.hid hx
  have HI := info_re
  have hlt := hx.r.lt
  clear hx
  go_enter Tryz.func128, Tryz.ntmps128
  go_upto_region 1 with (fail)
  obtain ⟨W, hW, hX, hB, _⟩ := re_box w zeroR
  change Code.wp _ _ _ _ (w.alloc (Obj.cells zeroR 68))
  rw [← hW]
  clear hW
  have R := Lib.hid (HX.out.r.after hB.out)
  have c0 := R.out.c0; have c1 := R.out.c1; have z1 := R.out.z 1
  go_upto_region 4 with (fail)
  obtain ⟨V, hV, R1, X1, B1⟩ : ∃ V, V = W.setCell ⟨p, 1, none⟩ (.int .i64 ((k : Int) + 1)) ∧ Hid (Rdr V p s (k + 1) d) ∧ Hid (Box V w.heap.size zeroR) ∧ Hid (But p w V) :=
    ⟨_, rfl, Lib.hid (R.out.put1 (k + 1)), Lib.hid (hX.out.but (but_put _ _ _ _) (by omega)), Lib.hid ((But.of hB.out).put _ _)⟩
  rw [← hV]
  clear hV c0 c1 z1
  have XV := Lib.hid (HX.out.go B1.out R1.out)
  go_wp2_with fail
  exact ⟨rfl, Or.inr ⟨k, 50, by decide, rfl, B1.out⟩⟩

set_option maxRecDepth 100000 in
set_option maxHeartbeats 1000000 in
theorem atomA_r2 (d p : Nat) (s : ByteArray) (k : Nat) (w : World) (hk : k < s.size) (hs : s.size ≤ 400) (hx : RdX w p s k d) (hb : s[k].toNat = 43) :
    Calls Tryz.prog 128 #[.pointer (some ⟨p, 0, none⟩)] w (ReadA 1 0 p s k d w) := by
  have HX := Lib.hid hx
  have HI := info_re
  have hlt := hx.r.lt
  clear hx
  go_enter Tryz.func128, Tryz.ntmps128
  go_upto_region 1 with (fail)
  obtain ⟨W, hW, hX, hB, _⟩ := re_box w zeroR
  change Code.wp _ _ _ _ (w.alloc (Obj.cells zeroR 68))
  rw [← hW]
  clear hW
  have R := Lib.hid (HX.out.r.after hB.out)
  have c0 := R.out.c0; have c1 := R.out.c1; have z1 := R.out.z 1
  go_upto_region 4 with (fail)
  obtain ⟨V, hV, R1, X1, B1⟩ : ∃ V, V = W.setCell ⟨p, 1, none⟩ (.int .i64 ((k : Int) + 1)) ∧ Hid (Rdr V p s (k + 1) d) ∧ Hid (Box V w.heap.size zeroR) ∧ Hid (But p w V) :=
    ⟨_, rfl, Lib.hid (R.out.put1 (k + 1)), Lib.hid (hX.out.but (but_put _ _ _ _) (by omega)), Lib.hid ((But.of hB.out).put _ _)⟩
  rw [← hV]
  clear hV c0 c1 z1
  have XV := Lib.hid (HX.out.go B1.out R1.out)
  go_wp2_with fail
  exact ⟨rfl, Or.inr ⟨k, 50, by decide, rfl, B1.out⟩⟩

set_option maxRecDepth 100000 in
set_option maxHeartbeats 1000000 in
theorem atomA_r3 (d p : Nat) (s : ByteArray) (k : Nat) (w : World) (hk : k < s.size) (hs : s.size ≤ 400) (hx : RdX w p s k d) (hb : s[k].toNat = 63) :
    Calls Tryz.prog 128 #[.pointer (some ⟨p, 0, none⟩)] w (ReadA 1 0 p s k d w) := by
  have HX := Lib.hid hx
  have HI := info_re
  have hlt := hx.r.lt
  clear hx
  go_enter Tryz.func128, Tryz.ntmps128
  go_upto_region 1 with (fail)
  obtain ⟨W, hW, hX, hB, _⟩ := re_box w zeroR
  change Code.wp _ _ _ _ (w.alloc (Obj.cells zeroR 68))
  rw [← hW]
  clear hW
  have R := Lib.hid (HX.out.r.after hB.out)
  have c0 := R.out.c0; have c1 := R.out.c1; have z1 := R.out.z 1
  go_upto_region 4 with (fail)
  obtain ⟨V, hV, R1, X1, B1⟩ : ∃ V, V = W.setCell ⟨p, 1, none⟩ (.int .i64 ((k : Int) + 1)) ∧ Hid (Rdr V p s (k + 1) d) ∧ Hid (Box V w.heap.size zeroR) ∧ Hid (But p w V) :=
    ⟨_, rfl, Lib.hid (R.out.put1 (k + 1)), Lib.hid (hX.out.but (but_put _ _ _ _) (by omega)), Lib.hid ((But.of hB.out).put _ _)⟩
  rw [← hV]
  clear hV c0 c1 z1
  have XV := Lib.hid (HX.out.go B1.out R1.out)
  go_wp2_with fail
  exact ⟨rfl, Or.inr ⟨k, 50, by decide, rfl, B1.out⟩⟩

set_option maxRecDepth 100000 in
set_option maxHeartbeats 1000000 in
theorem atomA_r4 (d p : Nat) (s : ByteArray) (k : Nat) (w : World) (hk : k < s.size) (hs : s.size ≤ 400) (hx : RdX w p s k d) (hb : s[k].toNat = 123) :
    Calls Tryz.prog 128 #[.pointer (some ⟨p, 0, none⟩)] w (ReadA 1 0 p s k d w) := by
  have HX := Lib.hid hx
  have HI := info_re
  have hlt := hx.r.lt
  clear hx
  go_enter Tryz.func128, Tryz.ntmps128
  go_upto_region 1 with (fail)
  obtain ⟨W, hW, hX, hB, _⟩ := re_box w zeroR
  change Code.wp _ _ _ _ (w.alloc (Obj.cells zeroR 68))
  rw [← hW]
  clear hW
  have R := Lib.hid (HX.out.r.after hB.out)
  have c0 := R.out.c0; have c1 := R.out.c1; have z1 := R.out.z 1
  go_upto_region 4 with (fail)
  obtain ⟨V, hV, R1, X1, B1⟩ : ∃ V, V = W.setCell ⟨p, 1, none⟩ (.int .i64 ((k : Int) + 1)) ∧ Hid (Rdr V p s (k + 1) d) ∧ Hid (Box V w.heap.size zeroR) ∧ Hid (But p w V) :=
    ⟨_, rfl, Lib.hid (R.out.put1 (k + 1)), Lib.hid (hX.out.but (but_put _ _ _ _) (by omega)), Lib.hid ((But.of hB.out).put _ _)⟩
  rw [← hV]
  clear hV c0 c1 z1
  have XV := Lib.hid (HX.out.go B1.out R1.out)
  go_wp2_with fail
  exact ⟨rfl, Or.inr ⟨k, 50, by decide, rfl, B1.out⟩⟩

set_option maxRecDepth 100000 in
set_option maxHeartbeats 1000000 in
theorem atomA_any (d p : Nat) (s : ByteArray) (k : Nat) (w : World) (hk : k < s.size) (hs : s.size ≤ 400) (hx : RdX w p s k d) (hb : s[k].toNat = 46) :
    Calls Tryz.prog 128 #[.pointer (some ⟨p, 0, none⟩)] w (ReadA 1 0 p s k d w) := by
  have HX := Lib.hid hx
  have HI := info_re
  have hlt := hx.r.lt
  have HA := Lib.hid (fun w => not_spec zero4 fits_zero w)
  clear hx
  go_enter Tryz.func128, Tryz.ntmps128
  go_upto_region 1 with (fail)
  obtain ⟨W, hW, hX, hB, _⟩ := re_box w zeroR
  change Code.wp _ _ _ _ (w.alloc (Obj.cells zeroR 68))
  rw [← hW]
  clear hW
  have R := Lib.hid (HX.out.r.after hB.out)
  have c0 := R.out.c0; have c1 := R.out.c1; have z1 := R.out.z 1
  go_upto_region 4 with (fail)
  obtain ⟨V, hV, R1, X1, B1⟩ : ∃ V, V = W.setCell ⟨p, 1, none⟩ (.int .i64 ((k : Int) + 1)) ∧ Hid (Rdr V p s (k + 1) d) ∧ Hid (Box V w.heap.size zeroR) ∧ Hid (But p w V) :=
    ⟨_, rfl, Lib.hid (R.out.put1 (k + 1)), Lib.hid (hX.out.but (but_put _ _ _ _) (by omega)), Lib.hid ((But.of hB.out).put _ _)⟩
  rw [← hV]
  clear hV c0 c1 z1
  have XV := Lib.hid (HX.out.go B1.out R1.out)
  go_wp2_with fail
  refine (HA.out _).mono ?_
  rintro e w1 ⟨rfl, b1⟩
  have X2 := Lib.hid (X1.out.after b1)
  have R2 := Lib.hid (R1.out.after b1)
  have B2 := Lib.hid (B1.out.then b1)
  clear b1
  simp only [words]
  go_wp2_with (refine wpList_store_row rfl 68 (.tmp 2) (.tmp 49) rfl w.heap.size (reC 1 (notW zero4) 0 0 (.slice none 0 0)) rfl rfl 68 zeroR X2.out.row HI rfl (re_one _ _ _ _ _ _ _) ?_)
  refine bodyPost_ret (v := .agg (reC 1 (notW zero4) 0 0 (.slice none 0 0))) (results_cell_row (by rfl) _ _ w.heap.size 68 _ (0, 0) _ (by rfl) (X2.out.setRow _).row Tryz.underlying68 (by rfl) HI) rfl ?_
  exact Or.inl ⟨.mk 1 (notW zero4) 0 0 [], _, k + 1, rfl, .leaf _ _ _ _ _ _, Lib.hid ⟨fine_leaf 1 _ (Or.inl rfl) (fits_not _), Nat.zero_le _, Nat.le_refl _, by omega⟩, R2.out.setRow (by omega) _, B2.out.setRow (Nat.le_refl _) _⟩

set_option maxRecDepth 100000 in
set_option maxHeartbeats 1000000 in
theorem atomA_beg (d p : Nat) (s : ByteArray) (k : Nat) (w : World) (hk : k < s.size) (hs : s.size ≤ 400) (hx : RdX w p s k d) (hb : s[k].toNat = 94) :
    Calls Tryz.prog 128 #[.pointer (some ⟨p, 0, none⟩)] w (ReadA 1 0 p s k d w) := by
  have HX := Lib.hid hx
  have HI := info_re
  have hlt := hx.r.lt
  clear hx
  go_enter Tryz.func128, Tryz.ntmps128
  go_upto_region 1 with (fail)
  obtain ⟨W, hW, hX, hB, _⟩ := re_box w zeroR
  change Code.wp _ _ _ _ (w.alloc (Obj.cells zeroR 68))
  rw [← hW]
  clear hW
  have R := Lib.hid (HX.out.r.after hB.out)
  have c0 := R.out.c0; have c1 := R.out.c1; have z1 := R.out.z 1
  go_upto_region 4 with (fail)
  obtain ⟨V, hV, R1, X1, B1⟩ : ∃ V, V = W.setCell ⟨p, 1, none⟩ (.int .i64 ((k : Int) + 1)) ∧ Hid (Rdr V p s (k + 1) d) ∧ Hid (Box V w.heap.size zeroR) ∧ Hid (But p w V) :=
    ⟨_, rfl, Lib.hid (R.out.put1 (k + 1)), Lib.hid (hX.out.but (but_put _ _ _ _) (by omega)), Lib.hid ((But.of hB.out).put _ _)⟩
  rw [← hV]
  clear hV c0 c1 z1
  have XV := Lib.hid (HX.out.go B1.out R1.out)
  go_wp2_with (refine wpList_store_row rfl 68 (.tmp 2) (.tmp 52) rfl w.heap.size (reC 2 (zero4) 0 0 (.slice none 0 0)) rfl rfl 68 zeroR X1.out.row HI rfl (re_one _ _ _ _ _ _ _) ?_)
  refine bodyPost_ret (v := .agg (reC 2 (zero4) 0 0 (.slice none 0 0))) (results_cell_row (by rfl) _ _ w.heap.size 68 _ (0, 0) _ (by rfl) (X1.out.setRow _).row Tryz.underlying68 (by rfl) HI) rfl ?_
  exact Or.inl ⟨.mk 2 (zero4) 0 0 [], _, k + 1, rfl, .leaf _ _ _ _ _ _, Lib.hid ⟨fine_leaf 2 _ (Or.inr ⟨Or.inl rfl, fun _ _ => rfl⟩) (fits_zero), Nat.zero_le _, Nat.le_refl _, by omega⟩, R1.out.setRow (by omega) _, B1.out.setRow (Nat.le_refl _) _⟩

set_option maxRecDepth 100000 in
set_option maxHeartbeats 1000000 in
theorem atomA_end (d p : Nat) (s : ByteArray) (k : Nat) (w : World) (hk : k < s.size) (hs : s.size ≤ 400) (hx : RdX w p s k d) (hb : s[k].toNat = 36) :
    Calls Tryz.prog 128 #[.pointer (some ⟨p, 0, none⟩)] w (ReadA 1 0 p s k d w) := by
  have HX := Lib.hid hx
  have HI := info_re
  have hlt := hx.r.lt
  clear hx
  go_enter Tryz.func128, Tryz.ntmps128
  go_upto_region 1 with (fail)
  obtain ⟨W, hW, hX, hB, _⟩ := re_box w zeroR
  change Code.wp _ _ _ _ (w.alloc (Obj.cells zeroR 68))
  rw [← hW]
  clear hW
  have R := Lib.hid (HX.out.r.after hB.out)
  have c0 := R.out.c0; have c1 := R.out.c1; have z1 := R.out.z 1
  go_upto_region 4 with (fail)
  obtain ⟨V, hV, R1, X1, B1⟩ : ∃ V, V = W.setCell ⟨p, 1, none⟩ (.int .i64 ((k : Int) + 1)) ∧ Hid (Rdr V p s (k + 1) d) ∧ Hid (Box V w.heap.size zeroR) ∧ Hid (But p w V) :=
    ⟨_, rfl, Lib.hid (R.out.put1 (k + 1)), Lib.hid (hX.out.but (but_put _ _ _ _) (by omega)), Lib.hid ((But.of hB.out).put _ _)⟩
  rw [← hV]
  clear hV c0 c1 z1
  have XV := Lib.hid (HX.out.go B1.out R1.out)
  go_wp2_with (refine wpList_store_row rfl 68 (.tmp 2) (.tmp 55) rfl w.heap.size (reC 3 (zero4) 0 0 (.slice none 0 0)) rfl rfl 68 zeroR X1.out.row HI rfl (re_one _ _ _ _ _ _ _) ?_)
  refine bodyPost_ret (v := .agg (reC 3 (zero4) 0 0 (.slice none 0 0))) (results_cell_row (by rfl) _ _ w.heap.size 68 _ (0, 0) _ (by rfl) (X1.out.setRow _).row Tryz.underlying68 (by rfl) HI) rfl ?_
  exact Or.inl ⟨.mk 3 (zero4) 0 0 [], _, k + 1, rfl, .leaf _ _ _ _ _ _, Lib.hid ⟨fine_leaf 3 _ (Or.inr ⟨Or.inr rfl, fun _ _ => rfl⟩) (fits_zero), Nat.zero_le _, Nat.le_refl _, by omega⟩, R1.out.setRow (by omega) _, B1.out.setRow (Nat.le_refl _) _⟩

set_option maxRecDepth 100000 in
set_option maxHeartbeats 1000000 in
theorem atomA_byte (d p : Nat) (s : ByteArray) (k : Nat) (w : World) (hk : k < s.size) (hs : s.size ≤ 400) (hx : RdX w p s k d) (n40 : ((s[k].toNat : Int) == 40) = false) (n91 : ((s[k].toNat : Int) == 91) = false) (n92 : ((s[k].toNat : Int) == 92) = false) (n42 : ((s[k].toNat : Int) == 42) = false) (n43 : ((s[k].toNat : Int) == 43) = false) (n63 : ((s[k].toNat : Int) == 63) = false) (n123 : ((s[k].toNat : Int) == 123) = false) (n46 : ((s[k].toNat : Int) == 46) = false) (n94 : ((s[k].toNat : Int) == 94) = false) (n36 : ((s[k].toNat : Int) == 36) = false) :
    Calls Tryz.prog 128 #[.pointer (some ⟨p, 0, none⟩)] w (ReadA 1 0 p s k d w) := by
  have HX := Lib.hid hx
  have HI := info_re
  have hlt := hx.r.lt
  have HA := Lib.hid (fun w => ofByte_spec s[k].toNat (UInt8.toNat_lt _) w)
  clear hx
  go_enter Tryz.func128, Tryz.ntmps128
  go_upto_region 1 with (fail)
  obtain ⟨W, hW, hX, hB, _⟩ := re_box w zeroR
  change Code.wp _ _ _ _ (w.alloc (Obj.cells zeroR 68))
  rw [← hW]
  clear hW
  have R := Lib.hid (HX.out.r.after hB.out)
  have c0 := R.out.c0; have c1 := R.out.c1; have z1 := R.out.z 1
  go_upto_region 4 with (fail)
  obtain ⟨V, hV, R1, X1, B1⟩ : ∃ V, V = W.setCell ⟨p, 1, none⟩ (.int .i64 ((k : Int) + 1)) ∧ Hid (Rdr V p s (k + 1) d) ∧ Hid (Box V w.heap.size zeroR) ∧ Hid (But p w V) :=
    ⟨_, rfl, Lib.hid (R.out.put1 (k + 1)), Lib.hid (hX.out.but (but_put _ _ _ _) (by omega)), Lib.hid ((But.of hB.out).put _ _)⟩
  rw [← hV]
  clear hV c0 c1 z1
  have XV := Lib.hid (HX.out.go B1.out R1.out)
  go_wp2_with fail
  refine (HA.out _).mono ?_
  rintro e w1 ⟨rfl, b1⟩
  have X2 := Lib.hid (X1.out.after b1)
  have R2 := Lib.hid (R1.out.after b1)
  have B2 := Lib.hid (B1.out.then b1)
  clear b1
  go_wp2_with (refine wpList_store_row rfl 68 (.tmp 2) (.tmp 57) rfl w.heap.size (reC 1 (oneF s[k].toNat) 0 0 (.slice none 0 0)) rfl rfl 68 zeroR X2.out.row HI rfl (re_one _ _ _ _ _ _ _) ?_)
  refine bodyPost_ret (v := .agg (reC 1 (oneF s[k].toNat) 0 0 (.slice none 0 0))) (results_cell_row (by rfl) _ _ w.heap.size 68 _ (0, 0) _ (by rfl) (X2.out.setRow _).row Tryz.underlying68 (by rfl) HI) rfl ?_
  exact Or.inl ⟨.mk 1 (oneF s[k].toNat) 0 0 [], _, k + 1, rfl, .leaf _ _ _ _ _ _, Lib.hid ⟨fine_leaf 1 _ (Or.inl rfl) (fits_oneF _), Nat.zero_le _, Nat.le_refl _, by omega⟩, R2.out.setRow (by omega) _, B2.out.setRow (Nat.le_refl _) _⟩

theorem atomA (d : Nat) (hP : d < 20 → PatA (d + 1)) (hd : d ≤ 20) (p : Nat) (s : ByteArray) (k : Nat) (w : World) (hk : k < s.size) (hs : s.size ≤ 400) (hx : RdX w p s k d) :
    Calls Tryz.prog 128 #[.pointer (some ⟨p, 0, none⟩)] w (ReadA 1 0 p s k d w) := by
  have no : ∀ n : Nat, s[k].toNat ≠ n → ((s[k].toNat : Int) == (n : Int)) = false := fun n h => beq_eq_false_iff_ne.2 (by omega)
  by_cases h40 : s[k].toNat = 40
  · exact atomA_grp d p s k w hk hs hx h40 hP hd
  by_cases h91 : s[k].toNat = 91
  · exact atomA_set d p s k w hk hs hx h91
  by_cases h92 : s[k].toNat = 92
  · exact atomA_esc d p s k w hk hs hx h92
  by_cases h42 : s[k].toNat = 42
  · exact atomA_r1 d p s k w hk hs hx h42
  by_cases h43 : s[k].toNat = 43
  · exact atomA_r2 d p s k w hk hs hx h43
  by_cases h63 : s[k].toNat = 63
  · exact atomA_r3 d p s k w hk hs hx h63
  by_cases h123 : s[k].toNat = 123
  · exact atomA_r4 d p s k w hk hs hx h123
  by_cases h46 : s[k].toNat = 46
  · exact atomA_any d p s k w hk hs hx h46
  by_cases h94 : s[k].toNat = 94
  · exact atomA_beg d p s k w hk hs hx h94
  by_cases h36 : s[k].toNat = 36
  · exact atomA_end d p s k w hk hs hx h36
  exact atomA_byte d p s k w hk hs hx (no 40 h40) (no 91 h91) (no 92 h92) (no 42 h42) (no 43 h43) (no 63 h63) (no 123 h123) (no 46 h46) (no 94 h94) (no 36 h36)
end Go.Proofs.YtcojnkjcbopnbaaGreatDoor
