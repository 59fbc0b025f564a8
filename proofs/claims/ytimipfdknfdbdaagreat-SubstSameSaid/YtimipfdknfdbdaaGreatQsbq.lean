/- Merged by program: PParse, RLight. -/
import Derived.Test.YtimipfdknfdbdaaGreatQsbo
import Derived.Test.YtimipfdknfdbdaaGreatQsbp
import Derived.Test.YtimipfdknfdbdaaGreatQsao
import Derived.Test.YtimipfdknfdbdaaGreatQsbb
/- aukletref05.Parse at any text: a walk. -/
namespace Go.Proofs.YtimipfdknfdbdaaGreat
open Go.RowKit

theorem pm_box (w : World) (s : ByteArray) : ∃ V, V = w.alloc (.cells #[.string s, .int .i64 0, .int .i64 0, .int .i64 0] 98) ∧ Hid (PM V w.heap.size s 0 0 0) ∧ Hid (Below w.heap.size w V) :=
  ⟨_, rfl, Lib.hid ⟨heap_alloc_last w _⟩, Lib.hid (below_new _ _)⟩

theorem par_put {w V : World} {p : Nat} {b1 e1 : Int} (hp : p ≠ w.heap.size) (h : Hid (Below w.heap.size w V) ∧ V.heap[w.heap.size]? = some (.cells #[.int .i64 0, .int .u64 0, .int .u64 0, .int .u64 0, .int .u64 0, .int .i64 0, .int .i64 0, .slice none 0 0] 38 (0, 0)) ∧ V.cell? ⟨p, 2, none⟩ = some (.int .i64 b1) ∧ V.cell? ⟨p, 3, none⟩ = some (.int .i64 e1)) :
    Hid (Below w.heap.size w (V.setRow w.heap.size #[.int .i64 0, .int .u64 0, .int .u64 0, .int .u64 0, .int .u64 0, .int .i64 0, .int .i64 0, .slice none 0 0])) ∧ (V.setRow w.heap.size #[.int .i64 0, .int .u64 0, .int .u64 0, .int .u64 0, .int .u64 0, .int .i64 0, .int .i64 0, .slice none 0 0]).heap[w.heap.size]? = some (.cells #[.int .i64 0, .int .u64 0, .int .u64 0, .int .u64 0, .int .u64 0, .int .i64 0, .int .i64 0, .slice none 0 0] 38 (0, 0)) ∧ (V.setRow w.heap.size #[.int .i64 0, .int .u64 0, .int .u64 0, .int .u64 0, .int .u64 0, .int .i64 0, .int .i64 0, .slice none 0 0]).cell? ⟨p, 2, none⟩ = some (.int .i64 b1) ∧ (V.setRow w.heap.size #[.int .i64 0, .int .u64 0, .int .u64 0, .int .u64 0, .int .u64 0, .int .i64 0, .int .i64 0, .slice none 0 0]).cell? ⟨p, 3, none⟩ = some (.int .i64 e1) := by
  have hb : Box V w.heap.size #[.int .i64 0, .int .u64 0, .int .u64 0, .int .u64 0, .int .u64 0, .int .i64 0, .int .i64 0, .slice none 0 0] := ⟨h.2.1⟩
  refine ⟨Lib.hid (below_setRow h.1.out (Nat.le_refl _) _), (hb.setRow _).row, ?_, ?_⟩
  · rw [World.cell?_of_block (a := ⟨p, 2, none⟩) (Go.setRow_other _ _ _ _ hp)]; exact h.2.2.1
  · rw [World.cell?_of_block (a := ⟨p, 3, none⟩) (Go.setRow_other _ _ _ _ hp)]; exact h.2.2.2
theorem par_drew {w V : World} {p : Nat} {b1 e1 : Int} (h : Hid (Below w.heap.size w V) ∧ V.heap[w.heap.size]? = some (.cells #[.int .i64 0, .int .u64 0, .int .u64 0, .int .u64 0, .int .u64 0, .int .i64 0, .int .i64 0, .slice none 0 0] 38 (0, 0)) ∧ V.cell? ⟨p, 2, none⟩ = some (.int .i64 b1) ∧ V.cell? ⟨p, 3, none⟩ = some (.int .i64 e1)) :
    Hid (Below w.heap.size w V.drew) ∧ V.drew.heap[w.heap.size]? = some (.cells #[.int .i64 0, .int .u64 0, .int .u64 0, .int .u64 0, .int .u64 0, .int .i64 0, .int .i64 0, .slice none 0 0] 38 (0, 0)) ∧ V.drew.cell? ⟨p, 2, none⟩ = some (.int .i64 b1) ∧ V.drew.cell? ⟨p, 3, none⟩ = some (.int .i64 e1) := ⟨Lib.hid (h.1.out.trans ((below_drew V).mono (h.1.out.size))), h.2.1, h.2.2.1, h.2.2.2⟩

set_option maxRecDepth 100000 in
set_option maxHeartbeats 2000000 in
theorem rparse5_any (s : ByteArray) (w : World) :
    Calls Tryz.prog 29 #[.string s] w (ParseOut w) := by
  have HI := info_re
  obtain ⟨W, hW, hX, hB, hsz⟩ := re_box w zeroR
  have hwl := hX.out.lt
  by_cases hz : 400 < s.size
  · have hd : decide (400 < (s.size : Int)) = true := decide_eq_true (by omega)
    go_enter Tryz.func29, Tryz.ntmps29
    go_upto_region 1 with (fail)
    change Code.wp _ _ _ _ (w.alloc (Obj.cells zeroR 38))
    rw [← hW]
    clear hW
    go_wp2_with (refine wpList_store_row rfl 38 (.tmp 2) (.tmp 10) rfl w.heap.size zeroR rfl rfl 38 zeroR hX.out.row HI rfl (re_one _ _ _ _ _ _ _) ?_)
    obtain ⟨Y, hY, XY, BY⟩ : ∃ Y, Y = W.setRow w.heap.size zeroR ∧ Hid (Box Y w.heap.size zeroR) ∧ Hid (Below w.heap.size w Y) := ⟨_, rfl, Lib.hid (hX.out.setRow zeroR), Lib.hid (below_setRow hB.out (Nat.le_refl _) _)⟩
    change bodyPost _ _ _ _ _ (W.setRow w.heap.size zeroR)
    rw [← hY]
    clear hY
    obtain ⟨d0, d1, d2, d3, d4, d5, d6, d7⟩ := eight_zero XY.out.eight
    refine bodyPost_ret (v := .tuple #[.agg zeroR, .int .i64 0, .int .i64 2]) (by simp [results, Tryz.results29, go_sem, d0, d1, d2, d3, d4, d5, d6, d7, zeroR, reC, zero4]) rfl ?_
    exact ⟨emptyT, zeroR, 0, 2, rfl, .leaf _ _ _ _ _ _, Lib.hid fine_empty, BY.out⟩
  have hd : decide (400 < (s.size : Int)) = false := decide_eq_false (by omega)
  have hs : s.size ≤ 400 := by omega
  obtain ⟨V, hV, hP, hBV⟩ := pm_box W s
  have X0 := Lib.hid (hX.out.after hBV.out)
  have B0 := Lib.hid (Below.step hB.out hBV.out)
  have HPt := Lib.hid (ppat_any 20 0 rfl W.heap.size s 0 0 V (Nat.zero_le _) hs hP.out)
  have hVl := hP.out.lt
  go_enter Tryz.func29, Tryz.ntmps29
  go_upto_region 1 with (fail)
  change Code.wp _ _ _ _ (w.alloc (Obj.cells zeroR 38))
  rw [← hW]
  clear hW hX hB hsz
  go_upto_region 4 with (fail)
  change Code.wp _ _ _ _ (W.alloc (.cells #[.string s, .int .i64 0, .int .i64 0, .int .i64 0] 98))
  rw [← hV]
  clear hV hP hBV
  go_wp2_with fail
  refine HPt.out.mono ?_
  rintro e w1 ⟨t, cs, k1, b1, e1, rfl, hat, hf, pm1, bu1⟩
  have X1 := Lib.hid (X0.out.but bu1 (by omega))
  have B1 := Lib.hid (B0.out.trans (bu1.below (B := w.heap.size) (by omega) (by omega)))
  have PM1 := Lib.hid pm1
  have T1 := Lib.hid hat
  have f1 := Lib.hid hf.out.1
  have hw1 := bu1.size
  obtain ⟨a, c, e, _⟩ := hat.opens
  subst e
  clear pm1 bu1 hat hf HPt X0 B0
  simp only [reC]
  go_upto_region 5 with (fail)
  obtain ⟨U, hU, hY, hBU, hszU⟩ := re_box w1 (reC t.k t.f t.lo t.hi (.slice a t.kids.length c))
  change Code.wp _ _ _ _ (w1.alloc (Obj.cells (reC t.k t.f t.lo t.hi (.slice a t.kids.length c)) 38))
  rw [← hU]
  clear hU
  have X2 := Lib.hid (X1.out.after hBU.out)
  have B2 := Lib.hid (Below.step B1.out hBU.out)
  have PM2 := Lib.hid (PM1.out.after hBU.out)
  have T2 : Hid (At U (fun j => V.heap.size ≤ j ∧ j ≠ w1.heap.size) t (reC t.k t.f t.lo t.hi (.slice a t.kids.length c))) := Lib.hid ((T1.out.inWorld.after hBU.out).weakS fun j hj => ⟨hj.1, by have := hj.2; omega⟩)
  clear X1 B1 PM1 T1 hBU
  have c3 := PM2.out.c3
  have c2 := PM2.out.c2
  by_cases he : e1 = 0
  · subst he
    obtain ⟨d0, d1, d2, d3, d4, d5, d6, d7⟩ := eight_re hY.out.eight
    go_wp2_with (refine wpList_store_row rfl 38 (.tmp 2) (.tmp 30) rfl w.heap.size (reC t.k t.f t.lo t.hi (.slice a t.kids.length c)) rfl rfl 38 zeroR X2.out.row HI rfl (re_one _ _ _ _ _ _ _) ?_)
    clear d0 d1 d2 d3 d4 d5 d6 d7
    obtain ⟨Y, hY', XY, TY, BY⟩ : ∃ Y, Y = U.setRow w.heap.size (reC t.k t.f t.lo t.hi (.slice a t.kids.length c)) ∧ Hid (Box Y w.heap.size (reC t.k t.f t.lo t.hi (.slice a t.kids.length c))) ∧ Hid (At Y (Up w.heap.size) t (reC t.k t.f t.lo t.hi (.slice a t.kids.length c))) ∧ Hid (Below w.heap.size w Y) :=
      ⟨_, rfl, Lib.hid (X2.out.setRow _), Lib.hid ((T2.out.setRowS (fun h => by have := h.1; omega) _).weakS (fun j hj => by have := hj.1; unfold Up; omega)), Lib.hid (below_setRow B2.out (Nat.le_refl _) _)⟩
    change bodyPost _ _ _ _ _ (U.setRow w.heap.size (reC t.k t.f t.lo t.hi (.slice a t.kids.length c)))
    rw [← hY']
    clear hY'
    obtain ⟨d0, d1, d2, d3, d4, d5, d6, d7⟩ := eight_re XY.out.eight
    refine bodyPost_ret (v := .tuple #[.agg (reC t.k t.f t.lo t.hi (.slice a t.kids.length c)), .int .i64 0, .int .i64 0]) (by simp [results, Tryz.results29, go_sem, d0, d1, d2, d3, d4, d5, d6, d7, reC]) rfl ?_
    exact ⟨t, _, 0, 0, rfl, TY.out, f1, BY.out⟩
  · have hd2 : (e1 != 0) = true := by simpa using he
    have HE := Lib.hid he; clear he
    go_upto_region 6 with (fail)
    have hS : Hid (Below w.heap.size w U) ∧ U.heap[w.heap.size]? = some (.cells #[.int .i64 0, .int .u64 0, .int .u64 0, .int .u64 0, .int .u64 0, .int .i64 0, .int .i64 0, .slice none 0 0] 38 (0, 0)) ∧ U.cell? ⟨W.heap.size, 2, none⟩ = some (.int .i64 b1) ∧ U.cell? ⟨W.heap.size, 3, none⟩ = some (.int .i64 e1) := ⟨B2, X2.out.row, c2, c3⟩
    have hne : W.heap.size ≠ w.heap.size := by omega
    refine wp_region_held_drew (S := fun w' => Hid (Below w.heap.size w w') ∧ w'.heap[w.heap.size]? = some (.cells #[.int .i64 0, .int .u64 0, .int .u64 0, .int .u64 0, .int .u64 0, .int .i64 0, .int .i64 0, .slice none 0 0] 38 (0, 0)) ∧ w'.cell? ⟨W.heap.size, 2, none⟩ = some (.int .i64 b1) ∧ w'.cell? ⟨W.heap.size, 3, none⟩ = some (.int .i64 e1)) (by kernel_rfl) (par_drew hS) (fun hD => ?_)
    clear hS
    refine takeW (i := 0) (d := 21) (v := .agg #[.int .i64 0, .int .u64 0, .int .u64 0, .int .u64 0, .int .u64 0, .int .i64 0, .int .i64 0, .slice none 0 0]) rfl rfl (by kernel_rfl) (by kernel_rfl) (by kernel_rfl) (fun _ _ _ h => h) (by rfl) (fun w' hSw => by obtain ⟨_, s2, s3, s4⟩ := hSw; go_simp) hD ?_
    simp only [List.setIfInBounds_toArray, List.set_cons_zero, List.set_cons_succ]
    refine takeW (i := 1) (d := 22) (v := .pointer (some ⟨W.heap.size, 0, none⟩)) rfl rfl (by kernel_rfl) (by kernel_rfl) (by kernel_rfl) (fun _ _ _ h => h) (by rfl) (fun w' hSw => by obtain ⟨_, s2, s3, s4⟩ := hSw; go_simp) hD ?_
    simp only [List.setIfInBounds_toArray, List.set_cons_zero, List.set_cons_succ]
    refine takeW (i := 2) (d := 23) (v := .pointer (some ⟨W.heap.size, 0, none⟩)) rfl rfl (by kernel_rfl) (by kernel_rfl) (by kernel_rfl) (fun _ _ _ h => h) (by rfl) (fun w' hSw => by obtain ⟨_, s2, s3, s4⟩ := hSw; go_simp) hD ?_
    simp only [List.setIfInBounds_toArray, List.set_cons_zero, List.set_cons_succ]
    refine takeW (i := 3) (d := 24) (v := .pointer (some ⟨W.heap.size, 2, none⟩)) rfl rfl (by kernel_rfl) (by kernel_rfl) (by kernel_rfl) (fun _ _ _ h => h) (by rfl) (fun w' hSw => by obtain ⟨_, s2, s3, s4⟩ := hSw; go_simp) hD ?_
    simp only [List.setIfInBounds_toArray, List.set_cons_zero, List.set_cons_succ]
    refine takeW (i := 4) (d := 25) (v := .int .i64 b1) rfl rfl (by kernel_rfl) (by kernel_rfl) (by kernel_rfl) (fun _ _ _ h => h) (by rfl) (fun w' hSw => by obtain ⟨_, s2, s3, s4⟩ := hSw; go_simp) hD ?_
    simp only [List.setIfInBounds_toArray, List.set_cons_zero, List.set_cons_succ]
    refine takeW (i := 5) (d := 26) (v := .pointer (some ⟨W.heap.size, 0, none⟩)) rfl rfl (by kernel_rfl) (by kernel_rfl) (by kernel_rfl) (fun _ _ _ h => h) (by rfl) (fun w' hSw => by obtain ⟨_, s2, s3, s4⟩ := hSw; go_simp) hD ?_
    simp only [List.setIfInBounds_toArray, List.set_cons_zero, List.set_cons_succ]
    refine takeW (i := 6) (d := 27) (v := .pointer (some ⟨W.heap.size, 0, none⟩)) rfl rfl (by kernel_rfl) (by kernel_rfl) (by kernel_rfl) (fun _ _ _ h => h) (by rfl) (fun w' hSw => by obtain ⟨_, s2, s3, s4⟩ := hSw; go_simp) hD ?_
    simp only [List.setIfInBounds_toArray, List.set_cons_zero, List.set_cons_succ]
    refine takeW (i := 7) (d := 28) (v := .pointer (some ⟨W.heap.size, 3, none⟩)) rfl rfl (by kernel_rfl) (by kernel_rfl) (by kernel_rfl) (fun _ _ _ h => h) (by rfl) (fun w' hSw => by obtain ⟨_, s2, s3, s4⟩ := hSw; go_simp) hD ?_
    simp only [List.setIfInBounds_toArray, List.set_cons_zero, List.set_cons_succ]
    refine takeW (i := 8) (d := 29) (v := .int .i64 e1) rfl rfl (by kernel_rfl) (by kernel_rfl) (by kernel_rfl) (fun _ _ _ h => h) (by rfl) (fun w' hSw => by obtain ⟨_, s2, s3, s4⟩ := hSw; go_simp) hD ?_
    simp only [List.setIfInBounds_toArray, List.set_cons_zero, List.set_cons_succ]
    refine wpAnyH_ready (rs := [9]) (by kernel_rfl) (by simp) ?_
    refine AllReadyH.cons rfl (fun X hX => ?_) AllReadyH.nil
    rw [if_pos (by rfl)]
    refine wp_store_row 38 (.tmp 2) (.tmp 21) rfl w.heap.size #[.int .i64 0, .int .u64 0, .int .u64 0, .int .u64 0, .int .u64 0, .int .i64 0, .int .i64 0, .slice none 0 0] rfl rfl 38 _ hD.2.1 HI rfl (re_one 0 zero4 0 0 none 0 0) ?_
    have hD2 := par_put hne hD
    refine hX.out _ _ hD2 (fun _ => ?_)
    clear hX X
    refine takeW (i := 10) (d := 3) (v := .int .i64 b1) rfl rfl (by kernel_rfl) (by kernel_rfl) (by kernel_rfl) (fun _ _ _ h => h) (by rfl) (fun w' hSw => by obtain ⟨_, s2, s3, s4⟩ := hSw; go_simp) hD2 ?_
    simp only [Act.put, List.setIfInBounds_toArray]
    refine takeW (i := 11) (d := 4) (v := .int .i64 e1) rfl rfl (by kernel_rfl) (by kernel_rfl) (by kernel_rfl) (fun _ _ _ h => h) (by rfl) (fun w' hSw => by obtain ⟨_, s2, s3, s4⟩ := hSw; go_simp) hD2 ?_
    dsimp only
    refine wpAnyH_done (by kernel_rfl) ?_ _
    obtain ⟨Y, hY'⟩ : ∃ Y, Y = U.drew.setRow w.heap.size #[.int .i64 0, .int .u64 0, .int .u64 0, .int .u64 0, .int .u64 0, .int .i64 0, .int .i64 0, .slice none 0 0] := ⟨_, rfl⟩
    rw [← hY'] at hD2 ⊢
    clear hY' hD
    go_wp2_with fail
    have XY : Box Y w.heap.size zeroR := ⟨hD2.2.1⟩
    have BY := hD2.1
    obtain ⟨d0, d1, d2, d3, d4, d5, d6, d7⟩ := eight_zero XY.eight
    refine bodyPost_ret (v := .tuple #[.agg zeroR, .int .i64 b1, .int .i64 e1]) (by simp [results, Tryz.results29, go_sem, d0, d1, d2, d3, d4, d5, d6, d7, zeroR, reC, zero4]) rfl ?_
    exact ⟨emptyT, zeroR, b1, e1, rfl, .leaf _ _ _ _ _ _, Lib.hid fine_empty, BY.out⟩
end Go.Proofs.YtimipfdknfdbdaaGreat

/- aukletlaw06.Light, aukletref07.New, aukletlaw07.Light: walks (an answer, whatever it is). -/
namespace Go.Proofs.YtimipfdknfdbdaaGreat
open Go.RowKit

def BAns (w : World) (e : Ending) (w' : World) : Prop := ∃ b : Bool, e = .returned (.bool b) ∧ Below w.heap.size w w'

set_option maxRecDepth 100000 in
theorem light6_any (t : Tree) (cs : Array Value) (S : Nat → Prop) (w : World) (h : At w S t cs) (hf : Fine (-1) t) :
    Calls Tryz.prog 16 #[.agg cs] w (BAns w) := by
  obtain ⟨W, hW, hX, hB, _⟩ := re_box w cs
  have HC := Lib.hid (small_spec t cs S W (h.after hB.out))
  have HN := Lib.hid (fun w2 (b2 : Below W.heap.size W w2) => rstates_any t cs S w2 ((h.after hB.out).after b2) hf)
  obtain ⟨a, c, rfl, _⟩ := h.opens
  clear h hf
  go_enter Tryz.func16, Tryz.ntmps16
  go_upto_region 1 with (fail)
  rw [← hW]
  clear hW
  obtain ⟨c0, c1, c2, c3, c4, c5, c6, c7⟩ := eight_re hX.out.eight
  go_wp2_with fail
  refine HC.out.mono ?_
  rintro e w1 ⟨b, rfl, _, b1⟩
  have X1 := Lib.hid (hX.out.after b1)
  have HN1 := Lib.hid (HN.out w1 b1)
  have B1 := Lib.hid (Below.step hB.out b1)
  clear b1 c0 c1 c2 c3 c4 c5 c6 c7
  obtain ⟨c0, c1, c2, c3, c4, c5, c6, c7⟩ := eight_re X1.out.eight
  cases b with
  | false =>
    go_wp2_with fail
    go_ret
    exact ⟨false, rfl, B1.out⟩
  | true =>
    go_wp2_with fail
    refine HN1.out.mono ?_
    rintro e w2 ⟨n, rfl, b2⟩
    have B2 := Lib.hid (Below.step B1.out b2)
    clear b2
    go_wp2_with fail
    go_ret
    exact ⟨_, rfl, B2.out⟩

set_option maxRecDepth 100000 in
set_option maxHeartbeats 4000000 in
theorem rnew7_any (s : ByteArray) (w : World) :
    Calls Tryz.prog 15 #[.string s] w (ParseOut w) := by
  have HI := info_re
  obtain ⟨W, hW, hX, hB, hsz⟩ := re_box w zeroR
  have hwl := hX.out.lt
  have HP := Lib.hid (rparse5_any s W)
  go_enter Tryz.func15, Tryz.ntmps15
  go_upto_region 1 with (fail)
  change Code.wp _ _ _ _ (w.alloc (Obj.cells zeroR 38))
  rw [← hW]
  clear hW
  go_wp2_with fail
  refine HP.out.mono ?_
  rintro e w1 ⟨t, ds, pa, px, rfl, hat, hf, b1⟩
  have X1 := Lib.hid (hX.out.after b1)
  have B1 := Lib.hid (Below.step hB.out b1)
  obtain ⟨a, c, e, _⟩ := hat.opens
  subst e
  have T1 := Lib.hid hat
  clear hat b1 HP hX hB
  unfold reC
  go_upto_region 2 with (fail)
  obtain ⟨U, hU, hY, hBU, hszU⟩ := re_box w1 (reC t.k t.f t.lo t.hi (.slice a t.kids.length c))
  change Code.wp _ _ _ _ (w1.alloc (Obj.cells (reC t.k t.f t.lo t.hi (.slice a t.kids.length c)) 38))
  rw [← hU]
  clear hU
  have X2 := Lib.hid (X1.out.after hBU.out)
  have B2 := Lib.hid (Below.step B1.out hBU.out)
  have T2 := Lib.hid (T1.out.after hBU.out)
  have HS := Lib.hid (fun w2 (h2 : At w2 (Up W.heap.size) t (reC t.k t.f t.lo t.hi (.slice a t.kids.length c))) => rstates_any t _ _ w2 h2 hf.out)
  clear X1 B1 T1
  by_cases hx : px = 0
  rotate_left
  · have hx2 : (px == 0) = false := beq_eq_false_iff_ne.2 hx
    have HX := Lib.hid hx; clear hx
    obtain ⟨d0, d1, d2, d3, d4, d5, d6, d7⟩ := eight_re hY.out.eight
    go_wp2_with (refine wpList_store_row rfl 38 (.tmp 2) (.tmp 30) rfl w.heap.size (reC t.k t.f t.lo t.hi (.slice a t.kids.length c)) rfl rfl 38 zeroR X2.out.row HI rfl (re_one _ _ _ _ _ _ _) ?_)
    clear d0 d1 d2 d3 d4 d5 d6 d7
    obtain ⟨Y, hY', XY, TY, BY⟩ : ∃ Y, Y = U.setRow w.heap.size (reC t.k t.f t.lo t.hi (.slice a t.kids.length c)) ∧ Hid (Box Y w.heap.size (reC t.k t.f t.lo t.hi (.slice a t.kids.length c))) ∧ Hid (At Y (Up w.heap.size) t (reC t.k t.f t.lo t.hi (.slice a t.kids.length c))) ∧ Hid (Below w.heap.size w Y) :=
      ⟨_, rfl, Lib.hid (X2.out.setRow _), Lib.hid ((T2.out.setRow hwl _).weakS (fun j hj => by unfold Up at hj ⊢; omega)), Lib.hid (below_setRow B2.out (Nat.le_refl _) _)⟩
    change bodyPost _ _ _ _ _ (U.setRow w.heap.size (reC t.k t.f t.lo t.hi (.slice a t.kids.length c)))
    rw [← hY']
    clear hY'
    obtain ⟨d0, d1, d2, d3, d4, d5, d6, d7⟩ := eight_re XY.out.eight
    refine bodyPost_ret (v := .tuple #[.agg (reC t.k t.f t.lo t.hi (.slice a t.kids.length c)), .int .i64 pa, .int .i64 px]) (by simp [results, Tryz.results15, go_sem, d0, d1, d2, d3, d4, d5, d6, d7, reC]) rfl ?_
    exact ⟨t, _, pa, px, rfl, TY.out, hf, BY.out⟩
  · subst hx
    obtain ⟨d0, d1, d2, d3, d4, d5, d6, d7⟩ := eight_re hY.out.eight
    unfold reC at HS
    go_wp2_with fail
    refine (HS.out _ T2.out).mono ?_
    rintro e w3 ⟨n3, rfl, b3⟩
    have X3 := Lib.hid (X2.out.after b3)
    have B3 := Lib.hid (Below.step B2.out b3)
    have T3 := Lib.hid (T2.out.after b3)
    have Y3 := Lib.hid (hY.out.after b3)
    clear b3
    clear d0 d1 d2 d3 d4 d5 d6 d7
    by_cases hn : n3 = 0
    · subst hn
      go_wp2_with (refine wpList_store_row rfl 38 (.tmp 2) (.tmp 21) rfl w.heap.size zeroR rfl rfl 38 zeroR X3.out.row HI rfl (re_one _ _ _ _ _ _ _) ?_)
      obtain ⟨Y, hY', XY, BY⟩ : ∃ Y, Y = w3.setRow w.heap.size zeroR ∧ Hid (Box Y w.heap.size zeroR) ∧ Hid (Below w.heap.size w Y) := ⟨_, rfl, Lib.hid (X3.out.setRow zeroR), Lib.hid (below_setRow B3.out (Nat.le_refl _) _)⟩
      change bodyPost _ _ _ _ _ (w3.setRow w.heap.size zeroR)
      rw [← hY']
      clear hY'
      obtain ⟨d0, d1, d2, d3, d4, d5, d6, d7⟩ := eight_zero XY.out.eight
      refine bodyPost_ret (v := .tuple #[.agg zeroR, .int .i64 0, .int .i64 1]) (by simp [results, Tryz.results15, go_sem, d0, d1, d2, d3, d4, d5, d6, d7, zeroR, reC, zero4]) rfl ?_
      exact ⟨emptyT, zeroR, 0, 1, rfl, .leaf _ _ _ _ _ _, Lib.hid fine_empty, BY.out⟩
    · have hn2 : (n3 == 0) = false := beq_eq_false_iff_ne.2 hn
      have HN := Lib.hid hn; clear hn
      obtain ⟨d0, d1, d2, d3, d4, d5, d6, d7⟩ := eight_re Y3.out.eight
      go_wp2_with fail
      refine (HS.out _ T3.out).mono ?_
      rintro e w4 ⟨n4, rfl, b4⟩
      have X4 := Lib.hid (X3.out.after b4)
      have B4 := Lib.hid (Below.step B3.out b4)
      have T4 := Lib.hid (T3.out.after b4)
      have Y4 := Lib.hid (Y3.out.after b4)
      clear b4
      clear d0 d1 d2 d3 d4 d5 d6 d7
      by_cases h5 : 500 < n4
      · have hdd : decide (500 < n4) = true := decide_eq_true h5
        go_wp2_with (refine wpList_store_row rfl 38 (.tmp 2) (.tmp 29) rfl w.heap.size zeroR rfl rfl 38 zeroR X4.out.row HI rfl (re_one _ _ _ _ _ _ _) ?_)
        obtain ⟨Y, hY', XY, BY⟩ : ∃ Y, Y = w4.setRow w.heap.size zeroR ∧ Hid (Box Y w.heap.size zeroR) ∧ Hid (Below w.heap.size w Y) := ⟨_, rfl, Lib.hid (X4.out.setRow zeroR), Lib.hid (below_setRow B4.out (Nat.le_refl _) _)⟩
        change bodyPost _ _ _ _ _ (w4.setRow w.heap.size zeroR)
        rw [← hY']
        clear hY'
        obtain ⟨d0, d1, d2, d3, d4, d5, d6, d7⟩ := eight_zero XY.out.eight
        refine bodyPost_ret (v := .tuple #[.agg zeroR, .int .i64 0, .int .i64 2]) (by simp [results, Tryz.results15, go_sem, d0, d1, d2, d3, d4, d5, d6, d7, zeroR, reC, zero4]) rfl ?_
        exact ⟨emptyT, zeroR, 0, 2, rfl, .leaf _ _ _ _ _ _, Lib.hid fine_empty, BY.out⟩
      · have hdd : decide (500 < n4) = false := decide_eq_false h5
        obtain ⟨d0, d1, d2, d3, d4, d5, d6, d7⟩ := eight_re Y4.out.eight
        go_wp2_with (refine wpList_store_row rfl 38 (.tmp 2) (.tmp 30) rfl w.heap.size (reC t.k t.f t.lo t.hi (.slice a t.kids.length c)) rfl rfl 38 zeroR X4.out.row HI rfl (re_one _ _ _ _ _ _ _) ?_)
        clear d0 d1 d2 d3 d4 d5 d6 d7
        obtain ⟨Y, hY', XY, TY, BY⟩ : ∃ Y, Y = w4.setRow w.heap.size (reC t.k t.f t.lo t.hi (.slice a t.kids.length c)) ∧ Hid (Box Y w.heap.size (reC t.k t.f t.lo t.hi (.slice a t.kids.length c))) ∧ Hid (At Y (Up w.heap.size) t (reC t.k t.f t.lo t.hi (.slice a t.kids.length c))) ∧ Hid (Below w.heap.size w Y) :=
          ⟨_, rfl, Lib.hid (X4.out.setRow _), Lib.hid ((T4.out.setRow hwl _).weakS (fun j hj => by unfold Up at hj ⊢; omega)), Lib.hid (below_setRow B4.out (Nat.le_refl _) _)⟩
        change bodyPost _ _ _ _ _ (w4.setRow w.heap.size (reC t.k t.f t.lo t.hi (.slice a t.kids.length c)))
        rw [← hY']
        clear hY'
        obtain ⟨d0, d1, d2, d3, d4, d5, d6, d7⟩ := eight_re XY.out.eight
        refine bodyPost_ret (v := .tuple #[.agg (reC t.k t.f t.lo t.hi (.slice a t.kids.length c)), .int .i64 pa, .int .i64 0]) (by simp [results, Tryz.results15, go_sem, d0, d1, d2, d3, d4, d5, d6, d7, reC]) rfl ?_
        exact ⟨t, _, pa, 0, rfl, TY.out, hf, BY.out⟩

set_option maxRecDepth 100000 in
theorem light7_any (s : ByteArray) (w : World) :
    Calls Tryz.prog 9 #[.string s] w (BAns w) := by
  have HP := Lib.hid (rnew7_any s w)
  go_enter Tryz.func9, Tryz.ntmps9
  go_wp2_with fail
  refine HP.out.mono ?_
  rintro e w1 ⟨t, ds, pa, px, rfl, hat, hf, b1⟩
  have B1 := Lib.hid b1
  obtain ⟨a, c, e, _⟩ := hat.opens
  subst e
  have T1 := Lib.hid hat
  clear hat b1 HP
  unfold reC
  go_upto_region 2 with (fail)
  obtain ⟨U, hU, hY, hBU, hszU⟩ := re_box w1 (reC t.k t.f t.lo t.hi (.slice a t.kids.length c))
  change Code.wp _ _ _ _ (w1.alloc (Obj.cells (reC t.k t.f t.lo t.hi (.slice a t.kids.length c)) 38))
  rw [← hU]
  clear hU
  have B2 := Lib.hid (Below.step B1.out hBU.out)
  have HL := Lib.hid (light6_any t _ _ U (T1.out.after hBU.out) hf.out)
  clear T1 B1
  by_cases hx : px = 0
  · subst hx
    obtain ⟨d0, d1, d2, d3, d4, d5, d6, d7⟩ := eight_re hY.out.eight
    unfold reC at HL
    go_wp2_with fail
    refine HL.out.mono ?_
    rintro e w2 ⟨b, rfl, b2⟩
    have B3 := Lib.hid (Below.step B2.out b2)
    clear b2
    go_wp2_with fail
    go_ret
    exact ⟨b, rfl, B3.out⟩
  · have hx2 : (px != 0) = true := by simpa using hx
    have HX := Lib.hid hx; clear hx
    go_wp2_with fail
    go_ret
    exact ⟨true, rfl, B2.out⟩
end Go.Proofs.YtimipfdknfdbdaaGreat
