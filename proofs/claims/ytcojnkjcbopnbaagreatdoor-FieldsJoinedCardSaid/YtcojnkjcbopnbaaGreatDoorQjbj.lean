/- Merged by program: RLight, FAtAny, FSmall, T3Base, T3DecA, T3DecB, T3ParseMath. -/
import Derived.Test.YtcojnkjcbopnbaaGreatDoorRows
import Derived.WalkKit
import Derived.WalkSpells
import Derived.WalkLawsBesides
import Derived.Lib.Hide
import Derived.LoopTactic
import Derived.Laws.RangeAny
import Derived.Laws.OwnMore
import Derived.OwnWalk
import Derived.WalkSmall
import Derived.Lib.OthersKept
import Derived.Deep.QuietTactic
import Derived.BigQuiet
import Derived.Deep.DeepCutAuto
import Derived.Deep.CutBlock
import Derived.KernelRfl
import Derived.Test.YtcojnkjcbopnbaaGreatDoorQjbc
import Derived.Test.YtcojnkjcbopnbaaGreatDoorQjbd
import Derived.Test.YtcojnkjcbopnbaaGreatDoorQjbi
import Derived.Test.YtcojnkjcbopnbaaGreatDoorQjar
import Derived.Test.YtcojnkjcbopnbaaGreatDoorQjav
import Derived.Test.YtcojnkjcbopnbaaGreatDoorQjbb
/- aukletlaw06.Light, aukletref07.New, aukletlaw07.Light: walks (an answer, whatever it is). -/
namespace Go.Proofs.YtcojnkjcbopnbaaGreatDoor
open Go.RowKit

def BAns (w : World) (e : Ending) (w' : World) : Prop := ∃ b : Bool, e = .returned (.bool b) ∧ Below w.heap.size w w'

set_option maxRecDepth 100000 in
theorem light6_any (t : Tree) (cs : Array Value) (S : Nat → Prop) (w : World) (h : At w S t cs) (hf : Fine (-1) t) :
    Calls Tryz.prog 31 #[.agg cs] w (BAns w) := by
  obtain ⟨W, hW, hX, hB, _⟩ := re_box w cs
  have HC := Lib.hid (small_spec t cs S W (h.after hB.out))
  have HN := Lib.hid (fun w2 (b2 : Below W.heap.size W w2) => rstates_any t cs S w2 ((h.after hB.out).after b2) hf)
  obtain ⟨a, c, rfl, _⟩ := h.opens
  clear h hf
  go_enter Tryz.func31, Tryz.ntmps31
  go_upto_region 1 with (fail)
  rw [← hW]
  clear hW
  obtain ⟨c0, c1, c2, c3, c4, c5, c6, c7⟩ := eight_re hX.out.eight
  go_wp2_with fail
  refine HC.out.mono ?_
  rintro e w1 ⟨b, rfl, _, b1⟩
  have X1 := Lib.hid (hX.out.after b1)
  have HN1 := Lib.hid (HN.out w1 b1)
  have B1 := Lib.hid (Below.step hB.out b1)
  clear b1 c0 c1 c2 c3 c4 c5 c6 c7
  obtain ⟨c0, c1, c2, c3, c4, c5, c6, c7⟩ := eight_re X1.out.eight
  cases b with
  | false =>
    go_wp2_with fail
    go_ret
    exact ⟨false, rfl, B1.out⟩
  | true =>
    go_wp2_with fail
    refine HN1.out.mono ?_
    rintro e w2 ⟨n, rfl, b2⟩
    have B2 := Lib.hid (Below.step B1.out b2)
    clear b2
    go_wp2_with fail
    go_ret
    exact ⟨_, rfl, B2.out⟩

set_option maxRecDepth 100000 in
set_option maxHeartbeats 4000000 in
theorem rnew7_any (s : ByteArray) (w : World) :
    Calls Tryz.prog 30 #[.string s] w (ParseOut w) := by
  have HI := info_re
  obtain ⟨W, hW, hX, hB, hsz⟩ := re_box w zeroR
  have hwl := hX.out.lt
  have HP := Lib.hid (rparse5_any s W)
  go_enter Tryz.func30, Tryz.ntmps30
  go_upto_region 1 with (fail)
  change Code.wp _ _ _ _ (w.alloc (Obj.cells zeroR 68))
  rw [← hW]
  clear hW
  go_wp2_with fail
  refine HP.out.mono ?_
  rintro e w1 ⟨t, ds, pa, px, rfl, hat, hf, b1⟩
  have X1 := Lib.hid (hX.out.after b1)
  have B1 := Lib.hid (Below.step hB.out b1)
  obtain ⟨a, c, e, _⟩ := hat.opens
  subst e
  have T1 := Lib.hid hat
  clear hat b1 HP hX hB
  unfold reC
  go_upto_region 2 with (fail)
  obtain ⟨U, hU, hY, hBU, hszU⟩ := re_box w1 (reC t.k t.f t.lo t.hi (.slice a t.kids.length c))
  change Code.wp _ _ _ _ (w1.alloc (Obj.cells (reC t.k t.f t.lo t.hi (.slice a t.kids.length c)) 68))
  rw [← hU]
  clear hU
  have X2 := Lib.hid (X1.out.after hBU.out)
  have B2 := Lib.hid (Below.step B1.out hBU.out)
  have T2 := Lib.hid (T1.out.after hBU.out)
  have HS := Lib.hid (fun w2 (h2 : At w2 (Up W.heap.size) t (reC t.k t.f t.lo t.hi (.slice a t.kids.length c))) => rstates_any t _ _ w2 h2 hf.out)
  clear X1 B1 T1
  by_cases hx : px = 0
  rotate_left
  · have hx2 : (px == 0) = false := beq_eq_false_iff_ne.2 hx
    have HX := Lib.hid hx; clear hx
    obtain ⟨d0, d1, d2, d3, d4, d5, d6, d7⟩ := eight_re hY.out.eight
    go_wp2_with (refine wpList_store_row rfl 68 (.tmp 2) (.tmp 30) rfl w.heap.size (reC t.k t.f t.lo t.hi (.slice a t.kids.length c)) rfl rfl 68 zeroR X2.out.row HI rfl (re_one _ _ _ _ _ _ _) ?_)
    clear d0 d1 d2 d3 d4 d5 d6 d7
    obtain ⟨Y, hY', XY, TY, BY⟩ : ∃ Y, Y = U.setRow w.heap.size (reC t.k t.f t.lo t.hi (.slice a t.kids.length c)) ∧ Hid (Box Y w.heap.size (reC t.k t.f t.lo t.hi (.slice a t.kids.length c))) ∧ Hid (At Y (Up w.heap.size) t (reC t.k t.f t.lo t.hi (.slice a t.kids.length c))) ∧ Hid (Below w.heap.size w Y) :=
      ⟨_, rfl, Lib.hid (X2.out.setRow _), Lib.hid ((T2.out.setRow hwl _).weakS (fun j hj => by unfold Up at hj ⊢; omega)), Lib.hid (below_setRow B2.out (Nat.le_refl _) _)⟩
    change bodyPost _ _ _ _ _ (U.setRow w.heap.size (reC t.k t.f t.lo t.hi (.slice a t.kids.length c)))
    rw [← hY']
    clear hY'
    obtain ⟨d0, d1, d2, d3, d4, d5, d6, d7⟩ := eight_re XY.out.eight
    refine bodyPost_ret (v := .tuple #[.agg (reC t.k t.f t.lo t.hi (.slice a t.kids.length c)), .int .i64 pa, .int .i64 px]) (by simp [results, Tryz.results30, go_sem, d0, d1, d2, d3, d4, d5, d6, d7, reC]) rfl ?_
    exact ⟨t, _, pa, px, rfl, TY.out, hf, BY.out⟩
  · subst hx
    obtain ⟨d0, d1, d2, d3, d4, d5, d6, d7⟩ := eight_re hY.out.eight
    unfold reC at HS
    go_wp2_with fail
    refine (HS.out _ T2.out).mono ?_
    rintro e w3 ⟨n3, rfl, b3⟩
    have X3 := Lib.hid (X2.out.after b3)
    have B3 := Lib.hid (Below.step B2.out b3)
    have T3 := Lib.hid (T2.out.after b3)
    have Y3 := Lib.hid (hY.out.after b3)
    clear b3
    clear d0 d1 d2 d3 d4 d5 d6 d7
    by_cases hn : n3 = 0
    · subst hn
      go_wp2_with (refine wpList_store_row rfl 68 (.tmp 2) (.tmp 21) rfl w.heap.size zeroR rfl rfl 68 zeroR X3.out.row HI rfl (re_one _ _ _ _ _ _ _) ?_)
      obtain ⟨Y, hY', XY, BY⟩ : ∃ Y, Y = w3.setRow w.heap.size zeroR ∧ Hid (Box Y w.heap.size zeroR) ∧ Hid (Below w.heap.size w Y) := ⟨_, rfl, Lib.hid (X3.out.setRow zeroR), Lib.hid (below_setRow B3.out (Nat.le_refl _) _)⟩
      change bodyPost _ _ _ _ _ (w3.setRow w.heap.size zeroR)
      rw [← hY']
      clear hY'
      obtain ⟨d0, d1, d2, d3, d4, d5, d6, d7⟩ := eight_zero XY.out.eight
      refine bodyPost_ret (v := .tuple #[.agg zeroR, .int .i64 0, .int .i64 1]) (by simp [results, Tryz.results30, go_sem, d0, d1, d2, d3, d4, d5, d6, d7, zeroR, reC, zero4]) rfl ?_
      exact ⟨emptyT, zeroR, 0, 1, rfl, .leaf _ _ _ _ _ _, Lib.hid fine_empty, BY.out⟩
    · have hn2 : (n3 == 0) = false := beq_eq_false_iff_ne.2 hn
      have HN := Lib.hid hn; clear hn
      obtain ⟨d0, d1, d2, d3, d4, d5, d6, d7⟩ := eight_re Y3.out.eight
      go_wp2_with fail
      refine (HS.out _ T3.out).mono ?_
      rintro e w4 ⟨n4, rfl, b4⟩
      have X4 := Lib.hid (X3.out.after b4)
      have B4 := Lib.hid (Below.step B3.out b4)
      have T4 := Lib.hid (T3.out.after b4)
      have Y4 := Lib.hid (Y3.out.after b4)
      clear b4
      clear d0 d1 d2 d3 d4 d5 d6 d7
      by_cases h5 : 500 < n4
      · have hdd : decide (500 < n4) = true := decide_eq_true h5
        go_wp2_with (refine wpList_store_row rfl 68 (.tmp 2) (.tmp 29) rfl w.heap.size zeroR rfl rfl 68 zeroR X4.out.row HI rfl (re_one _ _ _ _ _ _ _) ?_)
        obtain ⟨Y, hY', XY, BY⟩ : ∃ Y, Y = w4.setRow w.heap.size zeroR ∧ Hid (Box Y w.heap.size zeroR) ∧ Hid (Below w.heap.size w Y) := ⟨_, rfl, Lib.hid (X4.out.setRow zeroR), Lib.hid (below_setRow B4.out (Nat.le_refl _) _)⟩
        change bodyPost _ _ _ _ _ (w4.setRow w.heap.size zeroR)
        rw [← hY']
        clear hY'
        obtain ⟨d0, d1, d2, d3, d4, d5, d6, d7⟩ := eight_zero XY.out.eight
        refine bodyPost_ret (v := .tuple #[.agg zeroR, .int .i64 0, .int .i64 2]) (by simp [results, Tryz.results30, go_sem, d0, d1, d2, d3, d4, d5, d6, d7, zeroR, reC, zero4]) rfl ?_
        exact ⟨emptyT, zeroR, 0, 2, rfl, .leaf _ _ _ _ _ _, Lib.hid fine_empty, BY.out⟩
      · have hdd : decide (500 < n4) = false := decide_eq_false h5
        obtain ⟨d0, d1, d2, d3, d4, d5, d6, d7⟩ := eight_re Y4.out.eight
        go_wp2_with (refine wpList_store_row rfl 68 (.tmp 2) (.tmp 30) rfl w.heap.size (reC t.k t.f t.lo t.hi (.slice a t.kids.length c)) rfl rfl 68 zeroR X4.out.row HI rfl (re_one _ _ _ _ _ _ _) ?_)
        clear d0 d1 d2 d3 d4 d5 d6 d7
        obtain ⟨Y, hY', XY, TY, BY⟩ : ∃ Y, Y = w4.setRow w.heap.size (reC t.k t.f t.lo t.hi (.slice a t.kids.length c)) ∧ Hid (Box Y w.heap.size (reC t.k t.f t.lo t.hi (.slice a t.kids.length c))) ∧ Hid (At Y (Up w.heap.size) t (reC t.k t.f t.lo t.hi (.slice a t.kids.length c))) ∧ Hid (Below w.heap.size w Y) :=
          ⟨_, rfl, Lib.hid (X4.out.setRow _), Lib.hid ((T4.out.setRow hwl _).weakS (fun j hj => by unfold Up at hj ⊢; omega)), Lib.hid (below_setRow B4.out (Nat.le_refl _) _)⟩
        change bodyPost _ _ _ _ _ (w4.setRow w.heap.size (reC t.k t.f t.lo t.hi (.slice a t.kids.length c)))
        rw [← hY']
        clear hY'
        obtain ⟨d0, d1, d2, d3, d4, d5, d6, d7⟩ := eight_re XY.out.eight
        refine bodyPost_ret (v := .tuple #[.agg (reC t.k t.f t.lo t.hi (.slice a t.kids.length c)), .int .i64 pa, .int .i64 0]) (by simp [results, Tryz.results30, go_sem, d0, d1, d2, d3, d4, d5, d6, d7, reC]) rfl ?_
        exact ⟨t, _, pa, 0, rfl, TY.out, hf, BY.out⟩

set_option maxRecDepth 100000 in
theorem light7_any (s : ByteArray) (w : World) :
    Calls Tryz.prog 19 #[.string s] w (BAns w) := by
  have HP := Lib.hid (rnew7_any s w)
  go_enter Tryz.func19, Tryz.ntmps19
  go_wp2_with fail
  refine HP.out.mono ?_
  rintro e w1 ⟨t, ds, pa, px, rfl, hat, hf, b1⟩
  have B1 := Lib.hid b1
  obtain ⟨a, c, e, _⟩ := hat.opens
  subst e
  have T1 := Lib.hid hat
  clear hat b1 HP
  unfold reC
  go_upto_region 2 with (fail)
  obtain ⟨U, hU, hY, hBU, hszU⟩ := re_box w1 (reC t.k t.f t.lo t.hi (.slice a t.kids.length c))
  change Code.wp _ _ _ _ (w1.alloc (Obj.cells (reC t.k t.f t.lo t.hi (.slice a t.kids.length c)) 68))
  rw [← hU]
  clear hU
  have B2 := Lib.hid (Below.step B1.out hBU.out)
  have HL := Lib.hid (light6_any t _ _ U (T1.out.after hBU.out) hf.out)
  clear T1 B1
  by_cases hx : px = 0
  · subst hx
    obtain ⟨d0, d1, d2, d3, d4, d5, d6, d7⟩ := eight_re hY.out.eight
    unfold reC at HL
    go_wp2_with fail
    refine HL.out.mono ?_
    rintro e w2 ⟨b, rfl, b2⟩
    have B3 := Lib.hid (Below.step B2.out b2)
    clear b2
    go_wp2_with fail
    go_ret
    exact ⟨b, rfl, B3.out⟩
  · have hx2 : (px != 0) = true := by simpa using hx
    have HX := Lib.hid hx; clear hx
    go_wp2_with fail
    go_ret
    exact ⟨true, rfl, B2.out⟩
end Go.Proofs.YtcojnkjcbopnbaaGreatDoor

/- subst.At at any separator, match.New's contract put in; aukletlaw09.light, Act.small: walks. -/
namespace Go.Proofs.YtcojnkjcbopnbaaGreatDoor
open Go.RowKit

theorem new_e (s : ByteArray) (w : World) (hx : MX w) : Calls Tryz.prog 28 #[.string s] w (NewE w s) := by
  refine (new_gen s (fun t _ => Fine (-1) t) (fun _ => True) w (parse_any s w hx) (fun t x hq _ rs B W hat => build_any t rs B W hat hq)).mono ?_
  rintro e w' ⟨t, x, hq, hb, h | h | h⟩
  · obtain ⟨h0, a, rfl⟩ := h
    exact ⟨hb, Or.inl ⟨_, _, h0, rfl⟩⟩
  · obtain ⟨h0, _, y, h1, rfl⟩ := h
    exact ⟨hb, Or.inl ⟨_, _, h1, rfl⟩⟩
  · obtain ⟨_, _, hn, hg, pp, sv, rfl, _, hm⟩ := h
    obtain ⟨h1, h2⟩ := mach_ok t hg hn
    exact ⟨hb, Or.inr ⟨pp, _, sv, _, rfl, Lib.hid ⟨hm, h1, h2⟩⟩⟩

theorem AtOut.weak {F F' : Prop} {Q Q' : List ByteArray → Prop} {w : World} {e : Ending} {w' : World} (h : AtOut F Q w e w') (hF : F → F') (hQ : ∀ l, Q l → Q' l) : AtOut F' Q' w e w' := by
  obtain ⟨hb, ⟨hf, h⟩ | ⟨p, n, c, l, he, hl⟩⟩ := h
  · exact ⟨hb, Or.inl ⟨hF hf, h⟩⟩
  · exact ⟨hb, Or.inr ⟨p, n, c, l, he, Lib.hid ⟨hl.out.1, hl.out.2.1, hQ l hl.out.2.2⟩⟩⟩

/-- subst.At at any separator: texts none of which is longer, or none. -/
theorem at_every (s sep : ByteArray) (hs : s.size ≤ 1000) (w : World) (hx : MX w) : Calls Tryz.prog 20 #[.string s, .string sep] w (AtOut True (Short s.size) w) := by
  by_cases h32 : sep.toList = [32]
  · exact (at_words s sep h32 (by omega) w).mono fun e w' h => h.weak (fun f => f.elim) fun l hl => by rw [hl]; exact short_words _ _
  · by_cases h0 : sep.size = 0
    · exact (at_chars s sep h0 (by omega) w).mono fun e w' h => h.weak id fun l hl => by rw [hl]; exact short_chars s
    · by_cases h1 : sep.size = 1 ∧ sep.toList ≠ [92]
      · obtain ⟨c, hc⟩ : ∃ c, sep.data.toList = [c] := by
          have hl : sep.data.toList.length = 1 := by simpa using h1.1
          match hd : sep.data.toList, hl with
          | [c], _ => exact ⟨c, rfl⟩
        refine (at_byte2 s sep c hc (fun e => h32 (by rw [Lib.toList_data, hc, e])) (fun e => h1.2 (by rw [Lib.toList_data, hc, e])) (by omega) w hx).mono fun e w' h => h.weak id fun l hl => ?_
        have h3 := short_join hl
        rwa [Array.length_toList] at h3
      · refine at_patt s sep h32 h0 ?_ (by omega) w (new_e sep w hx)
        by_cases h2 : sep.size = 1
        · exact Or.inr (Classical.not_not.1 fun h => h1 ⟨h2, h⟩)
        · exact Or.inl h2

set_option maxRecDepth 100000 in
theorem light9_any (s : ByteArray) (w : World) : Calls Tryz.prog 9 #[.string s] w (BAns w) := by
  by_cases h2 : s.size < 2
  · have d2 : decide ((s.size : Int) < 2) = true := decide_eq_true (by omega)
    go_enter Tryz.func9, Tryz.ntmps9
    go_wp2_with fail
    go_ret
    exact ⟨true, rfl, Below.refl _ _⟩
  · have d2 : decide ((s.size : Int) < 2) = false := decide_eq_false (by omega)
    have HL := Lib.hid (light7_any s w)
    go_enter Tryz.func9, Tryz.ntmps9
    go_wp2_with fail
    refine HL.out.mono ?_
    rintro e w2 ⟨b, rfl, b2⟩
    have B2 := Lib.hid b2
    clear b2
    go_wp2_with fail
    go_ret
    exact ⟨_, rfl, B2.out⟩
end Go.Proofs.YtcojnkjcbopnbaaGreatDoor

/- An act in memory; aukletlaw09.Act.small: a walk. -/
namespace Go.Proofs.YtcojnkjcbopnbaaGreatDoor
open Go.RowKit

def actC (k n : Int) (s u : ByteArray) : Array Value := #[.int .i64 k, .int .i64 n, .string s, .string u]
/-- An act's block. -/
structure ActM (w : World) (q : Nat) (k n : Int) (s u : ByteArray) : Prop where
  row : w.heap[q]? = some (.cells #[.int .i64 k, .int .i64 n, .string s, .string u] 30 (0, 0))
section
variable {w w' : World} {q : Nat} {k n : Int} {s u : ByteArray}
theorem ActM.lt (h : ActM w q k n s u) : q < w.heap.size := (Array.getElem?_eq_some_iff.1 h.row).1
theorem ActM.c0 (h : ActM w q k n s u) : w.cell? ⟨q, 0, none⟩ = some (.int .i64 k) := cell_of_row _ _ 0 _ _ _ h.row
theorem ActM.c1 (h : ActM w q k n s u) : w.cell? ⟨q, 1, none⟩ = some (.int .i64 n) := cell_of_row _ _ 1 _ _ _ h.row
theorem ActM.c2 (h : ActM w q k n s u) : w.cell? ⟨q, 2, none⟩ = some (.string s) := cell_of_row _ _ 2 _ _ _ h.row
theorem ActM.c3 (h : ActM w q k n s u) : w.cell? ⟨q, 3, none⟩ = some (.string u) := cell_of_row _ _ 3 _ _ _ h.row
theorem ActM.after (h : ActM w q k n s u) (hb : Below w.heap.size w w') : ActM w' q k n s u := ⟨by rw [hb.block q h.lt]; exact h.row⟩
theorem ActM.below {B : Nat} (h : ActM w q k n s u) (hq : q < B) (hb : Below B w w') : ActM w' q k n s u := ⟨by rw [hb.block q hq]; exact h.row⟩
theorem ActM.but {p : Nat} (h : ActM w q k n s u) (hq : q ≠ p) (hb : But p w w') : ActM w' q k n s u := ⟨by rw [hb.block q h.lt hq]; exact h.row⟩
end
theorem act_box (w : World) (k n : Int) (s u : ByteArray) : ∃ W, W = w.alloc (.cells (actC k n s u) 30) ∧ Hid (ActM W w.heap.size k n s u) ∧ Hid (Below w.heap.size w W) ∧ W.heap.size = w.heap.size + 1 :=
  ⟨_, rfl, Lib.hid ⟨heap_alloc_last _ _⟩, Lib.hid (below_new _ _), by rw [World.size_alloc]⟩

/-- What small tells. -/
def SmallOut (s u : ByteArray) (w : World) (e : Ending) (w' : World) : Prop := ∃ b : Bool, e = .returned (.bool b) ∧ (b = true → s.size ≤ 30 ∧ u.size ≤ 30) ∧ Below w.heap.size w w'

set_option maxRecDepth 100000 in
theorem small9_any (k n : Int) (s u : ByteArray) (w : World) :
    Calls Tryz.prog 10 #[.agg (actC k n s u)] w (SmallOut s u w) := by
  obtain ⟨W, hW, A, B, _⟩ := act_box w k n s u
  have c2 := A.out.c2
  have c3 := A.out.c3
  unfold actC at hW ⊢
  by_cases h1 : s.size ≤ 30
  · have d1 : decide ((s.size : Int) ≤ 30) = true := decide_eq_true (by omega)
    by_cases h2 : u.size ≤ 30
    · have d2 : decide ((u.size : Int) ≤ 30) = true := decide_eq_true (by omega)
      have HL := Lib.hid (light9_any u W)
      go_enter Tryz.func10, Tryz.ntmps10
      go_upto_region 1 with (fail)
      rw [← hW]
      clear hW
      go_wp2_with fail
      refine HL.out.mono ?_
      rintro e w1 ⟨b, rfl, b1⟩
      have B1 := Lib.hid (Below.step B.out b1)
      clear b1
      go_wp2_with fail
      go_ret
      exact ⟨b, rfl, fun _ => ⟨h1, h2⟩, B1.out⟩
    · have d2 : decide ((u.size : Int) ≤ 30) = false := decide_eq_false (by omega)
      go_enter Tryz.func10, Tryz.ntmps10
      go_upto_region 1 with (fail)
      rw [← hW]
      clear hW
      go_wp2_with fail
      go_ret
      exact ⟨false, rfl, (fun h => by cases h), B.out⟩
  · have d1 : decide ((s.size : Int) ≤ 30) = false := decide_eq_false (by omega)
    go_enter Tryz.func10, Tryz.ntmps10
    go_upto_region 1 with (fail)
    rw [← hW]
    clear hW
    go_wp2_with fail
    go_ret
    exact ⟨false, rfl, (fun h => by cases h), B.out⟩
end Go.Proofs.YtcojnkjcbopnbaaGreatDoor

/- What every text here stands on: the imports of the walk, plain lemmas. -/
namespace Go.Proofs.YtcojnkjcbopnbaaGreatDoor.T3
open Go.Proofs.YtcojnkjcbopnbaaGreatDoor Go.Proofs
open Go.RowKit

theorem own : ownKnob Tryz.prog.godebug = none := by kernel_rfl

theorem Below.drewN' {B : Nat} {a w : World} (h : Below B a w) (n : Nat) : Below B a (w.drewN n) := by
  induction n with
  | zero => exact h
  | succ n ih => exact ⟨ih.os, ih.tape, ih.output, ih.size, ih.block⟩

theorem Below.step {w w1 w2 : World} (h : Below w.heap.size w w1) (h2 : Below w1.heap.size w1 w2) : Below w.heap.size w w2 :=
  h.trans (h2.mono h.size)

theorem ret_i64 {a b : Int} (h : a = b) : Ending.returned (.int .i64 a) = .returned (.int .i64 b) := by rw [h]
theorem ret_str {a b : ByteArray} (h : a = b) : Ending.returned (.string a) = .returned (.string b) := by rw [h]
end Go.Proofs.YtcojnkjcbopnbaaGreatDoor.T3

/- Contracts of the plain functions of dec. -/
namespace Go.Proofs.YtcojnkjcbopnbaaGreatDoor.T3
open Go.Proofs.YtcojnkjcbopnbaaGreatDoor Go.Proofs
open Go.RowKit

def Fits (n : Int) : Prop := -9223372036854775808 ≤ n ∧ n ≤ 9223372036854775807
instance (n : Int) : Decidable (Fits n) := by unfold Fits; infer_instance
def back (n : Int) : Int × Int := if Fits n then (n, 0) else (0, 10)
def ans (p : Int × Int) : Value := .tuple #[.int .i64 p.1, .int .i64 p.2]

theorem ans_yes {n : Int} (h : Fits n) : ans (back n) = .tuple #[.int .i64 n, .int .i64 0] := by
  simp [ans, back, h]
theorem ans_no {n : Int} (h : ¬ Fits n) : ans (back n) = .tuple #[.int .i64 0, .int .i64 10] := by
  simp [ans, back, h]

theorem wrapU (a : Int) : IntKind.u64.wrap a = a % 18446744073709551616 := by
  simp [IntKind.wrap, IntKind.signed, IntKind.bits]

theorem ret_int {k : IntKind} {a b : Int} (h : a = b) : Ending.returned (.int k a) = .returned (.int k b) := by rw [h]
theorem ret_ans {a b c d : Int} (h : a = c) (h' : b = d) : Ending.returned (.tuple #[.int .i64 a, .int .i64 b]) = .returned (.tuple #[.int .i64 c, .int .i64 d]) := by rw [h, h']

set_option maxHeartbeats 400000 in
theorem signed_any (n : Nat) (b : Bool) (w : World) (hn : n ≤ 18446744073709551615) :
    Calls Tryz.prog 80 #[.int .u64 n, .bool b] w fun e w' => e = .returned (ans (back (if b then -(n : Int) else n))) ∧ w = w' := by
  cases b
  · rcases (show n ≤ 9223372036854775807 ∨ 9223372036854775807 < n from by omega) with h | h
    · rw [if_neg (by simp), ans_yes (by unfold Fits; omega)]
      go_enter Tryz.func80, Tryz.ntmps80
      go_wp2
      go_ret2
      exact ⟨rfl, rfl⟩
    · rw [if_neg (by simp), ans_no (by unfold Fits; omega)]
      go_enter Tryz.func80, Tryz.ntmps80
      go_wp2
      go_ret2
      exact ⟨rfl, rfl⟩
  · rcases (show n ≤ 9223372036854775808 ∨ 9223372036854775808 < n from by omega) with h | h
    · have h0 : n ≤ 9223372036854775808 → wrap64 (IntKind.u64.wrap (-(n : Int))) = -(n : Int) := by
        intro h0
        rw [wrapU]
        unfold wrap64
        omega
      have H := Lib.hid h0; clear h0
      rw [if_pos rfl, ans_yes (by unfold Fits; omega)]
      go_enter Tryz.func80, Tryz.ntmps80
      go_wp2
      go_ret2
      exact ⟨ret_ans (H.out h) rfl, rfl⟩
    · rw [if_pos rfl, ans_no (by unfold Fits; omega)]
      go_enter Tryz.func80, Tryz.ntmps80
      go_wp2
      go_ret2
      exact ⟨rfl, rfl⟩

end Go.Proofs.YtcojnkjcbopnbaaGreatDoor.T3

/- Contracts of dec's products and quotients. -/
namespace Go.Proofs.YtcojnkjcbopnbaaGreatDoor.T3
open Go.Proofs.YtcojnkjcbopnbaaGreatDoor Go.Proofs
open Go.RowKit

def Drew (w w' : World) : Prop := ∃ n, w' = w.drewN n

theorem Drew.refl (w : World) : Drew w w := ⟨0, rfl⟩

def sgn (b : Bool) (n : Nat) : Int := if b then -(n : Int) else n

theorem signed_sgn (n : Nat) (b : Bool) (w : World) (hn : n ≤ 18446744073709551615) :
    Calls Tryz.prog 80 #[.int .u64 n, .bool b] w fun e w' => e = .returned (ans (back (sgn b n))) ∧ w = w' := signed_any n b w hn

theorem natAbs_lt {a : Int} (h : Fits a) : a.natAbs < 18446744073709551616 := by unfold Fits at h; omega

end Go.Proofs.YtcojnkjcbopnbaaGreatDoor.T3

/- Plain mathematics of texts of numbers: no program. -/
namespace Go.Proofs.YtcojnkjcbopnbaaGreatDoor.T3
open Go.Proofs.YtcojnkjcbopnbaaGreatDoor Go.Proofs

def isDig (c : UInt8) : Bool := decide (48 ≤ c.toNat) && decide (c.toNat ≤ 57)
def isBl (c : UInt8) : Bool := decide (c.toNat = 32) || decide (c.toNat = 9) || decide (c.toNat = 10)

theorem isDig_yes {c : UInt8} (h : isDig c = true) : 48 ≤ c.toNat ∧ c.toNat ≤ 57 := by
  simpa [isDig] using h
theorem isDig_no {c : UInt8} (h : isDig c = false) : c.toNat < 48 ∨ 57 < c.toNat := by
  simp [isDig] at h; omega

theorem tw_lt {p : UInt8 → Bool} : ∀ {l : List UInt8} {k : Nat}, k < (l.takeWhile p).length → ∀ hk : k < l.length, p l[k] = true
  | [], k, h, _ => by simp at h
  | a :: l, k, h, hk => by
    rw [List.takeWhile_cons] at h
    split at h
    · rename_i ha
      cases k with
      | zero => simpa using ha
      | succ k =>
        have := tw_lt (p := p) (l := l) (k := k) (by simpa using h) (by simpa using hk)
        simpa using this
    · simp at h

theorem tw_end {p : UInt8 → Bool} : ∀ {l : List UInt8} (hk : (l.takeWhile p).length < l.length), p l[(l.takeWhile p).length] = false
  | [], h => by simp at h
  | a :: l, h => by
    by_cases ha : p a = true
    · have h2 : (List.takeWhile p (a :: l)).length = (List.takeWhile p l).length + 1 := by simp [ha]
      have := tw_end (p := p) (l := l) (by rw [h2] at h; simpa using h)
      simp only [h2, List.getElem_cons_succ]
      exact this
    · have h2 : (List.takeWhile p (a :: l)).length = 0 := by simp [ha]
      simp only [h2, List.getElem_cons_zero]
      simpa using ha

theorem tw_le {p : UInt8 → Bool} (l : List UInt8) : (l.takeWhile p).length ≤ l.length := (List.takeWhile_sublist p).length_le

theorem tw_take {p : UInt8 → Bool} (l : List UInt8) : l.take (l.takeWhile p).length = l.takeWhile p := by
  induction l with
  | nil => rfl
  | cons a l ih =>
    rw [List.takeWhile_cons]
    split
    · simp [ih]
    · simp

def dstep (n : Nat) (c : UInt8) : Nat := n * 10 + (c.toNat - 48)
def dval (l : List UInt8) : Nat := l.foldl dstep 0

theorem dval_snoc (l : List UInt8) (c : UInt8) : dval (l ++ [c]) = dval l * 10 + (c.toNat - 48) := by
  simp [dval, dstep]

/-- A number that is counted up to a greatest one. -/
def Sat (r v : Nat) : Prop := (r = v ∧ v ≤ 18446744073709551615) ∨ (r = 18446744073709551615 ∧ 9223372036854775808 < v)

def pushN (n : Nat) (c : Nat) : Nat := if 1844674407370955160 < n then 18446744073709551615 else n * 10 + (c - 48)

theorem Sat.le {r v : Nat} (h : Sat r v) : r ≤ 18446744073709551615 := by unfold Sat at h; omega

theorem Sat.push {r v c : Nat} (h : Sat r v) (hc : c ≤ 57) : Sat (pushN r c) (v * 10 + (c - 48)) := by
  unfold Sat pushN at *
  split <;> omega

def pad6 (p : List UInt8) : List UInt8 := p.take 6 ++ List.replicate (6 - p.length) 48
def mval (whole part : List UInt8) : Nat := dval (whole ++ pad6 part)

theorem pad6_len (p : List UInt8) : (pad6 p).length = 6 := by
  simp [pad6]; omega

theorem pad6_lt {p : List UInt8} {k : Nat} (h : k < p.length) (hk : k < 6) : (pad6 p)[k]'(by rw [pad6_len]; exact hk) = p[k] := by
  unfold pad6
  rw [List.getElem_append_left (by simp; omega)]
  simp

theorem pad6_ge {p : List UInt8} {k : Nat} (h : p.length ≤ k) (hk : k < 6) : (pad6 p)[k]'(by rw [pad6_len]; exact hk) = 48 := by
  unfold pad6
  rw [List.getElem_append_right (by simp; omega)]
  simp

end Go.Proofs.YtcojnkjcbopnbaaGreatDoor.T3
