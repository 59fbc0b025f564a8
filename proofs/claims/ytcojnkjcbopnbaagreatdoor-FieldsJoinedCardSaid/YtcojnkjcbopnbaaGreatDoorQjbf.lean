/- Merged by program: RClassS, POne, RClassB. -/
import Derived.Test.YtcojnkjcbopnbaaGreatDoorQjbe
import Derived.Test.YtcojnkjcbopnbaaGreatDoorQjax
/- aukletref04.B.Set: a walk. -/
namespace Go.Proofs.YtcojnkjcbopnbaaGreatDoor
open Go.RowKit

set_option maxRecDepth 100000 in
set_option maxHeartbeats 2000000 in
theorem bset_any (p : Nat → Bool) (w : World) :
    Calls Tryz.prog 151 #[.agg (bools p)] w fun e w' => ∃ f : Nat → Nat, e = .returned (.agg (words f)) ∧ Hid (Fits f) ∧ Below w.heap.size w w' := by
  have hsz := bools_size p
  obtain ⟨W, hW, R, Q1, Q2, HB⟩ := set_boxed w p
  go_enter Tryz.func151, Tryz.ntmps151
  go_upto_region 2 with (fail)
  change Code.wp _ _ _ _ (((w.alloc (.cells (bools p) 197)).alloc (.cells (words zero4) 65)).alloc (.cells (words zero4) 65))
  rw [← hW]
  clear hW
  go_wp2_with fail
  go_loopw [4] (fun y wr => ∃ (m : Nat) (f : Nat → Nat), y = .int .i64 ((m : Int) - 1) ∧ m ≤ 256 ∧ Hid (∀ j, j < 4 → f j < 2 ^ gotB m j) ∧ Hid (Row wr w.heap.size p) ∧ Hid (Quad wr (w.heap.size + 1) zero4) ∧ Hid (Quad wr (w.heap.size + 1 + 1) f) ∧ Hid (Below w.heap.size w wr)) (fun y _ => (intOf y + 1).toNat)
  case atStart => exact ⟨256, zero4, rfl, by omega, Lib.hid (fun j hj => by unfold zero4; exact Nat.two_pow_pos _), R, Q1, Q2, HB⟩
  case round =>
    obtain ⟨m, f, rfl, hm, hF, r, q1, q2, hB⟩ := hrel
    cases m with
    | zero =>
      have hd : decide ((0 : Int) ≤ ((0 : Nat) : Int) - 1) = false := by decide
      have hfit : Hid (Fits f) := Lib.hid (fun j hj => by
        have h := hF.out j hj
        have e : gotB 0 j = 64 := by unfold gotB; omega
        rw [e] at h
        exact h)
      have c0 := q2.out.c 0 (by omega); have c1 := q2.out.c 1 (by omega); have c2 := q2.out.c 2 (by omega); have c3 := q2.out.c 3 (by omega)
      have z0 := q1.out.z 0 (by omega); have z1 := q1.out.z 1 (by omega); have z2 := q1.out.z 2 (by omega); have z3 := q1.out.z 3 (by omega)
      have y0 := q1.out.c 0 (by omega); have y1 := q1.out.c 1 (by omega); have y2 := q1.out.c 2 (by omega); have y3 := q1.out.c 3 (by omega)
      go_wp2_with fail
      obtain ⟨e0, e1, e2, e3⟩ := put4_reads q1.out f
      unfold put4 at e0 e1 e2 e3
      exact bodyPost_ret (v := .agg (words f)) (by simp [results, Tryz.results151, go_sem, e0, e1, e2, e3, words]) rfl ⟨f, rfl, hfit, below_put4 hB.out (by omega) f⟩
    | succ m =>
      have em : ((m + 1 : Nat) : Int) - 1 = (m : Int) := by omega
      have hm4 : m / 64 < 4 := by omega
      have hsm := got_small f (by omega) hF.out
      have hst0 := Lib.hid (fun x hx => got_step f x hF.out hx)
      have hc := q2.out.c (m / 64) hm4
      have hz := q2.out.z (m / 64) hm4
      have hr := r.out.c (i := m) (by omega)
      have hfz := r.out.z m
      simp only [em]
      clear em
      cases hp : p m with
      | true =>
        rw [hp] at hr
        go_wp2_with fail
        go_roundw
        case rel =>
          have e2 : (f (m / 64) : Int) * 2 = ((f (m / 64) * 2 : Nat) : Int) := by omega
          have e3 : ((f (m / 64) * 2 : Nat) : Int) + 1 = ((f (m / 64) * 2 + 1 : Nat) : Int) := by omega
          rw [e2, e3]
          refine ⟨m, fun j => if j = m / 64 then f (m / 64) * 2 + 1 else f j, rfl, by omega, Lib.hid (hst0.out _ (by omega)), Lib.hid ((r.out.other (by omega) _).other (by omega) _), Lib.hid ((q1.out.other (by omega) _).other (by omega) _), Lib.hid (((q2.out.set hm4 _).set hm4 _).congr fun k _ => ?_), Lib.hid ((hB.out.setCell (by simp; omega) _).setCell (by simp; omega) _)⟩
          split <;> rfl
        case measure => simp [intOf]
      | false =>
        rw [hp] at hr
        go_wp2_with fail
        go_roundw
        case rel =>
          have e2 : (f (m / 64) : Int) * 2 = ((f (m / 64) * 2 : Nat) : Int) := by omega
          rw [e2]
          exact ⟨m, fun j => if j = m / 64 then f (m / 64) * 2 else f j, rfl, by omega, Lib.hid (hst0.out _ (by omega)), Lib.hid (r.out.other (by omega) _), Lib.hid (q1.out.other (by omega) _), Lib.hid (q2.out.set hm4 _), Lib.hid (hB.out.setCell (by simp; omega) _)⟩
        case measure => simp [intOf]
end Go.Proofs.YtcojnkjcbopnbaaGreatDoor

/- aukletref05.one: a walk. -/
namespace Go.Proofs.YtcojnkjcbopnbaaGreatDoor
open Go.RowKit

theorem one_boxed (w : World) : ∃ W, W = (w.alloc (.cells zeroR 68)).alloc (.cells (bools (fun _ => false)) 197) ∧
    Hid (Box W w.heap.size zeroR) ∧ Hid (Row W (w.heap.size + 1) (fun _ => false)) ∧ Hid (Below w.heap.size w W) := by
  refine ⟨_, rfl, Lib.hid ((box_new w zeroR).after (below_new _ _)), ?_, Lib.hid (Below.step (below_new _ _) (below_new _ _))⟩
  have h := row_new (w.alloc (.cells zeroR 68)) (fun _ => false)
  rw [World.size_alloc] at h
  exact Lib.hid h

set_option maxRecDepth 100000 in
set_option maxHeartbeats 1000000 in
theorem one_any (c : Nat) (hc : c < 256) (w : World) :
    Calls Tryz.prog 135 #[.int .i64 c] w fun e w' => ∃ f : Nat → Nat, e = .returned (.agg (reC 1 f 0 0 (.slice none 0 0))) ∧ Hid (Fits f) ∧ Below w.heap.size w w' := by
  have hz := zero_b
  have hu := build_b
  have hsz := bools_size (fun _ => false)
  have HI := info_re
  obtain ⟨W, hW, X, R, HB⟩ := one_boxed w
  have hst := store_b R.out (fun _ => false)
  rw [show W.setRow (w.heap.size + 1) (bools fun _ => false) = W from by
    rw [hW]
    have h := World.setRow_alloc_new (w.alloc (.cells zeroR 68)) (bools fun _ => false) (bools fun _ => false) 197
    rw [World.size_alloc] at h
    exact h] at hst
  rw [hW] at hst
  have hst2 : (storeCells ⟨w.heap.size + 1, 0, none⟩ (bools (fun _ => false)).toList).run Tryz.prog ((w.alloc (.cells #[.int .i64 0, .int .u64 0, .int .u64 0, .int .u64 0, .int .u64 0, .int .i64 0, .int .i64 0, .slice none 0 0] 68)).alloc (.cells (bools (fun _ => false)) 197)) = .ok () ((w.alloc (.cells zeroR 68)).alloc (.cells (bools (fun _ => false)) 197)) := hst
  clear hst
  go_enter Tryz.func135, Tryz.ntmps135
  go_upto_region 2 with (fail)
  change Code.wp _ _ _ _ ((w.alloc (Obj.cells zeroR 68)).alloc (.cells (bools (fun _ => false)) 197))
  rw [← hW]
  clear hW hst2 hz hu
  have hcc := R.out.c hc
  have hzz := R.out.z c
  have R1 := Lib.hid (R.out.set hc true)
  have X1 : Hid (Box (W.setCell ⟨w.heap.size + 1, c, none⟩ (.bool true)) w.heap.size zeroR) := Lib.hid ⟨by rw [heap_setCell_other _ _ _ _ (by simp)]; exact X.out.row⟩
  have B1 : Hid (Below w.heap.size w (W.setCell ⟨w.heap.size + 1, c, none⟩ (.bool true))) := Lib.hid (HB.out.setCell (by simp) _)
  have HI2 : (Tryz.prog.info? 197).map (·.size) = some (bools (fun j => if j = c then true else false)).size := by rw [bools_size]; exact size_b
  have HS := Lib.hid (fun w => bset_any (fun j => if j = c then true else false) w)
  go_upto_region 3 with (fail)
  clear hcc hzz
  go_step
  refine wpList_load_row (by rfl) 197 (.tmp 3) (by rfl) (w.heap.size + 1) (by rfl) 197 (bools (fun j => if j = c then true else false)) (0, 0) _ R1.out.row Tryz.underlying197 (by rfl) HI2 ?_
  go_step
  go_wp2_with fail
  refine (HS.out _).mono ?_
  rintro e w7 ⟨f, rfl, hf, b7⟩
  have X7 := Lib.hid (X1.out.after b7)
  have B7 := Lib.hid (Below.step B1.out b7)
  clear b7 R1 X1 B1 HI2 HS
  simp only [words]
  go_wp2_with (refine wpList_store_row rfl 68 (.tmp 2) (.tmp 9) rfl w.heap.size (reC 1 f 0 0 (.slice none 0 0)) rfl rfl 68 zeroR X7.out.row HI rfl (re_one _ _ _ _ _ _ _) ?_)
  refine bodyPost_ret (v := .agg (reC 1 f 0 0 (.slice none 0 0))) (results_cell_row (by rfl) _ _ w.heap.size 68 _ (0, 0) _ (by rfl) (X7.out.setRow _).row Tryz.underlying68 (by rfl) HI) rfl ?_
  exact ⟨f, rfl, hf, below_setRow B7.out (Nat.le_refl _) _⟩
end Go.Proofs.YtcojnkjcbopnbaaGreatDoor

/- aukletref04.Parse at any text: a walk. -/
namespace Go.Proofs.YtcojnkjcbopnbaaGreatDoor
open Go.RowKit

theorem rparse_boxed (w : World) : ∃ W, W = (w.alloc (.cells (words zero4) 65)).alloc (.cells (bools (fun _ => false)) 197) ∧
    Hid (Quad W w.heap.size zero4) ∧ Hid (Row W (w.heap.size + 1) (fun _ => false)) ∧ Hid (Below w.heap.size w W) := by
  refine ⟨_, rfl, Lib.hid ((quad_new w zero4 _).after (below_new _ _)), ?_, Lib.hid (Below.step (below_new _ _) (below_new _ _))⟩
  have h := row_new (w.alloc (.cells (words zero4) 65)) (fun _ => false)
  rw [World.size_alloc] at h
  exact Lib.hid h

/-- What is told of a set that is read from a place on; the place behind it is never beyond the text. -/
def RSetOut (s : ByteArray) (k : Nat) (w : World) (e : Ending) (w' : World) : Prop :=
  ∃ (f : Nat → Nat) (n : Nat) (x : Int), e = .returned (.tuple #[.agg (words f), .int .i64 n, .int .i64 x]) ∧ Hid (Fits f ∧ n ≤ s.size ∧ (x = 0 → k < n)) ∧ Below w.heap.size w w'

/-- What stands in a round of Parse. -/
structure RPI (s : ByteArray) (k pos : Nat) (w wr : World) : Prop where
  lt : k < pos
  le : pos ≤ s.size
  quad : Quad wr w.heap.size zero4
  row : ∃ p, Row wr (w.heap.size + 1) p
  below : Below w.heap.size w wr

theorem RPI.set {s : ByteArray} {k pos : Nat} {w wr : World} (h : RPI s k pos w wr) {c : Nat} (hc : c < 256) (v : Bool) : RPI s k pos w (wr.setCell ⟨w.heap.size + 1, c, none⟩ (.bool v)) := by
  obtain ⟨p, hp⟩ := h.row
  exact ⟨h.lt, h.le, h.quad.other (by omega) _, ⟨_, hp.set hc v⟩, h.below.setCell (by simp) _⟩

set_option maxRecDepth 100000 in
set_option maxHeartbeats 4000000 in
theorem rclass_any (s : ByteArray) (k : Nat) (h : k < s.size) (hb : s[k].toNat = 91) (hs : s.size ≤ 400) (w : World) :
    Calls Tryz.prog 134 #[.string s, .int .i64 k] w (RSetOut s k w) := by
  have hz := zero_b
  have hu := build_b
  have hsz := bools_size (fun _ => false)
  obtain ⟨W, hW, Q, R, HB⟩ := rparse_boxed w
  have hst := store_b R.out (fun _ => false)
  rw [show W.setRow (w.heap.size + 1) (bools fun _ => false) = W from by
    rw [hW]
    have h := World.setRow_alloc_new (w.alloc (.cells (words zero4) 65)) (bools fun _ => false) (bools fun _ => false) 197
    rw [World.size_alloc] at h
    exact h] at hst
  rw [hW] at hst
  have HA := Lib.hid (fun (i : Nat) w => at_any s i w)
  have HK := Lib.hid (fun w => at_any s (k + 1) w)
  have e1 : ((k + 1 : Nat) : Int) = (k : Int) + 1 := by omega
  rw [e1] at HK
  have ik := Lib.hid (fun h => atB_in (s := s) (i := k + 1) h)
  clear e1
  generalize atB s (k + 1) = x0 at *
  go_enter Tryz.func134, Tryz.ntmps134
  go_wp2_with fail
  refine (HK.out _).mono ?_
  rintro e w1 ⟨rfl, rfl⟩
  clear HK
  go_upto_region 5 with (fail)
  obtain ⟨bn, hbn⟩ : ∃ bn, bn = (x0 == 94) := ⟨_, rfl⟩
  rw [← hbn]
  go_upto_if 40 with (fail)
  go_cut [1] (fun x wx => ∃ pos : Nat, x = .int .i64 pos ∧ k < pos ∧ pos ≤ s.size ∧ wx = w.alloc (.cells (words zero4) 65))
  case first =>
    cases bn with
    | true =>
      have hx : x0 = 94 := by simpa using hbn.symm
      have := ik.out (by omega)
      go_wp2_with fail
      go_meet
      exact ⟨k + 2, by go_num, by omega, by omega, rfl⟩
    | false =>
      go_wp2_with fail
      go_meet
      exact ⟨k + 1, by go_num, by omega, by omega, rfl⟩
  case rest =>
    obtain ⟨pos, rfl, hkp, hps, rfl⟩ := hcut
    clear ik hbn
    go_wp2_with fail
    change Code.wp _ _ _ _ ((w.alloc (.cells (words zero4) 65)).alloc (.cells (bools (fun _ => false)) 197))
    rw [← hW]
    clear hW hst hz hu
    go_loopw [1, 9] (fun x y wr => ∃ (pos : Nat) (b : Bool), x = .int .i64 pos ∧ y = .bool b ∧ Hid (RPI s k pos w wr)) (fun x _ _ => s.size - (intOf x).toNat)
    case atStart => exact ⟨pos, true, rfl, rfl, Lib.hid ⟨hkp, hps, Q.out, ⟨_, R.out⟩, HB.out⟩⟩
    case round =>
      obtain ⟨pos, b, rfl, rfl, I⟩ := hrel
      have hp1 := I.out.lt
      have hp2 := I.out.le
      have A0 := Lib.hid (fun w => HA.out pos w)
      have A1 := Lib.hid (fun w => HA.out (pos + 1) w)
      have e1 : ((pos + 1 : Nat) : Int) = (pos : Int) + 1 := by omega
      rw [e1] at A1
      clear e1
      have i0 := Lib.hid (fun h => atB_in (s := s) (i := pos) h)
      have i1 := Lib.hid (fun h => atB_in (s := s) (i := pos + 1) h)
      generalize atB s pos = y0 at *
      generalize atB s (pos + 1) = y1 at *
      go_upto_region 9 with (fail)
      go_cut [50] from 44 to 174 (fun x wx => ∃ b, x = .bool b ∧ Hid (b = false → y0 = 93) ∧ wx = wr)
      case first =>
        cases b with
        | true =>
          go_wp2_with fail
          go_meet
          exact ⟨true, rfl, Lib.hid (fun h => by cases h), rfl⟩
        | false =>
          go_wp2_with fail
          refine (A0.out _).mono ?_
          rintro e w1 ⟨rfl, rfl⟩
          go_wp2_with fail
          go_meet
          exact ⟨_, rfl, Lib.hid (fun h => by simpa using h), rfl⟩
      case rest =>
        obtain ⟨b, rfl, hyb, rfl⟩ := hcut
        cases b with
        | false =>
          have hy := hyb.out rfl
          have hps1 := i0.out (by omega)
          clear A0 A1 i0 i1 HA hyb
          go_upto_if 175 with (fail)
          go_cut [18] from 176 to 185 (fun _ wx => Hid (RPI s k pos w wx))
          case first =>
            cases bn with
            | false =>
              go_wp2_with fail
              go_meet
              exact I
            | true =>
              go_wp2_with fail
              go_loopw [18] (fun x w5 => ∃ c : Nat, x = .int .i64 c ∧ c ≤ 256 ∧ Hid (RPI s k pos w w5)) (fun x _ => 256 - (intOf x).toNat)
              case atStart => exact ⟨0, rfl, by omega, I⟩
              case round =>
                obtain ⟨c, rfl, hc, I5⟩ := hrel
                by_cases hgo : c < 256
                · obtain ⟨p, R5⟩ := I5.out.row
                  have hc5 := R5.c hgo
                  have hz5 := R5.z c
                  have I6 := Lib.hid (fun v => I5.out.set hgo v)
                  clear R5
                  go_wp2_with fail
                  go_roundw
                  case rel => exact ⟨c + 1, by go_num, by omega, Lib.hid (I6.out _)⟩
                  case measure => simp [intOf]; omega
                · obtain rfl : c = 256 := by omega
                  go_wp2_with fail
                  go_meet
                  exact I5
          case rest =>
            obtain ⟨p, R6⟩ := hcut.out.row
            have q6 := hcut.out.quad
            have B6 := Lib.hid hcut.out.below
            have HR := Lib.hid R6.row
            have HQ := Lib.hid q6
            clear hcut R6 q6 I
            have HI : (Tryz.prog.info? 197).map (·.size) = some (bools p).size := by rw [bools_size]; exact size_b
            have HS := Lib.hid (fun w => bset_any p w)
            go_upto_region 45 with (fail)
            go_step
            refine wpList_load_row (by rfl) 197 (.tmp 8) (by rfl) (w.heap.size + 1) (by rfl) 197 (bools p) (0, 0) _ HR.out Tryz.underlying197 (by rfl) HI ?_
            go_step
            go_wp2_with fail
            refine (HS.out _).mono ?_
            rintro e w7 ⟨f, rfl, hf, b7⟩
            have Q7 := Lib.hid (HQ.out.after b7)
            have B7 := Lib.hid (Below.step B6.out b7)
            clear b7 HR HQ B6
            have z0 := Q7.out.z 0 (by omega); have z1 := Q7.out.z 1 (by omega); have z2 := Q7.out.z 2 (by omega); have z3 := Q7.out.z 3 (by omega)
            have y0 := Q7.out.c 0 (by omega); have y1 := Q7.out.c 1 (by omega); have y2 := Q7.out.c 2 (by omega); have y3 := Q7.out.c 3 (by omega)
            simp only [words]
            go_wp2_with fail
            obtain ⟨e0, e1, e2, e3⟩ := put4_reads Q7.out f
            unfold put4 at e0 e1 e2 e3
            exact bodyPost_ret (v := .tuple #[.agg (words f), .int .i64 ((pos + 1 : Nat) : Int), .int .i64 0]) (by simp [results, Tryz.results134, go_sem, e0, e1, e2, e3, words]) rfl ⟨f, pos + 1, 0, rfl, Lib.hid ⟨hf.out, by omega, fun _ => by omega⟩, below_put4 B7.out (by omega) _⟩
        | true =>
          clear hyb
          go_upto_region 11 with (fail)
          go_cut [61] from 44 to 174 (fun x wx => ∃ b, x = .bool b ∧ Hid (b = true → y1 = 58) ∧ wx = wc)
          case first =>
            go_wp2_with fail
            refine (A0.out _).mono ?_
            rintro e w1 ⟨rfl, rfl⟩
            by_cases hy0 : y0 = 91
            · subst hy0
              go_wp2_with fail
              refine (A1.out _).mono ?_
              rintro e w1 ⟨rfl, rfl⟩
              go_wp2_with fail
              go_meet
              exact ⟨_, rfl, Lib.hid (fun h => by simpa using h), rfl⟩
            · have hyb : (y0 == 91) = false := beq_eq_false_iff_ne.2 hy0
              go_wp2_with fail
              go_meet
              exact ⟨_, rfl, Lib.hid (fun h => by simp at h), rfl⟩
          case rest =>
            obtain ⟨b, rfl, hyb, rfl⟩ := hcut
            cases b with
            | true =>
              have hy := hyb.out rfl
              have := i1.out (by omega)
              have HN := Lib.hid (fun (name : ByteArray) (c : Nat) (v : World) => (rnamed_spec name c v).mono fun e w' h => (⟨(refNamed name c).1, (refNamed name c).2, h.1, h.2⟩ : ∃ r q : Bool, e = .returned (.tuple #[.bool r, .bool q]) ∧ w' = v))
              clear A0 A1 i0 i1 hyb
              go_upto_region 13 with (fail)
              go_loopw [10] (fun x wx => ∃ t : Nat, x = .int .i64 t ∧ pos + 2 ≤ t ∧ t ≤ s.size ∧ Hid (RPI s k pos w wx)) (fun x _ => s.size - (intOf x).toNat)
              case atStart => exact ⟨pos + 2, by go_num, by omega, by omega, I⟩
              case round =>
                obtain ⟨t, rfl, ht1, ht2, I2⟩ := hrel
                by_cases hts : t < s.size
                rotate_left
                · obtain rfl : t = s.size := by omega
                  have hd : decide ((s.size : Int) < s.size) = false := decide_eq_false (by omega)
                  have HQ := Lib.hid I2.out.quad
                  have z0 := HQ.out.z 0 (by omega); have z1 := HQ.out.z 1 (by omega); have z2 := HQ.out.z 2 (by omega); have z3 := HQ.out.z 3 (by omega)
                  have y0 := HQ.out.c 0 (by omega); have y1 := HQ.out.c 1 (by omega); have y2 := HQ.out.c 2 (by omega); have y3 := HQ.out.c 3 (by omega)
                  go_wp2_with fail
                  obtain ⟨e0, e1, e2, e3⟩ := zput_reads HQ.out
                  exact bodyPost_ret (v := .tuple #[.agg (words zero4), .int .i64 ((0 : Nat) : Int), .int .i64 3]) (by simp [results, Tryz.results134, go_sem, e0, e1, e2, e3, words, zero4]) rfl ⟨zero4, 0, 3, rfl, Lib.hid ⟨fits_zero, by omega, fun h => absurd h (by decide)⟩, below_put4 I2.out.below (by omega) zero4⟩
                · have hd : decide ((t : Int) < s.size) = true := decide_eq_true (by omega)
                  have T0 := Lib.hid (fun w => HA.out t w)
                  have T1 := Lib.hid (fun w => HA.out (t + 1) w)
                  have e1 : ((t + 1 : Nat) : Int) = (t : Int) + 1 := by omega
                  rw [e1] at T1
                  clear e1
                  have j1 := Lib.hid (fun h => atB_in (s := s) (i := t + 1) h)
                  generalize atB s t = x1 at *
                  generalize atB s (t + 1) = x2 at *
                  go_wp2_with fail
                  refine (T0.out _).mono ?_
                  rintro e w1 ⟨rfl, rfl⟩
                  by_cases h1 : x1 = 58
                  rotate_left
                  · have hxb : (x1 == 58) = false := beq_eq_false_iff_ne.2 h1
                    have H1 := Lib.hid h1; clear h1
                    go_wp2_with fail
                    go_roundw
                    case rel => exact ⟨t + 1, by go_num, by omega, by omega, I2⟩
                    case measure => simp [intOf]; omega
                  subst h1
                  go_wp2_with fail
                  refine (T1.out _).mono ?_
                  rintro e w1 ⟨rfl, rfl⟩
                  by_cases h2 : x2 = 93
                  rotate_left
                  · have hxb : (x2 == 93) = false := beq_eq_false_iff_ne.2 h2
                    have H2 := Lib.hid h2; clear h2
                    go_wp2_with fail
                    go_roundw
                    case rel => exact ⟨t + 1, by go_num, by omega, by omega, I2⟩
                    case measure => simp [intOf]; omega
                  subst h2
                  have ht3 := j1.out (by omega)
                  clear T0 T1 j1 HA
                  have hd2 : decide ((s.size : Int) ≤ t) = false := decide_eq_false (by omega)
                  go_upto_region 18 with (fail)
                  rw [show decide (s.size ≤ t) = false from decide_eq_false (by omega)]
                  go_loopw [11] (fun x wx => ∃ c : Nat, x = .int .i64 c ∧ c ≤ 256 ∧ Hid (RPI s k pos w wx)) (fun x _ => 256 - (intOf x).toNat)
                  case atStart => exact ⟨0, rfl, by omega, I2⟩
                  case round =>
                    obtain ⟨c, rfl, hc, I3⟩ := hrel
                    by_cases hc2 : c < 256
                    rotate_left
                    · obtain rfl : c = 256 := by omega
                      have I4 : Hid (RPI s k (t + 2) w wr) := Lib.hid ⟨by omega, by omega, I3.out.quad, I3.out.row, I3.out.below⟩
                      clear HN
                      go_wp2_with fail
                      go_roundw
                      case rel => exact ⟨t + 2, false, by go_num, rfl, I4⟩
                      case measure => simp [intOf]; omega
                    · go_wp2_with fail
                      refine (HN.out _ c _).mono ?_
                      rintro e w1 ⟨r, q, rfl, rfl⟩
                      cases q with
                      | false =>
                        clear HN
                        have HQ := Lib.hid I3.out.quad
                        have z0 := HQ.out.z 0 (by omega); have z1 := HQ.out.z 1 (by omega); have z2 := HQ.out.z 2 (by omega); have z3 := HQ.out.z 3 (by omega)
                        have y0 := HQ.out.c 0 (by omega); have y1 := HQ.out.c 1 (by omega); have y2 := HQ.out.c 2 (by omega); have y3 := HQ.out.c 3 (by omega)
                        go_wp2_with fail
                        obtain ⟨e0, e1, e2, e3⟩ := zput_reads HQ.out
                        exact bodyPost_ret (v := .tuple #[.agg (words zero4), .int .i64 ((0 : Nat) : Int), .int .i64 40]) (by simp [results, Tryz.results134, go_sem, e0, e1, e2, e3, words, zero4]) rfl ⟨zero4, 0, 40, rfl, Lib.hid ⟨fits_zero, by omega, fun h => absurd h (by decide)⟩, below_put4 I3.out.below (by omega) zero4⟩
                      | true =>
                        obtain ⟨p, R5⟩ := I3.out.row
                        have hc5 := R5.c hc2
                        have hz5 := R5.z c
                        have I6 := Lib.hid (fun v => I3.out.set hc2 v)
                        clear R5 HN
                        cases hpc : p c with
                        | true =>
                          rw [hpc] at hc5
                          go_wp2_with fail
                          go_roundw
                          case rel => exact ⟨c + 1, by go_num, by omega, Lib.hid (I6.out _)⟩
                          case measure => simp [intOf]; omega
                        | false =>
                          rw [hpc] at hc5
                          go_wp2_with fail
                          go_roundw
                          case rel => exact ⟨c + 1, by go_num, by omega, Lib.hid (I6.out _)⟩
                          case measure => simp [intOf]; omega
            | false =>
              have HO := Lib.hid (fun w => single_any s pos (by omega) w)
              clear A0 A1 i0 i1 hyb
              go_wp2_with fail
              refine (HO.out _).mono ?_
              rintro e w1 ⟨x, n, rfl, ho, rfl⟩
              clear HO
              by_cases hx : x < 0
              · have hd : decide (x < 0) = true := decide_eq_true hx
                have HQ := Lib.hid I.out.quad
                have z0 := HQ.out.z 0 (by omega); have z1 := HQ.out.z 1 (by omega); have z2 := HQ.out.z 2 (by omega); have z3 := HQ.out.z 3 (by omega)
                have y0 := HQ.out.c 0 (by omega); have y1 := HQ.out.c 1 (by omega); have y2 := HQ.out.c 2 (by omega); have y3 := HQ.out.c 3 (by omega)
                go_wp2_with fail
                obtain ⟨e0, e1, e2, e3⟩ := zput_reads HQ.out
                exact bodyPost_ret (v := .tuple #[.agg (words zero4), .int .i64 ((0 : Nat) : Int), .int .i64 3]) (by simp [results, Tryz.results134, go_sem, e0, e1, e2, e3, words, zero4]) rfl ⟨zero4, 0, 3, rfl, Lib.hid ⟨fits_zero, by omega, fun h => absurd h (by decide)⟩, below_put4 I.out.below (by omega) zero4⟩
              have hd : decide (x < 0) = false := decide_eq_false hx
              obtain ⟨x, rfl⟩ := Int.eq_ofNat_of_zero_le (show 0 ≤ x by omega)
              obtain ⟨o1, o2, o3, o4, o5⟩ := ho.out
              have o6 := o5 (by omega)
              clear ho o5 o1 hx
              have N0 := Lib.hid (fun w => HA.out n w)
              have N1 := Lib.hid (fun w => HA.out (n + 1) w)
              have N2 := Lib.hid (fun w => HA.out (n + 2) w)
              have e1 : ((n + 1 : Nat) : Int) = (n : Int) + 1 := by omega
              have e2 : ((n + 2 : Nat) : Int) = (n : Int) + 2 := by omega
              rw [e1] at N1
              rw [e2] at N2
              clear HA
              generalize atB s n = y0 at *
              generalize atB s (n + 1) = y1 at *
              generalize atB s (n + 2) = y2 at *
              have HO := Lib.hid (fun w => single_any s (n + 1) (by omega) w)
              rw [e1] at HO
              clear e1 e2
              go_upto_region 29 with (fail)
              go_cut [151] from 44 to 174 (fun x wx => ∃ b, x = .bool b ∧ wx = w1)
              case first =>
                go_wp2_with fail
                refine (N0.out _).mono ?_
                rintro e w1 ⟨rfl, rfl⟩
                by_cases h0 : y0 = 45
                rotate_left
                · have hyb : (y0 == 45) = false := beq_eq_false_iff_ne.2 h0
                  have H0 := Lib.hid h0; clear h0
                  go_wp2_with fail
                  go_meet
                  exact ⟨_, rfl, rfl⟩
                subst h0
                go_wp2_with fail
                refine (N1.out _).mono ?_
                rintro e w1 ⟨rfl, rfl⟩
                by_cases h1 : y1 = 93
                · subst h1
                  go_wp2_with fail
                  go_meet
                  exact ⟨_, rfl, rfl⟩
                have hyb : (y1 != 93) = true := by simpa using h1
                clear h1
                go_wp2_with fail
                refine (N1.out _).mono ?_
                rintro e w1 ⟨rfl, rfl⟩
                by_cases h2 : y1 = 91
                rotate_left
                · have hyc : (y1 == 91) = false := beq_eq_false_iff_ne.2 h2
                  have H0 := Lib.hid h2; clear h2
                  go_wp2_with fail
                  go_meet
                  exact ⟨_, rfl, rfl⟩
                subst h2
                go_wp2_with fail
                refine (N2.out _).mono ?_
                rintro e w1 ⟨rfl, rfl⟩
                go_wp2_with fail
                go_meet
                exact ⟨_, rfl, rfl⟩
              case rest =>
                obtain ⟨b, rfl, rfl⟩ := hcut
                clear N0 N1 N2
                go_upto_if 151 with (fail)
                go_cut [15, 16] from 44 to 174 (fun kk tt wx => ∃ m y : Nat, kk = .int .i64 m ∧ tt = .int .i64 y ∧ x ≤ y ∧ y < 256 ∧ n ≤ m ∧ m ≤ s.size ∧ wx = wc)
                case first =>
                  cases b with
                  | false =>
                    go_wp2_with fail
                    go_meet
                    exact ⟨n, x, rfl, rfl, by omega, by omega, by omega, by omega, rfl⟩
                  | true =>
                    go_wp2_with fail
                    refine (HO.out _).mono ?_
                    rintro e w1 ⟨y, m, rfl, ho, rfl⟩
                    clear HO
                    by_cases hy : y < 0
                    · have hd : decide (y < 0) = true := decide_eq_true hy
                      have HQ := Lib.hid I.out.quad
                      have z0 := HQ.out.z 0 (by omega); have z1 := HQ.out.z 1 (by omega); have z2 := HQ.out.z 2 (by omega); have z3 := HQ.out.z 3 (by omega)
                      have y0 := HQ.out.c 0 (by omega); have y1 := HQ.out.c 1 (by omega); have y2 := HQ.out.c 2 (by omega); have y3 := HQ.out.c 3 (by omega)
                      go_wp2_with fail
                      obtain ⟨e0, e1, e2, e3⟩ := zput_reads HQ.out
                      exact bodyPost_ret (v := .tuple #[.agg (words zero4), .int .i64 ((0 : Nat) : Int), .int .i64 3]) (by simp [results, Tryz.results134, go_sem, e0, e1, e2, e3, words, zero4]) rfl ⟨zero4, 0, 3, rfl, Lib.hid ⟨fits_zero, by omega, fun h => absurd h (by decide)⟩, below_put4 I.out.below (by omega) zero4⟩
                    have hd : decide (y < 0) = false := decide_eq_false hy
                    obtain ⟨y, rfl⟩ := Int.eq_ofNat_of_zero_le (show 0 ≤ y by omega)
                    obtain ⟨p1, p2, p3, p4, p5⟩ := ho.out
                    have p6 := p5 (by omega)
                    clear ho p5 p1 hy
                    by_cases hyx : y < x
                    · have hd : decide ((y : Int) < x) = true := decide_eq_true (by omega)
                      have HQ := Lib.hid I.out.quad
                      have z0 := HQ.out.z 0 (by omega); have z1 := HQ.out.z 1 (by omega); have z2 := HQ.out.z 2 (by omega); have z3 := HQ.out.z 3 (by omega)
                      have y0 := HQ.out.c 0 (by omega); have y1 := HQ.out.c 1 (by omega); have y2 := HQ.out.c 2 (by omega); have y3 := HQ.out.c 3 (by omega)
                      go_wp2_with fail
                      obtain ⟨e0, e1, e2, e3⟩ := zput_reads HQ.out
                      exact bodyPost_ret (v := .tuple #[.agg (words zero4), .int .i64 ((0 : Nat) : Int), .int .i64 4]) (by simp [results, Tryz.results134, go_sem, e0, e1, e2, e3, words, zero4]) rfl ⟨zero4, 0, 4, rfl, Lib.hid ⟨fits_zero, by omega, fun h => absurd h (by decide)⟩, below_put4 I.out.below (by omega) zero4⟩
                    have hd : decide ((y : Int) < x) = false := decide_eq_false (by omega)
                    go_wp2_with fail
                    go_meet
                    exact ⟨m, y, rfl, rfl, by omega, by omega, by omega, by omega, rfl⟩
                case rest =>
                  obtain ⟨m, y, rfl, rfl, hxy, hy, hnm, hm, rfl⟩ := hcut
                  clear HO
                  go_upto_region 36 with (fail)
                  go_loopw [17] (fun z wx => ∃ c : Nat, z = .int .i64 c ∧ c ≤ 256 ∧ Hid (RPI s k pos w wx)) (fun z _ => 256 - (intOf z).toNat)
                  case atStart => exact ⟨x, rfl, by omega, I⟩
                  case round =>
                    obtain ⟨c, rfl, hc, I3⟩ := hrel
                    by_cases hc2 : c ≤ y
                    · have hd2 : decide ((c : Int) ≤ y) = true := decide_eq_true (by omega)
                      obtain ⟨p, R5⟩ := I3.out.row
                      have hc5 := R5.c (i := c) (by omega)
                      have hz5 := R5.z c
                      have I6 := Lib.hid (fun v => I3.out.set (c := c) (by omega) v)
                      clear R5
                      go_wp2_with fail
                      go_roundw
                      case rel => exact ⟨c + 1, by go_num, by omega, Lib.hid (I6.out _)⟩
                      case measure => simp [intOf]; omega
                    · have hd2 : decide ((c : Int) ≤ y) = false := decide_eq_false (by omega)
                      have I4 : Hid (RPI s k m w wr) := Lib.hid ⟨by omega, by omega, I3.out.quad, I3.out.row, I3.out.below⟩
                      go_wp2_with fail
                      go_roundw
                      case rel => exact ⟨m, false, rfl, rfl, I4⟩
                      case measure => simp [intOf]; omega
end Go.Proofs.YtcojnkjcbopnbaaGreatDoor
