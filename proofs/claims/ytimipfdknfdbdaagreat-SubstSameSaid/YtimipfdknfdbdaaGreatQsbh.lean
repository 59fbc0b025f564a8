/- Merged by program: ClassB. -/
import Derived.Test.YtimipfdknfdbdaaGreatQsbd
import Derived.Test.YtimipfdknfdbdaaGreatQsbg
/- class.member, members, Parse at any text: walks. -/
namespace Go.Proofs.YtimipfdknfdbdaaGreat
open Go.RowKit

theorem prefix_len {s : ByteArray} {k : Nat} {p : List UInt8} (hk : k ≤ s.size) (h : Lib.hasPrefix (s.extract k s.size).data.toList p = true) : k + p.length ≤ s.size := by
  have h1 := (List.isPrefixOf_iff_prefix.1 h).length_le
  rw [extract_drop, List.length_drop] at h1
  have h2 : s.data.toList.length = s.size := Array.length_toList
  omega

set_option maxRecDepth 100000 in
set_option maxHeartbeats 2000000 in
theorem member_any (s : ByteArray) (k : Nat) (h : k ≤ s.size) (hs : s.size ≤ 400) (w : World) (hx : MX w) :
    Calls Tryz.prog 99 #[.string s, .int .i64 k] w (SetOut s k w) := by
  obtain ⟨W, hW, Q, HB⟩ := quad_box w zero4 35
  have HX := Lib.hid (hx.after HB.out)
  have hk1 : (k : Int) ≤ s.size := by omega
  clear hx
  cases hp : Lib.hasPrefix (s.extract k s.size).data.toList [91, 58] with
  | true =>
    have h2 : k + 2 ≤ s.size := prefix_len h hp
    have HP := Lib.hid (fun w => hp_spec (s.extract k s.size) ⟨#[91, 58]⟩ true hp w)
    have HC := Lib.hid (classAt_any s (k + 2) h2 hs W HX.out)
    have e2 : ((k + 2 : Nat) : Int) = (k : Int) + 2 := by omega
    rw [e2] at HC
    clear hp e2
    go_enter Tryz.func99, Tryz.ntmps99
    go_upto_region 1 with (fail)
    change Code.wp _ _ _ _ (w.alloc (Obj.cells (words zero4) 35))
    rw [← hW]
    clear hW
    go_wp2_with fail
    refine (HP.out _).mono ?_
    rintro e w1 ⟨rfl, rfl⟩
    go_wp2_with fail
    refine HC.out.mono ?_
    rintro e w2 ⟨f, n, x, rfl, hf, b2⟩
    have Q2 := Lib.hid (Q.out.after b2)
    have B2 := Lib.hid (Below.step HB.out b2)
    clear b2
    have z0 := Q2.out.z 0 (by omega); have z1 := Q2.out.z 1 (by omega); have z2 := Q2.out.z 2 (by omega); have z3 := Q2.out.z 3 (by omega)
    have y0 := Q2.out.c 0 (by omega); have y1 := Q2.out.c 1 (by omega); have y2 := Q2.out.c 2 (by omega); have y3 := Q2.out.c 3 (by omega)
    simp only [words]
    go_wp2_with fail
    obtain ⟨e0, e1, e2, e3⟩ := put4_reads Q2.out f
    unfold put4 at e0 e1 e2 e3
    exact bodyPost_ret (v := .tuple #[.agg (words f), .int .i64 (n : Int), .int .i64 x]) (by simp [results, Tryz.results99, go_sem, e0, e1, e2, e3, words]) rfl ⟨f, n, x, rfl, Lib.hid ⟨hf.out.1, fun h => by have := hf.out.2 h; omega⟩, below_put4 B2.out (by omega) f⟩
  | false =>
    have HP := Lib.hid (fun w => hp_spec (s.extract k s.size) ⟨#[91, 58]⟩ false hp w)
    have HC := Lib.hid (fun w => byteAt_any s k h (by omega) w)
    have HC2 := Lib.hid (fun n (hn : n < s.size) w => byteAt_any s (n + 1) (by omega) (by omega) w)
    clear hp
    have z0 := Q.out.z 0 (by omega); have z1 := Q.out.z 1 (by omega); have z2 := Q.out.z 2 (by omega); have z3 := Q.out.z 3 (by omega)
    have y0 := Q.out.c 0 (by omega); have y1 := Q.out.c 1 (by omega); have y2 := Q.out.c 2 (by omega); have y3 := Q.out.c 3 (by omega)
    have HAdd : Hid (∀ (V : World) (c d : Nat), c < 256 → d < 256 → Calls Tryz.prog 89 #[.agg #[.int .u64 0, .int .u64 0, .int .u64 0, .int .u64 0], .int .u8 c, .int .u8 d] V fun e w' => ∃ g, e = .returned (.agg (words g)) ∧ Hid (Fits g) ∧ Below V.heap.size V w') := Lib.hid (fun V c d hc hd => (add_spec zero4 fits_zero c d hc hd V).mono fun e w' ⟨g, h1, h2, h3⟩ => ⟨g, h1, Lib.hid h2.out.1, h3⟩)
    go_enter Tryz.func99, Tryz.ntmps99
    go_upto_region 1 with (fail)
    change Code.wp _ _ _ _ (w.alloc (Obj.cells (words zero4) 35))
    rw [← hW]
    clear hW
    go_wp2_with fail
    refine (HP.out _).mono ?_
    rintro e w1 ⟨rfl, rfl⟩
    go_wp2_with fail
    refine (HC.out _).mono ?_
    rintro e w2 ⟨c, n, x, rfl, hc, hn, rfl⟩
    by_cases hx0 : x = 0
    rotate_left
    · have hxb : (x == 0) = false := beq_eq_false_iff_ne.2 hx0
      have HX0 := Lib.hid hx0; clear hx0
      go_wp2_with fail
      obtain ⟨e0, e1, e2, e3⟩ := zput_reads Q.out
      exact bodyPost_ret (v := .tuple #[.agg (words zero4), .int .i64 ((0 : Nat) : Int), .int .i64 x]) (by simp [results, Tryz.results99, go_sem, e0, e1, e2, e3, words, zero4]) rfl ⟨zero4, 0, x, rfl, Lib.hid ⟨fits_zero, fun h => absurd h HX0.out⟩, below_put4 HB.out (by omega) zero4⟩
    subst hx0
    obtain ⟨hn1, hn2⟩ := hn.out rfl
    have hn3 : (n : Int) ≤ s.size := by omega
    have HG := Lib.hid (fun w => goesOn_any (s.extract n s.size) w)
    have hes : Hid ((s.extract n s.size).size = s.size - n) := Lib.hid (by rw [ByteArray.size_extract]; omega)
    clear hn
    go_wp2_with fail
    refine (HG.out _).mono ?_
    rintro e w3 ⟨b, rfl, hb, rfl⟩
    cases b with
    | false =>
      have HA := Lib.hid (HAdd.out w3 c c hc hc)
      have hcc : decide ((c : Int) < c) = false := decide_eq_false (by omega)
      clear hb hes HG HC HC2 HAdd
      go_wp2_with fail
      refine HA.out.mono ?_
      rintro e w4 ⟨g, rfl, hg, b4⟩
      have Q4 := Lib.hid (Q.out.after b4)
      have B4 := Lib.hid (Below.step HB.out b4)
      clear b4 z0 z1 z2 z3 y0 y1 y2 y3
      have z0 := Q4.out.z 0 (by omega); have z1 := Q4.out.z 1 (by omega); have z2 := Q4.out.z 2 (by omega); have z3 := Q4.out.z 3 (by omega)
      have y0 := Q4.out.c 0 (by omega); have y1 := Q4.out.c 1 (by omega); have y2 := Q4.out.c 2 (by omega); have y3 := Q4.out.c 3 (by omega)
      simp only [words]
      go_wp2_with fail
      obtain ⟨e0, e1, e2, e3⟩ := put4_reads Q4.out g
      unfold put4 at e0 e1 e2 e3
      exact bodyPost_ret (v := .tuple #[.agg (words g), .int .i64 (n : Int), .int .i64 0]) (by simp [results, Tryz.results99, go_sem, e0, e1, e2, e3, words]) rfl ⟨g, n, 0, rfl, Lib.hid ⟨hg.out, fun _ => ⟨by omega, by omega⟩⟩, below_put4 B4.out (by omega) g⟩
    | true =>
      have hn4 : n < s.size := by have h1 := hb.out rfl; rw [hes.out] at h1; omega
      have HC3 := Lib.hid (HC2.out n hn4)
      have e1' : ((n + 1 : Nat) : Int) = (n : Int) + 1 := by omega
      rw [e1'] at HC3
      clear hb hes HG HC HC2 e1'
      go_wp2_with fail
      refine (HC3.out _).mono ?_
      rintro e w5 ⟨d, m, y, rfl, hd, hm, rfl⟩
      by_cases hy0 : y = 0
      rotate_left
      · have hyb : (y == 0) = false := beq_eq_false_iff_ne.2 hy0
        have HY0 := Lib.hid hy0; clear hy0
        go_wp2_with fail
        obtain ⟨e0, e1, e2, e3⟩ := zput_reads Q.out
        exact bodyPost_ret (v := .tuple #[.agg (words zero4), .int .i64 ((0 : Nat) : Int), .int .i64 y]) (by simp [results, Tryz.results99, go_sem, e0, e1, e2, e3, words, zero4]) rfl ⟨zero4, 0, y, rfl, Lib.hid ⟨fits_zero, fun h => absurd h HY0.out⟩, below_put4 HB.out (by omega) zero4⟩
      subst hy0
      obtain ⟨hm1, hm2⟩ := hm.out rfl
      clear hm HC3
      by_cases hcd : d < c
      · have hcc : decide ((d : Int) < c) = true := decide_eq_true (by omega)
        go_wp2_with fail
        obtain ⟨e0, e1, e2, e3⟩ := zput_reads Q.out
        exact bodyPost_ret (v := .tuple #[.agg (words zero4), .int .i64 ((0 : Nat) : Int), .int .i64 4]) (by simp [results, Tryz.results99, go_sem, e0, e1, e2, e3, words, zero4]) rfl ⟨zero4, 0, 4, rfl, Lib.hid ⟨fits_zero, fun h => absurd h (by decide)⟩, below_put4 HB.out (by omega) zero4⟩
      · have hcc : decide ((d : Int) < c) = false := decide_eq_false (by omega)
        have HA := Lib.hid (HAdd.out w5 c d hc hd)
        have hcd2 : c ≤ d := by omega
        clear HAdd
        go_wp2_with fail
        refine HA.out.mono ?_
        rintro e w4 ⟨g, rfl, hg, b4⟩
        have Q4 := Lib.hid (Q.out.after b4)
        have B4 := Lib.hid (Below.step HB.out b4)
        clear b4 z0 z1 z2 z3 y0 y1 y2 y3
        have z0 := Q4.out.z 0 (by omega); have z1 := Q4.out.z 1 (by omega); have z2 := Q4.out.z 2 (by omega); have z3 := Q4.out.z 3 (by omega)
        have y0 := Q4.out.c 0 (by omega); have y1 := Q4.out.c 1 (by omega); have y2 := Q4.out.c 2 (by omega); have y3 := Q4.out.c 3 (by omega)
        simp only [words]
        go_wp2_with fail
        obtain ⟨e0, e1, e2, e3⟩ := put4_reads Q4.out g
        unfold put4 at e0 e1 e2 e3
        exact bodyPost_ret (v := .tuple #[.agg (words g), .int .i64 (m : Int), .int .i64 0]) (by simp [results, Tryz.results99, go_sem, e0, e1, e2, e3, words]) rfl ⟨g, m, 0, rfl, Lib.hid ⟨hg.out, fun _ => ⟨by omega, by omega⟩⟩, below_put4 B4.out (by omega) g⟩

set_option maxRecDepth 100000 in
set_option maxHeartbeats 2000000 in
theorem members_any (s : ByteArray) (k : Nat) (h : k ≤ s.size) (hs : s.size ≤ 400) (w : World) (hx : MX w) :
    Calls Tryz.prog 97 #[.string s, .int .i64 k] w (SetOut s k w) := by
  have HX := Lib.hid hx; clear hx
  have HM := Lib.hid (fun k h w hx => member_any s k h hs w hx)
  go_enter Tryz.func97, Tryz.ntmps97
  go_wp2_with fail
  obtain ⟨W, hW, Q0, Q1, HB⟩ := boxed2 w zero4 zero4 35 35
  change Code.wp _ _ _ _ ((w.alloc (Obj.cells (words zero4) 35)).alloc (Obj.cells (words zero4) 35))
  rw [← hW]
  clear hW
  go_loopw [1] (fun x wr => ∃ (pos : Nat) (g : Nat → Nat), x = .int .i64 pos ∧ pos ≤ s.size ∧ k ≤ pos ∧ Hid (Fits g) ∧ Hid (Quad wr w.heap.size zero4) ∧ Hid (Quad wr (w.heap.size + 1) g) ∧ Hid (Below w.heap.size w wr)) (fun x _ => s.size - (intOf x).toNat)
  case atStart => exact ⟨k, zero4, rfl, h, Nat.le_refl _, Lib.hid fits_zero, Q0, Q1, HB⟩
  case round =>
    obtain ⟨pos, g, rfl, hpos, hkp, hF, q0, q1, hB⟩ := hrel
    have HC := Lib.hid (HM.out pos hpos wr (HX.out.after hB.out))
    go_wp2_with fail
    refine HC.out.mono ?_
    rintro e w1 ⟨gp, n, x, rfl, hf, b1⟩
    have B1 := Lib.hid b1; clear b1 HC
    simp only [words]
    go_upto_region 3 with (fail)
    obtain ⟨W2, hW2, QP, HB2⟩ := quad_box w1 gp 35
    change Code.wp _ _ _ _ (w1.alloc (Obj.cells (words gp) 35))
    rw [← hW2]
    clear hW2
    have q0' := Lib.hid ((q0.out.after B1.out).after HB2.out)
    have q1' := Lib.hid ((q1.out.after B1.out).after HB2.out)
    have hB' := Lib.hid (Below.step (Below.step hB.out B1.out) HB2.out)
    clear q0 q1 hB B1 HB2
    by_cases hx0 : x = 0
    rotate_left
    · have hxb : (x == 0) = false := beq_eq_false_iff_ne.2 hx0
      have HX0 := Lib.hid hx0; clear hx0
      have z0 := q0'.out.z 0 (by omega); have z1 := q0'.out.z 1 (by omega); have z2 := q0'.out.z 2 (by omega); have z3 := q0'.out.z 3 (by omega)
      have y0 := q0'.out.c 0 (by omega); have y1 := q0'.out.c 1 (by omega); have y2 := q0'.out.c 2 (by omega); have y3 := q0'.out.c 3 (by omega)
      go_wp2_with fail
      obtain ⟨e0, e1, e2, e3⟩ := zput_reads q0'.out
      exact bodyPost_ret (v := .tuple #[.agg (words zero4), .int .i64 ((0 : Nat) : Int), .int .i64 x]) (by simp [results, Tryz.results97, go_sem, e0, e1, e2, e3, words, zero4]) rfl ⟨zero4, 0, x, rfl, Lib.hid ⟨fits_zero, fun h => absurd h HX0.out⟩, below_put4 hB'.out (by omega) zero4⟩
    subst hx0
    obtain ⟨hn1, hn2⟩ := hf.out.2 rfl
    have hfp := Lib.hid hf.out.1
    clear hf
    have HU := Lib.hid (fun w => union_spec g gp hF.out hfp.out w)
    have c0 := q1'.out.c 0 (by omega); have c1 := q1'.out.c 1 (by omega); have c2 := q1'.out.c 2 (by omega); have c3 := q1'.out.c 3 (by omega)
    have d0 := QP.out.c 0 (by omega); have d1 := QP.out.c 1 (by omega); have d2 := QP.out.c 2 (by omega); have d3 := QP.out.c 3 (by omega)
    go_wp2_with fail
    refine (HU.out _).mono ?_
    rintro e w3 ⟨rfl, b3⟩
    clear c0 c1 c2 c3 d0 d1 d2 d3
    have q0 := Lib.hid (q0'.out.after b3)
    have q1 := Lib.hid (q1'.out.after b3)
    have hB := Lib.hid (Below.step hB'.out b3)
    clear q0' q1' hB' b3
    have hfit := Lib.hid (fits_or hF.out hfp.out)
    have z0 := q1.out.z 0 (by omega); have z1 := q1.out.z 1 (by omega); have z2 := q1.out.z 2 (by omega); have z3 := q1.out.z 3 (by omega)
    have y0 := q1.out.c 0 (by omega); have y1 := q1.out.c 1 (by omega); have y2 := q1.out.c 2 (by omega); have y3 := q1.out.c 3 (by omega)
    simp only [words]
    go_upto_region 6 with (fail)
    clear y0 y1 y2 y3 z0 z1 z2 z3
    obtain ⟨W4, hW4, r0, r1, rB⟩ : ∃ W4, W4 = put4 w3 (w.heap.size + 1) (orW g gp) ∧ Hid (Quad W4 w.heap.size zero4) ∧ Hid (Quad W4 (w.heap.size + 1) (orW g gp)) ∧ Hid (Below w.heap.size w W4) :=
      ⟨_, rfl, Lib.hid (q0.out.put4_other (by omega) _), Lib.hid (q1.out.put4 _), Lib.hid (below_put4 hB.out (by omega) _)⟩
    change Code.wp _ _ _ _ (put4 w3 (w.heap.size + 1) (orW g gp))
    rw [← hW4]
    clear hW4 q0 q1 hB
    have hn3 : (n : Int) ≤ s.size := by omega
    obtain ⟨b, hb⟩ : ∃ b, b = Lib.hasPrefix (s.extract n s.size).data.toList [93] := ⟨_, rfl⟩
    have HP := Lib.hid (fun w => hp_spec (s.extract n s.size) ⟨#[93]⟩ b hb.symm w)
    have HBn : Hid (b = true → n + 1 ≤ s.size) := Lib.hid (fun e => prefix_len hn2 (hb.symm.trans e))
    clear hb
    go_wp2_with fail
    refine (HP.out _).mono ?_
    rintro e w5 ⟨rfl, rfl⟩
    cases b with
    | true =>
      have hn4 := HBn.out rfl
      have c0 := r1.out.c 0 (by omega); have c1 := r1.out.c 1 (by omega); have c2 := r1.out.c 2 (by omega); have c3 := r1.out.c 3 (by omega)
      have z0 := r0.out.z 0 (by omega); have z1 := r0.out.z 1 (by omega); have z2 := r0.out.z 2 (by omega); have z3 := r0.out.z 3 (by omega)
      have y0 := r0.out.c 0 (by omega); have y1 := r0.out.c 1 (by omega); have y2 := r0.out.c 2 (by omega); have y3 := r0.out.c 3 (by omega)
      go_wp2_with fail
      obtain ⟨e0, e1, e2, e3⟩ := put4_reads r0.out (orW g gp)
      unfold put4 at e0 e1 e2 e3
      exact bodyPost_ret (v := .tuple #[.agg (words (orW g gp)), .int .i64 ((n + 1 : Nat) : Int), .int .i64 0]) (by simp [results, Tryz.results97, go_sem, e0, e1, e2, e3, words]) rfl ⟨orW g gp, n + 1, 0, rfl, Lib.hid ⟨hfit.out, fun _ => ⟨by omega, hn4⟩⟩, below_put4 rB.out (by omega) _⟩
    | false =>
      go_wp2_with fail
      go_roundw
      case rel => exact ⟨n, orW g gp, rfl, hn2, by omega, hfit, r0, r1, rB⟩
      case measure => simp [intOf]; omega

set_option maxRecDepth 100000 in
set_option maxHeartbeats 2000000 in
theorem classParse_any (s : ByteArray) (k : Nat) (h : k < s.size) (hb : s[k].toNat = 91) (hs : s.size ≤ 400) (w : World) (hx : MX w) :
    Calls Tryz.prog 88 #[.string s, .int .i64 k] w (SetOut s k w) := by
  obtain ⟨W, hW, Q, HB⟩ := quad_box w zero4 35
  have HX := Lib.hid (hx.after HB.out)
  obtain ⟨b, hpb⟩ : ∃ b, b = Lib.hasPrefix (s.extract (k + 1) s.size).data.toList [94] := ⟨_, rfl⟩
  have HP := Lib.hid (fun w => hp_spec (s.extract (k + 1) s.size) ⟨#[94]⟩ b hpb.symm w)
  have HBn : Hid (b = true → k + 2 ≤ s.size) := Lib.hid (fun e => by have := prefix_len (k := k + 1) (by omega) (hpb.symm.trans e); simpa using this)
  have HM := Lib.hid (fun k h w hx => members_any s k h hs w hx)
  have hk1 : (k : Int) + 1 ≤ s.size := by omega
  clear hx hpb
  go_enter Tryz.func88, Tryz.ntmps88
  go_upto_region 1 with (fail)
  change Code.wp _ _ _ _ (w.alloc (Obj.cells (words zero4) 35))
  rw [← hW]
  clear hW
  go_wp2_with fail
  refine (HP.out _).mono ?_
  rintro e w1 ⟨rfl, rfl⟩
  cases b with
  | false =>
    have HC := Lib.hid (HM.out (k + 1) (by omega) w1 HX.out)
    have e1' : ((k + 1 : Nat) : Int) = (k : Int) + 1 := by omega
    rw [e1'] at HC
    clear e1' HM HBn
    go_wp2_with fail
    refine HC.out.mono ?_
    rintro e w2 ⟨g, n, x, rfl, hf, b2⟩
    have q := Lib.hid (Q.out.after b2)
    have hB := Lib.hid (Below.step HB.out b2)
    clear b2
    simp only [words]
    go_upto_region 8 with (fail)
    obtain ⟨W2, hW2, QP, HB2⟩ := quad_box w2 g 35
    change Code.wp _ _ _ _ (w2.alloc (Obj.cells (words g) 35))
    rw [← hW2]
    clear hW2
    have q2 := Lib.hid (q.out.after HB2.out)
    have hB2 := Lib.hid (Below.step hB.out HB2.out)
    have z0 := q2.out.z 0 (by omega); have z1 := q2.out.z 1 (by omega); have z2 := q2.out.z 2 (by omega); have z3 := q2.out.z 3 (by omega)
    have y0 := q2.out.c 0 (by omega); have y1 := q2.out.c 1 (by omega); have y2 := q2.out.c 2 (by omega); have y3 := q2.out.c 3 (by omega)
    by_cases hx0 : x = 0
    rotate_left
    · have hxb : (x == 0) = false := beq_eq_false_iff_ne.2 hx0
      have HX0 := Lib.hid hx0; clear hx0
      go_wp2_with fail
      obtain ⟨e0, e1, e2, e3⟩ := zput_reads q2.out
      exact bodyPost_ret (v := .tuple #[.agg (words zero4), .int .i64 ((0 : Nat) : Int), .int .i64 x]) (by simp [results, Tryz.results88, go_sem, e0, e1, e2, e3, words, zero4]) rfl ⟨zero4, 0, x, rfl, Lib.hid ⟨fits_zero, fun h => absurd h HX0.out⟩, below_put4 hB2.out (by omega) zero4⟩
    subst hx0
    have hn := Lib.hid (hf.out.2 rfl)
    have d0 := QP.out.c 0 (by omega); have d1 := QP.out.c 1 (by omega); have d2 := QP.out.c 2 (by omega); have d3 := QP.out.c 3 (by omega)
    go_wp2_with fail
    obtain ⟨e0, e1, e2, e3⟩ := put4_reads q2.out g
    unfold put4 at e0 e1 e2 e3
    exact bodyPost_ret (v := .tuple #[.agg (words g), .int .i64 (n : Int), .int .i64 0]) (by simp [results, Tryz.results88, go_sem, e0, e1, e2, e3, words]) rfl ⟨g, n, 0, rfl, Lib.hid ⟨hf.out.1, fun _ => by have := hn.out; omega⟩, below_put4 hB2.out (by omega) g⟩
  | true =>
    have hk2 := HBn.out rfl
    have HC := Lib.hid (HM.out (k + 2) hk2 w1 HX.out)
    have e1' : ((k + 2 : Nat) : Int) = (k : Int) + 1 + 1 := by omega
    rw [e1'] at HC
    clear e1' HM HBn
    go_wp2_with fail
    refine HC.out.mono ?_
    rintro e w2 ⟨g, n, x, rfl, hf, b2⟩
    have q := Lib.hid (Q.out.after b2)
    have hB := Lib.hid (Below.step HB.out b2)
    clear b2
    simp only [words]
    go_upto_region 8 with (fail)
    obtain ⟨W2, hW2, QP, HB2⟩ := quad_box w2 g 35
    change Code.wp _ _ _ _ (w2.alloc (Obj.cells (words g) 35))
    rw [← hW2]
    clear hW2
    have q2 := Lib.hid (q.out.after HB2.out)
    have hB2 := Lib.hid (Below.step hB.out HB2.out)
    by_cases hx0 : x = 0
    rotate_left
    · have hxb : (x == 0) = false := beq_eq_false_iff_ne.2 hx0
      have HX0 := Lib.hid hx0; clear hx0
      have z0 := q2.out.z 0 (by omega); have z1 := q2.out.z 1 (by omega); have z2 := q2.out.z 2 (by omega); have z3 := q2.out.z 3 (by omega)
      have y0 := q2.out.c 0 (by omega); have y1 := q2.out.c 1 (by omega); have y2 := q2.out.c 2 (by omega); have y3 := q2.out.c 3 (by omega)
      go_wp2_with fail
      obtain ⟨e0, e1, e2, e3⟩ := zput_reads q2.out
      exact bodyPost_ret (v := .tuple #[.agg (words zero4), .int .i64 ((0 : Nat) : Int), .int .i64 x]) (by simp [results, Tryz.results88, go_sem, e0, e1, e2, e3, words, zero4]) rfl ⟨zero4, 0, x, rfl, Lib.hid ⟨fits_zero, fun h => absurd h HX0.out⟩, below_put4 hB2.out (by omega) zero4⟩
    subst hx0
    have hn := Lib.hid (hf.out.2 rfl)
    have HN := Lib.hid (fun w => not_spec g hf.out.1 w)
    have c0 := QP.out.c 0 (by omega); have c1 := QP.out.c 1 (by omega); have c2 := QP.out.c 2 (by omega); have c3 := QP.out.c 3 (by omega)
    go_wp2_with fail
    refine (HN.out _).mono ?_
    rintro e w3 ⟨rfl, b3⟩
    clear c0 c1 c2 c3
    have Q4 := Lib.hid (q2.out.after b3)
    have QP4 := Lib.hid (QP.out.after b3)
    have hB4 := Lib.hid (Below.step hB2.out b3)
    have hne := HB2.out.size
    have hlt : w.heap.size < w2.heap.size := q.out.lt
    clear b3
    have z0 := QP4.out.z 0 (by omega); have z1 := QP4.out.z 1 (by omega); have z2 := QP4.out.z 2 (by omega); have z3 := QP4.out.z 3 (by omega)
    have y0 := QP4.out.c 0 (by omega); have y1 := QP4.out.c 1 (by omega); have y2 := QP4.out.c 2 (by omega); have y3 := QP4.out.c 3 (by omega)
    simp only [words]
    go_upto_region 12 with (fail)
    clear y0 y1 y2 y3 z0 z1 z2 z3
    obtain ⟨W5, hW5, r0, r1, rB⟩ : ∃ W5, W5 = put4 w3 w2.heap.size (notW g) ∧ Hid (Quad W5 w.heap.size zero4) ∧ Hid (Quad W5 w2.heap.size (notW g)) ∧ Hid (Below w.heap.size w W5) :=
      ⟨_, rfl, Lib.hid (Q4.out.put4_other (by omega) _), Lib.hid (QP4.out.put4 _), Lib.hid (below_put4 hB4.out (by omega) _)⟩
    change Code.wp _ _ _ _ (put4 w3 w2.heap.size (notW g))
    rw [← hW5]
    clear hW5 Q4 QP4 hB4
    have c0 := r1.out.c 0 (by omega); have c1 := r1.out.c 1 (by omega); have c2 := r1.out.c 2 (by omega); have c3 := r1.out.c 3 (by omega)
    have z0 := r0.out.z 0 (by omega); have z1 := r0.out.z 1 (by omega); have z2 := r0.out.z 2 (by omega); have z3 := r0.out.z 3 (by omega)
    have y0 := r0.out.c 0 (by omega); have y1 := r0.out.c 1 (by omega); have y2 := r0.out.c 2 (by omega); have y3 := r0.out.c 3 (by omega)
    go_wp2_with fail
    obtain ⟨e0, e1, e2, e3⟩ := put4_reads r0.out (notW g)
    unfold put4 at e0 e1 e2 e3
    exact bodyPost_ret (v := .tuple #[.agg (words (notW g)), .int .i64 (n : Int), .int .i64 0]) (by simp [results, Tryz.results88, go_sem, e0, e1, e2, e3, words]) rfl ⟨notW g, n, 0, rfl, Lib.hid ⟨fits_not g, fun _ => by have := hn.out; omega⟩, below_put4 rB.out (by omega) _⟩
end Go.Proofs.YtimipfdknfdbdaaGreat
