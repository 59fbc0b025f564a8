/- Merged by program: PAtom. -/
import Derived.Test.YtcojnkjcbopnbaaGreatDoorQjbe
import Derived.Test.YtcojnkjcbopnbaaGreatDoorQjbf
import Derived.Test.YtcojnkjcbopnbaaGreatDoorQjaz
/- aukletref05.All, P.atom at any text: walks. -/
namespace Go.Proofs.YtcojnkjcbopnbaaGreatDoor
open Go.RowKit

@[irreducible] def ones4 : Nat → Nat := fun _ => 18446744073709551615
theorem ones4_cast (k : Nat) : ((ones4 k : Nat) : Int) = 18446744073709551615 := by unfold ones4; rfl
theorem fits_ones : Fits ones4 := fun k _ => by
  have h := ones4_cast k
  omega

set_option maxRecDepth 100000 in
set_option maxHeartbeats 1000000 in
theorem all_any5 (w : World) :
    Calls Tryz.prog 136 #[] w fun e w' => ∃ f : Nat → Nat, e = .returned (.agg (words f)) ∧ Hid (Fits f) ∧ Below w.heap.size w w' := by
  obtain ⟨W, hW, Q, HB⟩ := quad_box w zero4 65
  have HF := Lib.hid fits_ones
  obtain ⟨E0, E1, E2, E3⟩ := put4_reads Q.out ones4
  have BP := Lib.hid (below_put4 HB.out (Nat.le_refl _) ones4)
  have hw4 : words ones4 = #[.int .u64 18446744073709551615, .int .u64 18446744073709551615, .int .u64 18446744073709551615, .int .u64 18446744073709551615] := by unfold words; rw [ones4_cast, ones4_cast, ones4_cast, ones4_cast]
  unfold put4 at E0 E1 E2 E3 BP
  simp only [ones4_cast] at E0 E1 E2 E3 BP
  have E := Lib.hid (And.intro E0 (And.intro E1 (And.intro E2 E3)))
  clear E0 E1 E2 E3
  go_enter Tryz.func136, Tryz.ntmps136
  go_upto_region 1 with (fail)
  change Code.wp _ _ _ _ (w.alloc (Obj.cells (words zero4) 65))
  rw [← hW]
  clear hW
  have z0 := Q.out.z 0 (by omega); have z1 := Q.out.z 1 (by omega); have z2 := Q.out.z 2 (by omega); have z3 := Q.out.z 3 (by omega)
  have y0 := Q.out.c 0 (by omega); have y1 := Q.out.c 1 (by omega); have y2 := Q.out.c 2 (by omega); have y3 := Q.out.c 3 (by omega)
  go_wp2_with fail
  obtain ⟨e0, e1, e2, e3⟩ := E.out
  exact bodyPost_ret (v := .agg #[.int .u64 18446744073709551615, .int .u64 18446744073709551615, .int .u64 18446744073709551615, .int .u64 18446744073709551615]) (by simp [results, Tryz.results136, go_sem, e0, e1, e2, e3]) rfl ⟨ones4, by rw [hw4], HF, BP.out⟩

/-- What reading a part tells: a tree, where it came to, what was wrong first. -/
def POut (m x deep : Nat) (p : Nat) (s : ByteArray) (k : Nat) (w : World) (en : Ending) (w' : World) : Prop :=
  ∃ t cs k' b' e', en = .returned (.agg cs) ∧ At w' (Up w.heap.size) t cs ∧ Hid (Fine (-1) t ∧ t.kids.length ≤ vP s k' e' - k + x ∧ k + m ≤ vP s k' e' ∧ PosOk s k' e' deep) ∧ PM w' p s k' b' e' ∧ But p w w'
def PatsP (deep : Nat) : Prop := ∀ (p : Nat) (s : ByteArray) (k : Nat) (b : Int) (w : World), k ≤ s.size → s.size ≤ 400 → PM w p s k b 0 → Calls Tryz.prog 71 #[.pointer (some ⟨p, 0, none⟩), .int .i64 deep] w (POut 0 1 deep p s k w)
def AtomsP (deep : Nat) : Prop := ∀ (p : Nat) (s : ByteArray) (k : Nat) (b : Int) (w : World), k < s.size → s.size ≤ 400 → PM w p s k b 0 → Calls Tryz.prog 121 #[.pointer (some ⟨p, 0, none⟩), .int .i64 deep] w (POut 1 0 deep p s k w)
theorem POut.leaf {m x deep p : Nat} {s : ByteArray} {k k' : Nat} {b' e' : Int} {w V : World} (kind : Int) (f : Nat → Nat) (hF : Fine (-1) (.mk kind f 0 0 [])) (hm : PM V p s k' b' e') (hb : But p w V) (hp : p < w.heap.size) (hge : k + m ≤ vP s k' e') (hpos : PosOk s k' e' deep) (ds : Array Value) :
    POut m x deep p s k w (.returned (.agg (reC kind f 0 0 (.slice none 0 0)))) (V.setRow w.heap.size ds) :=
  ⟨.mk kind f 0 0 [], _, k', b', e', rfl, .leaf _ _ _ _ _ _, Lib.hid ⟨hF, Nat.zero_le _, hge, hpos⟩, hm.setRow (by omega) _, hb.setRow (Nat.le_refl _) _⟩
theorem vP_ok (s : ByteArray) (k : Nat) : vP s k 0 = k := by unfold vP; rw [if_pos rfl]
theorem vP_bad (s : ByteArray) (k : Nat) {e : Int} (h : e ≠ 0) : vP s k e = s.size + 30 := by unfold vP; rw [if_neg h]
theorem vP_le {s : ByteArray} {k : Nat} {e : Int} {d : Nat} (h : PosOk s k e d) : vP s k e ≤ s.size + 30 := by
  unfold vP
  split
  · rename_i h0; have := h.ok h0; omega
  · omega

set_option maxRecDepth 100000 in
set_option maxHeartbeats 4000000 in
theorem patomP (deep : Nat) (hdeep : deep ≤ 20) (hP : deep < 20 → PatsP (deep + 1)) : AtomsP deep := by
  intro p s k b w hk hs hm
  have HP := Lib.hid hP
  have HI := info_re
  have hlt := hm.lt
  obtain ⟨W, hW, hX, hB, hsz⟩ := re_box w zeroR
  have R0 := Lib.hid (hm.after hB.out)
  have B0 := Lib.hid (But.of (p := p) hB.out)
  obtain ⟨c, hc⟩ : ∃ c, c = s[k].toNat := ⟨_, rfl⟩
  have hc256 : c < 256 := by rw [hc]; exact s[k].toNat_lt
  have ec : chP s k 0 = (c : Int) := by unfold chP atB; rw [if_pos rfl, dif_pos hk, hc]
  have H91 := Lib.hid (fun (h : c = 91) => hc.symm.trans h)
  have HC0 := Lib.hid (fun V h => pc_drew p s k b 0 V h)
  rw [ec] at HC0
  have HC := Lib.hid (fun k b e V h => pc_any p s k b e V h)
  clear hm hP hc ec
  have c1 := R0.out.c1
  go_enter Tryz.func121, Tryz.ntmps121
  go_upto_region 1 with (fail)
  change Code.wp _ _ _ _ (w.alloc (Obj.cells zeroR 68))
  rw [← hW]
  clear hW
  go_wp2_with fail
  go_quiet ((go_at_call 103; exact Calls.quiet_of (HC0.out _ (R0.out.after (drewN_below _ _)))))
  clear c1 HC0
  obtain ⟨D, hD, bD⟩ : ∃ D, D = W.drewN _ ∧ Below W.heap.size W D := ⟨_, rfl, drewN_below W _⟩
  rw [← hD]
  clear hD
  have R := Lib.hid (R0.out.after bD)
  have X := Lib.hid (hX.out.after bD)
  have B := Lib.hid (B0.out.then bD)
  clear R0 hX hB B0 hsz bD
  have hwD := X.out.lt
  go_upto_region 2 with (fail)
  go_cut [31] (fun y wx => ∃ bq, y = .bool bq ∧ wx = D)
  case first =>
    by_cases h1 : c = 42
    · subst h1
      go_wp2_with fail
      go_meet
      exact ⟨_, rfl, rfl⟩
    have n1 : ((c : Int) == 42) = false := beq_eq_false_iff_ne.2 (by omega)
    by_cases h2 : c = 43
    · subst h2
      go_wp2_with fail
      go_meet
      exact ⟨_, rfl, rfl⟩
    have n2 : ((c : Int) == 43) = false := beq_eq_false_iff_ne.2 (by omega)
    by_cases h3 : c = 63
    · subst h3
      go_wp2_with fail
      go_meet
      exact ⟨_, rfl, rfl⟩
    have n3 : ((c : Int) == 63) = false := beq_eq_false_iff_ne.2 (by omega)
    have H1 := Lib.hid h1; have H2 := Lib.hid h2; have H3 := Lib.hid h3
    clear h1 h2 h3
    go_wp2_with fail
    go_meet
    exact ⟨_, rfl, rfl⟩
  case rest =>
  obtain ⟨bq, rfl, hwx⟩ := hcut
  rw [hwx]
  clear hwx
  cases bq with
  | true =>
    have HB := Lib.hid (pbad_any p s k b 0 k 50 _ R.out (by decide))
    go_wp2_with fail
    refine HB.out.mono ?_
    rintro e w4 ⟨b4, e4, rfl, he4, pm4, bu4⟩
    have X := Lib.hid (X.out.but bu4 (by omega))
    have B := Lib.hid (B.out.trans bu4)
    have PM4 := Lib.hid pm4
    clear HB bu4 pm4
    go_wp2_with (refine wpList_store_row rfl 68 (.tmp 4) (.tmp 35) rfl w.heap.size zeroR rfl rfl 68 zeroR X.out.row HI rfl (re_one _ _ _ _ _ _ _) ?_)
    refine bodyPost_ret (v := .agg zeroR) (results_cell_row (by rfl) _ _ w.heap.size 68 _ (0, 0) _ (by rfl) (X.out.setRow _).row Tryz.underlying68 (by rfl) HI) rfl ?_
    exact POut.leaf 0 zero4 fine_empty PM4.out B.out hlt (by rw [vP_bad _ _ he4.out]; omega) ⟨fun h => absurd h he4.out, fun _ => by omega⟩ _
  | false =>
  by_cases h1 : c = 41
  · subst h1
    have HB := Lib.hid (pbad_any p s k b 0 k 4 _ R.out (by decide))
    go_wp2_with fail
    refine HB.out.mono ?_
    rintro e w4 ⟨b4, e4, rfl, he4, pm4, bu4⟩
    have X := Lib.hid (X.out.but bu4 (by omega))
    have B := Lib.hid (B.out.trans bu4)
    have PM4 := Lib.hid pm4
    clear HB bu4 pm4
    go_wp2_with (refine wpList_store_row rfl 68 (.tmp 4) (.tmp 41) rfl w.heap.size zeroR rfl rfl 68 zeroR X.out.row HI rfl (re_one _ _ _ _ _ _ _) ?_)
    refine bodyPost_ret (v := .agg zeroR) (results_cell_row (by rfl) _ _ w.heap.size 68 _ (0, 0) _ (by rfl) (X.out.setRow _).row Tryz.underlying68 (by rfl) HI) rfl ?_
    exact POut.leaf 0 zero4 fine_empty PM4.out B.out hlt (by rw [vP_bad _ _ he4.out]; omega) ⟨fun h => absurd h he4.out, fun _ => by omega⟩ _
  have n1 : ((c : Int) == 41) = false := beq_eq_false_iff_ne.2 (by omega)
  have H1 := Lib.hid h1; clear h1
  by_cases h1 : c = 91
  · have HR := Lib.hid (rclass_any s k hk (H91.out h1) hs D)
    subst h1
    clear n1 H91
    have c0 := R.out.c0
    go_wp2_with fail
    refine HR.out.mono ?_
    rintro e w1 ⟨f, n, x, rfl, hf, b1⟩
    clear c0 HR
    have R1 := Lib.hid (R.out.after b1)
    have X1 := Lib.hid (X.out.after b1)
    have B1 := Lib.hid (B.out.then b1)
    clear b1
    simp only [words]
    go_upto_region 10 with (fail)
    obtain ⟨V, hV, QV, BV⟩ := quad_box w1 f 65
    change Code.wp _ _ _ _ (w1.alloc (Obj.cells (words f) 65))
    rw [← hV]
    clear hV
    have hw1 := X1.out.lt
    have R2 := Lib.hid (R1.out.after BV.out)
    have X2 := Lib.hid (X1.out.after BV.out)
    have B2 := Lib.hid (B1.out.then BV.out)
    clear R1 X1 B1 BV R X B
    by_cases hx0 : x = 0
    · subst hx0
      obtain ⟨f1, f2, f3⟩ := hf.out
      have f4 := f3 rfl
      have C1 := R2.out.c1; have Z1 := R2.out.z 1
      go_upto_region 13 with (fail)
      have R := Lib.hid (R2.out.put1 n)
      have X : Hid (Box (V.setCell ⟨p, 1, none⟩ (.int .i64 (n : Int))) w.heap.size zeroR) := Lib.hid (X2.out.but (but_put _ _ _ _) (by omega))
      have B := Lib.hid (B2.out.put 1 (.int .i64 (n : Int)))
      have Q3 : Hid (Quad (V.setCell ⟨p, 1, none⟩ (.int .i64 (n : Int))) w1.heap.size f) := Lib.hid (QV.out.other (by omega) _)
      clear C1 Z1
      have y0 := Q3.out.c 0 (by omega); have y1 := Q3.out.c 1 (by omega); have y2 := Q3.out.c 2 (by omega); have y3 := Q3.out.c 3 (by omega)
      go_wp2_with (refine wpList_store_row rfl 68 (.tmp 4) (.tmp 65) rfl w.heap.size (reC 1 f 0 0 (.slice none 0 0)) rfl rfl 68 zeroR X.out.row HI rfl (re_one _ _ _ _ _ _ _) ?_)
      refine bodyPost_ret (v := .agg (reC 1 f 0 0 (.slice none 0 0))) (results_cell_row (by rfl) _ _ w.heap.size 68 _ (0, 0) _ (by rfl) (X.out.setRow _).row Tryz.underlying68 (by rfl) HI) rfl ?_
      exact POut.leaf 1 f (fine_leaf 1 f (Or.inl rfl) f1) R.out B.out hlt (by rw [vP_ok]; omega) ⟨fun _ => f2, fun h => absurd rfl h⟩ _
    · have hxb : (x != 0) = true := by simpa using hx0
      obtain ⟨f1, f2, _⟩ := hf.out
      have HB := Lib.hid (pbad_any p s k b 0 k x V R2.out hx0)
      have HX0 := Lib.hid hx0; clear hx0
      go_wp2_with fail
      refine HB.out.mono ?_
      rintro e w4 ⟨b4, e4, rfl, he4, pm4, bu4⟩
      have R3 := Lib.hid pm4
      have X3 := Lib.hid (X2.out.but bu4 (by omega))
      have B3 := Lib.hid (B2.out.trans bu4)
      have hpw : p ≠ w1.heap.size := by omega
      have Q2 : Hid (Quad w4 w1.heap.size f) := Lib.hid ⟨fun j hj => by rw [World.cell?_of_block (a := ⟨w1.heap.size, j, none⟩) (bu4.block w1.heap.size QV.out.lt (Ne.symm hpw))]; exact QV.out.c j hj, fun j hj => by rw [show w4.frozen? ⟨w1.heap.size, j, none⟩ = V.frozen? ⟨w1.heap.size, j, none⟩ from by simp only [World.frozen?, bu4.block w1.heap.size QV.out.lt (Ne.symm hpw)]]; exact QV.out.z j hj⟩
      clear HB bu4 pm4
      have C1 := R3.out.c1; have Z1 := R3.out.z 1
      go_upto_region 13 with (fail)
      have R := Lib.hid (R3.out.put1 n)
      have X : Hid (Box (w4.setCell ⟨p, 1, none⟩ (.int .i64 (n : Int))) w.heap.size zeroR) := Lib.hid (X3.out.but (but_put _ _ _ _) (by omega))
      have B := Lib.hid (B3.out.put 1 (.int .i64 (n : Int)))
      have Q3 : Hid (Quad (w4.setCell ⟨p, 1, none⟩ (.int .i64 (n : Int))) w1.heap.size f) := Lib.hid (Q2.out.other (by omega) _)
      clear C1 Z1
      have y0 := Q3.out.c 0 (by omega); have y1 := Q3.out.c 1 (by omega); have y2 := Q3.out.c 2 (by omega); have y3 := Q3.out.c 3 (by omega)
      go_wp2_with (refine wpList_store_row rfl 68 (.tmp 4) (.tmp 65) rfl w.heap.size (reC 1 f 0 0 (.slice none 0 0)) rfl rfl 68 zeroR X.out.row HI rfl (re_one _ _ _ _ _ _ _) ?_)
      refine bodyPost_ret (v := .agg (reC 1 f 0 0 (.slice none 0 0))) (results_cell_row (by rfl) _ _ w.heap.size 68 _ (0, 0) _ (by rfl) (X.out.setRow _).row Tryz.underlying68 (by rfl) HI) rfl ?_
      exact POut.leaf 1 f (fine_leaf 1 f (Or.inl rfl) f1) R.out B.out hlt (by rw [vP_bad _ _ he4.out]; omega) ⟨fun h => absurd h he4.out, fun _ => by omega⟩ _
  have n2 : ((c : Int) == 91) = false := beq_eq_false_iff_ne.2 (by omega)
  have H2 := Lib.hid h1; clear h1 H91
  have C1 := R.out.c1; have Z1 := R.out.z 1
  go_upto_region 15 with (fail)
  rw [show ((k : Int) + 1) = ((k + 1 : Nat) : Int) from by omega]
  obtain ⟨V, hV, R2, X2, B2⟩ : ∃ V, V = D.setCell ⟨p, 1, none⟩ (.int .i64 ((k + 1 : Nat) : Int)) ∧ Hid (PM V p s (k + 1) b 0) ∧ Hid (Box V w.heap.size zeroR) ∧ Hid (But p w V) :=
    ⟨_, rfl, Lib.hid (R.out.put1 _), Lib.hid (X.out.but (but_put _ _ _ _) (by omega)), Lib.hid (B.out.put _ _)⟩
  rw [← hV]
  have hDV : D.heap.size = V.heap.size := by rw [hV]; simp
  clear hV C1 Z1 R X B
  have R := R2; have X := X2; have B := B2
  clear R2 X2 B2
  by_cases h1 : c = 40
  · subst h1
    clear n1 n2
    by_cases hd20 : 20 ≤ deep
    · have hdd : decide ((20 : Int) ≤ deep) = true := decide_eq_true (by omega)
      have HB := Lib.hid (pbad_any p s (k + 1) b 0 k 2 _ R.out (by decide))
      go_wp2_with fail
      refine HB.out.mono ?_
      rintro e w4 ⟨b4, e4, rfl, he4, pm4, bu4⟩
      have X := Lib.hid (X.out.but bu4 (by omega))
      have B := Lib.hid (B.out.trans bu4)
      have PM4 := Lib.hid pm4
      clear HB bu4 pm4
      go_wp2_with (refine wpList_store_row rfl 68 (.tmp 4) (.tmp 80) rfl w.heap.size zeroR rfl rfl 68 zeroR X.out.row HI rfl (re_one _ _ _ _ _ _ _) ?_)
      refine bodyPost_ret (v := .agg zeroR) (results_cell_row (by rfl) _ _ w.heap.size 68 _ (0, 0) _ (by rfl) (X.out.setRow _).row Tryz.underlying68 (by rfl) HI) rfl ?_
      exact POut.leaf 0 zero4 fine_empty PM4.out B.out hlt (by rw [vP_bad _ _ he4.out]; omega) ⟨fun h => absurd h he4.out, fun _ => by omega⟩ _
    · have hdd : decide ((20 : Int) ≤ deep) = false := decide_eq_false (by omega)
      have HQ := Lib.hid (HP.out (by omega) p s (k + 1) b V hk hs R.out)
      have ed : ((deep + 1 : Nat) : Int) = (deep : Int) + 1 := by omega
      rw [ed] at HQ
      clear ed
      go_wp2_with fail
      refine HQ.out.mono ?_
      rintro e w1 ⟨t, cs, k3, b3, e3, rfl, hat, hf, pm3, bu3⟩
      have X1 := Lib.hid (X.out.but bu3 (by omega))
      have B1 := Lib.hid (B.out.trans bu3)
      have R1 := Lib.hid pm3
      have T1 := Lib.hid hat
      obtain ⟨f1, f2, f3, f4⟩ := hf.out
      have f5 := vP_le f4
      have hVw := bu3.size
      obtain ⟨a1, c1, ecs, _⟩ := hat.opens
      subst ecs
      clear hat pm3 bu3 HQ hf X B R
      simp only [reC]
      go_upto_region 20 with (fail)
      obtain ⟨U, hU, hY, hBU, hszU⟩ := re_box w1 (reC t.k t.f t.lo t.hi (.slice a1 t.kids.length c1))
      change Code.wp _ _ _ _ (w1.alloc (Obj.cells (reC t.k t.f t.lo t.hi (.slice a1 t.kids.length c1)) 68))
      rw [← hU]
      clear hU
      have X2 := Lib.hid (X1.out.after hBU.out)
      have B2 := Lib.hid (B1.out.then hBU.out)
      have R2 := Lib.hid (R1.out.after hBU.out)
      have T2 : Hid (At U (fun j => V.heap.size ≤ j ∧ j ≠ w1.heap.size) t (reC t.k t.f t.lo t.hi (.slice a1 t.kids.length c1))) := Lib.hid ((T1.out.inWorld.after hBU.out).weakS fun j hj => ⟨hj.1, by have := hj.2; omega⟩)
      clear X1 B1 R1 T1
      have HC3 := Lib.hid (HC.out k3 b3 e3 _ R2.out)
      have hin := Lib.hid (fun h => chP_in (s := s) (k := k3) (e := e3) h)
      obtain ⟨x, hx⟩ : ∃ x, x = chP s k3 e3 := ⟨_, rfl⟩
      rw [← hx] at HC3 hin
      clear hx HC
      go_wp2_with fail
      refine HC3.out.mono ?_
      rintro e w2 ⟨rfl, b2⟩
      have X3 := Lib.hid (X2.out.after b2)
      have Y3 := Lib.hid (hY.out.after b2)
      have B3 := Lib.hid (B2.out.then b2)
      have R3 := Lib.hid (R2.out.after b2)
      have T3 := Lib.hid (T2.out.after b2)
      have hw1U := hY.out.lt
      clear X2 B2 R2 T2 b2 HC3 hY hBU
      have hk1 : vP s (k + 1) 0 = k + 1 := vP_ok _ _
      by_cases h41 : x = 41
      · obtain ⟨he3, hk3, _⟩ := hin.out (by omega)
        subst he3
        have hv3 : vP s k3 0 = k3 := vP_ok _ _
        have C1 := R3.out.c1; have Z1 := R3.out.z 1
        subst h41
        go_upto_region 23 with (fail)
        rw [show ((k3 : Int) + 1) = ((k3 + 1 : Nat) : Int) from by omega]
        obtain ⟨U2, hU2, R4, X4, Y4, B4, T4⟩ : ∃ U2, U2 = w2.setCell ⟨p, 1, none⟩ (.int .i64 ((k3 + 1 : Nat) : Int)) ∧ Hid (PM U2 p s (k3 + 1) b3 0) ∧ Hid (Box U2 w.heap.size zeroR) ∧ Hid (Box U2 w1.heap.size (reC t.k t.f t.lo t.hi (.slice a1 t.kids.length c1))) ∧ Hid (But p w U2) ∧ Hid (At U2 (fun j => V.heap.size ≤ j ∧ j ≠ w1.heap.size) t (reC t.k t.f t.lo t.hi (.slice a1 t.kids.length c1))) :=
          ⟨_, rfl, Lib.hid (R3.out.put1 _), Lib.hid (X3.out.but (but_put _ _ _ _) (by omega)), Lib.hid (Y3.out.but (but_put _ _ _ _) (by omega)), Lib.hid (B3.out.put _ _), Lib.hid (T3.out.butS (but_put _ _ _ _) (fun h => by have := h.1; omega))⟩
        rw [← hU2]
        clear hU2 C1 Z1 X3 Y3 B3 R3 T3
        obtain ⟨d0, d1, d2, d3, d4, d5, d6, d7⟩ := eight_re Y4.out.eight
        go_wp2_with (refine wpList_store_row rfl 68 (.tmp 4) (.tmp 101) rfl w.heap.size (reC t.k t.f t.lo t.hi (.slice a1 t.kids.length c1)) rfl rfl 68 zeroR X4.out.row HI rfl (re_one _ _ _ _ _ _ _) ?_)
        refine bodyPost_ret (v := .agg (reC t.k t.f t.lo t.hi (.slice a1 t.kids.length c1))) (results_cell_row (by rfl) _ _ w.heap.size 68 _ (0, 0) _ (by rfl) (X4.out.setRow _).row Tryz.underlying68 (by rfl) HI) rfl ?_
        exact ⟨t, _, k3 + 1, b3, 0, rfl, (T4.out.setRowS (fun h => by have := h.1; omega) _).weakS (fun j hj => by have := hj.1; unfold Up; omega), Lib.hid ⟨f1, by rw [vP_ok]; omega, by rw [vP_ok]; omega, ⟨fun _ => hk3, fun h => absurd rfl h⟩⟩, R4.out.setRow (by omega) _, B4.out.setRow (Nat.le_refl _) _⟩
      · have hxb : (x != 41) = true := by simpa using h41
        have H41 := Lib.hid h41; clear h41 hin
        have hk3 : k3 + 1 + deep ≤ s.size + 21 := by
          by_cases h0 : e3 = 0
          · have := f4.ok h0; omega
          · have := f4.bad h0; omega
        have C1 := R3.out.c1
        have HB := Lib.hid (pbad_any p s k3 b3 e3 k3 3 _ R3.out (by decide))
        go_wp2_with fail
        refine HB.out.mono ?_
        rintro e w4 ⟨b4, e4, rfl, he4, pm4, bu4⟩
        have X4 := Lib.hid (X3.out.but bu4 (by omega))
        have Y4 := Lib.hid (Y3.out.but bu4 (by omega))
        have B4 := Lib.hid (B3.out.trans bu4)
        have T4 := Lib.hid (T3.out.butS bu4 (fun h => by have := h.1; omega))
        have R4 := Lib.hid pm4
        clear HB bu4 pm4 X3 Y3 B3 T3 R3 C1
        have C1 := R4.out.c1; have Z1 := R4.out.z 1
        go_upto_region 23 with (fail)
        rw [show ((k3 : Int) + 1) = ((k3 + 1 : Nat) : Int) from by omega]
        obtain ⟨U2, hU2, R5, X5, Y5, B5, T5⟩ : ∃ U2, U2 = w4.setCell ⟨p, 1, none⟩ (.int .i64 ((k3 + 1 : Nat) : Int)) ∧ Hid (PM U2 p s (k3 + 1) b4 e4) ∧ Hid (Box U2 w.heap.size zeroR) ∧ Hid (Box U2 w1.heap.size (reC t.k t.f t.lo t.hi (.slice a1 t.kids.length c1))) ∧ Hid (But p w U2) ∧ Hid (At U2 (fun j => V.heap.size ≤ j ∧ j ≠ w1.heap.size) t (reC t.k t.f t.lo t.hi (.slice a1 t.kids.length c1))) :=
          ⟨_, rfl, Lib.hid (R4.out.put1 _), Lib.hid (X4.out.but (but_put _ _ _ _) (by omega)), Lib.hid (Y4.out.but (but_put _ _ _ _) (by omega)), Lib.hid (B4.out.put _ _), Lib.hid (T4.out.butS (but_put _ _ _ _) (fun h => by have := h.1; omega))⟩
        rw [← hU2]
        clear hU2 C1 Z1 X4 Y4 B4 R4 T4
        obtain ⟨d0, d1, d2, d3, d4, d5, d6, d7⟩ := eight_re Y5.out.eight
        go_wp2_with (refine wpList_store_row rfl 68 (.tmp 4) (.tmp 101) rfl w.heap.size (reC t.k t.f t.lo t.hi (.slice a1 t.kids.length c1)) rfl rfl 68 zeroR X5.out.row HI rfl (re_one _ _ _ _ _ _ _) ?_)
        refine bodyPost_ret (v := .agg (reC t.k t.f t.lo t.hi (.slice a1 t.kids.length c1))) (results_cell_row (by rfl) _ _ w.heap.size 68 _ (0, 0) _ (by rfl) (X5.out.setRow _).row Tryz.underlying68 (by rfl) HI) rfl ?_
        exact ⟨t, _, k3 + 1, b4, e4, rfl, (T5.out.setRowS (fun h => by have := h.1; omega) _).weakS (fun j hj => by have := hj.1; unfold Up; omega), Lib.hid ⟨f1, by rw [vP_bad _ _ he4.out]; omega, by rw [vP_bad _ _ he4.out]; omega, ⟨fun h => absurd h he4.out, fun _ => by omega⟩⟩, R5.out.setRow (by omega) _, B5.out.setRow (Nat.le_refl _) _⟩
  have n3 : ((c : Int) == 40) = false := beq_eq_false_iff_ne.2 (by omega)
  have H3 := Lib.hid h1; clear h1 HP
  by_cases h1 : c = 92
  · subst h1
    clear n1 n2 n3
    have HC3 := Lib.hid (HC.out (k + 1) b 0 _ R.out)
    have hin := Lib.hid (fun h => chP_in (s := s) (k := k + 1) (e := 0) h)
    have hx256 := chP_lt s (k + 1) 0
    obtain ⟨x, hx⟩ : ∃ x, x = chP s (k + 1) 0 := ⟨_, rfl⟩
    rw [← hx] at HC3 hin hx256
    clear hx HC
    go_wp2_with fail
    refine HC3.out.mono ?_
    rintro e w2 ⟨rfl, b5⟩
    clear HC3
    have R := Lib.hid (R.out.after b5)
    have X := Lib.hid (X.out.after b5)
    have B := Lib.hid (B.out.then b5)
    clear b5
    by_cases hx0 : x < 0
    · have hdd : decide (x < 0) = true := decide_eq_true hx0
      have C1 := R.out.c1
      have HB := Lib.hid (pbad_any p s (k + 1) b 0 ((k + 1 : Nat) : Int) 3 _ R.out (by decide))
      go_wp2_with fail
      refine HB.out.mono ?_
      rintro e w4 ⟨b4, e4, rfl, he4, pm4, bu4⟩
      have X := Lib.hid (X.out.but bu4 (by omega))
      have B := Lib.hid (B.out.trans bu4)
      have PM4 := Lib.hid pm4
      clear HB bu4 pm4 C1
      go_wp2_with (refine wpList_store_row rfl 68 (.tmp 4) (.tmp 114) rfl w.heap.size zeroR rfl rfl 68 zeroR X.out.row HI rfl (re_one _ _ _ _ _ _ _) ?_)
      refine bodyPost_ret (v := .agg zeroR) (results_cell_row (by rfl) _ _ w.heap.size 68 _ (0, 0) _ (by rfl) (X.out.setRow _).row Tryz.underlying68 (by rfl) HI) rfl ?_
      exact POut.leaf 0 zero4 fine_empty PM4.out B.out hlt (by rw [vP_bad _ _ he4.out]; omega) ⟨fun h => absurd h he4.out, fun _ => by omega⟩ _
    have hdd : decide (x < 0) = false := decide_eq_false hx0
    obtain ⟨x, rfl⟩ := Int.eq_ofNat_of_zero_le (show 0 ≤ x by omega)
    have hk2 : k + 1 < s.size := by
      obtain ⟨_, h3, _⟩ := hin.out (by omega)
      exact h3
    clear hin hdd
    obtain ⟨k1, hk1⟩ : ∃ k1, k1 = k + 1 := ⟨_, rfl⟩
    rw [← hk1] at R hk2
    have HK1 := Lib.hid hk1; clear hk1 hx0
    have hx9 : decide ((x : Int) < 0) = false := decide_eq_false (by omega)
    have C1 := R.out.c1; have Z1 := R.out.z 1
    go_upto_region 30 with (fail)
    rw [show ((k1 : Int) + 1) = ((k1 + 1 : Nat) : Int) from by omega]
    obtain ⟨V2, hV2, R2, X2, B2⟩ : ∃ V2, V2 = w2.setCell ⟨p, 1, none⟩ (.int .i64 ((k1 + 1 : Nat) : Int)) ∧ Hid (PM V2 p s (k1 + 1) b 0) ∧ Hid (Box V2 w.heap.size zeroR) ∧ Hid (But p w V2) :=
      ⟨_, rfl, Lib.hid (R.out.put1 _), Lib.hid (X.out.but (but_put _ _ _ _) (by omega)), Lib.hid (B.out.put _ _)⟩
    rw [← hV2]
    clear hV2 C1 Z1 R X B
    have R := R2; have X := X2; have B := B2
    clear R2 X2 B2
    by_cases h110 : x = 110
    · subst h110
      have HO := Lib.hid (fun w => one_any 10 (by omega) w)
      go_wp2_with fail
      refine (HO.out _).mono ?_
      rintro e w5 ⟨f, rfl, hf, b5⟩
      have R := Lib.hid (R.out.after b5)
      have X := Lib.hid (X.out.after b5)
      have B := Lib.hid (B.out.then b5)
      clear b5
      simp only [reC]
      go_wp2_with (refine wpList_store_row rfl 68 (.tmp 4) (.tmp 127) rfl w.heap.size (reC 1 f 0 0 (.slice none 0 0)) rfl rfl 68 zeroR X.out.row HI rfl (re_one _ _ _ _ _ _ _) ?_)
      refine bodyPost_ret (v := .agg (reC 1 f 0 0 (.slice none 0 0))) (results_cell_row (by rfl) _ _ w.heap.size 68 _ (0, 0) _ (by rfl) (X.out.setRow _).row Tryz.underlying68 (by rfl) HI) rfl ?_
      exact POut.leaf 1 f (fine_leaf 1 f (Or.inl rfl) hf.out) R.out B.out hlt (by rw [vP_ok]; have := HK1.out; omega) ⟨fun _ => by omega, fun h => absurd rfl h⟩ _
    have m1 : ((x : Int) == 110) = false := beq_eq_false_iff_ne.2 (by omega)
    have H110 := Lib.hid h110; clear h110
    by_cases h116 : x = 116
    · subst h116
      have HO := Lib.hid (fun w => one_any 9 (by omega) w)
      go_wp2_with fail
      refine (HO.out _).mono ?_
      rintro e w5 ⟨f, rfl, hf, b5⟩
      have R := Lib.hid (R.out.after b5)
      have X := Lib.hid (X.out.after b5)
      have B := Lib.hid (B.out.then b5)
      clear b5
      simp only [reC]
      go_wp2_with (refine wpList_store_row rfl 68 (.tmp 4) (.tmp 127) rfl w.heap.size (reC 1 f 0 0 (.slice none 0 0)) rfl rfl 68 zeroR X.out.row HI rfl (re_one _ _ _ _ _ _ _) ?_)
      refine bodyPost_ret (v := .agg (reC 1 f 0 0 (.slice none 0 0))) (results_cell_row (by rfl) _ _ w.heap.size 68 _ (0, 0) _ (by rfl) (X.out.setRow _).row Tryz.underlying68 (by rfl) HI) rfl ?_
      exact POut.leaf 1 f (fine_leaf 1 f (Or.inl rfl) hf.out) R.out B.out hlt (by rw [vP_ok]; have := HK1.out; omega) ⟨fun _ => by omega, fun h => absurd rfl h⟩ _
    have m2 : ((x : Int) == 116) = false := beq_eq_false_iff_ne.2 (by omega)
    have H116 := Lib.hid h116; clear h116
    have HO := Lib.hid (fun w => one_any x (by omega) w)
    go_wp2_with fail
    refine (HO.out _).mono ?_
    rintro e w5 ⟨f, rfl, hf, b5⟩
    have R := Lib.hid (R.out.after b5)
    have X := Lib.hid (X.out.after b5)
    have B := Lib.hid (B.out.then b5)
    clear b5
    simp only [reC]
    go_wp2_with (refine wpList_store_row rfl 68 (.tmp 4) (.tmp 127) rfl w.heap.size (reC 1 f 0 0 (.slice none 0 0)) rfl rfl 68 zeroR X.out.row HI rfl (re_one _ _ _ _ _ _ _) ?_)
    refine bodyPost_ret (v := .agg (reC 1 f 0 0 (.slice none 0 0))) (results_cell_row (by rfl) _ _ w.heap.size 68 _ (0, 0) _ (by rfl) (X.out.setRow _).row Tryz.underlying68 (by rfl) HI) rfl ?_
    exact POut.leaf 1 f (fine_leaf 1 f (Or.inl rfl) hf.out) R.out B.out hlt (by rw [vP_ok]; have := HK1.out; omega) ⟨fun _ => by omega, fun h => absurd rfl h⟩ _
  have n4 : ((c : Int) == 92) = false := beq_eq_false_iff_ne.2 (by omega)
  have H4 := Lib.hid h1; clear h1 HC
  by_cases h1 : c = 46
  · subst h1
    clear n1 n2 n3 n4
    have HO := Lib.hid (fun w => all_any5 w)
    go_wp2_with fail
    refine (HO.out _).mono ?_
    rintro e w5 ⟨f, rfl, hf, b5⟩
    have R := Lib.hid (R.out.after b5)
    have X := Lib.hid (X.out.after b5)
    have B := Lib.hid (B.out.then b5)
    clear b5
    simp only [words]
    go_wp2_with (refine wpList_store_row rfl 68 (.tmp 4) (.tmp 131) rfl w.heap.size (reC 1 f 0 0 (.slice none 0 0)) rfl rfl 68 zeroR X.out.row HI rfl (re_one _ _ _ _ _ _ _) ?_)
    refine bodyPost_ret (v := .agg (reC 1 f 0 0 (.slice none 0 0))) (results_cell_row (by rfl) _ _ w.heap.size 68 _ (0, 0) _ (by rfl) (X.out.setRow _).row Tryz.underlying68 (by rfl) HI) rfl ?_
    exact POut.leaf 1 f (fine_leaf 1 f (Or.inl rfl) hf.out) R.out B.out hlt (by rw [vP_ok]; omega) ⟨fun _ => by omega, fun h => absurd rfl h⟩ _
  have n5 : ((c : Int) == 46) = false := beq_eq_false_iff_ne.2 (by omega)
  have H5 := Lib.hid h1; clear h1
  by_cases h1 : c = 94
  · subst h1
    clear n1 n2 n3 n4 n5
    go_wp2_with (refine wpList_store_row rfl 68 (.tmp 4) (.tmp 134) rfl w.heap.size (reC 2 zero4 0 0 (.slice none 0 0)) rfl rfl 68 zeroR X.out.row HI rfl (re_one _ _ _ _ _ _ _) ?_)
    refine bodyPost_ret (v := .agg (reC 2 zero4 0 0 (.slice none 0 0))) (results_cell_row (by rfl) _ _ w.heap.size 68 _ (0, 0) _ (by rfl) (X.out.setRow _).row Tryz.underlying68 (by rfl) HI) rfl ?_
    exact POut.leaf 2 zero4 (fine_leaf 2 zero4 (Or.inr ⟨Or.inl rfl, fun _ _ => rfl⟩) fits_zero) R.out B.out hlt (by rw [vP_ok]; omega) ⟨fun _ => by omega, fun h => absurd rfl h⟩ _
  have n6 : ((c : Int) == 94) = false := beq_eq_false_iff_ne.2 (by omega)
  have H6 := Lib.hid h1; clear h1
  by_cases h1 : c = 36
  · subst h1
    clear n1 n2 n3 n4 n5 n6
    go_wp2_with (refine wpList_store_row rfl 68 (.tmp 4) (.tmp 137) rfl w.heap.size (reC 3 zero4 0 0 (.slice none 0 0)) rfl rfl 68 zeroR X.out.row HI rfl (re_one _ _ _ _ _ _ _) ?_)
    refine bodyPost_ret (v := .agg (reC 3 zero4 0 0 (.slice none 0 0))) (results_cell_row (by rfl) _ _ w.heap.size 68 _ (0, 0) _ (by rfl) (X.out.setRow _).row Tryz.underlying68 (by rfl) HI) rfl ?_
    exact POut.leaf 3 zero4 (fine_leaf 3 zero4 (Or.inr ⟨Or.inr rfl, fun _ _ => rfl⟩) fits_zero) R.out B.out hlt (by rw [vP_ok]; omega) ⟨fun _ => by omega, fun h => absurd rfl h⟩ _
  have n7 : ((c : Int) == 36) = false := beq_eq_false_iff_ne.2 (by omega)
  have H7 := Lib.hid h1; clear h1
  have HO := Lib.hid (fun w => one_any c (by omega) w)
  go_wp2_with fail
  refine (HO.out _).mono ?_
  rintro e w5 ⟨f, rfl, hf, b5⟩
  have R := Lib.hid (R.out.after b5)
  have X := Lib.hid (X.out.after b5)
  have B := Lib.hid (B.out.then b5)
  clear b5
  simp only [reC]
  go_wp2_with (refine wpList_store_row rfl 68 (.tmp 4) (.tmp 139) rfl w.heap.size (reC 1 f 0 0 (.slice none 0 0)) rfl rfl 68 zeroR X.out.row HI rfl (re_one _ _ _ _ _ _ _) ?_)
  refine bodyPost_ret (v := .agg (reC 1 f 0 0 (.slice none 0 0))) (results_cell_row (by rfl) _ _ w.heap.size 68 _ (0, 0) _ (by rfl) (X.out.setRow _).row Tryz.underlying68 (by rfl) HI) rfl ?_
  exact POut.leaf 1 f (fine_leaf 1 f (Or.inl rfl) hf.out) R.out B.out hlt (by rw [vP_ok]; omega) ⟨fun _ => by omega, fun h => absurd rfl h⟩ _
end Go.Proofs.YtcojnkjcbopnbaaGreatDoor
