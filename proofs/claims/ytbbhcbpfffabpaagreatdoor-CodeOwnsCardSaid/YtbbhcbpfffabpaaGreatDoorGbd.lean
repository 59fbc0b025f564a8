/- Merged by program: RFixed. -/
import Derived.Deep.QuietTactic
import Derived.BigQuiet
import Derived.Test.YtbbhcbpfffabpaaGreatDoorGba
import Derived.Test.YtbbhcbpfffabpaaGreatDoorGau
import Derived.Test.YtbbhcbpfffabpaaGreatDoorGaw
import Derived.Test.YtbbhcbpfffabpaaGreatDoorGad
import Derived.Test.YtbbhcbpfffabpaaGreatDoorGbb
import Derived.Test.YtbbhcbpfffabpaaGreatDoorGbc
/- The document's Fixed: a walk. -/
namespace Go.Proofs.YtbbhcbpfffabpaaGreatDoor
open Go.RowKit

/-- The block XB holds a number of digits. -/
def XRow (w : World) (XB : Nat) (m : Bool) (p : Option Addr) (n c : Nat) : Prop := w.heap[XB]? = some (.cells #[.bool m, .slice p n c] 62 (0, 0))
theorem XRow.lt {w : World} {XB : Nat} {m : Bool} {p : Option Addr} {n c : Nat} (h : XRow w XB m p n c) : XB < w.heap.size := (Array.getElem?_eq_some_iff.1 h).1
theorem XRow.below {w w' : World} {XB : Nat} {m : Bool} {p : Option Addr} {n c : Nat} (h : XRow w XB m p n c) (hb : Below w.heap.size w w') : XRow w' XB m p n c := by
  unfold XRow
  rw [hb.block _ h.lt]; exact h
theorem XRow.c0 {w : World} {XB : Nat} {m : Bool} {p : Option Addr} {n c : Nat} (h : XRow w XB m p n c) : w.cell? ⟨XB, 0, none⟩ = some (.bool m) := cell_of_row _ _ 0 _ _ _ h
theorem XRow.c1 {w : World} {XB : Nat} {m : Bool} {p : Option Addr} {n c : Nat} (h : XRow w XB m p n c) : w.cell? ⟨XB, 1, none⟩ = some (.slice p n c) := cell_of_row _ _ 1 _ _ _ h
theorem rd_setRow {w : World} {XB : Nat} {m : Bool} {p q : Option Addr} {n c n' c' : Nat} {l : List Nat} (h : T1.Rd w p n c l) (hx : XRow w XB m q n' c') (cs : Array Value) : T1.Rd (w.setRow XB cs) p n c l := by
  refine ⟨h.len, h.cap, h.size, h.digs, h.nil, ?_⟩
  rcases h.cells with h0 | ⟨b, off, hp, hb, hc⟩
  · exact Or.inl h0
  · by_cases hl : l = []
    · exact Or.inl hl
    · refine Or.inr ⟨b, off, hp, by rw [size_setRow]; exact hb, fun i hi => ?_⟩
      have hne : b ≠ XB := by
        rintro rfl
        have h1 := hc 0 (List.length_pos_iff.2 hl)
        rw [Nat.add_zero] at h1
        have h2 : w.cell? ⟨b, off, none⟩ = (#[Value.bool m, Value.slice q n' c'] : Array Value)[off]? := by
          rw [World.cell?]
          unfold XRow at hx
          simp [hx]
        rw [h2] at h1
        match off with
        | 0 => simp at h1
        | 1 => simp at h1
        | k + 2 => simp at h1
      rw [cell_setRow_other _ _ _ _ hne]
      exact hc i hi
theorem one_N (m : Bool) (p : Option Addr) (n c : Nat) : (#[Value.bool m, Value.slice p n c] : Array Value).all (·.oneCell') = true := by
  rw [← Array.all_toList]; rfl
theorem bdig_low {d : Nat} (h : d < 10) : bdig false d = (48 + d).toUInt8 := by unfold bdig; rw [if_pos h]
theorem info_N : (Tryz.prog.info? 62).map (·.size) = some 2 := by kernel_rfl
theorem val_of {m : Bool} {l : List Nat} {X : Nat} (h : T1.sv m l = (X : Int)) : T1.val l = X := by
  unfold T1.sv at h
  split at h <;> omega

/-- What Fixed tells. -/
def FixOut (n dg : Int) (w : World) (e : Ending) (w' : World) : Prop :=
  ∃ s : ByteArray, e = .returned (.string s) ∧ Hid (s.data.toList = fixedS n dg) ∧ Below w.heap.size w w'

set_option maxRecDepth 100000 in
set_option maxHeartbeats 2000000 in
theorem refFixed_any (n : Int) (hn : -9223372036854775808 ≤ n ∧ n ≤ 9223372036854775807) (dg : Int) (w : World) :
    Calls Tryz.prog 85 #[.int .i64 n, .int .i64 dg] w (FixOut n dg w) := by
  obtain ⟨M, hM⟩ : ∃ M : Nat, M = clampN dg := ⟨_, rfl⟩
  have hM200 : M ≤ 200 := by rw [hM]; unfold clampN; split; omega; split <;> omega
  obtain ⟨D1, hD1⟩ : ∃ D1 : Int, D1 = if dg < 0 then 0 else dg := ⟨_, rfl⟩
  have hMD : (if 200 < D1 then 200 else D1) = (M : Int) := by
    rw [hM, hD1]; unfold clampN; split <;> split <;> (try split) <;> omega
  have HM := Lib.hid hM
  have HD1 := Lib.hid hD1
  have HMD := Lib.hid hMD
  obtain ⟨KP, hKP⟩ : ∃ KP, KP = keepN M := ⟨_, rfl⟩
  have hK6 : KP ≤ 6 ∧ KP ≤ M := by rw [hKP]; unfold keepN; omega
  have HKP : Hid (KP = min M 6) := Lib.hid (by rw [hKP]; rfl)
  obtain ⟨U, hU⟩ : ∃ U, U = unitN M := ⟨_, rfl⟩
  have hU1 := unitN_le M
  rw [← hU] at hU1
  have HU : Hid (U = 10 ^ (6 - KP)) := Lib.hid (by rw [hU, hKP]; rfl)
  obtain ⟨a, ha⟩ : ∃ a, a = n.natAbs := ⟨_, rfl⟩
  have ha64 : a ≤ 9223372036854775808 := by omega
  obtain ⟨X, hX⟩ : ∃ X, X = roundN a M := ⟨_, rfl⟩
  have HQ : Hid (((a : Int) * 2 + (U : Int)).tdiv (2 * (U : Int)) = (X : Int)) := Lib.hid (by rw [hU, hX]; exact round_quot a M)
  have HEnd : Hid (∀ (l : List Nat) (k i : Nat), k = l.length → T1.Dl l → T1.val l = X → (k = 0 ∨ l.getD (k - 1) 0 ≠ 0) → k ≤ i → KP < i → (i = k ∨ i = KP + 1) → growT KP X i ++ List.replicate (M - KP) 48 = fixedT a M) := Lib.hid (fun l k i h1 h2 h3 h4 h5 h6 h7 => by
    rw [hKP, hX]
    rw [hX] at h3
    rw [hKP] at h6 h7
    exact grow_done h1 h2 ha64 h3 h4 h5 h6 h7)
  have HR : Hid (fixedS n dg = (if n < 0 then [45] else []) ++ fixedT a M) := Lib.hid (by unfold fixedS; rw [← ha, ← hM])
  have HA := Lib.hid ha
  clear hM hD1 hMD hKP hU ha hX
  go_enter Tryz.func85, Tryz.ntmps85
  go_upto_if 13 with (fail)
  go_cut [1] (fun v wx => v = .int .i64 D1 ∧ wx = w)
  case first =>
    by_cases h : dg < 0
    · have d0 : decide (dg < 0) = true := decide_eq_true h
      have e1 : Hid (D1 = 0) := Lib.hid (by rw [HD1.out, if_pos h])
      go_wp2_with fail
      go_meet
      exact ⟨by rw [e1.out], rfl⟩
    · have d0 : decide (dg < 0) = false := decide_eq_false h
      have e1 : Hid (D1 = dg) := Lib.hid (by rw [HD1.out, if_neg h])
      go_wp2_with fail
      go_meet
      exact ⟨by rw [e1.out], rfl⟩
  case rest =>
  obtain ⟨rfl, hw1⟩ := hcut
  have hw2 := hw1.symm
  subst hw2
  go_step
  go_upto_if 15 with (fail)
  go_cut [1] (fun v wx => v = .int .i64 M ∧ wx = w)
  case first =>
    by_cases h : 200 < D1
    · have d0 : decide (200 < D1) = true := decide_eq_true h
      have e1 : Hid ((M : Int) = 200) := Lib.hid (by rw [← HMD.out, if_pos h])
      go_wp2_with fail
      go_meet
      exact ⟨by rw [e1.out], rfl⟩
    · have d0 : decide (200 < D1) = false := decide_eq_false h
      have e1 : Hid ((M : Int) = D1) := Lib.hid (by rw [← HMD.out, if_neg h])
      go_wp2_with fail
      go_meet
      exact ⟨by rw [e1.out], rfl⟩
  case rest =>
  obtain ⟨rfl, hw1⟩ := hcut
  have hw2 := hw1.symm
  subst hw2
  go_step
  clear HMD HD1 D1
  have HO := Lib.hid (fun (z : Int) (hz : T1.Fits z) (W : World) => T1.of_any z W hz)
  go_wp2_with fail
  refine (HO.out n hn _).mono ?_
  rintro e w1 ⟨p, k, c, rfl, hrd, b1⟩
  have B1 := Lib.hid b1
  have R1 := Lib.hid hrd
  clear b1 hrd
  go_upto_region 7 with (fail)
  obtain ⟨XB, hXB⟩ : ∃ XB, XB = w1.heap.size := ⟨_, rfl⟩
  have hXBw : w.heap.size ≤ XB := by rw [hXB]; exact B1.out.size
  obtain ⟨w2, hw2⟩ : ∃ w2, w2 = w1.alloc (.cells #[.bool false, .slice p k c] 62) := ⟨_, rfl⟩
  have X2 : Hid (XRow w2 XB false p k c) := Lib.hid (by rw [hw2, hXB]; exact heap_alloc_last _ _)
  have R2 : Hid (T1.Rd w2 p k c (T1.dg 20 a)) := Lib.hid (by rw [hw2, HA.out]; exact R1.out.below (below_new _ _))
  have B2 : Hid (Below w.heap.size w w2) := Lib.hid (by rw [hw2]; exact Below.step B1.out (below_new _ _))
  have hk20 : k ≤ 20 := by have := R1.out.len; have := T1.dg_len 20 n.natAbs; omega
  rw [← hXB, ← hw2]
  clear hw2 hXB R1 B1
  clear w1
  go_wp2_with fail
  go_loopw [6, 7] (fun x y wr => ∃ (u i : Nat), x = .int .i64 u ∧ y = .int .i64 i ∧ M ≤ i ∧ i ≤ 200 ∧ u ≤ 1000000 ∧ Hid (u * 10 ^ (6 - i) = U) ∧ wr = w2) (fun _ y _ => 6 - (intOf y).toNat)
  case atStart => exact ⟨1, M, rfl, rfl, Nat.le_refl _, hM200, by omega, Lib.hid (by rw [HU.out, HKP.out, Nat.one_mul]; congr 1; omega), rfl⟩
  case round =>
  obtain ⟨u, i, rfl, rfl, hMi, hi200, hu, HUi, hwr⟩ := hrel
  subst hwr
  by_cases h6 : i < 6
  · have d6 : decide ((i : Int) < 6) = true := decide_eq_true (by omega)
    have hx : u * 10 * 10 ^ (6 - (i + 1)) = U := by
      rw [← HUi.out, show 6 - i = (6 - (i + 1)) + 1 from by omega, Nat.pow_succ', Nat.mul_assoc]
    have hu2 : u * 10 ≤ 1000000 := by
      have h1 : 1 ≤ 10 ^ (6 - (i + 1)) := Nat.pow_pos (by omega)
      have h2 : u * 10 * 1 ≤ u * 10 * 10 ^ (6 - (i + 1)) := Nat.mul_le_mul_left _ h1
      omega
    have HX := Lib.hid hx
    clear hx HUi
    go_wp2_with fail
    go_roundw
    case rel => exact ⟨u * 10, i + 1, by go_num, by go_num, by omega, by omega, hu2, HX, trivial⟩
    case measure => simp [intOf]; omega
  have d6 : decide ((i : Int) < 6) = false := decide_eq_false (by omega)
  have huU : u = U := by
    have h := HUi.out
    rw [show 6 - i = 0 from by omega, Nat.pow_zero, Nat.mul_one] at h
    exact h
  clear HUi
  subst huU
  go_upto_region 12 with (fail)
  go_cut [35] (fun _ wx => ∃ m q k3 c3 l, k3 ≤ 1000 ∧ Hid (XRow wx XB m q k3 c3 ∧ T1.Rd wx q k3 c3 l ∧ T1.val l = X ∧ (k3 = 0 ∨ l.getD (k3 - 1) 0 ≠ 0) ∧ Below w.heap.size w wx))
  case first =>
    have HV1 : Hid (T1.sv false (T1.dg 20 a) = (a : Int)) := Lib.hid (by show ((T1.val (T1.dg 20 a) : Nat) : Int) = _; rw [T1.dg_val 20 a (by omega)])
    have HOn : ∀ (z : Nat), z ≤ 9223372036854775807 → ∀ W, Calls Tryz.prog 51 #[.int .i64 (z : Int)] W (fun e w' => ∃ p n c l, e = .returned (.agg #[.bool false, .slice p n c]) ∧ T1.Rd w' p n c l ∧ T1.val l = z ∧ n ≤ 20 ∧ Below W.heap.size W w') := fun z hz W => (HO.out z ⟨by omega, by omega⟩ W).mono fun e w' ⟨p, n, c, h1, h2, h3⟩ => ⟨p, n, c, _, by rw [h1, decide_eq_false (by omega)], h2, by rw [show (z : Int).natAbs = z from rfl]; exact T1.dg_val 20 z (by omega), by rw [h2.len]; exact T1.dg_len 20 _, h3⟩
    have HO2 : Hid (∀ W, Calls Tryz.prog 51 #[.int .i64 2] W _) := Lib.hid (HOn 2 (by omega))
    have HOU := Lib.hid (HOn u (by omega))
    have HOT : Hid (∀ W, Calls Tryz.prog 51 #[.int .i64 (2 * (u : Int))] W _) := Lib.hid (HOn (2 * u) (by omega))
    have hw2u : IntKind.i64.wrap (2 * (u : Int)) = 2 * (u : Int) := by rw [IntKind.wrap_i64]; omega
    clear HOn
    have hS0 : (fun w' : World => Hid (Below w.heap.size w w' ∧ ∃ m p k c, XRow w' XB m p k c)) wr.drew := Lib.hid ⟨Below.step B2.out (below_drew _), _, _, _, _, X2.out.below (below_drew _)⟩
    refine wp_region_held_drew (S := fun w' : World => Hid (Below w.heap.size w w' ∧ ∃ m p k c, XRow w' XB m p k c)) (by kernel_rfl) hS0 (fun hS => ?_)
    clear hS
    have hS := hS0
    clear hS0
    have XV := Lib.hid (X2.out.below (below_drew _))
    have RV := Lib.hid (R2.out.below (below_drew _))
    have BV := Lib.hid (Below.step B2.out (below_drew _))
    obtain ⟨V, hV⟩ : ∃ V, V = wr.drew := ⟨_, rfl⟩
    rw [← hV] at hS XV RV BV ⊢
    clear hV
    have c0 := XV.out.c0
    have c1 := XV.out.c1
    refine takeF (i := 3) (d := 29) (v := .int .i64 (u : Int)) rfl rfl (by kernel_rfl) (by kernel_rfl) (by kernel_rfl) (fun _ _ _ h => h) (by rfl) (fun w' hSw => by clear hSw; go_simp) hS ?_
    simp only [List.setIfInBounds_toArray, List.set_cons_zero, List.set_cons_succ]
    refine takeF (i := 6) (d := 32) (v := .int .i64 (u : Int)) rfl rfl (by kernel_rfl) (by kernel_rfl) (by kernel_rfl) (fun _ _ _ h => h) (by rfl) (fun w' hSw => by clear hSw; go_simp) hS ?_
    simp only [List.setIfInBounds_toArray, List.set_cons_zero, List.set_cons_succ]
    refine takeF (i := 7) (d := 33) (v := .int .i64 (2 * (u : Int))) rfl rfl (by kernel_rfl) (by kernel_rfl) (by kernel_rfl) (fun _ _ _ h => h) (by rfl) (fun w' hSw => by clear hSw; go_simp) hS ?_
    simp only [List.setIfInBounds_toArray, List.set_cons_zero, List.set_cons_succ]
    refine wpAnyH_ready (rs := [0, 1]) (by kernel_rfl) (by simp) ?_
    refine AllReadyH.cons rfl (fun K hK => ?_) (AllReadyH.cons rfl (fun K hK => ?_) AllReadyH.nil)
    · rw [if_pos (by rfl)]
      go_simp
      refine hK.out _ _ hS (fun _ => ?_)
      clear hK K
      try simp only [Act.put, List.setIfInBounds_toArray, List.set_cons_zero, List.set_cons_succ]
      refine wpAnyH_ready (rs := [1]) (by kernel_rfl) (by simp) ?_
      refine AllReadyH.cons rfl (fun K hK => ?_) AllReadyH.nil
      clear c0 c1
      rw [if_pos (by rfl)]
      go_simp
      refine (HO2.out _).mono ?_
      rintro e W2 ⟨p2, k2, c2, l2, rfl, r2, v2, n2, b2⟩
      have R2 := Lib.hid r2
      have V2 := Lib.hid v2
      have BB2 := Lib.hid b2
      have XX2 := Lib.hid (XV.out.below b2)
      have RR1 := Lib.hid (RV.out.below b2)
      have BL2 := Lib.hid (Below.step BV.out b2)
      clear r2 v2 b2
      go_wp2_with fail
      refine hK.out _ _ (Lib.hid ⟨BL2.out, _, _, _, _, XX2.out⟩) (fun _ => ?_)
      clear hK K
      try simp only [Act.put, List.setIfInBounds_toArray, List.set_cons_zero, List.set_cons_succ]
      clear XV RV BV hS BB2
      refine wpAnyH_ready (rs := [2]) (by kernel_rfl) (by simp) ?_
      refine AllReadyH.cons rfl (fun K hK => ?_) AllReadyH.nil
      rw [if_pos (by rfl)]
      go_simp
      refine (T1.times_loop false false p p2 k k2 c c2 _ _ W2 RR1.out R2.out (by omega) (by omega)).mono ?_
      rintro e W3 ⟨m3, p3, k3, c3, l3, rfl, r3, v3, n3, b3⟩
      have R3 := Lib.hid r3
      have V3 : Hid (T1.sv m3 l3 = (a : Int) * 2) := Lib.hid (by rw [v3, HV1.out]; show (a : Int) * ((T1.val l2 : Nat) : Int) = _; rw [V2.out]; rfl)
      have XX3 := Lib.hid (XX2.out.below b3)
      have BL3 := Lib.hid (Below.step BL2.out b3)
      clear r3 v3 b3 RR1 R2 V2 XX2 BL2
      go_wp2_with fail
      refine hK.out _ _ (Lib.hid ⟨BL3.out, _, _, _, _, XX3.out⟩) (fun _ => ?_)
      clear hK K
      try simp only [Act.put, List.setIfInBounds_toArray, List.set_cons_zero, List.set_cons_succ]
      refine wpAnyH_ready (rs := [4]) (by kernel_rfl) (by simp) ?_
      refine AllReadyH.cons rfl (fun K hK => ?_) AllReadyH.nil
      rw [if_pos (by rfl)]
      go_simp
      refine (HOU.out _).mono ?_
      rintro e W4 ⟨p4, k4, c4, l4, rfl, r4, v4, n4, b4⟩
      have R4 := Lib.hid r4
      have V4 := Lib.hid v4
      have RR3 := Lib.hid (R3.out.below b4)
      have XX4 := Lib.hid (XX3.out.below b4)
      have BL4 := Lib.hid (Below.step BL3.out b4)
      clear r4 v4 b4 R3 XX3 BL3
      go_wp2_with fail
      refine hK.out _ _ (Lib.hid ⟨BL4.out, _, _, _, _, XX4.out⟩) (fun _ => ?_)
      clear hK K
      try simp only [Act.put, List.setIfInBounds_toArray, List.set_cons_zero, List.set_cons_succ]
      refine wpAnyH_ready (rs := [5]) (by kernel_rfl) (by simp) ?_
      refine AllReadyH.cons rfl (fun K hK => ?_) AllReadyH.nil
      rw [if_pos (by rfl)]
      go_simp
      refine (T1.Plus_any m3 false p3 p4 k3 k4 c3 c4 _ _ W4 RR3.out R4.out (by omega) (by omega)).mono ?_
      rintro e W5 ⟨m5, p5, k5, c5, l5, rfl, r5, v5, n5, b5⟩
      have R5 := Lib.hid r5
      have V5 : Hid (T1.sv m5 l5 = (a : Int) * 2 + (u : Int)) := Lib.hid (by rw [v5, V3.out]; show (a : Int) * 2 + ((T1.val l4 : Nat) : Int) = _; rw [V4.out])
      have XX5 := Lib.hid (XX4.out.below b5)
      have BL5 := Lib.hid (Below.step BL4.out b5)
      clear r5 v5 b5 RR3 R4 V4 V3 XX4 BL4
      go_wp2_with fail
      refine hK.out _ _ (Lib.hid ⟨BL5.out, _, _, _, _, XX5.out⟩) (fun _ => ?_)
      clear hK K
      try simp only [Act.put, List.setIfInBounds_toArray, List.set_cons_zero, List.set_cons_succ]
      refine wpAnyH_ready (rs := [8]) (by kernel_rfl) (by simp) ?_
      refine AllReadyH.cons rfl (fun K hK => ?_) AllReadyH.nil
      rw [if_pos (by rfl)]
      go_simp
      refine (HOT.out _).mono ?_
      rintro e W6 ⟨p6, k6, c6, l6, rfl, r6, v6, n6, b6⟩
      have R6 := Lib.hid r6
      have V6 := Lib.hid v6
      have RR5 := Lib.hid (R5.out.below b6)
      have XX6 := Lib.hid (XX5.out.below b6)
      have BL6 := Lib.hid (Below.step BL5.out b6)
      clear r6 v6 b6 R5 XX5 BL5
      go_wp2_with fail
      refine hK.out _ _ (Lib.hid ⟨BL6.out, _, _, _, _, XX6.out⟩) (fun _ => ?_)
      clear hK K
      try simp only [Act.put, List.setIfInBounds_toArray, List.set_cons_zero, List.set_cons_succ]
      refine wpAnyH_ready (rs := [9]) (by kernel_rfl) (by simp) ?_
      refine AllReadyH.cons rfl (fun K hK => ?_) AllReadyH.nil
      rw [if_pos (by rfl)]
      go_simp
      refine (T1.over_any m5 false p5 p6 k5 k6 c5 c6 _ _ W6 RR5.out R6.out (by omega) (by have := V6.out; omega)).mono ?_
      rintro e W7 ⟨m7, p7, k7, c7, l7, rfl, r7, v7, n7, z7, b7⟩
      have R7 := Lib.hid r7
      have V7 : Hid (T1.val l7 = X) := Lib.hid (val_of (by rw [v7, V5.out, ← HQ.out]; show Int.tdiv _ ((T1.val l6 : Nat) : Int) = _; rw [V6.out]; rfl))
      have Z7 := Lib.hid z7
      have XX7 := Lib.hid (XX6.out.below b7)
      have BL7 := Lib.hid (Below.step BL6.out b7)
      clear r7 v7 b7 z7 RR5 R6 V6 V5 XX6 BL6
      go_wp2_with fail
      refine hK.out _ _ (Lib.hid ⟨BL7.out, _, _, _, _, XX7.out⟩) (fun _ => ?_)
      clear hK K
      try simp only [Act.put, List.setIfInBounds_toArray, List.set_cons_zero, List.set_cons_succ]
      refine wpAnyH_ready (rs := [10]) (by kernel_rfl) (by simp) ?_
      refine AllReadyH.cons rfl (fun K hK => ?_) AllReadyH.nil
      rw [if_pos (by rfl)]
      refine wp_store_row 62 (.tmp 5) (.tmp 35) rfl XB #[.bool m7, .slice p7 k7 c7] rfl rfl 62 _ XX7.out info_N rfl (one_N _ _ _ _) ?_
      have XX8 : Hid (XRow (W7.setRow XB #[.bool m7, .slice p7 k7 c7]) XB m7 p7 k7 c7) := Lib.hid (Go.setRow_heap _ _ _ _ _ _ XX7.out)
      have R8 : Hid (T1.Rd (W7.setRow XB #[.bool m7, .slice p7 k7 c7]) p7 k7 c7 l7) := Lib.hid (rd_setRow R7.out XX7.out _)
      have BL8 : Hid (Below w.heap.size w (W7.setRow XB #[.bool m7, .slice p7 k7 c7])) := Lib.hid (below_setRow7 BL7.out hXBw _)
      refine hK.out _ _ (Lib.hid ⟨BL8.out, _, _, _, _, XX8.out⟩) (fun _ => ?_)
      clear hK K
      refine wpAnyH_done (by kernel_rfl) ?_ _
      go_wp2_with fail
      go_meet
      exact ⟨m7, p7, k7, c7, l7, R7.out.size, Lib.hid ⟨XX8.out, R8.out, V7.out, Z7.out, BL8.out⟩⟩
    · rw [if_pos (by rfl)]
      go_simp
      clear c0 c1
      refine (HO2.out _).mono ?_
      rintro e W2 ⟨p2, k2, c2, l2, rfl, r2, v2, n2, b2⟩
      have R2 := Lib.hid r2
      have V2 := Lib.hid v2
      have BB2 := Lib.hid b2
      have XX2 := Lib.hid (XV.out.below b2)
      have RR1 := Lib.hid (RV.out.below b2)
      have BL2 := Lib.hid (Below.step BV.out b2)
      clear r2 v2 b2
      go_wp2_with fail
      refine hK.out _ _ (Lib.hid ⟨BL2.out, _, _, _, _, XX2.out⟩) (fun _ => ?_)
      clear hK K
      try simp only [Act.put, List.setIfInBounds_toArray, List.set_cons_zero, List.set_cons_succ]
      have c0 := XX2.out.c0
      have c1 := XX2.out.c1
      refine wpAnyH_ready (rs := [0]) (by kernel_rfl) (by simp) ?_
      refine AllReadyH.cons rfl (fun K hK => ?_) AllReadyH.nil
      rw [if_pos (by rfl)]
      go_simp
      refine hK.out _ _ (Lib.hid ⟨BL2.out, _, _, _, _, XX2.out⟩) (fun _ => ?_)
      clear hK K
      try simp only [Act.put, List.setIfInBounds_toArray, List.set_cons_zero, List.set_cons_succ]
      clear c0 c1
      clear XV RV BV hS BB2
      refine wpAnyH_ready (rs := [2]) (by kernel_rfl) (by simp) ?_
      refine AllReadyH.cons rfl (fun K hK => ?_) AllReadyH.nil
      rw [if_pos (by rfl)]
      go_simp
      refine (T1.times_loop false false p p2 k k2 c c2 _ _ W2 RR1.out R2.out (by omega) (by omega)).mono ?_
      rintro e W3 ⟨m3, p3, k3, c3, l3, rfl, r3, v3, n3, b3⟩
      have R3 := Lib.hid r3
      have V3 : Hid (T1.sv m3 l3 = (a : Int) * 2) := Lib.hid (by rw [v3, HV1.out]; show (a : Int) * ((T1.val l2 : Nat) : Int) = _; rw [V2.out]; rfl)
      have XX3 := Lib.hid (XX2.out.below b3)
      have BL3 := Lib.hid (Below.step BL2.out b3)
      clear r3 v3 b3 RR1 R2 V2 XX2 BL2
      go_wp2_with fail
      refine hK.out _ _ (Lib.hid ⟨BL3.out, _, _, _, _, XX3.out⟩) (fun _ => ?_)
      clear hK K
      try simp only [Act.put, List.setIfInBounds_toArray, List.set_cons_zero, List.set_cons_succ]
      refine wpAnyH_ready (rs := [4]) (by kernel_rfl) (by simp) ?_
      refine AllReadyH.cons rfl (fun K hK => ?_) AllReadyH.nil
      rw [if_pos (by rfl)]
      go_simp
      refine (HOU.out _).mono ?_
      rintro e W4 ⟨p4, k4, c4, l4, rfl, r4, v4, n4, b4⟩
      have R4 := Lib.hid r4
      have V4 := Lib.hid v4
      have RR3 := Lib.hid (R3.out.below b4)
      have XX4 := Lib.hid (XX3.out.below b4)
      have BL4 := Lib.hid (Below.step BL3.out b4)
      clear r4 v4 b4 R3 XX3 BL3
      go_wp2_with fail
      refine hK.out _ _ (Lib.hid ⟨BL4.out, _, _, _, _, XX4.out⟩) (fun _ => ?_)
      clear hK K
      try simp only [Act.put, List.setIfInBounds_toArray, List.set_cons_zero, List.set_cons_succ]
      refine wpAnyH_ready (rs := [5]) (by kernel_rfl) (by simp) ?_
      refine AllReadyH.cons rfl (fun K hK => ?_) AllReadyH.nil
      rw [if_pos (by rfl)]
      go_simp
      refine (T1.Plus_any m3 false p3 p4 k3 k4 c3 c4 _ _ W4 RR3.out R4.out (by omega) (by omega)).mono ?_
      rintro e W5 ⟨m5, p5, k5, c5, l5, rfl, r5, v5, n5, b5⟩
      have R5 := Lib.hid r5
      have V5 : Hid (T1.sv m5 l5 = (a : Int) * 2 + (u : Int)) := Lib.hid (by rw [v5, V3.out]; show (a : Int) * 2 + ((T1.val l4 : Nat) : Int) = _; rw [V4.out])
      have XX5 := Lib.hid (XX4.out.below b5)
      have BL5 := Lib.hid (Below.step BL4.out b5)
      clear r5 v5 b5 RR3 R4 V4 V3 XX4 BL4
      go_wp2_with fail
      refine hK.out _ _ (Lib.hid ⟨BL5.out, _, _, _, _, XX5.out⟩) (fun _ => ?_)
      clear hK K
      try simp only [Act.put, List.setIfInBounds_toArray, List.set_cons_zero, List.set_cons_succ]
      refine wpAnyH_ready (rs := [8]) (by kernel_rfl) (by simp) ?_
      refine AllReadyH.cons rfl (fun K hK => ?_) AllReadyH.nil
      rw [if_pos (by rfl)]
      go_simp
      refine (HOT.out _).mono ?_
      rintro e W6 ⟨p6, k6, c6, l6, rfl, r6, v6, n6, b6⟩
      have R6 := Lib.hid r6
      have V6 := Lib.hid v6
      have RR5 := Lib.hid (R5.out.below b6)
      have XX6 := Lib.hid (XX5.out.below b6)
      have BL6 := Lib.hid (Below.step BL5.out b6)
      clear r6 v6 b6 R5 XX5 BL5
      go_wp2_with fail
      refine hK.out _ _ (Lib.hid ⟨BL6.out, _, _, _, _, XX6.out⟩) (fun _ => ?_)
      clear hK K
      try simp only [Act.put, List.setIfInBounds_toArray, List.set_cons_zero, List.set_cons_succ]
      refine wpAnyH_ready (rs := [9]) (by kernel_rfl) (by simp) ?_
      refine AllReadyH.cons rfl (fun K hK => ?_) AllReadyH.nil
      rw [if_pos (by rfl)]
      go_simp
      refine (T1.over_any m5 false p5 p6 k5 k6 c5 c6 _ _ W6 RR5.out R6.out (by omega) (by have := V6.out; omega)).mono ?_
      rintro e W7 ⟨m7, p7, k7, c7, l7, rfl, r7, v7, n7, z7, b7⟩
      have R7 := Lib.hid r7
      have V7 : Hid (T1.val l7 = X) := Lib.hid (val_of (by rw [v7, V5.out, ← HQ.out]; show Int.tdiv _ ((T1.val l6 : Nat) : Int) = _; rw [V6.out]; rfl))
      have Z7 := Lib.hid z7
      have XX7 := Lib.hid (XX6.out.below b7)
      have BL7 := Lib.hid (Below.step BL6.out b7)
      clear r7 v7 b7 z7 RR5 R6 V6 V5 XX6 BL6
      go_wp2_with fail
      refine hK.out _ _ (Lib.hid ⟨BL7.out, _, _, _, _, XX7.out⟩) (fun _ => ?_)
      clear hK K
      try simp only [Act.put, List.setIfInBounds_toArray, List.set_cons_zero, List.set_cons_succ]
      refine wpAnyH_ready (rs := [10]) (by kernel_rfl) (by simp) ?_
      refine AllReadyH.cons rfl (fun K hK => ?_) AllReadyH.nil
      rw [if_pos (by rfl)]
      refine wp_store_row 62 (.tmp 5) (.tmp 35) rfl XB #[.bool m7, .slice p7 k7 c7] rfl rfl 62 _ XX7.out info_N rfl (one_N _ _ _ _) ?_
      have XX8 : Hid (XRow (W7.setRow XB #[.bool m7, .slice p7 k7 c7]) XB m7 p7 k7 c7) := Lib.hid (Go.setRow_heap _ _ _ _ _ _ XX7.out)
      have R8 : Hid (T1.Rd (W7.setRow XB #[.bool m7, .slice p7 k7 c7]) p7 k7 c7 l7) := Lib.hid (rd_setRow R7.out XX7.out _)
      have BL8 : Hid (Below w.heap.size w (W7.setRow XB #[.bool m7, .slice p7 k7 c7])) := Lib.hid (below_setRow7 BL7.out hXBw _)
      refine hK.out _ _ (Lib.hid ⟨BL8.out, _, _, _, _, XX8.out⟩) (fun _ => ?_)
      clear hK K
      refine wpAnyH_done (by kernel_rfl) ?_ _
      go_wp2_with fail
      go_meet
      exact ⟨m7, p7, k7, c7, l7, R7.out.size, Lib.hid ⟨XX8.out, R8.out, V7.out, Z7.out, BL8.out⟩⟩
  case rest =>
  obtain ⟨m, q, k3, c3, l, hk3, HF⟩ := hcut
  have HKPm := HKP
  clear X2 R2 B2 HO HQ HU HKP hMi hi200 hu h6 d6
  go_step
  go_upto_if 38 with (fail)
  go_cut [8] (fun v wx => v = .int .i64 KP ∧ wx = wc)
  case first =>
    by_cases h : 6 < M
    · have d0 : decide ((6 : Int) < (M : Int)) = true := decide_eq_true (by omega)
      have e1 : Hid (KP = 6) := Lib.hid (by rw [HKPm.out]; omega)
      go_wp2_with fail
      go_meet
      exact ⟨by rw [e1.out]; rfl, rfl⟩
    · have d0 : decide ((6 : Int) < (M : Int)) = false := decide_eq_false (by omega)
      have e1 : Hid (KP = M) := Lib.hid (by rw [HKPm.out]; omega)
      go_wp2_with fail
      go_meet
      exact ⟨by rw [e1.out], rfl⟩
  case rest =>
  obtain ⟨rfl, hw1⟩ := hcut
  subst hw1
  go_step
  have hlk : Hid (k3 = l.length ∧ T1.Dl l) := Lib.hid ⟨HF.out.2.1.len, HF.out.2.1.digs⟩
  have hcap := HF.out.2.1.cap
  have HZ := Lib.hid HF.out.2.2.2.1
  have HV := Lib.hid HF.out.2.2.1
  have HDg : Hid (∀ i, X / 10 ^ i % 10 = l.getD i 0 ∧ l.getD i 0 < 10) := Lib.hid (fun i => ⟨by rw [← HV.out]; exact digit_is hlk.out.2 i, hlk.out.2.getD i⟩)
  have HG0 : Hid (((⟨#[]⟩ : ByteArray)).data.toList = growT KP X 0) := Lib.hid (by rw [growT_zero])
  go_wp2_with fail
  go_loopw [9, 10] (fun x y wr => ∃ (t : ByteArray) (i : Nat), x = .string t ∧ y = .int .i64 i ∧ i ≤ 1000 ∧ (i ≤ k3 ∨ i ≤ KP + 1) ∧ t.size ≤ 2 * i ∧ Hid (t.data.toList = growT KP X i ∧ XRow wr XB m q k3 c3 ∧ T1.Rd wr q k3 c3 l ∧ Below w.heap.size w wr)) (fun _ y _ => 2000 - (intOf y).toNat)
  case atStart => exact ⟨⟨#[]⟩, 0, rfl, rfl, by omega, Or.inl (by omega), Nat.le_refl _, Lib.hid ⟨HG0.out, HF.out.1, HF.out.2.1, HF.out.2.2.2.2⟩⟩
  case round =>
  obtain ⟨t, i, rfl, rfl, hi1000, hik, hts, HA⟩ := hrel
  have c1 := HA.out.2.1.c1
  by_cases h1 : i < k3
  · have d1 : decide ((i : Int) < (k3 : Int)) = true := decide_eq_true (by omega)
    obtain ⟨b, off, rfl, hbs, hc⟩ : ∃ b off, q = some ⟨b, off, none⟩ ∧ b < wr.heap.size ∧ ∀ i, i < l.length → wr.cell? ⟨b, off + i, none⟩ = some (.int .i64 ((l.getD i 0 : Nat) : Int)) := by
      rcases HA.out.2.2.1.cells with h0 | h0
      · exfalso
        have := hlk.out.1
        rw [h0] at this
        simp at this
        omega
      · exact h0
    have cd := hc i (by rw [← hlk.out.1]; exact h1)
    have hd10 := (HDg.out i).2
    obtain ⟨dd, hdd⟩ : ∃ dd, dd = l.getD i 0 := ⟨_, rfl⟩
    rw [← hdd] at cd hd10
    have HXd : Hid (X / 10 ^ i % 10 = dd) := Lib.hid (by rw [hdd]; exact (HDg.out i).1)
    clear hc hdd
    by_cases h3 : i = KP
    · by_cases h4 : 0 < KP
      · have d3 : ((i : Int) == (KP : Int)) = true := beq_iff_eq.2 (by omega)
        have d4 : decide ((0 : Int) < (KP : Int)) = true := decide_eq_true (by omega)
        have d5 : decide (0 < KP) = true := decide_eq_true h4
        have HG : Hid (growT KP X (i + 1) = (48 + dd).toUInt8 :: 46 :: growT KP X i) := Lib.hid (by rw [growT_step, HXd.out, if_pos ⟨h3, h4⟩, bdig_low hd10])
        have n1 : ¬ 9223372036854775807 < 1 + t.size := by omega
        have n2 : ¬ 9223372036854775807 < 1 + (1 + t.size) := by omega
        have hc0 := conv_byte wr (48 + dd).toUInt8 (48 + (dd : Int)) (by rw [byte_nat (by omega)]; omega)
        have HN : Hid ((((⟨#[(48 + dd).toUInt8]⟩ : ByteArray) ++ ((⟨#[46]⟩ : ByteArray) ++ t))).data.toList = growT KP X (i + 1)) := Lib.hid (by rw [HG.out, ← HA.out.1]; simp)
        have HNs : Hid ((((⟨#[(48 + dd).toUInt8]⟩ : ByteArray) ++ ((⟨#[46]⟩ : ByteArray) ++ t))).size ≤ 2 * (i + 1)) := Lib.hid (by simp only [ByteArray.size_append]; show _ ≤ _; first | (show 1 + (1 + t.size) ≤ _; omega) | (show 1 + t.size ≤ _; omega))
        have BN := Lib.hid (below_new wr (.cells #[.int .u8 (48 + (dd : Int))] 5))
        have HX2 := Lib.hid (HA.out.2.1.below BN.out)
        have HR2 := Lib.hid (HA.out.2.2.1.below BN.out)
        have HB2 := Lib.hid (Below.step HA.out.2.2.2 BN.out)
        generalize (48 + dd).toUInt8 = xx at hc0 HN HNs
        clear HA HG HXd BN h3 h4
        go_wp2_with fail
        go_roundw
        case rel => exact ⟨_, i + 1, rfl, by go_num, by omega, by omega, HNs.out, Lib.hid ⟨HN.out, HX2.out, HR2.out, HB2.out⟩⟩
        case measure => simp [intOf]; omega
      · have d3 : ((i : Int) == (KP : Int)) = true := beq_iff_eq.2 (by omega)
        have d4 : decide ((0 : Int) < (KP : Int)) = false := decide_eq_false (by omega)
        have d5 : decide (0 < KP) = false := decide_eq_false h4
        have HG : Hid (growT KP X (i + 1) = (48 + dd).toUInt8 :: growT KP X i) := Lib.hid (by rw [growT_step, HXd.out, if_neg (by omega), bdig_low hd10])
        have n1 : ¬ 9223372036854775807 < 1 + t.size := by omega
        have hc0 := conv_byte wr (48 + dd).toUInt8 (48 + (dd : Int)) (by rw [byte_nat (by omega)]; omega)
        have HN : Hid ((((⟨#[(48 + dd).toUInt8]⟩ : ByteArray) ++ t)).data.toList = growT KP X (i + 1)) := Lib.hid (by rw [HG.out, ← HA.out.1]; simp)
        have HNs : Hid ((((⟨#[(48 + dd).toUInt8]⟩ : ByteArray) ++ t)).size ≤ 2 * (i + 1)) := Lib.hid (by simp only [ByteArray.size_append]; show _ ≤ _; first | (show 1 + (1 + t.size) ≤ _; omega) | (show 1 + t.size ≤ _; omega))
        have BN := Lib.hid (below_new wr (.cells #[.int .u8 (48 + (dd : Int))] 5))
        have HX2 := Lib.hid (HA.out.2.1.below BN.out)
        have HR2 := Lib.hid (HA.out.2.2.1.below BN.out)
        have HB2 := Lib.hid (Below.step HA.out.2.2.2 BN.out)
        generalize (48 + dd).toUInt8 = xx at hc0 HN HNs
        clear HA HG HXd BN h3 h4
        go_wp2_with fail
        go_roundw
        case rel => exact ⟨_, i + 1, rfl, by go_num, by omega, by omega, HNs.out, Lib.hid ⟨HN.out, HX2.out, HR2.out, HB2.out⟩⟩
        case measure => simp [intOf]; omega
    · have d3 : ((i : Int) == (KP : Int)) = false := beq_eq_false_iff_ne.2 (by omega)
      have HG : Hid (growT KP X (i + 1) = (48 + dd).toUInt8 :: growT KP X i) := Lib.hid (by rw [growT_step, HXd.out, if_neg (by omega), bdig_low hd10])
      have n1 : ¬ 9223372036854775807 < 1 + t.size := by omega
      have hc0 := conv_byte wr (48 + dd).toUInt8 (48 + (dd : Int)) (by rw [byte_nat (by omega)]; omega)
      have HN : Hid ((((⟨#[(48 + dd).toUInt8]⟩ : ByteArray) ++ t)).data.toList = growT KP X (i + 1)) := Lib.hid (by rw [HG.out, ← HA.out.1]; simp)
      have HNs : Hid ((((⟨#[(48 + dd).toUInt8]⟩ : ByteArray) ++ t)).size ≤ 2 * (i + 1)) := Lib.hid (by simp only [ByteArray.size_append]; show _ ≤ _; first | (show 1 + (1 + t.size) ≤ _; omega) | (show 1 + t.size ≤ _; omega))
      have BN := Lib.hid (below_new wr (.cells #[.int .u8 (48 + (dd : Int))] 5))
      have HX2 := Lib.hid (HA.out.2.1.below BN.out)
      have HR2 := Lib.hid (HA.out.2.2.1.below BN.out)
      have HB2 := Lib.hid (Below.step HA.out.2.2.2 BN.out)
      generalize (48 + dd).toUInt8 = xx at hc0 HN HNs
      clear HA HG HXd BN h3
      go_wp2_with fail
      go_roundw
      case rel => exact ⟨_, i + 1, rfl, by go_num, by omega, by omega, HNs.out, Lib.hid ⟨HN.out, HX2.out, HR2.out, HB2.out⟩⟩
      case measure => simp [intOf]; omega
  have d1 : decide ((i : Int) < (k3 : Int)) = false := decide_eq_false (by omega)
  by_cases h2 : i ≤ KP
  · have d2 : decide ((i : Int) ≤ (KP : Int)) = true := decide_eq_true (by omega)
    have HXd : Hid (X / 10 ^ i % 10 = 0) := Lib.hid (by
      rw [(HDg.out i).1, List.getD_eq_getElem?_getD, List.getElem?_eq_none (by rw [← hlk.out.1]; omega)]; rfl)
    by_cases h3 : i = KP
    · by_cases h4 : 0 < KP
      · have d3 : ((i : Int) == (KP : Int)) = true := beq_iff_eq.2 (by omega)
        have d4 : decide ((0 : Int) < (KP : Int)) = true := decide_eq_true (by omega)
        have d5 : decide (0 < KP) = true := decide_eq_true h4
        have HG : Hid (growT KP X (i + 1) = 48 :: 46 :: growT KP X i) := Lib.hid (by rw [growT_step, HXd.out, if_pos ⟨h3, h4⟩]; rfl)
        have n1 : ¬ 9223372036854775807 < 1 + t.size := by omega
        have n2 : ¬ 9223372036854775807 < 1 + (1 + t.size) := by omega
        have hc0 := conv_byte wr 48 48 (by rfl)
        have HN : Hid ((((⟨#[48]⟩ : ByteArray) ++ ((⟨#[46]⟩ : ByteArray) ++ t))).data.toList = growT KP X (i + 1)) := Lib.hid (by rw [HG.out, ← HA.out.1]; simp)
        have HNs : Hid ((((⟨#[48]⟩ : ByteArray) ++ ((⟨#[46]⟩ : ByteArray) ++ t))).size ≤ 2 * (i + 1)) := Lib.hid (by simp only [ByteArray.size_append]; show _ ≤ _; first | (show 1 + (1 + t.size) ≤ _; omega) | (show 1 + t.size ≤ _; omega))
        have BN := Lib.hid (below_new wr (.cells #[.int .u8 48] 5))
        have HX2 := Lib.hid (HA.out.2.1.below BN.out)
        have HR2 := Lib.hid (HA.out.2.2.1.below BN.out)
        have HB2 := Lib.hid (Below.step HA.out.2.2.2 BN.out)
        clear HA HG HXd BN h3 h4
        go_wp2_with fail
        go_roundw
        case rel => exact ⟨_, i + 1, rfl, by go_num, by omega, by omega, HNs.out, Lib.hid ⟨HN.out, HX2.out, HR2.out, HB2.out⟩⟩
        case measure => simp [intOf]; omega
      · have d3 : ((i : Int) == (KP : Int)) = true := beq_iff_eq.2 (by omega)
        have d4 : decide ((0 : Int) < (KP : Int)) = false := decide_eq_false (by omega)
        have d5 : decide (0 < KP) = false := decide_eq_false h4
        have HG : Hid (growT KP X (i + 1) = 48 :: growT KP X i) := Lib.hid (by rw [growT_step, HXd.out, if_neg (by omega)]; rfl)
        have n1 : ¬ 9223372036854775807 < 1 + t.size := by omega
        have hc0 := conv_byte wr 48 48 (by rfl)
        have HN : Hid ((((⟨#[48]⟩ : ByteArray) ++ t)).data.toList = growT KP X (i + 1)) := Lib.hid (by rw [HG.out, ← HA.out.1]; simp)
        have HNs : Hid ((((⟨#[48]⟩ : ByteArray) ++ t)).size ≤ 2 * (i + 1)) := Lib.hid (by simp only [ByteArray.size_append]; show _ ≤ _; first | (show 1 + (1 + t.size) ≤ _; omega) | (show 1 + t.size ≤ _; omega))
        have BN := Lib.hid (below_new wr (.cells #[.int .u8 48] 5))
        have HX2 := Lib.hid (HA.out.2.1.below BN.out)
        have HR2 := Lib.hid (HA.out.2.2.1.below BN.out)
        have HB2 := Lib.hid (Below.step HA.out.2.2.2 BN.out)
        clear HA HG HXd BN h3 h4
        go_wp2_with fail
        go_roundw
        case rel => exact ⟨_, i + 1, rfl, by go_num, by omega, by omega, HNs.out, Lib.hid ⟨HN.out, HX2.out, HR2.out, HB2.out⟩⟩
        case measure => simp [intOf]; omega
    · have d3 : ((i : Int) == (KP : Int)) = false := beq_eq_false_iff_ne.2 (by omega)
      have HG : Hid (growT KP X (i + 1) = 48 :: growT KP X i) := Lib.hid (by rw [growT_step, HXd.out, if_neg (by omega)]; rfl)
      have n1 : ¬ 9223372036854775807 < 1 + t.size := by omega
      have hc0 := conv_byte wr 48 48 (by rfl)
      have HN : Hid ((((⟨#[48]⟩ : ByteArray) ++ t)).data.toList = growT KP X (i + 1)) := Lib.hid (by rw [HG.out, ← HA.out.1]; simp)
      have HNs : Hid ((((⟨#[48]⟩ : ByteArray) ++ t)).size ≤ 2 * (i + 1)) := Lib.hid (by simp only [ByteArray.size_append]; show _ ≤ _; first | (show 1 + (1 + t.size) ≤ _; omega) | (show 1 + t.size ≤ _; omega))
      have BN := Lib.hid (below_new wr (.cells #[.int .u8 48] 5))
      have HX2 := Lib.hid (HA.out.2.1.below BN.out)
      have HR2 := Lib.hid (HA.out.2.2.1.below BN.out)
      have HB2 := Lib.hid (Below.step HA.out.2.2.2 BN.out)
      clear HA HG HXd BN h3
      go_wp2_with fail
      go_roundw
      case rel => exact ⟨_, i + 1, rfl, by go_num, by omega, by omega, HNs.out, Lib.hid ⟨HN.out, HX2.out, HR2.out, HB2.out⟩⟩
      case measure => simp [intOf]; omega
  have d2 : decide ((i : Int) ≤ (KP : Int)) = false := decide_eq_false (by omega)
  have HFin : Hid (t.data.toList ++ List.replicate (M - KP) 48 = fixedT a M) := Lib.hid (by
    rw [HA.out.1]
    exact HEnd.out l k3 i hlk.out.1 hlk.out.2 HV.out HZ.out (by omega) (by omega) (by omega))
  have HB := Lib.hid HA.out.2.2.2
  have HFl : Hid (∀ W, Calls Tryz.prog 88 #[.string ⟨#[48]⟩, .int .i64 ((M : Int) - (KP : Int))] W fun e w' => e = .returned (.string (fillS 48 (M - KP))) ∧ w' = W) := Lib.hid (fun W => (fill_any 48 ((M : Int) - (KP : Int)) (by omega) W).mono fun e w' ⟨h1, h2⟩ => ⟨by rw [h1, show ((M : Int) - (KP : Int)).toNat = M - KP from by omega]; rfl, h2⟩)
  have n1 : ¬ 9223372036854775807 < t.size + (fillS 48 (M - KP)).size := by rw [fillS_size]; omega
  have n2 : ¬ 9223372036854775807 < 1 + (t ++ fillS 48 (M - KP)).size := by rw [ByteArray.size_append, fillS_size]; omega
  have n3 : ¬ 9223372036854775807 < 1 + (t.size + (fillS 48 (M - KP)).size) := by rw [fillS_size]; omega
  clear HA HF HEnd HDg HZ HV
  by_cases hneg : n < 0
  · have d3 : decide (n < 0) = true := decide_eq_true hneg
    have HRR : Hid (((⟨#[45]⟩ : ByteArray) ++ (t ++ fillS 48 (M - KP))).data.toList = fixedS n dg) := Lib.hid (by
      rw [HR.out, if_pos hneg, ← HFin.out]
      simp [fillS, ofL])
    clear HFin
    go_wp2_with fail
    refine (HFl.out _).mono ?_
    rintro e w9 ⟨rfl, rfl⟩
    go_wp2_with fail
    go_ret
    exact ⟨_, rfl, HRR, HB.out⟩
  · have d3 : decide (n < 0) = false := decide_eq_false hneg
    have HRR : Hid ((t ++ fillS 48 (M - KP)).data.toList = fixedS n dg) := Lib.hid (by
      rw [HR.out, if_neg hneg, ← HFin.out]
      simp [fillS, ofL])
    clear HFin
    go_wp2_with fail
    refine (HFl.out _).mono ?_
    rintro e w9 ⟨rfl, rfl⟩
    go_wp2_with fail
    go_ret
    exact ⟨_, rfl, HRR, HB.out⟩
end Go.Proofs.YtbbhcbpfffabpaaGreatDoor
