/- Merged by program: NextC. -/
import Derived.Deep.QuietTactic
import Derived.BigQuiet
import Derived.Test.YtbbhcbpfffabpaaGreatDoorGaw
import Derived.Test.YtbbhcbpfffabpaaGreatDoorGau
/- The document's Next, a try. -/
namespace Go
section
variable {P : Program} {ops : Array Oper} {Q : Exit → Act → World → Prop} {md : Region.Mode} {S : World → Prop}
/-- An operation of a drawn region taken first, whether its guard wants it or not. -/
theorem takeE {i d : Nat} {oi : Oper} {v : Value} {g : Bool} {fuel : Nat} {listed : Array Bool} {a : Act} {w : World} (hi : ops[i]? = some oi) (hd : oi.dst = some d)
    (hs : Region.noSelect ops = true) (hf : Region.free md ops listed i = true) (hr : (Region.ready md ops listed).contains i = true)
    (hQ : ∀ c a w, Q (.panic c) (a.put (some d) (bif g then v else undef)) w → Q (.panic c) a w) (hw : Region.wanted oi (yielded ops a.tmps) = g) (hx : g = true → ∀ w, S w → (execOp a.eval oi).run P w = .ok (.value v) w) (hS : S w)
    (h : wpAnyH P md ops Q S fuel (listed.setIfInBounds i true) ⟨a.tmps.setIfInBounds d (bif g then v else undef), a.defers⟩ w) : wpAnyH P md ops Q S (fuel + 1) listed a w := by
  refine wpAnyH_take (v := bif g then v else undef) hi hs hf hr (by rw [hd]; exact hQ) ?_ hS (by rw [hd]; exact h)
  cases g with
  | true => exact Or.inl ⟨hw, hx rfl⟩
  | false => exact Or.inr ⟨hw, rfl⟩
end
end Go
namespace Go.Proofs.YtbbhcbpfffabpaaGreatDoor
open Go.RowKit

theorem flagsR_keep : ∀ (l : List UInt8) (d : Dir), (flagsR l d).1.wide = d.wide ∧ (flagsR l d).1.prec = d.prec ∧ (flagsR l d).1.letter = d.letter
  | [], _ => ⟨rfl, rfl, rfl⟩
  | b :: l, d => by
    by_cases h : b.toNat = 45 ∨ b.toNat = 43 ∨ b.toNat = 32 ∨ b.toNat = 48
    · rw [flagsR_cons b l d h]; exact flagsR_keep l (flag1 b d)
    · rw [flagsR_stop b l d h]; exact ⟨rfl, rfl, rfl⟩
theorem isLetter_any (b : Nat) : isLetter b = ([100, 105, 111, 120, 88, 99, 115, 102, 37] : List UInt8).any (fun c => b == c.toNat) := by
  unfold isLetter
  simp [Bool.or_assoc]
theorem numR_star {b : UInt8} {r : List UInt8} (h : b.toNat = 42) : numR (b :: r) = (-2, 1) := by
  show (if _ then _ else _) = _
  rw [if_pos h]
theorem numR_digs {b : UInt8} {r : List UInt8} (h : b.toNat ≠ 42) : numR (b :: r) = (((digs (b :: r) 0).1 : Int), (digs (b :: r) 0).2) := by
  show (if _ then _ else _) = _
  rw [if_neg h]
/-- A row begins with a byte. -/
def isAt (l : List UInt8) (x : Nat) : Bool := match l with
  | [] => false
  | b :: _ => b.toNat == x
theorem isAt_get {f : ByteArray} {j : Nat} (h : j < f.size) (x : Nat) : ((f[j].toNat : Int) == (x : Int)) = isAt (f.data.toList.drop j) x := by
  rw [drop_get h]
  show _ = (f[j].toNat == x)
  by_cases e : f[j].toNat = x
  · rw [beq_iff_eq.2 e]; exact beq_iff_eq.2 (by omega)
  · rw [beq_eq_false_iff_ne.2 e]; exact beq_eq_false_iff_ne.2 (by omega)
theorem isAt_end (f : ByteArray) {j : Nat} (h : ¬ j < f.size) (x : Nat) : isAt (f.data.toList.drop j) x = false := by
  rw [List.drop_eq_nil_of_le (by rw [← Lib.size_eq]; omega)]; rfl
theorem isAt_lt {f : ByteArray} {j x : Nat} (h : isAt (f.data.toList.drop j) x = true) : j < f.size := by
  by_cases hl : j < f.size
  · exact hl
  · rw [isAt_end f hl] at h; exact absurd h (by decide)
theorem numR_of (l : List UInt8) : numR l = if isAt l 42 then (-2, 1) else (((digs l 0).1 : Int), (digs l 0).2) := by
  cases l with
  | nil => rfl
  | cons b r =>
    show (if b.toNat = 42 then _ else _) = (if (b.toNat == 42) = true then _ else _)
    by_cases h : b.toNat = 42
    · rw [if_pos h, if_pos (beq_iff_eq.2 h)]
    · rw [if_neg h, if_neg (by simpa using h)]
theorem pointR_of (l : List UInt8) : pointR l = if isAt l 46 then ((numR (l.drop 1)).1, (numR (l.drop 1)).2 + 1) else (-1, 0) := by
  cases l with
  | nil => rfl
  | cons b r =>
    show (if b.toNat = 46 then _ else _) = (if (b.toNat == 46) = true then _ else _)
    by_cases h : b.toNat = 46
    · rw [if_pos h, if_pos (beq_iff_eq.2 h)]; rfl
    · rw [if_neg h, if_neg (by simpa using h)]
/-- What Next tells. -/
def RNextOut (l : List UInt8) (i : Nat) (w : World) (e : Ending) (w' : World) : Prop :=
  ((readS l = none ∧ ∃ (d : Dir) (k : Int), e = .returned (.tuple #[d.val, .int .i64 k, .bool false])) ∨ ∃ d k, readS l = some (d, k) ∧ e = .returned (.tuple #[d.val, .int .i64 ((i + k : Nat) : Int), .bool true])) ∧ Below w.heap.size w w'
/-- What stands behind a directive's head. -/
def lastS (h : Dir) (k : Nat) (l : List UInt8) : Option (Dir × Nat) := match l with
  | [] => none
  | b :: _ => if 200 < h.wide ∨ 200 < h.prec ∨ isLetter b.toNat = false then none else some ({ h with letter := b.toNat }, k + 1)
theorem readS_last (l : List UInt8) : readS l = lastS (headR l).1 (headR l).2 (l.drop (headR l).2) := rfl

set_option maxRecDepth 100000 in
set_option maxHeartbeats 2000000 in
theorem next_of (f : ByteArray) (i : Nat) (hi : i ≤ f.size) (hf : f.size ≤ 100000) (w : World) :
    Calls Tryz.prog 55 #[.string f, .int .i64 i] w (RNextOut (f.data.toList.drop i) i w) := by
  obtain ⟨l0, hl0⟩ : ∃ l0, l0 = f.data.toList.drop i := ⟨_, rfl⟩
  rw [← hl0]
  obtain ⟨a, ha⟩ : ∃ a, a = flagsR l0 newD := ⟨_, rfl⟩
  have HA0 : Hid (a = ((flagsR (f.data.toList.drop i) newD).1, (i - i) + (flagsR (f.data.toList.drop i) newD).2)) := Lib.hid (by
    rw [ha, hl0]; exact congrArg (Prod.mk _) (by omega))
  have hak : a.2 ≤ f.size - i := by
    rw [ha]
    have := flagsR_le l0 newD
    rw [hl0, List.length_drop, ← Lib.size_eq] at this
    rw [hl0]; exact this
  have HKp : Hid (a.1.prec = -1) := Lib.hid (by rw [ha]; exact (flagsR_keep l0 newD).2.1)
  obtain ⟨ad, ak⟩ := a
  dsimp only at hak HKp
  obtain ⟨sv, sk, hs⟩ : ∃ sv sk, (sv, sk) = numR (f.data.toList.drop (i + ak)) := ⟨_, _, rfl⟩
  have hsk : sk ≤ f.size - (i + ak) ∧ -2 ≤ sv ∧ sv ≤ 201 := by
    have := numR_le (f.data.toList.drop (i + ak))
    rw [← hs, List.length_drop, ← Lib.size_eq] at this
    exact this
  obtain ⟨pv, pk, hp⟩ : ∃ pv pk, (pv, pk) = pointR (f.data.toList.drop (i + ak + sk)) := ⟨_, _, rfl⟩
  have hpk : pk ≤ f.size - (i + ak + sk) ∧ -2 ≤ pv ∧ pv ≤ 201 := by
    have := pointR_le (f.data.toList.drop (i + ak + sk))
    rw [← hp, List.length_drop, ← Lib.size_eq] at this
    exact this
  obtain ⟨j1, hj1⟩ : ∃ j1, j1 = i + ak := ⟨_, rfl⟩
  obtain ⟨j2, hj2⟩ : ∃ j2, j2 = i + ak + sk := ⟨_, rfl⟩
  obtain ⟨j3, hj3⟩ : ∃ j3, j3 = i + ak + sk + pk := ⟨_, rfl⟩
  have hb1 : j1 ≤ f.size := by omega
  have hb2 : j2 ≤ f.size := by omega
  have hb3 : j3 ≤ f.size := by omega
  have HJ := Lib.hid (⟨hj1, hj2, hj3⟩ : _ ∧ _ ∧ _)
  rw [← hj1] at hs
  rw [← hj2] at hp
  have HS := Lib.hid hs
  have HP := Lib.hid hp
  have HL : Hid (readS l0 = lastS { ad with wide := sv, prec := pv } (ak + sk + pk) (f.data.toList.drop j3)) := Lib.hid (by
    rw [readS_last]
    have e : headR l0 = ({ ad with wide := sv, prec := pv }, ak + sk + pk) := by
      unfold headR
      dsimp only
      have h1 : flagsR l0 ⟨false, false, false, false, 0, -1, 0⟩ = (ad, ak) := ha.symm
      rw [h1]
      dsimp only
      have h2 : l0.drop ak = f.data.toList.drop j1 := by rw [hl0, List.drop_drop, hj1]
      have h3 : l0.drop (ak + sk) = f.data.toList.drop j2 := by rw [hl0, List.drop_drop, hj2, Nat.add_assoc]
      rw [h2, ← hs]
      dsimp only
      rw [h3, ← hp]
    rw [e]
    dsimp only
    rw [hl0, List.drop_drop, show i + (ak + sk + pk) = j3 from by omega])
  clear ha hl0 hs hp hj1 hj2 hj3 hsk hpk hak
  go_enter Tryz.func55, Tryz.ntmps55
  go_upto_block 0 with (fail)
  go_cut [1] (fun x wx => x = .int .i64 (j1 : Int) ∧ Hid (RdN w wx ad))
  case first =>
    go_wp2_with fail
    go_loopw [1] (fun y wr => ∃ (j : Nat) (d : Dir), y = .int .i64 j ∧ i ≤ j ∧ j ≤ f.size ∧ Hid (RdN w wr d ∧ (ad, ak) = ((flagsR (f.data.toList.drop j) d).1, (j - i) + (flagsR (f.data.toList.drop j) d).2))) (fun y _ => f.size - (intOf y).toNat)
    case atStart => exact ⟨i, newD, rfl, Nat.le_refl _, hi, Lib.hid ⟨rdn_start w newD, HA0.out⟩⟩
    case round =>
      obtain ⟨j, t, rfl, hij, hj, HA⟩ := hrel
      by_cases hlt : j < f.size
      · have dt : decide ((j : Int) < (f.size : Int)) = true := decide_eq_true (by omega)
        have hdr := drop_get hlt
        obtain ⟨l, p, b, z, wd, pr, lt⟩ := t
        by_cases g0 : f[j].toNat = 45
        · as_aux_lemma =>
          have b0 : ((f[j].toNat : Int) == 45) = true := by rw [g0]; rfl
          have b1 : ((f[j].toNat : Int) == 43) = false := by rw [g0]; rfl
          have b2 : ((f[j].toNat : Int) == 32) = false := by rw [g0]; rfl
          have b3 : ((f[j].toNat : Int) == 48) = false := by rw [g0]; rfl
          have HX : Hid ((ad, ak) = ((flagsR (f.data.toList.drop (j + 1)) ⟨true, p, b, z, wd, pr, lt⟩).1, j + 1 - i + (flagsR (f.data.toList.drop (j + 1)) ⟨true, p, b, z, wd, pr, lt⟩).2)) := Lib.hid (by
            have e : flag1 f[j] ⟨l, p, b, z, wd, pr, lt⟩ = ⟨true, p, b, z, wd, pr, lt⟩ := by unfold flag1; rw [g0]; simp
            rw [HA.out.2, hdr, flagsR_cons _ _ _ (by omega), e]
            exact congrArg (Prod.mk _) (by dsimp only; omega))
          have HB := Lib.hid HA.out.1
          clear hdr g0
          go_upto_region 3 with (fail)
          have RU : Hid (RdN w wr.drew ⟨l, p, b, z, wd, pr, lt⟩) := Lib.hid (HB.out.next (below_drew wr))
          have hS0 : (fun w' : World => Hid (Below w.heap.size w w') ∧ w'.cell? ⟨w.heap.size + 1, 1, none⟩ = some (.bool p) ∧ w'.cell? ⟨w.heap.size + 1, 2, none⟩ = some (.bool b) ∧ w'.cell? ⟨w.heap.size + 1, 3, none⟩ = some (.bool z)) wr.drew := ⟨Lib.hid RU.out.below, RU.out.dir.c1, RU.out.dir.c2, RU.out.dir.c3⟩
          refine wp_region_held_drew (S := fun w' : World => Hid (Below w.heap.size w w') ∧ w'.cell? ⟨w.heap.size + 1, 1, none⟩ = some (.bool p) ∧ w'.cell? ⟨w.heap.size + 1, 2, none⟩ = some (.bool b) ∧ w'.cell? ⟨w.heap.size + 1, 3, none⟩ = some (.bool z)) (by kernel_rfl) hS0 (fun hS => ?_)
          clear hS
          have hS := hS0
          clear hS0
          obtain ⟨U, hU⟩ : ∃ U, U = wr.drew := ⟨_, rfl⟩
          rw [← hU] at hS RU ⊢
          clear hU
          have cK := RU.out.dir.c0
          dsimp only at hS cK
          refine takeF (i := 0) (d := 40) (v := .pointer (some ⟨w.heap.size + 1, 0, none⟩)) rfl rfl (by kernel_rfl) (by kernel_rfl) (by kernel_rfl) (fun _ _ _ h => h) (by rfl) (fun w' hSw => by obtain ⟨_, q1, q2, q3⟩ := hSw; go_simp) hS ?_
          simp only [List.setIfInBounds_toArray, List.set_cons_zero, List.set_cons_succ]
          refine takeF (i := 8) (d := 48) (v := .pointer (some ⟨w.heap.size + 1, 1, none⟩)) rfl rfl (by kernel_rfl) (by kernel_rfl) (by kernel_rfl) (fun _ _ _ h => h) (by rfl) (fun w' hSw => by obtain ⟨_, q1, q2, q3⟩ := hSw; go_simp) hS ?_
          simp only [List.setIfInBounds_toArray, List.set_cons_zero, List.set_cons_succ]
          refine takeF (i := 16) (d := 56) (v := .pointer (some ⟨w.heap.size + 1, 2, none⟩)) rfl rfl (by kernel_rfl) (by kernel_rfl) (by kernel_rfl) (fun _ _ _ h => h) (by rfl) (fun w' hSw => by obtain ⟨_, q1, q2, q3⟩ := hSw; go_simp) hS ?_
          simp only [List.setIfInBounds_toArray, List.set_cons_zero, List.set_cons_succ]
          refine takeF (i := 24) (d := 64) (v := .pointer (some ⟨w.heap.size + 1, 3, none⟩)) rfl rfl (by kernel_rfl) (by kernel_rfl) (by kernel_rfl) (fun _ _ _ h => h) (by rfl) (fun w' hSw => by obtain ⟨_, q1, q2, q3⟩ := hSw; go_simp) hS ?_
          simp only [List.setIfInBounds_toArray, List.set_cons_zero, List.set_cons_succ]
          refine takeF (i := 9) (d := 49) (v := .bool p) rfl rfl (by kernel_rfl) (by kernel_rfl) (by kernel_rfl) (fun _ _ _ h => h) (by rfl) (fun w' hSw => by obtain ⟨_, q1, q2, q3⟩ := hSw; go_simp) hS ?_
          simp only [List.setIfInBounds_toArray, List.set_cons_zero, List.set_cons_succ]
          refine takeF (i := 17) (d := 57) (v := .bool b) rfl rfl (by kernel_rfl) (by kernel_rfl) (by kernel_rfl) (fun _ _ _ h => h) (by rfl) (fun w' hSw => by obtain ⟨_, q1, q2, q3⟩ := hSw; go_simp) hS ?_
          simp only [List.setIfInBounds_toArray, List.set_cons_zero, List.set_cons_succ]
          refine takeF (i := 25) (d := 65) (v := .bool z) rfl rfl (by kernel_rfl) (by kernel_rfl) (by kernel_rfl) (fun _ _ _ h => h) (by rfl) (fun w' hSw => by obtain ⟨_, q1, q2, q3⟩ := hSw; go_simp) hS ?_
          simp only [List.setIfInBounds_toArray, List.set_cons_zero, List.set_cons_succ]
          refine wpAnyH_ready (rs := [1]) (by kernel_rfl) (by simp) ?_
          refine AllReadyH.cons rfl (fun K hK => ?_) AllReadyH.nil
          rw [if_pos (by rfl)]
          go_simp
          refine hK.out _ _ hS (fun hTr => ?_)
          clear hTr hK K
          try simp only [Act.put, List.setIfInBounds_toArray, List.set_cons_zero, List.set_cons_succ]
          refine takeF (i := 2) (d := 42) (v := .bool l) rfl rfl (by kernel_rfl) (by kernel_rfl) (by kernel_rfl) (fun _ _ _ h => h) (by rfl) (fun w' hSw => by obtain ⟨_, q1, q2, q3⟩ := hSw; go_simp) hS ?_
          simp only [List.setIfInBounds_toArray, List.set_cons_zero, List.set_cons_succ]
          refine takeE (i := 3) (d := 43) (v := .string f) (g := !l) rfl rfl (by kernel_rfl) (by kernel_rfl) (by kernel_rfl) (fun _ _ _ h => h) (by cases l <;> rfl) (fun hg w' hSw => by (try simp only [hg, cond_true]); go_simp) hS ?_
          simp only [List.setIfInBounds_toArray, List.set_cons_zero, List.set_cons_succ]
          refine takeE (i := 4) (d := 44) (v := .int .i64 (j : Int)) (g := !l) rfl rfl (by kernel_rfl) (by kernel_rfl) (by kernel_rfl) (fun _ _ _ h => h) (by cases l <;> rfl) (fun hg w' hSw => by (try simp only [hg, cond_true]); go_simp) hS ?_
          simp only [List.setIfInBounds_toArray, List.set_cons_zero, List.set_cons_succ]
          refine takeE (i := 5) (d := 45) (v := .int .u8 (f[j].toNat : Int)) (g := !l) rfl rfl (by kernel_rfl) (by kernel_rfl) (by kernel_rfl) (fun _ _ _ h => h) (by cases l <;> rfl) (fun hg w' hSw => by (try simp only [hg, cond_true]); go_simp) hS ?_
          simp only [List.setIfInBounds_toArray, List.set_cons_zero, List.set_cons_succ]
          refine takeE (i := 6) (d := 46) (v := .bool true) (g := !l) rfl rfl (by kernel_rfl) (by kernel_rfl) (by kernel_rfl) (fun _ _ _ h => h) (by cases l <;> rfl) (fun hg w' hSw => by (try simp only [hg, cond_true]); go_simp) hS ?_
          simp only [List.setIfInBounds_toArray, List.set_cons_zero, List.set_cons_succ]
          refine takeF (i := 7) (d := 47) (v := .bool true) rfl rfl (by kernel_rfl) (by kernel_rfl) (by kernel_rfl) (fun _ _ _ h => h) (by rfl) (fun w' hSw => by obtain ⟨_, q1, q2, q3⟩ := hSw; cases l <;> go_simp) hS ?_
          simp only [List.setIfInBounds_toArray, List.set_cons_zero, List.set_cons_succ]
          refine takeF (i := 10) (d := 50) (v := .bool p) rfl rfl (by kernel_rfl) (by kernel_rfl) (by kernel_rfl) (fun _ _ _ h => h) (by rfl) (fun w' hSw => by obtain ⟨_, q1, q2, q3⟩ := hSw; go_simp) hS ?_
          simp only [List.setIfInBounds_toArray, List.set_cons_zero, List.set_cons_succ]
          refine takeE (i := 11) (d := 51) (v := .string f) (g := !p) rfl rfl (by kernel_rfl) (by kernel_rfl) (by kernel_rfl) (fun _ _ _ h => h) (by cases p <;> rfl) (fun hg w' hSw => by (try simp only [hg, cond_true]); go_simp) hS ?_
          simp only [List.setIfInBounds_toArray, List.set_cons_zero, List.set_cons_succ]
          refine takeE (i := 12) (d := 52) (v := .int .i64 (j : Int)) (g := !p) rfl rfl (by kernel_rfl) (by kernel_rfl) (by kernel_rfl) (fun _ _ _ h => h) (by cases p <;> rfl) (fun hg w' hSw => by (try simp only [hg, cond_true]); go_simp) hS ?_
          simp only [List.setIfInBounds_toArray, List.set_cons_zero, List.set_cons_succ]
          refine takeE (i := 13) (d := 53) (v := .int .u8 (f[j].toNat : Int)) (g := !p) rfl rfl (by kernel_rfl) (by kernel_rfl) (by kernel_rfl) (fun _ _ _ h => h) (by cases p <;> rfl) (fun hg w' hSw => by (try simp only [hg, cond_true]); go_simp) hS ?_
          simp only [List.setIfInBounds_toArray, List.set_cons_zero, List.set_cons_succ]
          refine takeE (i := 14) (d := 54) (v := .bool false) (g := !p) rfl rfl (by kernel_rfl) (by kernel_rfl) (by kernel_rfl) (fun _ _ _ h => h) (by cases p <;> rfl) (fun hg w' hSw => by (try simp only [hg, cond_true]); go_simp) hS ?_
          simp only [List.setIfInBounds_toArray, List.set_cons_zero, List.set_cons_succ]
          refine takeF (i := 15) (d := 55) (v := .bool p) rfl rfl (by kernel_rfl) (by kernel_rfl) (by kernel_rfl) (fun _ _ _ h => h) (by rfl) (fun w' hSw => by obtain ⟨_, q1, q2, q3⟩ := hSw; cases p <;> go_simp) hS ?_
          simp only [List.setIfInBounds_toArray, List.set_cons_zero, List.set_cons_succ]
          refine takeF (i := 18) (d := 58) (v := .bool b) rfl rfl (by kernel_rfl) (by kernel_rfl) (by kernel_rfl) (fun _ _ _ h => h) (by rfl) (fun w' hSw => by obtain ⟨_, q1, q2, q3⟩ := hSw; go_simp) hS ?_
          simp only [List.setIfInBounds_toArray, List.set_cons_zero, List.set_cons_succ]
          refine takeE (i := 19) (d := 59) (v := .string f) (g := !b) rfl rfl (by kernel_rfl) (by kernel_rfl) (by kernel_rfl) (fun _ _ _ h => h) (by cases b <;> rfl) (fun hg w' hSw => by (try simp only [hg, cond_true]); go_simp) hS ?_
          simp only [List.setIfInBounds_toArray, List.set_cons_zero, List.set_cons_succ]
          refine takeE (i := 20) (d := 60) (v := .int .i64 (j : Int)) (g := !b) rfl rfl (by kernel_rfl) (by kernel_rfl) (by kernel_rfl) (fun _ _ _ h => h) (by cases b <;> rfl) (fun hg w' hSw => by (try simp only [hg, cond_true]); go_simp) hS ?_
          simp only [List.setIfInBounds_toArray, List.set_cons_zero, List.set_cons_succ]
          refine takeE (i := 21) (d := 61) (v := .int .u8 (f[j].toNat : Int)) (g := !b) rfl rfl (by kernel_rfl) (by kernel_rfl) (by kernel_rfl) (fun _ _ _ h => h) (by cases b <;> rfl) (fun hg w' hSw => by (try simp only [hg, cond_true]); go_simp) hS ?_
          simp only [List.setIfInBounds_toArray, List.set_cons_zero, List.set_cons_succ]
          refine takeE (i := 22) (d := 62) (v := .bool false) (g := !b) rfl rfl (by kernel_rfl) (by kernel_rfl) (by kernel_rfl) (fun _ _ _ h => h) (by cases b <;> rfl) (fun hg w' hSw => by (try simp only [hg, cond_true]); go_simp) hS ?_
          simp only [List.setIfInBounds_toArray, List.set_cons_zero, List.set_cons_succ]
          refine takeF (i := 23) (d := 63) (v := .bool b) rfl rfl (by kernel_rfl) (by kernel_rfl) (by kernel_rfl) (fun _ _ _ h => h) (by rfl) (fun w' hSw => by obtain ⟨_, q1, q2, q3⟩ := hSw; cases b <;> go_simp) hS ?_
          simp only [List.setIfInBounds_toArray, List.set_cons_zero, List.set_cons_succ]
          refine takeF (i := 26) (d := 66) (v := .bool z) rfl rfl (by kernel_rfl) (by kernel_rfl) (by kernel_rfl) (fun _ _ _ h => h) (by rfl) (fun w' hSw => by obtain ⟨_, q1, q2, q3⟩ := hSw; go_simp) hS ?_
          simp only [List.setIfInBounds_toArray, List.set_cons_zero, List.set_cons_succ]
          refine takeE (i := 27) (d := 67) (v := .string f) (g := !z) rfl rfl (by kernel_rfl) (by kernel_rfl) (by kernel_rfl) (fun _ _ _ h => h) (by cases z <;> rfl) (fun hg w' hSw => by (try simp only [hg, cond_true]); go_simp) hS ?_
          simp only [List.setIfInBounds_toArray, List.set_cons_zero, List.set_cons_succ]
          refine takeE (i := 28) (d := 68) (v := .int .i64 (j : Int)) (g := !z) rfl rfl (by kernel_rfl) (by kernel_rfl) (by kernel_rfl) (fun _ _ _ h => h) (by cases z <;> rfl) (fun hg w' hSw => by (try simp only [hg, cond_true]); go_simp) hS ?_
          simp only [List.setIfInBounds_toArray, List.set_cons_zero, List.set_cons_succ]
          refine takeE (i := 29) (d := 69) (v := .int .u8 (f[j].toNat : Int)) (g := !z) rfl rfl (by kernel_rfl) (by kernel_rfl) (by kernel_rfl) (fun _ _ _ h => h) (by cases z <;> rfl) (fun hg w' hSw => by (try simp only [hg, cond_true]); go_simp) hS ?_
          simp only [List.setIfInBounds_toArray, List.set_cons_zero, List.set_cons_succ]
          refine takeE (i := 30) (d := 70) (v := .bool false) (g := !z) rfl rfl (by kernel_rfl) (by kernel_rfl) (by kernel_rfl) (fun _ _ _ h => h) (by cases z <;> rfl) (fun hg w' hSw => by (try simp only [hg, cond_true]); go_simp) hS ?_
          simp only [List.setIfInBounds_toArray, List.set_cons_zero, List.set_cons_succ]
          refine takeF (i := 31) (d := 71) (v := .bool z) rfl rfl (by kernel_rfl) (by kernel_rfl) (by kernel_rfl) (fun _ _ _ h => h) (by rfl) (fun w' hSw => by obtain ⟨_, q1, q2, q3⟩ := hSw; cases z <;> go_simp) hS ?_
          simp only [List.setIfInBounds_toArray, List.set_cons_zero, List.set_cons_succ]
          refine takeF (i := 32) (d := 72) (v := .pointer (some ⟨w.heap.size + 1, 0, none⟩)) rfl rfl (by kernel_rfl) (by kernel_rfl) (by kernel_rfl) (fun _ _ _ h => h) (by rfl) (fun w' hSw => by obtain ⟨_, q1, q2, q3⟩ := hSw; go_simp) hS ?_
          simp only [List.setIfInBounds_toArray, List.set_cons_zero, List.set_cons_succ]
          have cS0 := RU.out.dir.c0
          have zS0 := RU.out.dir.z 0
          have hDw0 := RU.out.lt
          dsimp only at cS0
          refine wpAnyH_ready (rs := [33]) (by kernel_rfl) (by simp) ?_
          refine AllReadyH.cons rfl (fun K hK => ?_) AllReadyH.nil
          rw [if_pos (by rfl)]
          go_simp
          have RU0 := Lib.hid (RU.out.but (But.set (· = w.heap.size + 1) _ 0 rfl U (.bool true)) (RU.out.dir.put0 true))
          obtain ⟨U0, hU0⟩ : ∃ U0, U0 = U.setCell ⟨w.heap.size + 1, 0, none⟩ (.bool true) := ⟨_, rfl⟩
          rw [← hU0] at RU0 ⊢
          clear hU0
          have hS0 : (fun w' : World => Hid (Below w.heap.size w w') ∧ w'.cell? ⟨w.heap.size + 1, 1, none⟩ = some (.bool p) ∧ w'.cell? ⟨w.heap.size + 1, 2, none⟩ = some (.bool b) ∧ w'.cell? ⟨w.heap.size + 1, 3, none⟩ = some (.bool z)) U0 := ⟨Lib.hid RU0.out.below, RU0.out.dir.c1, RU0.out.dir.c2, RU0.out.dir.c3⟩
          refine hK.out _ _ hS0 (fun hTr => ?_)
          clear hTr hK K hS RU cS0 zS0 hDw0 cK
          have RU := RU0
          clear RU0
          have hS := hS0
          clear hS0
          dsimp only at hS RU
          clear U
          obtain ⟨U, hU⟩ : ∃ U, U = U0 := ⟨_, rfl⟩
          rw [← hU] at hS RU ⊢
          clear hU U0
          try dsimp only
          refine takeF (i := 34) (d := 73) (v := .pointer (some ⟨w.heap.size + 1, 1, none⟩)) rfl rfl (by kernel_rfl) (by kernel_rfl) (by kernel_rfl) (fun _ _ _ h => h) (by rfl) (fun w' hSw => by obtain ⟨_, q1, q2, q3⟩ := hSw; go_simp) hS ?_
          simp only [List.setIfInBounds_toArray, List.set_cons_zero, List.set_cons_succ]
          have cS1 := RU.out.dir.c1
          have zS1 := RU.out.dir.z 1
          have hDw1 := RU.out.lt
          dsimp only at cS1
          refine wpAnyH_ready (rs := [35]) (by kernel_rfl) (by simp) ?_
          refine AllReadyH.cons rfl (fun K hK => ?_) AllReadyH.nil
          rw [if_pos (by rfl)]
          go_simp
          have RU1 := Lib.hid (RU.out.but (But.set (· = w.heap.size + 1) _ 1 rfl U (.bool p)) (RU.out.dir.put1 p))
          obtain ⟨U1, hU1⟩ : ∃ U1, U1 = U.setCell ⟨w.heap.size + 1, 1, none⟩ (.bool p) := ⟨_, rfl⟩
          rw [← hU1] at RU1 ⊢
          clear hU1
          have hS1 : (fun w' : World => Hid (Below w.heap.size w w') ∧ w'.cell? ⟨w.heap.size + 1, 1, none⟩ = some (.bool p) ∧ w'.cell? ⟨w.heap.size + 1, 2, none⟩ = some (.bool b) ∧ w'.cell? ⟨w.heap.size + 1, 3, none⟩ = some (.bool z)) U1 := ⟨Lib.hid RU1.out.below, RU1.out.dir.c1, RU1.out.dir.c2, RU1.out.dir.c3⟩
          refine hK.out _ _ hS1 (fun hTr => ?_)
          clear hTr hK K hS RU cS1 zS1 hDw1
          have RU := RU1
          clear RU1
          have hS := hS1
          clear hS1
          dsimp only at hS RU
          clear U
          obtain ⟨U, hU⟩ : ∃ U, U = U1 := ⟨_, rfl⟩
          rw [← hU] at hS RU ⊢
          clear hU U1
          try dsimp only
          refine takeF (i := 36) (d := 74) (v := .pointer (some ⟨w.heap.size + 1, 2, none⟩)) rfl rfl (by kernel_rfl) (by kernel_rfl) (by kernel_rfl) (fun _ _ _ h => h) (by rfl) (fun w' hSw => by obtain ⟨_, q1, q2, q3⟩ := hSw; go_simp) hS ?_
          simp only [List.setIfInBounds_toArray, List.set_cons_zero, List.set_cons_succ]
          have cS2 := RU.out.dir.c2
          have zS2 := RU.out.dir.z 2
          have hDw2 := RU.out.lt
          dsimp only at cS2
          refine wpAnyH_ready (rs := [37]) (by kernel_rfl) (by simp) ?_
          refine AllReadyH.cons rfl (fun K hK => ?_) AllReadyH.nil
          rw [if_pos (by rfl)]
          go_simp
          have RU2 := Lib.hid (RU.out.but (But.set (· = w.heap.size + 1) _ 2 rfl U (.bool b)) (RU.out.dir.put2 b))
          obtain ⟨U2, hU2⟩ : ∃ U2, U2 = U.setCell ⟨w.heap.size + 1, 2, none⟩ (.bool b) := ⟨_, rfl⟩
          rw [← hU2] at RU2 ⊢
          clear hU2
          have hS2 : (fun w' : World => Hid (Below w.heap.size w w') ∧ w'.cell? ⟨w.heap.size + 1, 1, none⟩ = some (.bool p) ∧ w'.cell? ⟨w.heap.size + 1, 2, none⟩ = some (.bool b) ∧ w'.cell? ⟨w.heap.size + 1, 3, none⟩ = some (.bool z)) U2 := ⟨Lib.hid RU2.out.below, RU2.out.dir.c1, RU2.out.dir.c2, RU2.out.dir.c3⟩
          refine hK.out _ _ hS2 (fun hTr => ?_)
          clear hTr hK K hS RU cS2 zS2 hDw2
          have RU := RU2
          clear RU2
          have hS := hS2
          clear hS2
          dsimp only at hS RU
          clear U
          obtain ⟨U, hU⟩ : ∃ U, U = U2 := ⟨_, rfl⟩
          rw [← hU] at hS RU ⊢
          clear hU U2
          try dsimp only
          refine takeF (i := 38) (d := 75) (v := .pointer (some ⟨w.heap.size + 1, 3, none⟩)) rfl rfl (by kernel_rfl) (by kernel_rfl) (by kernel_rfl) (fun _ _ _ h => h) (by rfl) (fun w' hSw => by obtain ⟨_, q1, q2, q3⟩ := hSw; go_simp) hS ?_
          simp only [List.setIfInBounds_toArray, List.set_cons_zero, List.set_cons_succ]
          have cS3 := RU.out.dir.c3
          have zS3 := RU.out.dir.z 3
          have hDw3 := RU.out.lt
          dsimp only at cS3
          refine wpAnyH_ready (rs := [39]) (by kernel_rfl) (by simp) ?_
          refine AllReadyH.cons rfl (fun K hK => ?_) AllReadyH.nil
          rw [if_pos (by rfl)]
          go_simp
          have RU3 := Lib.hid (RU.out.but (But.set (· = w.heap.size + 1) _ 3 rfl U (.bool z)) (RU.out.dir.put3 z))
          obtain ⟨U3, hU3⟩ : ∃ U3, U3 = U.setCell ⟨w.heap.size + 1, 3, none⟩ (.bool z) := ⟨_, rfl⟩
          rw [← hU3] at RU3 ⊢
          clear hU3
          have hS3 : (fun w' : World => Hid (Below w.heap.size w w') ∧ w'.cell? ⟨w.heap.size + 1, 1, none⟩ = some (.bool p) ∧ w'.cell? ⟨w.heap.size + 1, 2, none⟩ = some (.bool b) ∧ w'.cell? ⟨w.heap.size + 1, 3, none⟩ = some (.bool z)) U3 := ⟨Lib.hid RU3.out.below, RU3.out.dir.c1, RU3.out.dir.c2, RU3.out.dir.c3⟩
          refine hK.out _ _ hS3 (fun hTr => ?_)
          clear hTr hK K hS RU cS3 zS3 hDw3
          have RU := RU3
          clear RU3
          have hS := hS3
          clear hS3
          dsimp only at hS RU
          clear U
          obtain ⟨U, hU⟩ : ∃ U, U = U3 := ⟨_, rfl⟩
          rw [← hU] at hS RU ⊢
          clear hU U3
          try dsimp only
          refine wpAnyH_done (by kernel_rfl) ?_ _
          have HRU := Lib.hid RU.out
          clear RU hS b0 b1 b2 b3
          go_wp2_with fail
          go_roundw
          case rel => exact ⟨j + 1, _, by go_num, by omega, by omega, Lib.hid ⟨HRU.out, HX.out⟩⟩
          case measure => simp [intOf]; omega
        by_cases g1 : f[j].toNat = 43
        · as_aux_lemma =>
          have b0 : ((f[j].toNat : Int) == 45) = false := by rw [g1]; rfl
          have b1 : ((f[j].toNat : Int) == 43) = true := by rw [g1]; rfl
          have b2 : ((f[j].toNat : Int) == 32) = false := by rw [g1]; rfl
          have b3 : ((f[j].toNat : Int) == 48) = false := by rw [g1]; rfl
          have HX : Hid ((ad, ak) = ((flagsR (f.data.toList.drop (j + 1)) ⟨l, true, b, z, wd, pr, lt⟩).1, j + 1 - i + (flagsR (f.data.toList.drop (j + 1)) ⟨l, true, b, z, wd, pr, lt⟩).2)) := Lib.hid (by
            have e : flag1 f[j] ⟨l, p, b, z, wd, pr, lt⟩ = ⟨l, true, b, z, wd, pr, lt⟩ := by unfold flag1; rw [g1]; simp
            rw [HA.out.2, hdr, flagsR_cons _ _ _ (by omega), e]
            exact congrArg (Prod.mk _) (by dsimp only; omega))
          have HB := Lib.hid HA.out.1
          clear hdr g1
          go_upto_region 3 with (fail)
          have RU : Hid (RdN w wr.drew ⟨l, p, b, z, wd, pr, lt⟩) := Lib.hid (HB.out.next (below_drew wr))
          have hS0 : (fun w' : World => Hid (Below w.heap.size w w') ∧ w'.cell? ⟨w.heap.size + 1, 0, none⟩ = some (.bool l) ∧ w'.cell? ⟨w.heap.size + 1, 2, none⟩ = some (.bool b) ∧ w'.cell? ⟨w.heap.size + 1, 3, none⟩ = some (.bool z)) wr.drew := ⟨Lib.hid RU.out.below, RU.out.dir.c0, RU.out.dir.c2, RU.out.dir.c3⟩
          refine wp_region_held_drew (S := fun w' : World => Hid (Below w.heap.size w w') ∧ w'.cell? ⟨w.heap.size + 1, 0, none⟩ = some (.bool l) ∧ w'.cell? ⟨w.heap.size + 1, 2, none⟩ = some (.bool b) ∧ w'.cell? ⟨w.heap.size + 1, 3, none⟩ = some (.bool z)) (by kernel_rfl) hS0 (fun hS => ?_)
          clear hS
          have hS := hS0
          clear hS0
          obtain ⟨U, hU⟩ : ∃ U, U = wr.drew := ⟨_, rfl⟩
          rw [← hU] at hS RU ⊢
          clear hU
          have cK := RU.out.dir.c1
          dsimp only at hS cK
          refine takeF (i := 0) (d := 40) (v := .pointer (some ⟨w.heap.size + 1, 0, none⟩)) rfl rfl (by kernel_rfl) (by kernel_rfl) (by kernel_rfl) (fun _ _ _ h => h) (by rfl) (fun w' hSw => by obtain ⟨_, q0, q2, q3⟩ := hSw; go_simp) hS ?_
          simp only [List.setIfInBounds_toArray, List.set_cons_zero, List.set_cons_succ]
          refine takeF (i := 8) (d := 48) (v := .pointer (some ⟨w.heap.size + 1, 1, none⟩)) rfl rfl (by kernel_rfl) (by kernel_rfl) (by kernel_rfl) (fun _ _ _ h => h) (by rfl) (fun w' hSw => by obtain ⟨_, q0, q2, q3⟩ := hSw; go_simp) hS ?_
          simp only [List.setIfInBounds_toArray, List.set_cons_zero, List.set_cons_succ]
          refine takeF (i := 16) (d := 56) (v := .pointer (some ⟨w.heap.size + 1, 2, none⟩)) rfl rfl (by kernel_rfl) (by kernel_rfl) (by kernel_rfl) (fun _ _ _ h => h) (by rfl) (fun w' hSw => by obtain ⟨_, q0, q2, q3⟩ := hSw; go_simp) hS ?_
          simp only [List.setIfInBounds_toArray, List.set_cons_zero, List.set_cons_succ]
          refine takeF (i := 24) (d := 64) (v := .pointer (some ⟨w.heap.size + 1, 3, none⟩)) rfl rfl (by kernel_rfl) (by kernel_rfl) (by kernel_rfl) (fun _ _ _ h => h) (by rfl) (fun w' hSw => by obtain ⟨_, q0, q2, q3⟩ := hSw; go_simp) hS ?_
          simp only [List.setIfInBounds_toArray, List.set_cons_zero, List.set_cons_succ]
          refine takeF (i := 1) (d := 41) (v := .bool l) rfl rfl (by kernel_rfl) (by kernel_rfl) (by kernel_rfl) (fun _ _ _ h => h) (by rfl) (fun w' hSw => by obtain ⟨_, q0, q2, q3⟩ := hSw; go_simp) hS ?_
          simp only [List.setIfInBounds_toArray, List.set_cons_zero, List.set_cons_succ]
          refine takeF (i := 17) (d := 57) (v := .bool b) rfl rfl (by kernel_rfl) (by kernel_rfl) (by kernel_rfl) (fun _ _ _ h => h) (by rfl) (fun w' hSw => by obtain ⟨_, q0, q2, q3⟩ := hSw; go_simp) hS ?_
          simp only [List.setIfInBounds_toArray, List.set_cons_zero, List.set_cons_succ]
          refine takeF (i := 25) (d := 65) (v := .bool z) rfl rfl (by kernel_rfl) (by kernel_rfl) (by kernel_rfl) (fun _ _ _ h => h) (by rfl) (fun w' hSw => by obtain ⟨_, q0, q2, q3⟩ := hSw; go_simp) hS ?_
          simp only [List.setIfInBounds_toArray, List.set_cons_zero, List.set_cons_succ]
          refine takeF (i := 2) (d := 42) (v := .bool l) rfl rfl (by kernel_rfl) (by kernel_rfl) (by kernel_rfl) (fun _ _ _ h => h) (by rfl) (fun w' hSw => by obtain ⟨_, q0, q2, q3⟩ := hSw; go_simp) hS ?_
          simp only [List.setIfInBounds_toArray, List.set_cons_zero, List.set_cons_succ]
          refine takeE (i := 3) (d := 43) (v := .string f) (g := !l) rfl rfl (by kernel_rfl) (by kernel_rfl) (by kernel_rfl) (fun _ _ _ h => h) (by cases l <;> rfl) (fun hg w' hSw => by (try simp only [hg, cond_true]); go_simp) hS ?_
          simp only [List.setIfInBounds_toArray, List.set_cons_zero, List.set_cons_succ]
          refine takeE (i := 4) (d := 44) (v := .int .i64 (j : Int)) (g := !l) rfl rfl (by kernel_rfl) (by kernel_rfl) (by kernel_rfl) (fun _ _ _ h => h) (by cases l <;> rfl) (fun hg w' hSw => by (try simp only [hg, cond_true]); go_simp) hS ?_
          simp only [List.setIfInBounds_toArray, List.set_cons_zero, List.set_cons_succ]
          refine takeE (i := 5) (d := 45) (v := .int .u8 (f[j].toNat : Int)) (g := !l) rfl rfl (by kernel_rfl) (by kernel_rfl) (by kernel_rfl) (fun _ _ _ h => h) (by cases l <;> rfl) (fun hg w' hSw => by (try simp only [hg, cond_true]); go_simp) hS ?_
          simp only [List.setIfInBounds_toArray, List.set_cons_zero, List.set_cons_succ]
          refine takeE (i := 6) (d := 46) (v := .bool false) (g := !l) rfl rfl (by kernel_rfl) (by kernel_rfl) (by kernel_rfl) (fun _ _ _ h => h) (by cases l <;> rfl) (fun hg w' hSw => by (try simp only [hg, cond_true]); go_simp) hS ?_
          simp only [List.setIfInBounds_toArray, List.set_cons_zero, List.set_cons_succ]
          refine takeF (i := 7) (d := 47) (v := .bool l) rfl rfl (by kernel_rfl) (by kernel_rfl) (by kernel_rfl) (fun _ _ _ h => h) (by rfl) (fun w' hSw => by obtain ⟨_, q0, q2, q3⟩ := hSw; cases l <;> go_simp) hS ?_
          simp only [List.setIfInBounds_toArray, List.set_cons_zero, List.set_cons_succ]
          refine wpAnyH_ready (rs := [9]) (by kernel_rfl) (by simp) ?_
          refine AllReadyH.cons rfl (fun K hK => ?_) AllReadyH.nil
          rw [if_pos (by rfl)]
          go_simp
          refine hK.out _ _ hS (fun hTr => ?_)
          clear hTr hK K
          try simp only [Act.put, List.setIfInBounds_toArray, List.set_cons_zero, List.set_cons_succ]
          refine takeF (i := 10) (d := 50) (v := .bool p) rfl rfl (by kernel_rfl) (by kernel_rfl) (by kernel_rfl) (fun _ _ _ h => h) (by rfl) (fun w' hSw => by obtain ⟨_, q0, q2, q3⟩ := hSw; go_simp) hS ?_
          simp only [List.setIfInBounds_toArray, List.set_cons_zero, List.set_cons_succ]
          refine takeE (i := 11) (d := 51) (v := .string f) (g := !p) rfl rfl (by kernel_rfl) (by kernel_rfl) (by kernel_rfl) (fun _ _ _ h => h) (by cases p <;> rfl) (fun hg w' hSw => by (try simp only [hg, cond_true]); go_simp) hS ?_
          simp only [List.setIfInBounds_toArray, List.set_cons_zero, List.set_cons_succ]
          refine takeE (i := 12) (d := 52) (v := .int .i64 (j : Int)) (g := !p) rfl rfl (by kernel_rfl) (by kernel_rfl) (by kernel_rfl) (fun _ _ _ h => h) (by cases p <;> rfl) (fun hg w' hSw => by (try simp only [hg, cond_true]); go_simp) hS ?_
          simp only [List.setIfInBounds_toArray, List.set_cons_zero, List.set_cons_succ]
          refine takeE (i := 13) (d := 53) (v := .int .u8 (f[j].toNat : Int)) (g := !p) rfl rfl (by kernel_rfl) (by kernel_rfl) (by kernel_rfl) (fun _ _ _ h => h) (by cases p <;> rfl) (fun hg w' hSw => by (try simp only [hg, cond_true]); go_simp) hS ?_
          simp only [List.setIfInBounds_toArray, List.set_cons_zero, List.set_cons_succ]
          refine takeE (i := 14) (d := 54) (v := .bool true) (g := !p) rfl rfl (by kernel_rfl) (by kernel_rfl) (by kernel_rfl) (fun _ _ _ h => h) (by cases p <;> rfl) (fun hg w' hSw => by (try simp only [hg, cond_true]); go_simp) hS ?_
          simp only [List.setIfInBounds_toArray, List.set_cons_zero, List.set_cons_succ]
          refine takeF (i := 15) (d := 55) (v := .bool true) rfl rfl (by kernel_rfl) (by kernel_rfl) (by kernel_rfl) (fun _ _ _ h => h) (by rfl) (fun w' hSw => by obtain ⟨_, q0, q2, q3⟩ := hSw; cases p <;> go_simp) hS ?_
          simp only [List.setIfInBounds_toArray, List.set_cons_zero, List.set_cons_succ]
          refine takeF (i := 18) (d := 58) (v := .bool b) rfl rfl (by kernel_rfl) (by kernel_rfl) (by kernel_rfl) (fun _ _ _ h => h) (by rfl) (fun w' hSw => by obtain ⟨_, q0, q2, q3⟩ := hSw; go_simp) hS ?_
          simp only [List.setIfInBounds_toArray, List.set_cons_zero, List.set_cons_succ]
          refine takeE (i := 19) (d := 59) (v := .string f) (g := !b) rfl rfl (by kernel_rfl) (by kernel_rfl) (by kernel_rfl) (fun _ _ _ h => h) (by cases b <;> rfl) (fun hg w' hSw => by (try simp only [hg, cond_true]); go_simp) hS ?_
          simp only [List.setIfInBounds_toArray, List.set_cons_zero, List.set_cons_succ]
          refine takeE (i := 20) (d := 60) (v := .int .i64 (j : Int)) (g := !b) rfl rfl (by kernel_rfl) (by kernel_rfl) (by kernel_rfl) (fun _ _ _ h => h) (by cases b <;> rfl) (fun hg w' hSw => by (try simp only [hg, cond_true]); go_simp) hS ?_
          simp only [List.setIfInBounds_toArray, List.set_cons_zero, List.set_cons_succ]
          refine takeE (i := 21) (d := 61) (v := .int .u8 (f[j].toNat : Int)) (g := !b) rfl rfl (by kernel_rfl) (by kernel_rfl) (by kernel_rfl) (fun _ _ _ h => h) (by cases b <;> rfl) (fun hg w' hSw => by (try simp only [hg, cond_true]); go_simp) hS ?_
          simp only [List.setIfInBounds_toArray, List.set_cons_zero, List.set_cons_succ]
          refine takeE (i := 22) (d := 62) (v := .bool false) (g := !b) rfl rfl (by kernel_rfl) (by kernel_rfl) (by kernel_rfl) (fun _ _ _ h => h) (by cases b <;> rfl) (fun hg w' hSw => by (try simp only [hg, cond_true]); go_simp) hS ?_
          simp only [List.setIfInBounds_toArray, List.set_cons_zero, List.set_cons_succ]
          refine takeF (i := 23) (d := 63) (v := .bool b) rfl rfl (by kernel_rfl) (by kernel_rfl) (by kernel_rfl) (fun _ _ _ h => h) (by rfl) (fun w' hSw => by obtain ⟨_, q0, q2, q3⟩ := hSw; cases b <;> go_simp) hS ?_
          simp only [List.setIfInBounds_toArray, List.set_cons_zero, List.set_cons_succ]
          refine takeF (i := 26) (d := 66) (v := .bool z) rfl rfl (by kernel_rfl) (by kernel_rfl) (by kernel_rfl) (fun _ _ _ h => h) (by rfl) (fun w' hSw => by obtain ⟨_, q0, q2, q3⟩ := hSw; go_simp) hS ?_
          simp only [List.setIfInBounds_toArray, List.set_cons_zero, List.set_cons_succ]
          refine takeE (i := 27) (d := 67) (v := .string f) (g := !z) rfl rfl (by kernel_rfl) (by kernel_rfl) (by kernel_rfl) (fun _ _ _ h => h) (by cases z <;> rfl) (fun hg w' hSw => by (try simp only [hg, cond_true]); go_simp) hS ?_
          simp only [List.setIfInBounds_toArray, List.set_cons_zero, List.set_cons_succ]
          refine takeE (i := 28) (d := 68) (v := .int .i64 (j : Int)) (g := !z) rfl rfl (by kernel_rfl) (by kernel_rfl) (by kernel_rfl) (fun _ _ _ h => h) (by cases z <;> rfl) (fun hg w' hSw => by (try simp only [hg, cond_true]); go_simp) hS ?_
          simp only [List.setIfInBounds_toArray, List.set_cons_zero, List.set_cons_succ]
          refine takeE (i := 29) (d := 69) (v := .int .u8 (f[j].toNat : Int)) (g := !z) rfl rfl (by kernel_rfl) (by kernel_rfl) (by kernel_rfl) (fun _ _ _ h => h) (by cases z <;> rfl) (fun hg w' hSw => by (try simp only [hg, cond_true]); go_simp) hS ?_
          simp only [List.setIfInBounds_toArray, List.set_cons_zero, List.set_cons_succ]
          refine takeE (i := 30) (d := 70) (v := .bool false) (g := !z) rfl rfl (by kernel_rfl) (by kernel_rfl) (by kernel_rfl) (fun _ _ _ h => h) (by cases z <;> rfl) (fun hg w' hSw => by (try simp only [hg, cond_true]); go_simp) hS ?_
          simp only [List.setIfInBounds_toArray, List.set_cons_zero, List.set_cons_succ]
          refine takeF (i := 31) (d := 71) (v := .bool z) rfl rfl (by kernel_rfl) (by kernel_rfl) (by kernel_rfl) (fun _ _ _ h => h) (by rfl) (fun w' hSw => by obtain ⟨_, q0, q2, q3⟩ := hSw; cases z <;> go_simp) hS ?_
          simp only [List.setIfInBounds_toArray, List.set_cons_zero, List.set_cons_succ]
          refine takeF (i := 32) (d := 72) (v := .pointer (some ⟨w.heap.size + 1, 0, none⟩)) rfl rfl (by kernel_rfl) (by kernel_rfl) (by kernel_rfl) (fun _ _ _ h => h) (by rfl) (fun w' hSw => by obtain ⟨_, q0, q2, q3⟩ := hSw; go_simp) hS ?_
          simp only [List.setIfInBounds_toArray, List.set_cons_zero, List.set_cons_succ]
          have cS0 := RU.out.dir.c0
          have zS0 := RU.out.dir.z 0
          have hDw0 := RU.out.lt
          dsimp only at cS0
          refine wpAnyH_ready (rs := [33]) (by kernel_rfl) (by simp) ?_
          refine AllReadyH.cons rfl (fun K hK => ?_) AllReadyH.nil
          rw [if_pos (by rfl)]
          go_simp
          have RU0 := Lib.hid (RU.out.but (But.set (· = w.heap.size + 1) _ 0 rfl U (.bool l)) (RU.out.dir.put0 l))
          obtain ⟨U0, hU0⟩ : ∃ U0, U0 = U.setCell ⟨w.heap.size + 1, 0, none⟩ (.bool l) := ⟨_, rfl⟩
          rw [← hU0] at RU0 ⊢
          clear hU0
          have hS0 : (fun w' : World => Hid (Below w.heap.size w w') ∧ w'.cell? ⟨w.heap.size + 1, 0, none⟩ = some (.bool l) ∧ w'.cell? ⟨w.heap.size + 1, 2, none⟩ = some (.bool b) ∧ w'.cell? ⟨w.heap.size + 1, 3, none⟩ = some (.bool z)) U0 := ⟨Lib.hid RU0.out.below, RU0.out.dir.c0, RU0.out.dir.c2, RU0.out.dir.c3⟩
          refine hK.out _ _ hS0 (fun hTr => ?_)
          clear hTr hK K hS RU cS0 zS0 hDw0 cK
          have RU := RU0
          clear RU0
          have hS := hS0
          clear hS0
          dsimp only at hS RU
          clear U
          obtain ⟨U, hU⟩ : ∃ U, U = U0 := ⟨_, rfl⟩
          rw [← hU] at hS RU ⊢
          clear hU U0
          try dsimp only
          refine takeF (i := 34) (d := 73) (v := .pointer (some ⟨w.heap.size + 1, 1, none⟩)) rfl rfl (by kernel_rfl) (by kernel_rfl) (by kernel_rfl) (fun _ _ _ h => h) (by rfl) (fun w' hSw => by obtain ⟨_, q0, q2, q3⟩ := hSw; go_simp) hS ?_
          simp only [List.setIfInBounds_toArray, List.set_cons_zero, List.set_cons_succ]
          have cS1 := RU.out.dir.c1
          have zS1 := RU.out.dir.z 1
          have hDw1 := RU.out.lt
          dsimp only at cS1
          refine wpAnyH_ready (rs := [35]) (by kernel_rfl) (by simp) ?_
          refine AllReadyH.cons rfl (fun K hK => ?_) AllReadyH.nil
          rw [if_pos (by rfl)]
          go_simp
          have RU1 := Lib.hid (RU.out.but (But.set (· = w.heap.size + 1) _ 1 rfl U (.bool true)) (RU.out.dir.put1 true))
          obtain ⟨U1, hU1⟩ : ∃ U1, U1 = U.setCell ⟨w.heap.size + 1, 1, none⟩ (.bool true) := ⟨_, rfl⟩
          rw [← hU1] at RU1 ⊢
          clear hU1
          have hS1 : (fun w' : World => Hid (Below w.heap.size w w') ∧ w'.cell? ⟨w.heap.size + 1, 0, none⟩ = some (.bool l) ∧ w'.cell? ⟨w.heap.size + 1, 2, none⟩ = some (.bool b) ∧ w'.cell? ⟨w.heap.size + 1, 3, none⟩ = some (.bool z)) U1 := ⟨Lib.hid RU1.out.below, RU1.out.dir.c0, RU1.out.dir.c2, RU1.out.dir.c3⟩
          refine hK.out _ _ hS1 (fun hTr => ?_)
          clear hTr hK K hS RU cS1 zS1 hDw1
          have RU := RU1
          clear RU1
          have hS := hS1
          clear hS1
          dsimp only at hS RU
          clear U
          obtain ⟨U, hU⟩ : ∃ U, U = U1 := ⟨_, rfl⟩
          rw [← hU] at hS RU ⊢
          clear hU U1
          try dsimp only
          refine takeF (i := 36) (d := 74) (v := .pointer (some ⟨w.heap.size + 1, 2, none⟩)) rfl rfl (by kernel_rfl) (by kernel_rfl) (by kernel_rfl) (fun _ _ _ h => h) (by rfl) (fun w' hSw => by obtain ⟨_, q0, q2, q3⟩ := hSw; go_simp) hS ?_
          simp only [List.setIfInBounds_toArray, List.set_cons_zero, List.set_cons_succ]
          have cS2 := RU.out.dir.c2
          have zS2 := RU.out.dir.z 2
          have hDw2 := RU.out.lt
          dsimp only at cS2
          refine wpAnyH_ready (rs := [37]) (by kernel_rfl) (by simp) ?_
          refine AllReadyH.cons rfl (fun K hK => ?_) AllReadyH.nil
          rw [if_pos (by rfl)]
          go_simp
          have RU2 := Lib.hid (RU.out.but (But.set (· = w.heap.size + 1) _ 2 rfl U (.bool b)) (RU.out.dir.put2 b))
          obtain ⟨U2, hU2⟩ : ∃ U2, U2 = U.setCell ⟨w.heap.size + 1, 2, none⟩ (.bool b) := ⟨_, rfl⟩
          rw [← hU2] at RU2 ⊢
          clear hU2
          have hS2 : (fun w' : World => Hid (Below w.heap.size w w') ∧ w'.cell? ⟨w.heap.size + 1, 0, none⟩ = some (.bool l) ∧ w'.cell? ⟨w.heap.size + 1, 2, none⟩ = some (.bool b) ∧ w'.cell? ⟨w.heap.size + 1, 3, none⟩ = some (.bool z)) U2 := ⟨Lib.hid RU2.out.below, RU2.out.dir.c0, RU2.out.dir.c2, RU2.out.dir.c3⟩
          refine hK.out _ _ hS2 (fun hTr => ?_)
          clear hTr hK K hS RU cS2 zS2 hDw2
          have RU := RU2
          clear RU2
          have hS := hS2
          clear hS2
          dsimp only at hS RU
          clear U
          obtain ⟨U, hU⟩ : ∃ U, U = U2 := ⟨_, rfl⟩
          rw [← hU] at hS RU ⊢
          clear hU U2
          try dsimp only
          refine takeF (i := 38) (d := 75) (v := .pointer (some ⟨w.heap.size + 1, 3, none⟩)) rfl rfl (by kernel_rfl) (by kernel_rfl) (by kernel_rfl) (fun _ _ _ h => h) (by rfl) (fun w' hSw => by obtain ⟨_, q0, q2, q3⟩ := hSw; go_simp) hS ?_
          simp only [List.setIfInBounds_toArray, List.set_cons_zero, List.set_cons_succ]
          have cS3 := RU.out.dir.c3
          have zS3 := RU.out.dir.z 3
          have hDw3 := RU.out.lt
          dsimp only at cS3
          refine wpAnyH_ready (rs := [39]) (by kernel_rfl) (by simp) ?_
          refine AllReadyH.cons rfl (fun K hK => ?_) AllReadyH.nil
          rw [if_pos (by rfl)]
          go_simp
          have RU3 := Lib.hid (RU.out.but (But.set (· = w.heap.size + 1) _ 3 rfl U (.bool z)) (RU.out.dir.put3 z))
          obtain ⟨U3, hU3⟩ : ∃ U3, U3 = U.setCell ⟨w.heap.size + 1, 3, none⟩ (.bool z) := ⟨_, rfl⟩
          rw [← hU3] at RU3 ⊢
          clear hU3
          have hS3 : (fun w' : World => Hid (Below w.heap.size w w') ∧ w'.cell? ⟨w.heap.size + 1, 0, none⟩ = some (.bool l) ∧ w'.cell? ⟨w.heap.size + 1, 2, none⟩ = some (.bool b) ∧ w'.cell? ⟨w.heap.size + 1, 3, none⟩ = some (.bool z)) U3 := ⟨Lib.hid RU3.out.below, RU3.out.dir.c0, RU3.out.dir.c2, RU3.out.dir.c3⟩
          refine hK.out _ _ hS3 (fun hTr => ?_)
          clear hTr hK K hS RU cS3 zS3 hDw3
          have RU := RU3
          clear RU3
          have hS := hS3
          clear hS3
          dsimp only at hS RU
          clear U
          obtain ⟨U, hU⟩ : ∃ U, U = U3 := ⟨_, rfl⟩
          rw [← hU] at hS RU ⊢
          clear hU U3
          try dsimp only
          refine wpAnyH_done (by kernel_rfl) ?_ _
          have HRU := Lib.hid RU.out
          clear RU hS b0 b1 b2 b3
          go_wp2_with fail
          go_roundw
          case rel => exact ⟨j + 1, _, by go_num, by omega, by omega, Lib.hid ⟨HRU.out, HX.out⟩⟩
          case measure => simp [intOf]; omega
        by_cases g2 : f[j].toNat = 32
        · as_aux_lemma =>
          have b0 : ((f[j].toNat : Int) == 45) = false := by rw [g2]; rfl
          have b1 : ((f[j].toNat : Int) == 43) = false := by rw [g2]; rfl
          have b2 : ((f[j].toNat : Int) == 32) = true := by rw [g2]; rfl
          have b3 : ((f[j].toNat : Int) == 48) = false := by rw [g2]; rfl
          have HX : Hid ((ad, ak) = ((flagsR (f.data.toList.drop (j + 1)) ⟨l, p, true, z, wd, pr, lt⟩).1, j + 1 - i + (flagsR (f.data.toList.drop (j + 1)) ⟨l, p, true, z, wd, pr, lt⟩).2)) := Lib.hid (by
            have e : flag1 f[j] ⟨l, p, b, z, wd, pr, lt⟩ = ⟨l, p, true, z, wd, pr, lt⟩ := by unfold flag1; rw [g2]; simp
            rw [HA.out.2, hdr, flagsR_cons _ _ _ (by omega), e]
            exact congrArg (Prod.mk _) (by dsimp only; omega))
          have HB := Lib.hid HA.out.1
          clear hdr g2
          go_upto_region 3 with (fail)
          have RU : Hid (RdN w wr.drew ⟨l, p, b, z, wd, pr, lt⟩) := Lib.hid (HB.out.next (below_drew wr))
          have hS0 : (fun w' : World => Hid (Below w.heap.size w w') ∧ w'.cell? ⟨w.heap.size + 1, 0, none⟩ = some (.bool l) ∧ w'.cell? ⟨w.heap.size + 1, 1, none⟩ = some (.bool p) ∧ w'.cell? ⟨w.heap.size + 1, 3, none⟩ = some (.bool z)) wr.drew := ⟨Lib.hid RU.out.below, RU.out.dir.c0, RU.out.dir.c1, RU.out.dir.c3⟩
          refine wp_region_held_drew (S := fun w' : World => Hid (Below w.heap.size w w') ∧ w'.cell? ⟨w.heap.size + 1, 0, none⟩ = some (.bool l) ∧ w'.cell? ⟨w.heap.size + 1, 1, none⟩ = some (.bool p) ∧ w'.cell? ⟨w.heap.size + 1, 3, none⟩ = some (.bool z)) (by kernel_rfl) hS0 (fun hS => ?_)
          clear hS
          have hS := hS0
          clear hS0
          obtain ⟨U, hU⟩ : ∃ U, U = wr.drew := ⟨_, rfl⟩
          rw [← hU] at hS RU ⊢
          clear hU
          have cK := RU.out.dir.c2
          dsimp only at hS cK
          refine takeF (i := 0) (d := 40) (v := .pointer (some ⟨w.heap.size + 1, 0, none⟩)) rfl rfl (by kernel_rfl) (by kernel_rfl) (by kernel_rfl) (fun _ _ _ h => h) (by rfl) (fun w' hSw => by obtain ⟨_, q0, q1, q3⟩ := hSw; go_simp) hS ?_
          simp only [List.setIfInBounds_toArray, List.set_cons_zero, List.set_cons_succ]
          refine takeF (i := 8) (d := 48) (v := .pointer (some ⟨w.heap.size + 1, 1, none⟩)) rfl rfl (by kernel_rfl) (by kernel_rfl) (by kernel_rfl) (fun _ _ _ h => h) (by rfl) (fun w' hSw => by obtain ⟨_, q0, q1, q3⟩ := hSw; go_simp) hS ?_
          simp only [List.setIfInBounds_toArray, List.set_cons_zero, List.set_cons_succ]
          refine takeF (i := 16) (d := 56) (v := .pointer (some ⟨w.heap.size + 1, 2, none⟩)) rfl rfl (by kernel_rfl) (by kernel_rfl) (by kernel_rfl) (fun _ _ _ h => h) (by rfl) (fun w' hSw => by obtain ⟨_, q0, q1, q3⟩ := hSw; go_simp) hS ?_
          simp only [List.setIfInBounds_toArray, List.set_cons_zero, List.set_cons_succ]
          refine takeF (i := 24) (d := 64) (v := .pointer (some ⟨w.heap.size + 1, 3, none⟩)) rfl rfl (by kernel_rfl) (by kernel_rfl) (by kernel_rfl) (fun _ _ _ h => h) (by rfl) (fun w' hSw => by obtain ⟨_, q0, q1, q3⟩ := hSw; go_simp) hS ?_
          simp only [List.setIfInBounds_toArray, List.set_cons_zero, List.set_cons_succ]
          refine takeF (i := 1) (d := 41) (v := .bool l) rfl rfl (by kernel_rfl) (by kernel_rfl) (by kernel_rfl) (fun _ _ _ h => h) (by rfl) (fun w' hSw => by obtain ⟨_, q0, q1, q3⟩ := hSw; go_simp) hS ?_
          simp only [List.setIfInBounds_toArray, List.set_cons_zero, List.set_cons_succ]
          refine takeF (i := 9) (d := 49) (v := .bool p) rfl rfl (by kernel_rfl) (by kernel_rfl) (by kernel_rfl) (fun _ _ _ h => h) (by rfl) (fun w' hSw => by obtain ⟨_, q0, q1, q3⟩ := hSw; go_simp) hS ?_
          simp only [List.setIfInBounds_toArray, List.set_cons_zero, List.set_cons_succ]
          refine takeF (i := 25) (d := 65) (v := .bool z) rfl rfl (by kernel_rfl) (by kernel_rfl) (by kernel_rfl) (fun _ _ _ h => h) (by rfl) (fun w' hSw => by obtain ⟨_, q0, q1, q3⟩ := hSw; go_simp) hS ?_
          simp only [List.setIfInBounds_toArray, List.set_cons_zero, List.set_cons_succ]
          refine takeF (i := 2) (d := 42) (v := .bool l) rfl rfl (by kernel_rfl) (by kernel_rfl) (by kernel_rfl) (fun _ _ _ h => h) (by rfl) (fun w' hSw => by obtain ⟨_, q0, q1, q3⟩ := hSw; go_simp) hS ?_
          simp only [List.setIfInBounds_toArray, List.set_cons_zero, List.set_cons_succ]
          refine takeE (i := 3) (d := 43) (v := .string f) (g := !l) rfl rfl (by kernel_rfl) (by kernel_rfl) (by kernel_rfl) (fun _ _ _ h => h) (by cases l <;> rfl) (fun hg w' hSw => by (try simp only [hg, cond_true]); go_simp) hS ?_
          simp only [List.setIfInBounds_toArray, List.set_cons_zero, List.set_cons_succ]
          refine takeE (i := 4) (d := 44) (v := .int .i64 (j : Int)) (g := !l) rfl rfl (by kernel_rfl) (by kernel_rfl) (by kernel_rfl) (fun _ _ _ h => h) (by cases l <;> rfl) (fun hg w' hSw => by (try simp only [hg, cond_true]); go_simp) hS ?_
          simp only [List.setIfInBounds_toArray, List.set_cons_zero, List.set_cons_succ]
          refine takeE (i := 5) (d := 45) (v := .int .u8 (f[j].toNat : Int)) (g := !l) rfl rfl (by kernel_rfl) (by kernel_rfl) (by kernel_rfl) (fun _ _ _ h => h) (by cases l <;> rfl) (fun hg w' hSw => by (try simp only [hg, cond_true]); go_simp) hS ?_
          simp only [List.setIfInBounds_toArray, List.set_cons_zero, List.set_cons_succ]
          refine takeE (i := 6) (d := 46) (v := .bool false) (g := !l) rfl rfl (by kernel_rfl) (by kernel_rfl) (by kernel_rfl) (fun _ _ _ h => h) (by cases l <;> rfl) (fun hg w' hSw => by (try simp only [hg, cond_true]); go_simp) hS ?_
          simp only [List.setIfInBounds_toArray, List.set_cons_zero, List.set_cons_succ]
          refine takeF (i := 7) (d := 47) (v := .bool l) rfl rfl (by kernel_rfl) (by kernel_rfl) (by kernel_rfl) (fun _ _ _ h => h) (by rfl) (fun w' hSw => by obtain ⟨_, q0, q1, q3⟩ := hSw; cases l <;> go_simp) hS ?_
          simp only [List.setIfInBounds_toArray, List.set_cons_zero, List.set_cons_succ]
          refine takeF (i := 10) (d := 50) (v := .bool p) rfl rfl (by kernel_rfl) (by kernel_rfl) (by kernel_rfl) (fun _ _ _ h => h) (by rfl) (fun w' hSw => by obtain ⟨_, q0, q1, q3⟩ := hSw; go_simp) hS ?_
          simp only [List.setIfInBounds_toArray, List.set_cons_zero, List.set_cons_succ]
          refine takeE (i := 11) (d := 51) (v := .string f) (g := !p) rfl rfl (by kernel_rfl) (by kernel_rfl) (by kernel_rfl) (fun _ _ _ h => h) (by cases p <;> rfl) (fun hg w' hSw => by (try simp only [hg, cond_true]); go_simp) hS ?_
          simp only [List.setIfInBounds_toArray, List.set_cons_zero, List.set_cons_succ]
          refine takeE (i := 12) (d := 52) (v := .int .i64 (j : Int)) (g := !p) rfl rfl (by kernel_rfl) (by kernel_rfl) (by kernel_rfl) (fun _ _ _ h => h) (by cases p <;> rfl) (fun hg w' hSw => by (try simp only [hg, cond_true]); go_simp) hS ?_
          simp only [List.setIfInBounds_toArray, List.set_cons_zero, List.set_cons_succ]
          refine takeE (i := 13) (d := 53) (v := .int .u8 (f[j].toNat : Int)) (g := !p) rfl rfl (by kernel_rfl) (by kernel_rfl) (by kernel_rfl) (fun _ _ _ h => h) (by cases p <;> rfl) (fun hg w' hSw => by (try simp only [hg, cond_true]); go_simp) hS ?_
          simp only [List.setIfInBounds_toArray, List.set_cons_zero, List.set_cons_succ]
          refine takeE (i := 14) (d := 54) (v := .bool false) (g := !p) rfl rfl (by kernel_rfl) (by kernel_rfl) (by kernel_rfl) (fun _ _ _ h => h) (by cases p <;> rfl) (fun hg w' hSw => by (try simp only [hg, cond_true]); go_simp) hS ?_
          simp only [List.setIfInBounds_toArray, List.set_cons_zero, List.set_cons_succ]
          refine takeF (i := 15) (d := 55) (v := .bool p) rfl rfl (by kernel_rfl) (by kernel_rfl) (by kernel_rfl) (fun _ _ _ h => h) (by rfl) (fun w' hSw => by obtain ⟨_, q0, q1, q3⟩ := hSw; cases p <;> go_simp) hS ?_
          simp only [List.setIfInBounds_toArray, List.set_cons_zero, List.set_cons_succ]
          refine wpAnyH_ready (rs := [17]) (by kernel_rfl) (by simp) ?_
          refine AllReadyH.cons rfl (fun K hK => ?_) AllReadyH.nil
          rw [if_pos (by rfl)]
          go_simp
          refine hK.out _ _ hS (fun hTr => ?_)
          clear hTr hK K
          try simp only [Act.put, List.setIfInBounds_toArray, List.set_cons_zero, List.set_cons_succ]
          refine takeF (i := 18) (d := 58) (v := .bool b) rfl rfl (by kernel_rfl) (by kernel_rfl) (by kernel_rfl) (fun _ _ _ h => h) (by rfl) (fun w' hSw => by obtain ⟨_, q0, q1, q3⟩ := hSw; go_simp) hS ?_
          simp only [List.setIfInBounds_toArray, List.set_cons_zero, List.set_cons_succ]
          refine takeE (i := 19) (d := 59) (v := .string f) (g := !b) rfl rfl (by kernel_rfl) (by kernel_rfl) (by kernel_rfl) (fun _ _ _ h => h) (by cases b <;> rfl) (fun hg w' hSw => by (try simp only [hg, cond_true]); go_simp) hS ?_
          simp only [List.setIfInBounds_toArray, List.set_cons_zero, List.set_cons_succ]
          refine takeE (i := 20) (d := 60) (v := .int .i64 (j : Int)) (g := !b) rfl rfl (by kernel_rfl) (by kernel_rfl) (by kernel_rfl) (fun _ _ _ h => h) (by cases b <;> rfl) (fun hg w' hSw => by (try simp only [hg, cond_true]); go_simp) hS ?_
          simp only [List.setIfInBounds_toArray, List.set_cons_zero, List.set_cons_succ]
          refine takeE (i := 21) (d := 61) (v := .int .u8 (f[j].toNat : Int)) (g := !b) rfl rfl (by kernel_rfl) (by kernel_rfl) (by kernel_rfl) (fun _ _ _ h => h) (by cases b <;> rfl) (fun hg w' hSw => by (try simp only [hg, cond_true]); go_simp) hS ?_
          simp only [List.setIfInBounds_toArray, List.set_cons_zero, List.set_cons_succ]
          refine takeE (i := 22) (d := 62) (v := .bool true) (g := !b) rfl rfl (by kernel_rfl) (by kernel_rfl) (by kernel_rfl) (fun _ _ _ h => h) (by cases b <;> rfl) (fun hg w' hSw => by (try simp only [hg, cond_true]); go_simp) hS ?_
          simp only [List.setIfInBounds_toArray, List.set_cons_zero, List.set_cons_succ]
          refine takeF (i := 23) (d := 63) (v := .bool true) rfl rfl (by kernel_rfl) (by kernel_rfl) (by kernel_rfl) (fun _ _ _ h => h) (by rfl) (fun w' hSw => by obtain ⟨_, q0, q1, q3⟩ := hSw; cases b <;> go_simp) hS ?_
          simp only [List.setIfInBounds_toArray, List.set_cons_zero, List.set_cons_succ]
          refine takeF (i := 26) (d := 66) (v := .bool z) rfl rfl (by kernel_rfl) (by kernel_rfl) (by kernel_rfl) (fun _ _ _ h => h) (by rfl) (fun w' hSw => by obtain ⟨_, q0, q1, q3⟩ := hSw; go_simp) hS ?_
          simp only [List.setIfInBounds_toArray, List.set_cons_zero, List.set_cons_succ]
          refine takeE (i := 27) (d := 67) (v := .string f) (g := !z) rfl rfl (by kernel_rfl) (by kernel_rfl) (by kernel_rfl) (fun _ _ _ h => h) (by cases z <;> rfl) (fun hg w' hSw => by (try simp only [hg, cond_true]); go_simp) hS ?_
          simp only [List.setIfInBounds_toArray, List.set_cons_zero, List.set_cons_succ]
          refine takeE (i := 28) (d := 68) (v := .int .i64 (j : Int)) (g := !z) rfl rfl (by kernel_rfl) (by kernel_rfl) (by kernel_rfl) (fun _ _ _ h => h) (by cases z <;> rfl) (fun hg w' hSw => by (try simp only [hg, cond_true]); go_simp) hS ?_
          simp only [List.setIfInBounds_toArray, List.set_cons_zero, List.set_cons_succ]
          refine takeE (i := 29) (d := 69) (v := .int .u8 (f[j].toNat : Int)) (g := !z) rfl rfl (by kernel_rfl) (by kernel_rfl) (by kernel_rfl) (fun _ _ _ h => h) (by cases z <;> rfl) (fun hg w' hSw => by (try simp only [hg, cond_true]); go_simp) hS ?_
          simp only [List.setIfInBounds_toArray, List.set_cons_zero, List.set_cons_succ]
          refine takeE (i := 30) (d := 70) (v := .bool false) (g := !z) rfl rfl (by kernel_rfl) (by kernel_rfl) (by kernel_rfl) (fun _ _ _ h => h) (by cases z <;> rfl) (fun hg w' hSw => by (try simp only [hg, cond_true]); go_simp) hS ?_
          simp only [List.setIfInBounds_toArray, List.set_cons_zero, List.set_cons_succ]
          refine takeF (i := 31) (d := 71) (v := .bool z) rfl rfl (by kernel_rfl) (by kernel_rfl) (by kernel_rfl) (fun _ _ _ h => h) (by rfl) (fun w' hSw => by obtain ⟨_, q0, q1, q3⟩ := hSw; cases z <;> go_simp) hS ?_
          simp only [List.setIfInBounds_toArray, List.set_cons_zero, List.set_cons_succ]
          refine takeF (i := 32) (d := 72) (v := .pointer (some ⟨w.heap.size + 1, 0, none⟩)) rfl rfl (by kernel_rfl) (by kernel_rfl) (by kernel_rfl) (fun _ _ _ h => h) (by rfl) (fun w' hSw => by obtain ⟨_, q0, q1, q3⟩ := hSw; go_simp) hS ?_
          simp only [List.setIfInBounds_toArray, List.set_cons_zero, List.set_cons_succ]
          have cS0 := RU.out.dir.c0
          have zS0 := RU.out.dir.z 0
          have hDw0 := RU.out.lt
          dsimp only at cS0
          refine wpAnyH_ready (rs := [33]) (by kernel_rfl) (by simp) ?_
          refine AllReadyH.cons rfl (fun K hK => ?_) AllReadyH.nil
          rw [if_pos (by rfl)]
          go_simp
          have RU0 := Lib.hid (RU.out.but (But.set (· = w.heap.size + 1) _ 0 rfl U (.bool l)) (RU.out.dir.put0 l))
          obtain ⟨U0, hU0⟩ : ∃ U0, U0 = U.setCell ⟨w.heap.size + 1, 0, none⟩ (.bool l) := ⟨_, rfl⟩
          rw [← hU0] at RU0 ⊢
          clear hU0
          have hS0 : (fun w' : World => Hid (Below w.heap.size w w') ∧ w'.cell? ⟨w.heap.size + 1, 0, none⟩ = some (.bool l) ∧ w'.cell? ⟨w.heap.size + 1, 1, none⟩ = some (.bool p) ∧ w'.cell? ⟨w.heap.size + 1, 3, none⟩ = some (.bool z)) U0 := ⟨Lib.hid RU0.out.below, RU0.out.dir.c0, RU0.out.dir.c1, RU0.out.dir.c3⟩
          refine hK.out _ _ hS0 (fun hTr => ?_)
          clear hTr hK K hS RU cS0 zS0 hDw0 cK
          have RU := RU0
          clear RU0
          have hS := hS0
          clear hS0
          dsimp only at hS RU
          clear U
          obtain ⟨U, hU⟩ : ∃ U, U = U0 := ⟨_, rfl⟩
          rw [← hU] at hS RU ⊢
          clear hU U0
          try dsimp only
          refine takeF (i := 34) (d := 73) (v := .pointer (some ⟨w.heap.size + 1, 1, none⟩)) rfl rfl (by kernel_rfl) (by kernel_rfl) (by kernel_rfl) (fun _ _ _ h => h) (by rfl) (fun w' hSw => by obtain ⟨_, q0, q1, q3⟩ := hSw; go_simp) hS ?_
          simp only [List.setIfInBounds_toArray, List.set_cons_zero, List.set_cons_succ]
          have cS1 := RU.out.dir.c1
          have zS1 := RU.out.dir.z 1
          have hDw1 := RU.out.lt
          dsimp only at cS1
          refine wpAnyH_ready (rs := [35]) (by kernel_rfl) (by simp) ?_
          refine AllReadyH.cons rfl (fun K hK => ?_) AllReadyH.nil
          rw [if_pos (by rfl)]
          go_simp
          have RU1 := Lib.hid (RU.out.but (But.set (· = w.heap.size + 1) _ 1 rfl U (.bool p)) (RU.out.dir.put1 p))
          obtain ⟨U1, hU1⟩ : ∃ U1, U1 = U.setCell ⟨w.heap.size + 1, 1, none⟩ (.bool p) := ⟨_, rfl⟩
          rw [← hU1] at RU1 ⊢
          clear hU1
          have hS1 : (fun w' : World => Hid (Below w.heap.size w w') ∧ w'.cell? ⟨w.heap.size + 1, 0, none⟩ = some (.bool l) ∧ w'.cell? ⟨w.heap.size + 1, 1, none⟩ = some (.bool p) ∧ w'.cell? ⟨w.heap.size + 1, 3, none⟩ = some (.bool z)) U1 := ⟨Lib.hid RU1.out.below, RU1.out.dir.c0, RU1.out.dir.c1, RU1.out.dir.c3⟩
          refine hK.out _ _ hS1 (fun hTr => ?_)
          clear hTr hK K hS RU cS1 zS1 hDw1
          have RU := RU1
          clear RU1
          have hS := hS1
          clear hS1
          dsimp only at hS RU
          clear U
          obtain ⟨U, hU⟩ : ∃ U, U = U1 := ⟨_, rfl⟩
          rw [← hU] at hS RU ⊢
          clear hU U1
          try dsimp only
          refine takeF (i := 36) (d := 74) (v := .pointer (some ⟨w.heap.size + 1, 2, none⟩)) rfl rfl (by kernel_rfl) (by kernel_rfl) (by kernel_rfl) (fun _ _ _ h => h) (by rfl) (fun w' hSw => by obtain ⟨_, q0, q1, q3⟩ := hSw; go_simp) hS ?_
          simp only [List.setIfInBounds_toArray, List.set_cons_zero, List.set_cons_succ]
          have cS2 := RU.out.dir.c2
          have zS2 := RU.out.dir.z 2
          have hDw2 := RU.out.lt
          dsimp only at cS2
          refine wpAnyH_ready (rs := [37]) (by kernel_rfl) (by simp) ?_
          refine AllReadyH.cons rfl (fun K hK => ?_) AllReadyH.nil
          rw [if_pos (by rfl)]
          go_simp
          have RU2 := Lib.hid (RU.out.but (But.set (· = w.heap.size + 1) _ 2 rfl U (.bool true)) (RU.out.dir.put2 true))
          obtain ⟨U2, hU2⟩ : ∃ U2, U2 = U.setCell ⟨w.heap.size + 1, 2, none⟩ (.bool true) := ⟨_, rfl⟩
          rw [← hU2] at RU2 ⊢
          clear hU2
          have hS2 : (fun w' : World => Hid (Below w.heap.size w w') ∧ w'.cell? ⟨w.heap.size + 1, 0, none⟩ = some (.bool l) ∧ w'.cell? ⟨w.heap.size + 1, 1, none⟩ = some (.bool p) ∧ w'.cell? ⟨w.heap.size + 1, 3, none⟩ = some (.bool z)) U2 := ⟨Lib.hid RU2.out.below, RU2.out.dir.c0, RU2.out.dir.c1, RU2.out.dir.c3⟩
          refine hK.out _ _ hS2 (fun hTr => ?_)
          clear hTr hK K hS RU cS2 zS2 hDw2
          have RU := RU2
          clear RU2
          have hS := hS2
          clear hS2
          dsimp only at hS RU
          clear U
          obtain ⟨U, hU⟩ : ∃ U, U = U2 := ⟨_, rfl⟩
          rw [← hU] at hS RU ⊢
          clear hU U2
          try dsimp only
          refine takeF (i := 38) (d := 75) (v := .pointer (some ⟨w.heap.size + 1, 3, none⟩)) rfl rfl (by kernel_rfl) (by kernel_rfl) (by kernel_rfl) (fun _ _ _ h => h) (by rfl) (fun w' hSw => by obtain ⟨_, q0, q1, q3⟩ := hSw; go_simp) hS ?_
          simp only [List.setIfInBounds_toArray, List.set_cons_zero, List.set_cons_succ]
          have cS3 := RU.out.dir.c3
          have zS3 := RU.out.dir.z 3
          have hDw3 := RU.out.lt
          dsimp only at cS3
          refine wpAnyH_ready (rs := [39]) (by kernel_rfl) (by simp) ?_
          refine AllReadyH.cons rfl (fun K hK => ?_) AllReadyH.nil
          rw [if_pos (by rfl)]
          go_simp
          have RU3 := Lib.hid (RU.out.but (But.set (· = w.heap.size + 1) _ 3 rfl U (.bool z)) (RU.out.dir.put3 z))
          obtain ⟨U3, hU3⟩ : ∃ U3, U3 = U.setCell ⟨w.heap.size + 1, 3, none⟩ (.bool z) := ⟨_, rfl⟩
          rw [← hU3] at RU3 ⊢
          clear hU3
          have hS3 : (fun w' : World => Hid (Below w.heap.size w w') ∧ w'.cell? ⟨w.heap.size + 1, 0, none⟩ = some (.bool l) ∧ w'.cell? ⟨w.heap.size + 1, 1, none⟩ = some (.bool p) ∧ w'.cell? ⟨w.heap.size + 1, 3, none⟩ = some (.bool z)) U3 := ⟨Lib.hid RU3.out.below, RU3.out.dir.c0, RU3.out.dir.c1, RU3.out.dir.c3⟩
          refine hK.out _ _ hS3 (fun hTr => ?_)
          clear hTr hK K hS RU cS3 zS3 hDw3
          have RU := RU3
          clear RU3
          have hS := hS3
          clear hS3
          dsimp only at hS RU
          clear U
          obtain ⟨U, hU⟩ : ∃ U, U = U3 := ⟨_, rfl⟩
          rw [← hU] at hS RU ⊢
          clear hU U3
          try dsimp only
          refine wpAnyH_done (by kernel_rfl) ?_ _
          have HRU := Lib.hid RU.out
          clear RU hS b0 b1 b2 b3
          go_wp2_with fail
          go_roundw
          case rel => exact ⟨j + 1, _, by go_num, by omega, by omega, Lib.hid ⟨HRU.out, HX.out⟩⟩
          case measure => simp [intOf]; omega
        by_cases g3 : f[j].toNat = 48
        · as_aux_lemma =>
          have b0 : ((f[j].toNat : Int) == 45) = false := by rw [g3]; rfl
          have b1 : ((f[j].toNat : Int) == 43) = false := by rw [g3]; rfl
          have b2 : ((f[j].toNat : Int) == 32) = false := by rw [g3]; rfl
          have b3 : ((f[j].toNat : Int) == 48) = true := by rw [g3]; rfl
          have HX : Hid ((ad, ak) = ((flagsR (f.data.toList.drop (j + 1)) ⟨l, p, b, true, wd, pr, lt⟩).1, j + 1 - i + (flagsR (f.data.toList.drop (j + 1)) ⟨l, p, b, true, wd, pr, lt⟩).2)) := Lib.hid (by
            have e : flag1 f[j] ⟨l, p, b, z, wd, pr, lt⟩ = ⟨l, p, b, true, wd, pr, lt⟩ := by unfold flag1; rw [g3]; simp
            rw [HA.out.2, hdr, flagsR_cons _ _ _ (by omega), e]
            exact congrArg (Prod.mk _) (by dsimp only; omega))
          have HB := Lib.hid HA.out.1
          clear hdr g3
          go_upto_region 3 with (fail)
          have RU : Hid (RdN w wr.drew ⟨l, p, b, z, wd, pr, lt⟩) := Lib.hid (HB.out.next (below_drew wr))
          have hS0 : (fun w' : World => Hid (Below w.heap.size w w') ∧ w'.cell? ⟨w.heap.size + 1, 0, none⟩ = some (.bool l) ∧ w'.cell? ⟨w.heap.size + 1, 1, none⟩ = some (.bool p) ∧ w'.cell? ⟨w.heap.size + 1, 2, none⟩ = some (.bool b)) wr.drew := ⟨Lib.hid RU.out.below, RU.out.dir.c0, RU.out.dir.c1, RU.out.dir.c2⟩
          refine wp_region_held_drew (S := fun w' : World => Hid (Below w.heap.size w w') ∧ w'.cell? ⟨w.heap.size + 1, 0, none⟩ = some (.bool l) ∧ w'.cell? ⟨w.heap.size + 1, 1, none⟩ = some (.bool p) ∧ w'.cell? ⟨w.heap.size + 1, 2, none⟩ = some (.bool b)) (by kernel_rfl) hS0 (fun hS => ?_)
          clear hS
          have hS := hS0
          clear hS0
          obtain ⟨U, hU⟩ : ∃ U, U = wr.drew := ⟨_, rfl⟩
          rw [← hU] at hS RU ⊢
          clear hU
          have cK := RU.out.dir.c3
          dsimp only at hS cK
          refine takeF (i := 0) (d := 40) (v := .pointer (some ⟨w.heap.size + 1, 0, none⟩)) rfl rfl (by kernel_rfl) (by kernel_rfl) (by kernel_rfl) (fun _ _ _ h => h) (by rfl) (fun w' hSw => by obtain ⟨_, q0, q1, q2⟩ := hSw; go_simp) hS ?_
          simp only [List.setIfInBounds_toArray, List.set_cons_zero, List.set_cons_succ]
          refine takeF (i := 8) (d := 48) (v := .pointer (some ⟨w.heap.size + 1, 1, none⟩)) rfl rfl (by kernel_rfl) (by kernel_rfl) (by kernel_rfl) (fun _ _ _ h => h) (by rfl) (fun w' hSw => by obtain ⟨_, q0, q1, q2⟩ := hSw; go_simp) hS ?_
          simp only [List.setIfInBounds_toArray, List.set_cons_zero, List.set_cons_succ]
          refine takeF (i := 16) (d := 56) (v := .pointer (some ⟨w.heap.size + 1, 2, none⟩)) rfl rfl (by kernel_rfl) (by kernel_rfl) (by kernel_rfl) (fun _ _ _ h => h) (by rfl) (fun w' hSw => by obtain ⟨_, q0, q1, q2⟩ := hSw; go_simp) hS ?_
          simp only [List.setIfInBounds_toArray, List.set_cons_zero, List.set_cons_succ]
          refine takeF (i := 24) (d := 64) (v := .pointer (some ⟨w.heap.size + 1, 3, none⟩)) rfl rfl (by kernel_rfl) (by kernel_rfl) (by kernel_rfl) (fun _ _ _ h => h) (by rfl) (fun w' hSw => by obtain ⟨_, q0, q1, q2⟩ := hSw; go_simp) hS ?_
          simp only [List.setIfInBounds_toArray, List.set_cons_zero, List.set_cons_succ]
          refine takeF (i := 1) (d := 41) (v := .bool l) rfl rfl (by kernel_rfl) (by kernel_rfl) (by kernel_rfl) (fun _ _ _ h => h) (by rfl) (fun w' hSw => by obtain ⟨_, q0, q1, q2⟩ := hSw; go_simp) hS ?_
          simp only [List.setIfInBounds_toArray, List.set_cons_zero, List.set_cons_succ]
          refine takeF (i := 9) (d := 49) (v := .bool p) rfl rfl (by kernel_rfl) (by kernel_rfl) (by kernel_rfl) (fun _ _ _ h => h) (by rfl) (fun w' hSw => by obtain ⟨_, q0, q1, q2⟩ := hSw; go_simp) hS ?_
          simp only [List.setIfInBounds_toArray, List.set_cons_zero, List.set_cons_succ]
          refine takeF (i := 17) (d := 57) (v := .bool b) rfl rfl (by kernel_rfl) (by kernel_rfl) (by kernel_rfl) (fun _ _ _ h => h) (by rfl) (fun w' hSw => by obtain ⟨_, q0, q1, q2⟩ := hSw; go_simp) hS ?_
          simp only [List.setIfInBounds_toArray, List.set_cons_zero, List.set_cons_succ]
          refine takeF (i := 2) (d := 42) (v := .bool l) rfl rfl (by kernel_rfl) (by kernel_rfl) (by kernel_rfl) (fun _ _ _ h => h) (by rfl) (fun w' hSw => by obtain ⟨_, q0, q1, q2⟩ := hSw; go_simp) hS ?_
          simp only [List.setIfInBounds_toArray, List.set_cons_zero, List.set_cons_succ]
          refine takeE (i := 3) (d := 43) (v := .string f) (g := !l) rfl rfl (by kernel_rfl) (by kernel_rfl) (by kernel_rfl) (fun _ _ _ h => h) (by cases l <;> rfl) (fun hg w' hSw => by (try simp only [hg, cond_true]); go_simp) hS ?_
          simp only [List.setIfInBounds_toArray, List.set_cons_zero, List.set_cons_succ]
          refine takeE (i := 4) (d := 44) (v := .int .i64 (j : Int)) (g := !l) rfl rfl (by kernel_rfl) (by kernel_rfl) (by kernel_rfl) (fun _ _ _ h => h) (by cases l <;> rfl) (fun hg w' hSw => by (try simp only [hg, cond_true]); go_simp) hS ?_
          simp only [List.setIfInBounds_toArray, List.set_cons_zero, List.set_cons_succ]
          refine takeE (i := 5) (d := 45) (v := .int .u8 (f[j].toNat : Int)) (g := !l) rfl rfl (by kernel_rfl) (by kernel_rfl) (by kernel_rfl) (fun _ _ _ h => h) (by cases l <;> rfl) (fun hg w' hSw => by (try simp only [hg, cond_true]); go_simp) hS ?_
          simp only [List.setIfInBounds_toArray, List.set_cons_zero, List.set_cons_succ]
          refine takeE (i := 6) (d := 46) (v := .bool false) (g := !l) rfl rfl (by kernel_rfl) (by kernel_rfl) (by kernel_rfl) (fun _ _ _ h => h) (by cases l <;> rfl) (fun hg w' hSw => by (try simp only [hg, cond_true]); go_simp) hS ?_
          simp only [List.setIfInBounds_toArray, List.set_cons_zero, List.set_cons_succ]
          refine takeF (i := 7) (d := 47) (v := .bool l) rfl rfl (by kernel_rfl) (by kernel_rfl) (by kernel_rfl) (fun _ _ _ h => h) (by rfl) (fun w' hSw => by obtain ⟨_, q0, q1, q2⟩ := hSw; cases l <;> go_simp) hS ?_
          simp only [List.setIfInBounds_toArray, List.set_cons_zero, List.set_cons_succ]
          refine takeF (i := 10) (d := 50) (v := .bool p) rfl rfl (by kernel_rfl) (by kernel_rfl) (by kernel_rfl) (fun _ _ _ h => h) (by rfl) (fun w' hSw => by obtain ⟨_, q0, q1, q2⟩ := hSw; go_simp) hS ?_
          simp only [List.setIfInBounds_toArray, List.set_cons_zero, List.set_cons_succ]
          refine takeE (i := 11) (d := 51) (v := .string f) (g := !p) rfl rfl (by kernel_rfl) (by kernel_rfl) (by kernel_rfl) (fun _ _ _ h => h) (by cases p <;> rfl) (fun hg w' hSw => by (try simp only [hg, cond_true]); go_simp) hS ?_
          simp only [List.setIfInBounds_toArray, List.set_cons_zero, List.set_cons_succ]
          refine takeE (i := 12) (d := 52) (v := .int .i64 (j : Int)) (g := !p) rfl rfl (by kernel_rfl) (by kernel_rfl) (by kernel_rfl) (fun _ _ _ h => h) (by cases p <;> rfl) (fun hg w' hSw => by (try simp only [hg, cond_true]); go_simp) hS ?_
          simp only [List.setIfInBounds_toArray, List.set_cons_zero, List.set_cons_succ]
          refine takeE (i := 13) (d := 53) (v := .int .u8 (f[j].toNat : Int)) (g := !p) rfl rfl (by kernel_rfl) (by kernel_rfl) (by kernel_rfl) (fun _ _ _ h => h) (by cases p <;> rfl) (fun hg w' hSw => by (try simp only [hg, cond_true]); go_simp) hS ?_
          simp only [List.setIfInBounds_toArray, List.set_cons_zero, List.set_cons_succ]
          refine takeE (i := 14) (d := 54) (v := .bool false) (g := !p) rfl rfl (by kernel_rfl) (by kernel_rfl) (by kernel_rfl) (fun _ _ _ h => h) (by cases p <;> rfl) (fun hg w' hSw => by (try simp only [hg, cond_true]); go_simp) hS ?_
          simp only [List.setIfInBounds_toArray, List.set_cons_zero, List.set_cons_succ]
          refine takeF (i := 15) (d := 55) (v := .bool p) rfl rfl (by kernel_rfl) (by kernel_rfl) (by kernel_rfl) (fun _ _ _ h => h) (by rfl) (fun w' hSw => by obtain ⟨_, q0, q1, q2⟩ := hSw; cases p <;> go_simp) hS ?_
          simp only [List.setIfInBounds_toArray, List.set_cons_zero, List.set_cons_succ]
          refine takeF (i := 18) (d := 58) (v := .bool b) rfl rfl (by kernel_rfl) (by kernel_rfl) (by kernel_rfl) (fun _ _ _ h => h) (by rfl) (fun w' hSw => by obtain ⟨_, q0, q1, q2⟩ := hSw; go_simp) hS ?_
          simp only [List.setIfInBounds_toArray, List.set_cons_zero, List.set_cons_succ]
          refine takeE (i := 19) (d := 59) (v := .string f) (g := !b) rfl rfl (by kernel_rfl) (by kernel_rfl) (by kernel_rfl) (fun _ _ _ h => h) (by cases b <;> rfl) (fun hg w' hSw => by (try simp only [hg, cond_true]); go_simp) hS ?_
          simp only [List.setIfInBounds_toArray, List.set_cons_zero, List.set_cons_succ]
          refine takeE (i := 20) (d := 60) (v := .int .i64 (j : Int)) (g := !b) rfl rfl (by kernel_rfl) (by kernel_rfl) (by kernel_rfl) (fun _ _ _ h => h) (by cases b <;> rfl) (fun hg w' hSw => by (try simp only [hg, cond_true]); go_simp) hS ?_
          simp only [List.setIfInBounds_toArray, List.set_cons_zero, List.set_cons_succ]
          refine takeE (i := 21) (d := 61) (v := .int .u8 (f[j].toNat : Int)) (g := !b) rfl rfl (by kernel_rfl) (by kernel_rfl) (by kernel_rfl) (fun _ _ _ h => h) (by cases b <;> rfl) (fun hg w' hSw => by (try simp only [hg, cond_true]); go_simp) hS ?_
          simp only [List.setIfInBounds_toArray, List.set_cons_zero, List.set_cons_succ]
          refine takeE (i := 22) (d := 62) (v := .bool false) (g := !b) rfl rfl (by kernel_rfl) (by kernel_rfl) (by kernel_rfl) (fun _ _ _ h => h) (by cases b <;> rfl) (fun hg w' hSw => by (try simp only [hg, cond_true]); go_simp) hS ?_
          simp only [List.setIfInBounds_toArray, List.set_cons_zero, List.set_cons_succ]
          refine takeF (i := 23) (d := 63) (v := .bool b) rfl rfl (by kernel_rfl) (by kernel_rfl) (by kernel_rfl) (fun _ _ _ h => h) (by rfl) (fun w' hSw => by obtain ⟨_, q0, q1, q2⟩ := hSw; cases b <;> go_simp) hS ?_
          simp only [List.setIfInBounds_toArray, List.set_cons_zero, List.set_cons_succ]
          refine wpAnyH_ready (rs := [25]) (by kernel_rfl) (by simp) ?_
          refine AllReadyH.cons rfl (fun K hK => ?_) AllReadyH.nil
          rw [if_pos (by rfl)]
          go_simp
          refine hK.out _ _ hS (fun hTr => ?_)
          clear hTr hK K
          try simp only [Act.put, List.setIfInBounds_toArray, List.set_cons_zero, List.set_cons_succ]
          refine takeF (i := 26) (d := 66) (v := .bool z) rfl rfl (by kernel_rfl) (by kernel_rfl) (by kernel_rfl) (fun _ _ _ h => h) (by rfl) (fun w' hSw => by obtain ⟨_, q0, q1, q2⟩ := hSw; go_simp) hS ?_
          simp only [List.setIfInBounds_toArray, List.set_cons_zero, List.set_cons_succ]
          refine takeE (i := 27) (d := 67) (v := .string f) (g := !z) rfl rfl (by kernel_rfl) (by kernel_rfl) (by kernel_rfl) (fun _ _ _ h => h) (by cases z <;> rfl) (fun hg w' hSw => by (try simp only [hg, cond_true]); go_simp) hS ?_
          simp only [List.setIfInBounds_toArray, List.set_cons_zero, List.set_cons_succ]
          refine takeE (i := 28) (d := 68) (v := .int .i64 (j : Int)) (g := !z) rfl rfl (by kernel_rfl) (by kernel_rfl) (by kernel_rfl) (fun _ _ _ h => h) (by cases z <;> rfl) (fun hg w' hSw => by (try simp only [hg, cond_true]); go_simp) hS ?_
          simp only [List.setIfInBounds_toArray, List.set_cons_zero, List.set_cons_succ]
          refine takeE (i := 29) (d := 69) (v := .int .u8 (f[j].toNat : Int)) (g := !z) rfl rfl (by kernel_rfl) (by kernel_rfl) (by kernel_rfl) (fun _ _ _ h => h) (by cases z <;> rfl) (fun hg w' hSw => by (try simp only [hg, cond_true]); go_simp) hS ?_
          simp only [List.setIfInBounds_toArray, List.set_cons_zero, List.set_cons_succ]
          refine takeE (i := 30) (d := 70) (v := .bool true) (g := !z) rfl rfl (by kernel_rfl) (by kernel_rfl) (by kernel_rfl) (fun _ _ _ h => h) (by cases z <;> rfl) (fun hg w' hSw => by (try simp only [hg, cond_true]); go_simp) hS ?_
          simp only [List.setIfInBounds_toArray, List.set_cons_zero, List.set_cons_succ]
          refine takeF (i := 31) (d := 71) (v := .bool true) rfl rfl (by kernel_rfl) (by kernel_rfl) (by kernel_rfl) (fun _ _ _ h => h) (by rfl) (fun w' hSw => by obtain ⟨_, q0, q1, q2⟩ := hSw; cases z <;> go_simp) hS ?_
          simp only [List.setIfInBounds_toArray, List.set_cons_zero, List.set_cons_succ]
          refine takeF (i := 32) (d := 72) (v := .pointer (some ⟨w.heap.size + 1, 0, none⟩)) rfl rfl (by kernel_rfl) (by kernel_rfl) (by kernel_rfl) (fun _ _ _ h => h) (by rfl) (fun w' hSw => by obtain ⟨_, q0, q1, q2⟩ := hSw; go_simp) hS ?_
          simp only [List.setIfInBounds_toArray, List.set_cons_zero, List.set_cons_succ]
          have cS0 := RU.out.dir.c0
          have zS0 := RU.out.dir.z 0
          have hDw0 := RU.out.lt
          dsimp only at cS0
          refine wpAnyH_ready (rs := [33]) (by kernel_rfl) (by simp) ?_
          refine AllReadyH.cons rfl (fun K hK => ?_) AllReadyH.nil
          rw [if_pos (by rfl)]
          go_simp
          have RU0 := Lib.hid (RU.out.but (But.set (· = w.heap.size + 1) _ 0 rfl U (.bool l)) (RU.out.dir.put0 l))
          obtain ⟨U0, hU0⟩ : ∃ U0, U0 = U.setCell ⟨w.heap.size + 1, 0, none⟩ (.bool l) := ⟨_, rfl⟩
          rw [← hU0] at RU0 ⊢
          clear hU0
          have hS0 : (fun w' : World => Hid (Below w.heap.size w w') ∧ w'.cell? ⟨w.heap.size + 1, 0, none⟩ = some (.bool l) ∧ w'.cell? ⟨w.heap.size + 1, 1, none⟩ = some (.bool p) ∧ w'.cell? ⟨w.heap.size + 1, 2, none⟩ = some (.bool b)) U0 := ⟨Lib.hid RU0.out.below, RU0.out.dir.c0, RU0.out.dir.c1, RU0.out.dir.c2⟩
          refine hK.out _ _ hS0 (fun hTr => ?_)
          clear hTr hK K hS RU cS0 zS0 hDw0 cK
          have RU := RU0
          clear RU0
          have hS := hS0
          clear hS0
          dsimp only at hS RU
          clear U
          obtain ⟨U, hU⟩ : ∃ U, U = U0 := ⟨_, rfl⟩
          rw [← hU] at hS RU ⊢
          clear hU U0
          try dsimp only
          refine takeF (i := 34) (d := 73) (v := .pointer (some ⟨w.heap.size + 1, 1, none⟩)) rfl rfl (by kernel_rfl) (by kernel_rfl) (by kernel_rfl) (fun _ _ _ h => h) (by rfl) (fun w' hSw => by obtain ⟨_, q0, q1, q2⟩ := hSw; go_simp) hS ?_
          simp only [List.setIfInBounds_toArray, List.set_cons_zero, List.set_cons_succ]
          have cS1 := RU.out.dir.c1
          have zS1 := RU.out.dir.z 1
          have hDw1 := RU.out.lt
          dsimp only at cS1
          refine wpAnyH_ready (rs := [35]) (by kernel_rfl) (by simp) ?_
          refine AllReadyH.cons rfl (fun K hK => ?_) AllReadyH.nil
          rw [if_pos (by rfl)]
          go_simp
          have RU1 := Lib.hid (RU.out.but (But.set (· = w.heap.size + 1) _ 1 rfl U (.bool p)) (RU.out.dir.put1 p))
          obtain ⟨U1, hU1⟩ : ∃ U1, U1 = U.setCell ⟨w.heap.size + 1, 1, none⟩ (.bool p) := ⟨_, rfl⟩
          rw [← hU1] at RU1 ⊢
          clear hU1
          have hS1 : (fun w' : World => Hid (Below w.heap.size w w') ∧ w'.cell? ⟨w.heap.size + 1, 0, none⟩ = some (.bool l) ∧ w'.cell? ⟨w.heap.size + 1, 1, none⟩ = some (.bool p) ∧ w'.cell? ⟨w.heap.size + 1, 2, none⟩ = some (.bool b)) U1 := ⟨Lib.hid RU1.out.below, RU1.out.dir.c0, RU1.out.dir.c1, RU1.out.dir.c2⟩
          refine hK.out _ _ hS1 (fun hTr => ?_)
          clear hTr hK K hS RU cS1 zS1 hDw1
          have RU := RU1
          clear RU1
          have hS := hS1
          clear hS1
          dsimp only at hS RU
          clear U
          obtain ⟨U, hU⟩ : ∃ U, U = U1 := ⟨_, rfl⟩
          rw [← hU] at hS RU ⊢
          clear hU U1
          try dsimp only
          refine takeF (i := 36) (d := 74) (v := .pointer (some ⟨w.heap.size + 1, 2, none⟩)) rfl rfl (by kernel_rfl) (by kernel_rfl) (by kernel_rfl) (fun _ _ _ h => h) (by rfl) (fun w' hSw => by obtain ⟨_, q0, q1, q2⟩ := hSw; go_simp) hS ?_
          simp only [List.setIfInBounds_toArray, List.set_cons_zero, List.set_cons_succ]
          have cS2 := RU.out.dir.c2
          have zS2 := RU.out.dir.z 2
          have hDw2 := RU.out.lt
          dsimp only at cS2
          refine wpAnyH_ready (rs := [37]) (by kernel_rfl) (by simp) ?_
          refine AllReadyH.cons rfl (fun K hK => ?_) AllReadyH.nil
          rw [if_pos (by rfl)]
          go_simp
          have RU2 := Lib.hid (RU.out.but (But.set (· = w.heap.size + 1) _ 2 rfl U (.bool b)) (RU.out.dir.put2 b))
          obtain ⟨U2, hU2⟩ : ∃ U2, U2 = U.setCell ⟨w.heap.size + 1, 2, none⟩ (.bool b) := ⟨_, rfl⟩
          rw [← hU2] at RU2 ⊢
          clear hU2
          have hS2 : (fun w' : World => Hid (Below w.heap.size w w') ∧ w'.cell? ⟨w.heap.size + 1, 0, none⟩ = some (.bool l) ∧ w'.cell? ⟨w.heap.size + 1, 1, none⟩ = some (.bool p) ∧ w'.cell? ⟨w.heap.size + 1, 2, none⟩ = some (.bool b)) U2 := ⟨Lib.hid RU2.out.below, RU2.out.dir.c0, RU2.out.dir.c1, RU2.out.dir.c2⟩
          refine hK.out _ _ hS2 (fun hTr => ?_)
          clear hTr hK K hS RU cS2 zS2 hDw2
          have RU := RU2
          clear RU2
          have hS := hS2
          clear hS2
          dsimp only at hS RU
          clear U
          obtain ⟨U, hU⟩ : ∃ U, U = U2 := ⟨_, rfl⟩
          rw [← hU] at hS RU ⊢
          clear hU U2
          try dsimp only
          refine takeF (i := 38) (d := 75) (v := .pointer (some ⟨w.heap.size + 1, 3, none⟩)) rfl rfl (by kernel_rfl) (by kernel_rfl) (by kernel_rfl) (fun _ _ _ h => h) (by rfl) (fun w' hSw => by obtain ⟨_, q0, q1, q2⟩ := hSw; go_simp) hS ?_
          simp only [List.setIfInBounds_toArray, List.set_cons_zero, List.set_cons_succ]
          have cS3 := RU.out.dir.c3
          have zS3 := RU.out.dir.z 3
          have hDw3 := RU.out.lt
          dsimp only at cS3
          refine wpAnyH_ready (rs := [39]) (by kernel_rfl) (by simp) ?_
          refine AllReadyH.cons rfl (fun K hK => ?_) AllReadyH.nil
          rw [if_pos (by rfl)]
          go_simp
          have RU3 := Lib.hid (RU.out.but (But.set (· = w.heap.size + 1) _ 3 rfl U (.bool true)) (RU.out.dir.put3 true))
          obtain ⟨U3, hU3⟩ : ∃ U3, U3 = U.setCell ⟨w.heap.size + 1, 3, none⟩ (.bool true) := ⟨_, rfl⟩
          rw [← hU3] at RU3 ⊢
          clear hU3
          have hS3 : (fun w' : World => Hid (Below w.heap.size w w') ∧ w'.cell? ⟨w.heap.size + 1, 0, none⟩ = some (.bool l) ∧ w'.cell? ⟨w.heap.size + 1, 1, none⟩ = some (.bool p) ∧ w'.cell? ⟨w.heap.size + 1, 2, none⟩ = some (.bool b)) U3 := ⟨Lib.hid RU3.out.below, RU3.out.dir.c0, RU3.out.dir.c1, RU3.out.dir.c2⟩
          refine hK.out _ _ hS3 (fun hTr => ?_)
          clear hTr hK K hS RU cS3 zS3 hDw3
          have RU := RU3
          clear RU3
          have hS := hS3
          clear hS3
          dsimp only at hS RU
          clear U
          obtain ⟨U, hU⟩ : ∃ U, U = U3 := ⟨_, rfl⟩
          rw [← hU] at hS RU ⊢
          clear hU U3
          try dsimp only
          refine wpAnyH_done (by kernel_rfl) ?_ _
          have HRU := Lib.hid RU.out
          clear RU hS b0 b1 b2 b3
          go_wp2_with fail
          go_roundw
          case rel => exact ⟨j + 1, _, by go_num, by omega, by omega, Lib.hid ⟨HRU.out, HX.out⟩⟩
          case measure => simp [intOf]; omega
        have b0 : ((f[j].toNat : Int) == 45) = false := beq_eq_false_iff_ne.2 (by omega)
        have b1 : ((f[j].toNat : Int) == 43) = false := beq_eq_false_iff_ne.2 (by omega)
        have b2 : ((f[j].toNat : Int) == 32) = false := beq_eq_false_iff_ne.2 (by omega)
        have b3 : ((f[j].toNat : Int) == 48) = false := beq_eq_false_iff_ne.2 (by omega)
        have HX : Hid ((ad, ak) = (⟨l, p, b, z, wd, pr, lt⟩, j - i)) := Lib.hid (by
          rw [HA.out.2, hdr, flagsR_stop _ _ _ (by omega)]; rfl)
        clear hdr g0 g1 g2 g3
        go_wp2_with fail
        go_meet
        obtain ⟨h1, h2⟩ := Prod.mk.inj HX.out
        exact ⟨by rw [HJ.out.1, h2, show i + (j - i) = j from by omega], Lib.hid (by rw [h1]; exact HA.out.1)⟩
      · have dt : decide ((j : Int) < (f.size : Int)) = false := decide_eq_false (by omega)
        obtain rfl : j = f.size := by omega
        have HX : Hid ((ad, ak) = (t, f.size - i)) := Lib.hid (by
          have hdr : f.data.toList.drop f.size = [] := List.drop_eq_nil_of_le (by rw [← Lib.size_eq]; exact Nat.le_refl _)
          rw [HA.out.2, hdr]; rfl)
        go_wp2_with fail
        go_meet
        obtain ⟨h1, h2⟩ := Prod.mk.inj HX.out
        exact ⟨by rw [HJ.out.1, h2, show i + (f.size - i) = f.size from by omega], Lib.hid (by rw [h1]; exact HA.out.1)⟩
  case rest =>
   as_aux_lemma =>
    obtain ⟨rfl, R1⟩ := hcut
    clear HA0
    go_step
    obtain ⟨B1, hB1⟩ : ∃ B1, B1 = isAt (f.data.toList.drop j1) 42 := ⟨_, rfl⟩
    have HB1 := Lib.hid hB1
    go_upto_region 5 with (fail)
    go_cut [87] (fun x wx => x = .bool B1 ∧ wx = wc)
    case first =>
      by_cases hlt : j1 < f.size
      · have dt : decide ((j1 : Int) < (f.size : Int)) = true := decide_eq_true (by omega)
        have db : ((f[j1].toNat : Int) == 42) = B1 := by rw [hB1]; exact isAt_get hlt 42
        clear hB1
        go_wp2_with fail
        go_meet
        exact ⟨rfl, rfl⟩
      · have dt : decide ((j1 : Int) < (f.size : Int)) = false := decide_eq_false (by omega)
        have db : B1 = false := by rw [hB1]; exact isAt_end f hlt 42
        subst db
        clear hB1
        go_wp2_with fail
        go_meet
        exact ⟨rfl, rfl⟩
    case rest =>
    as_aux_lemma =>
    obtain ⟨rfl, hwx⟩ := hcut
    subst hwx
    clear hB1
    go_step
    go_upto_if 87 with (fail)
    go_cut [1] (fun x wx => x = .int .i64 (j2 : Int) ∧ Hid (RdN w wx { ad with wide := sv }))
    case first =>
      have hDw := R1.out.lt
      have c4 := R1.out.dir.c4
      have z4 := R1.out.dir.z 4
      cases B1 with
      | true =>
        have HSv : Hid (sv = -2 ∧ j2 = j1 + 1) := Lib.hid (by
          have h := HS.out
          rw [numR_of, ← HB1.out, if_pos rfl] at h
          obtain ⟨h1, h2⟩ := Prod.mk.inj h
          exact ⟨h1, by rw [HJ.out.2.1, HJ.out.1, h2]⟩)
        go_wp2_with fail
        go_meet
        exact ⟨by rw [HSv.out.2]; go_num, Lib.hid (by rw [HSv.out.1]; exact R1.out.but (But.set (· = w.heap.size + 1) _ 4 rfl _ _) (R1.out.dir.put4 (-2)))⟩
      | false =>
        have HSv : Hid (sv = (digs (f.data.toList.drop j1) 0).1 ∧ j2 = j1 + (digs (f.data.toList.drop j1) 0).2) := Lib.hid (by
          have h := HS.out
          rw [numR_of, ← HB1.out, if_neg (by decide)] at h
          obtain ⟨h1, h2⟩ := Prod.mk.inj h
          exact ⟨h1, by rw [HJ.out.2.1, HJ.out.1, h2, HJ.out.1]⟩)
        have HD := Lib.hid (fun W => rdigs_any f j1 hb1 (by omega) W)
        rw [← HSv.out.2, ← HSv.out.1] at HD
        go_wp2_with fail
        refine (HD.out _).mono ?_
        rintro e w1 ⟨rfl, rfl⟩
        go_wp2_with fail
        go_meet
        exact ⟨rfl, Lib.hid (R1.out.but (But.set (· = w.heap.size + 1) _ 4 rfl _ _) (R1.out.dir.put4 sv))⟩
    case rest =>
    as_aux_lemma =>
    obtain ⟨rfl, R2⟩ := hcut
    clear R1 HB1
    go_step
    obtain ⟨B2, hB2⟩ : ∃ B2, B2 = isAt (f.data.toList.drop j2) 46 := ⟨_, rfl⟩
    have HB2 := Lib.hid hB2
    go_upto_region 8 with (fail)
    go_cut [107] (fun x wx => x = .bool B2 ∧ wx = wc)
    case first =>
      by_cases hlt : j2 < f.size
      · have dt : decide ((j2 : Int) < (f.size : Int)) = true := decide_eq_true (by omega)
        have db : ((f[j2].toNat : Int) == 46) = B2 := by rw [hB2]; exact isAt_get hlt 46
        clear hB2
        go_wp2_with fail
        go_meet
        exact ⟨rfl, rfl⟩
      · have dt : decide ((j2 : Int) < (f.size : Int)) = false := decide_eq_false (by omega)
        have db : B2 = false := by rw [hB2]; exact isAt_end f hlt 46
        subst db
        clear hB2
        go_wp2_with fail
        go_meet
        exact ⟨rfl, rfl⟩
    case rest =>
    as_aux_lemma =>
    obtain ⟨rfl, hwx⟩ := hcut
    subst hwx
    clear hB2
    go_step
    go_upto_if 107 with (fail)
    go_cut [1] (fun x wx => x = .int .i64 (j3 : Int) ∧ Hid (RdN w wx { ad with wide := sv, prec := pv }))
    case first =>
      have hDw := R2.out.lt
      have c5 := R2.out.dir.c5
      have z5 := R2.out.dir.z 5
      dsimp only at c5
      cases B2 with
      | true =>
        have hlt2 : j2 + 1 ≤ f.size := isAt_lt HB2.out.symm
        obtain ⟨m, hm⟩ : ∃ m, m = j2 + 1 := ⟨_, rfl⟩
        have ek : (j2 : Int) + 1 = (m : Int) := by omega
        have hmf : m ≤ f.size := by omega
        have HPt : Hid ((pv, pk) = ((numR (f.data.toList.drop m)).1, (numR (f.data.toList.drop m)).2 + 1)) := Lib.hid (by
          have h := HP.out
          rw [pointR_of, ← HB2.out, if_pos rfl, List.drop_drop, ← hm] at h
          exact h)
        have HM := Lib.hid hm
        obtain ⟨B3, hB3⟩ : ∃ B3, B3 = isAt (f.data.toList.drop m) 42 := ⟨_, rfl⟩
        have HB3 := Lib.hid hB3
        have HEk := Lib.hid ek
        clear hm ek hlt2
        go_upto_region 10 with (fail)
        rw [HEk.out]
        go_cut [119] (fun x wx => x = .bool B3 ∧ wx = wc)
        case first =>
          by_cases hlt : m < f.size
          · have dt : decide ((m : Int) < (f.size : Int)) = true := decide_eq_true (by omega)
            have db : ((f[m].toNat : Int) == 42) = B3 := by rw [hB3]; exact isAt_get hlt 42
            clear hB3
            go_wp2_with fail
            go_meet
            exact ⟨rfl, rfl⟩
          · have dt : decide ((m : Int) < (f.size : Int)) = false := decide_eq_false (by omega)
            have db : B3 = false := by rw [hB3]; exact isAt_end f hlt 42
            subst db
            clear hB3
            go_wp2_with fail
            go_meet
            exact ⟨rfl, rfl⟩
        case rest =>
        obtain ⟨rfl, hwx⟩ := hcut
        subst hwx
        clear hB3
        go_step
        cases B3 with
        | true =>
          have HPv : Hid (pv = -2 ∧ j3 = m + 1) := Lib.hid (by
            have h := HPt.out
            rw [numR_of, ← HB3.out, if_pos rfl] at h
            obtain ⟨h1, h2⟩ := Prod.mk.inj h
            exact ⟨h1, by rw [HJ.out.2.2, HM.out, HJ.out.2.1, h2]; omega⟩)
          go_wp2_with fail
          go_meet
          exact ⟨by rw [HPv.out.2]; go_num, Lib.hid (by rw [HPv.out.1]; exact R2.out.but (But.set (· = w.heap.size + 1) _ 5 rfl _ _) (R2.out.dir.put5 (-2)))⟩
        | false =>
          have HPv : Hid (pv = (digs (f.data.toList.drop m) 0).1 ∧ j3 = m + (digs (f.data.toList.drop m) 0).2) := Lib.hid (by
            have h := HPt.out
            rw [numR_of, ← HB3.out, if_neg (by decide)] at h
            obtain ⟨h1, h2⟩ := Prod.mk.inj h
            exact ⟨h1, by rw [HJ.out.2.2, h2, ← HJ.out.2.1]; have := HM.out; omega⟩)
          have HD := Lib.hid (fun W => rdigs_any f m hmf (by omega) W)
          rw [← HPv.out.2, ← HPv.out.1] at HD
          go_wp2_with fail
          refine (HD.out _).mono ?_
          rintro e w1 ⟨rfl, rfl⟩
          go_wp2_with fail
          go_meet
          exact ⟨rfl, Lib.hid (R2.out.but (But.set (· = w.heap.size + 1) _ 5 rfl _ _) (R2.out.dir.put5 pv))⟩
      | false =>
        have HPv : Hid (pv = -1 ∧ j3 = j2) := Lib.hid (by
          have h := HP.out
          rw [pointR_of, ← HB2.out, if_neg (by decide)] at h
          obtain ⟨h1, h2⟩ := Prod.mk.inj h
          exact ⟨h1, by have := HJ.out; omega⟩)
        go_wp2_with fail
        go_meet
        exact ⟨by rw [HPv.out.2], Lib.hid (by
          have h := R2.out
          rw [HPv.out.1, ← HKp.out]
          exact h)⟩
    case rest =>
    as_aux_lemma =>
    obtain ⟨rfl, R3⟩ := hcut
    clear R2 HB2
    go_step
    obtain ⟨B4, hB4⟩ : ∃ B4, B4 = (decide (f.size ≤ j3) || decide (200 < sv) || decide (200 < pv)) := ⟨_, rfl⟩
    go_upto_region 13 with (fail)
    go_cut [143] (fun x wx => x = .bool B4 ∧ wx = wc)
    case first =>
      have hDw := R3.out.lt
      have c4 := R3.out.dir.c4
      have c5 := R3.out.dir.c5
      dsimp only at c4 c5
      by_cases h1 : f.size ≤ j3
      · have d1 : decide ((f.size : Int) ≤ (j3 : Int)) = true := decide_eq_true (by omega)
        have db : B4 = true := by rw [hB4, decide_eq_true h1]; rfl
        subst db
        clear hB4
        go_wp2_with fail
        go_meet
        exact ⟨rfl, rfl⟩
      · have d1 : decide ((f.size : Int) ≤ (j3 : Int)) = false := decide_eq_false (by omega)
        by_cases h2 : 200 < sv
        · have d2 : decide (200 < sv) = true := decide_eq_true h2
          have db : B4 = true := by rw [hB4, d2]; simp
          subst db
          clear hB4
          go_wp2_with fail
          go_meet
          exact ⟨rfl, rfl⟩
        · have d2 : decide (200 < sv) = false := decide_eq_false h2
          by_cases h3 : 200 < pv
          · have d3 : decide (200 < pv) = true := decide_eq_true h3
            have db : B4 = true := by rw [hB4, d3]; simp
            subst db
            clear hB4
            go_wp2_with fail
            go_meet
            exact ⟨rfl, rfl⟩
          · have d3 : decide (200 < pv) = false := decide_eq_false h3
            have db : B4 = false := by rw [hB4, d2, d3, decide_eq_false h1]; rfl
            subst db
            clear hB4
            go_wp2_with fail
            go_meet
            exact ⟨rfl, rfl⟩
    case rest =>
    as_aux_lemma =>
    obtain ⟨rfl, hwx⟩ := hcut
    subst hwx
    go_step
    have HRes := Lib.hid R3.out.res
    have HBel := Lib.hid R3.out.below
    cases B4 with
    | true =>
      have HNone : Hid (readS l0 = none) := Lib.hid (by
        rw [HL.out]
        by_cases h1 : j3 < f.size
        · rw [drop_get h1]
          show (if _ then _ else _) = _
          rw [if_pos]
          rw [decide_eq_false (by omega : ¬ f.size ≤ j3), Bool.false_or] at hB4
          have h := (Bool.or_eq_true _ _).mp hB4.symm
          rcases h with h | h
          · exact Or.inl (of_decide_eq_true h)
          · exact Or.inr (Or.inl (of_decide_eq_true h))
        · rw [List.drop_eq_nil_of_le (by rw [← Lib.size_eq]; omega)]; rfl)
      clear hB4
      obtain ⟨q0, q1, q2, q3, q4, q5, q6⟩ := R3.out.dir.all
      dsimp only at q0 q1 q2 q3 q4 q5 q6
      go_wp2_with (refine wpList_store_row rfl 70 (.tmp 4) (.tmp 144) rfl w.heap.size (Dir.cells { ad with wide := sv, prec := pv }) rfl rfl 70 zeroD.cells HRes.out info_D rfl (dir_one _) ?_)
      obtain ⟨e0, e1, e2, e3, e4, e5, e6⟩ := DRow.all (T := { ad with wide := sv, prec := pv }) (show DRow _ _ { ad with wide := sv, prec := pv } from Go.setRow_heap _ _ _ _ _ _ HRes.out)
      exact bodyPost_ret (v := .tuple #[Dir.val { ad with wide := sv, prec := pv }, .int .i64 (j3 : Int), .bool false]) (by simp [results, Tryz.results55, go_sem, e0, e1, e2, e3, e4, e5, e6]; rfl) rfl ⟨Or.inl ⟨HNone.out, _, _, rfl⟩, below_setRow7 HBel.out (Nat.le_refl _) _⟩
    | false =>
      have h3 := hB4.symm
      rw [Bool.or_eq_false_iff, Bool.or_eq_false_iff] at h3
      obtain ⟨⟨h3a, h3b⟩, h3c⟩ := h3
      have hlt : j3 < f.size := by have := of_decide_eq_false h3a; omega
      obtain ⟨b, hb⟩ : ∃ b, b = f[j3].toNat := ⟨_, rfl⟩
      have HQ : Hid (readS l0 = if isLetter b = false then none else some ({ ad with wide := sv, prec := pv, letter := b }, ak + sk + pk + 1)) := Lib.hid (by
        rw [HL.out, drop_get hlt]
        show (if _ then _ else _) = _
        have n1 := of_decide_eq_false h3b
        have n2 := of_decide_eq_false h3c
        rw [← hb]
        by_cases hx : isLetter b = false
        · rw [if_pos (Or.inr (Or.inr hx)), if_pos hx]
        · rw [if_neg (fun h => by rcases h with h | h | h; exact n1 h; exact n2 h; exact hx h), if_neg hx])
      have hbe : (f[j3].toNat : Int) = (b : Int) := by rw [hb]
      have HLt : Hid (isLetter b = ([100, 105, 111, 120, 88, 99, 115, 102, 37] : List UInt8).any (fun c => b == c.toNat)) := Lib.hid (isLetter_any b)
      have hDw := R3.out.lt
      have c6 := R3.out.dir.c6
      have z6 := R3.out.dir.z 6
      dsimp only at c6
      clear h3a h3b h3c hB4 hb
      go_upto_region 17 with (fail)
      obtain ⟨V, hV⟩ : ∃ V, V = wc.setCell ⟨w.heap.size + 1, 6, none⟩ (.int .u8 (b : Int)) := ⟨_, rfl⟩
      have RV : Hid (RdN w V { ad with wide := sv, prec := pv, letter := b }) := Lib.hid (by
        rw [hV]
        exact R3.out.but (But.set (· = w.heap.size + 1) _ 6 rfl _ _) (R3.out.dir.put6 b))
      rw [← hV]
      clear hV R3 HRes HBel c6 z6 hDw
      obtain ⟨L, hL⟩ : ∃ L : ByteArray, L = ⟨#[100, 105, 111, 120, 88, 99, 115, 102, 37]⟩ := ⟨_, rfl⟩
      rw [← hL]
      have hLs : L.size = 9 := by rw [hL]; rfl
      have hLl : L.data.toList = [100, 105, 111, 120, 88, 99, 115, 102, 37] := by rw [hL]
      rw [← hLl] at HLt
      clear hL hLl
      go_wp2_with fail
      go_loopw [8, 10] (fun x y wr => ∃ (o : Bool) (k : Nat), x = .bool o ∧ y = .int .i64 k ∧ k ≤ 9 ∧ Hid (o = (L.data.toList.take k).any (fun c => b == c.toNat) ∧ RdN w wr { ad with wide := sv, prec := pv, letter := b })) (fun _ y _ => 9 - (intOf y).toNat)
      case atStart => exact ⟨false, 0, rfl, rfl, by omega, Lib.hid ⟨rfl, RV.out⟩⟩
      case round =>
        obtain ⟨o, k, rfl, rfl, hk, HA⟩ := hrel
        by_cases hk9 : k < 9
        · have dt : decide ((k : Int) < (L.size : Int)) = true := decide_eq_true (by omega)
          have hkL : k < L.size := by omega
          have c6 := HA.out.2.dir.c6
          dsimp only at c6
          have hDw := HA.out.2.lt
          obtain ⟨x, hx⟩ : ∃ x, x = ((L[k].toNat : Int) == (b : Int)) := ⟨_, rfl⟩
          have HX : Hid ((L.data.toList.take (k + 1)).any (fun c => b == c.toNat) = (o || x)) := Lib.hid (by
            have hkl : k < L.data.toList.length := by rw [← Lib.size_eq]; exact hkL
            rw [List.take_succ_eq_append_getElem hkl, List.any_append, ← HA.out.1]
            congr 1
            show ((b == L[k].toNat) || false) = _
            rw [Bool.or_false, hx]
            by_cases e : b = L[k].toNat
            · rw [beq_iff_eq.2 e]; exact (beq_iff_eq.2 (by omega)).symm
            · rw [beq_eq_false_iff_ne.2 e]; exact (beq_eq_false_iff_ne.2 (by omega)).symm)
          have hx' := hx.symm
          clear hx
          cases o with
          | true =>
            go_wp2_with fail
            go_quiet (fail)
            go_wp2_with fail
            go_roundw
            case rel => exact ⟨true, k + 1, rfl, by go_num, by omega, Lib.hid ⟨by rw [HX.out]; rfl, HA.out.2.next (Below.drewN' (Below.refl _ _) _)⟩⟩
            case measure => simp [intOf]; omega
          | false =>
            go_wp2_with fail
            go_quiet (fail)
            go_wp2_with fail
            go_roundw
            case rel => exact ⟨x, k + 1, rfl, by go_num, by omega, Lib.hid ⟨by rw [HX.out]; rfl, HA.out.2.next (Below.drewN' (Below.refl _ _) _)⟩⟩
            case measure => simp [intOf]; omega
        · have dt : decide ((k : Int) < (L.size : Int)) = false := decide_eq_false (by omega)
          have HO : Hid (o = isLetter b) := Lib.hid (by
            rw [HA.out.1, HLt.out, List.take_of_length_le (by rw [← Lib.size_eq]; omega)])
          have HRes := Lib.hid HA.out.2.res
          have HBel := Lib.hid HA.out.2.below
          obtain ⟨q0, q1, q2, q3, q4, q5, q6⟩ := HA.out.2.dir.all
          dsimp only at q0 q1 q2 q3 q4 q5 q6
          have HFin : Hid (∀ w', Below w.heap.size w w' → RNextOut l0 i w (.returned (.tuple #[Dir.val { ad with wide := sv, prec := pv, letter := b }, .int .i64 ((j3 : Int) + 1), .bool o])) w') := Lib.hid (fun w' h => by
            refine ⟨?_, h⟩
            cases ho : o with
            | false => exact Or.inl ⟨by rw [HQ.out, ← HO.out, ho]; rfl, _, _, rfl⟩
            | true =>
              refine Or.inr ⟨_, _, by rw [HQ.out, ← HO.out, ho]; rfl, ?_⟩
              rw [show ((i + (ak + sk + pk + 1) : Nat) : Int) = (j3 : Int) + 1 from by rw [HJ.out.2.2]; omega])
          clear HA
          go_wp2_with (refine wpList_store_row rfl 70 (.tmp 4) (.tmp 165) rfl w.heap.size (Dir.cells { ad with wide := sv, prec := pv, letter := b }) rfl rfl 70 zeroD.cells HRes.out info_D rfl (dir_one _) ?_)
          obtain ⟨e0, e1, e2, e3, e4, e5, e6⟩ := DRow.all (T := { ad with wide := sv, prec := pv, letter := b }) (show DRow _ _ { ad with wide := sv, prec := pv, letter := b } from Go.setRow_heap _ _ _ _ _ _ HRes.out)
          exact bodyPost_ret (v := .tuple #[Dir.val { ad with wide := sv, prec := pv, letter := b }, .int .i64 ((j3 : Int) + 1), .bool o]) (by simp [results, Tryz.results55, go_sem, e0, e1, e2, e3, e4, e5, e6]; rfl) rfl (HFin.out _ (below_setRow7 HBel.out (Nat.le_refl _) _))
end Go.Proofs.YtbbhcbpfffabpaaGreatDoor
