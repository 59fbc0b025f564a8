/- Merged by program: OfByteB, TimesB, Not, ClassB. -/
import Derived.Laws.Rows
import Derived.Laws.Tables
import Derived.Test.YtcojnkjcbopnbaaGreatDoorQjah
import Derived.Test.YtcojnkjcbopnbaaGreatDoorQjav
import Derived.Test.YtcojnkjcbopnbaaGreatDoorQjax
import Derived.Test.YtcojnkjcbopnbaaGreatDoorQjac
import Derived.Test.YtcojnkjcbopnbaaGreatDoorQjaw
/- ere.ofByte: a walk. -/
namespace Go.Proofs.YtcojnkjcbopnbaaGreatDoor
open Go.RowKit

/-- The set of one byte. -/
def oneF (c : Nat) : Nat → Nat := fun i => if i = c / 64 then 2 ^ (c % 64) else 0
theorem fits_oneF (c : Nat) : Fits (oneF c) := by
  intro i hi
  unfold oneF
  split
  · exact pow_lt64 c
  · decide
theorem bit_oneF (c x : Nat) : bit (oneF c) x = decide (x = c) := by
  unfold bit oneF
  by_cases h : x / 64 = c / 64
  · rw [if_pos h, Nat.testBit_two_pow]
    exact decide_eq_decide.2 (by omega)
  · rw [if_neg h, Nat.zero_testBit]
    exact (decide_eq_false (by omega)).symm
def oneT (c : Nat) : Tree := .mk 1 (oneF c) 0 0 []



set_option maxRecDepth 100000 in
theorem ofByte_spec (c : Nat) (hc : c < 256) (w : World) :
    Calls Tryz.prog 142 #[.int .u8 c] w fun e w' => e = .returned (.agg (reC 1 (oneF c) 0 0 (.slice none 0 0))) ∧ Below w.heap.size w w' := by
  have HA := Lib.hid (fun w => add_spec zero4 fits_zero c c hc hc w)
  have HI := info_re
  go_enter Tryz.func142, Tryz.ntmps142
  go_upto_region 1 with (fail)
  obtain ⟨W, hW, hX, hB, _⟩ := re_box w zeroR
  change Code.wp _ _ _ _ (w.alloc (Obj.cells zeroR 68))
  rw [← hW]
  clear hW
  go_wp2_with fail
  refine (HA.out _).mono ?_
  rintro e w1 ⟨g, rfl, hS, b1⟩
  have X1 := Lib.hid (hX.out.after b1)
  have B1 := Lib.hid (Below.step hB.out b1)
  clear b1
  have hg : reC 1 g 0 0 (.slice none 0 0) = reC 1 (oneF c) 0 0 (.slice none 0 0) := by
    refine reC_congr 1 0 0 _ (word_ext hS.out.1 (fits_oneF c) fun x hx => ?_)
    rw [hS.out.2 x hx, bit_oneF, bit_zero, Bool.false_or, ← Bool.decide_and]
    exact decide_eq_decide.2 (by omega)
  have HG := Lib.hid hg; clear hg
  simp only [words]
  go_wp2_with (refine wpList_store_row rfl 68 (.tmp 2) (.tmp 7) rfl w.heap.size (reC 1 g 0 0 (.slice none 0 0)) rfl rfl 68 zeroR X1.out.row HI rfl (re_one _ _ _ _ _ _ _) ?_)
  refine bodyPost_ret (v := .agg (reC 1 g 0 0 (.slice none 0 0))) (results_cell_row (by rfl) _ _ w.heap.size 68 _ (0, 0) _ (by rfl) (X1.out.setRow _).row Tryz.underlying68 (by rfl) HI) rfl ⟨by rw [HG.out], ?_⟩
  exact below_setRow B1.out (Nat.le_refl _) _
end Go.Proofs.YtcojnkjcbopnbaaGreatDoor

/- What reading any text comes to; reader.times at any text: a walk. -/
namespace Go.Proofs.YtcojnkjcbopnbaaGreatDoor
open Go.RowKit

theorem MX.but {p : Nat} {w w' : World} (h : MX w) (hb : But p w w') (hp : p ≠ 0) : MX w' := by
  obtain ⟨m, hm⟩ := h
  exact ⟨m, by rw [World.cell?_of_block (a := ⟨0, 0, none⟩) (hb.block 0 (cell_lt hm) (fun e => hp e.symm))]; exact hm⟩
/-- A reader of any text. -/
structure RdX (w : World) (p : Nat) (s : ByteArray) (k d : Nat) : Prop where
  r : Rdr w p s k d
  mx : MX w
  pz : p ≠ 0
theorem RdX.after {w w' : World} {p : Nat} {s : ByteArray} {k d : Nat} (h : RdX w p s k d) (hb : Below w.heap.size w w') : RdX w' p s k d := ⟨h.r.after hb, h.mx.after hb, h.pz⟩
theorem RdX.go {w w' : World} {p : Nat} {s : ByteArray} {k d k' d' : Nat} (h : RdX w p s k d) (hb : But p w w') (hr : Rdr w' p s k' d') : RdX w' p s k' d' := ⟨hr, h.mx.but hb h.pz, h.pz⟩
/-- The reading was given up. -/
def FellA (p : Nat) (w : World) (e : Ending) (w' : World) : Prop :=
  ∃ a x : Int, x ≠ 0 ∧ e = .panicked [{ v := .iface 112 (.agg #[.int .i64 a, .int .i64 x]), recovered := false }] ∧ But p w w'
theorem FellA.of {p : Nat} {w w1 : World} {e : Ending} {w' : World} (hb : But p w w1) (h : FellA p w1 e w') : FellA p w e w' := by
  obtain ⟨a, x, hx, e1, h1⟩ := h
  exact ⟨a, x, hx, e1, hb.trans h1⟩
/-- A tree was read, of m bytes at least; it has as many parts as bytes were read, and x, at most. -/
def WentA (m x : Nat) (p : Nat) (s : ByteArray) (k d : Nat) (w : World) (e : Ending) (w' : World) : Prop :=
  ∃ t cs k', e = .returned (.agg cs) ∧ At w' (Up w.heap.size) t cs ∧ Hid (Fine (-1) t ∧ t.kids.length ≤ k' - k + x ∧ k + m ≤ k' ∧ k' ≤ s.size) ∧ Rdr w' p s k' d ∧ But p w w'
def ReadA (m x : Nat) (p : Nat) (s : ByteArray) (k d : Nat) (w : World) (e : Ending) (w' : World) : Prop := WentA m x p s k d w e w' ∨ FellA p w e w'
def TimesOut (p : Nat) (s : ByteArray) (k d : Nat) (w : World) (e : Ending) (w' : World) : Prop :=
  (∃ (lo hi : Int) (k' : Nat), e = .returned (.tuple #[.int .i64 lo, .int .i64 hi]) ∧ Hid (OkTimes (lo, hi) ∧ k < k' ∧ k' ≤ s.size) ∧ Rdr w' p s k' d ∧ But p w w') ∨ FellA p w e w'

set_option maxRecDepth 100000 in
set_option maxHeartbeats 1000000 in
theorem timesA (p : Nat) (s : ByteArray) (k d : Nat) (w : World) (hk : k < s.size) (hs : s.size ≤ 400) (hx : RdX w p s k d) :
    Calls Tryz.prog 129 #[.pointer (some ⟨p, 0, none⟩)] w (TimesOut p s k d w) := by
  have R := Lib.hid hx.r
  have HMX := Lib.hid hx.mx
  have hpz := hx.pz
  have c0 := R.out.c0; have c1 := R.out.c1; have z1 := R.out.z 1
  obtain ⟨c, hc⟩ : ∃ c, c = s[k].toNat := ⟨_, rfl⟩
  have HC := Lib.hid hc
  clear hx
  go_enter Tryz.func129, Tryz.ntmps129
  go_upto_region 3 with (fail)
  obtain ⟨V, hV, R1, B1⟩ : ∃ V, V = w.setCell ⟨p, 1, none⟩ (.int .i64 ((k : Int) + 1)) ∧ Hid (Rdr V p s (k + 1) d) ∧ Hid (But p w V) :=
    ⟨_, rfl, Lib.hid (R.out.put1 (k + 1)), Lib.hid (but_put _ _ _ _)⟩
  rw [← hV]
  clear hV c0 c1 z1
  have c0 := R1.out.c0
  by_cases h1 : c = 42
  · have e1 : ((s[k].toNat : Int) == 42) = true := by rw [← HC.out, h1]; rfl
    go_wp2_with fail
    go_ret2
    exact Or.inl ⟨0, -1, k + 1, rfl, Lib.hid ⟨⟨by decide, by decide, Or.inl rfl⟩, by omega, by omega⟩, R1.out, B1.out⟩
  have n1 : ((s[k].toNat : Int) == 42) = false := beq_eq_false_iff_ne.2 (by rw [← HC.out]; omega)
  by_cases h2 : c = 43
  · have e1 : ((s[k].toNat : Int) == 43) = true := by rw [← HC.out, h2]; rfl
    go_wp2_with fail
    go_ret2
    exact Or.inl ⟨1, -1, k + 1, rfl, Lib.hid ⟨⟨by decide, by decide, Or.inl rfl⟩, by omega, by omega⟩, R1.out, B1.out⟩
  have n2 : ((s[k].toNat : Int) == 43) = false := beq_eq_false_iff_ne.2 (by rw [← HC.out]; omega)
  by_cases h3 : c = 63
  · have e1 : ((s[k].toNat : Int) == 63) = true := by rw [← HC.out, h3]; rfl
    go_wp2_with fail
    go_ret2
    exact Or.inl ⟨0, 1, k + 1, rfl, Lib.hid ⟨⟨by decide, by decide, Or.inr ⟨by decide, by decide⟩⟩, by omega, by omega⟩, R1.out, B1.out⟩
  have n3 : ((s[k].toNat : Int) == 63) = false := beq_eq_false_iff_ne.2 (by rw [← HC.out]; omega)
  clear h1 h2 h3 hc
  have MV := Lib.hid (HMX.out.but B1.out hpz)
  have hes : (s.extract (k + 1) s.size).size = s.size - (k + 1) := by rw [ByteArray.size_extract]; omega
  obtain ⟨I, J, ok, hok, _, hI, HCut0⟩ := cut_any (s.extract (k + 1) s.size) ⟨#[125]⟩ (by rw [hes]; omega) V MV.out
  rw [hes] at hok hI
  have HCut := Lib.hid HCut0
  have HOk : Hid (ok = true → k + 1 + (I.size + 1) ≤ s.size) := Lib.hid (fun h => by have h1 := hok h; have h2 : ((⟨#[125]⟩ : ByteArray)).size = 1 := rfl; omega)
  have hI4 : I.size ≤ 400 := by omega
  have HCn := Lib.hid (fun w hx => counts_any I hI4 w hx)
  clear HCut0 hok hes
  have c1 := R1.out.c1
  have s1 : (0 : Int) ≤ (k : Int) + 1 := by omega
  have s2 : ((k : Int) + 1).toNat = k + 1 := by omega
  have s3 : (k : Int) + 1 ≤ s.size := by omega
  go_wp2_with fail
  go_quiet ((go_at_call 143; exact Calls.quiet_of (HCut.out _)))
  clear s1 s2 s3 c0 c1
  obtain ⟨D, hD, bD⟩ : ∃ D, D = V.drewN _ ∧ Below V.heap.size V D := ⟨_, rfl, drewN_below V _⟩
  rw [← hD]
  clear hD
  have R2 := Lib.hid (R1.out.after bD)
  have B2 := Lib.hid (B1.out.then bD)
  have HC2 := Lib.hid (HCn.out D (MV.out.after bD))
  clear bD HCn
  go_wp2_with fail
  refine HC2.out.mono ?_
  rintro e w2 ⟨lo, hi, b, rfl, q2, hq2⟩
  have bE : Below D.heap.size D w2 := by rw [hq2]; exact drewN_below D q2
  clear hq2
  have R3 := Lib.hid (R2.out.after bE)
  have B3 := Lib.hid (B2.out.then bE)
  clear bE
  cases ok with
  | false =>
    go_wp2_with fail
    exact ⟨rfl, Or.inr ⟨k, 50, by decide, rfl, B3.out⟩⟩
  | true =>
    cases b with
    | false =>
      go_wp2_with fail
      exact ⟨rfl, Or.inr ⟨k, 50, by decide, rfl, B3.out⟩⟩
    | true =>
      have HT := Lib.hid (areTimes_any lo hi w2)
      go_wp2_with fail
      refine HT.out.mono ?_
      rintro e w3 ⟨b3, rfl, hb3, rfl⟩
      cases b3 with
      | false =>
        go_wp2_with fail
        exact ⟨rfl, Or.inr ⟨k, 50, by decide, rfl, B3.out⟩⟩
      | true =>
        have hk2 := HOk.out trivial
        have c1 := R3.out.c1; have z1 := R3.out.z 1
        go_wp2_with fail
        go_ret2
        exact Or.inl ⟨lo, hi, k + 1 + (I.size + 1), rfl, Lib.hid ⟨hb3.out trivial, by omega, hk2⟩, R3.out.put1 (k + 1 + (I.size + 1)), B3.out.put _ _⟩
end Go.Proofs.YtcojnkjcbopnbaaGreatDoor

/- class.Not: a walk. -/
namespace Go.Proofs.YtcojnkjcbopnbaaGreatDoor
open Go.RowKit

def notW (f : Nat → Nat) : Nat → Nat := fun k => 18446744073709551615 - f k
theorem not_word (x : Nat) (hx : x < 18446744073709551616) : bits BinOp.xor IntKind.u64 (if IntKind.u64.signed = true then -1 else IntKind.u64.max) (x : Int) = ((18446744073709551615 - x : Nat) : Int) := by
  rw [show (if IntKind.u64.signed = true then -1 else IntKind.u64.max) = ((18446744073709551615 : Nat) : Int) from rfl, bits_xor_u64_nat _ _ (by decide) hx]
  congr 1
  apply Nat.eq_of_testBit_eq
  intro i
  have h1 : 18446744073709551615 - x = 2 ^ 64 - (x + 1) := by omega
  rw [h1, Nat.testBit_two_pow_sub_succ (by omega), Nat.testBit_xor, show (18446744073709551615 : Nat) = 2 ^ 64 - 1 from rfl, Nat.testBit_two_pow_sub_one]
  by_cases h : i < 64
  · simp [h]
  · have : x.testBit i = false := Nat.testBit_lt_two_pow (Nat.lt_of_lt_of_le hx (Nat.pow_le_pow_right (n := 2) (i := 64) (by decide) (by omega)))
    simp [h, this]
theorem fits_not (f : Nat → Nat) : Fits (notW f) := fun k _ => by unfold notW; omega
theorem bit_not (f : Nat → Nat) (hf : Fits f) {c : Nat} (hc : c < 256) : bit (notW f) c = !bit f c := by
  have h0 := hf (c / 64) (by omega)
  unfold bit notW
  have h1 : 18446744073709551615 - f (c / 64) = 2 ^ 64 - (f (c / 64) + 1) := by omega
  rw [h1, Nat.testBit_two_pow_sub_succ (by omega)]
  have : c % 64 < 64 := by omega
  simp [this]
theorem not_not (f : Nat → Nat) (hf : Fits f) : words (notW (notW f)) = words f := words_congr fun k hk => by have := hf k hk; unfold notW; omega

set_option maxRecDepth 100000 in
theorem not_spec (f : Nat → Nat) (hf : Fits f) (w : World) :
    Calls Tryz.prog 141 #[.agg (words f)] w fun e w' => e = .returned (.agg (words (notW f))) ∧ Below w.heap.size w w' := by
  go_enter Tryz.func141, Tryz.ntmps141
  go_wp2_with fail
  obtain ⟨W, hW, Q0, Q1, HB⟩ := boxed2 w f zero4 65 65
  change Code.wp _ _ _ _ ((w.alloc (Obj.cells (words f) 65)).alloc (Obj.cells (words zero4) 65))
  rw [← hW]
  clear hW
  go_loopw [3, 4] (fun _ y wr => ∃ k : Nat, y = .int .i64 k ∧ k ≤ 4 ∧ Hid (Quad wr w.heap.size (fun j => if j < k then notW f j else f j)) ∧ Hid (Quad wr (w.heap.size + 1) zero4) ∧ Hid (Below w.heap.size w wr)) (fun _ y _ => 4 - (intOf y).toNat)
  case atStart => exact ⟨0, rfl, by omega, by simpa using Q0, Q1, HB⟩
  case round =>
    obtain ⟨k, rfl, hk, q0, q1, hb⟩ := hrel
    by_cases hgo : k < 4
    · have hc := q0.out.c k hgo
      have hz := q0.out.z k hgo
      simp only [Nat.lt_irrefl, if_false] at hc
      have hx := not_word (f k) (hf k hgo)
      go_wp2_with fail
      try rw [hx]
      go_roundw
      case rel =>
        refine ⟨k + 1, by go_num, by omega, Lib.hid ((q0.out.set hgo _).congr fun j hj => ?_), Lib.hid (q1.out.other (by omega) _), Lib.hid (hb.out.setCell (by simp) _)⟩
        by_cases h1 : j = k
        · simp [h1, notW]
        · rw [if_neg h1]
          by_cases h2 : j < k
          · rw [if_pos h2, if_pos (by omega)]
          · rw [if_neg h2, if_neg (by omega)]
      case measure => simp [intOf]; omega
    · obtain rfl : k = 4 := by omega
      have Q := q0.out.congr (g := notW f) (fun j hj => by rw [if_pos hj])
      have c0 := Q.c 0 (by omega); have c1 := Q.c 1 (by omega); have c2 := Q.c 2 (by omega); have c3 := Q.c 3 (by omega)
      have z0 := q1.out.z 0 (by omega); have z1 := q1.out.z 1 (by omega); have z2 := q1.out.z 2 (by omega); have z3 := q1.out.z 3 (by omega)
      have y0 := q1.out.c 0 (by omega); have y1 := q1.out.c 1 (by omega); have y2 := q1.out.c 2 (by omega); have y3 := q1.out.c 3 (by omega)
      have HQ := Lib.hid Q; clear Q
      go_wp2_with fail
      obtain ⟨e0, e1, e2, e3⟩ := put4_reads q1.out (notW f)
      unfold put4 at e0 e1 e2 e3
      refine bodyPost_ret (v := .agg (words (notW f))) (by simp [results, Tryz.results141, go_sem, e0, e1, e2, e3, words]) rfl ⟨rfl, ?_⟩
      exact below_put4 hb.out (by omega) (notW f)
end Go.Proofs.YtcojnkjcbopnbaaGreatDoor

/- class.member, members, Parse at any text: walks. -/
namespace Go.Proofs.YtcojnkjcbopnbaaGreatDoor
open Go.RowKit

theorem prefix_len {s : ByteArray} {k : Nat} {p : List UInt8} (hk : k ≤ s.size) (h : Lib.hasPrefix (s.extract k s.size).data.toList p = true) : k + p.length ≤ s.size := by
  have h1 := (List.isPrefixOf_iff_prefix.1 h).length_le
  rw [extract_drop, List.length_drop] at h1
  have h2 : s.data.toList.length = s.size := Array.length_toList
  omega

set_option maxRecDepth 100000 in
set_option maxHeartbeats 2000000 in
theorem member_any (s : ByteArray) (k : Nat) (h : k ≤ s.size) (hs : s.size ≤ 400) (w : World) (hx : MX w) :
    Calls Tryz.prog 160 #[.string s, .int .i64 k] w (SetOut s k w) := by
  obtain ⟨W, hW, Q, HB⟩ := quad_box w zero4 65
  have HX := Lib.hid (hx.after HB.out)
  have hk1 : (k : Int) ≤ s.size := by omega
  clear hx
  cases hp : Lib.hasPrefix (s.extract k s.size).data.toList [91, 58] with
  | true =>
    have h2 : k + 2 ≤ s.size := prefix_len h hp
    have HP := Lib.hid (fun w => hp_spec (s.extract k s.size) ⟨#[91, 58]⟩ true hp w)
    have HC := Lib.hid (classAt_any s (k + 2) h2 hs W HX.out)
    have e2 : ((k + 2 : Nat) : Int) = (k : Int) + 2 := by omega
    rw [e2] at HC
    clear hp e2
    go_enter Tryz.func160, Tryz.ntmps160
    go_upto_region 1 with (fail)
    change Code.wp _ _ _ _ (w.alloc (Obj.cells (words zero4) 65))
    rw [← hW]
    clear hW
    go_wp2_with fail
    refine (HP.out _).mono ?_
    rintro e w1 ⟨rfl, rfl⟩
    go_wp2_with fail
    refine HC.out.mono ?_
    rintro e w2 ⟨f, n, x, rfl, hf, b2⟩
    have Q2 := Lib.hid (Q.out.after b2)
    have B2 := Lib.hid (Below.step HB.out b2)
    clear b2
    have z0 := Q2.out.z 0 (by omega); have z1 := Q2.out.z 1 (by omega); have z2 := Q2.out.z 2 (by omega); have z3 := Q2.out.z 3 (by omega)
    have y0 := Q2.out.c 0 (by omega); have y1 := Q2.out.c 1 (by omega); have y2 := Q2.out.c 2 (by omega); have y3 := Q2.out.c 3 (by omega)
    simp only [words]
    go_wp2_with fail
    obtain ⟨e0, e1, e2, e3⟩ := put4_reads Q2.out f
    unfold put4 at e0 e1 e2 e3
    exact bodyPost_ret (v := .tuple #[.agg (words f), .int .i64 (n : Int), .int .i64 x]) (by simp [results, Tryz.results160, go_sem, e0, e1, e2, e3, words]) rfl ⟨f, n, x, rfl, Lib.hid ⟨hf.out.1, fun h => by have := hf.out.2 h; omega⟩, below_put4 B2.out (by omega) f⟩
  | false =>
    have HP := Lib.hid (fun w => hp_spec (s.extract k s.size) ⟨#[91, 58]⟩ false hp w)
    have HC := Lib.hid (fun w => byteAt_any s k h (by omega) w)
    have HC2 := Lib.hid (fun n (hn : n < s.size) w => byteAt_any s (n + 1) (by omega) (by omega) w)
    clear hp
    have z0 := Q.out.z 0 (by omega); have z1 := Q.out.z 1 (by omega); have z2 := Q.out.z 2 (by omega); have z3 := Q.out.z 3 (by omega)
    have y0 := Q.out.c 0 (by omega); have y1 := Q.out.c 1 (by omega); have y2 := Q.out.c 2 (by omega); have y3 := Q.out.c 3 (by omega)
    have HAdd : Hid (∀ (V : World) (c d : Nat), c < 256 → d < 256 → Calls Tryz.prog 153 #[.agg #[.int .u64 0, .int .u64 0, .int .u64 0, .int .u64 0], .int .u8 c, .int .u8 d] V fun e w' => ∃ g, e = .returned (.agg (words g)) ∧ Hid (Fits g) ∧ Below V.heap.size V w') := Lib.hid (fun V c d hc hd => (add_spec zero4 fits_zero c d hc hd V).mono fun e w' ⟨g, h1, h2, h3⟩ => ⟨g, h1, Lib.hid h2.out.1, h3⟩)
    go_enter Tryz.func160, Tryz.ntmps160
    go_upto_region 1 with (fail)
    change Code.wp _ _ _ _ (w.alloc (Obj.cells (words zero4) 65))
    rw [← hW]
    clear hW
    go_wp2_with fail
    refine (HP.out _).mono ?_
    rintro e w1 ⟨rfl, rfl⟩
    go_wp2_with fail
    refine (HC.out _).mono ?_
    rintro e w2 ⟨c, n, x, rfl, hc, hn, rfl⟩
    by_cases hx0 : x = 0
    rotate_left
    · have hxb : (x == 0) = false := beq_eq_false_iff_ne.2 hx0
      have HX0 := Lib.hid hx0; clear hx0
      go_wp2_with fail
      obtain ⟨e0, e1, e2, e3⟩ := zput_reads Q.out
      exact bodyPost_ret (v := .tuple #[.agg (words zero4), .int .i64 ((0 : Nat) : Int), .int .i64 x]) (by simp [results, Tryz.results160, go_sem, e0, e1, e2, e3, words, zero4]) rfl ⟨zero4, 0, x, rfl, Lib.hid ⟨fits_zero, fun h => absurd h HX0.out⟩, below_put4 HB.out (by omega) zero4⟩
    subst hx0
    obtain ⟨hn1, hn2⟩ := hn.out rfl
    have hn3 : (n : Int) ≤ s.size := by omega
    have HG := Lib.hid (fun w => goesOn_any (s.extract n s.size) w)
    have hes : Hid ((s.extract n s.size).size = s.size - n) := Lib.hid (by rw [ByteArray.size_extract]; omega)
    clear hn
    go_wp2_with fail
    refine (HG.out _).mono ?_
    rintro e w3 ⟨b, rfl, hb, rfl⟩
    cases b with
    | false =>
      have HA := Lib.hid (HAdd.out w3 c c hc hc)
      have hcc : decide ((c : Int) < c) = false := decide_eq_false (by omega)
      clear hb hes HG HC HC2 HAdd
      go_wp2_with fail
      refine HA.out.mono ?_
      rintro e w4 ⟨g, rfl, hg, b4⟩
      have Q4 := Lib.hid (Q.out.after b4)
      have B4 := Lib.hid (Below.step HB.out b4)
      clear b4 z0 z1 z2 z3 y0 y1 y2 y3
      have z0 := Q4.out.z 0 (by omega); have z1 := Q4.out.z 1 (by omega); have z2 := Q4.out.z 2 (by omega); have z3 := Q4.out.z 3 (by omega)
      have y0 := Q4.out.c 0 (by omega); have y1 := Q4.out.c 1 (by omega); have y2 := Q4.out.c 2 (by omega); have y3 := Q4.out.c 3 (by omega)
      simp only [words]
      go_wp2_with fail
      obtain ⟨e0, e1, e2, e3⟩ := put4_reads Q4.out g
      unfold put4 at e0 e1 e2 e3
      exact bodyPost_ret (v := .tuple #[.agg (words g), .int .i64 (n : Int), .int .i64 0]) (by simp [results, Tryz.results160, go_sem, e0, e1, e2, e3, words]) rfl ⟨g, n, 0, rfl, Lib.hid ⟨hg.out, fun _ => ⟨by omega, by omega⟩⟩, below_put4 B4.out (by omega) g⟩
    | true =>
      have hn4 : n < s.size := by have h1 := hb.out rfl; rw [hes.out] at h1; omega
      have HC3 := Lib.hid (HC2.out n hn4)
      have e1' : ((n + 1 : Nat) : Int) = (n : Int) + 1 := by omega
      rw [e1'] at HC3
      clear hb hes HG HC HC2 e1'
      go_wp2_with fail
      refine (HC3.out _).mono ?_
      rintro e w5 ⟨d, m, y, rfl, hd, hm, rfl⟩
      by_cases hy0 : y = 0
      rotate_left
      · have hyb : (y == 0) = false := beq_eq_false_iff_ne.2 hy0
        have HY0 := Lib.hid hy0; clear hy0
        go_wp2_with fail
        obtain ⟨e0, e1, e2, e3⟩ := zput_reads Q.out
        exact bodyPost_ret (v := .tuple #[.agg (words zero4), .int .i64 ((0 : Nat) : Int), .int .i64 y]) (by simp [results, Tryz.results160, go_sem, e0, e1, e2, e3, words, zero4]) rfl ⟨zero4, 0, y, rfl, Lib.hid ⟨fits_zero, fun h => absurd h HY0.out⟩, below_put4 HB.out (by omega) zero4⟩
      subst hy0
      obtain ⟨hm1, hm2⟩ := hm.out rfl
      clear hm HC3
      by_cases hcd : d < c
      · have hcc : decide ((d : Int) < c) = true := decide_eq_true (by omega)
        go_wp2_with fail
        obtain ⟨e0, e1, e2, e3⟩ := zput_reads Q.out
        exact bodyPost_ret (v := .tuple #[.agg (words zero4), .int .i64 ((0 : Nat) : Int), .int .i64 4]) (by simp [results, Tryz.results160, go_sem, e0, e1, e2, e3, words, zero4]) rfl ⟨zero4, 0, 4, rfl, Lib.hid ⟨fits_zero, fun h => absurd h (by decide)⟩, below_put4 HB.out (by omega) zero4⟩
      · have hcc : decide ((d : Int) < c) = false := decide_eq_false (by omega)
        have HA := Lib.hid (HAdd.out w5 c d hc hd)
        have hcd2 : c ≤ d := by omega
        clear HAdd
        go_wp2_with fail
        refine HA.out.mono ?_
        rintro e w4 ⟨g, rfl, hg, b4⟩
        have Q4 := Lib.hid (Q.out.after b4)
        have B4 := Lib.hid (Below.step HB.out b4)
        clear b4 z0 z1 z2 z3 y0 y1 y2 y3
        have z0 := Q4.out.z 0 (by omega); have z1 := Q4.out.z 1 (by omega); have z2 := Q4.out.z 2 (by omega); have z3 := Q4.out.z 3 (by omega)
        have y0 := Q4.out.c 0 (by omega); have y1 := Q4.out.c 1 (by omega); have y2 := Q4.out.c 2 (by omega); have y3 := Q4.out.c 3 (by omega)
        simp only [words]
        go_wp2_with fail
        obtain ⟨e0, e1, e2, e3⟩ := put4_reads Q4.out g
        unfold put4 at e0 e1 e2 e3
        exact bodyPost_ret (v := .tuple #[.agg (words g), .int .i64 (m : Int), .int .i64 0]) (by simp [results, Tryz.results160, go_sem, e0, e1, e2, e3, words]) rfl ⟨g, m, 0, rfl, Lib.hid ⟨hg.out, fun _ => ⟨by omega, by omega⟩⟩, below_put4 B4.out (by omega) g⟩

set_option maxRecDepth 100000 in
set_option maxHeartbeats 2000000 in
theorem members_any (s : ByteArray) (k : Nat) (h : k ≤ s.size) (hs : s.size ≤ 400) (w : World) (hx : MX w) :
    Calls Tryz.prog 158 #[.string s, .int .i64 k] w (SetOut s k w) := by
  have HX := Lib.hid hx; clear hx
  have HM := Lib.hid (fun k h w hx => member_any s k h hs w hx)
  go_enter Tryz.func158, Tryz.ntmps158
  go_wp2_with fail
  obtain ⟨W, hW, Q0, Q1, HB⟩ := boxed2 w zero4 zero4 65 65
  change Code.wp _ _ _ _ ((w.alloc (Obj.cells (words zero4) 65)).alloc (Obj.cells (words zero4) 65))
  rw [← hW]
  clear hW
  go_loopw [1] (fun x wr => ∃ (pos : Nat) (g : Nat → Nat), x = .int .i64 pos ∧ pos ≤ s.size ∧ k ≤ pos ∧ Hid (Fits g) ∧ Hid (Quad wr w.heap.size zero4) ∧ Hid (Quad wr (w.heap.size + 1) g) ∧ Hid (Below w.heap.size w wr)) (fun x _ => s.size - (intOf x).toNat)
  case atStart => exact ⟨k, zero4, rfl, h, Nat.le_refl _, Lib.hid fits_zero, Q0, Q1, HB⟩
  case round =>
    obtain ⟨pos, g, rfl, hpos, hkp, hF, q0, q1, hB⟩ := hrel
    have HC := Lib.hid (HM.out pos hpos wr (HX.out.after hB.out))
    go_wp2_with fail
    refine HC.out.mono ?_
    rintro e w1 ⟨gp, n, x, rfl, hf, b1⟩
    have B1 := Lib.hid b1; clear b1 HC
    simp only [words]
    go_upto_region 3 with (fail)
    obtain ⟨W2, hW2, QP, HB2⟩ := quad_box w1 gp 65
    change Code.wp _ _ _ _ (w1.alloc (Obj.cells (words gp) 65))
    rw [← hW2]
    clear hW2
    have q0' := Lib.hid ((q0.out.after B1.out).after HB2.out)
    have q1' := Lib.hid ((q1.out.after B1.out).after HB2.out)
    have hB' := Lib.hid (Below.step (Below.step hB.out B1.out) HB2.out)
    clear q0 q1 hB B1 HB2
    by_cases hx0 : x = 0
    rotate_left
    · have hxb : (x == 0) = false := beq_eq_false_iff_ne.2 hx0
      have HX0 := Lib.hid hx0; clear hx0
      have z0 := q0'.out.z 0 (by omega); have z1 := q0'.out.z 1 (by omega); have z2 := q0'.out.z 2 (by omega); have z3 := q0'.out.z 3 (by omega)
      have y0 := q0'.out.c 0 (by omega); have y1 := q0'.out.c 1 (by omega); have y2 := q0'.out.c 2 (by omega); have y3 := q0'.out.c 3 (by omega)
      go_wp2_with fail
      obtain ⟨e0, e1, e2, e3⟩ := zput_reads q0'.out
      exact bodyPost_ret (v := .tuple #[.agg (words zero4), .int .i64 ((0 : Nat) : Int), .int .i64 x]) (by simp [results, Tryz.results158, go_sem, e0, e1, e2, e3, words, zero4]) rfl ⟨zero4, 0, x, rfl, Lib.hid ⟨fits_zero, fun h => absurd h HX0.out⟩, below_put4 hB'.out (by omega) zero4⟩
    subst hx0
    obtain ⟨hn1, hn2⟩ := hf.out.2 rfl
    have hfp := Lib.hid hf.out.1
    clear hf
    have HU := Lib.hid (fun w => union_spec g gp hF.out hfp.out w)
    have c0 := q1'.out.c 0 (by omega); have c1 := q1'.out.c 1 (by omega); have c2 := q1'.out.c 2 (by omega); have c3 := q1'.out.c 3 (by omega)
    have d0 := QP.out.c 0 (by omega); have d1 := QP.out.c 1 (by omega); have d2 := QP.out.c 2 (by omega); have d3 := QP.out.c 3 (by omega)
    go_wp2_with fail
    refine (HU.out _).mono ?_
    rintro e w3 ⟨rfl, b3⟩
    clear c0 c1 c2 c3 d0 d1 d2 d3
    have q0 := Lib.hid (q0'.out.after b3)
    have q1 := Lib.hid (q1'.out.after b3)
    have hB := Lib.hid (Below.step hB'.out b3)
    clear q0' q1' hB' b3
    have hfit := Lib.hid (fits_or hF.out hfp.out)
    have z0 := q1.out.z 0 (by omega); have z1 := q1.out.z 1 (by omega); have z2 := q1.out.z 2 (by omega); have z3 := q1.out.z 3 (by omega)
    have y0 := q1.out.c 0 (by omega); have y1 := q1.out.c 1 (by omega); have y2 := q1.out.c 2 (by omega); have y3 := q1.out.c 3 (by omega)
    simp only [words]
    go_upto_region 6 with (fail)
    clear y0 y1 y2 y3 z0 z1 z2 z3
    obtain ⟨W4, hW4, r0, r1, rB⟩ : ∃ W4, W4 = put4 w3 (w.heap.size + 1) (orW g gp) ∧ Hid (Quad W4 w.heap.size zero4) ∧ Hid (Quad W4 (w.heap.size + 1) (orW g gp)) ∧ Hid (Below w.heap.size w W4) :=
      ⟨_, rfl, Lib.hid (q0.out.put4_other (by omega) _), Lib.hid (q1.out.put4 _), Lib.hid (below_put4 hB.out (by omega) _)⟩
    change Code.wp _ _ _ _ (put4 w3 (w.heap.size + 1) (orW g gp))
    rw [← hW4]
    clear hW4 q0 q1 hB
    have hn3 : (n : Int) ≤ s.size := by omega
    obtain ⟨b, hb⟩ : ∃ b, b = Lib.hasPrefix (s.extract n s.size).data.toList [93] := ⟨_, rfl⟩
    have HP := Lib.hid (fun w => hp_spec (s.extract n s.size) ⟨#[93]⟩ b hb.symm w)
    have HBn : Hid (b = true → n + 1 ≤ s.size) := Lib.hid (fun e => prefix_len hn2 (hb.symm.trans e))
    clear hb
    go_wp2_with fail
    refine (HP.out _).mono ?_
    rintro e w5 ⟨rfl, rfl⟩
    cases b with
    | true =>
      have hn4 := HBn.out rfl
      have c0 := r1.out.c 0 (by omega); have c1 := r1.out.c 1 (by omega); have c2 := r1.out.c 2 (by omega); have c3 := r1.out.c 3 (by omega)
      have z0 := r0.out.z 0 (by omega); have z1 := r0.out.z 1 (by omega); have z2 := r0.out.z 2 (by omega); have z3 := r0.out.z 3 (by omega)
      have y0 := r0.out.c 0 (by omega); have y1 := r0.out.c 1 (by omega); have y2 := r0.out.c 2 (by omega); have y3 := r0.out.c 3 (by omega)
      go_wp2_with fail
      obtain ⟨e0, e1, e2, e3⟩ := put4_reads r0.out (orW g gp)
      unfold put4 at e0 e1 e2 e3
      exact bodyPost_ret (v := .tuple #[.agg (words (orW g gp)), .int .i64 ((n + 1 : Nat) : Int), .int .i64 0]) (by simp [results, Tryz.results158, go_sem, e0, e1, e2, e3, words]) rfl ⟨orW g gp, n + 1, 0, rfl, Lib.hid ⟨hfit.out, fun _ => ⟨by omega, hn4⟩⟩, below_put4 rB.out (by omega) _⟩
    | false =>
      go_wp2_with fail
      go_roundw
      case rel => exact ⟨n, orW g gp, rfl, hn2, by omega, hfit, r0, r1, rB⟩
      case measure => simp [intOf]; omega

set_option maxRecDepth 100000 in
set_option maxHeartbeats 2000000 in
theorem classParse_any (s : ByteArray) (k : Nat) (h : k < s.size) (hb : s[k].toNat = 91) (hs : s.size ≤ 400) (w : World) (hx : MX w) :
    Calls Tryz.prog 152 #[.string s, .int .i64 k] w (SetOut s k w) := by
  obtain ⟨W, hW, Q, HB⟩ := quad_box w zero4 65
  have HX := Lib.hid (hx.after HB.out)
  obtain ⟨b, hpb⟩ : ∃ b, b = Lib.hasPrefix (s.extract (k + 1) s.size).data.toList [94] := ⟨_, rfl⟩
  have HP := Lib.hid (fun w => hp_spec (s.extract (k + 1) s.size) ⟨#[94]⟩ b hpb.symm w)
  have HBn : Hid (b = true → k + 2 ≤ s.size) := Lib.hid (fun e => by have := prefix_len (k := k + 1) (by omega) (hpb.symm.trans e); simpa using this)
  have HM := Lib.hid (fun k h w hx => members_any s k h hs w hx)
  have hk1 : (k : Int) + 1 ≤ s.size := by omega
  clear hx hpb
  go_enter Tryz.func152, Tryz.ntmps152
  go_upto_region 1 with (fail)
  change Code.wp _ _ _ _ (w.alloc (Obj.cells (words zero4) 65))
  rw [← hW]
  clear hW
  go_wp2_with fail
  refine (HP.out _).mono ?_
  rintro e w1 ⟨rfl, rfl⟩
  cases b with
  | false =>
    have HC := Lib.hid (HM.out (k + 1) (by omega) w1 HX.out)
    have e1' : ((k + 1 : Nat) : Int) = (k : Int) + 1 := by omega
    rw [e1'] at HC
    clear e1' HM HBn
    go_wp2_with fail
    refine HC.out.mono ?_
    rintro e w2 ⟨g, n, x, rfl, hf, b2⟩
    have q := Lib.hid (Q.out.after b2)
    have hB := Lib.hid (Below.step HB.out b2)
    clear b2
    simp only [words]
    go_upto_region 8 with (fail)
    obtain ⟨W2, hW2, QP, HB2⟩ := quad_box w2 g 65
    change Code.wp _ _ _ _ (w2.alloc (Obj.cells (words g) 65))
    rw [← hW2]
    clear hW2
    have q2 := Lib.hid (q.out.after HB2.out)
    have hB2 := Lib.hid (Below.step hB.out HB2.out)
    have z0 := q2.out.z 0 (by omega); have z1 := q2.out.z 1 (by omega); have z2 := q2.out.z 2 (by omega); have z3 := q2.out.z 3 (by omega)
    have y0 := q2.out.c 0 (by omega); have y1 := q2.out.c 1 (by omega); have y2 := q2.out.c 2 (by omega); have y3 := q2.out.c 3 (by omega)
    by_cases hx0 : x = 0
    rotate_left
    · have hxb : (x == 0) = false := beq_eq_false_iff_ne.2 hx0
      have HX0 := Lib.hid hx0; clear hx0
      go_wp2_with fail
      obtain ⟨e0, e1, e2, e3⟩ := zput_reads q2.out
      exact bodyPost_ret (v := .tuple #[.agg (words zero4), .int .i64 ((0 : Nat) : Int), .int .i64 x]) (by simp [results, Tryz.results152, go_sem, e0, e1, e2, e3, words, zero4]) rfl ⟨zero4, 0, x, rfl, Lib.hid ⟨fits_zero, fun h => absurd h HX0.out⟩, below_put4 hB2.out (by omega) zero4⟩
    subst hx0
    have hn := Lib.hid (hf.out.2 rfl)
    have d0 := QP.out.c 0 (by omega); have d1 := QP.out.c 1 (by omega); have d2 := QP.out.c 2 (by omega); have d3 := QP.out.c 3 (by omega)
    go_wp2_with fail
    obtain ⟨e0, e1, e2, e3⟩ := put4_reads q2.out g
    unfold put4 at e0 e1 e2 e3
    exact bodyPost_ret (v := .tuple #[.agg (words g), .int .i64 (n : Int), .int .i64 0]) (by simp [results, Tryz.results152, go_sem, e0, e1, e2, e3, words]) rfl ⟨g, n, 0, rfl, Lib.hid ⟨hf.out.1, fun _ => by have := hn.out; omega⟩, below_put4 hB2.out (by omega) g⟩
  | true =>
    have hk2 := HBn.out rfl
    have HC := Lib.hid (HM.out (k + 2) hk2 w1 HX.out)
    have e1' : ((k + 2 : Nat) : Int) = (k : Int) + 1 + 1 := by omega
    rw [e1'] at HC
    clear e1' HM HBn
    go_wp2_with fail
    refine HC.out.mono ?_
    rintro e w2 ⟨g, n, x, rfl, hf, b2⟩
    have q := Lib.hid (Q.out.after b2)
    have hB := Lib.hid (Below.step HB.out b2)
    clear b2
    simp only [words]
    go_upto_region 8 with (fail)
    obtain ⟨W2, hW2, QP, HB2⟩ := quad_box w2 g 65
    change Code.wp _ _ _ _ (w2.alloc (Obj.cells (words g) 65))
    rw [← hW2]
    clear hW2
    have q2 := Lib.hid (q.out.after HB2.out)
    have hB2 := Lib.hid (Below.step hB.out HB2.out)
    by_cases hx0 : x = 0
    rotate_left
    · have hxb : (x == 0) = false := beq_eq_false_iff_ne.2 hx0
      have HX0 := Lib.hid hx0; clear hx0
      have z0 := q2.out.z 0 (by omega); have z1 := q2.out.z 1 (by omega); have z2 := q2.out.z 2 (by omega); have z3 := q2.out.z 3 (by omega)
      have y0 := q2.out.c 0 (by omega); have y1 := q2.out.c 1 (by omega); have y2 := q2.out.c 2 (by omega); have y3 := q2.out.c 3 (by omega)
      go_wp2_with fail
      obtain ⟨e0, e1, e2, e3⟩ := zput_reads q2.out
      exact bodyPost_ret (v := .tuple #[.agg (words zero4), .int .i64 ((0 : Nat) : Int), .int .i64 x]) (by simp [results, Tryz.results152, go_sem, e0, e1, e2, e3, words, zero4]) rfl ⟨zero4, 0, x, rfl, Lib.hid ⟨fits_zero, fun h => absurd h HX0.out⟩, below_put4 hB2.out (by omega) zero4⟩
    subst hx0
    have hn := Lib.hid (hf.out.2 rfl)
    have HN := Lib.hid (fun w => not_spec g hf.out.1 w)
    have c0 := QP.out.c 0 (by omega); have c1 := QP.out.c 1 (by omega); have c2 := QP.out.c 2 (by omega); have c3 := QP.out.c 3 (by omega)
    go_wp2_with fail
    refine (HN.out _).mono ?_
    rintro e w3 ⟨rfl, b3⟩
    clear c0 c1 c2 c3
    have Q4 := Lib.hid (q2.out.after b3)
    have QP4 := Lib.hid (QP.out.after b3)
    have hB4 := Lib.hid (Below.step hB2.out b3)
    have hne := HB2.out.size
    have hlt : w.heap.size < w2.heap.size := q.out.lt
    clear b3
    have z0 := QP4.out.z 0 (by omega); have z1 := QP4.out.z 1 (by omega); have z2 := QP4.out.z 2 (by omega); have z3 := QP4.out.z 3 (by omega)
    have y0 := QP4.out.c 0 (by omega); have y1 := QP4.out.c 1 (by omega); have y2 := QP4.out.c 2 (by omega); have y3 := QP4.out.c 3 (by omega)
    simp only [words]
    go_upto_region 12 with (fail)
    clear y0 y1 y2 y3 z0 z1 z2 z3
    obtain ⟨W5, hW5, r0, r1, rB⟩ : ∃ W5, W5 = put4 w3 w2.heap.size (notW g) ∧ Hid (Quad W5 w.heap.size zero4) ∧ Hid (Quad W5 w2.heap.size (notW g)) ∧ Hid (Below w.heap.size w W5) :=
      ⟨_, rfl, Lib.hid (Q4.out.put4_other (by omega) _), Lib.hid (QP4.out.put4 _), Lib.hid (below_put4 hB4.out (by omega) _)⟩
    change Code.wp _ _ _ _ (put4 w3 w2.heap.size (notW g))
    rw [← hW5]
    clear hW5 Q4 QP4 hB4
    have c0 := r1.out.c 0 (by omega); have c1 := r1.out.c 1 (by omega); have c2 := r1.out.c 2 (by omega); have c3 := r1.out.c 3 (by omega)
    have z0 := r0.out.z 0 (by omega); have z1 := r0.out.z 1 (by omega); have z2 := r0.out.z 2 (by omega); have z3 := r0.out.z 3 (by omega)
    have y0 := r0.out.c 0 (by omega); have y1 := r0.out.c 1 (by omega); have y2 := r0.out.c 2 (by omega); have y3 := r0.out.c 3 (by omega)
    go_wp2_with fail
    obtain ⟨e0, e1, e2, e3⟩ := put4_reads r0.out (notW g)
    unfold put4 at e0 e1 e2 e3
    exact bodyPost_ret (v := .tuple #[.agg (words (notW g)), .int .i64 (n : Int), .int .i64 0]) (by simp [results, Tryz.results152, go_sem, e0, e1, e2, e3, words]) rfl ⟨notW g, n, 0, rfl, Lib.hid ⟨fits_not g, fun _ => by have := hn.out; omega⟩, below_put4 rB.out (by omega) _⟩
end Go.Proofs.YtcojnkjcbopnbaaGreatDoor
