/- Merged by program: E5OfByte, Bytes, Member, Union. -/
import Derived.Laws.Rows
import Derived.Laws.Tables
import Derived.Test.YtimipfdknfdbdaaGreatDoorQjad
import Derived.Test.YtimipfdknfdbdaaGreatDoorQjab
import Derived.Test.YtimipfdknfdbdaaGreatDoorQjac
/- ere.ofByte: a walk. -/
namespace Go.Proofs.YtimipfdknfdbdaaGreatDoor.E5
open Go.Proofs.YtimipfdknfdbdaaGreatDoor Go.Proofs
open Go.RowKit

/-- The set of one byte. -/
def oneF (c : Nat) : Nat → Nat := fun i => if i = c / 64 then 2 ^ (c % 64) else 0
theorem fits_oneF (c : Nat) : Fits (oneF c) := by
  intro i hi
  unfold oneF
  split
  · exact pow_lt64 c
  · decide
theorem bit_oneF (c x : Nat) : bit (oneF c) x = decide (x = c) := by
  unfold bit oneF
  by_cases h : x / 64 = c / 64
  · rw [if_pos h, Nat.testBit_two_pow]
    exact decide_eq_decide.2 (by omega)
  · rw [if_neg h, Nat.zero_testBit]
    exact (decide_eq_false (by omega)).symm
def oneT (c : Nat) : Tree := .mk 1 (oneF c) 0 0 []

theorem info_re : (Tryz.prog.info? 48).map (·.size) = some 8 := by kernel_rfl

/-- A whole tree stored to a result's cells, and read as the result. -/
theorem re_one (k : Int) (f : Nat → Nat) (lo hi : Int) (a : Option Addr) (n c : Nat) : (reC k f lo hi (.slice a n c)).all (·.oneCell') = true := by
  simp [reC]
  exact ⟨rfl, rfl, rfl, rfl, rfl, rfl, rfl, rfl⟩

set_option maxRecDepth 100000 in
theorem ofByte_spec (c : Nat) (hc : c < 256) (w : World) :
    Calls Tryz.prog 83 #[.int .u8 c] w fun e w' => e = .returned (.agg (reC 1 (oneF c) 0 0 (.slice none 0 0))) ∧ Below w.heap.size w w' := by
  have HA := Lib.hid (fun w => add_spec zero4 fits_zero c c hc hc w)
  have HI := info_re
  go_enter Tryz.func83, Tryz.ntmps83
  go_upto_region 1 with (fail)
  obtain ⟨W, hW, hX, hB, _⟩ := re_box w zeroR
  change Code.wp _ _ _ _ (w.alloc (Obj.cells zeroR 48))
  rw [← hW]
  clear hW
  go_wp2_with fail
  refine (HA.out _).mono ?_
  rintro e w1 ⟨g, rfl, hS, b1⟩
  have X1 := Lib.hid (hX.out.after b1)
  have B1 := Lib.hid (Below.step hB.out b1)
  clear b1
  have hg : reC 1 g 0 0 (.slice none 0 0) = reC 1 (oneF c) 0 0 (.slice none 0 0) := by
    refine reC_congr 1 0 0 _ (word_ext hS.out.1 (fits_oneF c) fun x hx => ?_)
    rw [hS.out.2 x hx, bit_oneF, bit_zero, Bool.false_or, ← Bool.decide_and]
    exact decide_eq_decide.2 (by omega)
  have HG := Lib.hid hg; clear hg
  simp only [words]
  go_wp2_with (refine wpList_store_row rfl 48 (.tmp 2) (.tmp 7) rfl w.heap.size (reC 1 g 0 0 (.slice none 0 0)) rfl rfl 48 zeroR X1.out.row HI rfl (re_one _ _ _ _ _ _ _) ?_)
  refine bodyPost_ret (v := .agg (reC 1 g 0 0 (.slice none 0 0))) (results_cell_row (by rfl) _ _ w.heap.size 48 _ (0, 0) _ (by rfl) (X1.out.setRow _).row Tryz.underlying48 (by rfl) HI) rfl ⟨by rw [HG.out], ?_⟩
  exact below_setRow B1.out (Nat.le_refl _) _
end Go.Proofs.YtimipfdknfdbdaaGreatDoor.E5

/- class.escaped, byteAt, goesOn: walks. -/
namespace Go.Proofs.YtimipfdknfdbdaaGreatDoor
open Go.RowKit

set_option maxRecDepth 100000 in
theorem escaped_spec (c : Nat) (h1 : c ≠ 110) (h2 : c ≠ 116) (w : World) :
    Calls Tryz.prog 106 #[.int .u8 c] w fun e w' => e = .returned (.int .u8 c) ∧ w' = w := by
  go_enter Tryz.func106, Tryz.ntmps106
  go_wp2_with fail
  go_ret
  exact ⟨rfl, rfl⟩

set_option maxRecDepth 100000 in
theorem byteAt_plain (s : ByteArray) (k : Nat) (h : k < s.size) (hs : s.size ≤ 1152921504606846976) (hc : s[k].toNat ≠ 92) (w : World) :
    Calls Tryz.prog 103 #[.string s, .int .i64 k] w fun e w' => e = .returned (.tuple #[.int .u8 s[k].toNat, .int .i64 ((k + 1 : Nat) : Int), .int .i64 0]) ∧ w' = w := by
  go_enter Tryz.func103, Tryz.ntmps103
  go_wp2_with fail
  exact bodyPost_ret (v := .tuple #[.int .u8 s[k].toNat, .int .i64 ((k + 1 : Nat) : Int), .int .i64 0]) (by simp [results, Tryz.results103, go_sem]) rfl ⟨rfl, rfl⟩

set_option maxRecDepth 100000 in
theorem byteAt_esc (s : ByteArray) (k : Nat) (h : k + 1 < s.size) (hs : s.size ≤ 1152921504606846976) (hc : s[k].toNat = 92) (h1 : s[k + 1].toNat ≠ 110) (h2 : s[k + 1].toNat ≠ 116) (w : World) :
    Calls Tryz.prog 103 #[.string s, .int .i64 k] w fun e w' => e = .returned (.tuple #[.int .u8 s[k + 1].toNat, .int .i64 ((k + 2 : Nat) : Int), .int .i64 0]) ∧ w' = w := by
  have C := Lib.hid (fun w => escaped_spec s[k + 1].toNat h1 h2 w)
  go_enter Tryz.func103, Tryz.ntmps103
  go_wp2_with fail
  refine (C.out _).mono ?_
  rintro e w1 ⟨rfl, rfl⟩
  go_wp2_with fail
  exact bodyPost_ret (v := .tuple #[.int .u8 s[k + 1].toNat, .int .i64 ((k + 2 : Nat) : Int), .int .i64 0]) (by simp [results, Tryz.results103, go_sem]) rfl ⟨rfl, rfl⟩

theorem hp_spec (s p : ByteArray) (b : Bool) (h : Lib.hasPrefix s.data.toList p.data.toList = b) (w : World) :
    Calls Tryz.prog 63 #[.string s, .string p] w fun e w' => e = .returned (.bool b) ∧ w' = w := by
  rw [← h]; exact Tryz.strings_HasPrefix s p w

set_option maxRecDepth 100000 in
theorem goesOn_no (s : ByteArray) (h : Lib.hasPrefix s.data.toList [45] = false) (w : World) :
    Calls Tryz.prog 104 #[.string s] w fun e w' => e = .returned (.bool false) ∧ w' = w := by
  have C := Lib.hid (fun w => hp_spec s ⟨#[45]⟩ false h w)
  go_enter Tryz.func104, Tryz.ntmps104
  go_wp2_with fail
  refine (C.out _).mono ?_
  rintro e w1 ⟨rfl, rfl⟩
  go_wp2_with fail
  go_ret
  exact ⟨rfl, rfl⟩

set_option maxRecDepth 100000 in
theorem goesOn_yes (s : ByteArray) (h : Lib.hasPrefix s.data.toList [45] = true) (h1 : Lib.hasPrefix s.data.toList [45, 93] = false) (h2 : Lib.hasPrefix s.data.toList [45, 91, 58] = false) (w : World) :
    Calls Tryz.prog 104 #[.string s] w fun e w' => e = .returned (.bool true) ∧ w' = w := by
  have C := Lib.hid (fun w => hp_spec s ⟨#[45]⟩ true h w)
  have D := Lib.hid (fun w => hp_spec s ⟨#[45, 93]⟩ false h1 w)
  have E := Lib.hid (fun w => hp_spec s ⟨#[45, 91, 58]⟩ false h2 w)
  go_enter Tryz.func104, Tryz.ntmps104
  go_wp2_with fail
  refine (C.out _).mono ?_
  rintro e w1 ⟨rfl, rfl⟩
  go_wp2_with fail
  refine (D.out _).mono ?_
  rintro e w2 ⟨rfl, rfl⟩
  go_wp2_with fail
  refine (E.out _).mono ?_
  rintro e w3 ⟨rfl, rfl⟩
  go_wp2_with fail
  go_ret
  exact ⟨rfl, rfl⟩
end Go.Proofs.YtimipfdknfdbdaaGreatDoor

/- class.member: walks. -/
namespace Go.Proofs.YtimipfdknfdbdaaGreatDoor
open Go.RowKit

theorem quad_box (w : World) (f : Nat → Nat) (t : TypeId) : ∃ W, W = w.alloc (.cells (words f) t) ∧ Hid (Quad W w.heap.size f) ∧ Hid (Below w.heap.size w W) :=
  ⟨_, rfl, Lib.hid (quad_new w f t), Lib.hid (below_new _ _)⟩

set_option maxRecDepth 100000 in
theorem member_one (s : ByteArray) (k n c : Nat) (hk : k < s.size) (hn : k + n ≤ s.size) (hs : s.size ≤ 1152921504606846976) (hc : c < 256)
    (hB : ∀ w, Calls Tryz.prog 103 #[.string s, .int .i64 k] w fun e w' => e = .returned (.tuple #[.int .u8 c, .int .i64 ((k + n : Nat) : Int), .int .i64 0]) ∧ w' = w)
    (hP : Lib.hasPrefix (s.extract k s.size).data.toList [91, 58] = false)
    (hG : ∀ w, Calls Tryz.prog 104 #[.string (s.extract (k + n) s.size)] w fun e w' => e = .returned (.bool false) ∧ w' = w) (w : World) :
    Calls Tryz.prog 100 #[.string s, .int .i64 k] w fun e w' => ∃ g, e = .returned (.tuple #[.agg (words g), .int .i64 ((k + n : Nat) : Int), .int .i64 0]) ∧ Hid (Span zero4 g c (c + 1)) ∧ Below w.heap.size w w' := by
  have HB := Lib.hid hB; clear hB
  have HG := Lib.hid hG; clear hG
  have HP := Lib.hid (fun w => hp_spec (s.extract k s.size) ⟨#[91, 58]⟩ false hP w); clear hP
  have HA := Lib.hid (fun w => add_spec zero4 fits_zero c c hc hc w)
  have hi1 : (k : Int) + n ≤ s.size := by omega
  go_enter Tryz.func100, Tryz.ntmps100
  go_upto_region 1 with (fail)
  obtain ⟨W, hW, Q, HBe⟩ := quad_box w zero4 45
  change Code.wp _ _ _ _ (w.alloc (Obj.cells (words zero4) 45))
  rw [← hW]
  clear hW
  go_wp2_with fail
  refine (HP.out _).mono ?_
  rintro e w1 ⟨rfl, rfl⟩
  go_wp2_with fail
  refine (HB.out _).mono ?_
  rintro e w2 ⟨rfl, rfl⟩
  go_wp2_with fail
  refine (HG.out _).mono ?_
  rintro e w3 ⟨rfl, rfl⟩
  go_wp2_with fail
  refine (HA.out _).mono ?_
  rintro e w4 ⟨g, rfl, hS, b4⟩
  have Q4 := Lib.hid (Q.out.after b4)
  have B4 := Lib.hid (Below.step HBe.out b4)
  clear b4
  have z0 := Q4.out.z 0 (by omega); have z1 := Q4.out.z 1 (by omega); have z2 := Q4.out.z 2 (by omega); have z3 := Q4.out.z 3 (by omega)
  have y0 := Q4.out.c 0 (by omega); have y1 := Q4.out.c 1 (by omega); have y2 := Q4.out.c 2 (by omega); have y3 := Q4.out.c 3 (by omega)
  simp only [words]
  go_wp2_with fail
  obtain ⟨e0, e1, e2, e3⟩ := put4_reads Q4.out g
  unfold put4 at e0 e1 e2 e3
  exact bodyPost_ret (v := .tuple #[.agg (words g), .int .i64 ((k + n : Nat) : Int), .int .i64 0]) (by simp [results, Tryz.results100, go_sem, e0, e1, e2, e3, words]) rfl ⟨g, rfl, hS, below_put4 B4.out (by omega) g⟩

set_option maxRecDepth 100000 in
theorem member_range (s : ByteArray) (k a b : Nat) (hk : k + 3 ≤ s.size) (hs : s.size ≤ 1152921504606846976) (hab : a ≤ b) (hb : b < 256)
    (hB : ∀ w, Calls Tryz.prog 103 #[.string s, .int .i64 k] w fun e w' => e = .returned (.tuple #[.int .u8 a, .int .i64 ((k + 1 : Nat) : Int), .int .i64 0]) ∧ w' = w)
    (hP : Lib.hasPrefix (s.extract k s.size).data.toList [91, 58] = false)
    (hG : ∀ w, Calls Tryz.prog 104 #[.string (s.extract (k + 1) s.size)] w fun e w' => e = .returned (.bool true) ∧ w' = w)
    (hB2 : ∀ w, Calls Tryz.prog 103 #[.string s, .int .i64 ((k + 2 : Nat) : Int)] w fun e w' => e = .returned (.tuple #[.int .u8 b, .int .i64 ((k + 3 : Nat) : Int), .int .i64 0]) ∧ w' = w) (w : World) :
    Calls Tryz.prog 100 #[.string s, .int .i64 k] w fun e w' => ∃ g, e = .returned (.tuple #[.agg (words g), .int .i64 ((k + 3 : Nat) : Int), .int .i64 0]) ∧ Hid (Span zero4 g a (b + 1)) ∧ Below w.heap.size w w' := by
  have HB := Lib.hid hB; clear hB
  have HB2 := Lib.hid hB2; clear hB2
  have HG := Lib.hid hG; clear hG
  have HP := Lib.hid (fun w => hp_spec (s.extract k s.size) ⟨#[91, 58]⟩ false hP w); clear hP
  have HA := Lib.hid (fun w => add_spec zero4 fits_zero a b (by omega) hb w)
  have ha : a < 256 := by omega
  go_enter Tryz.func100, Tryz.ntmps100
  go_upto_region 1 with (fail)
  obtain ⟨W, hW, Q, HBe⟩ := quad_box w zero4 45
  change Code.wp _ _ _ _ (w.alloc (Obj.cells (words zero4) 45))
  rw [← hW]
  clear hW
  go_wp2_with fail
  refine (HP.out _).mono ?_
  rintro e w1 ⟨rfl, rfl⟩
  go_wp2_with fail
  refine (HB.out _).mono ?_
  rintro e w2 ⟨rfl, rfl⟩
  go_wp2_with fail
  refine (HG.out _).mono ?_
  rintro e w3 ⟨rfl, rfl⟩
  go_wp2_with fail
  refine (HB2.out _).mono ?_
  rintro e w5 ⟨rfl, rfl⟩
  go_wp2_with fail
  refine (HA.out _).mono ?_
  rintro e w4 ⟨g, rfl, hS, b4⟩
  have Q4 := Lib.hid (Q.out.after b4)
  have B4 := Lib.hid (Below.step HBe.out b4)
  clear b4
  have z0 := Q4.out.z 0 (by omega); have z1 := Q4.out.z 1 (by omega); have z2 := Q4.out.z 2 (by omega); have z3 := Q4.out.z 3 (by omega)
  have y0 := Q4.out.c 0 (by omega); have y1 := Q4.out.c 1 (by omega); have y2 := Q4.out.c 2 (by omega); have y3 := Q4.out.c 3 (by omega)
  simp only [words]
  go_wp2_with fail
  obtain ⟨e0, e1, e2, e3⟩ := put4_reads Q4.out g
  unfold put4 at e0 e1 e2 e3
  exact bodyPost_ret (v := .tuple #[.agg (words g), .int .i64 ((k + 3 : Nat) : Int), .int .i64 0]) (by simp [results, Tryz.results100, go_sem, e0, e1, e2, e3, words]) rfl ⟨g, rfl, hS, below_put4 B4.out (by omega) g⟩
end Go.Proofs.YtimipfdknfdbdaaGreatDoor

/- class.Union: a walk. -/
namespace Go.Proofs.YtimipfdknfdbdaaGreatDoor
open Go.RowKit

def orW (f g : Nat → Nat) : Nat → Nat := fun k => f k ||| g k
theorem fits_or {f g : Nat → Nat} (hf : Fits f) (hg : Fits g) : Fits (orW f g) := fun k hk => Nat.or_lt_two_pow (n := 64) (hf k hk) (hg k hk)
theorem bit_or (f g : Nat → Nat) (c : Nat) : bit (orW f g) c = (bit f c || bit g c) := by simp [bit, orW, Nat.testBit_or]

set_option maxRecDepth 100000 in
theorem union_spec (f g : Nat → Nat) (hf : Fits f) (hg : Fits g) (w : World) :
    Calls Tryz.prog 101 #[.agg (words f), .agg (words g)] w fun e w' => e = .returned (.agg (words (orW f g))) ∧ Below w.heap.size w w' := by
  go_enter Tryz.func101, Tryz.ntmps101
  go_wp2_with fail
  obtain ⟨W, hW, Q0, Q1, Q2, HB⟩ := boxed3 w f g zero4 45 45 45
  change Code.wp _ _ _ _ (((w.alloc (Obj.cells (words f) 45)).alloc (Obj.cells (words g) 45)).alloc (Obj.cells (words zero4) 45))
  rw [← hW]
  clear hW
  go_loopw [5, 6] (fun _ y wr => ∃ k : Nat, y = .int .i64 k ∧ k ≤ 4 ∧ Hid (Quad wr w.heap.size (fun j => if j < k then orW f g j else f j)) ∧ Hid (Quad wr (w.heap.size + 1) g) ∧ Hid (Quad wr (w.heap.size + 1 + 1) zero4) ∧ Hid (Below w.heap.size w wr)) (fun _ y _ => 4 - (intOf y).toNat)
  case atStart => exact ⟨0, rfl, by omega, by simpa using Q0, Q1, Q2, HB⟩
  case round =>
    obtain ⟨k, rfl, hk, q0, q1, q2, hb⟩ := hrel
    by_cases hgo : k < 4
    · have hc := q0.out.c k hgo
      have hz := q0.out.z k hgo
      have hd := q1.out.c k hgo
      simp only [Nat.lt_irrefl, if_false] at hc
      have hx := bits_or_u64_nat (f k) (g k) (hf k hgo) (hg k hgo)
      go_wp2_with fail
      go_region
      all_goals
        go_wp2_with fail
        try rw [hx]
        go_roundw
        case rel =>
          refine ⟨k + 1, by go_num, by omega, Lib.hid ((Quad.congr ((q0.out.after (below_drew _)).set hgo _) fun j hj => ?_)), Lib.hid ((q1.out.after (below_drew _)).other (by omega) _), Lib.hid ((q2.out.after (below_drew _)).other (by omega) _), Lib.hid (hb.out.drew.setCell (by simp) _)⟩
          by_cases h1 : j = k
          · simp [h1, orW]
          · rw [if_neg h1]
            by_cases h2 : j < k
            · rw [if_pos h2, if_pos (by omega)]
            · rw [if_neg h2, if_neg (by omega)]
        case measure => simp [intOf]; omega
    · obtain rfl : k = 4 := by omega
      have Q := q0.out.congr (g := orW f g) (fun j hj => by rw [if_pos hj])
      have c0 := Q.c 0 (by omega); have c1 := Q.c 1 (by omega); have c2 := Q.c 2 (by omega); have c3 := Q.c 3 (by omega)
      have z0 := q2.out.z 0 (by omega); have z1 := q2.out.z 1 (by omega); have z2 := q2.out.z 2 (by omega); have z3 := q2.out.z 3 (by omega)
      have y0 := q2.out.c 0 (by omega); have y1 := q2.out.c 1 (by omega); have y2 := q2.out.c 2 (by omega); have y3 := q2.out.c 3 (by omega)
      have HQ := Lib.hid Q; clear Q
      go_wp2_with fail
      obtain ⟨e0, e1, e2, e3⟩ := put4_reads q2.out (orW f g)
      unfold put4 at e0 e1 e2 e3
      refine bodyPost_ret (v := .agg (words (orW f g))) (by simp [results, Tryz.results101, go_sem, e0, e1, e2, e3, words]) rfl ⟨rfl, ?_⟩
      exact below_put4 hb.out (by omega) (orW f g)
end Go.Proofs.YtimipfdknfdbdaaGreatDoor
