/- Merged by program: RClassA, PMem, PNum, PReps. -/
import Derived.Deep.CutBlock
import Derived.Test.YtcojnkjcbopnbaaGreatDoorQjbd
import Derived.Test.YtcojnkjcbopnbaaGreatDoorQjaw
import Derived.Test.YtcojnkjcbopnbaaGreatDoorQjay
import Derived.Test.YtcojnkjcbopnbaaGreatDoorQjba
/- aukletref04.at, single, Set at any text: walks. -/
namespace Go.Proofs.YtcojnkjcbopnbaaGreatDoor
open Go.RowKit

/-- A text's byte at a place; -1 beyond. -/
def atB (s : ByteArray) (i : Nat) : Int := if h : i < s.size then (s[i].toNat : Int) else -1
theorem atB_lt (s : ByteArray) (i : Nat) : atB s i < 256 := by
  unfold atB
  split
  · have := s[i].toNat_lt; omega
  · omega
theorem atB_ge (s : ByteArray) (i : Nat) : -1 ≤ atB s i := by
  unfold atB
  split <;> omega
theorem atB_in {s : ByteArray} {i : Nat} (h : 0 ≤ atB s i) : i < s.size := by
  unfold atB at h
  split at h
  · assumption
  · omega

set_option maxRecDepth 100000 in
theorem at_any (s : ByteArray) (i : Nat) (w : World) :
    Calls Tryz.prog 148 #[.string s, .int .i64 i] w fun e w' => e = .returned (.int .i64 (atB s i)) ∧ w' = w := by
  by_cases h : i < s.size
  · have e : atB s i = s[i].toNat := by unfold atB; rw [dif_pos h]
    have hd : decide ((i : Int) < s.size) = true := decide_eq_true (by omega)
    have hl : s[i].toNat < 256 := s[i].toNat_lt
    rw [e]
    clear e
    go_enter Tryz.func148, Tryz.ntmps148
    go_wp2_with fail
    go_ret
    exact ⟨rfl, rfl⟩
  · have e : atB s i = -1 := by unfold atB; rw [dif_neg h]
    have hd : decide ((i : Int) < s.size) = false := decide_eq_false (by omega)
    rw [e]
    clear e
    go_enter Tryz.func148, Tryz.ntmps148
    go_wp2_with fail
    go_ret
    exact ⟨rfl, rfl⟩

/-- What single tells: a byte and a place behind it; -1: the text ends. -/
def OneOut (s : ByteArray) (i : Nat) (w : World) (e : Ending) (w' : World) : Prop :=
  ∃ (x : Int) (n : Nat), e = .returned (.tuple #[.int .i64 x, .int .i64 n]) ∧ Hid (-1 ≤ x ∧ x < 256 ∧ i < n ∧ n ≤ i + 2 ∧ (0 ≤ x → n ≤ s.size)) ∧ w' = w

set_option maxRecDepth 100000 in
theorem single_any (s : ByteArray) (i : Nat) (hi : i ≤ 900) (w : World) :
    Calls Tryz.prog 150 #[.string s, .int .i64 i] w (OneOut s i w) := by
  have HA := Lib.hid (fun w => at_any s i w)
  have HB := Lib.hid (fun w => at_any s (i + 1) w)
  have e1 : ((i + 1 : Nat) : Int) = (i : Int) + 1 := by omega
  rw [e1] at HB
  have ga := Lib.hid (atB_ge s i); have la := Lib.hid (atB_lt s i); have ia := Lib.hid (fun h => atB_in (s := s) (i := i) h)
  have gb := Lib.hid (atB_ge s (i + 1)); have lb := Lib.hid (atB_lt s (i + 1)); have ib := Lib.hid (fun h => atB_in (s := s) (i := i + 1) h)
  clear e1
  generalize atB s i = x at *
  generalize atB s (i + 1) = y at *
  go_enter Tryz.func150, Tryz.ntmps150
  go_wp2_with fail
  refine (HA.out _).mono ?_
  rintro e w1 ⟨rfl, rfl⟩
  by_cases hx : x = 92
  · have hxb : (x == 92) = true := beq_iff_eq.2 hx
    clear HA
    go_wp2_with fail
    refine (HB.out _).mono ?_
    rintro e w2 ⟨rfl, rfl⟩
    by_cases h1 : y = 110
    · have hyb : (y == 110) = true := beq_iff_eq.2 h1
      go_wp2_with fail
      go_ret2
      exact ⟨10, i + 2, by simp, Lib.hid ⟨by omega, by omega, by omega, by omega, fun _ => by have := ib.out (by omega); omega⟩, rfl⟩
    · have hyb : (y == 110) = false := beq_eq_false_iff_ne.2 h1
      by_cases h2 : y = 116
      · have hyc : (y == 116) = true := beq_iff_eq.2 h2
        go_wp2_with fail
        go_ret2
        exact ⟨9, i + 2, by simp, Lib.hid ⟨by omega, by omega, by omega, by omega, fun _ => by have := ib.out (by omega); omega⟩, rfl⟩
      · have hyc : (y == 116) = false := beq_eq_false_iff_ne.2 h2
        have H1 := Lib.hid h1; have H2 := Lib.hid h2; clear h1 h2
        go_wp2_with fail
        go_ret2
        exact ⟨y, i + 2, by simp, Lib.hid ⟨gb.out, lb.out, by omega, by omega, fun h => by have := ib.out h; omega⟩, rfl⟩
  · have hxb : (x == 92) = false := beq_eq_false_iff_ne.2 hx
    have H1 := Lib.hid hx; clear hx
    go_wp2_with fail
    refine (HA.out _).mono ?_
    rintro e w2 ⟨rfl, rfl⟩
    go_wp2_with fail
    go_ret2
    exact ⟨x, i + 1, by simp, Lib.hid ⟨ga.out, la.out, by omega, by omega, fun h => by have := ia.out h; omega⟩, rfl⟩

/-- How many bits word j has got, once all from m on are in. -/
def gotB (m j : Nat) : Nat := 64 - min 64 (m - 64 * j)
theorem set_boxed (w : World) (p : Nat → Bool) : ∃ W, W = ((w.alloc (.cells (bools p) 197)).alloc (.cells (words zero4) 65)).alloc (.cells (words zero4) 65) ∧
    Hid (Row W w.heap.size p) ∧ Hid (Quad W (w.heap.size + 1) zero4) ∧ Hid (Quad W (w.heap.size + 1 + 1) zero4) ∧ Hid (Below w.heap.size w W) := by
  refine ⟨_, rfl, Lib.hid (((row_new w p).after (below_new _ _)).after (below_new _ _)), ?_, ?_, Lib.hid (Below.step (Below.step (below_new _ _) (below_new _ _)) (below_new _ _))⟩
  · have h := quad_new (w.alloc (.cells (bools p) 197)) zero4 65
    rw [World.size_alloc] at h
    exact Lib.hid (h.after (below_new _ _))
  · have h := quad_new ((w.alloc (.cells (bools p) 197)).alloc (.cells (words zero4) 65)) zero4 65
    rw [World.size_alloc, World.size_alloc] at h
    exact Lib.hid h

theorem got_step {m : Nat} (f : Nat → Nat) (x : Nat) (h : ∀ j, j < 4 → f j < 2 ^ gotB (m + 1) j) (hx : x ≤ f (m / 64) * 2 + 1) :
    ∀ j, j < 4 → (if j = m / 64 then x else f j) < 2 ^ gotB m j := by
  intro j hj
  have hf := h j hj
  split
  · subst j
    have e : gotB m (m / 64) = gotB (m + 1) (m / 64) + 1 := by unfold gotB; omega
    rw [e, Nat.pow_succ]
    omega
  · have e : gotB m j = gotB (m + 1) j := by unfold gotB; omega
    rw [e]; exact hf
theorem got_small {m : Nat} (f : Nat → Nat) (hm : m < 256) (h : ∀ j, j < 4 → f j < 2 ^ gotB (m + 1) j) : f (m / 64) * 2 + 1 < 18446744073709551616 := by
  have hf := h (m / 64) (by omega)
  have e : 2 ^ gotB (m + 1) (m / 64) ≤ 2 ^ 63 := Nat.pow_le_pow_right (by omega) (by unfold gotB; omega)
  have e2 : (2 : Nat) ^ 63 = 9223372036854775808 := by decide
  omega
end Go.Proofs.YtcojnkjcbopnbaaGreatDoor

/- The law's reader in memory; aukletref05.P.c, bad: walks. -/
namespace Go.Proofs.YtcojnkjcbopnbaaGreatDoor
open Go.RowKit

/-- The law's reader's block: its text, its place, where the first fault is, which. -/
structure PM (w : World) (p : Nat) (s : ByteArray) (k : Nat) (b e : Int) : Prop where
  row : w.heap[p]? = some (.cells #[.string s, .int .i64 k, .int .i64 b, .int .i64 e] 127 (0, 0))
theorem PM.lt {w : World} {p : Nat} {s : ByteArray} {k : Nat} {b e : Int} (h : PM w p s k b e) : p < w.heap.size := (Array.getElem?_eq_some_iff.1 h.row).1
theorem PM.c0 {w : World} {p : Nat} {s : ByteArray} {k : Nat} {b e : Int} (h : PM w p s k b e) : w.cell? ⟨p, 0, none⟩ = some (.string s) := cell_of_row _ _ 0 _ _ _ h.row
theorem PM.c1 {w : World} {p : Nat} {s : ByteArray} {k : Nat} {b e : Int} (h : PM w p s k b e) : w.cell? ⟨p, 1, none⟩ = some (.int .i64 k) := cell_of_row _ _ 1 _ _ _ h.row
theorem PM.c2 {w : World} {p : Nat} {s : ByteArray} {k : Nat} {b e : Int} (h : PM w p s k b e) : w.cell? ⟨p, 2, none⟩ = some (.int .i64 b) := cell_of_row _ _ 2 _ _ _ h.row
theorem PM.c3 {w : World} {p : Nat} {s : ByteArray} {k : Nat} {b e : Int} (h : PM w p s k b e) : w.cell? ⟨p, 3, none⟩ = some (.int .i64 e) := cell_of_row _ _ 3 _ _ _ h.row
theorem PM.z {w : World} {p : Nat} {s : ByteArray} {k : Nat} {b e : Int} (h : PM w p s k b e) (j : Nat) : w.frozen? ⟨p, j, none⟩ = false := frozen_of_row _ _ j _ _ h.row
theorem PM.after {w w' : World} {p : Nat} {s : ByteArray} {k : Nat} {b e : Int} (h : PM w p s k b e) (hb : Below w.heap.size w w') : PM w' p s k b e := ⟨by rw [hb.block p h.lt]; exact h.row⟩
theorem PM.put1 {w : World} {p : Nat} {s : ByteArray} {k : Nat} {b e : Int} (h : PM w p s k b e) (j : Nat) : PM (w.setCell ⟨p, 1, none⟩ (.int .i64 j)) p s j b e :=
  ⟨by rw [heap_setCell_same _ _ 1 _ _ _ h.row]; rfl⟩
theorem PM.put2 {w : World} {p : Nat} {s : ByteArray} {k : Nat} {b e : Int} (h : PM w p s k b e) (j : Int) : PM (w.setCell ⟨p, 2, none⟩ (.int .i64 j)) p s k j e :=
  ⟨by rw [heap_setCell_same _ _ 2 _ _ _ h.row]; rfl⟩
theorem PM.put3 {w : World} {p : Nat} {s : ByteArray} {k : Nat} {b e : Int} (h : PM w p s k b e) (j : Int) : PM (w.setCell ⟨p, 3, none⟩ (.int .i64 j)) p s k b j :=
  ⟨by rw [heap_setCell_same _ _ 3 _ _ _ h.row]; rfl⟩
theorem PM.setRow {p g : Nat} {V : World} {s : ByteArray} {k : Nat} {b e : Int} (h : PM V p s k b e) (hg : p ≠ g) (ds : Array Value) : PM (V.setRow g ds) p s k b e :=
  ⟨by rw [Go.setRow_other _ _ _ _ hg]; exact h.row⟩

/-- The byte that comes; -1 at the end, and when something is wrong. -/
def chP (s : ByteArray) (k : Nat) (e : Int) : Int := if e = 0 then atB s k else -1
theorem chP_in {s : ByteArray} {k : Nat} {e : Int} (h : 0 ≤ chP s k e) : e = 0 ∧ ∃ hk : k < s.size, chP s k e = s[k].toNat := by
  unfold chP at h ⊢
  split at h
  · rename_i h0
    have hk := atB_in h
    exact ⟨h0, hk, by rw [if_pos h0]; unfold atB; rw [dif_pos hk]⟩
  · omega
theorem chP_lt (s : ByteArray) (k : Nat) (e : Int) : chP s k e < 256 := by
  unfold chP
  split
  · exact atB_lt s k
  · omega
theorem chP_ge (s : ByteArray) (k : Nat) (e : Int) : -1 ≤ chP s k e := by
  unfold chP
  split
  · exact atB_ge s k
  · omega

set_option maxRecDepth 100000 in
theorem pc_drew (p : Nat) (s : ByteArray) (k : Nat) (b e : Int) (w : World) (h : PM w p s k b e) :
    Calls Tryz.prog 103 #[.pointer (some ⟨p, 0, none⟩)] w fun en w' => en = .returned (.int .i64 (chP s k e)) ∧ ∃ m, w' = w.drewN m := by
  have c0 := h.c0
  have c1 := h.c1
  have c3 := h.c3
  clear h
  by_cases he : e = 0
  · by_cases hlt : k < s.size
    · have hd : decide ((s.size : Int) ≤ k) = false := decide_eq_false (by omega)
      have hl : s[k].toNat < 256 := s[k].toNat_lt
      have er : chP s k e = s[k].toNat := by unfold chP atB; rw [if_pos he, dif_pos hlt]
      rw [er]
      subst he
      clear er
      go_enter Tryz.func103, Tryz.ntmps103
      go_wp2_with fail
      go_quiet (fail)
      go_wp2_with fail
      go_quiet (fail)
      go_wp2_with fail
      go_ret
      exact ⟨rfl, _, by rw [World.drewN_drewN]⟩
    · have hd : decide ((s.size : Int) ≤ k) = true := decide_eq_true (by omega)
      have er : chP s k e = -1 := by unfold chP atB; rw [if_pos he, dif_neg hlt]
      rw [er]
      subst he
      clear er
      go_enter Tryz.func103, Tryz.ntmps103
      go_wp2_with fail
      go_quiet (fail)
      go_wp2_with fail
      go_ret
      exact ⟨rfl, _, rfl⟩
  · have hd : (e != 0) = true := by simpa using he
    have er : chP s k e = -1 := by unfold chP; rw [if_neg he]
    rw [er]
    clear er he
    go_enter Tryz.func103, Tryz.ntmps103
    go_wp2_with fail
    go_quiet (fail)
    go_wp2_with fail
    go_ret
    exact ⟨rfl, _, rfl⟩

theorem pc_any (p : Nat) (s : ByteArray) (k : Nat) (b e : Int) (w : World) (h : PM w p s k b e) :
    Calls Tryz.prog 103 #[.pointer (some ⟨p, 0, none⟩)] w fun en w' => en = .returned (.int .i64 (chP s k e)) ∧ Below w.heap.size w w' :=
  (pc_drew p s k b e w h).mono fun en w' ⟨h1, n, h2⟩ => ⟨h1, by rw [h2]; exact drewN_below w n⟩

/-- A fault was told, the first of all or not. -/
def BadOut (p : Nat) (s : ByteArray) (k : Nat) (w : World) (en : Ending) (w' : World) : Prop :=
  ∃ b e : Int, en = .returned (.tuple #[]) ∧ Hid (e ≠ 0) ∧ PM w' p s k b e ∧ But p w w'

set_option maxRecDepth 100000 in
theorem pbad_any (p : Nat) (s : ByteArray) (k : Nat) (b e at_ x : Int) (w : World) (h : PM w p s k b e) (hx : x ≠ 0) :
    Calls Tryz.prog 133 #[.pointer (some ⟨p, 0, none⟩), .int .i64 at_, .int .i64 x] w (BadOut p s k w) := by
  have c3 := h.c3
  have c2 := h.c2
  have z2 := h.z 2
  have z3 := h.z 3
  have H := Lib.hid h
  clear h
  by_cases he : e = 0
  · subst he
    have HX := Lib.hid hx; clear hx
    go_enter Tryz.func133, Tryz.ntmps133
    go_wp2_with fail
    go_end0
    exact ⟨at_, x, rfl, HX, (H.out.put2 _).put3 _, (but_put _ _ _ _).put _ _⟩
  · have hd : (e == 0) = false := beq_eq_false_iff_ne.2 he
    have HE := Lib.hid he; clear he
    go_enter Tryz.func133, Tryz.ntmps133
    go_wp2_with fail
    go_end0
    exact ⟨b, e, rfl, HE, H.out, .refl _ _⟩
end Go.Proofs.YtcojnkjcbopnbaaGreatDoor

/- aukletref05.P.num at any text: a walk. -/
namespace Go.Proofs.YtcojnkjcbopnbaaGreatDoor
open Go.RowKit

/-- What num tells: a number, or -1. -/
def PNumOut (p : Nat) (s : ByteArray) (k : Nat) (b : Int) (w : World) (en : Ending) (w' : World) : Prop :=
  ∃ (x : Int) (k' : Nat), en = .returned (.int .i64 x) ∧ Hid (-1 ≤ x ∧ x ≤ 50 ∧ k ≤ k' ∧ k' ≤ s.size) ∧ PM w' p s k' b 0 ∧ But p w w'

set_option maxRecDepth 100000 in
set_option maxHeartbeats 1000000 in
theorem pnum_any (p : Nat) (s : ByteArray) (k : Nat) (b : Int) (w : World) (h : PM w p s k b 0) (hk : k ≤ s.size) (hs : s.size ≤ 400) :
    Calls Tryz.prog 137 #[.pointer (some ⟨p, 0, none⟩)] w (PNumOut p s k b w) := by
  have HC := Lib.hid (fun k V h => pc_any p s k b 0 V h)
  have H := Lib.hid h
  clear h
  go_enter Tryz.func137, Tryz.ntmps137
  go_wp2_with fail
  go_loopw [3, 4] (fun x y wr => ∃ (n m j : Nat), x = .int .i64 n ∧ y = .int .i64 m ∧ m ≤ 2 ∧ (m = 0 → n = 0) ∧ (m = 1 → n ≤ 9) ∧ n ≤ 99 ∧ k ≤ j ∧ j ≤ s.size ∧ Hid (PM wr p s j b 0) ∧ Hid (But p w wr)) (fun _ y _ => 2 - (intOf y).toNat)
  case atStart => exact ⟨0, 0, k, rfl, rfl, by omega, fun _ => rfl, fun h => by omega, by omega, by omega, hk, H, Lib.hid (.refl _ _)⟩
  case round =>
    obtain ⟨n, m, j, rfl, rfl, hm, h0, h1, h9, hkj, hj, q, hB⟩ := hrel
    have HC1 := Lib.hid (fun V h => HC.out j V h)
    have ia := Lib.hid (fun h => chP_in (s := s) (k := j) (e := 0) h)
    have ga := Lib.hid (chP_ge s j 0); have la := Lib.hid (chP_lt s j 0)
    obtain ⟨x, hx⟩ : ∃ x, x = chP s j 0 := ⟨_, rfl⟩
    rw [← hx] at HC1 ia ga la
    clear hx
    go_upto_region 2 with (fail)
    go_cut [16] from 5 to 31 (fun y wx => ∃ bb, y = .bool bb ∧ Hid (bb = true → m < 2 ∧ 48 ≤ x ∧ x ≤ 57) ∧ Hid (PM wx p s j b 0) ∧ Hid (But p w wx))
    case first =>
      by_cases hm2 : m < 2
      rotate_left
      · obtain rfl : m = 2 := by omega
        go_wp2_with fail
        go_meet
        exact ⟨_, rfl, Lib.hid (fun h => by cases h), q, hB⟩
      have hd : decide ((m : Int) < 2) = true := decide_eq_true (by omega)
      have HC2 := Lib.hid (HC1.out _ q.out)
      go_wp2_with fail
      refine HC2.out.mono ?_
      rintro e w1 ⟨rfl, b1⟩
      have q1 := Lib.hid (q.out.after b1)
      have hB1 := Lib.hid (hB.out.then b1)
      clear b1 HC2
      by_cases h48 : x < 48
      · have hd : decide (48 ≤ x) = false := decide_eq_false (by omega)
        go_wp2_with fail
        go_meet
        exact ⟨_, rfl, Lib.hid (fun h => by cases h), q1, hB1⟩
      have hd : decide (48 ≤ x) = true := decide_eq_true (by omega)
      have HC2 := Lib.hid (HC1.out _ q1.out)
      go_wp2_with fail
      refine HC2.out.mono ?_
      rintro e w2 ⟨rfl, b1⟩
      have q2 := Lib.hid (q1.out.after b1)
      have hB2 := Lib.hid (hB1.out.then b1)
      clear b1 HC2
      go_wp2_with fail
      go_meet
      exact ⟨_, rfl, Lib.hid (fun h => ⟨hm2, by omega, by simpa using h⟩), q2, hB2⟩
    case rest =>
      obtain ⟨bb, rfl, hbb, q1, hB1⟩ := hcut
      clear q hB
      cases bb with
      | true =>
        obtain ⟨hm2, h48, h57⟩ := hbb.out rfl
        obtain ⟨_, hjs, _⟩ := ia.out (by omega)
        have HC2 := Lib.hid (HC1.out _ q1.out)
        clear ia ga la hbb HC1
        go_wp2_with fail
        refine HC2.out.mono ?_
        rintro e w1 ⟨rfl, b1⟩
        have q2 := Lib.hid (q1.out.after b1)
        have hB2 := Lib.hid (hB1.out.then b1)
        clear b1 HC2 q1 hB1
        have c1 := q2.out.c1
        have z1 := q2.out.z 1
        go_wp2_with fail
        go_roundw
        case rel =>
          have e1 : ((j : Int) + 1) = ((j + 1 : Nat) : Int) := by omega
          rw [e1]
          have hn9 : n ≤ 9 := by
            rcases Nat.lt_or_ge 0 m with h | h
            · exact h1 (by omega)
            · have := h0 (by omega); omega
          exact ⟨((n : Int) * 10 + x - 48).toNat, m + 1, j + 1, by congr 1; omega, by go_num, by omega, fun h => by omega, fun h => by have := h0 (by omega); omega, by omega, by omega, by omega, Lib.hid (q2.out.put1 _), Lib.hid (hB2.out.put _ _)⟩
        case measure => simp [intOf]; omega
      | false =>
        clear ia ga la hbb HC1
        by_cases hm0 : m = 0
        · subst hm0
          go_wp2_with fail
          go_ret
          exact ⟨-1, j, rfl, Lib.hid ⟨by omega, by omega, hkj, hj⟩, q1.out, hB1.out⟩
        have hd : ((m : Int) == 0) = false := beq_eq_false_iff_ne.2 (by omega)
        have HM := Lib.hid hm0; clear hm0
        by_cases hn : 50 < n
        · have hd : decide (50 < (n : Int)) = true := decide_eq_true (by omega)
          go_wp2_with fail
          go_ret
          exact ⟨-1, j, rfl, Lib.hid ⟨by omega, by omega, hkj, hj⟩, q1.out, hB1.out⟩
        · have hd : decide (50 < (n : Int)) = false := decide_eq_false (by omega)
          go_wp2_with fail
          go_ret
          exact ⟨n, j, rfl, Lib.hid ⟨by omega, by omega, hkj, hj⟩, q1.out, hB1.out⟩
end Go.Proofs.YtcojnkjcbopnbaaGreatDoor

/- aukletref05.P.reps at any text and tree: a walk. -/
namespace Go.Proofs.YtcojnkjcbopnbaaGreatDoor
open Go.RowKit

/-- How far a reading came: its place, or beyond all where a fault was told. -/
def vP (s : ByteArray) (k : Nat) (e : Int) : Nat := if e = 0 then k else s.size + 30
/-- Where a reader may stand. -/
structure PosOk (s : ByteArray) (k : Nat) (e : Int) (deep : Nat) : Prop where
  ok : e = 0 → k ≤ s.size
  bad : e ≠ 0 → k + deep ≤ s.size + 21
/-- Blocks of S, and all from g on, but two. -/
def UpTwo (S : Nat → Prop) (g h : Nat) : Nat → Prop := fun b => (S b ∨ g ≤ b) ∧ b ≠ g ∧ b ≠ h
/-- What reps tells. -/
def RepsOut (S : Nat → Prop) (deep : Nat) (p : Nat) (s : ByteArray) (k : Nat) (e : Int) (n : Nat) (w : World) (en : Ending) (w' : World) : Prop :=
  ∃ t cs k' b' e', en = .returned (.agg cs) ∧ At w' (fun j => S j ∨ w.heap.size ≤ j) t cs ∧ Hid (Fine (-1) t ∧ t.kids.length ≤ max n 1 ∧ vP s k e ≤ vP s k' e' ∧ PosOk s k' e' deep) ∧ PM w' p s k' b' e' ∧ But p w w'
/-- Where reps stands. -/
structure RpI (wr w : World) (S : Nat → Prop) (p : Nat) (s : ByteArray) (k kk : Nat) (e0 b e : Int) (deep n : Nat) (t : Tree) (cs : Array Value) : Prop where
  pm : PM wr p s kk b e
  pos : PosOk s kk e deep
  box : Box wr (w.heap.size + 1) zeroR
  cur : Box wr w.heap.size cs
  at_ : At wr (UpTwo S w.heap.size (w.heap.size + 1)) t cs
  but : But p w wr
  fine : Fine (-1) t
  kids : t.kids.length ≤ max n 1
  ge : vP s k e0 ≤ vP s kk e

theorem RpI.after {wr w V : World} {S : Nat → Prop} {p : Nat} {s : ByteArray} {k kk : Nat} {e0 b e : Int} {deep n : Nat} {t : Tree} {cs : Array Value} (h : RpI wr w S p s k kk e0 b e deep n t cs) (hb : Below wr.heap.size wr V) : RpI V w S p s k kk e0 b e deep n t cs :=
  ⟨h.pm.after hb, h.pos, h.box.after hb, h.cur.after hb, h.at_.after hb, h.but.then hb, h.fine, h.kids, h.ge⟩
theorem RpI.go {wr w V : World} {S : Nat → Prop} {p : Nat} {s : ByteArray} {k kk kk' : Nat} {e0 b e b' e' : Int} {deep n : Nat} {t : Tree} {cs : Array Value} (h : RpI wr w S p s k kk e0 b e deep n t cs) (hpC : ¬ S p) (hC : p < w.heap.size) (hb : But p wr V) (hm : PM V p s kk' b' e') (hp : PosOk s kk' e' deep) (hge : vP s kk e ≤ vP s kk' e') : RpI V w S p s k kk' e0 b' e' deep n t cs :=
  ⟨hm, hp, h.box.but hb (by omega), h.cur.but hb (by omega), h.at_.butS hb (fun hh => by rcases hh.1 with h1 | h1; (· exact hpC h1); (· omega)), h.but.trans hb, h.fine, h.kids, Nat.le_trans h.ge hge⟩
theorem RpI.next {wr w : World} {S : Nat → Prop} {p : Nat} {s : ByteArray} {k kk : Nat} {e0 b : Int} {deep n : Nat} {t : Tree} {cs : Array Value} (h : RpI wr w S p s k kk e0 b 0 deep n t cs) (hpC : ¬ S p) (hC : p < w.heap.size) (hk : kk < s.size) : RpI (wr.setCell ⟨p, 1, none⟩ (.int .i64 ((kk + 1 : Nat) : Int))) w S p s k (kk + 1) e0 b 0 deep n t cs :=
  h.go hpC hC (but_put _ _ _ _) (h.pm.put1 _) ⟨fun _ => hk, fun h => absurd rfl h⟩ (by unfold vP; rw [if_pos rfl, if_pos rfl]; omega)
theorem RpI.done {wr w : World} {S : Nat → Prop} {p : Nat} {s : ByteArray} {k kk : Nat} {e0 b e : Int} {deep n : Nat} {t : Tree} {cs : Array Value} (h : RpI wr w S p s k kk e0 b e deep n t cs) (hC : p < w.heap.size) (ds : Array Value) : RepsOut S deep p s k e0 n w (.returned (.agg cs)) (wr.setRow (w.heap.size + 1) ds) :=
  ⟨t, cs, kk, b, e, rfl, (h.at_.setRowS (fun hh => hh.2.2 rfl) _).weakS (fun b hb => hb.1), Lib.hid ⟨h.fine, h.kids, h.ge, h.pos⟩, h.pm.setRow (by omega) _, h.but.setRow (by omega) _⟩

set_option maxRecDepth 100000 in
set_option maxHeartbeats 2000000 in
theorem preps_any (S : Nat → Prop) (deep p : Nat) (s : ByteArray) (k : Nat) (b e : Int) (t : Tree) (cs : Array Value) (w : World) (hdeep : deep ≤ 20) (hs : s.size ≤ 400) (hp : PosOk s k e deep) (hm : PM w p s k b e) (hat : At w S t cs) (hpC : ¬ S p) (hC : p < w.heap.size) (hF : Fine (-1) t) :
    Calls Tryz.prog 122 #[.pointer (some ⟨p, 0, none⟩), .agg cs] w (RepsOut S deep p s k e t.kids.length w) := by
  have HI := info_re
  have HC := Lib.hid (fun k b e V h => pc_any p s k b e V h)
  have hlt := hm.lt
  obtain ⟨a0, c0, rfl, _⟩ := hat.opens
  obtain ⟨W, hW, hX, hB, hsz⟩ := re_box w (reC t.k t.f t.lo t.hi (.slice a0 t.kids.length c0))
  obtain ⟨U, hU, hY, hBU, hszU⟩ := re_box W zeroR
  have S0 : Hid (RpI U w S p s k k e b e deep t.kids.length t (reC t.k t.f t.lo t.hi (.slice a0 t.kids.length c0))) :=
    Lib.hid ⟨(hm.after hB.out).after hBU.out, hp, by have h := hY.out; rw [hsz.out] at h; exact h, hX.out.after hBU.out, ((hat.inWorld.after hB.out).after hBU.out).weakS fun b hb => ⟨Or.inl hb.1, by have := hb.2; omega, by have := hb.2; omega⟩, (But.of hB.out).then hBU.out, hF, Nat.le_max_left _ _, Nat.le_refl _⟩
  clear hm hat hF hp
  simp only [reC]
  go_enter Tryz.func122, Tryz.ntmps122
  go_wp2_with fail
  change Code.wp _ _ _ _ ((w.alloc (Obj.cells (reC t.k t.f t.lo t.hi (Value.slice a0 t.kids.length c0)) 68)).alloc (Obj.cells zeroR 68))
  rw [← hW, ← hU]
  clear hW hU hX hB hsz hY hBU hszU
  go_loopg [5, 6, 7] (s.size + 30 - vP s k e) (fun q _ _ _ wr => ∃ (tt : Tree) (kk : Nat) (bb ee : Int) (cc : Array Value), Hid (s.size + 30 - vP s kk ee = q) ∧ Hid (RpI wr w S p s k kk e bb ee deep t.kids.length tt cc))
  case atStart => exact ⟨t, k, b, e, _, Lib.hid rfl, S0⟩
  case round =>
    clear S0
    obtain ⟨tt, kk, bb, ee, cc, hq, hM⟩ := hrel
    obtain ⟨a1, c1, ecc, _⟩ := hM.out.at_.opens
    subst ecc
    have C1 := hM.out.pm.c1
    have HC1 := Lib.hid (HC.out kk bb ee wr hM.out.pm)
    have hin := Lib.hid (fun h => chP_in (s := s) (k := kk) (e := ee) h)
    obtain ⟨x, hx⟩ : ∃ x, x = chP s kk ee := ⟨_, rfl⟩
    rw [← hx] at HC1 hin
    clear hx
    go_wp2_with fail
    refine HC1.out.mono ?_
    rintro e w1 ⟨rfl, b1⟩
    have M1 := Lib.hid (hM.out.after b1)
    clear HC1 C1 hM b1
    go_upto_block 2 with fail
    go_cut [6, 7] from 8 to 98 (fun y z wx => ∃ (lo hi : Int) (k3 : Nat), y = .int .i64 lo ∧ z = .int .i64 hi ∧ Hid (OkTimes (lo, hi) ∧ ee = 0 ∧ kk < k3 ∧ k3 ≤ s.size) ∧ Hid (RpI wx w S p s k k3 e bb 0 deep t.kids.length tt (reC tt.k tt.f tt.lo tt.hi (.slice a1 tt.kids.length c1))))
    case first =>
      by_cases hx0 : x < 0
      · have n1 : (x == 42) = false := beq_eq_false_iff_ne.2 (by omega)
        have n2 : (x == 43) = false := beq_eq_false_iff_ne.2 (by omega)
        have n3 : (x == 63) = false := beq_eq_false_iff_ne.2 (by omega)
        have n4 : (x == 123) = false := beq_eq_false_iff_ne.2 (by omega)
        obtain ⟨d0, d1, d2, d3, d4, d5, d6, d7⟩ := eight_re M1.out.cur.eight
        go_wp2_with (refine wpList_store_row rfl 68 (.tmp 4) (.tmp 14) rfl (w.heap.size + 1) (reC tt.k tt.f tt.lo tt.hi (.slice a1 tt.kids.length c1)) rfl rfl 68 zeroR M1.out.box.row HI rfl (re_one _ _ _ _ _ _ _) ?_)
        refine bodyPost_ret (v := .agg (reC tt.k tt.f tt.lo tt.hi (.slice a1 tt.kids.length c1))) (results_cell_row (by rfl) _ _ (w.heap.size + 1) 68 _ (0, 0) _ (by rfl) (M1.out.box.setRow _).row Tryz.underlying68 (by rfl) HI) rfl ?_
        exact M1.out.done hC _
      obtain ⟨he0, hkk, _⟩ := hin.out (by omega)
      subst he0
      have hee : Hid (True) := Lib.hid trivial
      have C1 := M1.out.pm.c1
      have Z1 := M1.out.pm.z 1
      have e1 : ((kk : Int) + 1) = ((kk + 1 : Nat) : Int) := by omega
      have M2 := Lib.hid (M1.out.next hpC hC hkk)
      rw [← e1] at M2
      clear hin hx0 e1 hee
      by_cases h1 : x = 42
      · subst h1
        go_wp2_with fail
        go_meet
        exact ⟨0, -1, kk + 1, rfl, rfl, Lib.hid ⟨⟨by decide, by decide, Or.inl rfl⟩, trivial, by omega, by omega⟩, M2⟩
      have n1 : (x == 42) = false := beq_eq_false_iff_ne.2 h1
      clear h1
      by_cases h1 : x = 43
      · subst h1
        go_wp2_with fail
        go_meet
        exact ⟨1, -1, kk + 1, rfl, rfl, Lib.hid ⟨⟨by decide, by decide, Or.inl rfl⟩, trivial, by omega, by omega⟩, M2⟩
      have n2 : (x == 43) = false := beq_eq_false_iff_ne.2 h1
      clear h1
      by_cases h1 : x = 63
      · subst h1
        go_wp2_with fail
        go_meet
        exact ⟨0, 1, kk + 1, rfl, rfl, Lib.hid ⟨⟨by decide, by decide, Or.inr ⟨by decide, by decide⟩⟩, trivial, by omega, by omega⟩, M2⟩
      have n3 : (x == 63) = false := beq_eq_false_iff_ne.2 h1
      clear h1
      by_cases h1 : x = 123
      rotate_left
      · have n4 : (x == 123) = false := beq_eq_false_iff_ne.2 h1
        clear h1 M2
        obtain ⟨d0, d1, d2, d3, d4, d5, d6, d7⟩ := eight_re M1.out.cur.eight
        go_wp2_with (refine wpList_store_row rfl 68 (.tmp 4) (.tmp 14) rfl (w.heap.size + 1) (reC tt.k tt.f tt.lo tt.hi (.slice a1 tt.kids.length c1)) rfl rfl 68 zeroR M1.out.box.row HI rfl (re_one _ _ _ _ _ _ _) ?_)
        refine bodyPost_ret (v := .agg (reC tt.k tt.f tt.lo tt.hi (.slice a1 tt.kids.length c1))) (results_cell_row (by rfl) _ _ (w.heap.size + 1) 68 _ (0, 0) _ (by rfl) (M1.out.box.setRow _).row Tryz.underlying68 (by rfl) HI) rfl ?_
        exact M1.out.done hC _
      subst h1
      clear n1 n2 n3
      have HN := Lib.hid (pnum_any p s (kk + 1) bb _ M2.out.pm hkk hs)
      go_wp2_with fail
      refine HN.out.mono ?_
      rintro e w2 ⟨lo, k2, rfl, hlo, pm2, b2⟩
      obtain ⟨l1, l2, l3, l4⟩ := hlo.out
      have M3 := Lib.hid (M2.out.go hpC hC b2 pm2 ⟨fun _ => l4, fun h => absurd rfl h⟩ (by unfold vP; rw [if_pos rfl, if_pos rfl]; exact l3))
      clear HN C1 Z1 M1 M2 hlo b2 pm2
      have HC1 := Lib.hid (fun V h => HC.out k2 bb 0 V h)
      have hin := Lib.hid (fun h => chP_in (s := s) (k := k2) (e := 0) h)
      obtain ⟨x, hx⟩ : ∃ x, x = chP s k2 0 := ⟨_, rfl⟩
      rw [← hx] at HC1 hin
      clear hx
      go_upto_region 16 with (fail)
      go_cut [60] from 8 to 98 (fun y wx => ∃ bq, y = .bool bq ∧ Hid (bq = true → 0 ≤ lo ∧ k2 < s.size) ∧ Hid (RpI wx w S p s k k2 e bb 0 deep t.kids.length tt (reC tt.k tt.f tt.lo tt.hi (.slice a1 tt.kids.length c1))))
      case first =>
        by_cases hl0 : 0 ≤ lo
        rotate_left
        · have hd : decide (0 ≤ lo) = false := decide_eq_false hl0
          go_wp2_with fail
          go_meet
          exact ⟨_, rfl, Lib.hid (fun h => by cases h), M3⟩
        have hd : decide (0 ≤ lo) = true := decide_eq_true hl0
        have HC2 := Lib.hid (HC1.out _ M3.out.pm)
        go_wp2_with fail
        refine HC2.out.mono ?_
        rintro e w3 ⟨rfl, b3⟩
        have M4 := Lib.hid (M3.out.after b3)
        clear HC2 b3
        go_wp2_with fail
        go_meet
        exact ⟨_, rfl, Lib.hid (fun h => ⟨hl0, by obtain ⟨_, h3, _⟩ := hin.out (by have h2 : x = 44 := (by simpa using h); omega); exact h3⟩), M4⟩
      case rest =>
      obtain ⟨bq, rfl, hbq, M4⟩ := hcut
      clear M3 HC1 hin
      go_upto_if 60 with (fail)
      go_cut [6, 7] from 8 to 98 (fun y z wx => ∃ (lo2 hi2 : Int) (k3 : Nat), y = .int .i64 lo2 ∧ z = .int .i64 hi2 ∧ Hid ((lo2 < 0 ∨ OkTimes (lo2, hi2)) ∧ kk < k3 ∧ k3 ≤ s.size) ∧ Hid (RpI wx w S p s k k3 e bb 0 deep t.kids.length tt (reC tt.k tt.f tt.lo tt.hi (.slice a1 tt.kids.length c1))))
      case first =>
        cases bq with
        | false =>
          go_wp2_with fail
          go_meet
          refine ⟨lo, lo, k2, rfl, rfl, Lib.hid ⟨?_, by omega, by omega⟩, M4⟩
          rcases Int.lt_or_le lo 0 with h | h
          · exact Or.inl h
          · exact Or.inr ⟨h, l2, Or.inr ⟨Int.le_refl _, l2⟩⟩
        | true =>
          obtain ⟨hl0, hk2⟩ := hbq.out rfl
          have C1 := M4.out.pm.c1
          have Z1 := M4.out.pm.z 1
          have e1 : ((k2 : Int) + 1) = ((k2 + 1 : Nat) : Int) := by omega
          have M5 := Lib.hid (M4.out.next hpC hC hk2)
          rw [← e1] at M5
          have HC1 := Lib.hid (HC.out (k2 + 1) bb 0 _ M5.out.pm)
          have hin := Lib.hid (fun h => chP_in (s := s) (k := k2 + 1) (e := 0) h)
          obtain ⟨x, hx⟩ : ∃ x, x = chP s (k2 + 1) 0 := ⟨_, rfl⟩
          rw [← hx] at HC1 hin
          clear hx e1 hbq
          go_wp2_with fail
          refine HC1.out.mono ?_
          rintro e w3 ⟨rfl, b3⟩
          have M6 := Lib.hid (M5.out.after b3)
          clear HC1 b3 C1 Z1 M4 M5
          by_cases h1 : x = 125
          · subst h1
            go_wp2_with fail
            go_meet
            exact ⟨lo, -1, k2 + 1, rfl, rfl, Lib.hid ⟨Or.inr ⟨hl0, l2, Or.inl rfl⟩, by omega, by omega⟩, M6⟩
          have hxb : (x == 125) = false := beq_eq_false_iff_ne.2 h1
          clear h1
          have HN := Lib.hid (pnum_any p s (k2 + 1) bb _ M6.out.pm (by omega) hs)
          go_wp2_with fail
          refine HN.out.mono ?_
          rintro e w4 ⟨hi, k4, rfl, hhi, pm4, b4⟩
          obtain ⟨g1, g2, g3, g4⟩ := hhi.out
          have M7 := Lib.hid (M6.out.go hpC hC b4 pm4 ⟨fun _ => g4, fun h => absurd rfl h⟩ (by unfold vP; rw [if_pos rfl, if_pos rfl]; exact g3))
          clear HN M6 b4 pm4 hhi
          by_cases hh : hi < lo
          · have hd : decide (hi < lo) = true := decide_eq_true hh
            go_wp2_with fail
            go_meet
            exact ⟨-1, hi, k4, rfl, rfl, Lib.hid ⟨Or.inl (by decide), by omega, by omega⟩, M7⟩
          · have hd : decide (hi < lo) = false := decide_eq_false hh
            go_wp2_with fail
            go_meet
            exact ⟨lo, hi, k4, rfl, rfl, Lib.hid ⟨Or.inr ⟨hl0, l2, Or.inr ⟨by omega, g2⟩⟩, by omega, by omega⟩, M7⟩
      case rest =>
      obtain ⟨lo2, hi2, k3, rfl, rfl, ho, M5⟩ := hcut
      clear M4 hbq
      have HC1 := Lib.hid (fun V h => HC.out k3 bb 0 V h)
      have hin := Lib.hid (fun h => chP_in (s := s) (k := k3) (e := 0) h)
      obtain ⟨x, hx⟩ : ∃ x, x = chP s k3 0 := ⟨_, rfl⟩
      rw [← hx] at HC1 hin
      clear hx
      go_upto_region 23 with (fail)
      go_cut [82] from 8 to 98 (fun y wx => ∃ bq, y = .bool bq ∧ Hid (bq = false → 0 ≤ lo2 ∧ k3 < s.size) ∧ Hid (RpI wx w S p s k k3 e bb 0 deep t.kids.length tt (reC tt.k tt.f tt.lo tt.hi (.slice a1 tt.kids.length c1))))
      case first =>
        by_cases hl0 : lo2 < 0
        · have hd : decide (lo2 < 0) = true := decide_eq_true hl0
          go_wp2_with fail
          go_meet
          exact ⟨_, rfl, Lib.hid (fun h => by cases h), M5⟩
        have hd : decide (lo2 < 0) = false := decide_eq_false hl0
        have HC2 := Lib.hid (HC1.out _ M5.out.pm)
        go_wp2_with fail
        refine HC2.out.mono ?_
        rintro e w3 ⟨rfl, b3⟩
        have M6 := Lib.hid (M5.out.after b3)
        clear HC2 b3
        go_wp2_with fail
        go_meet
        exact ⟨_, rfl, Lib.hid (fun h => ⟨by omega, by obtain ⟨_, h3, _⟩ := hin.out (by have h2 : x = 125 := (by simpa using h); omega); exact h3⟩), M6⟩
      case rest =>
      obtain ⟨bq, rfl, hbq, M6⟩ := hcut
      clear M5 HC1 hin
      cases bq with
      | true =>
        have HB := Lib.hid (pbad_any p s k3 bb 0 kk 50 _ M6.out.pm (by decide))
        have hk3 := ho.out.2
        clear hbq
        go_wp2_with fail
        refine HB.out.mono ?_
        rintro e w4 ⟨b4, e4, rfl, he4, pm4, bu4⟩
        have M7 := Lib.hid (M6.out.go hpC hC bu4 pm4 ⟨fun h => absurd h he4.out, fun _ => by omega⟩ (by unfold vP; rw [if_pos rfl, if_neg he4.out]; omega))
        clear HB M6 bu4 pm4
        obtain ⟨d0, d1, d2, d3, d4, d5, d6, d7⟩ := eight_re M7.out.cur.eight
        go_wp2_with (refine wpList_store_row rfl 68 (.tmp 4) (.tmp 86) rfl (w.heap.size + 1) (reC tt.k tt.f tt.lo tt.hi (.slice a1 tt.kids.length c1)) rfl rfl 68 zeroR M7.out.box.row HI rfl (re_one _ _ _ _ _ _ _) ?_)
        refine bodyPost_ret (v := .agg (reC tt.k tt.f tt.lo tt.hi (.slice a1 tt.kids.length c1))) (results_cell_row (by rfl) _ _ (w.heap.size + 1) 68 _ (0, 0) _ (by rfl) (M7.out.box.setRow _).row Tryz.underlying68 (by rfl) HI) rfl ?_
        exact M7.out.done hC _
      | false =>
        obtain ⟨hl0, hk3⟩ := hbq.out rfl
        have C1 := M6.out.pm.c1
        have Z1 := M6.out.pm.z 1
        have e1 : ((k3 : Int) + 1) = ((k3 + 1 : Nat) : Int) := by omega
        have M7 := Lib.hid (M6.out.next hpC hC hk3)
        rw [← e1] at M7
        clear e1 hbq
        have hok : Hid (OkTimes (lo2, hi2) ∧ True ∧ kk < k3 + 1 ∧ k3 + 1 ≤ s.size) := Lib.hid ⟨by rcases ho.out.1 with h | h; (· omega); (· exact h), trivial, by have := ho.out.2; omega, by omega⟩
        go_wp2_with fail
        go_meet
        exact ⟨lo2, hi2, k3 + 1, rfl, rfl, hok, M7⟩
    case rest =>
      obtain ⟨lo, hi, k3, rfl, rfl, ho, M3⟩ := hcut
      have he0 := ho.out.2.1
      subst he0
      have hk3 := ho.out.2.2
      have hwl := M3.out.cur.lt
      have hwl2 := M3.out.box.lt
      clear M1 hin
      obtain ⟨d0, d1, d2, d3, d4, d5, d6, d7⟩ := eight_re M3.out.cur.eight
      have bA := below_new wc (.cells (reC tt.k tt.f tt.lo tt.hi (.slice a1 tt.kids.length c1)) 68)
      have M4 := Lib.hid (M3.out.after bA)
      have hw4 : (wc.alloc (.cells (reC tt.k tt.f tt.lo tt.hi (.slice a1 tt.kids.length c1)) 68)).heap.size = wc.heap.size + 1 := World.size_alloc _ _
      clear bA
      go_wp2_with (refine wpList_store_row rfl 68 (.tmp 3) (.tmp 98) rfl w.heap.size (reC 6 zero4 lo hi (.slice (some ⟨wc.heap.size, 0, none⟩) 1 1)) rfl rfl 68 (reC tt.k tt.f tt.lo tt.hi (.slice a1 tt.kids.length c1)) M4.out.cur.row HI rfl (re_one _ _ _ _ _ _ _) ?_)
      go_roundg (s.size + 30 - vP s k3 0)
      case measure =>
        have h1 := hq.out
        have h2 : vP s kk 0 = kk := by unfold vP; rw [if_pos rfl]
        have h3 : vP s k3 0 = k3 := by unfold vP; rw [if_pos rfl]
        omega
      case rel =>
        refine ⟨.mk 6 zero4 lo hi [tt], k3, bb, 0, _, Lib.hid rfl, Lib.hid ⟨M4.out.pm.setRow (by omega) _, M4.out.pos, ⟨by rw [Go.setRow_other _ _ _ _ (by omega)]; exact M4.out.box.row⟩, M4.out.cur.setRow _, ?_, M4.out.but.setRow (Nat.le_refl _) _, fine_rep M4.out.fine ho.out.1, by show 1 ≤ _; exact Nat.le_max_right _ _, M4.out.ge⟩⟩
        refine .node 6 zero4 lo hi [tt] wc.heap.size 0 1 (fun _ => reC tt.k tt.f tt.lo tt.hi (.slice a1 tt.kids.length c1)) (by simp) (Nat.le_refl _) ⟨Or.inr (by omega), by omega, by omega⟩ (fun i hi => ?_) (fun i hi => ?_)
        · obtain rfl : i = 0 := by simp at hi; omega
          exact (box_new wc _).eight.keep (Go.setRow_other _ _ _ _ (by omega))
        · obtain rfl : i = 0 := by simp at hi; omega
          exact M4.out.at_.setRowS (fun h => h.2.1 rfl) _
end Go.Proofs.YtcojnkjcbopnbaaGreatDoor
