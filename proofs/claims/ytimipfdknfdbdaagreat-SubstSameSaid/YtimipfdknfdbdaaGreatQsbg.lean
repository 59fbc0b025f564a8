/- Merged by program: OfByteB, TimesB, PMem, PNum, Not. -/
import Derived.Laws.Rows
import Derived.Laws.Tables
import Derived.Test.YtimipfdknfdbdaaGreatQsac
import Derived.Test.YtimipfdknfdbdaaGreatQsaj
import Derived.Test.YtimipfdknfdbdaaGreatQsbe
import Derived.Test.YtimipfdknfdbdaaGreatQsbf
import Derived.Test.YtimipfdknfdbdaaGreatQsaa
/- ere.ofByte: a walk. -/
namespace Go.Proofs.YtimipfdknfdbdaaGreat
open Go.RowKit

/-- The set of one byte. -/
def oneF (c : Nat) : Nat → Nat := fun i => if i = c / 64 then 2 ^ (c % 64) else 0
theorem fits_oneF (c : Nat) : Fits (oneF c) := by
  intro i hi
  unfold oneF
  split
  · exact pow_lt64 c
  · decide
theorem bit_oneF (c x : Nat) : bit (oneF c) x = decide (x = c) := by
  unfold bit oneF
  by_cases h : x / 64 = c / 64
  · rw [if_pos h, Nat.testBit_two_pow]
    exact decide_eq_decide.2 (by omega)
  · rw [if_neg h, Nat.zero_testBit]
    exact (decide_eq_false (by omega)).symm
def oneT (c : Nat) : Tree := .mk 1 (oneF c) 0 0 []



set_option maxRecDepth 100000 in
theorem ofByte_spec (c : Nat) (hc : c < 256) (w : World) :
    Calls Tryz.prog 76 #[.int .u8 c] w fun e w' => e = .returned (.agg (reC 1 (oneF c) 0 0 (.slice none 0 0))) ∧ Below w.heap.size w w' := by
  have HA := Lib.hid (fun w => add_spec zero4 fits_zero c c hc hc w)
  have HI := info_re
  go_enter Tryz.func76, Tryz.ntmps76
  go_upto_region 1 with (fail)
  obtain ⟨W, hW, hX, hB, _⟩ := re_box w zeroR
  change Code.wp _ _ _ _ (w.alloc (Obj.cells zeroR 38))
  rw [← hW]
  clear hW
  go_wp2_with fail
  refine (HA.out _).mono ?_
  rintro e w1 ⟨g, rfl, hS, b1⟩
  have X1 := Lib.hid (hX.out.after b1)
  have B1 := Lib.hid (Below.step hB.out b1)
  clear b1
  have hg : reC 1 g 0 0 (.slice none 0 0) = reC 1 (oneF c) 0 0 (.slice none 0 0) := by
    refine reC_congr 1 0 0 _ (word_ext hS.out.1 (fits_oneF c) fun x hx => ?_)
    rw [hS.out.2 x hx, bit_oneF, bit_zero, Bool.false_or, ← Bool.decide_and]
    exact decide_eq_decide.2 (by omega)
  have HG := Lib.hid hg; clear hg
  simp only [words]
  go_wp2_with (refine wpList_store_row rfl 38 (.tmp 2) (.tmp 7) rfl w.heap.size (reC 1 g 0 0 (.slice none 0 0)) rfl rfl 38 zeroR X1.out.row HI rfl (re_one _ _ _ _ _ _ _) ?_)
  refine bodyPost_ret (v := .agg (reC 1 g 0 0 (.slice none 0 0))) (results_cell_row (by rfl) _ _ w.heap.size 38 _ (0, 0) _ (by rfl) (X1.out.setRow _).row Tryz.underlying38 (by rfl) HI) rfl ⟨by rw [HG.out], ?_⟩
  exact below_setRow B1.out (Nat.le_refl _) _
end Go.Proofs.YtimipfdknfdbdaaGreat

/- What reading any text comes to; reader.times at any text: a walk. -/
namespace Go.Proofs.YtimipfdknfdbdaaGreat
open Go.RowKit

theorem MX.but {p : Nat} {w w' : World} (h : MX w) (hb : But p w w') (hp : p ≠ 0) : MX w' := by
  obtain ⟨m, hm⟩ := h
  exact ⟨m, by rw [World.cell?_of_block (a := ⟨0, 0, none⟩) (hb.block 0 (cell_lt hm) (fun e => hp e.symm))]; exact hm⟩
/-- A reader of any text. -/
structure RdX (w : World) (p : Nat) (s : ByteArray) (k d : Nat) : Prop where
  r : Rdr w p s k d
  mx : MX w
  pz : p ≠ 0
theorem RdX.after {w w' : World} {p : Nat} {s : ByteArray} {k d : Nat} (h : RdX w p s k d) (hb : Below w.heap.size w w') : RdX w' p s k d := ⟨h.r.after hb, h.mx.after hb, h.pz⟩
theorem RdX.go {w w' : World} {p : Nat} {s : ByteArray} {k d k' d' : Nat} (h : RdX w p s k d) (hb : But p w w') (hr : Rdr w' p s k' d') : RdX w' p s k' d' := ⟨hr, h.mx.but hb h.pz, h.pz⟩
/-- The reading was given up. -/
def FellA (p : Nat) (w : World) (e : Ending) (w' : World) : Prop :=
  ∃ a x : Int, x ≠ 0 ∧ e = .panicked [{ v := .iface 57 (.agg #[.int .i64 a, .int .i64 x]), recovered := false }] ∧ But p w w'
theorem FellA.of {p : Nat} {w w1 : World} {e : Ending} {w' : World} (hb : But p w w1) (h : FellA p w1 e w') : FellA p w e w' := by
  obtain ⟨a, x, hx, e1, h1⟩ := h
  exact ⟨a, x, hx, e1, hb.trans h1⟩
/-- A tree was read, of m bytes at least; it has as many parts as bytes were read, and x, at most. -/
def WentA (m x : Nat) (p : Nat) (s : ByteArray) (k d : Nat) (w : World) (e : Ending) (w' : World) : Prop :=
  ∃ t cs k', e = .returned (.agg cs) ∧ At w' (Up w.heap.size) t cs ∧ Hid (Fine (-1) t ∧ t.kids.length ≤ k' - k + x ∧ k + m ≤ k' ∧ k' ≤ s.size) ∧ Rdr w' p s k' d ∧ But p w w'
def ReadA (m x : Nat) (p : Nat) (s : ByteArray) (k d : Nat) (w : World) (e : Ending) (w' : World) : Prop := WentA m x p s k d w e w' ∨ FellA p w e w'
def TimesOut (p : Nat) (s : ByteArray) (k d : Nat) (w : World) (e : Ending) (w' : World) : Prop :=
  (∃ (lo hi : Int) (k' : Nat), e = .returned (.tuple #[.int .i64 lo, .int .i64 hi]) ∧ Hid (OkTimes (lo, hi) ∧ k < k' ∧ k' ≤ s.size) ∧ Rdr w' p s k' d ∧ But p w w') ∨ FellA p w e w'

set_option maxRecDepth 100000 in
set_option maxHeartbeats 1000000 in
theorem timesA (p : Nat) (s : ByteArray) (k d : Nat) (w : World) (hk : k < s.size) (hs : s.size ≤ 400) (hx : RdX w p s k d) :
    Calls Tryz.prog 62 #[.pointer (some ⟨p, 0, none⟩)] w (TimesOut p s k d w) := by
  have R := Lib.hid hx.r
  have HMX := Lib.hid hx.mx
  have hpz := hx.pz
  have c0 := R.out.c0; have c1 := R.out.c1; have z1 := R.out.z 1
  obtain ⟨c, hc⟩ : ∃ c, c = s[k].toNat := ⟨_, rfl⟩
  have HC := Lib.hid hc
  clear hx
  go_enter Tryz.func62, Tryz.ntmps62
  go_upto_region 3 with (fail)
  obtain ⟨V, hV, R1, B1⟩ : ∃ V, V = w.setCell ⟨p, 1, none⟩ (.int .i64 ((k : Int) + 1)) ∧ Hid (Rdr V p s (k + 1) d) ∧ Hid (But p w V) :=
    ⟨_, rfl, Lib.hid (R.out.put1 (k + 1)), Lib.hid (but_put _ _ _ _)⟩
  rw [← hV]
  clear hV c0 c1 z1
  have c0 := R1.out.c0
  by_cases h1 : c = 42
  · have e1 : ((s[k].toNat : Int) == 42) = true := by rw [← HC.out, h1]; rfl
    go_wp2_with fail
    go_ret2
    exact Or.inl ⟨0, -1, k + 1, rfl, Lib.hid ⟨⟨by decide, by decide, Or.inl rfl⟩, by omega, by omega⟩, R1.out, B1.out⟩
  have n1 : ((s[k].toNat : Int) == 42) = false := beq_eq_false_iff_ne.2 (by rw [← HC.out]; omega)
  by_cases h2 : c = 43
  · have e1 : ((s[k].toNat : Int) == 43) = true := by rw [← HC.out, h2]; rfl
    go_wp2_with fail
    go_ret2
    exact Or.inl ⟨1, -1, k + 1, rfl, Lib.hid ⟨⟨by decide, by decide, Or.inl rfl⟩, by omega, by omega⟩, R1.out, B1.out⟩
  have n2 : ((s[k].toNat : Int) == 43) = false := beq_eq_false_iff_ne.2 (by rw [← HC.out]; omega)
  by_cases h3 : c = 63
  · have e1 : ((s[k].toNat : Int) == 63) = true := by rw [← HC.out, h3]; rfl
    go_wp2_with fail
    go_ret2
    exact Or.inl ⟨0, 1, k + 1, rfl, Lib.hid ⟨⟨by decide, by decide, Or.inr ⟨by decide, by decide⟩⟩, by omega, by omega⟩, R1.out, B1.out⟩
  have n3 : ((s[k].toNat : Int) == 63) = false := beq_eq_false_iff_ne.2 (by rw [← HC.out]; omega)
  clear h1 h2 h3 hc
  have MV := Lib.hid (HMX.out.but B1.out hpz)
  have hes : (s.extract (k + 1) s.size).size = s.size - (k + 1) := by rw [ByteArray.size_extract]; omega
  obtain ⟨I, J, ok, hok, _, hI, HCut0⟩ := cut_any (s.extract (k + 1) s.size) ⟨#[125]⟩ (by rw [hes]; omega) V MV.out
  rw [hes] at hok hI
  have HCut := Lib.hid HCut0
  have HOk : Hid (ok = true → k + 1 + (I.size + 1) ≤ s.size) := Lib.hid (fun h => by have h1 := hok h; have h2 : ((⟨#[125]⟩ : ByteArray)).size = 1 := rfl; omega)
  have hI4 : I.size ≤ 400 := by omega
  have HCn := Lib.hid (fun w hx => counts_any I hI4 w hx)
  clear HCut0 hok hes
  have c1 := R1.out.c1
  have s1 : (0 : Int) ≤ (k : Int) + 1 := by omega
  have s2 : ((k : Int) + 1).toNat = k + 1 := by omega
  have s3 : (k : Int) + 1 ≤ s.size := by omega
  go_wp2_with fail
  go_quiet ((go_at_call 77; exact Calls.quiet_of (HCut.out _)))
  clear s1 s2 s3 c0 c1
  obtain ⟨D, hD, bD⟩ : ∃ D, D = V.drewN _ ∧ Below V.heap.size V D := ⟨_, rfl, drewN_below V _⟩
  rw [← hD]
  clear hD
  have R2 := Lib.hid (R1.out.after bD)
  have B2 := Lib.hid (B1.out.then bD)
  have HC2 := Lib.hid (HCn.out D (MV.out.after bD))
  clear bD HCn
  go_wp2_with fail
  refine HC2.out.mono ?_
  rintro e w2 ⟨lo, hi, b, rfl, q2, hq2⟩
  have bE : Below D.heap.size D w2 := by rw [hq2]; exact drewN_below D q2
  clear hq2
  have R3 := Lib.hid (R2.out.after bE)
  have B3 := Lib.hid (B2.out.then bE)
  clear bE
  cases ok with
  | false =>
    go_wp2_with fail
    exact ⟨rfl, Or.inr ⟨k, 50, by decide, rfl, B3.out⟩⟩
  | true =>
    cases b with
    | false =>
      go_wp2_with fail
      exact ⟨rfl, Or.inr ⟨k, 50, by decide, rfl, B3.out⟩⟩
    | true =>
      have HT := Lib.hid (areTimes_any lo hi w2)
      go_wp2_with fail
      refine HT.out.mono ?_
      rintro e w3 ⟨b3, rfl, hb3, rfl⟩
      cases b3 with
      | false =>
        go_wp2_with fail
        exact ⟨rfl, Or.inr ⟨k, 50, by decide, rfl, B3.out⟩⟩
      | true =>
        have hk2 := HOk.out trivial
        have c1 := R3.out.c1; have z1 := R3.out.z 1
        go_wp2_with fail
        go_ret2
        exact Or.inl ⟨lo, hi, k + 1 + (I.size + 1), rfl, Lib.hid ⟨hb3.out trivial, by omega, hk2⟩, R3.out.put1 (k + 1 + (I.size + 1)), B3.out.put _ _⟩
end Go.Proofs.YtimipfdknfdbdaaGreat

/- The law's reader in memory; aukletref05.P.c, bad: walks. -/
namespace Go.Proofs.YtimipfdknfdbdaaGreat
open Go.RowKit

/-- The law's reader's block: its text, its place, where the first fault is, which. -/
structure PM (w : World) (p : Nat) (s : ByteArray) (k : Nat) (b e : Int) : Prop where
  row : w.heap[p]? = some (.cells #[.string s, .int .i64 k, .int .i64 b, .int .i64 e] 98 (0, 0))
theorem PM.lt {w : World} {p : Nat} {s : ByteArray} {k : Nat} {b e : Int} (h : PM w p s k b e) : p < w.heap.size := (Array.getElem?_eq_some_iff.1 h.row).1
theorem PM.c0 {w : World} {p : Nat} {s : ByteArray} {k : Nat} {b e : Int} (h : PM w p s k b e) : w.cell? ⟨p, 0, none⟩ = some (.string s) := cell_of_row _ _ 0 _ _ _ h.row
theorem PM.c1 {w : World} {p : Nat} {s : ByteArray} {k : Nat} {b e : Int} (h : PM w p s k b e) : w.cell? ⟨p, 1, none⟩ = some (.int .i64 k) := cell_of_row _ _ 1 _ _ _ h.row
theorem PM.c2 {w : World} {p : Nat} {s : ByteArray} {k : Nat} {b e : Int} (h : PM w p s k b e) : w.cell? ⟨p, 2, none⟩ = some (.int .i64 b) := cell_of_row _ _ 2 _ _ _ h.row
theorem PM.c3 {w : World} {p : Nat} {s : ByteArray} {k : Nat} {b e : Int} (h : PM w p s k b e) : w.cell? ⟨p, 3, none⟩ = some (.int .i64 e) := cell_of_row _ _ 3 _ _ _ h.row
theorem PM.z {w : World} {p : Nat} {s : ByteArray} {k : Nat} {b e : Int} (h : PM w p s k b e) (j : Nat) : w.frozen? ⟨p, j, none⟩ = false := frozen_of_row _ _ j _ _ h.row
theorem PM.after {w w' : World} {p : Nat} {s : ByteArray} {k : Nat} {b e : Int} (h : PM w p s k b e) (hb : Below w.heap.size w w') : PM w' p s k b e := ⟨by rw [hb.block p h.lt]; exact h.row⟩
theorem PM.put1 {w : World} {p : Nat} {s : ByteArray} {k : Nat} {b e : Int} (h : PM w p s k b e) (j : Nat) : PM (w.setCell ⟨p, 1, none⟩ (.int .i64 j)) p s j b e :=
  ⟨by rw [heap_setCell_same _ _ 1 _ _ _ h.row]; rfl⟩
theorem PM.put2 {w : World} {p : Nat} {s : ByteArray} {k : Nat} {b e : Int} (h : PM w p s k b e) (j : Int) : PM (w.setCell ⟨p, 2, none⟩ (.int .i64 j)) p s k j e :=
  ⟨by rw [heap_setCell_same _ _ 2 _ _ _ h.row]; rfl⟩
theorem PM.put3 {w : World} {p : Nat} {s : ByteArray} {k : Nat} {b e : Int} (h : PM w p s k b e) (j : Int) : PM (w.setCell ⟨p, 3, none⟩ (.int .i64 j)) p s k b j :=
  ⟨by rw [heap_setCell_same _ _ 3 _ _ _ h.row]; rfl⟩
theorem PM.setRow {p g : Nat} {V : World} {s : ByteArray} {k : Nat} {b e : Int} (h : PM V p s k b e) (hg : p ≠ g) (ds : Array Value) : PM (V.setRow g ds) p s k b e :=
  ⟨by rw [Go.setRow_other _ _ _ _ hg]; exact h.row⟩

/-- The byte that comes; -1 at the end, and when something is wrong. -/
def chP (s : ByteArray) (k : Nat) (e : Int) : Int := if e = 0 then atB s k else -1
theorem chP_in {s : ByteArray} {k : Nat} {e : Int} (h : 0 ≤ chP s k e) : e = 0 ∧ ∃ hk : k < s.size, chP s k e = s[k].toNat := by
  unfold chP at h ⊢
  split at h
  · rename_i h0
    have hk := atB_in h
    exact ⟨h0, hk, by rw [if_pos h0]; unfold atB; rw [dif_pos hk]⟩
  · omega
theorem chP_lt (s : ByteArray) (k : Nat) (e : Int) : chP s k e < 256 := by
  unfold chP
  split
  · exact atB_lt s k
  · omega
theorem chP_ge (s : ByteArray) (k : Nat) (e : Int) : -1 ≤ chP s k e := by
  unfold chP
  split
  · exact atB_ge s k
  · omega

set_option maxRecDepth 100000 in
theorem pc_drew (p : Nat) (s : ByteArray) (k : Nat) (b e : Int) (w : World) (h : PM w p s k b e) :
    Calls Tryz.prog 59 #[.pointer (some ⟨p, 0, none⟩)] w fun en w' => en = .returned (.int .i64 (chP s k e)) ∧ ∃ m, w' = w.drewN m := by
  have c0 := h.c0
  have c1 := h.c1
  have c3 := h.c3
  clear h
  by_cases he : e = 0
  · by_cases hlt : k < s.size
    · have hd : decide ((s.size : Int) ≤ k) = false := decide_eq_false (by omega)
      have hl : s[k].toNat < 256 := s[k].toNat_lt
      have er : chP s k e = s[k].toNat := by unfold chP atB; rw [if_pos he, dif_pos hlt]
      rw [er]
      subst he
      clear er
      go_enter Tryz.func59, Tryz.ntmps59
      go_wp2_with fail
      go_quiet (fail)
      go_wp2_with fail
      go_quiet (fail)
      go_wp2_with fail
      go_ret
      exact ⟨rfl, _, by rw [World.drewN_drewN]⟩
    · have hd : decide ((s.size : Int) ≤ k) = true := decide_eq_true (by omega)
      have er : chP s k e = -1 := by unfold chP atB; rw [if_pos he, dif_neg hlt]
      rw [er]
      subst he
      clear er
      go_enter Tryz.func59, Tryz.ntmps59
      go_wp2_with fail
      go_quiet (fail)
      go_wp2_with fail
      go_ret
      exact ⟨rfl, _, rfl⟩
  · have hd : (e != 0) = true := by simpa using he
    have er : chP s k e = -1 := by unfold chP; rw [if_neg he]
    rw [er]
    clear er he
    go_enter Tryz.func59, Tryz.ntmps59
    go_wp2_with fail
    go_quiet (fail)
    go_wp2_with fail
    go_ret
    exact ⟨rfl, _, rfl⟩

theorem pc_any (p : Nat) (s : ByteArray) (k : Nat) (b e : Int) (w : World) (h : PM w p s k b e) :
    Calls Tryz.prog 59 #[.pointer (some ⟨p, 0, none⟩)] w fun en w' => en = .returned (.int .i64 (chP s k e)) ∧ Below w.heap.size w w' :=
  (pc_drew p s k b e w h).mono fun en w' ⟨h1, n, h2⟩ => ⟨h1, by rw [h2]; exact drewN_below w n⟩

/-- A fault was told, the first of all or not. -/
def BadOut (p : Nat) (s : ByteArray) (k : Nat) (w : World) (en : Ending) (w' : World) : Prop :=
  ∃ b e : Int, en = .returned (.tuple #[]) ∧ Hid (e ≠ 0) ∧ PM w' p s k b e ∧ But p w w'

set_option maxRecDepth 100000 in
theorem pbad_any (p : Nat) (s : ByteArray) (k : Nat) (b e at_ x : Int) (w : World) (h : PM w p s k b e) (hx : x ≠ 0) :
    Calls Tryz.prog 83 #[.pointer (some ⟨p, 0, none⟩), .int .i64 at_, .int .i64 x] w (BadOut p s k w) := by
  have c3 := h.c3
  have c2 := h.c2
  have z2 := h.z 2
  have z3 := h.z 3
  have H := Lib.hid h
  clear h
  by_cases he : e = 0
  · subst he
    have HX := Lib.hid hx; clear hx
    go_enter Tryz.func83, Tryz.ntmps83
    go_wp2_with fail
    go_end0
    exact ⟨at_, x, rfl, HX, (H.out.put2 _).put3 _, (but_put _ _ _ _).put _ _⟩
  · have hd : (e == 0) = false := beq_eq_false_iff_ne.2 he
    have HE := Lib.hid he; clear he
    go_enter Tryz.func83, Tryz.ntmps83
    go_wp2_with fail
    go_end0
    exact ⟨b, e, rfl, HE, H.out, .refl _ _⟩
end Go.Proofs.YtimipfdknfdbdaaGreat

/- aukletref05.P.num at any text: a walk. -/
namespace Go.Proofs.YtimipfdknfdbdaaGreat
open Go.RowKit

/-- What num tells: a number, or -1. -/
def PNumOut (p : Nat) (s : ByteArray) (k : Nat) (b : Int) (w : World) (en : Ending) (w' : World) : Prop :=
  ∃ (x : Int) (k' : Nat), en = .returned (.int .i64 x) ∧ Hid (-1 ≤ x ∧ x ≤ 50 ∧ k ≤ k' ∧ k' ≤ s.size) ∧ PM w' p s k' b 0 ∧ But p w w'

set_option maxRecDepth 100000 in
set_option maxHeartbeats 1000000 in
theorem pnum_any (p : Nat) (s : ByteArray) (k : Nat) (b : Int) (w : World) (h : PM w p s k b 0) (hk : k ≤ s.size) (hs : s.size ≤ 400) :
    Calls Tryz.prog 87 #[.pointer (some ⟨p, 0, none⟩)] w (PNumOut p s k b w) := by
  have HC := Lib.hid (fun k V h => pc_any p s k b 0 V h)
  have H := Lib.hid h
  clear h
  go_enter Tryz.func87, Tryz.ntmps87
  go_wp2_with fail
  go_loopw [3, 4] (fun x y wr => ∃ (n m j : Nat), x = .int .i64 n ∧ y = .int .i64 m ∧ m ≤ 2 ∧ (m = 0 → n = 0) ∧ (m = 1 → n ≤ 9) ∧ n ≤ 99 ∧ k ≤ j ∧ j ≤ s.size ∧ Hid (PM wr p s j b 0) ∧ Hid (But p w wr)) (fun _ y _ => 2 - (intOf y).toNat)
  case atStart => exact ⟨0, 0, k, rfl, rfl, by omega, fun _ => rfl, fun h => by omega, by omega, by omega, hk, H, Lib.hid (.refl _ _)⟩
  case round =>
    obtain ⟨n, m, j, rfl, rfl, hm, h0, h1, h9, hkj, hj, q, hB⟩ := hrel
    have HC1 := Lib.hid (fun V h => HC.out j V h)
    have ia := Lib.hid (fun h => chP_in (s := s) (k := j) (e := 0) h)
    have ga := Lib.hid (chP_ge s j 0); have la := Lib.hid (chP_lt s j 0)
    obtain ⟨x, hx⟩ : ∃ x, x = chP s j 0 := ⟨_, rfl⟩
    rw [← hx] at HC1 ia ga la
    clear hx
    go_upto_region 2 with (fail)
    go_cut [16] from 5 to 31 (fun y wx => ∃ bb, y = .bool bb ∧ Hid (bb = true → m < 2 ∧ 48 ≤ x ∧ x ≤ 57) ∧ Hid (PM wx p s j b 0) ∧ Hid (But p w wx))
    case first =>
      by_cases hm2 : m < 2
      rotate_left
      · obtain rfl : m = 2 := by omega
        go_wp2_with fail
        go_meet
        exact ⟨_, rfl, Lib.hid (fun h => by cases h), q, hB⟩
      have hd : decide ((m : Int) < 2) = true := decide_eq_true (by omega)
      have HC2 := Lib.hid (HC1.out _ q.out)
      go_wp2_with fail
      refine HC2.out.mono ?_
      rintro e w1 ⟨rfl, b1⟩
      have q1 := Lib.hid (q.out.after b1)
      have hB1 := Lib.hid (hB.out.then b1)
      clear b1 HC2
      by_cases h48 : x < 48
      · have hd : decide (48 ≤ x) = false := decide_eq_false (by omega)
        go_wp2_with fail
        go_meet
        exact ⟨_, rfl, Lib.hid (fun h => by cases h), q1, hB1⟩
      have hd : decide (48 ≤ x) = true := decide_eq_true (by omega)
      have HC2 := Lib.hid (HC1.out _ q1.out)
      go_wp2_with fail
      refine HC2.out.mono ?_
      rintro e w2 ⟨rfl, b1⟩
      have q2 := Lib.hid (q1.out.after b1)
      have hB2 := Lib.hid (hB1.out.then b1)
      clear b1 HC2
      go_wp2_with fail
      go_meet
      exact ⟨_, rfl, Lib.hid (fun h => ⟨hm2, by omega, by simpa using h⟩), q2, hB2⟩
    case rest =>
      obtain ⟨bb, rfl, hbb, q1, hB1⟩ := hcut
      clear q hB
      cases bb with
      | true =>
        obtain ⟨hm2, h48, h57⟩ := hbb.out rfl
        obtain ⟨_, hjs, _⟩ := ia.out (by omega)
        have HC2 := Lib.hid (HC1.out _ q1.out)
        clear ia ga la hbb HC1
        go_wp2_with fail
        refine HC2.out.mono ?_
        rintro e w1 ⟨rfl, b1⟩
        have q2 := Lib.hid (q1.out.after b1)
        have hB2 := Lib.hid (hB1.out.then b1)
        clear b1 HC2 q1 hB1
        have c1 := q2.out.c1
        have z1 := q2.out.z 1
        go_wp2_with fail
        go_roundw
        case rel =>
          have e1 : ((j : Int) + 1) = ((j + 1 : Nat) : Int) := by omega
          rw [e1]
          have hn9 : n ≤ 9 := by
            rcases Nat.lt_or_ge 0 m with h | h
            · exact h1 (by omega)
            · have := h0 (by omega); omega
          exact ⟨((n : Int) * 10 + x - 48).toNat, m + 1, j + 1, by congr 1; omega, by go_num, by omega, fun h => by omega, fun h => by have := h0 (by omega); omega, by omega, by omega, by omega, Lib.hid (q2.out.put1 _), Lib.hid (hB2.out.put _ _)⟩
        case measure => simp [intOf]; omega
      | false =>
        clear ia ga la hbb HC1
        by_cases hm0 : m = 0
        · subst hm0
          go_wp2_with fail
          go_ret
          exact ⟨-1, j, rfl, Lib.hid ⟨by omega, by omega, hkj, hj⟩, q1.out, hB1.out⟩
        have hd : ((m : Int) == 0) = false := beq_eq_false_iff_ne.2 (by omega)
        have HM := Lib.hid hm0; clear hm0
        by_cases hn : 50 < n
        · have hd : decide (50 < (n : Int)) = true := decide_eq_true (by omega)
          go_wp2_with fail
          go_ret
          exact ⟨-1, j, rfl, Lib.hid ⟨by omega, by omega, hkj, hj⟩, q1.out, hB1.out⟩
        · have hd : decide (50 < (n : Int)) = false := decide_eq_false (by omega)
          go_wp2_with fail
          go_ret
          exact ⟨n, j, rfl, Lib.hid ⟨by omega, by omega, hkj, hj⟩, q1.out, hB1.out⟩
end Go.Proofs.YtimipfdknfdbdaaGreat

/- class.Not: a walk. -/
namespace Go.Proofs.YtimipfdknfdbdaaGreat
open Go.RowKit

def notW (f : Nat → Nat) : Nat → Nat := fun k => 18446744073709551615 - f k
theorem not_word (x : Nat) (hx : x < 18446744073709551616) : bits BinOp.xor IntKind.u64 (if IntKind.u64.signed = true then -1 else IntKind.u64.max) (x : Int) = ((18446744073709551615 - x : Nat) : Int) := by
  rw [show (if IntKind.u64.signed = true then -1 else IntKind.u64.max) = ((18446744073709551615 : Nat) : Int) from rfl, bits_xor_u64_nat _ _ (by decide) hx]
  congr 1
  apply Nat.eq_of_testBit_eq
  intro i
  have h1 : 18446744073709551615 - x = 2 ^ 64 - (x + 1) := by omega
  rw [h1, Nat.testBit_two_pow_sub_succ (by omega), Nat.testBit_xor, show (18446744073709551615 : Nat) = 2 ^ 64 - 1 from rfl, Nat.testBit_two_pow_sub_one]
  by_cases h : i < 64
  · simp [h]
  · have : x.testBit i = false := Nat.testBit_lt_two_pow (Nat.lt_of_lt_of_le hx (Nat.pow_le_pow_right (n := 2) (i := 64) (by decide) (by omega)))
    simp [h, this]
theorem fits_not (f : Nat → Nat) : Fits (notW f) := fun k _ => by unfold notW; omega
theorem bit_not (f : Nat → Nat) (hf : Fits f) {c : Nat} (hc : c < 256) : bit (notW f) c = !bit f c := by
  have h0 := hf (c / 64) (by omega)
  unfold bit notW
  have h1 : 18446744073709551615 - f (c / 64) = 2 ^ 64 - (f (c / 64) + 1) := by omega
  rw [h1, Nat.testBit_two_pow_sub_succ (by omega)]
  have : c % 64 < 64 := by omega
  simp [this]
theorem not_not (f : Nat → Nat) (hf : Fits f) : words (notW (notW f)) = words f := words_congr fun k hk => by have := hf k hk; unfold notW; omega

set_option maxRecDepth 100000 in
theorem not_spec (f : Nat → Nat) (hf : Fits f) (w : World) :
    Calls Tryz.prog 75 #[.agg (words f)] w fun e w' => e = .returned (.agg (words (notW f))) ∧ Below w.heap.size w w' := by
  go_enter Tryz.func75, Tryz.ntmps75
  go_wp2_with fail
  obtain ⟨W, hW, Q0, Q1, HB⟩ := boxed2 w f zero4 35 35
  change Code.wp _ _ _ _ ((w.alloc (Obj.cells (words f) 35)).alloc (Obj.cells (words zero4) 35))
  rw [← hW]
  clear hW
  go_loopw [3, 4] (fun _ y wr => ∃ k : Nat, y = .int .i64 k ∧ k ≤ 4 ∧ Hid (Quad wr w.heap.size (fun j => if j < k then notW f j else f j)) ∧ Hid (Quad wr (w.heap.size + 1) zero4) ∧ Hid (Below w.heap.size w wr)) (fun _ y _ => 4 - (intOf y).toNat)
  case atStart => exact ⟨0, rfl, by omega, by simpa using Q0, Q1, HB⟩
  case round =>
    obtain ⟨k, rfl, hk, q0, q1, hb⟩ := hrel
    by_cases hgo : k < 4
    · have hc := q0.out.c k hgo
      have hz := q0.out.z k hgo
      simp only [Nat.lt_irrefl, if_false] at hc
      have hx := not_word (f k) (hf k hgo)
      go_wp2_with fail
      try rw [hx]
      go_roundw
      case rel =>
        refine ⟨k + 1, by go_num, by omega, Lib.hid ((q0.out.set hgo _).congr fun j hj => ?_), Lib.hid (q1.out.other (by omega) _), Lib.hid (hb.out.setCell (by simp) _)⟩
        by_cases h1 : j = k
        · simp [h1, notW]
        · rw [if_neg h1]
          by_cases h2 : j < k
          · rw [if_pos h2, if_pos (by omega)]
          · rw [if_neg h2, if_neg (by omega)]
      case measure => simp [intOf]; omega
    · obtain rfl : k = 4 := by omega
      have Q := q0.out.congr (g := notW f) (fun j hj => by rw [if_pos hj])
      have c0 := Q.c 0 (by omega); have c1 := Q.c 1 (by omega); have c2 := Q.c 2 (by omega); have c3 := Q.c 3 (by omega)
      have z0 := q1.out.z 0 (by omega); have z1 := q1.out.z 1 (by omega); have z2 := q1.out.z 2 (by omega); have z3 := q1.out.z 3 (by omega)
      have y0 := q1.out.c 0 (by omega); have y1 := q1.out.c 1 (by omega); have y2 := q1.out.c 2 (by omega); have y3 := q1.out.c 3 (by omega)
      have HQ := Lib.hid Q; clear Q
      go_wp2_with fail
      obtain ⟨e0, e1, e2, e3⟩ := put4_reads q1.out (notW f)
      unfold put4 at e0 e1 e2 e3
      refine bodyPost_ret (v := .agg (words (notW f))) (by simp [results, Tryz.results75, go_sem, e0, e1, e2, e3, words]) rfl ⟨rfl, ?_⟩
      exact below_put4 hb.out (by omega) (notW f)
end Go.Proofs.YtimipfdknfdbdaaGreat
