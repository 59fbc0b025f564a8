/- Merged by program: T1RefE, T1RefF, T1RefG. -/
import Derived.Deep.RegionHeld3
import Derived.Deep.RegionWith
import Derived.Test.YtbbhcbpfffabpaaGas
/- Contracts of the document's answers for numbers: numbers with a sign. -/
namespace Go.Proofs.Ytbbhcbpfffabpaa.T1
open Go.Proofs.Ytbbhcbpfffabpaa Go.Proofs
open Go.RowKit

def NPost (z : Int) (k : Nat) (W : World) (e : Ending) (w' : World) : Prop :=
  ∃ m p n c l, e = .returned (.agg #[.bool m, .slice p n c]) ∧ Rd w' p n c l ∧ sv m l = z ∧ n ≤ k ∧ Below W.heap.size W w'

theorem Rd.other {w : World} {p n c l} (h : Rd w p n c l) {a : Addr} (ha : ∀ x, p = some x → x.block ≠ a.block) (v : Value) : Rd (w.setCell a v) p n c l := by
  refine ⟨h.len, h.cap, h.size, h.digs, h.nil, ?_⟩
  rcases h.cells with hc | ⟨b, off, hp, hlt, hc⟩
  · exact Or.inl hc
  · refine Or.inr ⟨b, off, hp, by simpa [World.setCell] using hlt, fun i hi => ?_⟩
    rw [cell_other (by intro e; exact ha _ hp (by rw [e]))]
    exact hc i hi

theorem sv_add (m : Bool) (a b : List Nat) : sv m a + sv m b = if m then -((val a + val b : Nat) : Int) else ((val a + val b : Nat) : Int) := by
  cases m <;> simp [sv] <;> omega

theorem sv_not (m : Bool) (l : List Nat) : sv (!m) l = - sv m l := by
  cases m <;> simp [sv]

structure Three (w w3 : World) (x0 y0 x1 y1 x2 y2 : Value) : Prop where
  t0 : Two w3 w.heap.size x0 y0
  t1 : Two w3 (w.heap.size + 1) x1 y1
  t2 : Two w3 (w.heap.size + 1 + 1) x2 y2
  below : Below w.heap.size w w3
  size : w3.heap.size = w.heap.size + 3

structure Later (w w3 : World) (x0 y0 x1 y1 x2 y2 : Value) : Prop where
  t0 : Two w3 w.heap.size x0 y0
  t1 : Two w3 (w.heap.size + 1) x1 y1
  t2 : Two w3 (w.heap.size + 1 + 1) x2 y2
  below : Below w.heap.size w w3
  size : w.heap.size + 3 ≤ w3.heap.size

theorem Three.later {w w3 w5 : World} {x0 y0 x1 y1 x2 y2 : Value} (h : Three w w3 x0 y0 x1 y1 x2 y2) (hb : Below w3.drew.heap.size w3.drew w5) : Later w w5 x0 y0 x1 y1 x2 y2 := by
  have hb' : Below w3.heap.size w3 w5 := (Below.refl _ _).drew.trans hb
  have hs := h.size
  have hz := hb'.size
  exact ⟨h.t0.below hb' (by omega), h.t1.below hb' (by omega), h.t2.below hb' (by omega), h.below.trans (hb'.mono (by omega)), by omega⟩

theorem three_new (w : World) (x0 y0 x1 y1 x2 y2 : Value) :
    ∃ w3, w3 = ((w.alloc (.cells #[x0, y0] 76)).alloc (.cells #[x1, y1] 76)).alloc (.cells #[x2, y2] 76) ∧ Three w w3 x0 y0 x1 y1 x2 y2 := by
  refine ⟨_, rfl, ?_⟩
  have a1 := (Below.refl (w.alloc (.cells #[x0, y0] 76)).heap.size (w.alloc (.cells #[x0, y0] 76))).alloc (Nat.le_refl _) (.cells #[x1, y1] 76)
  have a2 := (Below.refl ((w.alloc (.cells #[x0, y0] 76)).alloc (.cells #[x1, y1] 76)).heap.size _).alloc (Nat.le_refl _) (.cells #[x2, y2] 76)
  have t0 := two_new w x0 y0 76
  have t1 := two_new (w.alloc (.cells #[x0, y0] 76)) x1 y1 76
  have t2 := two_new ((w.alloc (.cells #[x0, y0] 76)).alloc (.cells #[x1, y1] 76)) x2 y2 76
  simp only [World.size_alloc] at t1 t2 a1 a2
  refine ⟨(t0.below a1 (by omega)).below a2 (by omega), t1.below a2 (by omega), t2, ?_, by simp only [World.size_alloc]⟩
  have a0 := (Below.refl w.heap.size w).alloc (Nat.le_refl _) (.cells #[x0, y0] 76)
  exact (a0.trans (a1.mono (by omega))).trans (a2.mono (by omega))

theorem n_end {w w5 : World} {x0 y0 x1 y1 x2 y2 : Value} {pp : Option Addr} {nn cc : Nat} {l : List Nat} (T : Later w w5 x0 y0 x1 y1 x2 y2) (u : Value) (h : Rd w5 pp nn cc l) (hf : ∀ x, pp = some x → x.block ≠ w.heap.size + 1 + 1) :
    ((w5.setCell ⟨w.heap.size + 1 + 1, 0, none⟩ u).setCell ⟨w.heap.size + 1 + 1, 1, none⟩ (.slice pp nn cc)).cell? ⟨w.heap.size + 1 + 1, 0, none⟩ = some u ∧
    ((w5.setCell ⟨w.heap.size + 1 + 1, 0, none⟩ u).setCell ⟨w.heap.size + 1 + 1, 1, none⟩ (.slice pp nn cc)).cell? ⟨w.heap.size + 1 + 1, 1, none⟩ = some (.slice pp nn cc) ∧
    Rd ((w5.setCell ⟨w.heap.size + 1 + 1, 0, none⟩ u).setCell ⟨w.heap.size + 1 + 1, 1, none⟩ (.slice pp nn cc)) pp nn cc l ∧
    Below w.heap.size w ((w5.setCell ⟨w.heap.size + 1 + 1, 0, none⟩ u).setCell ⟨w.heap.size + 1 + 1, 1, none⟩ (.slice pp nn cc)) := by
  have t := (T.t2.set0 u).set1 (.slice pp nn cc)
  exact ⟨t.c0, t.c1, (h.other hf _).other hf _, (T.below.setCell (by simp; omega) _).setCell (by simp; omega) _⟩

set_option maxHeartbeats 1000000 in
theorem not_any (m : Bool) (p : Option Addr) (n c : Nat) (l : List Nat) (w : World) (h : Rd w p n c l) :
    Calls Try.prog 63 #[.agg #[.bool m, .slice p n c]] w (NPost (- sv m l) n w) := by
  have HR := Lib.hid h; clear h
  go_enter Try.func63, Try.ntmps63
  go_wp2
  have t2 := two_new (w.alloc (.cells #[.bool m, .slice p n c] 76)) (.bool !m) (.slice p n c) 76
  have tc0 := t2.c0
  have tc1 := t2.c1
  have bl := ((Below.refl w.heap.size w).alloc (Nat.le_refl _) (.cells #[.bool m, .slice p n c] 76)).alloc (by simp) (.cells #[.bool !m, .slice p n c] 76)
  simp only [World.size_alloc] at tc0 tc1
  refine bodyPost_ret (v := .agg #[.bool !m, .slice p n c]) (by simp [results, Try.results63, go_sem, tc0, tc1]) rfl ⟨!m, p, n, c, l, rfl, HR.out.below bl, sv_not m l, Nat.le_refl _, bl⟩

set_option maxHeartbeats 1000000 in
theorem plus_same (m : Bool) (p q : Option Addr) (n k c c' : Nat) (a b : List Nat) (w : World) (ha : Rd w p n c a) (hb : Rd w q k c' b) (hn : n ≤ 900) (hk : k ≤ 900) :
    Calls Try.prog 61 #[.agg #[.bool m, .slice p n c], .agg #[.bool m, .slice q k c']] w (NPost (sv m a + sv m b) (max n k + 1) w) := by
  have HA := Lib.hid ha; clear ha
  have HB := Lib.hid hb; clear hb
  go_enter Try.func61, Try.ntmps61
  go_upto_region 2 with (fail)
  obtain ⟨w3, hw3, T⟩ := three_new w (.bool m) (.slice p n c) (.bool m) (.slice q k c') (.bool false) (.slice none 0 0)
  rw [← hw3]
  clear hw3
  have c0 := T.t0.c0; have c1 := T.t0.c1; have c2 := T.t1.c0; have c3 := T.t1.c1
  have HA3 := Lib.hid (HA.out.below T.below)
  have HB3 := Lib.hid (HB.out.below T.below)
  have HP := Lib.hid (fun (w' : World) (e : Below w3.heap.size w3 w') => plus_any p q n k c c' a b w' (HA3.out.below e) (HB3.out.below e) hn hk)
  have HT := Lib.hid T; clear T
  go_region_with ((go_at_call 80; refine (HP.out _ ?_).mono ?_; exact (Below.refl _ _).drew; rintro e w5 ⟨_, l, rfl, ⟨⟨pp, nn, cc, rfl, hrd, hfr⟩, hbel⟩, hv, hlen⟩; have HV := Lib.hid hv; clear hv; have HL := Lib.hid hlen; clear hlen; have HRD := Lib.hid hrd; clear hrd; have HFR := Lib.hid hfr; clear hfr; have T5 := Lib.hid (HT.out.later hbel); clear hbel; have d0 := T5.out.t0.c0; have d1 := T5.out.t0.c1; have d2 := T5.out.t1.c0; have d3 := T5.out.t1.c1; have d4 := T5.out.t2.c0; have d5 := T5.out.t2.c1; have d6 := T5.out.t2.f0; have d7 := T5.out.t2.f1))
  all_goals
    obtain ⟨e0, e1, hrd6, hb6⟩ := n_end T5.out (.bool m) HRD.out (fun x hx => by have := HFR.out x hx; have := HT.out.size; simp at *; omega)
    go_wp2
    refine bodyPost_ret (v := .agg #[.bool m, .slice pp nn cc]) (by simp [results, Try.results61, go_sem, e0, e1]) rfl ⟨m, pp, nn, cc, l, rfl, hrd6, ?_, ?_, hb6⟩
    · rw [sv_add, ← HV.out]; rfl
    · have := HL.out; have := HRD.out.len; omega
end Go.Proofs.Ytbbhcbpfffabpaa.T1

/- Contracts of the document's answers for numbers: sums of numbers with two signs. -/
namespace Go.Proofs.Ytbbhcbpfffabpaa.T1
open Go.Proofs.Ytbbhcbpfffabpaa Go.Proofs
open Go.RowKit

theorem sv_sub (m : Bool) (a b : List Nat) (h : val b ≤ val a) : sv m a + sv (!m) b = if m then -((val a - val b : Nat) : Int) else ((val a - val b : Nat) : Int) := by
  cases m <;> simp [sv] <;> omega
theorem sv_sub' (m : Bool) (a b : List Nat) (h : val a ≤ val b) : sv m a + sv (!m) b = if !m then -((val b - val a : Nat) : Int) else ((val b - val a : Nat) : Int) := by
  cases m <;> simp [sv] <;> omega

set_option maxHeartbeats 1000000 in
theorem plus_more (m : Bool) (p q : Option Addr) (n k c c' : Nat) (a b : List Nat) (w : World) (ha : Rd w p n c a) (hb : Rd w q k c' b) (hn : n ≤ 900) (hle : val b ≤ val a) :
    Calls Try.prog 61 #[.agg #[.bool m, .slice p n c], .agg #[.bool (!m), .slice q k c']] w (NPost (sv m a + sv (!m) b) (max n k + 1) w) := by
  have HA := Lib.hid ha; clear ha
  have HB := Lib.hid hb; clear hb
  go_enter Try.func61, Try.ntmps61
  go_upto_region 1 with (fail)
  obtain ⟨w3, hw3, T⟩ := three_new w (.bool m) (.slice p n c) (.bool (!m)) (.slice q k c') (.bool false) (.slice none 0 0)
  rw [← hw3]
  clear hw3
  have c0 := T.t0.c0; have c1 := T.t0.c1; have c2 := T.t1.c0; have c3 := T.t1.c1
  have HA3 := Lib.hid (HA.out.below T.below)
  have HB3 := Lib.hid (HB.out.below T.below)
  have HP := Lib.hid (fun (w' : World) (e : Below w3.heap.size w3 w') => minus_any p q n k c c' a b w' (HA3.out.below e) (HB3.out.below e) hn hle)
  have HLS := Lib.hid (fun (w' : World) (e : Below w3.heap.size w3 w') => less_any p q n k c c' a b w' (HA3.out.below e) (HB3.out.below e))
  have HLE := Lib.hid (show decide (val a < val b) = false from by simp; omega)
  have hneq : (m == !m) = false := by cases m <;> rfl
  have HT := Lib.hid T; clear T
  clear hle
  go_upto_region 5 with (go_at_call 79; refine (HLS.out _ (Below.refl _ _)).mono ?_; rintro e w1 ⟨rfl, rfl⟩; rw [HLE.out])
  go_region_with ((go_at_call 81; refine (HP.out _ ?_).mono ?_; exact (Below.refl _ _).drew; rintro e w5 ⟨_, l, rfl, ⟨⟨pp, nn, cc, rfl, hrd, hfr⟩, hbel⟩, hv, hlen⟩; have HV := Lib.hid hv; clear hv; have HL := Lib.hid hlen; clear hlen; have HRD := Lib.hid hrd; clear hrd; have HFR := Lib.hid hfr; clear hfr; have T5 := Lib.hid (HT.out.later hbel); clear hbel; have d0 := T5.out.t0.c0; have d1 := T5.out.t0.c1; have d2 := T5.out.t1.c0; have d3 := T5.out.t1.c1; have d4 := T5.out.t2.c0; have d5 := T5.out.t2.c1; have d6 := T5.out.t2.f0; have d7 := T5.out.t2.f1))
  all_goals
    obtain ⟨e0, e1, hrd6, hb6⟩ := n_end T5.out (.bool m) HRD.out (fun x hx => by have := HFR.out x hx; have := HT.out.size; simp at *; omega)
    go_wp2
    refine bodyPost_ret (v := .agg #[.bool m, .slice pp nn cc]) (by simp [results, Try.results61, go_sem, e0, e1]) rfl ⟨m, pp, nn, cc, l, rfl, hrd6, ?_, ?_, hb6⟩
    · rw [sv_sub m a b (by have := HLE.out; simpa using this), ← HV.out]; rfl
    · have := HL.out; have := HRD.out.len; omega

set_option maxHeartbeats 1000000 in
theorem plus_less (m : Bool) (p q : Option Addr) (n k c c' : Nat) (a b : List Nat) (w : World) (ha : Rd w p n c a) (hb : Rd w q k c' b) (hk : k ≤ 900) (hlt : val a < val b) :
    Calls Try.prog 61 #[.agg #[.bool m, .slice p n c], .agg #[.bool (!m), .slice q k c']] w (NPost (sv m a + sv (!m) b) (max n k + 1) w) := by
  have HA := Lib.hid ha; clear ha
  have HB := Lib.hid hb; clear hb
  go_enter Try.func61, Try.ntmps61
  go_upto_region 1 with (fail)
  obtain ⟨w3, hw3, T⟩ := three_new w (.bool m) (.slice p n c) (.bool (!m)) (.slice q k c') (.bool false) (.slice none 0 0)
  rw [← hw3]
  clear hw3
  have c0 := T.t0.c0; have c1 := T.t0.c1; have c2 := T.t1.c0; have c3 := T.t1.c1
  have HA3 := Lib.hid (HA.out.below T.below)
  have HB3 := Lib.hid (HB.out.below T.below)
  have HP := Lib.hid (fun (w' : World) (e : Below w3.heap.size w3 w') => minus_any q p k n c' c b a w' (HB3.out.below e) (HA3.out.below e) hk (by omega))
  have HLS := Lib.hid (fun (w' : World) (e : Below w3.heap.size w3 w') => less_any p q n k c c' a b w' (HA3.out.below e) (HB3.out.below e))
  have HLE := Lib.hid (show decide (val a < val b) = true from by simp; omega)
  have hneq : (m == !m) = false := by cases m <;> rfl
  have HT := Lib.hid T; clear T
  clear hlt
  go_upto_region 4 with (go_at_call 79; refine (HLS.out _ (Below.refl _ _)).mono ?_; rintro e w1 ⟨rfl, rfl⟩; rw [HLE.out])
  go_region_with ((go_at_call 81; refine (HP.out _ ?_).mono ?_; exact (Below.refl _ _).drew; rintro e w5 ⟨_, l, rfl, ⟨⟨pp, nn, cc, rfl, hrd, hfr⟩, hbel⟩, hv, hlen⟩; have HV := Lib.hid hv; clear hv; have HL := Lib.hid hlen; clear hlen; have HRD := Lib.hid hrd; clear hrd; have HFR := Lib.hid hfr; clear hfr; have T5 := Lib.hid (HT.out.later hbel); clear hbel; have d0 := T5.out.t0.c0; have d1 := T5.out.t0.c1; have d2 := T5.out.t1.c0; have d3 := T5.out.t1.c1; have d4 := T5.out.t2.c0; have d5 := T5.out.t2.c1; have d6 := T5.out.t2.f0; have d7 := T5.out.t2.f1))
  all_goals
    obtain ⟨e0, e1, hrd6, hb6⟩ := n_end T5.out (.bool (!m)) HRD.out (fun x hx => by have := HFR.out x hx; have := HT.out.size; simp at *; omega)
    go_wp2
    refine bodyPost_ret (v := .agg #[.bool (!m), .slice pp nn cc]) (by simp [results, Try.results61, go_sem, e0, e1]) rfl ⟨!m, pp, nn, cc, l, rfl, hrd6, ?_, ?_, hb6⟩
    · rw [sv_sub' m a b (by have := HLE.out; simp at this; omega), ← HV.out]; rfl
    · have := HL.out; have := HRD.out.len; omega

theorem Plus_any (m m' : Bool) (p q : Option Addr) (n k c c' : Nat) (a b : List Nat) (w : World) (ha : Rd w p n c a) (hb : Rd w q k c' b) (hn : n ≤ 900) (hk : k ≤ 900) :
    Calls Try.prog 61 #[.agg #[.bool m, .slice p n c], .agg #[.bool m', .slice q k c']] w (NPost (sv m a + sv m' b) (max n k + 1) w) := by
  by_cases h : m' = m
  · subst h; exact plus_same _ p q n k c c' a b w ha hb hn hk
  · obtain rfl : m' = !m := by cases m <;> cases m' <;> simp_all
    by_cases h2 : val a < val b
    · exact plus_less m p q n k c c' a b w ha hb hk h2
    · exact plus_more m p q n k c c' a b w ha hb hn (by omega)
end Go.Proofs.Ytbbhcbpfffabpaa.T1

/- Contracts of the document's answers for numbers: back to an int64. -/
namespace Go.Proofs.Ytbbhcbpfffabpaa.T1
open Go.Proofs.Ytbbhcbpfffabpaa Go.Proofs
open Go.RowKit

theorem suf_le (l : List Nat) : ∀ k, suf l k ≤ val l := by
  intro k
  induction k with
  | zero => exact Nat.le_refl _
  | succ k ih => have := suf_step l k; omega

def BackPost (z : Int) (W : World) (e : Ending) (w' : World) : Prop := e = .returned (ans (back z)) ∧ Below W.heap.size W w'

theorem fits_minus {l : List Nat} : Fits (sv true l) ↔ val l ≤ 9223372036854775808 := by
  unfold Fits sv; simp; omega
theorem fits_plus {l : List Nat} : Fits (sv false l) ↔ val l ≤ 9223372036854775807 := by
  unfold Fits sv; simp; omega

set_option maxRecDepth 100000 in
set_option maxHeartbeats 1000000 in
theorem back_any (m : Bool) (p : Option Addr) (n c : Nat) (l : List Nat) (w : World) (h : Rd w p n c l) :
    Calls Try.prog 60 #[.agg #[.bool m, .slice p n c]] w (BackPost (sv m l) w) := by
  have hn := h.size
  have hcp := h.cap
  have HR := Lib.hid h; clear h
  have HO := Lib.hid (fun w' => of_any (-9223372036854775808) w' (by decide))
  have t0 := two_new w (.bool m) (.slice p n c) 76
  have bl := (Below.refl w.heap.size w).alloc (Nat.le_refl _) (.cells #[.bool m, .slice p n c] 76)
  have HT0 := Lib.hid t0; clear t0
  have HBL := Lib.hid bl; clear bl
  go_enter Try.func60, Try.ntmps60
  go_wp2_with fail
  refine (HO.out _).mono ?_
  rintro e w1 ⟨mp, mn, mc, rfl, hrd, hb1⟩
  have hfield : ∀ w, (Instr.field 76 (.agg #[.bool true, .slice mp mn mc]) 1).run Try.prog w = .ok (.slice mp mn mc) w := fun _ => by kernel_rfl
  have T := HT0.out.below hb1 (by simp)
  have c0 := T.c0; have c1 := T.c1
  have HB1 := Lib.hid (HBL.out.trans (hb1.mono (by simp)))
  have HRM := Lib.hid hrd; clear hrd
  have HRL := Lib.hid (HR.out.below HB1.out)
  have hmost : val (dg 20 (-9223372036854775808 : Int).natAbs) = 9223372036854775808 := dg_val 20 _ (by decide)
  have hl1 := fun w' (e : w1 = w') => less_any mp p mn n mc c _ _ w' (e ▸ HRM.out) (e ▸ HRL.out)
  have hl2 := fun w' (e : w1 = w') => less_any p mp n mn c mc _ _ w' (e ▸ HRL.out) (e ▸ HRM.out)
  rw [hmost] at hl1 hl2
  have HL1 := Lib.hid hl1; clear hl1
  have HL2 := Lib.hid hl2; clear hl2
  clear hmost T hb1
  by_cases hover : 9223372036854775808 < val l
  · have hd : decide (9223372036854775808 < val l) = true := by simp; omega
    rw [hd] at HL1
    have hans : ans (back (sv m l)) = .tuple #[.int .i64 0, .int .i64 10] := ans_no (by cases m <;> simp only [fits_minus, fits_plus] <;> omega)
    have HANS := Lib.hid hans
    clear hd hover hans
    go_wp2_with fail
    refine (HL1.out _ rfl).mono ?_
    rintro e w2 ⟨rfl, rfl⟩
    go_wp2_with fail
    go_ret2
    exact ⟨by rw [HANS.out]; rfl, HB1.out⟩
  · have hd : decide (9223372036854775808 < val l) = false := by simp; omega
    rw [hd] at HL1
    clear hd
    cases m
    · by_cases hlt : val l < 9223372036854775808
      · have hd2 : decide (val l < 9223372036854775808) = true := by simp; omega
        rw [hd2] at HL2
        clear hd2 hover
        have hv := Lib.hid hlt; clear hlt
        go_wp2_with fail
        refine (HL1.out _ rfl).mono ?_
        rintro e w2 ⟨rfl, rfl⟩
        go_wp2_with fail
        refine (HL2.out _ rfl).mono ?_
        rintro e w2 ⟨rfl, rfl⟩
        go_wp2_with fail
        go_loop [5, 6] (fun x i => ∃ s : Nat, ∃ j : Int, x = .int .i64 s ∧ i = .int .i64 j ∧ -1 ≤ j ∧ j < n ∧ Hid (s = suf l (j + 1).toNat)) (fun _ i => (intOf i + 1).toNat)
        case atStart => exact ⟨0, _, rfl, rfl, by omega, by omega, Lib.hid (by rw [suf_end l _ (by have := HR.out.len; omega)])⟩
        case round =>
          obtain ⟨s, j, rfl, rfl, hj1, hj2, hs⟩ := hrel
          by_cases h0 : 0 ≤ j
          · obtain ⟨k, rfl⟩ := Int.eq_ofNat_of_zero_le h0
            rcases HRL.out.cells with hx | ⟨ba, off, rfl, hlt, hx⟩
            · exfalso
              have := HR.out.len
              rw [hx] at this; simp at this; omega
            obtain ⟨x, hxe⟩ : ∃ x, x = l.getD k 0 := ⟨_, rfl⟩
            have hcell := hx k (by have := HR.out.len; omega)
            rw [← hxe] at hcell
            have hst : suf l k = x + 10 * s := by
              rw [suf_step, ← hxe, hs.out, show ((k : Int) + 1).toNat = k + 1 from by omega]
            have hle : x + 10 * s ≤ 9223372036854775807 := by have := suf_le l k; have := hv.out; omega
            have hx9 : x < 10 := by rw [hxe]; exact HR.out.digs.getD k
            have HST := Lib.hid hst; clear hst hxe hx
            go_wp2_with fail
            go_round
            case rel => exact ⟨x + 10 * s, (k : Int) - 1, by go_num, rfl, by omega, by omega, Lib.hid (by rw [← HST.out, show ((k : Int) - 1 + 1).toNat = k from by omega])⟩
            case measure => simp [intOf]
          · obtain rfl : j = -1 := by omega
            have hfin : s = val l := by have := hs.out; rw [show ((-1 : Int) + 1).toNat = 0 from rfl, suf_zero] at this; exact this
            have hans : ans (back (sv false l)) = .tuple #[.int .i64 (s : Int), .int .i64 0] := by
              rw [ans_yes (fits_plus.2 (by have := hv.out; omega)), hfin]; rfl
            have HANS := Lib.hid hans
            clear hfin hans
            go_wp2_with fail
            go_ret2
            exact ⟨by rw [HANS.out]; rfl, HB1.out⟩
      · have hd2 : decide (val l < 9223372036854775808) = false := by simp; omega
        rw [hd2] at HL2
        have hans : ans (back (sv false l)) = .tuple #[.int .i64 0, .int .i64 10] := ans_no (by rw [fits_plus]; omega)
        have HANS := Lib.hid hans
        clear hd2 hover hlt hans
        go_wp2_with fail
        refine (HL1.out _ rfl).mono ?_
        rintro e w2 ⟨rfl, rfl⟩
        go_wp2_with fail
        refine (HL2.out _ rfl).mono ?_
        rintro e w2 ⟨rfl, rfl⟩
        go_wp2_with fail
        go_ret2
        exact ⟨by rw [HANS.out]; rfl, HB1.out⟩
    · have hv := Lib.hid hover; clear hover
      go_wp2_with fail
      refine (HL1.out _ rfl).mono ?_
      rintro e w2 ⟨rfl, rfl⟩
      go_wp2_with fail
      go_loop [5, 6] (fun x i => ∃ s : Nat, ∃ j : Int, x = .int .i64 (-(s : Int)) ∧ i = .int .i64 j ∧ -1 ≤ j ∧ j < n ∧ Hid (s = suf l (j + 1).toNat)) (fun _ i => (intOf i + 1).toNat)
      case atStart => exact ⟨0, _, rfl, rfl, by omega, by omega, Lib.hid (by rw [suf_end l _ (by have := HR.out.len; omega)])⟩
      case round =>
        obtain ⟨s, j, rfl, rfl, hj1, hj2, hs⟩ := hrel
        by_cases h0 : 0 ≤ j
        · obtain ⟨k, rfl⟩ := Int.eq_ofNat_of_zero_le h0
          rcases HRL.out.cells with hx | ⟨ba, off, rfl, hlt, hx⟩
          · exfalso
            have := HR.out.len
            rw [hx] at this; simp at this; omega
          obtain ⟨x, hxe⟩ : ∃ x, x = l.getD k 0 := ⟨_, rfl⟩
          have hcell := hx k (by have := HR.out.len; omega)
          rw [← hxe] at hcell
          have hst : suf l k = x + 10 * s := by
            rw [suf_step, ← hxe, hs.out, show ((k : Int) + 1).toNat = k + 1 from by omega]
          have hle : x + 10 * s ≤ 9223372036854775808 := by have := suf_le l k; have := hv.out; omega
          have hx9 : x < 10 := by rw [hxe]; exact HR.out.digs.getD k
          have HST := Lib.hid hst; clear hst hxe hx
          go_wp2_with fail
          go_round
          case rel => exact ⟨x + 10 * s, (k : Int) - 1, by go_num, rfl, by omega, by omega, Lib.hid (by rw [← HST.out, show ((k : Int) - 1 + 1).toNat = k from by omega])⟩
          case measure => simp [intOf]
        · obtain rfl : j = -1 := by omega
          have hfin : s = val l := by have := hs.out; rw [show ((-1 : Int) + 1).toNat = 0 from rfl, suf_zero] at this; exact this
          have hans : ans (back (sv true l)) = .tuple #[.int .i64 (-(s : Int)), .int .i64 0] := by
            rw [ans_yes (fits_minus.2 (by have := hv.out; omega)), hfin]; rfl
          have HANS := Lib.hid hans
          clear hfin hans
          go_wp2_with fail
          go_ret2
          exact ⟨by rw [HANS.out]; rfl, HB1.out⟩
end Go.Proofs.Ytbbhcbpfffabpaa.T1
