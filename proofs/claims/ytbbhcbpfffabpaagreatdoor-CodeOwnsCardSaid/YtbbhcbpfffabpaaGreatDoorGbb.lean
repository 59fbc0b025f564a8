/- Merged by program: T1RefE, T1RefF, T1RefI. -/
import Derived.Deep.RegionHeld3
import Derived.Deep.RegionWith
import Derived.Deep.OwnRows
import Derived.Test.YtbbhcbpfffabpaaGreatDoorGba
/- Contracts of the document's answers for numbers: numbers with a sign. -/
namespace Go.Proofs.YtbbhcbpfffabpaaGreatDoor.T1
open Go.Proofs.YtbbhcbpfffabpaaGreatDoor Go.Proofs
open Go.RowKit

def NPost (z : Int) (k : Nat) (W : World) (e : Ending) (w' : World) : Prop :=
  ∃ m p n c l, e = .returned (.agg #[.bool m, .slice p n c]) ∧ Rd w' p n c l ∧ sv m l = z ∧ n ≤ k ∧ Below W.heap.size W w'

theorem Rd.other {w : World} {p n c l} (h : Rd w p n c l) {a : Addr} (ha : ∀ x, p = some x → x.block ≠ a.block) (v : Value) : Rd (w.setCell a v) p n c l := by
  refine ⟨h.len, h.cap, h.size, h.digs, h.nil, ?_⟩
  rcases h.cells with hc | ⟨b, off, hp, hlt, hc⟩
  · exact Or.inl hc
  · refine Or.inr ⟨b, off, hp, by simpa [World.setCell] using hlt, fun i hi => ?_⟩
    rw [cell_other (by intro e; exact ha _ hp (by rw [e]))]
    exact hc i hi

theorem sv_add (m : Bool) (a b : List Nat) : sv m a + sv m b = if m then -((val a + val b : Nat) : Int) else ((val a + val b : Nat) : Int) := by
  cases m <;> simp [sv] <;> omega

theorem sv_not (m : Bool) (l : List Nat) : sv (!m) l = - sv m l := by
  cases m <;> simp [sv]

structure Three (w w3 : World) (x0 y0 x1 y1 x2 y2 : Value) : Prop where
  t0 : Two w3 w.heap.size x0 y0
  t1 : Two w3 (w.heap.size + 1) x1 y1
  t2 : Two w3 (w.heap.size + 1 + 1) x2 y2
  below : Below w.heap.size w w3
  size : w3.heap.size = w.heap.size + 3

structure Later (w w3 : World) (x0 y0 x1 y1 x2 y2 : Value) : Prop where
  t0 : Two w3 w.heap.size x0 y0
  t1 : Two w3 (w.heap.size + 1) x1 y1
  t2 : Two w3 (w.heap.size + 1 + 1) x2 y2
  below : Below w.heap.size w w3
  size : w.heap.size + 3 ≤ w3.heap.size

theorem Three.later {w w3 w5 : World} {x0 y0 x1 y1 x2 y2 : Value} (h : Three w w3 x0 y0 x1 y1 x2 y2) (hb : Below w3.drew.heap.size w3.drew w5) : Later w w5 x0 y0 x1 y1 x2 y2 := by
  have hb' : Below w3.heap.size w3 w5 := (Below.refl _ _).drew.trans hb
  have hs := h.size
  have hz := hb'.size
  exact ⟨h.t0.below hb' (by omega), h.t1.below hb' (by omega), h.t2.below hb' (by omega), h.below.trans (hb'.mono (by omega)), by omega⟩

theorem three_new (w : World) (x0 y0 x1 y1 x2 y2 : Value) :
    ∃ w3, w3 = ((w.alloc (.cells #[x0, y0] 62)).alloc (.cells #[x1, y1] 62)).alloc (.cells #[x2, y2] 62) ∧ Three w w3 x0 y0 x1 y1 x2 y2 := by
  refine ⟨_, rfl, ?_⟩
  have a1 := (Below.refl (w.alloc (.cells #[x0, y0] 62)).heap.size (w.alloc (.cells #[x0, y0] 62))).alloc (Nat.le_refl _) (.cells #[x1, y1] 62)
  have a2 := (Below.refl ((w.alloc (.cells #[x0, y0] 62)).alloc (.cells #[x1, y1] 62)).heap.size _).alloc (Nat.le_refl _) (.cells #[x2, y2] 62)
  have t0 := two_new w x0 y0 62
  have t1 := two_new (w.alloc (.cells #[x0, y0] 62)) x1 y1 62
  have t2 := two_new ((w.alloc (.cells #[x0, y0] 62)).alloc (.cells #[x1, y1] 62)) x2 y2 62
  simp only [World.size_alloc] at t1 t2 a1 a2
  refine ⟨(t0.below a1 (by omega)).below a2 (by omega), t1.below a2 (by omega), t2, ?_, by simp only [World.size_alloc]⟩
  have a0 := (Below.refl w.heap.size w).alloc (Nat.le_refl _) (.cells #[x0, y0] 62)
  exact (a0.trans (a1.mono (by omega))).trans (a2.mono (by omega))

theorem n_end {w w5 : World} {x0 y0 x1 y1 x2 y2 : Value} {pp : Option Addr} {nn cc : Nat} {l : List Nat} (T : Later w w5 x0 y0 x1 y1 x2 y2) (u : Value) (h : Rd w5 pp nn cc l) (hf : ∀ x, pp = some x → x.block ≠ w.heap.size + 1 + 1) :
    ((w5.setCell ⟨w.heap.size + 1 + 1, 0, none⟩ u).setCell ⟨w.heap.size + 1 + 1, 1, none⟩ (.slice pp nn cc)).cell? ⟨w.heap.size + 1 + 1, 0, none⟩ = some u ∧
    ((w5.setCell ⟨w.heap.size + 1 + 1, 0, none⟩ u).setCell ⟨w.heap.size + 1 + 1, 1, none⟩ (.slice pp nn cc)).cell? ⟨w.heap.size + 1 + 1, 1, none⟩ = some (.slice pp nn cc) ∧
    Rd ((w5.setCell ⟨w.heap.size + 1 + 1, 0, none⟩ u).setCell ⟨w.heap.size + 1 + 1, 1, none⟩ (.slice pp nn cc)) pp nn cc l ∧
    Below w.heap.size w ((w5.setCell ⟨w.heap.size + 1 + 1, 0, none⟩ u).setCell ⟨w.heap.size + 1 + 1, 1, none⟩ (.slice pp nn cc)) := by
  have t := (T.t2.set0 u).set1 (.slice pp nn cc)
  exact ⟨t.c0, t.c1, (h.other hf _).other hf _, (T.below.setCell (by simp; omega) _).setCell (by simp; omega) _⟩

set_option maxHeartbeats 1000000 in
theorem plus_same (m : Bool) (p q : Option Addr) (n k c c' : Nat) (a b : List Nat) (w : World) (ha : Rd w p n c a) (hb : Rd w q k c' b) (hn : n ≤ 900) (hk : k ≤ 900) :
    Calls Tryz.prog 110 #[.agg #[.bool m, .slice p n c], .agg #[.bool m, .slice q k c']] w (NPost (sv m a + sv m b) (max n k + 1) w) := by
  have HA := Lib.hid ha; clear ha
  have HB := Lib.hid hb; clear hb
  go_enter Tryz.func110, Tryz.ntmps110
  go_upto_region 2 with (fail)
  obtain ⟨w3, hw3, T⟩ := three_new w (.bool m) (.slice p n c) (.bool m) (.slice q k c') (.bool false) (.slice none 0 0)
  rw [← hw3]
  clear hw3
  have c0 := T.t0.c0; have c1 := T.t0.c1; have c2 := T.t1.c0; have c3 := T.t1.c1
  have HA3 := Lib.hid (HA.out.below T.below)
  have HB3 := Lib.hid (HB.out.below T.below)
  have HP := Lib.hid (fun (w' : World) (e : Below w3.heap.size w3 w') => plus_any p q n k c c' a b w' (HA3.out.below e) (HB3.out.below e) hn hk)
  have HT := Lib.hid T; clear T
  go_region_with ((go_at_call 80; refine (HP.out _ ?_).mono ?_; exact (Below.refl _ _).drew; rintro e w5 ⟨_, l, rfl, ⟨⟨pp, nn, cc, rfl, hrd, hfr⟩, hbel⟩, hv, hlen⟩; have HV := Lib.hid hv; clear hv; have HL := Lib.hid hlen; clear hlen; have HRD := Lib.hid hrd; clear hrd; have HFR := Lib.hid hfr; clear hfr; have T5 := Lib.hid (HT.out.later hbel); clear hbel; have d0 := T5.out.t0.c0; have d1 := T5.out.t0.c1; have d2 := T5.out.t1.c0; have d3 := T5.out.t1.c1; have d4 := T5.out.t2.c0; have d5 := T5.out.t2.c1; have d6 := T5.out.t2.f0; have d7 := T5.out.t2.f1))
  all_goals
    obtain ⟨e0, e1, hrd6, hb6⟩ := n_end T5.out (.bool m) HRD.out (fun x hx => by have := HFR.out x hx; have := HT.out.size; simp at *; omega)
    go_wp2
    refine bodyPost_ret (v := .agg #[.bool m, .slice pp nn cc]) (by simp [results, Tryz.results110, go_sem, e0, e1]) rfl ⟨m, pp, nn, cc, l, rfl, hrd6, ?_, ?_, hb6⟩
    · rw [sv_add, ← HV.out]; rfl
    · have := HL.out; have := HRD.out.len; omega
end Go.Proofs.YtbbhcbpfffabpaaGreatDoor.T1

/- Contracts of the document's answers for numbers: sums of numbers with two signs. -/
namespace Go.Proofs.YtbbhcbpfffabpaaGreatDoor.T1
open Go.Proofs.YtbbhcbpfffabpaaGreatDoor Go.Proofs
open Go.RowKit

theorem sv_sub (m : Bool) (a b : List Nat) (h : val b ≤ val a) : sv m a + sv (!m) b = if m then -((val a - val b : Nat) : Int) else ((val a - val b : Nat) : Int) := by
  cases m <;> simp [sv] <;> omega
theorem sv_sub' (m : Bool) (a b : List Nat) (h : val a ≤ val b) : sv m a + sv (!m) b = if !m then -((val b - val a : Nat) : Int) else ((val b - val a : Nat) : Int) := by
  cases m <;> simp [sv] <;> omega

set_option maxHeartbeats 1000000 in
theorem plus_more (m : Bool) (p q : Option Addr) (n k c c' : Nat) (a b : List Nat) (w : World) (ha : Rd w p n c a) (hb : Rd w q k c' b) (hn : n ≤ 900) (hle : val b ≤ val a) :
    Calls Tryz.prog 110 #[.agg #[.bool m, .slice p n c], .agg #[.bool (!m), .slice q k c']] w (NPost (sv m a + sv (!m) b) (max n k + 1) w) := by
  have HA := Lib.hid ha; clear ha
  have HB := Lib.hid hb; clear hb
  go_enter Tryz.func110, Tryz.ntmps110
  go_upto_region 1 with (fail)
  obtain ⟨w3, hw3, T⟩ := three_new w (.bool m) (.slice p n c) (.bool (!m)) (.slice q k c') (.bool false) (.slice none 0 0)
  rw [← hw3]
  clear hw3
  have c0 := T.t0.c0; have c1 := T.t0.c1; have c2 := T.t1.c0; have c3 := T.t1.c1
  have HA3 := Lib.hid (HA.out.below T.below)
  have HB3 := Lib.hid (HB.out.below T.below)
  have HP := Lib.hid (fun (w' : World) (e : Below w3.heap.size w3 w') => minus_any p q n k c c' a b w' (HA3.out.below e) (HB3.out.below e) hn hle)
  have HLS := Lib.hid (fun (w' : World) (e : Below w3.heap.size w3 w') => less_any p q n k c c' a b w' (HA3.out.below e) (HB3.out.below e))
  have HLE := Lib.hid (show decide (val a < val b) = false from by simp; omega)
  have hneq : (m == !m) = false := by cases m <;> rfl
  have HT := Lib.hid T; clear T
  clear hle
  go_upto_region 5 with (go_at_call 78; refine (HLS.out _ (Below.refl _ _)).mono ?_; rintro e w1 ⟨rfl, rfl⟩; rw [HLE.out])
  go_region_with ((go_at_call 83; refine (HP.out _ ?_).mono ?_; exact (Below.refl _ _).drew; rintro e w5 ⟨_, l, rfl, ⟨⟨pp, nn, cc, rfl, hrd, hfr⟩, hbel⟩, hv, hlen⟩; have HV := Lib.hid hv; clear hv; have HL := Lib.hid hlen; clear hlen; have HRD := Lib.hid hrd; clear hrd; have HFR := Lib.hid hfr; clear hfr; have T5 := Lib.hid (HT.out.later hbel); clear hbel; have d0 := T5.out.t0.c0; have d1 := T5.out.t0.c1; have d2 := T5.out.t1.c0; have d3 := T5.out.t1.c1; have d4 := T5.out.t2.c0; have d5 := T5.out.t2.c1; have d6 := T5.out.t2.f0; have d7 := T5.out.t2.f1))
  all_goals
    obtain ⟨e0, e1, hrd6, hb6⟩ := n_end T5.out (.bool m) HRD.out (fun x hx => by have := HFR.out x hx; have := HT.out.size; simp at *; omega)
    go_wp2
    refine bodyPost_ret (v := .agg #[.bool m, .slice pp nn cc]) (by simp [results, Tryz.results110, go_sem, e0, e1]) rfl ⟨m, pp, nn, cc, l, rfl, hrd6, ?_, ?_, hb6⟩
    · rw [sv_sub m a b (by have := HLE.out; simpa using this), ← HV.out]; rfl
    · have := HL.out; have := HRD.out.len; omega

set_option maxHeartbeats 1000000 in
theorem plus_less (m : Bool) (p q : Option Addr) (n k c c' : Nat) (a b : List Nat) (w : World) (ha : Rd w p n c a) (hb : Rd w q k c' b) (hk : k ≤ 900) (hlt : val a < val b) :
    Calls Tryz.prog 110 #[.agg #[.bool m, .slice p n c], .agg #[.bool (!m), .slice q k c']] w (NPost (sv m a + sv (!m) b) (max n k + 1) w) := by
  have HA := Lib.hid ha; clear ha
  have HB := Lib.hid hb; clear hb
  go_enter Tryz.func110, Tryz.ntmps110
  go_upto_region 1 with (fail)
  obtain ⟨w3, hw3, T⟩ := three_new w (.bool m) (.slice p n c) (.bool (!m)) (.slice q k c') (.bool false) (.slice none 0 0)
  rw [← hw3]
  clear hw3
  have c0 := T.t0.c0; have c1 := T.t0.c1; have c2 := T.t1.c0; have c3 := T.t1.c1
  have HA3 := Lib.hid (HA.out.below T.below)
  have HB3 := Lib.hid (HB.out.below T.below)
  have HP := Lib.hid (fun (w' : World) (e : Below w3.heap.size w3 w') => minus_any q p k n c' c b a w' (HB3.out.below e) (HA3.out.below e) hk (by omega))
  have HLS := Lib.hid (fun (w' : World) (e : Below w3.heap.size w3 w') => less_any p q n k c c' a b w' (HA3.out.below e) (HB3.out.below e))
  have HLE := Lib.hid (show decide (val a < val b) = true from by simp; omega)
  have hneq : (m == !m) = false := by cases m <;> rfl
  have HT := Lib.hid T; clear T
  clear hlt
  go_upto_region 4 with (go_at_call 78; refine (HLS.out _ (Below.refl _ _)).mono ?_; rintro e w1 ⟨rfl, rfl⟩; rw [HLE.out])
  go_region_with ((go_at_call 83; refine (HP.out _ ?_).mono ?_; exact (Below.refl _ _).drew; rintro e w5 ⟨_, l, rfl, ⟨⟨pp, nn, cc, rfl, hrd, hfr⟩, hbel⟩, hv, hlen⟩; have HV := Lib.hid hv; clear hv; have HL := Lib.hid hlen; clear hlen; have HRD := Lib.hid hrd; clear hrd; have HFR := Lib.hid hfr; clear hfr; have T5 := Lib.hid (HT.out.later hbel); clear hbel; have d0 := T5.out.t0.c0; have d1 := T5.out.t0.c1; have d2 := T5.out.t1.c0; have d3 := T5.out.t1.c1; have d4 := T5.out.t2.c0; have d5 := T5.out.t2.c1; have d6 := T5.out.t2.f0; have d7 := T5.out.t2.f1))
  all_goals
    obtain ⟨e0, e1, hrd6, hb6⟩ := n_end T5.out (.bool (!m)) HRD.out (fun x hx => by have := HFR.out x hx; have := HT.out.size; simp at *; omega)
    go_wp2
    refine bodyPost_ret (v := .agg #[.bool (!m), .slice pp nn cc]) (by simp [results, Tryz.results110, go_sem, e0, e1]) rfl ⟨!m, pp, nn, cc, l, rfl, hrd6, ?_, ?_, hb6⟩
    · rw [sv_sub' m a b (by have := HLE.out; simp at this; omega), ← HV.out]; rfl
    · have := HL.out; have := HRD.out.len; omega

theorem Plus_any (m m' : Bool) (p q : Option Addr) (n k c c' : Nat) (a b : List Nat) (w : World) (ha : Rd w p n c a) (hb : Rd w q k c' b) (hn : n ≤ 900) (hk : k ≤ 900) :
    Calls Tryz.prog 110 #[.agg #[.bool m, .slice p n c], .agg #[.bool m', .slice q k c']] w (NPost (sv m a + sv m' b) (max n k + 1) w) := by
  by_cases h : m' = m
  · subst h; exact plus_same _ p q n k c c' a b w ha hb hn hk
  · obtain rfl : m' = !m := by cases m <;> cases m' <;> simp_all
    by_cases h2 : val a < val b
    · exact plus_less m p q n k c c' a b w ha hb hk h2
    · exact plus_more m p q n k c c' a b w ha hb hn (by omega)
end Go.Proofs.YtbbhcbpfffabpaaGreatDoor.T1

/- Contracts of the document's answers for numbers: products. -/
namespace Go.Proofs.YtbbhcbpfffabpaaGreatDoor.T1
open Go.Proofs.YtbbhcbpfffabpaaGreatDoor Go.Proofs
open Go.RowKit

theorem ints_zeros (i : Nat) : ints (List.replicate i 0) = List.replicate i (.int .i64 0) := by simp [ints]

theorem Three.after {w w3 w5 : World} {x0 y0 x1 y1 x2 y2 : Value} (h : Three w w3 x0 y0 x1 y1 x2 y2) (hb' : Below w3.heap.size w3 w5) : Later w w5 x0 y0 x1 y1 x2 y2 := by
  have hs := h.size
  have hz := hb'.size
  exact ⟨h.t0.below hb' (by omega), h.t1.below hb' (by omega), h.t2.below hb' (by omega), h.below.trans (hb'.mono (by omega)), by omega⟩

theorem Later.after {w w3 w5 : World} {x0 y0 x1 y1 x2 y2 : Value} (h : Later w w3 x0 y0 x1 y1 x2 y2) (hb' : Below w3.heap.size w3 w5) : Later w w5 x0 y0 x1 y1 x2 y2 := by
  have hs := h.size
  have hz := hb'.size
  exact ⟨h.t0.below hb' (by omega), h.t1.below hb' (by omega), h.t2.below hb' (by omega), h.below.trans (hb'.mono (by omega)), by omega⟩

theorem sv_mul (m m' : Bool) (a b : List Nat) : sv m a * sv m' b = if !(m == m') then -((val a * val b : Nat) : Int) else ((val a * val b : Nat) : Int) := by
  cases m <;> cases m' <;> simp [sv, Int.mul_neg, Int.neg_mul]

theorem made_size (i : Nat) : (madeCells #[Value.int .i64 0] i).size = i := by
  simp [madeCells]
theorem made_ints (i : Nat) : (madeCells #[Value.int .i64 0] i).toList = ints (List.replicate i 0) := by
  rw [toList_madeCells_one, ints_zeros]

def RowDone (wr wx : World) (i k z : Nat) (v : Value) : Prop :=
  ∃ (lr : List Nat) (kk : Nat), wx.ownsRow wr.heap.size 3 1 v (i + kk) (ints (List.replicate i 0 ++ lr)) ∧ Below wr.heap.size wr wx ∧ lr.length = kk ∧ Dl lr ∧ val lr = z ∧ kk ≤ k + 1

structure TI (w wr : World) (m m' : Bool) (p q : Option Addr) (n k c c' : Nat) (a b : List Nat) (v : Value) (i : Nat) : Prop where
  later : Later w wr (.bool m) (.slice p n c) (.bool m') (.slice q k c') (.bool false) (.slice none 0 0)
  out : ∃ r s t l, v = .slice r s t ∧ Rd wr r s t l ∧ (∀ x, r = some x → w.heap.size + 3 ≤ x.block) ∧ val l = pre a i * val b ∧ s ≤ k + 2 * i + 2

theorem times_digit {x y cy d c2 : Nat} (hx : x < 10) (hy : y < 10) (hcy : cy ≤ 8) (hd : d = (cy + x * y) % 10) (hc : c2 = (cy + x * y) / 10) : cy + x * y ≤ 89 ∧ d < 10 ∧ c2 ≤ 8 ∧ cy + x * y = d + 10 * c2 := by
  have h : x * y ≤ 9 * 9 := Nat.mul_le_mul (by omega) (by omega)
  refine ⟨?_, ?_, ?_, ?_⟩ <;> omega

set_option maxRecDepth 100000 in
set_option maxHeartbeats 1000000 in
theorem times_loop (m m' : Bool) (p q : Option Addr) (n k c c' : Nat) (a b : List Nat) (w : World) (ha : Rd w p n c a) (hb : Rd w q k c' b) (hn : n ≤ 100) (hk : k ≤ 100) :
    Calls Tryz.prog 50 #[.agg #[.bool m, .slice p n c], .agg #[.bool m', .slice q k c']] w (NPost (sv m a * sv m' b) (k + 2 * n + 2) w) := by
  have hcn := ha.cap
  have HA := Lib.hid ha; clear ha
  have HB := Lib.hid hb; clear hb
  have hmk := fun (i : Nat) (w : World) => run_make_row' (P := Tryz.prog) 60 3 (.int .i64 0) 8 Tryz.underlying60 info_int rfl
  have HMK := Lib.hid hmk; clear hmk
  obtain ⟨w3, hw3, T⟩ := three_new w (.bool m) (.slice p n c) (.bool m') (.slice q k c') (.bool false) (.slice none 0 0)
  have hs3 := T.size
  have HT := Lib.hid T; clear T
  have HW3 := Lib.hid hw3; clear hw3
  have HS3 := Lib.hid hs3; clear hs3
  go_enter Tryz.func50, Tryz.ntmps50
  go_upto_region 1 with (fail)
  rw [← HW3.out]
  clear HW3
  go_wp2_with fail
  go_loopw [5, 6] (fun v z wr => ∃ i : Nat, z = .int .i64 i ∧ i ≤ n ∧ Hid (TI w wr m m' p q n k c c' a b v i)) (fun _ z _ => n - (intOf z).toNat)
  case atStart =>
    refine ⟨0, rfl, by omega, Lib.hid ⟨HT.out.after ((Below.refl _ _).alloc (Nat.le_refl _) _), _, 0, 0, [], rfl, ⟨rfl, by omega, by omega, Dl.nil, fun h => by simp at h, Or.inl rfl⟩, ?_, by simp [val, pre], by omega⟩⟩
    intro x hx
    have := HS3.out
    injection hx with hx
    subst hx
    simp; omega
  case round =>
    obtain ⟨i, rfl, hi, hti⟩ := hrel
    obtain ⟨wo, rfl⟩ : ∃ wo : World, wo = wr := ⟨_, rfl⟩
    obtain ⟨later, r, s, t, l, rfl, hrd, hfr, hval, hsz⟩ := hti.out
    have c0 := later.t0.c0; have c1 := later.t0.c1; have c2 := later.t1.c0; have c3 := later.t1.c1
    have HL := Lib.hid later; clear later
    have HRD := Lib.hid hrd; clear hrd
    have HFR := Lib.hid hfr; clear hfr
    have HV := Lib.hid hval; clear hval
    by_cases hin : i < n
    · rcases HA.out.cells with hx | ⟨ba, off, rfl, hlt, hx⟩
      · exfalso
        have := HA.out.len
        rw [hx] at this; simp at this; omega
      obtain ⟨x, hxe⟩ : ∃ x, x = a.getD i 0 := ⟨_, rfl⟩
      have hx9 : x < 10 := by rw [hxe]; exact HA.out.digs.getD i
      have hcell : w.cell? ⟨ba, off + i, none⟩ = some (.int .i64 (x : Int)) := by rw [hxe]; exact hx i (by have := HA.out.len; omega)
      have HCELL := Lib.hid hcell; clear hcell hx
      have HX := Lib.hid hxe; clear hxe
      have hmki := fun (w : World) => run_make_row' (P := Tryz.prog) 60 3 (.int .i64 0) 8 Tryz.underlying60 info_int rfl .i64 .i64 i (by omega) (by omega) w
      have hrow := World.ownsRow_lit (base := wo.heap.size) (e := 3) (size := 1) wo (madeCells #[.int .i64 0] i) i (Nat.le_refl _) (by simp only [maxLen]; omega) (by rw [made_size]; simp)
      rw [made_ints] at hrow
      have HROW := Lib.hid hrow; clear hrow
      go_upto_block 2 with (fail)
      clear hmki
      go_cut [7] (fun v wx => RowDone wo wx i k (x * val b) v)
      case first =>
        go_wp2_with fail
        go_loopw [7, 8, 9] (fun v y z wr => ∃ (lr : List Nat) (cy kk : Nat), y = .int .i64 cy ∧ z = .int .i64 kk ∧ wr.ownsRow wo.heap.size 3 1 v (i + kk) (ints (List.replicate i 0 ++ lr)) ∧ Below wo.heap.size wo wr ∧ Hid (lr.length = kk ∧ Dl lr ∧ val lr + 10 ^ kk * cy = x * pre b kk) ∧ cy ≤ 8 ∧ kk ≤ k + 1 ∧ (kk ≤ k ∨ cy ≤ 0)) (fun _ _ z _ => 102 - (intOf z).toNat)
        case atStart => exact ⟨[], 0, 0, rfl, rfl, by simpa using HROW.out, (Below.refl _ _).alloc (Nat.le_refl _) _, Lib.hid ⟨rfl, Dl.nil, by simp [val, pre]⟩, by omega, by omega, by omega⟩
        case round =>
          obtain ⟨lr, cy, kk, rfl, rfl, hown, hbel, hinv, hcy, hkk, hkc⟩ := hrel
          have HOWN := Lib.hid hown; clear hown
          have HBEL := Lib.hid hbel; clear hbel
          have HLI := Lib.hid (HL.out.after HBEL.out)
          clear c0 c1 c2 c3
          have c0 := HLI.out.t0.c0; have c1 := HLI.out.t0.c1; have c2 := HLI.out.t1.c0; have c3 := HLI.out.t1.c1
          by_cases hgo : kk < k ∨ 0 < cy
          · obtain ⟨y, hye⟩ : ∃ y, y = b.getD kk 0 := ⟨_, rfl⟩
            have hy9 : y < 10 := by rw [hye]; exact HB.out.digs.getD kk
            have hyk : kk < k ∨ y ≤ 0 := by
              rcases Nat.lt_or_ge kk k with h | h
              · exact Or.inl h
              · have := HB.out.len
                rw [hye, List.getD_eq_getElem?_getD, List.getElem?_eq_none (by omega)]
                exact Or.inr (by simp)
            have HYK := Lib.hid hyk; clear hyk
            have CB := Lib.hid (show ∀ w', Below w.heap.size w w' → Calls Tryz.prog 79 #[.slice q k c', .int .i64 (kk : Int)] w' fun e w'' => e = .returned (.int .i64 (y : Int)) ∧ w' = w'' from fun w' e => by rw [hye]; exact digit_any q k c' b kk w' (by omega) (HB.out.below e))
            have HY := Lib.hid hye; clear hye
            have hcell : wr.cell? ⟨ba, off + i, none⟩ = some (.int .i64 (x : Int)) := by
              rw [HLI.out.below.cell (p := ⟨ba, off + i, none⟩) hlt]; exact HCELL.out
            obtain ⟨pm, hpm⟩ : ∃ pm, pm = x * y := ⟨_, rfl⟩
            have hpm81 : pm ≤ 81 := by rw [hpm]; exact Nat.mul_le_mul (by omega : x ≤ 9) (by omega : y ≤ 9)
            have hmul : (x : Int) * y = pm := by rw [hpm]; simp
            have hmw : IntKind.i64.wrap ((x : Int) * y) = pm := by rw [hmul]; exact IntWalk.i64_in _ (by omega)
            have hsw : IntKind.i64.wrap ((cy : Int) + pm) = (cy : Int) + pm := IntWalk.i64_in _ (by omega)
            have HPM := Lib.hid hpm; clear hpm
            go_upto_region 7 with (fail)
            go_cut [28] (fun b wx => b = .bool true ∧ wx = wr)
            case first =>
              rcases (show kk < k ∨ (k ≤ kk ∧ 0 < cy) from by omega) with h | ⟨h, h'⟩
              all_goals
                clear hgo
                go_wp2_with fail
                go_meet
                exact ⟨rfl, rfl⟩
            case rest =>
              obtain ⟨rfl, hwe⟩ := hcut
              subst hwe
              go_step
              go_upto_region 9 with (fail)
              go_cut [8] (fun c wx => c = .int .i64 ((cy : Int) + pm) ∧ ∃ nq, wx = wc.drewN nq)
              case first =>
                go_quiet ((go_at_call 79; exact quiet_read (CB.out _ (Below.drewN' HLI.out.below _))))
                all_goals
                  go_wp2_with fail
                  go_meet
                  exact ⟨rfl, _, rfl⟩
              case rest =>
                obtain ⟨rfl, nq, hwe2⟩ := hcut
                subst hwe2
                clear hmul hmw hsw
                have HOW2 := Lib.hid (show (wc.drewN nq).ownsRow wo.heap.size 3 1 u7 (i + kk) (ints (List.replicate i 0 ++ lr)) from HOWN.out)
                have HBE2 := Lib.hid (Below.drewN' HBEL.out nq)
                obtain ⟨d, hd⟩ : ∃ d, d = (cy + pm) % 10 := ⟨_, rfl⟩
                obtain ⟨c2, hc2⟩ : ∃ c2, c2 = (cy + pm) / 10 := ⟨_, rfl⟩
                have hd2 : ((cy : Int) + pm) % 10 = d := by omega
                have hq2 : ((cy : Int) + pm) / 10 = c2 := by omega
                have HD2 := Lib.hid hd2; clear hd2
                have HQ2 := Lib.hid hq2; clear hq2
                have hsum : cy + pm = d + 10 * c2 := by omega
                have hd9 : d < 10 := by omega
                have hc8 : c2 ≤ 8 := by omega
                have hkk1 : kk ≤ k := by omega
                have hkc2 : kk + 1 ≤ k ∨ c2 ≤ 0 := by
                  rcases HYK.out with h | h
                  · exact Or.inl h
                  · have hz : pm = 0 := by rw [HPM.out, show y = 0 from by omega, Nat.mul_zero]
                    exact Or.inr (by omega)
                have HKC := Lib.hid hkc2; clear hkc2
                have HSUM := Lib.hid hsum; clear hsum
                clear hd hc2
                go_step
                go_wp2_with (at_builtin; refine wp_append_digit rfl _ _ rfl wo (wc.drewN nq) u7 (i + kk) (List.replicate i 0 ++ lr) _ d rfl HOW2.out rfl HD2.out (by omega) HBE2.out ?_; intro v' w' hown' hbel')
                go_roundw
                case rel =>
                  refine ⟨lr ++ [d], c2, kk + 1, congrArg _ HQ2.out, by go_num, ?_, hbel'.out, Lib.hid ?_, hc8, by omega, HKC.out⟩
                  · have := hown'.out
                    rw [List.append_assoc] at this
                    exact this
                  · obtain ⟨h1, h2, h3⟩ := hinv.out
                    refine ⟨by simp; omega, h2.append (Dl.one hd9), ?_⟩
                    have h4 := HSUM.out
                    have e2 : 10 ^ kk * (cy + pm) = 10 ^ kk * (d + 10 * c2) := by rw [h4]
                    rw [val_append, pre_succ, ← HY.out, h1, Nat.pow_succ, Nat.mul_add x, ← h3, HPM.out] at *
                    rw [Nat.mul_left_comm x (10 ^ kk) y]
                    simp only [val, Nat.mul_add, Nat.mul_zero, Nat.add_zero] at e2 ⊢
                    rw [Nat.mul_assoc (10 ^ kk) 10 c2]
                    omega
                case measure => simp [intOf]; omega
          · obtain rfl : cy = 0 := by omega
            have hkk2 : k ≤ kk := by omega
            have hv : val lr = x * val b := by
              obtain ⟨h1, h2, h3⟩ := hinv.out
              rw [pre_all b kk (by have := HB.out.len; omega)] at h3
              simpa using h3
            have HVV := Lib.hid hv; clear hv hgo
            go_wp2_with fail
            go_meet
            exact ⟨lr, kk, HOWN.out, HBEL.out, hinv.out.1, hinv.out.2.1, HVV.out, hkk⟩
      case rest =>
        obtain ⟨lr, kk, hown, hbel, hlen, hdl, hvl, hkk⟩ := hcut
        obtain ⟨rp, rc, rfl, hrr, hrf⟩ := own_rd hown (by simp [hlen]) ((Dl.zeros i).append hdl) (by omega)
        have HBW := Lib.hid hbel
        have HRR := Lib.hid hrr; clear hrr
        have HRS := Lib.hid (HRD.out.below hbel)
        have HLW := Lib.hid (HL.out.after hbel); clear hbel
        have hvr : val (List.replicate i 0 ++ lr) = 10 ^ i * (x * val b) := by
          rw [val_append, val_zeros, List.length_replicate, hvl]; omega
        have HVR := Lib.hid hvr; clear hvr hvl hdl hlen hown hrf
        go_step
        go_wp2_with fail
        refine (plus_any r rp s (i + kk) t rc l _ _ HRS.out HRR.out (by omega) (by omega)).mono ?_
        rintro e w5 ⟨_, l2, rfl, ⟨⟨pp, nn, cc, rfl, hrd2, hfr2⟩, hb2⟩, hv2, hl2⟩
        have HRD2 := Lib.hid hrd2; clear hrd2
        have HFR2 := Lib.hid hfr2; clear hfr2
        have HB2 := Lib.hid hb2; clear hb2
        have HV2 := Lib.hid hv2; clear hv2
        have HL2 := Lib.hid hl2; clear hl2
        go_wp2_with fail
        go_roundw
        case rel =>
          refine ⟨i + 1, by go_num, by omega, Lib.hid ⟨HLW.out.after HB2.out, pp, nn, cc, l2, rfl, HRD2.out, ?_, ?_, ?_⟩⟩
          · intro z hz
            have h1 := HFR2.out z hz
            have h2 := HLW.out.size
            omega
          · rw [HV2.out, HV.out, HVR.out, pre_succ, ← HX.out, Nat.add_mul, Nat.mul_assoc]
          · have h1 := HL2.out
            have h2 := HRD2.out.len
            omega
        case measure => simp [intOf]; omega
    · obtain rfl : i = n := by omega
      have hvl : val l = val a * val b := by rw [HV.out, pre_all a i (by have := HA.out.len; omega)]
      have HVL := Lib.hid hvl; clear hvl
      have HTR := Lib.hid (fun (w' : World) (e : Below wo.heap.size wo w') => trim_any r s t l w' (HRD.out.below e))
      clear hin hti
      have d4 := HL.out.t2.c0; have d5 := HL.out.t2.c1; have d6 := HL.out.t2.f0; have d7 := HL.out.t2.f1
      go_upto_region 12 with (fail)
      go_region_with ((go_at_call 81; refine (HTR.out _ ?_).mono ?_; exact (Below.refl _ _).drew; rintro e w5 ⟨j, hj, rfl, hvj, _, rfl⟩; have HVJ := Lib.hid hvj; clear hvj))
      all_goals
        obtain ⟨e0, e1, hrd6, hb6⟩ := n_end HL.out (.bool (!(m == m'))) (HRD.out.take hj) (fun x hx => by have := HFR.out x hx; omega)
        go_wp2
        refine bodyPost_ret (v := .agg #[.bool (!(m == m')), .slice r j t]) (by simp [results, Tryz.results50, go_sem, e0, e1]) rfl ⟨!(m == m'), r, j, t, l.take j, rfl, hrd6.drewN 1, ?_, ?_, Below.drewN' hb6 1⟩
        · rw [sv_mul, ← HVL.out, ← HVJ.out]; rfl
        · omega
end Go.Proofs.YtbbhcbpfffabpaaGreatDoor.T1
