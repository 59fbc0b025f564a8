/- Contracts of the document's answers for numbers: sums of numbers with two signs. -/
import Derived.Test.YtghbhaoogcgbfaaRefE
namespace Go.Proofs.Ytghbhaoogcgbfaa
open Go.RowKit

theorem sv_sub (m : Bool) (a b : List Nat) (h : val b ≤ val a) : sv m a + sv (!m) b = if m then -((val a - val b : Nat) : Int) else ((val a - val b : Nat) : Int) := by
  cases m <;> simp [sv] <;> omega
theorem sv_sub' (m : Bool) (a b : List Nat) (h : val a ≤ val b) : sv m a + sv (!m) b = if !m then -((val b - val a : Nat) : Int) else ((val b - val a : Nat) : Int) := by
  cases m <;> simp [sv] <;> omega

set_option maxHeartbeats 1000000 in
theorem plus_more (m : Bool) (p q : Option Addr) (n k c c' : Nat) (a b : List Nat) (w : World) (ha : Rd w p n c a) (hb : Rd w q k c' b) (hn : n ≤ 900) (hle : val b ≤ val a) :
    Calls Try.prog 33 #[.agg #[.bool m, .slice p n c], .agg #[.bool (!m), .slice q k c']] w (NPost (sv m a + sv (!m) b) (max n k + 1) w) := by
  have HA := Lib.hid ha; clear ha
  have HB := Lib.hid hb; clear hb
  go_enter Try.func33, Try.ntmps33
  go_upto_region 1 with (fail)
  obtain ⟨w3, hw3, T⟩ := three_new w (.bool m) (.slice p n c) (.bool (!m)) (.slice q k c') (.bool false) (.slice none 0 0)
  rw [← hw3]
  clear hw3
  have c0 := T.t0.c0; have c1 := T.t0.c1; have c2 := T.t1.c0; have c3 := T.t1.c1
  have HA3 := Lib.hid (HA.out.below T.below)
  have HB3 := Lib.hid (HB.out.below T.below)
  have HP := Lib.hid (fun (w' : World) (e : Below w3.heap.size w3 w') => minus_any p q n k c c' a b w' (HA3.out.below e) (HB3.out.below e) hn hle)
  have HLS := Lib.hid (fun (w' : World) (e : Below w3.heap.size w3 w') => less_any p q n k c c' a b w' (HA3.out.below e) (HB3.out.below e))
  have HLE := Lib.hid (show decide (val a < val b) = false from by simp; omega)
  have hneq : (m == !m) = false := by cases m <;> rfl
  have HT := Lib.hid T; clear T
  clear hle
  go_upto_region 5 with (go_at_call 47; refine (HLS.out _ (Below.refl _ _)).mono ?_; rintro e w1 ⟨rfl, rfl⟩; rw [HLE.out])
  go_region_with ((go_at_call 49; refine (HP.out _ ?_).mono ?_; exact (Below.refl _ _).drew; rintro e w5 ⟨_, l, rfl, ⟨⟨pp, nn, cc, rfl, hrd, hfr⟩, hbel⟩, hv, hlen⟩; have HV := Lib.hid hv; clear hv; have HL := Lib.hid hlen; clear hlen; have HRD := Lib.hid hrd; clear hrd; have HFR := Lib.hid hfr; clear hfr; have T5 := Lib.hid (HT.out.later hbel); clear hbel; have d0 := T5.out.t0.c0; have d1 := T5.out.t0.c1; have d2 := T5.out.t1.c0; have d3 := T5.out.t1.c1; have d4 := T5.out.t2.c0; have d5 := T5.out.t2.c1; have d6 := T5.out.t2.f0; have d7 := T5.out.t2.f1))
  all_goals
    obtain ⟨e0, e1, hrd6, hb6⟩ := n_end T5.out (.bool m) HRD.out (fun x hx => by have := HFR.out x hx; have := HT.out.size; simp at *; omega)
    go_wp2
    refine bodyPost_ret (v := .agg #[.bool m, .slice pp nn cc]) (by simp [results, Try.results33, go_sem, e0, e1]) rfl ⟨m, pp, nn, cc, l, rfl, hrd6, ?_, ?_, hb6⟩
    · rw [sv_sub m a b (by have := HLE.out; simpa using this), ← HV.out]; rfl
    · have := HL.out; have := HRD.out.len; omega

set_option maxHeartbeats 1000000 in
theorem plus_less (m : Bool) (p q : Option Addr) (n k c c' : Nat) (a b : List Nat) (w : World) (ha : Rd w p n c a) (hb : Rd w q k c' b) (hk : k ≤ 900) (hlt : val a < val b) :
    Calls Try.prog 33 #[.agg #[.bool m, .slice p n c], .agg #[.bool (!m), .slice q k c']] w (NPost (sv m a + sv (!m) b) (max n k + 1) w) := by
  have HA := Lib.hid ha; clear ha
  have HB := Lib.hid hb; clear hb
  go_enter Try.func33, Try.ntmps33
  go_upto_region 1 with (fail)
  obtain ⟨w3, hw3, T⟩ := three_new w (.bool m) (.slice p n c) (.bool (!m)) (.slice q k c') (.bool false) (.slice none 0 0)
  rw [← hw3]
  clear hw3
  have c0 := T.t0.c0; have c1 := T.t0.c1; have c2 := T.t1.c0; have c3 := T.t1.c1
  have HA3 := Lib.hid (HA.out.below T.below)
  have HB3 := Lib.hid (HB.out.below T.below)
  have HP := Lib.hid (fun (w' : World) (e : Below w3.heap.size w3 w') => minus_any q p k n c' c b a w' (HB3.out.below e) (HA3.out.below e) hk (by omega))
  have HLS := Lib.hid (fun (w' : World) (e : Below w3.heap.size w3 w') => less_any p q n k c c' a b w' (HA3.out.below e) (HB3.out.below e))
  have HLE := Lib.hid (show decide (val a < val b) = true from by simp; omega)
  have hneq : (m == !m) = false := by cases m <;> rfl
  have HT := Lib.hid T; clear T
  clear hlt
  go_upto_region 4 with (go_at_call 47; refine (HLS.out _ (Below.refl _ _)).mono ?_; rintro e w1 ⟨rfl, rfl⟩; rw [HLE.out])
  go_region_with ((go_at_call 49; refine (HP.out _ ?_).mono ?_; exact (Below.refl _ _).drew; rintro e w5 ⟨_, l, rfl, ⟨⟨pp, nn, cc, rfl, hrd, hfr⟩, hbel⟩, hv, hlen⟩; have HV := Lib.hid hv; clear hv; have HL := Lib.hid hlen; clear hlen; have HRD := Lib.hid hrd; clear hrd; have HFR := Lib.hid hfr; clear hfr; have T5 := Lib.hid (HT.out.later hbel); clear hbel; have d0 := T5.out.t0.c0; have d1 := T5.out.t0.c1; have d2 := T5.out.t1.c0; have d3 := T5.out.t1.c1; have d4 := T5.out.t2.c0; have d5 := T5.out.t2.c1; have d6 := T5.out.t2.f0; have d7 := T5.out.t2.f1))
  all_goals
    obtain ⟨e0, e1, hrd6, hb6⟩ := n_end T5.out (.bool (!m)) HRD.out (fun x hx => by have := HFR.out x hx; have := HT.out.size; simp at *; omega)
    go_wp2
    refine bodyPost_ret (v := .agg #[.bool (!m), .slice pp nn cc]) (by simp [results, Try.results33, go_sem, e0, e1]) rfl ⟨!m, pp, nn, cc, l, rfl, hrd6, ?_, ?_, hb6⟩
    · rw [sv_sub' m a b (by have := HLE.out; simp at this; omega), ← HV.out]; rfl
    · have := HL.out; have := HRD.out.len; omega

theorem Plus_any (m m' : Bool) (p q : Option Addr) (n k c c' : Nat) (a b : List Nat) (w : World) (ha : Rd w p n c a) (hb : Rd w q k c' b) (hn : n ≤ 900) (hk : k ≤ 900) :
    Calls Try.prog 33 #[.agg #[.bool m, .slice p n c], .agg #[.bool m', .slice q k c']] w (NPost (sv m a + sv m' b) (max n k + 1) w) := by
  by_cases h : m' = m
  · subst h; exact plus_same _ p q n k c c' a b w ha hb hn hk
  · obtain rfl : m' = !m := by cases m <;> cases m' <;> simp_all
    by_cases h2 : val a < val b
    · exact plus_less m p q n k c c' a b w ha hb hk h2
    · exact plus_more m p q n k c c' a b w ha hb hn (by omega)
end Go.Proofs.Ytghbhaoogcgbfaa
