/- Merged by program: New7, Spans, Add, Bytes, Member, Named. -/
import Derived.StillTailTactics
import Derived.Test.YtcojnkjcbopnbaaGreatDoorQjau
import Derived.Test.YtcojnkjcbopnbaaGreatDoorQjap
import Derived.Test.YtcojnkjcbopnbaaGreatDoorQjaa
import Derived.Test.YtcojnkjcbopnbaaGreatDoorQjac
import Derived.Test.YtcojnkjcbopnbaaGreatDoorQjab
/- match.New: a walk. -/
namespace Go.Proofs.YtcojnkjcbopnbaaGreatDoor
open Go.RowKit

/-- What New tells. -/
def NewOut (w : World) (s : ByteArray) (Q : Tree → Int → Prop) (R : Bool → Prop) (e : Ending) (w' : World) : Prop :=
  ∃ t x, Q t x ∧ Below w.heap.size w w' ∧ ((x ≠ 0 ∧ ∃ a : Int, e = .returned (.tuple #[.pointer none, .int .i64 a, .int .i64 x])) ∨
    (x = 0 ∧ (R false ∨ 500 ≤ (planN 101 t).n) ∧ ∃ y : Int, y ≠ 0 ∧ e = .returned (.tuple #[.pointer none, .int .i64 0, .int .i64 y])) ∨
    (x = 0 ∧ R true ∧ (planN 101 t).n < 500 ∧ Good 101 (-1) t ∧ ∃ pp sv, e = .returned (.tuple #[.pointer (some ⟨pp, 0, none⟩), .int .i64 0, .int .i64 0]) ∧ w.heap.size ≤ pp ∧ PatM w' pp s (machN t).2 sv (machN t).1))

set_option maxRecDepth 100000 in
set_option maxHeartbeats 1000000 in
theorem new_gen (s : ByteArray) (Q : Tree → Int → Prop) (R : Bool → Prop) (w : World)
    (hP : Calls Tryz.prog 43 #[.string s] w fun e w' => ∃ t ds, ∃ a x : Int, e = .returned (.tuple #[.agg ds, .int .i64 a, .int .i64 x]) ∧ At w' (Up w.heap.size) t ds ∧ Hid (Q t x) ∧ Below w.heap.size w w')
    (hB : ∀ t x, Q t x → x = 0 → ∀ rs B W, At W B t rs → Calls Tryz.prog 44 #[.agg rs] W (BuildOut W t R)) :
    Calls Tryz.prog 28 #[.string s] w (NewOut w s Q R) := by
  have HP := Lib.hid hP
  have HB := Lib.hid hB
  have HI := info_re
  clear hP hB
  go_enter Tryz.func28, Tryz.ntmps28
  go_wp2_with fail
  refine HP.out.mono ?_
  rintro e w1 ⟨t, ds, pa, px, rfl, hat, hq, b1⟩
  obtain ⟨a, c, e, _⟩ := hat.opens
  subst e
  have HAT := Lib.hid hat
  have B1 := Lib.hid b1
  clear hat b1
  unfold reC
  go_upto_region 2 with (fail)
  obtain ⟨W, hW, hX, hB1, _⟩ := re_box w1 (reC t.k t.f t.lo t.hi (.slice a t.kids.length c))
  change Code.wp _ _ _ _ (w1.alloc (Obj.cells (reC t.k t.f t.lo t.hi (.slice a t.kids.length c)) 68))
  rw [← hW]
  clear hW
  have A2 := Lib.hid (HAT.out.after hB1.out)
  have B2 := Lib.hid (Below.step B1.out hB1.out)
  by_cases hx : px = 0
  rotate_left
  · have hx2 : (px == 0) = false := beq_eq_false_iff_ne.2 hx
    have HX := Lib.hid hx; clear hx
    go_wp2_with fail
    go_ret3
    exact ⟨t, px, hq.out, B2.out, Or.inl ⟨HX.out, pa, rfl⟩⟩
  · subst hx
    have HC := Lib.hid (HB.out t 0 hq.out rfl _ _ W A2.out)
    clear HB
    obtain ⟨c0, c1, c2, c3, c4, c5, c6, c7⟩ := eight_re hX.out.eight
    unfold reC at HC
    go_wp2_with fail
    refine HC.out.mono ?_
    rintro e w2 ⟨b, hb, ⟨rfl, rfl, b2⟩ | ⟨rfl, hn, rfl, b2⟩ | ⟨rfl, hn, hg, p, sv, rfl, hp, hm, b2⟩⟩
    · have HR := Lib.hid hb
      have B3 := Lib.hid (Below.step B2.out b2)
      clear hb b2 c0 c1 c2 c3 c4 c5 c6 c7
      go_wp2_with fail
      go_ret3
      exact ⟨t, 0, hq.out, B3.out, Or.inr (Or.inl ⟨rfl, Or.inl HR.out, 1, by decide, rfl⟩)⟩
    · have HN := Lib.hid hn
      have B3 := Lib.hid (Below.step B2.out b2)
      clear hb hn b2 c0 c1 c2 c3 c4 c5 c6 c7
      go_wp2_with fail
      go_ret3
      exact ⟨t, 0, hq.out, B3.out, Or.inr (Or.inl ⟨rfl, Or.inr HN.out, 2, by decide, rfl⟩)⟩
    · have HR := Lib.hid hb
      have HN := Lib.hid hn
      have HG := Lib.hid hg
      have HM := Lib.hid hm
      have B3 := Lib.hid (Below.step B2.out b2)
      obtain ⟨st, hst⟩ : ∃ st, st = (machN t).1 := ⟨_, rfl⟩
      obtain ⟨ss, hss⟩ : ∃ ss, ss = (machN t).2 := ⟨_, rfl⟩
      rw [← hst, ← hss] at HM
      have m0 := HM.out.c0; have m1 := HM.out.c1
      obtain ⟨ga, gc, rfl⟩ := HM.out.shape
      have hww := B3.out.size
      have HSt := Lib.hid hst
      have HSs := Lib.hid hss
      clear hb hn hg hm b2 c0 c1 c2 c3 c4 c5 c6 c7 hst hss
      go_wp2_with fail
      go_ret3
      have hbn := below_new w2 (.cells #[.string s, .slice ga ss.length gc, .int .i64 st] 89)
      refine ⟨t, 0, hq.out, Below.step B3.out hbn, Or.inr (Or.inr ⟨rfl, HR.out, HN.out, HG.out, w2.heap.size, .slice ga ss.length gc, rfl, hww, ?_⟩)⟩
      rw [← HSt.out, ← HSs.out]
      refine ⟨heap_alloc_last w2 _, ?_⟩
      have ho := owns_after HM.out.own hbn
      refine ⟨ho.1, ?_⟩
      rcases ho.2 with h0 | ⟨g', cap', cur, e, _, rest⟩
      · exact Or.inl h0
      · exact Or.inr ⟨g', cap', cur, e, Nat.zero_le _, rest⟩
end Go.Proofs.YtcojnkjcbopnbaaGreatDoor

/- class.spans: a walk. -/
namespace Go.Proofs.YtcojnkjcbopnbaaGreatDoor
open Go.RowKit

def spansOf (name : ByteArray) : ByteArray :=
  if (name.toList == [97, 108, 112, 104, 97]) = true then ⟨#[65, 90, 97, 122]⟩ else
  if (name.toList == [100, 105, 103, 105, 116]) = true then ⟨#[48, 57]⟩ else
  if (name.toList == [97, 108, 110, 117, 109]) = true then ⟨#[48, 57, 65, 90, 97, 122]⟩ else
  if (name.toList == [117, 112, 112, 101, 114]) = true then ⟨#[65, 90]⟩ else
  if (name.toList == [108, 111, 119, 101, 114]) = true then ⟨#[97, 122]⟩ else
  if (name.toList == [115, 112, 97, 99, 101]) = true then ⟨#[9, 13, 32, 32]⟩ else
  if (name.toList == [98, 108, 97, 110, 107]) = true then ⟨#[9, 9, 32, 32]⟩ else
  if (name.toList == [112, 117, 110, 99, 116]) = true then ⟨#[33, 47, 58, 64, 91, 96, 123, 126]⟩ else
  if (name.toList == [112, 114, 105, 110, 116]) = true then ⟨#[32, 126]⟩ else
  if (name.toList == [103, 114, 97, 112, 104]) = true then ⟨#[33, 126]⟩ else
  if (name.toList == [99, 110, 116, 114, 108]) = true then ⟨#[0, 31, 127, 127]⟩ else
  if (name.toList == [120, 100, 105, 103, 105, 116]) = true then ⟨#[48, 57, 65, 70, 97, 102]⟩ else
  ⟨#[]⟩

set_option maxRecDepth 100000 in
theorem spans_spec (name : ByteArray) (w : World) :
    Calls Tryz.prog 167 #[.string name] w fun e w' => e = .returned (.string (spansOf name)) ∧ w' = w := by
  go_enter Tryz.func167, Tryz.ntmps167
  cases h0 : (name.toList == [97, 108, 112, 104, 97])
  case true =>
    go_wp2_with fail
    go_ret
    exact ⟨by simp [spansOf, h0], rfl⟩
  cases h1 : (name.toList == [100, 105, 103, 105, 116])
  case true =>
    go_wp2_with fail
    go_ret
    exact ⟨by simp [spansOf, h0, h1], rfl⟩
  cases h2 : (name.toList == [97, 108, 110, 117, 109])
  case true =>
    go_wp2_with fail
    go_ret
    exact ⟨by simp [spansOf, h0, h1, h2], rfl⟩
  cases h3 : (name.toList == [117, 112, 112, 101, 114])
  case true =>
    go_wp2_with fail
    go_ret
    exact ⟨by simp [spansOf, h0, h1, h2, h3], rfl⟩
  cases h4 : (name.toList == [108, 111, 119, 101, 114])
  case true =>
    go_wp2_with fail
    go_ret
    exact ⟨by simp [spansOf, h0, h1, h2, h3, h4], rfl⟩
  cases h5 : (name.toList == [115, 112, 97, 99, 101])
  case true =>
    go_wp2_with fail
    go_ret
    exact ⟨by simp [spansOf, h0, h1, h2, h3, h4, h5], rfl⟩
  cases h6 : (name.toList == [98, 108, 97, 110, 107])
  case true =>
    go_wp2_with fail
    go_ret
    exact ⟨by simp [spansOf, h0, h1, h2, h3, h4, h5, h6], rfl⟩
  cases h7 : (name.toList == [112, 117, 110, 99, 116])
  case true =>
    go_wp2_with fail
    go_ret
    exact ⟨by simp [spansOf, h0, h1, h2, h3, h4, h5, h6, h7], rfl⟩
  cases h8 : (name.toList == [112, 114, 105, 110, 116])
  case true =>
    go_wp2_with fail
    go_ret
    exact ⟨by simp [spansOf, h0, h1, h2, h3, h4, h5, h6, h7, h8], rfl⟩
  cases h9 : (name.toList == [103, 114, 97, 112, 104])
  case true =>
    go_wp2_with fail
    go_ret
    exact ⟨by simp [spansOf, h0, h1, h2, h3, h4, h5, h6, h7, h8, h9], rfl⟩
  cases h10 : (name.toList == [99, 110, 116, 114, 108])
  case true =>
    go_wp2_with fail
    go_ret
    exact ⟨by simp [spansOf, h0, h1, h2, h3, h4, h5, h6, h7, h8, h9, h10], rfl⟩
  cases h11 : (name.toList == [120, 100, 105, 103, 105, 116])
  case true =>
    go_wp2_with fail
    go_ret
    exact ⟨by simp [spansOf, h0, h1, h2, h3, h4, h5, h6, h7, h8, h9, h10, h11], rfl⟩
  go_wp2_with fail
  go_ret
  exact ⟨by simp [spansOf, h0, h1, h2, h3, h4, h5, h6, h7, h8, h9, h10, h11], rfl⟩
end Go.Proofs.YtcojnkjcbopnbaaGreatDoor

/- class.Add: a walk. -/
namespace Go.Proofs.YtcojnkjcbopnbaaGreatDoor
open Go.RowKit

def addAt (g : Nat → Nat) (k : Nat) : Nat → Nat := fun j => if j = k / 64 then g (k / 64) ||| 2 ^ (k % 64) else g j
theorem pow_lt64 (k : Nat) : 2 ^ (k % 64) < 18446744073709551616 := Nat.pow_lt_pow_right (a := 2) (m := k % 64) (n := 64) (by decide) (by omega)
theorem fits_addAt {g : Nat → Nat} (hg : Fits g) (k : Nat) : Fits (addAt g k) := by
  intro j hj
  unfold addAt
  by_cases h : j = k / 64
  · rw [if_pos h]; exact Nat.or_lt_two_pow (n := 64) (hg _ (by omega)) (pow_lt64 k)
  · rw [if_neg h]; exact hg j hj
theorem bit_addAt (g : Nat → Nat) (k c : Nat) : bit (addAt g k) c = (bit g c || decide (c = k)) := by
  unfold bit addAt
  by_cases h : c / 64 = k / 64
  · rw [if_pos h, Nat.testBit_or, h, Nat.testBit_two_pow]
    congr 1
    exact decide_eq_decide.2 (by omega)
  · rw [if_neg h]
    have : ¬ c = k := by intro e; exact h (by rw [e])
    simp [this]
/-- The bytes from a up to below k, and those of f. -/
def Span (f g : Nat → Nat) (a k : Nat) : Prop := Fits g ∧ ∀ c, c < 256 → bit g c = (bit f c || (decide (a ≤ c) && decide (c < k)))
theorem span_zero {f : Nat → Nat} (hf : Fits f) (a : Nat) : Span f f a a := ⟨hf, fun c _ => by
  have : (decide (a ≤ c) && decide (c < a)) = false := by rw [← Bool.decide_and]; exact decide_eq_false (by omega)
  rw [this, Bool.or_false]⟩
theorem span_next {f g : Nat → Nat} {a k : Nat} (h : Span f g a k) (ha : a ≤ k) : Span f (addAt g k) a (k + 1) := by
  refine ⟨fits_addAt h.1 k, fun c hc => ?_⟩
  rw [bit_addAt, h.2 c hc, Bool.or_assoc]
  congr 1
  rw [← Bool.decide_and, ← Bool.decide_and, ← Bool.decide_or]
  exact decide_eq_decide.2 (by omega)

set_option maxRecDepth 100000 in
theorem add_spec (f : Nat → Nat) (hf : Fits f) (a b : Nat) (ha : a < 256) (hb : b < 256) (w : World) :
    Calls Tryz.prog 153 #[.agg (words f), .int .u8 a, .int .u8 b] w fun e w' => ∃ g, e = .returned (.agg (words g)) ∧ Hid (Span f g a (b + 1)) ∧ Below w.heap.size w w' := by
  go_enter Tryz.func153, Tryz.ntmps153
  go_wp2_with fail
  obtain ⟨W, hW, Q0, Q1, HB⟩ := boxed2 w f zero4 65 65
  change Code.wp _ _ _ _ ((w.alloc (Obj.cells (words f) 65)).alloc (Obj.cells (words zero4) 65))
  rw [← hW]
  clear hW
  go_loopw [7] (fun y wr => ∃ (k : Nat) (g : Nat → Nat), y = .int .i64 k ∧ a ≤ k ∧ (k ≤ b + 1 ∨ k = a) ∧ Hid (Span f g a k) ∧ Hid (Quad wr w.heap.size g) ∧ Hid (Quad wr (w.heap.size + 1) zero4) ∧ Hid (Below w.heap.size w wr)) (fun y _ => 257 - (intOf y).toNat)
  case atStart => exact ⟨a, f, by go_num, by omega, Or.inr rfl, Lib.hid (span_zero hf a), Q0, Q1, HB⟩
  case round =>
    obtain ⟨k, g, rfl, hak, hkb, hs, q0, q1, hB⟩ := hrel
    by_cases hgo : k ≤ b
    · have hk4 : k / 64 < 4 := by omega
      have hc := q0.out.c (k / 64) hk4
      have hz := q0.out.z (k / 64) hk4
      have hx : bits BinOp.or IntKind.u64 ((g (k / 64) : Nat) : Int) (IntKind.u64.wrap (2 ^ (k % 64))) = ((g (k / 64) ||| 2 ^ (k % 64) : Nat) : Int) := by
        have e : IntKind.u64.wrap (2 ^ (k % 64)) = ((2 ^ (k % 64) : Nat) : Int) := by
          obtain ⟨p, hp⟩ : ∃ p : Nat, p = 2 ^ (k % 64) := ⟨_, rfl⟩
          have hl : p < 18446744073709551616 := by rw [hp]; exact pow_lt64 k
          have e2 : ((2 : Int) ^ (k % 64)) = (p : Int) := by rw [hp]; push_cast; rfl
          rw [e2, ← hp, IntKind.wrap_u64]
          clear hp e2
          omega
        rw [e, bits_or_u64_nat _ _ (hs.out.1 _ hk4) (pow_lt64 k)]
      have HX := Lib.hid hx; clear hx
      go_wp2_with fail
      go_region
      all_goals
        go_wp2_with fail
        rw [HX.out]
        go_roundw
        case rel =>
          refine ⟨k + 1, addAt g k, by go_num, by omega, by omega, Lib.hid (span_next hs.out hak), Lib.hid ((((q0.out.after (below_drew _)).set hk4 _)).congr fun j hj => ?_), Lib.hid ((q1.out.after (below_drew _)).other (by omega) _), Lib.hid (hB.out.drew.setCell (by simp) _)⟩
          rfl
        case measure => simp [intOf]; omega
    · have hS : Span f g a (b + 1) := ⟨hs.out.1, fun c hc => by
        rw [hs.out.2 c hc]
        congr 1
        rw [← Bool.decide_and, ← Bool.decide_and]
        exact decide_eq_decide.2 (by omega)⟩
      have HS := Lib.hid hS; clear hS
      have c0 := q0.out.c 0 (by omega); have c1 := q0.out.c 1 (by omega); have c2 := q0.out.c 2 (by omega); have c3 := q0.out.c 3 (by omega)
      have z0 := q1.out.z 0 (by omega); have z1 := q1.out.z 1 (by omega); have z2 := q1.out.z 2 (by omega); have z3 := q1.out.z 3 (by omega)
      have y0 := q1.out.c 0 (by omega); have y1 := q1.out.c 1 (by omega); have y2 := q1.out.c 2 (by omega); have y3 := q1.out.c 3 (by omega)
      go_wp2_with fail
      obtain ⟨e0, e1, e2, e3⟩ := put4_reads q1.out g
      unfold put4 at e0 e1 e2 e3
      refine bodyPost_ret (v := .agg (words g)) (by simp [results, Tryz.results153, go_sem, e0, e1, e2, e3, words]) rfl ⟨g, rfl, HS, ?_⟩
      exact below_put4 hB.out (by omega) g
end Go.Proofs.YtcojnkjcbopnbaaGreatDoor

/- class.escaped, byteAt, goesOn: walks. -/
namespace Go.Proofs.YtcojnkjcbopnbaaGreatDoor
open Go.RowKit

set_option maxRecDepth 100000 in
theorem escaped_spec (c : Nat) (h1 : c ≠ 110) (h2 : c ≠ 116) (w : World) :
    Calls Tryz.prog 166 #[.int .u8 c] w fun e w' => e = .returned (.int .u8 c) ∧ w' = w := by
  go_enter Tryz.func166, Tryz.ntmps166
  go_wp2_with fail
  go_ret
  exact ⟨rfl, rfl⟩

set_option maxRecDepth 100000 in
theorem byteAt_plain (s : ByteArray) (k : Nat) (h : k < s.size) (hs : s.size ≤ 1152921504606846976) (hc : s[k].toNat ≠ 92) (w : World) :
    Calls Tryz.prog 163 #[.string s, .int .i64 k] w fun e w' => e = .returned (.tuple #[.int .u8 s[k].toNat, .int .i64 ((k + 1 : Nat) : Int), .int .i64 0]) ∧ w' = w := by
  go_enter Tryz.func163, Tryz.ntmps163
  go_wp2_with fail
  exact bodyPost_ret (v := .tuple #[.int .u8 s[k].toNat, .int .i64 ((k + 1 : Nat) : Int), .int .i64 0]) (by simp [results, Tryz.results163, go_sem]) rfl ⟨rfl, rfl⟩

set_option maxRecDepth 100000 in
theorem byteAt_esc (s : ByteArray) (k : Nat) (h : k + 1 < s.size) (hs : s.size ≤ 1152921504606846976) (hc : s[k].toNat = 92) (h1 : s[k + 1].toNat ≠ 110) (h2 : s[k + 1].toNat ≠ 116) (w : World) :
    Calls Tryz.prog 163 #[.string s, .int .i64 k] w fun e w' => e = .returned (.tuple #[.int .u8 s[k + 1].toNat, .int .i64 ((k + 2 : Nat) : Int), .int .i64 0]) ∧ w' = w := by
  have C := Lib.hid (fun w => escaped_spec s[k + 1].toNat h1 h2 w)
  go_enter Tryz.func163, Tryz.ntmps163
  go_wp2_with fail
  refine (C.out _).mono ?_
  rintro e w1 ⟨rfl, rfl⟩
  go_wp2_with fail
  exact bodyPost_ret (v := .tuple #[.int .u8 s[k + 1].toNat, .int .i64 ((k + 2 : Nat) : Int), .int .i64 0]) (by simp [results, Tryz.results163, go_sem]) rfl ⟨rfl, rfl⟩

theorem hp_spec (s p : ByteArray) (b : Bool) (h : Lib.hasPrefix s.data.toList p.data.toList = b) (w : World) :
    Calls Tryz.prog 157 #[.string s, .string p] w fun e w' => e = .returned (.bool b) ∧ w' = w := by
  rw [← h]; exact Tryz.strings_HasPrefix s p w

set_option maxRecDepth 100000 in
theorem goesOn_no (s : ByteArray) (h : Lib.hasPrefix s.data.toList [45] = false) (w : World) :
    Calls Tryz.prog 164 #[.string s] w fun e w' => e = .returned (.bool false) ∧ w' = w := by
  have C := Lib.hid (fun w => hp_spec s ⟨#[45]⟩ false h w)
  go_enter Tryz.func164, Tryz.ntmps164
  go_wp2_with fail
  refine (C.out _).mono ?_
  rintro e w1 ⟨rfl, rfl⟩
  go_wp2_with fail
  go_ret
  exact ⟨rfl, rfl⟩

set_option maxRecDepth 100000 in
theorem goesOn_yes (s : ByteArray) (h : Lib.hasPrefix s.data.toList [45] = true) (h1 : Lib.hasPrefix s.data.toList [45, 93] = false) (h2 : Lib.hasPrefix s.data.toList [45, 91, 58] = false) (w : World) :
    Calls Tryz.prog 164 #[.string s] w fun e w' => e = .returned (.bool true) ∧ w' = w := by
  have C := Lib.hid (fun w => hp_spec s ⟨#[45]⟩ true h w)
  have D := Lib.hid (fun w => hp_spec s ⟨#[45, 93]⟩ false h1 w)
  have E := Lib.hid (fun w => hp_spec s ⟨#[45, 91, 58]⟩ false h2 w)
  go_enter Tryz.func164, Tryz.ntmps164
  go_wp2_with fail
  refine (C.out _).mono ?_
  rintro e w1 ⟨rfl, rfl⟩
  go_wp2_with fail
  refine (D.out _).mono ?_
  rintro e w2 ⟨rfl, rfl⟩
  go_wp2_with fail
  refine (E.out _).mono ?_
  rintro e w3 ⟨rfl, rfl⟩
  go_wp2_with fail
  go_ret
  exact ⟨rfl, rfl⟩
end Go.Proofs.YtcojnkjcbopnbaaGreatDoor

/- class.member: walks. -/
namespace Go.Proofs.YtcojnkjcbopnbaaGreatDoor
open Go.RowKit

theorem quad_box (w : World) (f : Nat → Nat) (t : TypeId) : ∃ W, W = w.alloc (.cells (words f) t) ∧ Hid (Quad W w.heap.size f) ∧ Hid (Below w.heap.size w W) :=
  ⟨_, rfl, Lib.hid (quad_new w f t), Lib.hid (below_new _ _)⟩

set_option maxRecDepth 100000 in
theorem member_one (s : ByteArray) (k n c : Nat) (hk : k < s.size) (hn : k + n ≤ s.size) (hs : s.size ≤ 1152921504606846976) (hc : c < 256)
    (hB : ∀ w, Calls Tryz.prog 163 #[.string s, .int .i64 k] w fun e w' => e = .returned (.tuple #[.int .u8 c, .int .i64 ((k + n : Nat) : Int), .int .i64 0]) ∧ w' = w)
    (hP : Lib.hasPrefix (s.extract k s.size).data.toList [91, 58] = false)
    (hG : ∀ w, Calls Tryz.prog 164 #[.string (s.extract (k + n) s.size)] w fun e w' => e = .returned (.bool false) ∧ w' = w) (w : World) :
    Calls Tryz.prog 160 #[.string s, .int .i64 k] w fun e w' => ∃ g, e = .returned (.tuple #[.agg (words g), .int .i64 ((k + n : Nat) : Int), .int .i64 0]) ∧ Hid (Span zero4 g c (c + 1)) ∧ Below w.heap.size w w' := by
  have HB := Lib.hid hB; clear hB
  have HG := Lib.hid hG; clear hG
  have HP := Lib.hid (fun w => hp_spec (s.extract k s.size) ⟨#[91, 58]⟩ false hP w); clear hP
  have HA := Lib.hid (fun w => add_spec zero4 fits_zero c c hc hc w)
  have hi1 : (k : Int) + n ≤ s.size := by omega
  go_enter Tryz.func160, Tryz.ntmps160
  go_upto_region 1 with (fail)
  obtain ⟨W, hW, Q, HBe⟩ := quad_box w zero4 65
  change Code.wp _ _ _ _ (w.alloc (Obj.cells (words zero4) 65))
  rw [← hW]
  clear hW
  go_wp2_with fail
  refine (HP.out _).mono ?_
  rintro e w1 ⟨rfl, rfl⟩
  go_wp2_with fail
  refine (HB.out _).mono ?_
  rintro e w2 ⟨rfl, rfl⟩
  go_wp2_with fail
  refine (HG.out _).mono ?_
  rintro e w3 ⟨rfl, rfl⟩
  go_wp2_with fail
  refine (HA.out _).mono ?_
  rintro e w4 ⟨g, rfl, hS, b4⟩
  have Q4 := Lib.hid (Q.out.after b4)
  have B4 := Lib.hid (Below.step HBe.out b4)
  clear b4
  have z0 := Q4.out.z 0 (by omega); have z1 := Q4.out.z 1 (by omega); have z2 := Q4.out.z 2 (by omega); have z3 := Q4.out.z 3 (by omega)
  have y0 := Q4.out.c 0 (by omega); have y1 := Q4.out.c 1 (by omega); have y2 := Q4.out.c 2 (by omega); have y3 := Q4.out.c 3 (by omega)
  simp only [words]
  go_wp2_with fail
  obtain ⟨e0, e1, e2, e3⟩ := put4_reads Q4.out g
  unfold put4 at e0 e1 e2 e3
  exact bodyPost_ret (v := .tuple #[.agg (words g), .int .i64 ((k + n : Nat) : Int), .int .i64 0]) (by simp [results, Tryz.results160, go_sem, e0, e1, e2, e3, words]) rfl ⟨g, rfl, hS, below_put4 B4.out (by omega) g⟩

set_option maxRecDepth 100000 in
theorem member_range (s : ByteArray) (k a b : Nat) (hk : k + 3 ≤ s.size) (hs : s.size ≤ 1152921504606846976) (hab : a ≤ b) (hb : b < 256)
    (hB : ∀ w, Calls Tryz.prog 163 #[.string s, .int .i64 k] w fun e w' => e = .returned (.tuple #[.int .u8 a, .int .i64 ((k + 1 : Nat) : Int), .int .i64 0]) ∧ w' = w)
    (hP : Lib.hasPrefix (s.extract k s.size).data.toList [91, 58] = false)
    (hG : ∀ w, Calls Tryz.prog 164 #[.string (s.extract (k + 1) s.size)] w fun e w' => e = .returned (.bool true) ∧ w' = w)
    (hB2 : ∀ w, Calls Tryz.prog 163 #[.string s, .int .i64 ((k + 2 : Nat) : Int)] w fun e w' => e = .returned (.tuple #[.int .u8 b, .int .i64 ((k + 3 : Nat) : Int), .int .i64 0]) ∧ w' = w) (w : World) :
    Calls Tryz.prog 160 #[.string s, .int .i64 k] w fun e w' => ∃ g, e = .returned (.tuple #[.agg (words g), .int .i64 ((k + 3 : Nat) : Int), .int .i64 0]) ∧ Hid (Span zero4 g a (b + 1)) ∧ Below w.heap.size w w' := by
  have HB := Lib.hid hB; clear hB
  have HB2 := Lib.hid hB2; clear hB2
  have HG := Lib.hid hG; clear hG
  have HP := Lib.hid (fun w => hp_spec (s.extract k s.size) ⟨#[91, 58]⟩ false hP w); clear hP
  have HA := Lib.hid (fun w => add_spec zero4 fits_zero a b (by omega) hb w)
  have ha : a < 256 := by omega
  go_enter Tryz.func160, Tryz.ntmps160
  go_upto_region 1 with (fail)
  obtain ⟨W, hW, Q, HBe⟩ := quad_box w zero4 65
  change Code.wp _ _ _ _ (w.alloc (Obj.cells (words zero4) 65))
  rw [← hW]
  clear hW
  go_wp2_with fail
  refine (HP.out _).mono ?_
  rintro e w1 ⟨rfl, rfl⟩
  go_wp2_with fail
  refine (HB.out _).mono ?_
  rintro e w2 ⟨rfl, rfl⟩
  go_wp2_with fail
  refine (HG.out _).mono ?_
  rintro e w3 ⟨rfl, rfl⟩
  go_wp2_with fail
  refine (HB2.out _).mono ?_
  rintro e w5 ⟨rfl, rfl⟩
  go_wp2_with fail
  refine (HA.out _).mono ?_
  rintro e w4 ⟨g, rfl, hS, b4⟩
  have Q4 := Lib.hid (Q.out.after b4)
  have B4 := Lib.hid (Below.step HBe.out b4)
  clear b4
  have z0 := Q4.out.z 0 (by omega); have z1 := Q4.out.z 1 (by omega); have z2 := Q4.out.z 2 (by omega); have z3 := Q4.out.z 3 (by omega)
  have y0 := Q4.out.c 0 (by omega); have y1 := Q4.out.c 1 (by omega); have y2 := Q4.out.c 2 (by omega); have y3 := Q4.out.c 3 (by omega)
  simp only [words]
  go_wp2_with fail
  obtain ⟨e0, e1, e2, e3⟩ := put4_reads Q4.out g
  unfold put4 at e0 e1 e2 e3
  exact bodyPost_ret (v := .tuple #[.agg (words g), .int .i64 ((k + 3 : Nat) : Int), .int .i64 0]) (by simp [results, Tryz.results160, go_sem, e0, e1, e2, e3, words]) rfl ⟨g, rfl, hS, below_put4 B4.out (by omega) g⟩
end Go.Proofs.YtcojnkjcbopnbaaGreatDoor

/- class.Named: a walk. -/
namespace Go.Proofs.YtcojnkjcbopnbaaGreatDoor
open Go.RowKit

/-- Whether a byte is in one of the first k spans. -/
def inSpans (l : List UInt8) : Nat → Nat → Bool
  | 0, _ => false
  | k + 1, c => inSpans l k c || (decide ((l.getD (2 * k) 0).toNat ≤ c) && decide (c ≤ (l.getD (2 * k + 1) 0).toNat))

theorem getD_at {s : ByteArray} {i : Nat} (h : i < s.size) : (s.data.toList.getD i 0) = s[i] := by
  have h2 : i < s.data.toList.length := by simpa using h
  rw [List.getD_eq_getElem?_getD, List.getElem?_eq_getElem h2]
  rfl

theorem not_empty (l : ByteArray) (k : Nat) (h : l.size = 2 * k) : (!l.toList.isEmpty) = decide (0 < k) := by
  rw [ByteArray.toList_eq]
  have hs : l.data.toList.length = 2 * k := by simpa using h
  cases hl : l.data.toList with
  | nil =>
    rw [hl] at hs
    have h0 : k = 0 := by simp at hs; omega
    subst h0
    rfl
  | cons a r => rw [hl] at hs; simp at hs; simp; omega

structure NInv (l : List UInt8) (k : Nat) (g : Nat → Nat) : Prop where
  fits : Fits g
  bits : ∀ c, c < 256 → bit g c = inSpans l k c

set_option maxRecDepth 100000 in
theorem named_spec (name : ByteArray) (m : Nat) (hm : (spansOf name).size = 2 * m) (hm4 : m ≤ 4) (w : World) :
    Calls Tryz.prog 165 #[.string name] w fun e w' => ∃ g, e = .returned (.tuple #[.agg (words g), .bool (decide (0 < m))]) ∧ Hid (NInv (spansOf name).data.toList m g) ∧ Below w.heap.size w w' := by
  have HS := Lib.hid (fun w => spans_spec name w)
  obtain ⟨l, hl⟩ : ∃ l, l = spansOf name := ⟨_, rfl⟩
  rw [← hl] at HS hm ⊢
  clear hl
  have hl8 : l.size ≤ 8 := by omega
  have HM := Lib.hid hm; clear hm
  go_enter Tryz.func165, Tryz.ntmps165
  go_wp2_with fail
  refine (HS.out _).mono ?_
  rintro e w1 ⟨rfl, rfl⟩
  go_wp2_with fail
  obtain ⟨W, hW, Q0, Q1, HB⟩ := boxed2 w zero4 zero4 65 65
  change Code.wp _ _ _ _ ((w.alloc (Obj.cells (words zero4) 65)).alloc (Obj.cells (words zero4) 65))
  rw [← hW]
  clear hW
  go_loopw [6] (fun x wr => ∃ (p k : Nat) (g : Nat → Nat), x = .int .i64 p ∧ p ≤ l.size ∧ Hid (p = 2 * k) ∧ Hid (NInv l.data.toList k g) ∧ Hid (Quad wr w.heap.size zero4) ∧ Hid (Quad wr (w.heap.size + 1) g) ∧ Hid (Below w.heap.size w wr)) (fun x _ => l.size - (intOf x).toNat)
  case atStart => exact ⟨0, 0, zero4, rfl, by omega, Lib.hid rfl, Lib.hid ⟨fits_zero, fun c _ => bit_zero c⟩, Q0, Q1, HB⟩
  case round =>
    obtain ⟨p, k, g, rfl, hp, HK, hI, q0, q1, hB⟩ := hrel
    by_cases hgo : p < l.size
    · have h1 : p + 1 < l.size := by have := HK.out; have := HM.out; omega
      have HA := Lib.hid (fun w => add_spec g hI.out.fits l[p].toNat l[p + 1].toNat l[p].toNat_lt l[p + 1].toNat_lt w)
      have c0 := q1.out.c 0 (by omega); have c1 := q1.out.c 1 (by omega); have c2 := q1.out.c 2 (by omega); have c3 := q1.out.c 3 (by omega)
      have hi1 : (p : Int) < l.size := by omega
      have hi2 : (p : Int) + 1 < l.size := by omega
      have hi3 : (0 : Int) ≤ (p : Int) + 1 := by omega
      have hw1 : IntKind.i64.wrap ((p : Int) + 1) = (p : Int) + 1 := by rw [IntKind.wrap_i64]; omega
      go_upto_region 6 with (fail)
      go_still_tail 8, (by kernel_rfl)
      change wpList _ _ _ _ _ wr.drew
      clear c0 c1 c2 c3
      go_wp2_with fail
      refine (HA.out _).mono ?_
      rintro e w5 ⟨g', rfl, hS, b5⟩
      have q0' := Lib.hid ((q0.out.after (below_drew _)).after b5)
      have q1' := Lib.hid ((q1.out.after (below_drew _)).after b5)
      have hB' := Lib.hid (Below.step (Below.step hB.out (below_drew _)) b5)
      clear b5
      have z0 := q1'.out.z 0 (by omega); have z1 := q1'.out.z 1 (by omega); have z2 := q1'.out.z 2 (by omega); have z3 := q1'.out.z 3 (by omega)
      have y0 := q1'.out.c 0 (by omega); have y1 := q1'.out.c 1 (by omega); have y2 := q1'.out.c 2 (by omega); have y3 := q1'.out.c 3 (by omega)
      simp only [words]
      go_wp2_with fail
      go_roundw
      case rel =>
        refine ⟨p + 2, k + 1, g', by go_num, by omega, Lib.hid (by have := HK.out; omega), Lib.hid ⟨hS.out.1, fun c hc => ?_⟩, Lib.hid (q0'.out.put4_other (by omega) g'), Lib.hid (q1'.out.put4 g'), Lib.hid (below_put4 hB'.out (by omega) g')⟩
        have hk := HK.out
        subst hk
        rw [hS.out.2 c hc, hI.out.bits c hc]
        show _ = (inSpans l.data.toList k c || (decide ((l.data.toList.getD (2 * k) 0).toNat ≤ c) && decide (c ≤ (l.data.toList.getD (2 * k + 1) 0).toNat)))
        rw [getD_at hgo, getD_at h1, decide_eq_decide.2 (show c < l[2 * k + 1].toNat + 1 ↔ c ≤ l[2 * k + 1].toNat by omega)]
      case measure => simp [intOf]; omega
    · obtain rfl : p = l.size := by omega
      obtain rfl : k = m := by have := HK.out; have := HM.out; omega
      have c0 := q1.out.c 0 (by omega); have c1 := q1.out.c 1 (by omega); have c2 := q1.out.c 2 (by omega); have c3 := q1.out.c 3 (by omega)
      have z0 := q0.out.z 0 (by omega); have z1 := q0.out.z 1 (by omega); have z2 := q0.out.z 2 (by omega); have z3 := q0.out.z 3 (by omega)
      have y0 := q0.out.c 0 (by omega); have y1 := q0.out.c 1 (by omega); have y2 := q0.out.c 2 (by omega); have y3 := q0.out.c 3 (by omega)
      go_wp2_with fail
      obtain ⟨e0, e1, e2, e3⟩ := put4_reads q0.out g
      unfold put4 at e0 e1 e2 e3
      refine bodyPost_ret (v := .tuple #[.agg (words g), .bool (!l.toList.isEmpty)]) (by simp [results, Tryz.results165, go_sem, e0, e1, e2, e3, words]) rfl ⟨g, ?_, hI, below_put4 hB.out (by omega) g⟩
      exact congrArg (fun x => Ending.returned (.tuple #[.agg (words g), .bool x])) (not_empty l k HM.out)
end Go.Proofs.YtcojnkjcbopnbaaGreatDoor
