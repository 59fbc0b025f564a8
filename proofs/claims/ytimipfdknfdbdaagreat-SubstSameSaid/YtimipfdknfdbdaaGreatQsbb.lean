/- Merged by program: RCount, Parts. -/
import Derived.Test.YtimipfdknfdbdaaGreatQsba
import Derived.Test.YtimipfdknfdbdaaGreatQsag
/- aukletref06.count, States at a tree that was read: a number (made by gen_rcount.py). -/
namespace Go.Proofs.YtimipfdknfdbdaaGreat
open Go.RowKit

def NAns (w : World) (e : Ending) (w' : World) : Prop := ∃ n : Int, e = .returned (.int .i64 n) ∧ 0 ≤ n ∧ n ≤ 1000 ∧ Below w.heap.size w w'

set_option maxRecDepth 100000 in
set_option maxHeartbeats 8000000 in
theorem rcount_leaf (k : Int) (h1 : 1 ≤ k) (h3 : k ≤ 3) (f : Nat → Nat) (lo hi : Int) (a : Option Addr) (n c : Nat) (w : World) :
    Calls Tryz.prog 47 #[.agg (reC k f lo hi (.slice a n c))] w (NAns w) := by
  go_enter Tryz.func47, Tryz.ntmps47
  go_upto_region 1 with (fail)
  obtain ⟨W, hW, hX, hB, _⟩ := re_box w (reC k f lo hi (.slice a n c))
  rw [← hW]
  clear hW
  obtain ⟨c0, c1, c2, c3, c4, c5, c6, c7⟩ := eight_re hX.out.eight
  go_wp2_with fail
  go_ret
  exact ⟨1, rfl, by omega, by omega, hB.out⟩

set_option maxRecDepth 100000 in
set_option maxHeartbeats 8000000 in
theorem rcount_0 (f : Nat → Nat) (lo hi : Int) (l : List Tree) (a : Option Addr) (c : Nat) (S : Nat → Prop) (w : World) (hsl : SlAt w S l (.slice a l.length c)) (hfew : l.length ≤ 1000000)
    (HI : Hid (∀ x, x ∈ l → ∀ (cs : Array Value) (S : Nat → Prop) (w : World), At w S x cs → Calls Tryz.prog 47 #[.agg cs] w (NAns w))) :
    Calls Tryz.prog 47 #[.agg (reC 0 f lo hi (.slice a l.length c))] w (NAns w) := by
  go_enter Tryz.func47, Tryz.ntmps47
  go_upto_region 1 with (fail)
  obtain ⟨W, hW, hX, hB, _⟩ := re_box w (reC 0 f lo hi (.slice a l.length c))
  rw [← hW]
  clear hW
  have S1 := Lib.hid (hsl.after hB.out)
  clear hsl
  obtain ⟨c0, c1, c2, c3, c4, c5, c6, c7⟩ := eight_re hX.out.eight
  go_wp2_with fail
  go_loopw [3, 4] (fun x y wr => ∃ (n : Int) (i : Nat), x = .int .i64 n ∧ y = .int .i64 i ∧ i ≤ l.length ∧ 0 ≤ n ∧ n ≤ 500 ∧ Hid (Below W.heap.size W wr)) (fun _ y _ => l.length - (intOf y).toNat)
  case atStart => exact ⟨0, 0, rfl, rfl, by omega, by omega, by omega, Lib.hid (Below.refl _ _)⟩
  case round =>
    obtain ⟨n, i, rfl, rfl, hi', hn0, hn5, hb⟩ := hrel
    clear c0 c1 c2 c3 c4 c5 c6 c7
    have X1 := Lib.hid (hX.out.after hb.out)
    obtain ⟨c0, c1, c2, c3, c4, c5, c6, c7⟩ := eight_re X1.out.eight
    by_cases hgo : i < l.length
    · rcases S1.out with ⟨e, _⟩ | ⟨hl', b, off, c', cs, e, hc, hBb, h8, hat⟩
      · first | exact absurd e (by simp) | (rw [e] at hgo; exact absurd hgo (by simp))
      · simp only [Value.slice.injEq] at e
        obtain ⟨rfl, _, rfl⟩ := e
        have hT := hat i hgo
        have hT' := hT.after hb.out
        obtain ⟨ai, ci, e, _⟩ := hT.opens
        have h8i := (h8 i hgo).after hT.size hb.out
        rw [e] at h8i hT'
        obtain ⟨d0, d1, d2, d3, d4, d5, d6, d7⟩ := eight_re h8i
        have HC := Lib.hid (HI.out l[i] (List.getElem_mem hgo) _ S _ hT')
        have hcl : l.length ≤ c := hc
        clear e hT hT' h8 hat h8i hc
        go_wp2_with fail
        refine HC.out.mono ?_
        rintro e w2 ⟨v, rfl, hv0, hv1, b2⟩
        have B2 := Lib.hid (Below.step hb.out b2)
        clear b2
        by_cases h500 : 500 < n + v
        · have hdd : decide (500 < n + v) = true := decide_eq_true h500
          go_wp2_with fail
          go_ret
          exact ⟨1000, rfl, by omega, by omega, Below.step hB.out B2.out⟩
        · have hdd : decide (500 < n + v) = false := decide_eq_false h500
          go_wp2_with fail
          go_roundw
          case rel => exact ⟨n + v, i + 1, rfl, by go_num, by omega, by omega, by omega, B2⟩
          case measure => simp [intOf]; omega
    · obtain rfl : i = l.length := by omega
      go_wp2_with fail
      go_ret
      exact ⟨n, rfl, by omega, by omega, Below.step hB.out hb.out⟩

set_option maxRecDepth 100000 in
set_option maxHeartbeats 8000000 in
theorem rcount_4 (f : Nat → Nat) (lo hi : Int) (l : List Tree) (a : Option Addr) (c : Nat) (S : Nat → Prop) (w : World) (hsl : SlAt w S l (.slice a l.length c)) (hfew : l.length ≤ 1000000)
    (HI : Hid (∀ x, x ∈ l → ∀ (cs : Array Value) (S : Nat → Prop) (w : World), At w S x cs → Calls Tryz.prog 47 #[.agg cs] w (NAns w))) :
    Calls Tryz.prog 47 #[.agg (reC 4 f lo hi (.slice a l.length c))] w (NAns w) := by
  go_enter Tryz.func47, Tryz.ntmps47
  go_upto_region 1 with (fail)
  obtain ⟨W, hW, hX, hB, _⟩ := re_box w (reC 4 f lo hi (.slice a l.length c))
  rw [← hW]
  clear hW
  have S1 := Lib.hid (hsl.after hB.out)
  clear hsl
  obtain ⟨c0, c1, c2, c3, c4, c5, c6, c7⟩ := eight_re hX.out.eight
  go_wp2_with fail
  go_loopw [3, 4] (fun x y wr => ∃ (n : Int) (i : Nat), x = .int .i64 n ∧ y = .int .i64 i ∧ i ≤ l.length ∧ 0 ≤ n ∧ n ≤ 500 ∧ Hid (Below W.heap.size W wr)) (fun _ y _ => l.length - (intOf y).toNat)
  case atStart => exact ⟨0, 0, rfl, rfl, by omega, by omega, by omega, Lib.hid (Below.refl _ _)⟩
  case round =>
    obtain ⟨n, i, rfl, rfl, hi', hn0, hn5, hb⟩ := hrel
    clear c0 c1 c2 c3 c4 c5 c6 c7
    have X1 := Lib.hid (hX.out.after hb.out)
    obtain ⟨c0, c1, c2, c3, c4, c5, c6, c7⟩ := eight_re X1.out.eight
    by_cases hgo : i < l.length
    · rcases S1.out with ⟨e, _⟩ | ⟨hl', b, off, c', cs, e, hc, hBb, h8, hat⟩
      · first | exact absurd e (by simp) | (rw [e] at hgo; exact absurd hgo (by simp))
      · simp only [Value.slice.injEq] at e
        obtain ⟨rfl, _, rfl⟩ := e
        have hT := hat i hgo
        have hT' := hT.after hb.out
        obtain ⟨ai, ci, e, _⟩ := hT.opens
        have h8i := (h8 i hgo).after hT.size hb.out
        rw [e] at h8i hT'
        obtain ⟨d0, d1, d2, d3, d4, d5, d6, d7⟩ := eight_re h8i
        have HC := Lib.hid (HI.out l[i] (List.getElem_mem hgo) _ S _ hT')
        have hcl : l.length ≤ c := hc
        clear e hT hT' h8 hat h8i hc
        go_wp2_with fail
        refine HC.out.mono ?_
        rintro e w2 ⟨v, rfl, hv0, hv1, b2⟩
        have B2 := Lib.hid (Below.step hb.out b2)
        clear b2
        by_cases h500 : 500 < n + v
        · have hdd : decide (500 < n + v) = true := decide_eq_true h500
          go_wp2_with fail
          go_ret
          exact ⟨1000, rfl, by omega, by omega, Below.step hB.out B2.out⟩
        · have hdd : decide (500 < n + v) = false := decide_eq_false h500
          go_wp2_with fail
          go_roundw
          case rel => exact ⟨n + v, i + 1, rfl, by go_num, by omega, by omega, by omega, B2⟩
          case measure => simp [intOf]; omega
    · obtain rfl : i = l.length := by omega
      go_wp2_with fail
      go_ret
      exact ⟨n, rfl, by omega, by omega, Below.step hB.out hb.out⟩

set_option maxRecDepth 100000 in
set_option maxHeartbeats 8000000 in
theorem rcount_5 (f : Nat → Nat) (lo hi : Int) (l : List Tree) (a : Option Addr) (c : Nat) (S : Nat → Prop) (w : World) (hsl : SlAt w S l (.slice a l.length c)) (h2 : 2 ≤ l.length) (hfew : l.length ≤ 1000000)
    (HI : Hid (∀ x, x ∈ l → ∀ (cs : Array Value) (S : Nat → Prop) (w : World), At w S x cs → Calls Tryz.prog 47 #[.agg cs] w (NAns w))) :
    Calls Tryz.prog 47 #[.agg (reC 5 f lo hi (.slice a l.length c))] w (NAns w) := by
  go_enter Tryz.func47, Tryz.ntmps47
  go_upto_region 1 with (fail)
  obtain ⟨W, hW, hX, hB, _⟩ := re_box w (reC 5 f lo hi (.slice a l.length c))
  rw [← hW]
  clear hW
  have S1 := Lib.hid (hsl.after hB.out)
  clear hsl
  obtain ⟨c0, c1, c2, c3, c4, c5, c6, c7⟩ := eight_re hX.out.eight
  go_wp2_with fail
  go_loopw [3, 4] (fun x y wr => ∃ (n : Int) (i : Nat), x = .int .i64 n ∧ y = .int .i64 i ∧ i ≤ l.length ∧ 0 ≤ n ∧ n ≤ 500 ∧ Hid (Below W.heap.size W wr)) (fun _ y _ => l.length - (intOf y).toNat)
  case atStart => exact ⟨0, 0, rfl, rfl, by omega, by omega, by omega, Lib.hid (Below.refl _ _)⟩
  case round =>
    obtain ⟨n, i, rfl, rfl, hi', hn0, hn5, hb⟩ := hrel
    clear c0 c1 c2 c3 c4 c5 c6 c7
    have X1 := Lib.hid (hX.out.after hb.out)
    obtain ⟨c0, c1, c2, c3, c4, c5, c6, c7⟩ := eight_re X1.out.eight
    by_cases hgo : i < l.length
    · rcases S1.out with ⟨e, _⟩ | ⟨hl', b, off, c', cs, e, hc, hBb, h8, hat⟩
      · first | exact absurd e (by simp) | (rw [e] at hgo; exact absurd hgo (by simp))
      · simp only [Value.slice.injEq] at e
        obtain ⟨rfl, _, rfl⟩ := e
        have hT := hat i hgo
        have hT' := hT.after hb.out
        obtain ⟨ai, ci, e, _⟩ := hT.opens
        have h8i := (h8 i hgo).after hT.size hb.out
        rw [e] at h8i hT'
        obtain ⟨d0, d1, d2, d3, d4, d5, d6, d7⟩ := eight_re h8i
        have HC := Lib.hid (HI.out l[i] (List.getElem_mem hgo) _ S _ hT')
        have hcl : l.length ≤ c := hc
        clear e hT hT' h8 hat h8i hc
        go_wp2_with fail
        refine HC.out.mono ?_
        rintro e w2 ⟨v, rfl, hv0, hv1, b2⟩
        have B2 := Lib.hid (Below.step hb.out b2)
        clear b2
        by_cases h500 : 500 < n + v
        · have hdd : decide (500 < n + v) = true := decide_eq_true h500
          go_wp2_with fail
          go_ret
          exact ⟨1000, rfl, by omega, by omega, Below.step hB.out B2.out⟩
        · have hdd : decide (500 < n + v) = false := decide_eq_false h500
          go_wp2_with fail
          go_roundw
          case rel => exact ⟨n + v, i + 1, rfl, by go_num, by omega, by omega, by omega, B2⟩
          case measure => simp [intOf]; omega
    · obtain rfl : i = l.length := by omega
      by_cases h500 : 500 < n + l.length - 1
      · have hdd : decide (500 < n + (l.length : Int) - 1) = true := decide_eq_true h500
        go_wp2_with fail
        go_ret
        exact ⟨1000, rfl, by omega, by omega, Below.step hB.out hb.out⟩
      · have hdd : decide (500 < n + (l.length : Int) - 1) = false := decide_eq_false h500
        go_wp2_with fail
        go_ret
        exact ⟨_, rfl, by omega, by omega, Below.step hB.out hb.out⟩

set_option maxRecDepth 100000 in
set_option maxHeartbeats 8000000 in
theorem rcount_6 (f : Nat → Nat) (lo hi : Int) (l : List Tree) (a : Option Addr) (c : Nat) (S : Nat → Prop) (w : World) (hsl : SlAt w S l (.slice a l.length c)) (h0 : 0 ≤ lo) (h50 : lo ≤ 50) (hh : hi = -1 ∨ (lo ≤ hi ∧ hi ≤ 50)) (hfew : l.length ≤ 1000000)
    (HI : Hid (∀ x, x ∈ l → ∀ (cs : Array Value) (S : Nat → Prop) (w : World), At w S x cs → Calls Tryz.prog 47 #[.agg cs] w (NAns w))) :
    Calls Tryz.prog 47 #[.agg (reC 6 f lo hi (.slice a l.length c))] w (NAns w) := by
  have HH := Lib.hid hh
  clear hh
  go_enter Tryz.func47, Tryz.ntmps47
  go_upto_region 1 with (fail)
  obtain ⟨W, hW, hX, hB, _⟩ := re_box w (reC 6 f lo hi (.slice a l.length c))
  rw [← hW]
  clear hW
  have S1 := Lib.hid (hsl.after hB.out)
  clear hsl
  obtain ⟨c0, c1, c2, c3, c4, c5, c6, c7⟩ := eight_re hX.out.eight
  go_wp2_with fail
  go_loopw [3, 4] (fun x y wr => ∃ (n : Int) (i : Nat), x = .int .i64 n ∧ y = .int .i64 i ∧ i ≤ l.length ∧ 0 ≤ n ∧ n ≤ 500 ∧ Hid (Below W.heap.size W wr)) (fun _ y _ => l.length - (intOf y).toNat)
  case atStart => exact ⟨0, 0, rfl, rfl, by omega, by omega, by omega, Lib.hid (Below.refl _ _)⟩
  case round =>
    obtain ⟨n, i, rfl, rfl, hi', hn0, hn5, hb⟩ := hrel
    clear c0 c1 c2 c3 c4 c5 c6 c7
    have X1 := Lib.hid (hX.out.after hb.out)
    obtain ⟨c0, c1, c2, c3, c4, c5, c6, c7⟩ := eight_re X1.out.eight
    by_cases hgo : i < l.length
    · rcases S1.out with ⟨e, _⟩ | ⟨hl', b, off, c', cs, e, hc, hBb, h8, hat⟩
      · first | exact absurd e (by simp) | (rw [e] at hgo; exact absurd hgo (by simp))
      · simp only [Value.slice.injEq] at e
        obtain ⟨rfl, _, rfl⟩ := e
        have hT := hat i hgo
        have hT' := hT.after hb.out
        obtain ⟨ai, ci, e, _⟩ := hT.opens
        have h8i := (h8 i hgo).after hT.size hb.out
        rw [e] at h8i hT'
        obtain ⟨d0, d1, d2, d3, d4, d5, d6, d7⟩ := eight_re h8i
        have HC := Lib.hid (HI.out l[i] (List.getElem_mem hgo) _ S _ hT')
        have hcl : l.length ≤ c := hc
        clear e hT hT' h8 hat h8i hc
        go_wp2_with fail
        refine HC.out.mono ?_
        rintro e w2 ⟨v, rfl, hv0, hv1, b2⟩
        have B2 := Lib.hid (Below.step hb.out b2)
        clear b2
        by_cases h500 : 500 < n + v
        · have hdd : decide (500 < n + v) = true := decide_eq_true h500
          go_wp2_with fail
          go_ret
          exact ⟨1000, rfl, by omega, by omega, Below.step hB.out B2.out⟩
        · have hdd : decide (500 < n + v) = false := decide_eq_false h500
          go_wp2_with fail
          go_roundw
          case rel => exact ⟨n + v, i + 1, rfl, by go_num, by omega, by omega, by omega, B2⟩
          case measure => simp [intOf]; omega
    · obtain rfl : i = l.length := by omega
      have m0 : 0 ≤ lo * n := Int.mul_nonneg h0 hn0
      have m1 : lo * n ≤ 50 * 500 := Int.mul_le_mul h50 hn5 hn0 (by omega)
      have mw : IntKind.i64.wrap (lo * n) = lo * n := by rw [IntKind.wrap_i64]; omega
      rcases HH.out with hm | ⟨hh1, hh2⟩
      · subst hm
        by_cases h500 : 500 < lo * n + n + 1
        · have hdd : decide (500 < lo * n + n + 1) = true := decide_eq_true h500
          go_wp2_with fail
          go_ret
          exact ⟨1000, rfl, by omega, by omega, Below.step hB.out hb.out⟩
        · have hdd : decide (500 < lo * n + n + 1) = false := decide_eq_false h500
          go_wp2_with fail
          go_ret
          exact ⟨_, rfl, by omega, by omega, Below.step hB.out hb.out⟩
      · have hh0 : ¬ hi < 0 := by omega
        have p0 : 0 ≤ (hi - lo) * (n + 1) := Int.mul_nonneg (by omega) (by omega)
        have p1 : (hi - lo) * (n + 1) ≤ 50 * 501 := Int.mul_le_mul (by omega) (by omega) (by omega) (by omega)
        have pw : IntKind.i64.wrap ((hi - lo) * (n + 1)) = (hi - lo) * (n + 1) := by rw [IntKind.wrap_i64]; omega
        by_cases h500 : 500 < lo * n + (hi - lo) * (n + 1)
        · have hdd : decide (500 < lo * n + (hi - lo) * (n + 1)) = true := decide_eq_true h500
          go_wp2_with fail
          go_ret
          exact ⟨1000, rfl, by omega, by omega, Below.step hB.out hb.out⟩
        · have hdd : decide (500 < lo * n + (hi - lo) * (n + 1)) = false := decide_eq_false h500
          go_wp2_with fail
          go_ret
          exact ⟨_, rfl, by omega, by omega, Below.step hB.out hb.out⟩

theorem rcount_any (within : Int) (t : Tree) (hf : Fine within t) : ∀ (cs : Array Value) (S : Nat → Prop) (w : World), At w S t cs →
    Calls Tryz.prog 47 #[.agg cs] w (NAns w) := by
  induction hf with
  | mk within t ft hk ih =>
    intro cs S w h
    have HI := Lib.hid ih
    clear ih hk
    obtain ⟨sl, rfl, hsl⟩ := h.open
    obtain ⟨a, c, rfl⟩ := hsl.shape
    clear h
    obtain ⟨k, f, lo, hi, l⟩ := t
    simp only [Tree.k, Tree.f, Tree.lo, Tree.hi, Tree.kids] at HI hsl ⊢
    have h0 : (0 : Int) ≤ k := ft.k0
    have h6 : k ≤ 6 := ft.k6
    have hpt : k = 4 ∨ k = 5 → k ≠ within ∧ 2 ≤ l.length := ft.parts
    have hrp : k = 6 → l.length = 1 ∧ 0 ≤ lo ∧ lo ≤ 50 ∧ (hi = -1 ∨ (lo ≤ hi ∧ hi ≤ 50)) := ft.rep
    have hfew : l.length ≤ 1000000 := ft.few
    by_cases k13 : 1 ≤ k ∧ k ≤ 3
    · exact rcount_leaf k k13.1 k13.2 f lo hi a l.length c w
    have ke : k = 0 ∨ k = 4 ∨ k = 5 ∨ k = 6 := by omega
    rcases ke with rfl | rfl | rfl | rfl
    · exact rcount_0 f lo hi l a c S w hsl hfew HI
    · exact rcount_4 f lo hi l a c S w hsl hfew HI
    · exact rcount_5 f lo hi l a c S w hsl (hpt (Or.inr rfl)).2 hfew HI
    · obtain ⟨_, r2, r3, r4⟩ := hrp rfl; exact rcount_6 f lo hi l a c S w hsl r2 r3 r4 hfew HI

set_option maxRecDepth 100000 in
theorem rstates_any (t : Tree) (cs : Array Value) (S : Nat → Prop) (w : World) (h : At w S t cs) (hf : Fine (-1) t) :
    Calls Tryz.prog 30 #[.agg cs] w fun e w' => ∃ n : Int, e = .returned (.int .i64 n) ∧ Below w.heap.size w w' := by
  obtain ⟨W, hW, hX, hB, _⟩ := re_box w cs
  have HC := Lib.hid (rcan_any 100 (-1) t cs S 1 W (h.after hB.out) hf (by omega))
  have HN := Lib.hid (fun w2 (b2 : Below W.heap.size W w2) => rcount_any (-1) t hf cs S w2 ((h.after hB.out).after b2))
  obtain ⟨a, c, rfl, _⟩ := h.opens
  clear h hf
  go_enter Tryz.func30, Tryz.ntmps30
  go_upto_region 1 with (fail)
  rw [← hW]
  clear hW
  obtain ⟨c0, c1, c2, c3, c4, c5, c6, c7⟩ := eight_re hX.out.eight
  go_wp2_with fail
  refine HC.out.mono ?_
  rintro e w1 ⟨b, rfl, b1⟩
  have X1 := Lib.hid (hX.out.after b1)
  have HN1 := Lib.hid (HN.out w1 b1)
  have B1 := Lib.hid (Below.step hB.out b1)
  clear b1 c0 c1 c2 c3 c4 c5 c6 c7
  cases b with
  | false =>
    go_wp2_with fail
    go_ret
    exact ⟨0, rfl, B1.out⟩
  | true =>
    obtain ⟨c0, c1, c2, c3, c4, c5, c6, c7⟩ := eight_re X1.out.eight
    go_wp2_with fail
    refine HN1.out.mono ?_
    rintro e w2 ⟨n, rfl, n0, n1, b2⟩
    have B2 := Lib.hid (Below.step B1.out b2)
    clear b2
    by_cases h5 : 500 < n
    · have hdd : decide (500 < n) = true := decide_eq_true h5
      go_wp2_with fail
      go_ret
      exact ⟨_, rfl, B2.out⟩
    · have hdd : decide (500 < n) = false := decide_eq_false h5
      go_wp2_with fail
      go_ret
      exact ⟨_, rfl, B2.out⟩
end Go.Proofs.YtimipfdknfdbdaaGreat

/- ref.Parts, Small: walks. -/
namespace Go.Proofs.YtimipfdknfdbdaaGreat
open Go.RowKit

/-- How many parts a tree has, of at most so many storeys. -/
def sumL (g : Tree → Nat) : List Tree → Nat
  | [] => 0
  | t :: r => g t + sumL g r
theorem sumL_snoc (g : Tree → Nat) (l : List Tree) (t : Tree) : sumL g (l ++ [t]) = sumL g l + g t := by
  induction l with
  | nil => simp [sumL]
  | cons a l ih => simp [sumL, ih]; omega
theorem sumL_mem (g : Tree → Nat) {l : List Tree} {t : Tree} (h : t ∈ l) : g t ≤ sumL g l := by
  induction l with
  | nil => exact absurd h (by simp)
  | cons a l ih =>
    show g t ≤ g a + sumL g l
    rcases List.mem_cons.1 h with rfl | h
    · omega
    · have := ih h; omega
def nodesN : Nat → Tree → Nat
  | 0, _ => 1
  | n + 1, t => 1 + sumL (nodesN n) t.kids
theorem nodesN_pos (n : Nat) (t : Tree) : 1 ≤ nodesN n t := by
  cases n with
  | zero => exact Nat.le_refl _
  | succ n => show 1 ≤ 1 + _; omega
theorem sumL_len (n : Nat) (l : List Tree) : l.length ≤ sumL (nodesN n) l := by
  induction l with
  | nil => exact Nat.le_refl _
  | cons a l ih =>
    show l.length + 1 ≤ nodesN n a + sumL (nodesN n) l
    have := nodesN_pos n a
    omega
theorem nodes_kids {n m : Nat} {t : Tree} (h : nodesN (n + 1) t ≤ m) : t.kids.length + 1 ≤ m ∧ ∀ c, c ∈ t.kids → nodesN n c ≤ m := by
  have h' : 1 + sumL (nodesN n) t.kids ≤ m := h
  have := sumL_len n t.kids
  exact ⟨by omega, fun c hc => by have := sumL_mem (nodesN n) hc; omega⟩

/-- What Parts answers. -/
structure PartsOf (d : Nat) (t : Tree) (m v : Nat) : Prop where
  pos : 1 ≤ v
  le : v ≤ m + 1
  is : v ≤ m → v = nodesN d t

set_option maxRecDepth 100000 in
theorem parts_spec (d : Nat) : ∀ (t : Tree) (cs : Array Value) (S : Nat → Prop) (m : Nat) (w : World), At w S t cs → d ≤ 1000 → m ≤ 1000 →
    Calls Tryz.prog 48 #[.agg cs, .int .i64 d, .int .i64 m] w fun e w' => ∃ v : Nat, e = .returned (.int .i64 v) ∧ Hid (PartsOf d t m v) ∧ Below w.heap.size w w' := by
  induction d with
  | zero =>
    intro t cs S m w h _ hm
    obtain ⟨a, c, rfl, _⟩ := h.opens
    clear h
    go_enter Tryz.func48, Tryz.ntmps48
    go_upto_region 1 with (fail)
    obtain ⟨W, hW, hX, hB, _⟩ := re_box w (reC t.k t.f t.lo t.hi (.slice a t.kids.length c))
    rw [← hW]
    clear hW
    obtain ⟨c0, c1, c2, c3, c4, c5, c6, c7⟩ := eight_re hX.out.eight
    go_wp2_with fail
    refine wp_loop_rounds 1 ?_
    rw [rounds_succ]
    by_cases hm1 : 1 ≤ m
    · by_cases h0 : 0 < t.kids.length
      · go_wp2_with fail
        go_ret
        exact ⟨m + 1, by go_num, Lib.hid ⟨by omega, by omega, by omega⟩, hB.out⟩
      · go_wp2_with fail
        go_ret
        exact ⟨m + 1, by go_num, Lib.hid ⟨by omega, by omega, by omega⟩, hB.out⟩
    · by_cases h0 : 0 < t.kids.length
      · go_wp2_with fail
        go_ret
        exact ⟨m + 1, by go_num, Lib.hid ⟨by omega, by omega, by omega⟩, hB.out⟩
      · go_wp2_with fail
        go_ret
        exact ⟨m + 1, by go_num, Lib.hid ⟨by omega, by omega, by omega⟩, hB.out⟩
  | succ d ih =>
    intro t cs S m w h hd hm
    have HI := Lib.hid ih; clear ih
    suffices H : ∀ D : Nat, D = d + 1 → Calls Tryz.prog 48 #[.agg cs, .int .i64 D, .int .i64 m] w fun e w' => ∃ v : Nat, e = .returned (.int .i64 v) ∧ Hid (PartsOf (d + 1) t m v) ∧ Below w.heap.size w w' from H _ rfl
    intro D hD
    have hD0 : (0 : Int) < D := by omega
    have hD1 : (D : Int) ≤ 1000 := by omega
    have HD := Lib.hid hD
    clear hD
    obtain ⟨sl, rfl, hsl⟩ := h.open
    clear h
    have hsh := hsl.shape
    go_enter Tryz.func48, Tryz.ntmps48
    go_upto_region 1 with (fail)
    obtain ⟨W, hW, hX, hB, _⟩ := re_box w (reC t.k t.f t.lo t.hi sl)
    rw [← hW]
    clear hW
    have S1 := Lib.hid (hsl.after hB.out)
    clear hsl
    obtain ⟨c0, c1, c2, c3, c4, c5, c6, c7⟩ := eight_re hX.out.eight
    obtain ⟨a, c, rfl⟩ := hsh
    go_wp2_with fail
    go_loopw [7, 8] (fun x y wr => ∃ n i : Nat, x = .int .i64 n ∧ y = .int .i64 i ∧ i ≤ t.kids.length ∧ i + 1 ≤ n ∧ n ≤ m + 1 ∧ Hid (n ≤ m → n = 1 + sumL (nodesN d) (t.kids.take i)) ∧ Hid (Below W.heap.size W wr)) (fun _ y _ => t.kids.length - (intOf y).toNat)
    case atStart => exact ⟨1, 0, rfl, rfl, by omega, by omega, by omega, Lib.hid fun _ => rfl, Lib.hid (Below.refl _ _)⟩
    case round =>
      obtain ⟨n, i, rfl, rfl, hi, hin, hnm, hN, hb⟩ := hrel
      clear c0 c1 c2 c3 c4 c5 c6 c7
      have X1 := Lib.hid (hX.out.after hb.out)
      obtain ⟨c0, c1, c2, c3, c4, c5, c6, c7⟩ := eight_re X1.out.eight
      have hi' : i ≤ 1000 := by omega
      by_cases hgo : i < t.kids.length
      · by_cases hle : n ≤ m
        · rcases S1.out with ⟨e, _⟩ | ⟨hl, b, off, c', cs, e, hc, hBb, h8, hat⟩
          · rw [e] at hgo; exact absurd hgo (by simp)
          · simp only [Value.slice.injEq] at e
            obtain ⟨rfl, _, rfl⟩ := e
            have hT := hat i hgo
            have hT' := hT.after hb.out
            obtain ⟨ai, ci, e, _⟩ := hT.opens
            have h8i := (h8 i hgo).after hT.size hb.out
            rw [e] at h8i hT'
            obtain ⟨d0, d1, d2, d3, d4, d5, d6, d7⟩ := eight_re h8i
            obtain ⟨q, hq⟩ : ∃ q : Nat, m - n = q := ⟨_, rfl⟩
            have hq' : (m : Int) - n = q := by omega
            have hqm : q ≤ 1000 := by omega
            have HC := Lib.hid (HI.out t.kids[i] _ S q _ hT' (by omega) hqm)
            have hd1 : (D : Int) - 1 = d := by have := HD.out; omega
            clear e hT hT' h8 hat h8i
            go_wp2_with fail
            refine HC.out.mono ?_
            rintro e w2 ⟨v, rfl, hv, b2⟩
            have B2 := Lib.hid (Below.step hb.out b2)
            have v1 := hv.out.pos
            have v2 := hv.out.le
            clear b2
            go_wp2_with fail
            go_roundw
            case rel =>
              refine ⟨n + v, i + 1, by go_num, by go_num, by omega, by omega, by omega, Lib.hid fun h => ?_, B2⟩
              have e1 := hN.out hle
              have e2 := hv.out.is (by omega)
              rw [List.take_succ_eq_append_getElem hgo, sumL_snoc]
              omega
            case measure => simp [intOf]; omega
        · go_wp2_with fail
          go_ret
          exact ⟨n, rfl, Lib.hid ⟨by omega, by omega, fun h => absurd h hle⟩, Below.step hB.out hb.out⟩
      · go_wp2_with fail
        go_ret
        refine ⟨n, rfl, Lib.hid ⟨by omega, by omega, fun h => ?_⟩, Below.step hB.out hb.out⟩
        have e1 := hN.out h
        rw [List.take_of_length_le (by omega)] at e1
        exact e1

set_option maxRecDepth 100000 in
theorem small_spec (t : Tree) (cs : Array Value) (S : Nat → Prop) (w : World) (h : At w S t cs) :
    Calls Tryz.prog 31 #[.agg cs] w fun e w' => ∃ b : Bool, e = .returned (.bool b) ∧ Hid (b = true → nodesN 150 t ≤ 400) ∧ Below w.heap.size w w' := by
  obtain ⟨W, hW, hX, hB, _⟩ := re_box w cs
  have HC := Lib.hid (parts_spec 150 t cs S 400 W (h.after hB.out) (by omega) (by omega))
  obtain ⟨a, c, rfl, _⟩ := h.opens
  clear h
  go_enter Tryz.func31, Tryz.ntmps31
  go_upto_region 1 with (fail)
  rw [← hW]
  clear hW
  obtain ⟨c0, c1, c2, c3, c4, c5, c6, c7⟩ := eight_re hX.out.eight
  go_wp2_with fail
  refine HC.out.mono ?_
  rintro e w1 ⟨v, rfl, hv, b1⟩
  have B1 := Lib.hid (Below.step hB.out b1)
  have v2 := hv.out.le
  clear b1
  go_wp2_with fail
  go_ret
  exact ⟨_, rfl, Lib.hid (fun h => by have h' : v ≤ 400 := by simp at h; omega
                                      have := hv.out.is h'; omega), B1.out⟩
end Go.Proofs.YtimipfdknfdbdaaGreat
