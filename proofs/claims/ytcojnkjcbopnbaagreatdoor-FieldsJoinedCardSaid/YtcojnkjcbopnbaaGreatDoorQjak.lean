/- Merged by program: None, Eq, Fit, Can, PlanN. -/
import Derived.Deep.LoopGhost
import Derived.Test.YtcojnkjcbopnbaaGreatDoorQjaj
import Derived.Test.YtcojnkjcbopnbaaGreatDoorQjac
import Derived.Test.YtcojnkjcbopnbaaGreatDoorQjai
/- ere.hasNone, its closure, slices.IndexFunc, slices.ContainsFunc at trees none of which is of the kinds: walks. -/
namespace Go.Proofs.YtcojnkjcbopnbaaGreatDoor
open Go.RowKit

set_option maxRecDepth 100000 in
theorem none1_spec (k : Int) (f : Nat → Nat) (lo hi : Int) (sl v : Value) (ks : List Int) (g : Nat) (w : World) (hg : w.cell? ⟨g, 0, none⟩ = some v) (hv : ∃ a n c, v = .slice a n c) (h : IntsAt w v ks) (hk : among ks k = false) :
    Calls Tryz.prog 147 #[.agg (reC k f lo hi sl), .pointer (some ⟨g, 0, none⟩)] w fun e w' => e = .returned (.bool false) ∧ Below w.heap.size w w' := by
  obtain ⟨a, n, c, rfl⟩ := hv
  have hlt := cell_lt hg
  go_enter Tryz.func147, Tryz.ntmps147
  go_upto_region 1 with (fail)
  obtain ⟨W, hW, hX, hB, _⟩ := re_box w (reC k f lo hi sl)
  rw [← hW]
  clear hW
  obtain ⟨c0, c1, c2, c3, c4, c5, c6, c7⟩ := eight_re hX.out.eight
  have d0 : W.cell? ⟨g, 0, none⟩ = some (.slice a n c) := by rw [hB.out.cell (p := ⟨g, 0, none⟩) hlt]; exact hg
  have H := Lib.hid (isOf_spec k f lo hi sl _ ks W (h.after hB.out))
  rw [hk] at H
  clear h hg hk
  go_wp2_with fail
  refine H.out.mono ?_
  rintro e w1 ⟨rfl, b1⟩
  have B1 := Lib.hid (Below.step hB.out b1)
  clear b1
  go_wp2_with fail
  go_ret
  exact ⟨rfl, B1.out⟩

def NoneOf (ks : List Int) (l : List Tree) : Prop := ∀ t, t ∈ l → among ks t.k = false

set_option maxRecDepth 100000 in
theorem indexFunc_spec (l : List Tree) (sl v : Value) (ks : List Int) (g : Nat) (B : Nat → Prop) (w : World) (hsl : SlAt w B l sl) (hlen : l.length ≤ 1000000) (hg : w.cell? ⟨g, 0, none⟩ = some v) (hv : ∃ a n c, v = .slice a n c) (h : IntsAt w v ks) (hk : NoneOf ks l) :
    Calls Tryz.prog 156 #[sl, .func (.func 147) #[] #[.pointer (some ⟨g, 0, none⟩)]] w fun e w' => e = .returned (.int .i64 (-1)) ∧ Below w.heap.size w w' := by
  have hlt := cell_lt hg
  rcases hsl with ⟨rfl, a, c, rfl⟩ | ⟨hl, b, off, c, cs, rfl, hc, hB, h8, hat⟩
  · go_enter Tryz.func156, Tryz.ntmps156
    go_wp2_with fail
    refine wp_loop_rounds 1 ?_
    rw [rounds_succ]
    go_wp2_with fail
    go_ret
    exact ⟨rfl, Below.refl _ _⟩
  · have H := Lib.hid h; clear h
    have HG := Lib.hid hg; clear hg
    go_enter Tryz.func156, Tryz.ntmps156
    go_wp2_with fail
    go_loopw [8] (fun y wr => ∃ i : Nat, y = .int .i64 i ∧ i ≤ l.length ∧ Hid (Below w.heap.size w wr)) (fun y _ => l.length - (intOf y).toNat)
    case atStart => exact ⟨0, rfl, by omega, Lib.hid (Below.refl _ _)⟩
    case round =>
      obtain ⟨i, rfl, hi, hb⟩ := hrel
      by_cases hgo : i < l.length
      · have hT := hat i hgo
        obtain ⟨si, e, _⟩ := hT.open
        have h8i := (h8 i hgo).keep (hb.out.block b ((h8 i hgo).lt hT.size))
        rw [e] at h8i
        obtain ⟨c0, c1, c2, c3, c4, c5, c6, c7⟩ := eight_re h8i
        have hN := hk l[i] (List.getElem_mem hgo)
        have HC := Lib.hid (none1_spec l[i].k l[i].f l[i].lo l[i].hi si v ks g wr (by rw [hb.out.cell (p := ⟨g, 0, none⟩) hlt]; exact HG.out) hv (H.out.after hb.out) hN)
        clear h8i hN e hT
        go_wp2_with fail
        refine HC.out.mono ?_
        rintro e w1 ⟨rfl, b1⟩
        have B1 := Lib.hid (Below.step hb.out b1)
        clear b1
        go_wp2_with fail
        go_roundw
        case rel => exact ⟨i + 1, by go_num, by omega, B1⟩
        case measure => simp [intOf]; omega
      · have hi' : i = l.length := by omega
        subst hi'
        go_wp2_with fail
        go_ret
        exact ⟨rfl, hb.out⟩

set_option maxRecDepth 100000 in
theorem hasNone_spec (l : List Tree) (sl v : Value) (ks : List Int) (B : Nat → Prop) (w : World) (hsl : SlAt w B l sl) (hlen : l.length ≤ 1000000) (hv : ∃ a n c, v = .slice a n c) (h : IntsAt w v ks) (hk : NoneOf ks l) :
    Calls Tryz.prog 131 #[sl, v] w fun e w' => e = .returned (.bool true) ∧ Below w.heap.size w w' := by
  have hb := below_new w (.cells #[v] 169)
  have hg : (w.alloc (.cells #[v] 169)).cell? ⟨w.heap.size, 0, none⟩ = some v := cell_of_row _ _ 0 _ _ (0, 0) (heap_alloc_last w _)
  have HI := Lib.hid (indexFunc_spec l sl v ks w.heap.size B _ (hsl.after hb) hlen hg hv (h.after hb) hk)
  obtain ⟨a, n, c, rfl⟩ := hv
  obtain ⟨a', n', c', rfl⟩ : ∃ a n c, sl = .slice a n c := by
    rcases hsl with ⟨rfl, a, c, rfl⟩ | ⟨hl, b, off, c, cs, rfl, _⟩
    · exact ⟨_, _, _, rfl⟩
    · exact ⟨_, _, _, rfl⟩
  have HB := Lib.hid hb
  clear hb hg h hk hsl
  go_enter Tryz.func131, Tryz.ntmps131
  go_wp2_with (go_at_call 146; go_in)
  refine HI.out.mono ?_
  rintro e w1 ⟨rfl, b1⟩
  have B1 := Lib.hid (Below.step HB.out b1)
  clear b1
  go_wp2_with fail
  go_ret
  exact ⟨rfl, B1.out⟩
end Go.Proofs.YtcojnkjcbopnbaaGreatDoor

/- == on two sets. -/
namespace Go.Proofs.YtcojnkjcbopnbaaGreatDoor
open Go.RowKit

theorem part_0 (a b c d : Int) (w : World) : (part 63 #[.int .u64 a, .int .u64 b, .int .u64 c, .int .u64 d] 0).run Tryz.prog w = .ok (.int .u64 a) w := by kernel_rfl
theorem part_1 (a b c d : Int) (w : World) : (part 63 #[.int .u64 a, .int .u64 b, .int .u64 c, .int .u64 d] 1).run Tryz.prog w = .ok (.int .u64 b) w := by kernel_rfl
theorem part_2 (a b c d : Int) (w : World) : (part 63 #[.int .u64 a, .int .u64 b, .int .u64 c, .int .u64 d] 2).run Tryz.prog w = .ok (.int .u64 c) w := by kernel_rfl
theorem part_3 (a b c d : Int) (w : World) : (part 63 #[.int .u64 a, .int .u64 b, .int .u64 c, .int .u64 d] 3).run Tryz.prog w = .ok (.int .u64 d) w := by kernel_rfl

theorem equalIn_set (d : Nat) (a0 a1 a2 a3 b0 b1 b2 b3 : Int) (w : World) :
    (Op.equalIn (d + 2) 65 (.agg #[.int .u64 a0, .int .u64 a1, .int .u64 a2, .int .u64 a3]) (.agg #[.int .u64 b0, .int .u64 b1, .int .u64 b2, .int .u64 b3])).run Tryz.prog w
      = .ok (a0 == b0 && (a1 == b1 && (a2 == b2 && a3 == b3))) w := by
  have E (a b : Int) (w : World) : (Op.equalIn (d + 1) 63 (.int .u64 a) (.int .u64 b)).run Tryz.prog w = .ok (a == b) w := run_equalIn_int w d 63 .u64 .u64 a b Tryz.underlying63
  rw [Op.equalIn]
  simp [Sem.run_bind, run_underlying Tryz.underlying65, Result.andThen_ok]
  rw [show List.range' 0 4 = [0, 1, 2, 3] from rfl]
  simp only [List.forIn_cons, List.forIn_nil, Sem.run_bind, part_0, E, Result.andThen_ok]
  by_cases h0 : a0 = b0
  · by_cases h1 : a1 = b1
    · by_cases h2 : a2 = b2
      · by_cases h3 : a3 = b3
        · simp [h0, h1, h2, h3, Result.andThen, Sem.run_bind, part_1, part_2, part_3, E]
        · simp [h0, h1, h2, h3, Result.andThen, Sem.run_bind, part_1, part_2, part_3, E]
      · simp [h0, h1, h2, Result.andThen, Sem.run_bind, part_1, part_2, E]
    · simp [h0, h1, Result.andThen, Sem.run_bind, part_1, E]
  · simp [h0, Result.andThen]
theorem equal_words (f g : Nat → Nat) (w : World) (b : Bool) (h : b = true ↔ ∀ k, k < 4 → f k = g k) :
    (Op.equalIn 10000 65 (.agg #[.int .u64 (f 0), .int .u64 (f 1), .int .u64 (f 2), .int .u64 (f 3)]) (.agg #[.int .u64 (g 0), .int .u64 (g 1), .int .u64 (g 2), .int .u64 (g 3)])).run Tryz.prog w = .ok b w := by
  rw [show (10000 : Nat) = 9998 + 2 from rfl, equalIn_set]
  congr 1
  rw [Bool.eq_iff_iff, h]
  constructor
  · intro e k hk
    simp at e
    have : k = 0 ∨ k = 1 ∨ k = 2 ∨ k = 3 := by omega
    rcases this with rfl | rfl | rfl | rfl
    · exact Int.ofNat.inj e.1
    · exact Int.ofNat.inj e.2.1
    · exact Int.ofNat.inj e.2.2.1
    · exact Int.ofNat.inj e.2.2.2
  · intro e
    simp [e 0 (by omega), e 1 (by omega), e 2 (by omega), e 3 (by omega)]
end Go.Proofs.YtcojnkjcbopnbaaGreatDoor

/- ere.isFit: walks, kind by kind. -/
namespace Go.Proofs.YtcojnkjcbopnbaaGreatDoor
open Go.RowKit

theorem zero_same : ∀ w, (Op.equalIn 10000 65 (.agg #[.int .u64 0, .int .u64 0, .int .u64 0, .int .u64 0]) (.agg #[.int .u64 0, .int .u64 0, .int .u64 0, .int .u64 0])).run Tryz.prog w = .ok true w :=
  fun w => equal_words zero4 zero4 w true (by simp)

set_option maxRecDepth 100000 in
theorem fit_small (k : Int) (h : k = 0 ∨ k = 2 ∨ k = 3) (a : Option Addr) (c : Nat) (w : World) :
    Calls Tryz.prog 117 #[.agg (reC k zero4 0 0 (.slice a 0 c))] w fun e w' => e = .returned (.bool true) ∧ Below w.heap.size w w' := by
  have hq := zero_same
  rcases h with rfl | rfl | rfl
  all_goals
    go_enter Tryz.func117, Tryz.ntmps117
    go_upto_region 1 with (fail)
    obtain ⟨W, hW, hX, hB, _⟩ := re_box w (reC _ zero4 0 0 (.slice a 0 c))
    rw [← hW]
    clear hW
    obtain ⟨c0, c1, c2, c3, c4, c5, c6, c7⟩ := eight_zero hX.out.eight
    go_wp2_with fail
    go_ret
    exact ⟨rfl, hB.out⟩

set_option maxRecDepth 100000 in
theorem fit_set (f : Nat → Nat) (a : Option Addr) (c : Nat) (w : World) :
    Calls Tryz.prog 117 #[.agg (reC 1 f 0 0 (.slice a 0 c))] w fun e w' => e = .returned (.bool true) ∧ Below w.heap.size w w' := by
  go_enter Tryz.func117, Tryz.ntmps117
  go_upto_region 1 with (fail)
  obtain ⟨W, hW, hX, hB, _⟩ := re_box w (reC 1 f 0 0 (.slice a 0 c))
  rw [← hW]
  clear hW
  obtain ⟨c0, c1, c2, c3, c4, c5, c6, c7⟩ := eight_re hX.out.eight
  go_wp2_with fail
  go_ret
  exact ⟨rfl, hB.out⟩

set_option maxRecDepth 100000 in
theorem fit_rep (lo hi : Int) (h0 : 0 ≤ lo) (h1 : lo ≤ 50) (h : hi = -1 ∨ (lo ≤ hi ∧ hi ≤ 50)) (a : Option Addr) (c : Nat) (w : World) :
    Calls Tryz.prog 117 #[.agg (reC 6 zero4 lo hi (.slice a 1 c))] w fun e w' => e = .returned (.bool true) ∧ Below w.heap.size w w' := by
  have hq := zero_same
  have HT := Lib.hid (areTimes_spec lo hi h0 h1 h)
  clear h0 h1 h
  go_enter Tryz.func117, Tryz.ntmps117
  go_upto_region 1 with (fail)
  obtain ⟨W, hW, hX, hB, _⟩ := re_box w (reC 6 zero4 lo hi (.slice a 1 c))
  rw [← hW]
  clear hW
  obtain ⟨c0, c1, c2, c3, c4, c5, c6, c7⟩ := eight_zero hX.out.eight
  go_wp2_with fail
  refine (HT.out _).mono ?_
  rintro e w1 ⟨rfl, rfl⟩
  go_wp2_with fail
  go_ret
  exact ⟨rfl, hB.out⟩

set_option maxRecDepth 100000 in
theorem fit_cat (l : List Tree) (sl : Value) (B : Nat → Prop) (w : World) (hsl : SlAt w B l sl) (h2 : 2 ≤ l.length) (hlen : l.length ≤ 1000000) (hk : NoneOf [4, 0] l) :
    Calls Tryz.prog 117 #[.agg (reC 4 zero4 0 0 sl)] w fun e w' => e = .returned (.bool true) ∧ Below w.heap.size w w' := by
  have hq := zero_same
  obtain ⟨a, c, rfl⟩ : ∃ a c, sl = .slice a l.length c := by
    rcases hsl with ⟨rfl, a, c, rfl⟩ | ⟨hl, b, off, c, cs, rfl, _⟩
    · exact ⟨_, _, rfl⟩
    · exact ⟨_, _, rfl⟩
  go_enter Tryz.func117, Tryz.ntmps117
  go_upto_region 1 with (fail)
  obtain ⟨W, hW, hX, hB, _⟩ := re_box w (reC 4 zero4 0 0 (.slice a l.length c))
  rw [← hW]
  clear hW
  obtain ⟨c0, c1, c2, c3, c4, c5, c6, c7⟩ := eight_zero hX.out.eight
  have hb := below_new W (.cells #[.int .i64 4, .int .i64 0] 3)
  have HN := Lib.hid (hasNone_spec l _ (.slice (some ⟨W.heap.size, 0, none⟩) 2 2) [4, 0] B _ ((hsl.after hB.out).after hb) hlen ⟨_, _, _, rfl⟩ (Or.inr ⟨_, _, rfl, by decide, heap_alloc_last W _⟩) hk)
  have HB := Lib.hid (Below.step hB.out hb)
  clear hb hsl hk
  go_wp2_with fail
  refine HN.out.mono ?_
  rintro e w1 ⟨rfl, b1⟩
  have B1 := Lib.hid (Below.step HB.out b1)
  clear b1
  go_wp2_with fail
  go_ret
  exact ⟨rfl, B1.out⟩

set_option maxRecDepth 100000 in
theorem fit_alt (l : List Tree) (sl : Value) (B : Nat → Prop) (w : World) (hsl : SlAt w B l sl) (h2 : 2 ≤ l.length) (hlen : l.length ≤ 1000000) (hk : NoneOf [5] l) :
    Calls Tryz.prog 117 #[.agg (reC 5 zero4 0 0 sl)] w fun e w' => e = .returned (.bool true) ∧ Below w.heap.size w w' := by
  have hq := zero_same
  obtain ⟨a, c, rfl⟩ : ∃ a c, sl = .slice a l.length c := by
    rcases hsl with ⟨rfl, a, c, rfl⟩ | ⟨hl, b, off, c, cs, rfl, _⟩
    · exact ⟨_, _, rfl⟩
    · exact ⟨_, _, rfl⟩
  go_enter Tryz.func117, Tryz.ntmps117
  go_upto_region 1 with (fail)
  obtain ⟨W, hW, hX, hB, _⟩ := re_box w (reC 5 zero4 0 0 (.slice a l.length c))
  rw [← hW]
  clear hW
  obtain ⟨c0, c1, c2, c3, c4, c5, c6, c7⟩ := eight_zero hX.out.eight
  have hb := below_new W (.cells #[.int .i64 5] 3)
  have HN := Lib.hid (hasNone_spec l _ (.slice (some ⟨W.heap.size, 0, none⟩) 1 1) [5] B _ ((hsl.after hB.out).after hb) hlen ⟨_, _, _, rfl⟩ (Or.inr ⟨_, _, rfl, by decide, heap_alloc_last W _⟩) hk)
  have HB := Lib.hid (Below.step hB.out hb)
  clear hb hsl hk
  go_wp2_with fail
  refine HN.out.mono ?_
  rintro e w1 ⟨rfl, b1⟩
  have B1 := Lib.hid (Below.step HB.out b1)
  clear b1
  go_wp2_with fail
  go_ret
  exact ⟨rfl, B1.out⟩
end Go.Proofs.YtcojnkjcbopnbaaGreatDoor

/- Trees that can be; ere.canLie, ere.Can at these: walks. -/
namespace Go.Proofs.YtcojnkjcbopnbaaGreatDoor
open Go.RowKit

/-- What a tree's own cells must be, within one of a kind. -/
structure FitT (within : Int) (t : Tree) : Prop where
  fits : Fits t.f
  k0 : 0 ≤ t.k
  k6 : t.k ≤ 6
  set : t.k ≠ 1 → ∀ i, i < 4 → t.f i = 0
  times : t.k ≠ 6 → t.lo = 0 ∧ t.hi = 0
  alone : t.k < 4 → t.kids = []
  empty : t.k = 0 → within ≠ 4
  parts : t.k = 4 ∨ t.k = 5 → t.k ≠ within ∧ 2 ≤ t.kids.length
  rep : t.k = 6 → t.kids.length = 1 ∧ 0 ≤ t.lo ∧ t.lo ≤ 50 ∧ (t.hi = -1 ∨ (t.lo ≤ t.hi ∧ t.hi ≤ 50))
  few : t.kids.length ≤ 1000000

/-- A tree that can be, of at most so many storeys. -/
def Good : Nat → Int → Tree → Prop
  | 0, _, _ => False
  | n + 1, within, t => FitT within t ∧ ∀ c, c ∈ t.kids → Good n t.k c

theorem Good.fit {n : Nat} {within : Int} {t : Tree} (h : Good n within t) : FitT within t := by
  cases n with
  | zero => exact h.elim
  | succ n => exact h.1

theorem isFit_spec (within : Int) (t : Tree) (cs : Array Value) (B : Nat → Prop) (w : World) (h : At w B t cs) (hf : FitT within t) (hk : ∀ c, c ∈ t.kids → FitT t.k c) :
    Calls Tryz.prog 117 #[.agg cs] w fun e w' => e = .returned (.bool true) ∧ Below w.heap.size w w' := by
  obtain ⟨sl, rfl, hsl⟩ := h.open
  by_cases h1 : t.k = 1
  · have hs := hf.alone (by omega)
    obtain ⟨e1, e2⟩ := hf.times (by omega)
    rw [hs] at hsl
    rcases hsl with ⟨_, a, c, rfl⟩ | ⟨hl, _⟩
    · rw [h1, e1, e2]; exact fit_set t.f a c w
    · exact absurd rfl hl
  · rw [reC_congr t.k t.lo t.hi sl (g := zero4) (hf.set h1)]
    by_cases h6 : t.k = 6
    · obtain ⟨e1, e2, e3, e4⟩ := hf.rep h6
      rcases hsl with ⟨hl, _⟩ | ⟨hl, b, off, c, _, rfl, _⟩
      · rw [hl] at e1; exact absurd e1 (by decide)
      · rw [h6, e1]; exact fit_rep t.lo t.hi e2 e3 e4 _ _ w
    · obtain ⟨e1, e2⟩ := hf.times h6
      rw [e1, e2]
      by_cases h4 : t.k = 4
      · rw [h4]
        refine fit_cat t.kids sl B w hsl (hf.parts (Or.inl h4)).2 hf.few fun c hc => ?_
        have hc' := hk c hc
        rw [h4] at hc'
        have n4 : c.k ≠ 4 := fun e => (hc'.parts (Or.inl e)).1 e
        have n0 : c.k ≠ 0 := fun e => hc'.empty e rfl
        simp [among, n4, n0]
      · by_cases h5 : t.k = 5
        · rw [h5]
          refine fit_alt t.kids sl B w hsl (hf.parts (Or.inr h5)).2 hf.few fun c hc => ?_
          have hc' := hk c hc
          rw [h5] at hc'
          have n5 : c.k ≠ 5 := fun e => (hc'.parts (Or.inr e)).1 e
          simp [among, n5]
        · have hk0 := hf.k0
          have hk6 := hf.k6
          have hs := hf.alone (by omega)
          rw [hs] at hsl
          rcases hsl with ⟨_, a, c, rfl⟩ | ⟨hl, _⟩
          · exact fit_small t.k (by omega) a c w
          · exact absurd rfl hl

set_option maxRecDepth 100000 in
theorem canLie_spec (n : Nat) : ∀ (within : Int) (t : Tree) (cs : Array Value) (B : Nat → Prop) (deep : Nat) (w : World), At w B t cs → Good n within t → deep + n ≤ 101 →
    Calls Tryz.prog 95 #[.agg cs, .int .i64 deep] w fun e w' => e = .returned (.bool true) ∧ Below w.heap.size w w' := by
  induction n with
  | zero => intro within t cs B deep w _ hg _; exact hg.elim
  | succ n ih =>
    intro within t cs B deep w h hg hd
    have HT := Lib.hid h
    have HF := Lib.hid fun (w : World) (h : At w B t cs) => isFit_spec within t cs B w h hg.1 fun c hc => (hg.2 c hc).fit
    obtain ⟨sl, rfl, hsl⟩ := h.open
    have HI := Lib.hid ih; clear ih
    have HG := Lib.hid hg.2
    have hfew := hg.1.few
    have hdeep : deep ≤ 100 := by omega
    have hsh := hsl.shape
    clear hg
    go_enter Tryz.func95, Tryz.ntmps95
    go_upto_region 1 with (fail)
    obtain ⟨W, hW, hX, hB, _⟩ := re_box w (reC t.k t.f t.lo t.hi sl)
    rw [← hW]
    clear hW
    obtain ⟨c0, c1, c2, c3, c4, c5, c6, c7⟩ := eight_re hX.out.eight
    have HF1 := Lib.hid (HF.out W (HT.out.after hB.out))
    have hs1 := Lib.hid (hsl.after hB.out)
    clear hsl
    go_wp2_with fail
    refine HF1.out.mono ?_
    rintro e w1 ⟨rfl, b1⟩
    have X1 := Lib.hid (hX.out.after b1)
    have S1 := Lib.hid (hs1.out.after b1)
    have B1 := Lib.hid (Below.step hB.out b1)
    clear b1 c0 c1 c2 c3 c4 c5 c6 c7
    obtain ⟨c0, c1, c2, c3, c4, c5, c6, c7⟩ := eight_re X1.out.eight
    obtain ⟨a, c, rfl⟩ := hsh
    go_wp2_with fail
    go_loopw [17] (fun y wr => ∃ i : Nat, y = .int .i64 i ∧ i ≤ t.kids.length ∧ Hid (Below w1.heap.size w1 wr)) (fun y _ => t.kids.length - (intOf y).toNat)
    case atStart => exact ⟨0, rfl, by omega, Lib.hid (Below.refl _ _)⟩
    case round =>
      obtain ⟨i, rfl, hi, hb⟩ := hrel
      clear c0 c1 c2 c3 c4 c5 c6 c7
      by_cases hgo : i < t.kids.length
      · rcases S1.out with ⟨e, _⟩ | ⟨hl, b, off, c', cs, e, hc, hBb, h8, hat⟩
        · rw [e] at hgo; exact absurd hgo (by simp)
        · simp only [Value.slice.injEq] at e
          obtain ⟨rfl, _, rfl⟩ := e
          have hT := hat i hgo
          have hT' := hT.after hb.out
          obtain ⟨ai, ci, e, _⟩ := hT.opens
          have h8i := (h8 i hgo).after hT.size hb.out
          rw [e] at h8i hT'
          obtain ⟨c0, c1, c2, c3, c4, c5, c6, c7⟩ := eight_re h8i
          have hT2 := hT'.after (below_new wr (.cells (reC t.kids[i].k t.kids[i].f t.kids[i].lo t.kids[i].hi (.slice ai t.kids[i].kids.length ci)) 68))
          have HC := Lib.hid (HI.out t.k t.kids[i] _ B (deep + 1) _ hT2 (HG.out _ (List.getElem_mem hgo)) (by omega))
          have BX := Lib.hid (Below.step hb.out (below_new wr (.cells (reC t.kids[i].k t.kids[i].f t.kids[i].lo t.kids[i].hi (.slice ai t.kids[i].kids.length ci)) 68)))
          clear h8i e hT hT' hT2 h8 hat
          go_upto_region 6 with (fail)
          obtain ⟨V, hV, hY, _, _⟩ := re_box wr (reC t.kids[i].k t.kids[i].f t.kids[i].lo t.kids[i].hi (.slice ai t.kids[i].kids.length ci))
          change Code.wp _ _ _ _ (wr.alloc (Obj.cells (reC t.kids[i].k t.kids[i].f t.kids[i].lo t.kids[i].hi (.slice ai t.kids[i].kids.length ci)) 68))
          rw [← hV]
          rw [← hV] at HC BX
          clear hV c0 c1 c2 c3 c4 c5 c6 c7
          obtain ⟨c0, c1, c2, c3, c4, c5, c6, c7⟩ := eight_re hY.out.eight
          go_wp2_with fail
          refine HC.out.mono ?_
          rintro e w2 ⟨rfl, b2⟩
          have B2 := Lib.hid (Below.step BX.out b2)
          clear b2
          go_wp2_with fail
          go_roundw
          case rel => exact ⟨i + 1, by go_num, by omega, B2⟩
          case measure => simp [intOf]; omega
      · have hi' : i = t.kids.length := by omega
        subst hi'
        go_wp2_with fail
        go_ret
        exact ⟨rfl, Below.step B1.out hb.out⟩

set_option maxRecDepth 100000 in
theorem can_spec (t : Tree) (cs : Array Value) (B : Nat → Prop) (w : World) (h : At w B t cs) (hg : Good 100 (-1) t) :
    Calls Tryz.prog 66 #[.agg cs] w fun e w' => e = .returned (.bool true) ∧ Below w.heap.size w w' := by
  obtain ⟨W, hW, hX, hB, _⟩ := re_box w cs
  have HC := Lib.hid (canLie_spec 100 (-1) t cs B 0 W (h.after hB.out) hg (by omega))
  obtain ⟨a, c, rfl, _⟩ := h.opens
  clear h hg
  go_enter Tryz.func66, Tryz.ntmps66
  go_upto_region 1 with (fail)
  rw [← hW]
  clear hW
  obtain ⟨c0, c1, c2, c3, c4, c5, c6, c7⟩ := eight_re hX.out.eight
  go_wp2_with fail
  refine HC.out.mono ?_
  rintro e w1 ⟨rfl, b1⟩
  have B1 := Lib.hid (Below.step hB.out b1)
  clear b1
  go_wp2_with fail
  go_ret
  exact ⟨rfl, B1.out⟩
end Go.Proofs.YtcojnkjcbopnbaaGreatDoor

/- nfa.repeated, nfa.planOf: walks. -/
namespace Go.Proofs.YtcojnkjcbopnbaaGreatDoor
open Go.RowKit

def overP : Plan := .mk 0 zero4 0 0 500 []
def emptyP : Plan := .mk 0 zero4 0 0 0 []
/-- How many states a repetition has, of a part of n. -/
def repN (n : Nat) (lo hi : Int) : Nat := if hi = -1 then lo.toNat * n + n + 1 else lo.toNat * n + (hi - lo).toNat * (n + 1)
/-- The parts' plans, and how many states they have: none, if these are too many. -/
def partsN (pl : Tree → Plan) (k : Int) : List Tree → Nat → List Plan → Option (Nat × List Plan)
  | [], n, ps => some (n, ps)
  | t :: r, n, ps =>
    if 500 ≤ n + (pl t).n then none
    else partsN pl k r (n + (pl t).n) (if 0 < (pl t).n ∨ k ≠ 4 then ps ++ [pl t] else ps)
def ownN (k lo hi : Int) (n : Nat) : Nat := if k = 1 ∨ k = 2 ∨ k = 3 then 1 else if k = 6 then min (repN n lo hi) 500 else n
def beginN (t : Tree) : Nat := if t.k = 5 then t.kids.length - 1 else 0
def finishN (t : Tree) : Option (Nat × List Plan) → Plan
  | none => overP
  | some (n, ps) => if ownN t.k t.lo t.hi n = 0 then emptyP else .mk t.k t.f t.lo t.hi (ownN t.k t.lo t.hi n) ps
def planN : Nat → Tree → Plan
  | 0, _ => emptyP
  | d + 1, t => finishN t (partsN (planN d) t.k t.kids (beginN t) [])

theorem repN_le (n : Nat) (lo hi : Int) (hn : n < 500) (h0 : 0 ≤ lo) (h1 : lo ≤ 50) (h : hi = -1 ∨ (lo ≤ hi ∧ hi ≤ 50)) : repN n lo hi ≤ 60000 := by
  have a : lo.toNat ≤ 50 := by omega
  have b : lo.toNat * n ≤ 50 * 500 := Nat.mul_le_mul a (by omega)
  unfold repN
  rcases h with rfl | ⟨h2, h3⟩
  · rw [if_pos rfl]; omega
  · have c : (hi - lo).toNat * (n + 1) ≤ 50 * 500 := Nat.mul_le_mul (by omega) (by omega)
    split <;> omega
theorem ownN_le (t : Tree) (n : Nat) (hn : n ≤ 1000000) : ownN t.k t.lo t.hi n ≤ 1000000 := by
  unfold ownN
  split
  · omega
  · split
    · have := Nat.min_le_right (repN n t.lo t.hi) 500; omega
    · omega

set_option maxRecDepth 100000 in
theorem repeated_spec (n : Nat) (lo hi : Int) (hn : n < 500) (h0 : 0 ≤ lo) (h1 : lo ≤ 50) (h : hi = -1 ∨ (lo ≤ hi ∧ hi ≤ 50)) (w : World) :
    Calls Tryz.prog 96 #[.int .i64 n, .int .i64 lo, .int .i64 hi] w fun e w' => e = .returned (.int .i64 (repN n lo hi : Nat)) ∧ w' = w := by
  have hl := repN_le n lo hi hn h0 h1 h
  obtain ⟨a, rfl⟩ : ∃ a : Nat, lo = a := ⟨lo.toNat, by omega⟩
  have ha : a ≤ 50 := by omega
  have hab : ((a : Int) * n) = ((a * n : Nat) : Int) := by simp
  have hb : a * n ≤ 50 * 500 := Nat.mul_le_mul ha (by omega)
  rcases h with rfl | ⟨h2, h3⟩
  · have he : repN n a (-1) = a * n + n + 1 := by simp [repN]
    rw [he] at hl ⊢
    clear he
    obtain ⟨m, hm⟩ : ∃ m, m = a * n := ⟨_, rfl⟩
    rw [← hm] at hab hb hl ⊢
    clear hm
    go_enter Tryz.func96, Tryz.ntmps96
    go_wp2_with fail
    go_ret
    exact ⟨ret_i64 (by omega), rfl⟩
  · obtain ⟨c, rfl⟩ : ∃ c : Nat, hi = a + c := ⟨(hi - a).toNat, by omega⟩
    have he : repN n a (a + c) = a * n + c * (n + 1) := by
      unfold repN
      rw [if_neg (by omega)]
      congr 1
      · congr 1
        omega
    rw [he] at hl ⊢
    clear he
    have hcn : ((c : Int) * (n + 1)) = ((c * (n + 1) : Nat) : Int) := by simp
    have hc : c * (n + 1) ≤ 50 * 500 := Nat.mul_le_mul (by omega) (by omega)
    have hne : ((a : Int) + c == -1) = false := by simp; omega
    obtain ⟨m, hm⟩ : ∃ m, m = a * n := ⟨_, rfl⟩
    obtain ⟨q, hq⟩ : ∃ q, q = c * (n + 1) := ⟨_, rfl⟩
    rw [← hm] at hab hb hl ⊢
    rw [← hq] at hcn hc hl ⊢
    clear hm hq
    go_enter Tryz.func96, Tryz.ntmps96
    go_wp2_with fail
    go_ret
    refine ⟨ret_i64 ?_, rfl⟩
    rw [show ((a : Int) + c - a) = c by omega, hcn]
    unfold wrap64
    omega

/-- What lies in memory while a plan is made. -/
structure PlF (wr w : World) (t : Tree) (rs : Array Value) (n : Nat) (sl : Value) : Prop where
  re : Box wr w.heap.size rs
  res : PBox wr (w.heap.size + 1) zeroPl
  q : PBox wr (w.heap.size + 2) (plC t.k t.f t.lo t.hi n sl)
  below : Below w.heap.size w wr
structure PlM (wr w : World) (t : Tree) (rs : Array Value) (n : Nat) (sl : Value) (ps : List Plan) (cs : Nat → Array Value) : Prop extends PlF wr w t rs n sl where
  own : OwnPlans wr (w.heap.size + 3) sl ps cs
theorem PlF.after {wr w V : World} {t : Tree} {rs : Array Value} {n : Nat} {sl : Value} (h : PlF wr w t rs n sl) (hb : Below wr.heap.size wr V) : PlF V w t rs n sl :=
  ⟨h.re.after hb, h.res.after hb, h.q.after hb, Below.step h.below hb⟩
theorem PlM.after {wr w V : World} {t : Tree} {rs : Array Value} {n : Nat} {sl : Value} {ps : List Plan} {cs : Nat → Array Value} (h : PlM wr w t rs n sl ps cs) (hb : Below wr.heap.size wr V) : PlM V w t rs n sl ps cs :=
  ⟨h.toPlF.after hb, h.own.after hb⟩
theorem PlF.grown {wr w V : World} {t : Tree} {rs : Array Value} {n : Nat} {sl : Value} {row : Option Nat} (h : PlF wr w t rs n sl) (hg : wr.grownBy V row) (hr : ∀ k, row = some k → w.heap.size + 3 ≤ k) : PlF V w t rs n sl := by
  have hlt := h.q.lt
  have ne : ∀ j, j ≤ 2 → some (w.heap.size + j) ≠ row := fun j hj e => by have := hr _ e.symm; omega
  exact ⟨⟨by rw [hg.block _ h.re.lt (ne 0 (by omega))]; exact h.re.row⟩, ⟨by rw [hg.block _ h.res.lt (ne 1 (by omega))]; exact h.res.row⟩, ⟨by rw [hg.block _ h.q.lt (ne 2 (by omega))]; exact h.q.row⟩,
    h.below.grown hg h.below.size (fun k hk => by have := hr k hk; omega)⟩
theorem planM_new (w : World) (t : Tree) (rs : Array Value) (n : Nat) : ∃ W, W = ((w.alloc (.cells rs 68)).alloc (.cells zeroPl 119)).alloc (.cells (plC t.k t.f t.lo t.hi n (.slice none 0 0)) 119) ∧ Hid (PlM W w t rs n (.slice none 0 0) [] (fun _ => zeroPl)) := by
  refine ⟨_, rfl, Lib.hid ?_⟩
  have s1 : (w.alloc (.cells rs 68)).heap.size = w.heap.size + 1 := World.size_alloc _ _
  have s2 : ((w.alloc (.cells rs 68)).alloc (.cells zeroPl 119)).heap.size = w.heap.size + 2 := by rw [World.size_alloc, s1]
  have b1 := below_new w (.cells rs 68)
  have b2 := below_new (w.alloc (.cells rs 68)) (.cells zeroPl 119)
  have b3 := below_new ((w.alloc (.cells rs 68)).alloc (.cells zeroPl 119)) (.cells (plC t.k t.f t.lo t.hi n (.slice none 0 0)) 119)
  refine ⟨⟨((box_new w rs).after b2).after b3, ?_, ?_, Below.step (Below.step b1 b2) b3⟩, ownP_nil _ _ _⟩
  · have := (pbox_new (w.alloc (.cells rs 68)) zeroPl).after b3
    rwa [s1] at this
  · have := pbox_new ((w.alloc (.cells rs 68)).alloc (.cells zeroPl 119)) (plC t.k t.f t.lo t.hi n (.slice none 0 0))
    rwa [s2] at this
theorem PlF.setBut {wr w : World} {t : Tree} {rs : Array Value} {n : Nat} {sl : Value} (_ : PlF wr w t rs n sl) (j : Nat) (v : Value) : But (w.heap.size + 2) wr (wr.setCell ⟨w.heap.size + 2, j, none⟩ v) :=
  ⟨rfl, rfl, rfl, by simp, fun k _ hp => heap_setCell_other wr ⟨w.heap.size + 2, j, none⟩ k _ (fun e => hp e)⟩
/-- The size stored anew. -/
theorem PlM.setN {wr w : World} {t : Tree} {rs : Array Value} {n : Nat} {sl : Value} {ps : List Plan} {cs : Nat → Array Value} (h : PlM wr w t rs n sl ps cs) (m : Nat) : PlM (wr.setCell ⟨w.heap.size + 2, 7, none⟩ (.int .i64 m)) w t rs m sl ps cs := by
  have hlt := h.q.lt
  have hb := h.setBut 7 (.int .i64 m)
  refine ⟨⟨h.re.but hb (by omega), ⟨by rw [hb.block _ h.res.lt (by omega)]; exact h.res.row⟩, ⟨?_⟩, h.below.setCell (p := ⟨w.heap.size + 2, 7, none⟩) (by show w.heap.size ≤ w.heap.size + 2; omega) _⟩, h.own.but hb (by omega)⟩
  rw [heap_setCell_same wr (w.heap.size + 2) 7 _ _ _ h.q.row]
  rfl
/-- The parts stored anew. -/
theorem PlF.setL {wr w : World} {t : Tree} {rs : Array Value} {n : Nat} {sl sl' : Value} {ps' : List Plan} {cs' : Nat → Array Value} (h : PlF wr w t rs n sl) (h' : OwnPlans wr (w.heap.size + 3) sl' ps' cs') : PlM (wr.setCell ⟨w.heap.size + 2, 8, none⟩ sl') w t rs n sl' ps' cs' := by
  have hlt := h.q.lt
  have hb := h.setBut 8 sl'
  refine ⟨⟨h.re.but hb (by omega), ⟨by rw [hb.block _ h.res.lt (by omega)]; exact h.res.row⟩, ⟨?_⟩, h.below.setCell (p := ⟨w.heap.size + 2, 8, none⟩) (by show w.heap.size ≤ w.heap.size + 2; omega) _⟩, h'.but hb (by omega)⟩
  rw [heap_setCell_same wr (w.heap.size + 2) 8 _ _ _ h.q.row]
  rfl
end Go.Proofs.YtcojnkjcbopnbaaGreatDoor
