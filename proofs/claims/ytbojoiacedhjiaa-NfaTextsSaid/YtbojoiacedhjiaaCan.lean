/- Trees that can be; ere.canLie, ere.Can at these: walks. -/
import Derived.Test.YtbojoiacedhjiaaFit
namespace Go.Proofs.Ytbojoiacedhjiaa
open Go.RowKit

/-- What a tree's own cells must be, within one of a kind. -/
structure FitT (within : Int) (t : Tree) : Prop where
  fits : Fits t.f
  k0 : 0 ≤ t.k
  k6 : t.k ≤ 6
  set : t.k ≠ 1 → ∀ i, i < 4 → t.f i = 0
  times : t.k ≠ 6 → t.lo = 0 ∧ t.hi = 0
  alone : t.k < 4 → t.kids = []
  empty : t.k = 0 → within ≠ 4
  parts : t.k = 4 ∨ t.k = 5 → t.k ≠ within ∧ 2 ≤ t.kids.length
  rep : t.k = 6 → t.kids.length = 1 ∧ 0 ≤ t.lo ∧ t.lo ≤ 50 ∧ (t.hi = -1 ∨ (t.lo ≤ t.hi ∧ t.hi ≤ 50))
  few : t.kids.length ≤ 1000000

/-- A tree that can be, of at most so many storeys. -/
def Good : Nat → Int → Tree → Prop
  | 0, _, _ => False
  | n + 1, within, t => FitT within t ∧ ∀ c, c ∈ t.kids → Good n t.k c

theorem Good.fit {n : Nat} {within : Int} {t : Tree} (h : Good n within t) : FitT within t := by
  cases n with
  | zero => exact h.elim
  | succ n => exact h.1

theorem isFit_spec (within : Int) (t : Tree) (cs : Array Value) (B : Nat → Prop) (w : World) (h : At w B t cs) (hf : FitT within t) (hk : ∀ c, c ∈ t.kids → FitT t.k c) :
    Calls Try.prog 25 #[.agg cs] w fun e w' => e = .returned (.bool true) ∧ Below w.heap.size w w' := by
  obtain ⟨sl, rfl, hsl⟩ := h.open
  by_cases h1 : t.k = 1
  · have hs := hf.alone (by omega)
    obtain ⟨e1, e2⟩ := hf.times (by omega)
    rw [hs] at hsl
    rcases hsl with ⟨_, a, c, rfl⟩ | ⟨hl, _⟩
    · rw [h1, e1, e2]; exact fit_set t.f a c w
    · exact absurd rfl hl
  · rw [reC_congr t.k t.lo t.hi sl (g := zero4) (hf.set h1)]
    by_cases h6 : t.k = 6
    · obtain ⟨e1, e2, e3, e4⟩ := hf.rep h6
      rcases hsl with ⟨hl, _⟩ | ⟨hl, b, off, c, _, rfl, _⟩
      · rw [hl] at e1; exact absurd e1 (by decide)
      · rw [h6, e1]; exact fit_rep t.lo t.hi e2 e3 e4 _ _ w
    · obtain ⟨e1, e2⟩ := hf.times h6
      rw [e1, e2]
      by_cases h4 : t.k = 4
      · rw [h4]
        refine fit_cat t.kids sl B w hsl (hf.parts (Or.inl h4)).2 hf.few fun c hc => ?_
        have hc' := hk c hc
        rw [h4] at hc'
        have n4 : c.k ≠ 4 := fun e => (hc'.parts (Or.inl e)).1 e
        have n0 : c.k ≠ 0 := fun e => hc'.empty e rfl
        simp [among, n4, n0]
      · by_cases h5 : t.k = 5
        · rw [h5]
          refine fit_alt t.kids sl B w hsl (hf.parts (Or.inr h5)).2 hf.few fun c hc => ?_
          have hc' := hk c hc
          rw [h5] at hc'
          have n5 : c.k ≠ 5 := fun e => (hc'.parts (Or.inr e)).1 e
          simp [among, n5]
        · have hk0 := hf.k0
          have hk6 := hf.k6
          have hs := hf.alone (by omega)
          rw [hs] at hsl
          rcases hsl with ⟨_, a, c, rfl⟩ | ⟨hl, _⟩
          · exact fit_small t.k (by omega) a c w
          · exact absurd rfl hl

set_option maxRecDepth 100000 in
theorem canLie_spec (n : Nat) : ∀ (within : Int) (t : Tree) (cs : Array Value) (B : Nat → Prop) (deep : Nat) (w : World), At w B t cs → Good n within t → deep + n ≤ 101 →
    Calls Try.prog 20 #[.agg cs, .int .i64 deep] w fun e w' => e = .returned (.bool true) ∧ Below w.heap.size w w' := by
  induction n with
  | zero => intro within t cs B deep w _ hg _; exact hg.elim
  | succ n ih =>
    intro within t cs B deep w h hg hd
    have HT := Lib.hid h
    have HF := Lib.hid fun (w : World) (h : At w B t cs) => isFit_spec within t cs B w h hg.1 fun c hc => (hg.2 c hc).fit
    obtain ⟨sl, rfl, hsl⟩ := h.open
    have HI := Lib.hid ih; clear ih
    have HG := Lib.hid hg.2
    have hfew := hg.1.few
    have hdeep : deep ≤ 100 := by omega
    have hsh := hsl.shape
    clear hg
    go_enter Try.func20, Try.ntmps20
    go_upto_region 1 with (fail)
    obtain ⟨W, hW, hX, hB, _⟩ := re_box w (reC t.k t.f t.lo t.hi sl)
    rw [← hW]
    clear hW
    obtain ⟨c0, c1, c2, c3, c4, c5, c6, c7⟩ := eight_re hX.out.eight
    have HF1 := Lib.hid (HF.out W (HT.out.after hB.out))
    have hs1 := Lib.hid (hsl.after hB.out)
    clear hsl
    go_wp2_with fail
    refine HF1.out.mono ?_
    rintro e w1 ⟨rfl, b1⟩
    have X1 := Lib.hid (hX.out.after b1)
    have S1 := Lib.hid (hs1.out.after b1)
    have B1 := Lib.hid (Below.step hB.out b1)
    clear b1 c0 c1 c2 c3 c4 c5 c6 c7
    obtain ⟨c0, c1, c2, c3, c4, c5, c6, c7⟩ := eight_re X1.out.eight
    obtain ⟨a, c, rfl⟩ := hsh
    go_wp2_with fail
    go_loopw [17] (fun y wr => ∃ i : Nat, y = .int .i64 i ∧ i ≤ t.kids.length ∧ Hid (Below w1.heap.size w1 wr)) (fun y _ => t.kids.length - (intOf y).toNat)
    case atStart => exact ⟨0, rfl, by omega, Lib.hid (Below.refl _ _)⟩
    case round =>
      obtain ⟨i, rfl, hi, hb⟩ := hrel
      clear c0 c1 c2 c3 c4 c5 c6 c7
      by_cases hgo : i < t.kids.length
      · rcases S1.out with ⟨e, _⟩ | ⟨hl, b, off, c', cs, e, hc, hBb, h8, hat⟩
        · rw [e] at hgo; exact absurd hgo (by simp)
        · simp only [Value.slice.injEq] at e
          obtain ⟨rfl, _, rfl⟩ := e
          have hT := hat i hgo
          have hT' := hT.after hb.out
          obtain ⟨ai, ci, e, _⟩ := hT.opens
          have h8i := (h8 i hgo).after hT.size hb.out
          rw [e] at h8i hT'
          obtain ⟨c0, c1, c2, c3, c4, c5, c6, c7⟩ := eight_re h8i
          have hT2 := hT'.after (below_new wr (.cells (reC t.kids[i].k t.kids[i].f t.kids[i].lo t.kids[i].hi (.slice ai t.kids[i].kids.length ci)) 28))
          have HC := Lib.hid (HI.out t.k t.kids[i] _ B (deep + 1) _ hT2 (HG.out _ (List.getElem_mem hgo)) (by omega))
          have BX := Lib.hid (Below.step hb.out (below_new wr (.cells (reC t.kids[i].k t.kids[i].f t.kids[i].lo t.kids[i].hi (.slice ai t.kids[i].kids.length ci)) 28)))
          clear h8i e hT hT' hT2 h8 hat
          go_upto_region 6 with (fail)
          obtain ⟨V, hV, hY, _, _⟩ := re_box wr (reC t.kids[i].k t.kids[i].f t.kids[i].lo t.kids[i].hi (.slice ai t.kids[i].kids.length ci))
          change Code.wp _ _ _ _ (wr.alloc (Obj.cells (reC t.kids[i].k t.kids[i].f t.kids[i].lo t.kids[i].hi (.slice ai t.kids[i].kids.length ci)) 28))
          rw [← hV]
          rw [← hV] at HC BX
          clear hV c0 c1 c2 c3 c4 c5 c6 c7
          obtain ⟨c0, c1, c2, c3, c4, c5, c6, c7⟩ := eight_re hY.out.eight
          go_wp2_with fail
          refine HC.out.mono ?_
          rintro e w2 ⟨rfl, b2⟩
          have B2 := Lib.hid (Below.step BX.out b2)
          clear b2
          go_wp2_with fail
          go_roundw
          case rel => exact ⟨i + 1, by go_num, by omega, B2⟩
          case measure => simp [intOf]; omega
      · have hi' : i = t.kids.length := by omega
        subst hi'
        go_wp2_with fail
        go_ret
        exact ⟨rfl, Below.step B1.out hb.out⟩

set_option maxRecDepth 100000 in
theorem can_spec (t : Tree) (cs : Array Value) (B : Nat → Prop) (w : World) (h : At w B t cs) (hg : Good 100 (-1) t) :
    Calls Try.prog 13 #[.agg cs] w fun e w' => e = .returned (.bool true) ∧ Below w.heap.size w w' := by
  obtain ⟨W, hW, hX, hB, _⟩ := re_box w cs
  have HC := Lib.hid (canLie_spec 100 (-1) t cs B 0 W (h.after hB.out) hg (by omega))
  obtain ⟨a, c, rfl, _⟩ := h.opens
  clear h hg
  go_enter Try.func13, Try.ntmps13
  go_upto_region 1 with (fail)
  rw [← hW]
  clear hW
  obtain ⟨c0, c1, c2, c3, c4, c5, c6, c7⟩ := eight_re hX.out.eight
  go_wp2_with fail
  refine HC.out.mono ?_
  rintro e w1 ⟨rfl, b1⟩
  have B1 := Lib.hid (Below.step hB.out b1)
  clear b1
  go_wp2_with fail
  go_ret
  exact ⟨rfl, B1.out⟩
end Go.Proofs.Ytbojoiacedhjiaa
