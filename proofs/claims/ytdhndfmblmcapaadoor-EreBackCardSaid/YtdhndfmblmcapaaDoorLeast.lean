/- ere.least, Least: walks. -/
import Derived.Test.YtdhndfmblmcapaaDoorCan
namespace Go.Proofs.YtdhndfmblmcapaaDoor
open Go.RowKit

/-- least at that tree, wherever it lies. -/
def Leasts (t : Tree) (v : Int) : Prop :=
  ∀ (w : World) (cs : Array Value) (S : Nat → Prop), At w S t cs → Calls Tryd.prog 21 #[.agg cs] w fun e w' => e = .returned (.int .i64 v) ∧ Below w.heap.size w w'

set_option maxRecDepth 100000 in
theorem leasts_set (f : Nat → Nat) (lo hi : Int) (l : List Tree) : Leasts (.mk 1 f lo hi l) 1 := by
  intro w cs S h
  obtain ⟨a, c, rfl, _⟩ := h.opens
  simp only [Tree.k, Tree.f, Tree.lo, Tree.hi, Tree.kids]
  go_enter Tryd.func21, Tryd.ntmps21
  go_upto_region 1 with (fail)
  obtain ⟨W, hW, hX, hB, hsz⟩ := re_box w (reC 1 f lo hi (.slice a l.length c))
  rw [← hW]
  clear hW
  obtain ⟨c0, c1, c2, c3, c4, c5, c6, c7⟩ := eight_re hX.out.eight
  go_wp2_with fail
  go_ret
  exact ⟨rfl, hB.out⟩

set_option maxRecDepth 100000 in
theorem leasts_empty (f : Nat → Nat) (lo hi : Int) (l : List Tree) : Leasts (.mk 0 f lo hi l) 0 := by
  intro w cs S h
  obtain ⟨a, c, rfl, _⟩ := h.opens
  simp only [Tree.k, Tree.f, Tree.lo, Tree.hi, Tree.kids]
  go_enter Tryd.func21, Tryd.ntmps21
  go_upto_region 1 with (fail)
  obtain ⟨W, hW, hX, hB, hsz⟩ := re_box w (reC 0 f lo hi (.slice a l.length c))
  rw [← hW]
  clear hW
  obtain ⟨c0, c1, c2, c3, c4, c5, c6, c7⟩ := eight_re hX.out.eight
  go_wp2_with fail
  go_ret
  exact ⟨rfl, hB.out⟩

set_option maxRecDepth 100000 in
theorem leasts_cat (f : Nat → Nat) (lo hi : Int) (l : List Tree) (hl : l ≠ []) (hlen : l.length ≤ 1000000) (hk : ∀ t, t ∈ l → Leasts t 1) : Leasts (.mk 4 f lo hi l) l.length := by
  intro w cs S h
  have HK := Lib.hid hk
  obtain ⟨sl, rfl, hsl⟩ := h.open
  simp only [Tree.k, Tree.f, Tree.lo, Tree.hi, Tree.kids] at hsl ⊢
  rcases hsl with ⟨e, _⟩ | ⟨_, b, off, c, cs, rfl, hc, hB, h8, hat⟩
  · exact absurd e hl
  · clear hk h
    go_enter Tryd.func21, Tryd.ntmps21
    go_upto_region 1 with (fail)
    obtain ⟨W, hW, hX, hB, hsz⟩ := re_box w (reC 4 f lo hi (.slice (some ⟨b, off, none⟩) l.length c))
    rw [← hW]
    clear hW
    obtain ⟨c0, c1, c2, c3, c4, c5, c6, c7⟩ := eight_re hX.out.eight
    go_wp2_with fail
    clear c0 c1 c2 c3 c4 c5 c6 c7
    go_loopw [3, 18] (fun x y wr => ∃ i : Nat, y = .int .i64 i ∧ x = .int .i64 i ∧ i ≤ l.length ∧ Hid (Below w.heap.size w wr)) (fun _ y _ => l.length - (intOf y).toNat)
    case atStart => exact ⟨0, rfl, rfl, by omega, hB⟩
    case round =>
      obtain ⟨i, rfl, rfl, hi, hb⟩ := hrel
      by_cases hgo : i < l.length
      · have hT := hat i hgo
        have hT' := hT.after hb.out
        obtain ⟨ai, ci, e, _⟩ := hT.opens
        have h8i := (h8 i hgo).after hT.size hb.out
        rw [e] at h8i hT'
        obtain ⟨c0, c1, c2, c3, c4, c5, c6, c7⟩ := eight_re h8i
        have hT2 := hT'.after (below_new wr (.cells (reC l[i].k l[i].f l[i].lo l[i].hi (.slice ai l[i].kids.length ci)) 27))
        have HC := Lib.hid (HK.out l[i] (List.getElem_mem hgo) _ _ S hT2)
        have BX := Lib.hid (Below.step hb.out (below_new wr (.cells (reC l[i].k l[i].f l[i].lo l[i].hi (.slice ai l[i].kids.length ci)) 27)))
        clear h8i e hT hT' hT2
        go_upto_region 9 with (fail)
        obtain ⟨V, hV, hY, _, _⟩ := re_box wr (reC l[i].k l[i].f l[i].lo l[i].hi (.slice ai l[i].kids.length ci))
        change Code.wp _ _ _ _ (wr.alloc (Obj.cells (reC l[i].k l[i].f l[i].lo l[i].hi (.slice ai l[i].kids.length ci)) 27))
        rw [← hV]
        rw [← hV] at HC BX
        clear hV c0 c1 c2 c3 c4 c5 c6 c7
        obtain ⟨c0, c1, c2, c3, c4, c5, c6, c7⟩ := eight_re hY.out.eight
        go_wp2_with fail
        refine HC.out.mono ?_
        rintro e w2 ⟨rfl, b2⟩
        have B2 := Lib.hid (Below.step BX.out b2)
        clear b2
        go_wp2_with fail
        go_roundw
        case rel => exact ⟨i + 1, by go_num, by go_num, by omega, B2⟩
        case measure => simp [intOf]; omega
      · have hi' : i = l.length := by omega
        subst hi'
        go_wp2_with fail
        go_ret
        exact ⟨rfl, hb.out⟩

theorem keep9 {w0 w1 w2 : World} {g b o : Nat} {x y x0 x1 x2 x3 x4 x5 x6 x7 : Value} (h : Hid (Below w0.heap.size w0 w1) ∧ w1.cell? ⟨g, 5, none⟩ = some x ∧ w1.cell? ⟨g, 7, none⟩ = some y ∧ w1.cell? ⟨b, o, none⟩ = some x0 ∧ w1.cell? ⟨b, o + 1, none⟩ = some x1 ∧ w1.cell? ⟨b, o + 2, none⟩ = some x2 ∧ w1.cell? ⟨b, o + 3, none⟩ = some x3 ∧ w1.cell? ⟨b, o + 4, none⟩ = some x4 ∧ w1.cell? ⟨b, o + 5, none⟩ = some x5 ∧ w1.cell? ⟨b, o + 6, none⟩ = some x6 ∧ w1.cell? ⟨b, o + 7, none⟩ = some x7) (hb : Below w1.heap.size w1 w2) :
    Hid (Below w0.heap.size w0 w2) ∧ w2.cell? ⟨g, 5, none⟩ = some x ∧ w2.cell? ⟨g, 7, none⟩ = some y ∧ w2.cell? ⟨b, o, none⟩ = some x0 ∧ w2.cell? ⟨b, o + 1, none⟩ = some x1 ∧ w2.cell? ⟨b, o + 2, none⟩ = some x2 ∧ w2.cell? ⟨b, o + 3, none⟩ = some x3 ∧ w2.cell? ⟨b, o + 4, none⟩ = some x4 ∧ w2.cell? ⟨b, o + 5, none⟩ = some x5 ∧ w2.cell? ⟨b, o + 6, none⟩ = some x6 ∧ w2.cell? ⟨b, o + 7, none⟩ = some x7 := by
  obtain ⟨h0, h1, h2, k0, k1, k2, k3, k4, k5, k6, k7⟩ := h
  have keep : ∀ {a : Addr} {v : Value}, w1.cell? a = some v → w2.cell? a = some v := fun {a v} e => by rw [hb.cell (p := a) (cell_lt e)]; exact e
  exact ⟨Lib.hid (Below.step h0.out hb), keep h1, keep h2, keep k0, keep k1, keep k2, keep k3, keep k4, keep k5, keep k6, keep k7⟩

set_option maxRecDepth 100000 in
theorem leasts_rep (f : Nat → Nat) (lo hi : Int) (h0 : 0 ≤ lo) (h1 : lo ≤ 50) (t : Tree) (v : Int) (hv : 0 ≤ v) (hv1 : v ≤ 1000000) (hk : Leasts t v) : Leasts (.mk 6 f lo hi [t]) (lo * v) := by
  intro w cs S h
  have HK := Lib.hid hk
  obtain ⟨sl, rfl, hsl⟩ := h.open
  simp only [Tree.k, Tree.f, Tree.lo, Tree.hi, Tree.kids] at hsl ⊢
  rcases hsl with ⟨e, _⟩ | ⟨_, b, off, c, cs, rfl, hc, hB, h8, hat⟩
  · exact absurd e (by simp)
  · clear hk h
    have hT : At w S t (cs 0) := hat 0 (by simp)
    obtain ⟨ai, ci, e, _⟩ := hT.opens
    have h80 : Eight w b off (cs 0) := by have := h8 0 (by simp); rwa [Nat.zero_mul, Nat.add_zero] at this
    rw [e] at h80 hT
    have HK1 := Lib.hid (fun V (hb : Below w.heap.size w V) => HK.out V _ S (hT.after hb))
    clear hat h8 e
    go_enter Tryd.func21, Tryd.ntmps21
    go_upto_region 1 with (fail)
    obtain ⟨W, hW, hX, hB, hsz⟩ := re_box w (reC 6 f lo hi (.slice (some ⟨b, off, none⟩) [t].length c))
    change Code.wp _ _ _ _ (w.alloc (Obj.cells (reC 6 f lo hi (.slice (some ⟨b, off, none⟩) [t].length c)) 27))
    rw [← hW]
    clear hW
    obtain ⟨c0, c1, c2, c3, c4, c5, c6, c7⟩ := eight_re hX.out.eight
    have h8W := h80.keep (hB.out.block b (h80.lt rfl))
    obtain ⟨d0, d1, d2, d3, d4, d5, d6, d7⟩ := eight_re h8W
    have H0 := Lib.hid (show Hid (Below W.heap.size W W) ∧ W.cell? ⟨w.heap.size, 5, none⟩ = some (.int .i64 lo) ∧ W.cell? ⟨w.heap.size, 7, none⟩ = some (.slice (some ⟨b, off, none⟩) [t].length c) ∧ W.cell? ⟨b, off, none⟩ = some (.int .i64 t.k) ∧ W.cell? ⟨b, off + 1, none⟩ = some (.int .u64 (t.f 0)) ∧ W.cell? ⟨b, off + 2, none⟩ = some (.int .u64 (t.f 1)) ∧ W.cell? ⟨b, off + 3, none⟩ = some (.int .u64 (t.f 2)) ∧ W.cell? ⟨b, off + 4, none⟩ = some (.int .u64 (t.f 3)) ∧ W.cell? ⟨b, off + 5, none⟩ = some (.int .i64 t.lo) ∧ W.cell? ⟨b, off + 6, none⟩ = some (.int .i64 t.hi) ∧ W.cell? ⟨b, off + 7, none⟩ = some (.slice ai t.kids.length ci) from
      ⟨Lib.hid (Below.refl _ _), by simpa using c5, by simpa using c7, d0, d1, d2, d3, d4, d5, d6, d7⟩)
    have hm0 : 0 ≤ lo * v := Int.mul_nonneg h0 hv
    have hm1 : lo * v ≤ 50000000 := Int.le_trans (Int.mul_le_mul h1 hv1 hv (by omega)) (by omega)
    have hm : IntKind.i64.wrap (lo * v) = lo * v := IntWalk.i64_in _ (by omega)
    go_upto_region 21 with (fail)
    clear c0 c1 c2 c3 c4 c5 c6 c7 d0 d1 d2 d3 d4 d5 d6 d7 h8W h80 hT
    simp only [List.length_singleton] at H0 ⊢
    go_region_held3 (fun w' => Hid (Below W.heap.size W w') ∧ w'.cell? ⟨w.heap.size, 5, none⟩ = some (.int .i64 lo) ∧ w'.cell? ⟨w.heap.size, 7, none⟩ = some (.slice (some ⟨b, off, none⟩) 1 c) ∧ w'.cell? ⟨b, off, none⟩ = some (.int .i64 t.k) ∧ w'.cell? ⟨b, off + 1, none⟩ = some (.int .u64 (t.f 0)) ∧ w'.cell? ⟨b, off + 2, none⟩ = some (.int .u64 (t.f 1)) ∧ w'.cell? ⟨b, off + 3, none⟩ = some (.int .u64 (t.f 2)) ∧ w'.cell? ⟨b, off + 4, none⟩ = some (.int .u64 (t.f 3)) ∧ w'.cell? ⟨b, off + 5, none⟩ = some (.int .i64 t.lo) ∧ w'.cell? ⟨b, off + 6, none⟩ = some (.int .i64 t.hi) ∧ w'.cell? ⟨b, off + 7, none⟩ = some (.slice ai t.kids.length ci))
      (first | exact keep9 H0.out (below_drew _) | exact keep9 (by assumption) (by assumption) | assumption)
      (first | (go_at_call 21; refine (HK1.out _ ?_).mono ?_; exact Below.step hB.out (below_drew _); rintro e w1 ⟨rfl, b1⟩))
    have HE := Lib.hid (And.left (show Hid (Below W.heap.size W _) ∧ _ by assumption))
    go_wp2_with fail
    go_ret
    exact ⟨rfl, Below.step hB.out HE.out.out⟩

set_option maxRecDepth 100000 in
theorem leasts_two (f : Nat → Nat) (lo hi : Int) (t u : Tree) (v x : Int) (ht : Leasts t v) (hu : Leasts u x) : Leasts (.mk 5 f lo hi [t, u]) (min v x) := by
  intro w cs S h
  have HT := Lib.hid ht
  have HU := Lib.hid hu
  obtain ⟨sl, rfl, hsl⟩ := h.open
  simp only [Tree.k, Tree.f, Tree.lo, Tree.hi, Tree.kids] at hsl ⊢
  rcases hsl with ⟨e, _⟩ | ⟨_, b, off, c, cs, rfl, hc, hB, h8, hat⟩
  · exact absurd e (by simp)
  · clear ht hu h
    have A0 : At w S t (cs 0) := hat 0 (by simp)
    have A1 : At w S u (cs 1) := hat 1 (by simp)
    obtain ⟨a0, k0, e0, _⟩ := A0.opens
    obtain ⟨a1, k1, e1, _⟩ := A1.opens
    have E0 : Eight w b off (cs 0) := by have := h8 0 (by simp); rwa [Nat.zero_mul, Nat.add_zero] at this
    have E1 : Eight w b (off + 8) (cs 1) := by have := h8 1 (by simp); rwa [Nat.one_mul] at this
    rw [e0] at E0 A0
    rw [e1] at E1 A1
    have hbl := E0.lt rfl
    have HA0 := Lib.hid A0
    have HA1 := Lib.hid A1
    have HE0 := Lib.hid E0
    have HE1 := Lib.hid E1
    have hc2 : 2 ≤ c := hc
    clear hat h8 e0 e1 A0 A1 E0 E1 hc
    go_enter Tryd.func21, Tryd.ntmps21
    go_upto_region 1 with (fail)
    obtain ⟨W, hW, hX, hB, hsz⟩ := re_box w (reC 5 f lo hi (.slice (some ⟨b, off, none⟩) 2 c))
    change Code.wp _ _ _ _ (w.alloc (Obj.cells (reC 5 f lo hi (.slice (some ⟨b, off, none⟩) 2 c)) 27))
    rw [← hW]
    clear hW
    obtain ⟨c0, c1, c2, c3, c4, c5, c6, c7⟩ := eight_re hX.out.eight
    obtain ⟨d0, d1, d2, d3, d4, d5, d6, d7⟩ := eight_re (HE0.out.keep (hB.out.block b hbl))
    have H1 := Lib.hid (HT.out W _ S (HA0.out.after hB.out))
    go_wp2_with fail
    refine H1.out.mono ?_
    rintro e w1 ⟨rfl, b1⟩
    have X1 := Lib.hid (hX.out.after b1)
    have B1 := Lib.hid (Below.step hB.out b1)
    clear b1 c0 c1 c2 c3 c4 c5 c6 c7 d0 d1 d2 d3 d4 d5 d6 d7
    obtain ⟨c0, c1, c2, c3, c4, c5, c6, c7⟩ := eight_re X1.out.eight
    go_wp2_with fail
    refine wp_loop_rounds 2 ?_
    rw [rounds_succ]
    clear c0 c1 c2 c3 c4 c5 c6 c7
    obtain ⟨d0, d1, d2, d3, d4, d5, d6, d7⟩ := eight_re (HE1.out.keep (B1.out.block b hbl))
    go_upto_region 17 with (fail)
    obtain ⟨V, hV, hY, hBV, _⟩ := re_box w1 (reC u.k u.f u.lo u.hi (.slice a1 u.kids.length k1))
    change Code.wp _ _ _ _ (w1.alloc (Obj.cells (reC u.k u.f u.lo u.hi (.slice a1 u.kids.length k1)) 27))
    rw [← hV]
    clear hV d0 d1 d2 d3 d4 d5 d6 d7
    have B2 := Lib.hid (Below.step B1.out hBV.out)
    have H2 := Lib.hid (HU.out V _ S (HA1.out.after B2.out))
    obtain ⟨d0, d1, d2, d3, d4, d5, d6, d7⟩ := eight_re hY.out.eight
    go_wp2_with fail
    refine H2.out.mono ?_
    rintro e w3 ⟨rfl, b3⟩
    have B3 := Lib.hid (Below.step B2.out b3)
    clear b3
    go_wp2_with fail
    rw [rounds_succ]
    clear d0 d1 d2 d3 d4 d5 d6 d7
    go_wp2_with fail
    go_ret
    exact ⟨rfl, B3.out⟩

set_option maxRecDepth 100000 in
theorem least_spec (t : Tree) (v : Int) (hl : Leasts t v) (cs : Array Value) (S : Nat → Prop) (w : World) (h : At w S t cs) (hg : Good 100 (-1) t) :
    Calls Tryd.prog 10 #[.agg cs] w fun e w' => e = .returned (.int .i64 v) ∧ Below w.heap.size w w' := by
  have HL := Lib.hid hl
  have HG := Lib.hid hg
  have A0 := Lib.hid h
  obtain ⟨a, c, rfl, _⟩ := h.opens
  clear hl hg h
  go_enter Tryd.func10, Tryd.ntmps10
  go_upto_region 1 with (fail)
  obtain ⟨W, hW, hX, hB, hsz⟩ := re_box w (reC t.k t.f t.lo t.hi (.slice a t.kids.length c))
  rw [← hW]
  clear hW
  have A1 := Lib.hid (A0.out.after hB.out)
  have HC := Lib.hid (can_spec t _ _ W A1.out HG.out)
  obtain ⟨c0, c1, c2, c3, c4, c5, c6, c7⟩ := eight_re hX.out.eight
  go_wp2_with fail
  refine HC.out.mono ?_
  rintro e w1 ⟨rfl, b1⟩
  have X1 := Lib.hid (hX.out.after b1)
  have B1 := Lib.hid (Below.step hB.out b1)
  have A2 := Lib.hid (A1.out.after b1)
  clear b1 c0 c1 c2 c3 c4 c5 c6 c7
  have HQ := Lib.hid (HL.out w1 _ S A2.out)
  obtain ⟨c0, c1, c2, c3, c4, c5, c6, c7⟩ := eight_re X1.out.eight
  go_wp2_with fail
  refine HQ.out.mono ?_
  rintro e w2 ⟨rfl, b2⟩
  have B2 := Lib.hid (Below.step B1.out b2)
  clear b2
  go_wp2_with fail
  go_ret
  exact ⟨rfl, B2.out⟩
end Go.Proofs.YtdhndfmblmcapaaDoor
