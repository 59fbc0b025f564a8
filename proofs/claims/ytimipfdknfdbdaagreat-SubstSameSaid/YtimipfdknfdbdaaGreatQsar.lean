/- Merged by program: PlanWf, CanAny. -/
import Derived.Test.YtimipfdknfdbdaaGreatQsaq
import Derived.Test.YtimipfdknfdbdaaGreatQsag
/- A plan that is not too great can be laid: plain Lean. -/
namespace Go.Proofs.YtimipfdknfdbdaaGreat
open Go.RowKit

theorem sumN_snoc (l : List Plan) (q : Plan) : sumN (l ++ [q]) = sumN l + q.n := by simp [sumN]
/-- What the parts' plans are. -/
structure PtI (pl : Tree → Plan) (k : Int) (l : List Tree) (b n : Nat) (ps : List Plan) : Prop where
  sum : n = b + sumN ps
  mem : ∀ q, q ∈ ps → ∃ t, t ∈ l ∧ q = pl t
  pos : k = 4 → ∀ q, q ∈ ps → 0 < q.n
theorem partsN_inv (pl : Tree → Plan) (k : Int) (all : List Tree) (b : Nat) (l : List Tree) (hl : ∀ t, t ∈ l → t ∈ all) (n : Nat) (ps : List Plan) (h : PtI pl k all b n ps) : ∀ m qs, partsN pl k l n ps = some (m, qs) → PtI pl k all b m qs ∧ (k ≠ 4 → qs = ps ++ l.map pl) := by
  induction l generalizing n ps with
  | nil => intro m qs e; cases e; exact ⟨h, fun _ => by simp⟩
  | cons t r ih =>
    intro m qs e
    unfold partsN at e
    split at e
    · cases e
    · have ht := hl t List.mem_cons_self
      by_cases hp : 0 < (pl t).n ∨ k ≠ 4
      · rw [if_pos hp] at e
        have h2 : PtI pl k all b (n + (pl t).n) (ps ++ [pl t]) := by
          refine ⟨by rw [sumN_snoc, h.sum]; omega, fun q hq => ?_, fun hk q hq => ?_⟩
          · rcases List.mem_append.1 hq with hq | hq
            · exact h.mem q hq
            · exact ⟨t, ht, List.mem_singleton.1 hq⟩
          · rcases List.mem_append.1 hq with hq | hq
            · exact h.pos hk q hq
            · rw [List.mem_singleton.1 hq]
              rcases hp with hp | hp
              · exact hp
              · exact absurd hk hp
        obtain ⟨h3, h4⟩ := ih (fun u hu => hl u (List.mem_cons_of_mem _ hu)) _ _ h2 m qs e
        exact ⟨h3, fun hk => by rw [h4 hk]; simp⟩
      · rw [if_neg hp] at e
        have h0 : (pl t).n = 0 := by
          rcases Nat.eq_zero_or_pos (pl t).n with h0 | h0
          · exact h0
          · exact absurd (Or.inl h0) hp
        rw [h0, Nat.add_zero] at e
        obtain ⟨h3, _⟩ := ih (fun u hu => hl u (List.mem_cons_of_mem _ hu)) _ _ h m qs e
        exact ⟨h3, fun hk => absurd (Or.inr hk) hp⟩
theorem sumN_ge (l : List Plan) (h : ∀ q, q ∈ l → 0 < q.n) : l.length ≤ sumN l := by
  induction l with
  | nil => simp
  | cons q r ih =>
    have h1 := h q List.mem_cons_self
    have h2 := ih fun q hq => h q (List.mem_cons_of_mem _ hq)
    simp only [sumN, List.map_cons, List.sum_cons, List.length_cons] at h2 ⊢
    omega
theorem sumN_mem (l : List Plan) (q : Plan) (h : q ∈ l) : q.n ≤ sumN l := by
  induction l with
  | nil => cases h
  | cons c r ih =>
    simp only [sumN, List.map_cons, List.sum_cons] at ih ⊢
    rcases List.mem_cons.1 h with rfl | h
    · omega
    · have := ih h; omega
theorem wf_empty (d : Nat) : Wf (d + 1) emptyP := by
  refine ⟨⟨fits_zero, by show (0 : Nat) ≤ 500; omega, by show (0 : Nat) ≤ 499; omega, fun h => ?_, fun h => ?_, fun h => ?_, fun h => ?_⟩, fun c hc => by cases hc⟩
  · have h' : (0 : Int) = 1 ∨ (0 : Int) = 2 ∨ (0 : Int) = 3 := h; omega
  · have h' : (0 : Int) = 4 := h; omega
  · have h' : (0 : Int) = 5 := h; omega
  · have h' : (0 : Int) = 6 := h; omega
theorem planN_wf (d : Nat) : ∀ (within : Int) (t : Tree), Good d within t → (planN d t).n < 500 → Wf d (planN d t) := by
  induction d with
  | zero => intro within t h; exact h.elim
  | succ d ih =>
    intro within t hg hn
    obtain ⟨hf, hk⟩ := hg
    have he : planN (d + 1) t = finishN t (partsN (planN d) t.k t.kids (beginN t) []) := rfl
    rw [he] at hn ⊢
    cases h : partsN (planN d) t.k t.kids (beginN t) [] with
    | none => rw [h] at hn; exact absurd hn (by show ¬ (500 : Nat) < 500; omega)
    | some x =>
      obtain ⟨n, ps⟩ := x
      rw [h] at hn
      obtain ⟨hI, hall⟩ := partsN_inv (planN d) t.k t.kids (beginN t) t.kids (fun _ h => h) (beginN t) [] ⟨by simp [sumN], fun q hq => absurd hq (by simp), fun _ q hq => absurd hq (by simp)⟩ n ps h
      have hn5 : n < 500 := by
        rcases partsN_le _ _ _ _ _ n ps h with h' | ⟨e, rfl⟩
        · exact h'
        · unfold beginN; rw [e]; simp
      unfold finishN at hn ⊢
      simp only at hn ⊢
      by_cases hz : ownN t.k t.lo t.hi n = 0
      · rw [if_pos hz]; exact wf_empty d
      · rw [if_neg hz] at hn ⊢
        have hn' : ownN t.k t.lo t.hi n < 500 := hn
        have hparts : ∀ c, c ∈ ps → Wf d c := by
          intro c hc
          obtain ⟨u, hu, rfl⟩ := hI.mem c hc
          refine ih t.k u (hk u hu) ?_
          have := sumN_mem ps _ hc
          have := hI.sum
          omega
        have hlen : t.k ≠ 4 → ps.length = t.kids.length := fun h4 => by rw [hall h4]; simp
        have hk0 := hf.k0
        have hk6 := hf.k6
        refine ⟨⟨hf.fits, ?_, by show ownN t.k t.lo t.hi n ≤ 499; omega, fun h => ?_, fun h => ?_, fun h => ?_, fun h => ?_⟩, hparts⟩
        · show ps.length ≤ 500
          by_cases h4 : t.k = 4
          · have h1 := sumN_ge ps (hI.pos h4)
            have h2 := hI.sum
            omega
          · rw [hlen h4]
            by_cases h5 : t.k = 5
            · have h2 := hI.sum
              unfold beginN at h2
              rw [if_pos h5] at h2
              omega
            · by_cases h6 : t.k = 6
              · rw [(hf.rep h6).1]; omega
              · rw [hf.alone (by omega)]; simp
        · show 1 ≤ ownN t.k t.lo t.hi n
          omega
        · have h4 : t.k = 4 := h
          show sumN ps ≤ ownN t.k t.lo t.hi n
          unfold ownN
          rw [if_neg (by omega), if_neg (by omega)]
          have := hI.sum
          omega
        · have h5 : t.k = 5 := h
          show ps ≠ [] ∧ sumN ps + ps.length ≤ ownN t.k t.lo t.hi n + 1
          have h2 := (hf.parts (Or.inr h5)).2
          have h3 := hlen (by omega)
          refine ⟨fun e => by rw [e] at h3; simp at h3; omega, ?_⟩
          unfold ownN
          rw [if_neg (by omega), if_neg (by omega), h3]
          have := hI.sum
          unfold beginN at this
          rw [if_pos h5] at this
          omega
        · have h6 : t.k = 6 := h
          obtain ⟨r0, r1, r2, r3⟩ := hf.rep h6
          have h3 := hlen (by omega)
          rw [r0] at h3
          obtain ⟨c, hc⟩ := List.length_eq_one_iff.1 h3
          refine ⟨c, hc, r1, r2, r3, ?_⟩
          show repN c.n t.lo t.hi ≤ ownN t.k t.lo t.hi n
          have hs : n = c.n := by
            have := hI.sum
            unfold beginN at this
            rw [if_neg (by omega), hc] at this
            simp [sumN] at this
            exact this
          unfold ownN at hn' ⊢
          rw [if_neg (by omega), if_pos h6] at hn' ⊢
          rw [← hs]
          omega

end Go.Proofs.YtimipfdknfdbdaaGreat

/- ere.canLie, ere.Can at trees of any depth: walks. -/
namespace Go.Proofs.YtimipfdknfdbdaaGreat
open Go.RowKit

/-- A tree that can be, but perhaps for its depth. -/
inductive Fine : Int → Tree → Prop
  | mk (within : Int) (t : Tree) (h : FitT within t) (hk : ∀ c, c ∈ t.kids → Fine t.k c) : Fine within t
theorem Fine.fit {within : Int} {t : Tree} (h : Fine within t) : FitT within t := by cases h; assumption
theorem Fine.kid {within : Int} {t : Tree} (h : Fine within t) : ∀ c, c ∈ t.kids → Fine t.k c := by cases h; assumption

def CanAns (G : Prop) (w : World) (e : Ending) (w' : World) : Prop := ∃ b : Bool, e = .returned (.bool b) ∧ Hid (b = true → G) ∧ Below w.heap.size w w'

set_option maxRecDepth 100000 in
theorem canLie_any (n : Nat) : ∀ (within : Int) (t : Tree) (cs : Array Value) (B : Nat → Prop) (deep : Nat) (w : World), At w B t cs → Fine within t → deep + n = 101 →
    Calls Tryz.prog 35 #[.agg cs, .int .i64 deep] w (CanAns (Good n within t) w) := by
  induction n with
  | zero =>
    intro within t cs B deep w h _ hd
    obtain rfl : deep = 101 := by omega
    obtain ⟨a, c, rfl, _⟩ := h.opens
    clear h
    go_enter Tryz.func35, Tryz.ntmps35
    go_upto_region 1 with (fail)
    obtain ⟨W, hW, hX, hB, _⟩ := re_box w (reC t.k t.f t.lo t.hi (.slice a t.kids.length c))
    rw [← hW]
    clear hW
    go_wp2_with fail
    go_ret
    exact ⟨false, rfl, Lib.hid (fun h => absurd h (by decide)), hB.out⟩
  | succ n ih =>
    intro within t cs B deep w h hg hd
    have HT := Lib.hid h
    have HF := Lib.hid fun (w : World) (h : At w B t cs) => isFit_spec within t cs B w h hg.fit fun c hc => (hg.kid c hc).fit
    obtain ⟨sl, rfl, hsl⟩ := h.open
    have HI := Lib.hid ih; clear ih
    have HG := Lib.hid hg.kid
    have HFit := Lib.hid hg.fit
    have hfew := hg.fit.few
    have hdeep : deep ≤ 100 := by omega
    have hsh := hsl.shape
    clear hg
    go_enter Tryz.func35, Tryz.ntmps35
    go_upto_region 1 with (fail)
    obtain ⟨W, hW, hX, hB, _⟩ := re_box w (reC t.k t.f t.lo t.hi sl)
    rw [← hW]
    clear hW
    obtain ⟨c0, c1, c2, c3, c4, c5, c6, c7⟩ := eight_re hX.out.eight
    have HF1 := Lib.hid (HF.out W (HT.out.after hB.out))
    have hs1 := Lib.hid (hsl.after hB.out)
    clear hsl
    go_wp2_with fail
    refine HF1.out.mono ?_
    rintro e w1 ⟨rfl, b1⟩
    have X1 := Lib.hid (hX.out.after b1)
    have S1 := Lib.hid (hs1.out.after b1)
    have B1 := Lib.hid (Below.step hB.out b1)
    clear b1 c0 c1 c2 c3 c4 c5 c6 c7
    obtain ⟨c0, c1, c2, c3, c4, c5, c6, c7⟩ := eight_re X1.out.eight
    obtain ⟨a, c, rfl⟩ := hsh
    go_wp2_with fail
    go_loopw [17] (fun y wr => ∃ i : Nat, y = .int .i64 i ∧ i ≤ t.kids.length ∧ Hid (Below w1.heap.size w1 wr) ∧ Hid (∀ j (hj : j < t.kids.length), j < i → Good n t.k t.kids[j])) (fun y _ => t.kids.length - (intOf y).toNat)
    case atStart => exact ⟨0, rfl, by omega, Lib.hid (Below.refl _ _), Lib.hid (fun j _ h => by omega)⟩
    case round =>
      obtain ⟨i, rfl, hi, hb, hall⟩ := hrel
      clear c0 c1 c2 c3 c4 c5 c6 c7
      by_cases hgo : i < t.kids.length
      · rcases S1.out with ⟨e, _⟩ | ⟨hl, b, off, c', cs, e, hc, hBb, h8, hat⟩
        · rw [e] at hgo; exact absurd hgo (by simp)
        · simp only [Value.slice.injEq] at e
          obtain ⟨rfl, _, rfl⟩ := e
          have hT := hat i hgo
          have hT' := hT.after hb.out
          obtain ⟨ai, ci, e, _⟩ := hT.opens
          have h8i := (h8 i hgo).after hT.size hb.out
          rw [e] at h8i hT'
          obtain ⟨c0, c1, c2, c3, c4, c5, c6, c7⟩ := eight_re h8i
          have hT2 := hT'.after (below_new wr (.cells (reC t.kids[i].k t.kids[i].f t.kids[i].lo t.kids[i].hi (.slice ai t.kids[i].kids.length ci)) 38))
          have HC := Lib.hid (HI.out t.k t.kids[i] _ B (deep + 1) _ hT2 (HG.out _ (List.getElem_mem hgo)) (by omega))
          have BX := Lib.hid (Below.step hb.out (below_new wr (.cells (reC t.kids[i].k t.kids[i].f t.kids[i].lo t.kids[i].hi (.slice ai t.kids[i].kids.length ci)) 38)))
          clear h8i e hT hT' hT2 h8 hat
          go_upto_region 6 with (fail)
          obtain ⟨V, hV, hY, _, _⟩ := re_box wr (reC t.kids[i].k t.kids[i].f t.kids[i].lo t.kids[i].hi (.slice ai t.kids[i].kids.length ci))
          change Code.wp _ _ _ _ (wr.alloc (Obj.cells (reC t.kids[i].k t.kids[i].f t.kids[i].lo t.kids[i].hi (.slice ai t.kids[i].kids.length ci)) 38))
          rw [← hV]
          rw [← hV] at HC BX
          clear hV c0 c1 c2 c3 c4 c5 c6 c7
          obtain ⟨c0, c1, c2, c3, c4, c5, c6, c7⟩ := eight_re hY.out.eight
          go_wp2_with fail
          refine HC.out.mono ?_
          rintro e w2 ⟨bb, rfl, hbb, b2⟩
          have B2 := Lib.hid (Below.step BX.out b2)
          clear b2
          cases bb with
          | false =>
            go_wp2_with fail
            go_ret
            exact ⟨false, rfl, Lib.hid (fun h => absurd h (by decide)), Below.step B1.out B2.out⟩
          | true =>
            have HA : Hid (∀ j (hj : j < t.kids.length), j < i + 1 → Good n t.k t.kids[j]) := Lib.hid (fun j hj hji => by
              by_cases e : j = i
              · subst e; exact hbb.out rfl
              · exact hall.out j hj (by omega))
            clear hall hbb
            go_wp2_with fail
            go_roundw
            case rel => exact ⟨i + 1, by go_num, by omega, B2, HA⟩
            case measure => simp [intOf]; omega
      · have hi' : i = t.kids.length := by omega
        subst hi'
        go_wp2_with fail
        go_ret
        refine ⟨true, rfl, Lib.hid (fun _ => ⟨HFit.out, fun c hc => ?_⟩), Below.step B1.out hb.out⟩
        obtain ⟨j, hj, rfl⟩ := List.mem_iff_getElem.1 hc
        exact hall.out j hj hj

set_option maxRecDepth 100000 in
/-- It may say yes of 101 storeys, too; of a tree that is planned no more than that is asked. -/
theorem can_any (t : Tree) (cs : Array Value) (B : Nat → Prop) (w : World) (h : At w B t cs) (hg : Fine (-1) t) :
    Calls Tryz.prog 19 #[.agg cs] w (CanAns (Good 101 (-1) t) w) := by
  obtain ⟨W, hW, hX, hB, _⟩ := re_box w cs
  have HC := Lib.hid (canLie_any 101 (-1) t cs B 0 W (h.after hB.out) hg (by omega))
  obtain ⟨a, c, rfl, _⟩ := h.opens
  clear h hg
  go_enter Tryz.func19, Tryz.ntmps19
  go_upto_region 1 with (fail)
  rw [← hW]
  clear hW
  obtain ⟨c0, c1, c2, c3, c4, c5, c6, c7⟩ := eight_re hX.out.eight
  go_wp2_with fail
  refine HC.out.mono ?_
  rintro e w1 ⟨b, rfl, hb, b1⟩
  have B1 := Lib.hid (Below.step hB.out b1)
  clear b1
  go_wp2_with fail
  go_ret
  exact ⟨b, rfl, hb, B1.out⟩
end Go.Proofs.YtimipfdknfdbdaaGreat
