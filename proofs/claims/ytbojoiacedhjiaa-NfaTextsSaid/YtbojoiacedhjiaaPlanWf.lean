/- A plan that is not too great can be laid: plain Lean. -/
import Derived.Test.YtbojoiacedhjiaaLay
import Derived.Test.YtbojoiacedhjiaaPlanW
namespace Go.Proofs.Ytbojoiacedhjiaa
open Go.RowKit

theorem sumN_snoc (l : List Plan) (q : Plan) : sumN (l ++ [q]) = sumN l + q.n := by simp [sumN]
/-- What the parts' plans are. -/
structure PtI (pl : Tree → Plan) (k : Int) (l : List Tree) (b n : Nat) (ps : List Plan) : Prop where
  sum : n = b + sumN ps
  mem : ∀ q, q ∈ ps → ∃ t, t ∈ l ∧ q = pl t
  pos : k = 4 → ∀ q, q ∈ ps → 0 < q.n
theorem partsN_inv (pl : Tree → Plan) (k : Int) (all : List Tree) (b : Nat) (l : List Tree) (hl : ∀ t, t ∈ l → t ∈ all) (n : Nat) (ps : List Plan) (h : PtI pl k all b n ps) : ∀ m qs, partsN pl k l n ps = some (m, qs) → PtI pl k all b m qs ∧ (k ≠ 4 → qs = ps ++ l.map pl) := by
  induction l generalizing n ps with
  | nil => intro m qs e; cases e; exact ⟨h, fun _ => by simp⟩
  | cons t r ih =>
    intro m qs e
    unfold partsN at e
    split at e
    · cases e
    · have ht := hl t List.mem_cons_self
      by_cases hp : 0 < (pl t).n ∨ k ≠ 4
      · rw [if_pos hp] at e
        have h2 : PtI pl k all b (n + (pl t).n) (ps ++ [pl t]) := by
          refine ⟨by rw [sumN_snoc, h.sum]; omega, fun q hq => ?_, fun hk q hq => ?_⟩
          · rcases List.mem_append.1 hq with hq | hq
            · exact h.mem q hq
            · exact ⟨t, ht, List.mem_singleton.1 hq⟩
          · rcases List.mem_append.1 hq with hq | hq
            · exact h.pos hk q hq
            · rw [List.mem_singleton.1 hq]
              rcases hp with hp | hp
              · exact hp
              · exact absurd hk hp
        obtain ⟨h3, h4⟩ := ih (fun u hu => hl u (List.mem_cons_of_mem _ hu)) _ _ h2 m qs e
        exact ⟨h3, fun hk => by rw [h4 hk]; simp⟩
      · rw [if_neg hp] at e
        have h0 : (pl t).n = 0 := by
          rcases Nat.eq_zero_or_pos (pl t).n with h0 | h0
          · exact h0
          · exact absurd (Or.inl h0) hp
        rw [h0, Nat.add_zero] at e
        obtain ⟨h3, _⟩ := ih (fun u hu => hl u (List.mem_cons_of_mem _ hu)) _ _ h m qs e
        exact ⟨h3, fun hk => absurd (Or.inr hk) hp⟩
theorem sumN_ge (l : List Plan) (h : ∀ q, q ∈ l → 0 < q.n) : l.length ≤ sumN l := by
  induction l with
  | nil => simp
  | cons q r ih =>
    have h1 := h q List.mem_cons_self
    have h2 := ih fun q hq => h q (List.mem_cons_of_mem _ hq)
    simp only [sumN, List.map_cons, List.sum_cons, List.length_cons] at h2 ⊢
    omega
theorem sumN_mem (l : List Plan) (q : Plan) (h : q ∈ l) : q.n ≤ sumN l := by
  induction l with
  | nil => cases h
  | cons c r ih =>
    simp only [sumN, List.map_cons, List.sum_cons] at ih ⊢
    rcases List.mem_cons.1 h with rfl | h
    · omega
    · have := ih h; omega
theorem wf_empty (d : Nat) : Wf (d + 1) emptyP := by
  refine ⟨⟨fits_zero, by show (0 : Nat) ≤ 500; omega, by show (0 : Nat) ≤ 499; omega, fun h => ?_, fun h => ?_, fun h => ?_, fun h => ?_⟩, fun c hc => by cases hc⟩
  · have h' : (0 : Int) = 1 ∨ (0 : Int) = 2 ∨ (0 : Int) = 3 := h; omega
  · have h' : (0 : Int) = 4 := h; omega
  · have h' : (0 : Int) = 5 := h; omega
  · have h' : (0 : Int) = 6 := h; omega
theorem planN_wf (d : Nat) : ∀ (within : Int) (t : Tree), Good d within t → (planN d t).n < 500 → Wf d (planN d t) := by
  induction d with
  | zero => intro within t h; exact h.elim
  | succ d ih =>
    intro within t hg hn
    obtain ⟨hf, hk⟩ := hg
    have he : planN (d + 1) t = finishN t (partsN (planN d) t.k t.kids (beginN t) []) := rfl
    rw [he] at hn ⊢
    cases h : partsN (planN d) t.k t.kids (beginN t) [] with
    | none => rw [h] at hn; exact absurd hn (by show ¬ (500 : Nat) < 500; omega)
    | some x =>
      obtain ⟨n, ps⟩ := x
      rw [h] at hn
      obtain ⟨hI, hall⟩ := partsN_inv (planN d) t.k t.kids (beginN t) t.kids (fun _ h => h) (beginN t) [] ⟨by simp [sumN], fun q hq => absurd hq (by simp), fun _ q hq => absurd hq (by simp)⟩ n ps h
      have hn5 : n < 500 := by
        rcases partsN_le _ _ _ _ _ n ps h with h' | ⟨e, rfl⟩
        · exact h'
        · unfold beginN; rw [e]; simp
      unfold finishN at hn ⊢
      simp only at hn ⊢
      by_cases hz : ownN t.k t.lo t.hi n = 0
      · rw [if_pos hz]; exact wf_empty d
      · rw [if_neg hz] at hn ⊢
        have hn' : ownN t.k t.lo t.hi n < 500 := hn
        have hparts : ∀ c, c ∈ ps → Wf d c := by
          intro c hc
          obtain ⟨u, hu, rfl⟩ := hI.mem c hc
          refine ih t.k u (hk u hu) ?_
          have := sumN_mem ps _ hc
          have := hI.sum
          omega
        have hlen : t.k ≠ 4 → ps.length = t.kids.length := fun h4 => by rw [hall h4]; simp
        have hk0 := hf.k0
        have hk6 := hf.k6
        refine ⟨⟨hf.fits, ?_, by show ownN t.k t.lo t.hi n ≤ 499; omega, fun h => ?_, fun h => ?_, fun h => ?_, fun h => ?_⟩, hparts⟩
        · show ps.length ≤ 500
          by_cases h4 : t.k = 4
          · have h1 := sumN_ge ps (hI.pos h4)
            have h2 := hI.sum
            omega
          · rw [hlen h4]
            by_cases h5 : t.k = 5
            · have h2 := hI.sum
              unfold beginN at h2
              rw [if_pos h5] at h2
              omega
            · by_cases h6 : t.k = 6
              · rw [(hf.rep h6).1]; omega
              · rw [hf.alone (by omega)]; simp
        · show 1 ≤ ownN t.k t.lo t.hi n
          omega
        · have h4 : t.k = 4 := h
          show sumN ps ≤ ownN t.k t.lo t.hi n
          unfold ownN
          rw [if_neg (by omega), if_neg (by omega)]
          have := hI.sum
          omega
        · have h5 : t.k = 5 := h
          show ps ≠ [] ∧ sumN ps + ps.length ≤ ownN t.k t.lo t.hi n + 1
          have h2 := (hf.parts (Or.inr h5)).2
          have h3 := hlen (by omega)
          refine ⟨fun e => by rw [e] at h3; simp at h3; omega, ?_⟩
          unfold ownN
          rw [if_neg (by omega), if_neg (by omega), h3]
          have := hI.sum
          unfold beginN at this
          rw [if_pos h5] at this
          omega
        · have h6 : t.k = 6 := h
          obtain ⟨r0, r1, r2, r3⟩ := hf.rep h6
          have h3 := hlen (by omega)
          rw [r0] at h3
          obtain ⟨c, hc⟩ := List.length_eq_one_iff.1 h3
          refine ⟨c, hc, r1, r2, r3, ?_⟩
          show repN c.n t.lo t.hi ≤ ownN t.k t.lo t.hi n
          have hs : n = c.n := by
            have := hI.sum
            unfold beginN at this
            rw [if_neg (by omega), hc] at this
            simp [sumN] at this
            exact this
          unfold ownN at hn' ⊢
          rw [if_neg (by omega), if_pos h6] at hn' ⊢
          rw [← hs]
          omega

/-- A tree without branches. -/
def NoAltT : Nat → Tree → Prop
  | 0, _ => True
  | d + 1, t => t.k ≠ 5 ∧ ∀ c, c ∈ t.kids → NoAltT d c
theorem planN_noAlt (d : Nat) : ∀ t, NoAltT d t → NoAlt d (planN d t) := by
  induction d with
  | zero => intro t _; trivial
  | succ d ih =>
    intro t ht
    show NoAlt (d + 1) (finishN t (partsN (planN d) t.k t.kids (beginN t) []))
    have hE : ∀ k : Int, k ≠ 5 → ∀ f lo hi n, NoAlt (d + 1) (.mk k f lo hi n []) := fun k hk f lo hi n => ⟨hk, fun c hc => by cases hc⟩
    cases h : partsN (planN d) t.k t.kids (beginN t) [] with
    | none => exact hE 0 (by decide) _ _ _ _
    | some x =>
      obtain ⟨n, ps⟩ := x
      obtain ⟨hI, _⟩ := partsN_inv (planN d) t.k t.kids (beginN t) t.kids (fun _ h => h) (beginN t) [] ⟨by simp [sumN], fun q hq => absurd hq (by simp), fun _ q hq => absurd hq (by simp)⟩ n ps h
      unfold finishN
      simp only
      split
      · exact hE 0 (by decide) _ _ _ _
      · refine ⟨ht.1, fun c hc => ?_⟩
        obtain ⟨u, hu, rfl⟩ := hI.mem c hc
        exact ih u (ht.2 u hu)
end Go.Proofs.Ytbojoiacedhjiaa
