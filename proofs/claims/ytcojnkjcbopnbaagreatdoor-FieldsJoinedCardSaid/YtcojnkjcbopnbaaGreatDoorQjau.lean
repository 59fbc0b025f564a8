/- Merged by program: PlanWf, CanAny, LayOk, NBuild. -/
import Derived.Deep.RegionWith
import Derived.Test.YtcojnkjcbopnbaaGreatDoorQjat
import Derived.Test.YtcojnkjcbopnbaaGreatDoorQjak
import Derived.Test.YtcojnkjcbopnbaaGreatDoorQjal
import Derived.Test.YtcojnkjcbopnbaaGreatDoorQjam
/- A plan that is not too great can be laid: plain Lean. -/
namespace Go.Proofs.YtcojnkjcbopnbaaGreatDoor
open Go.RowKit

theorem sumN_snoc (l : List Plan) (q : Plan) : sumN (l ++ [q]) = sumN l + q.n := by simp [sumN]
/-- What the parts' plans are. -/
structure PtI (pl : Tree → Plan) (k : Int) (l : List Tree) (b n : Nat) (ps : List Plan) : Prop where
  sum : n = b + sumN ps
  mem : ∀ q, q ∈ ps → ∃ t, t ∈ l ∧ q = pl t
  pos : k = 4 → ∀ q, q ∈ ps → 0 < q.n
theorem partsN_inv (pl : Tree → Plan) (k : Int) (all : List Tree) (b : Nat) (l : List Tree) (hl : ∀ t, t ∈ l → t ∈ all) (n : Nat) (ps : List Plan) (h : PtI pl k all b n ps) : ∀ m qs, partsN pl k l n ps = some (m, qs) → PtI pl k all b m qs ∧ (k ≠ 4 → qs = ps ++ l.map pl) := by
  induction l generalizing n ps with
  | nil => intro m qs e; cases e; exact ⟨h, fun _ => by simp⟩
  | cons t r ih =>
    intro m qs e
    unfold partsN at e
    split at e
    · cases e
    · have ht := hl t List.mem_cons_self
      by_cases hp : 0 < (pl t).n ∨ k ≠ 4
      · rw [if_pos hp] at e
        have h2 : PtI pl k all b (n + (pl t).n) (ps ++ [pl t]) := by
          refine ⟨by rw [sumN_snoc, h.sum]; omega, fun q hq => ?_, fun hk q hq => ?_⟩
          · rcases List.mem_append.1 hq with hq | hq
            · exact h.mem q hq
            · exact ⟨t, ht, List.mem_singleton.1 hq⟩
          · rcases List.mem_append.1 hq with hq | hq
            · exact h.pos hk q hq
            · rw [List.mem_singleton.1 hq]
              rcases hp with hp | hp
              · exact hp
              · exact absurd hk hp
        obtain ⟨h3, h4⟩ := ih (fun u hu => hl u (List.mem_cons_of_mem _ hu)) _ _ h2 m qs e
        exact ⟨h3, fun hk => by rw [h4 hk]; simp⟩
      · rw [if_neg hp] at e
        have h0 : (pl t).n = 0 := by
          rcases Nat.eq_zero_or_pos (pl t).n with h0 | h0
          · exact h0
          · exact absurd (Or.inl h0) hp
        rw [h0, Nat.add_zero] at e
        obtain ⟨h3, _⟩ := ih (fun u hu => hl u (List.mem_cons_of_mem _ hu)) _ _ h m qs e
        exact ⟨h3, fun hk => absurd (Or.inr hk) hp⟩
theorem sumN_ge (l : List Plan) (h : ∀ q, q ∈ l → 0 < q.n) : l.length ≤ sumN l := by
  induction l with
  | nil => simp
  | cons q r ih =>
    have h1 := h q List.mem_cons_self
    have h2 := ih fun q hq => h q (List.mem_cons_of_mem _ hq)
    simp only [sumN, List.map_cons, List.sum_cons, List.length_cons] at h2 ⊢
    omega
theorem sumN_mem (l : List Plan) (q : Plan) (h : q ∈ l) : q.n ≤ sumN l := by
  induction l with
  | nil => cases h
  | cons c r ih =>
    simp only [sumN, List.map_cons, List.sum_cons] at ih ⊢
    rcases List.mem_cons.1 h with rfl | h
    · omega
    · have := ih h; omega
theorem wf_empty (d : Nat) : Wf (d + 1) emptyP := by
  refine ⟨⟨fits_zero, by show (0 : Nat) ≤ 500; omega, by show (0 : Nat) ≤ 499; omega, fun h => ?_, fun h => ?_, fun h => ?_, fun h => ?_⟩, fun c hc => by cases hc⟩
  · have h' : (0 : Int) = 1 ∨ (0 : Int) = 2 ∨ (0 : Int) = 3 := h; omega
  · have h' : (0 : Int) = 4 := h; omega
  · have h' : (0 : Int) = 5 := h; omega
  · have h' : (0 : Int) = 6 := h; omega
theorem planN_wf (d : Nat) : ∀ (within : Int) (t : Tree), Good d within t → (planN d t).n < 500 → Wf d (planN d t) := by
  induction d with
  | zero => intro within t h; exact h.elim
  | succ d ih =>
    intro within t hg hn
    obtain ⟨hf, hk⟩ := hg
    have he : planN (d + 1) t = finishN t (partsN (planN d) t.k t.kids (beginN t) []) := rfl
    rw [he] at hn ⊢
    cases h : partsN (planN d) t.k t.kids (beginN t) [] with
    | none => rw [h] at hn; exact absurd hn (by show ¬ (500 : Nat) < 500; omega)
    | some x =>
      obtain ⟨n, ps⟩ := x
      rw [h] at hn
      obtain ⟨hI, hall⟩ := partsN_inv (planN d) t.k t.kids (beginN t) t.kids (fun _ h => h) (beginN t) [] ⟨by simp [sumN], fun q hq => absurd hq (by simp), fun _ q hq => absurd hq (by simp)⟩ n ps h
      have hn5 : n < 500 := by
        rcases partsN_le _ _ _ _ _ n ps h with h' | ⟨e, rfl⟩
        · exact h'
        · unfold beginN; rw [e]; simp
      unfold finishN at hn ⊢
      simp only at hn ⊢
      by_cases hz : ownN t.k t.lo t.hi n = 0
      · rw [if_pos hz]; exact wf_empty d
      · rw [if_neg hz] at hn ⊢
        have hn' : ownN t.k t.lo t.hi n < 500 := hn
        have hparts : ∀ c, c ∈ ps → Wf d c := by
          intro c hc
          obtain ⟨u, hu, rfl⟩ := hI.mem c hc
          refine ih t.k u (hk u hu) ?_
          have := sumN_mem ps _ hc
          have := hI.sum
          omega
        have hlen : t.k ≠ 4 → ps.length = t.kids.length := fun h4 => by rw [hall h4]; simp
        have hk0 := hf.k0
        have hk6 := hf.k6
        refine ⟨⟨hf.fits, ?_, by show ownN t.k t.lo t.hi n ≤ 499; omega, fun h => ?_, fun h => ?_, fun h => ?_, fun h => ?_⟩, hparts⟩
        · show ps.length ≤ 500
          by_cases h4 : t.k = 4
          · have h1 := sumN_ge ps (hI.pos h4)
            have h2 := hI.sum
            omega
          · rw [hlen h4]
            by_cases h5 : t.k = 5
            · have h2 := hI.sum
              unfold beginN at h2
              rw [if_pos h5] at h2
              omega
            · by_cases h6 : t.k = 6
              · rw [(hf.rep h6).1]; omega
              · rw [hf.alone (by omega)]; simp
        · show 1 ≤ ownN t.k t.lo t.hi n
          omega
        · have h4 : t.k = 4 := h
          show sumN ps ≤ ownN t.k t.lo t.hi n
          unfold ownN
          rw [if_neg (by omega), if_neg (by omega)]
          have := hI.sum
          omega
        · have h5 : t.k = 5 := h
          show ps ≠ [] ∧ sumN ps + ps.length ≤ ownN t.k t.lo t.hi n + 1
          have h2 := (hf.parts (Or.inr h5)).2
          have h3 := hlen (by omega)
          refine ⟨fun e => by rw [e] at h3; simp at h3; omega, ?_⟩
          unfold ownN
          rw [if_neg (by omega), if_neg (by omega), h3]
          have := hI.sum
          unfold beginN at this
          rw [if_pos h5] at this
          omega
        · have h6 : t.k = 6 := h
          obtain ⟨r0, r1, r2, r3⟩ := hf.rep h6
          have h3 := hlen (by omega)
          rw [r0] at h3
          obtain ⟨c, hc⟩ := List.length_eq_one_iff.1 h3
          refine ⟨c, hc, r1, r2, r3, ?_⟩
          show repN c.n t.lo t.hi ≤ ownN t.k t.lo t.hi n
          have hs : n = c.n := by
            have := hI.sum
            unfold beginN at this
            rw [if_neg (by omega), hc] at this
            simp [sumN] at this
            exact this
          unfold ownN at hn' ⊢
          rw [if_neg (by omega), if_pos h6] at hn' ⊢
          rw [← hs]
          omega

end Go.Proofs.YtcojnkjcbopnbaaGreatDoor

/- ere.canLie, ere.Can at trees of any depth: walks. -/
namespace Go.Proofs.YtcojnkjcbopnbaaGreatDoor
open Go.RowKit

/-- A tree that can be, but perhaps for its depth. -/
inductive Fine : Int → Tree → Prop
  | mk (within : Int) (t : Tree) (h : FitT within t) (hk : ∀ c, c ∈ t.kids → Fine t.k c) : Fine within t
theorem Fine.fit {within : Int} {t : Tree} (h : Fine within t) : FitT within t := by cases h; assumption
theorem Fine.kid {within : Int} {t : Tree} (h : Fine within t) : ∀ c, c ∈ t.kids → Fine t.k c := by cases h; assumption

def CanAns (G : Prop) (w : World) (e : Ending) (w' : World) : Prop := ∃ b : Bool, e = .returned (.bool b) ∧ Hid (b = true → G) ∧ Below w.heap.size w w'

set_option maxRecDepth 100000 in
theorem canLie_any (n : Nat) : ∀ (within : Int) (t : Tree) (cs : Array Value) (B : Nat → Prop) (deep : Nat) (w : World), At w B t cs → Fine within t → deep + n = 101 →
    Calls Tryz.prog 95 #[.agg cs, .int .i64 deep] w (CanAns (Good n within t) w) := by
  induction n with
  | zero =>
    intro within t cs B deep w h _ hd
    obtain rfl : deep = 101 := by omega
    obtain ⟨a, c, rfl, _⟩ := h.opens
    clear h
    go_enter Tryz.func95, Tryz.ntmps95
    go_upto_region 1 with (fail)
    obtain ⟨W, hW, hX, hB, _⟩ := re_box w (reC t.k t.f t.lo t.hi (.slice a t.kids.length c))
    rw [← hW]
    clear hW
    go_wp2_with fail
    go_ret
    exact ⟨false, rfl, Lib.hid (fun h => absurd h (by decide)), hB.out⟩
  | succ n ih =>
    intro within t cs B deep w h hg hd
    have HT := Lib.hid h
    have HF := Lib.hid fun (w : World) (h : At w B t cs) => isFit_spec within t cs B w h hg.fit fun c hc => (hg.kid c hc).fit
    obtain ⟨sl, rfl, hsl⟩ := h.open
    have HI := Lib.hid ih; clear ih
    have HG := Lib.hid hg.kid
    have HFit := Lib.hid hg.fit
    have hfew := hg.fit.few
    have hdeep : deep ≤ 100 := by omega
    have hsh := hsl.shape
    clear hg
    go_enter Tryz.func95, Tryz.ntmps95
    go_upto_region 1 with (fail)
    obtain ⟨W, hW, hX, hB, _⟩ := re_box w (reC t.k t.f t.lo t.hi sl)
    rw [← hW]
    clear hW
    obtain ⟨c0, c1, c2, c3, c4, c5, c6, c7⟩ := eight_re hX.out.eight
    have HF1 := Lib.hid (HF.out W (HT.out.after hB.out))
    have hs1 := Lib.hid (hsl.after hB.out)
    clear hsl
    go_wp2_with fail
    refine HF1.out.mono ?_
    rintro e w1 ⟨rfl, b1⟩
    have X1 := Lib.hid (hX.out.after b1)
    have S1 := Lib.hid (hs1.out.after b1)
    have B1 := Lib.hid (Below.step hB.out b1)
    clear b1 c0 c1 c2 c3 c4 c5 c6 c7
    obtain ⟨c0, c1, c2, c3, c4, c5, c6, c7⟩ := eight_re X1.out.eight
    obtain ⟨a, c, rfl⟩ := hsh
    go_wp2_with fail
    go_loopw [17] (fun y wr => ∃ i : Nat, y = .int .i64 i ∧ i ≤ t.kids.length ∧ Hid (Below w1.heap.size w1 wr) ∧ Hid (∀ j (hj : j < t.kids.length), j < i → Good n t.k t.kids[j])) (fun y _ => t.kids.length - (intOf y).toNat)
    case atStart => exact ⟨0, rfl, by omega, Lib.hid (Below.refl _ _), Lib.hid (fun j _ h => by omega)⟩
    case round =>
      obtain ⟨i, rfl, hi, hb, hall⟩ := hrel
      clear c0 c1 c2 c3 c4 c5 c6 c7
      by_cases hgo : i < t.kids.length
      · rcases S1.out with ⟨e, _⟩ | ⟨hl, b, off, c', cs, e, hc, hBb, h8, hat⟩
        · rw [e] at hgo; exact absurd hgo (by simp)
        · simp only [Value.slice.injEq] at e
          obtain ⟨rfl, _, rfl⟩ := e
          have hT := hat i hgo
          have hT' := hT.after hb.out
          obtain ⟨ai, ci, e, _⟩ := hT.opens
          have h8i := (h8 i hgo).after hT.size hb.out
          rw [e] at h8i hT'
          obtain ⟨c0, c1, c2, c3, c4, c5, c6, c7⟩ := eight_re h8i
          have hT2 := hT'.after (below_new wr (.cells (reC t.kids[i].k t.kids[i].f t.kids[i].lo t.kids[i].hi (.slice ai t.kids[i].kids.length ci)) 68))
          have HC := Lib.hid (HI.out t.k t.kids[i] _ B (deep + 1) _ hT2 (HG.out _ (List.getElem_mem hgo)) (by omega))
          have BX := Lib.hid (Below.step hb.out (below_new wr (.cells (reC t.kids[i].k t.kids[i].f t.kids[i].lo t.kids[i].hi (.slice ai t.kids[i].kids.length ci)) 68)))
          clear h8i e hT hT' hT2 h8 hat
          go_upto_region 6 with (fail)
          obtain ⟨V, hV, hY, _, _⟩ := re_box wr (reC t.kids[i].k t.kids[i].f t.kids[i].lo t.kids[i].hi (.slice ai t.kids[i].kids.length ci))
          change Code.wp _ _ _ _ (wr.alloc (Obj.cells (reC t.kids[i].k t.kids[i].f t.kids[i].lo t.kids[i].hi (.slice ai t.kids[i].kids.length ci)) 68))
          rw [← hV]
          rw [← hV] at HC BX
          clear hV c0 c1 c2 c3 c4 c5 c6 c7
          obtain ⟨c0, c1, c2, c3, c4, c5, c6, c7⟩ := eight_re hY.out.eight
          go_wp2_with fail
          refine HC.out.mono ?_
          rintro e w2 ⟨bb, rfl, hbb, b2⟩
          have B2 := Lib.hid (Below.step BX.out b2)
          clear b2
          cases bb with
          | false =>
            go_wp2_with fail
            go_ret
            exact ⟨false, rfl, Lib.hid (fun h => absurd h (by decide)), Below.step B1.out B2.out⟩
          | true =>
            have HA : Hid (∀ j (hj : j < t.kids.length), j < i + 1 → Good n t.k t.kids[j]) := Lib.hid (fun j hj hji => by
              by_cases e : j = i
              · subst e; exact hbb.out rfl
              · exact hall.out j hj (by omega))
            clear hall hbb
            go_wp2_with fail
            go_roundw
            case rel => exact ⟨i + 1, by go_num, by omega, B2, HA⟩
            case measure => simp [intOf]; omega
      · have hi' : i = t.kids.length := by omega
        subst hi'
        go_wp2_with fail
        go_ret
        refine ⟨true, rfl, Lib.hid (fun _ => ⟨HFit.out, fun c hc => ?_⟩), Below.step B1.out hb.out⟩
        obtain ⟨j, hj, rfl⟩ := List.mem_iff_getElem.1 hc
        exact hall.out j hj hj

set_option maxRecDepth 100000 in
/-- It may say yes of 101 storeys, too; of a tree that is planned no more than that is asked. -/
theorem can_any (t : Tree) (cs : Array Value) (B : Nat → Prop) (w : World) (h : At w B t cs) (hg : Fine (-1) t) :
    Calls Tryz.prog 66 #[.agg cs] w (CanAns (Good 101 (-1) t) w) := by
  obtain ⟨W, hW, hX, hB, _⟩ := re_box w cs
  have HC := Lib.hid (canLie_any 101 (-1) t cs B 0 W (h.after hB.out) hg (by omega))
  obtain ⟨a, c, rfl, _⟩ := h.opens
  clear h hg
  go_enter Tryz.func66, Tryz.ntmps66
  go_upto_region 1 with (fail)
  rw [← hW]
  clear hW
  obtain ⟨c0, c1, c2, c3, c4, c5, c6, c7⟩ := eight_re hX.out.eight
  go_wp2_with fail
  refine HC.out.mono ?_
  rintro e w1 ⟨b, rfl, hb, b1⟩
  have B1 := Lib.hid (Below.step hB.out b1)
  clear b1
  go_wp2_with fail
  go_ret
  exact ⟨b, rfl, hb, B1.out⟩
end Go.Proofs.YtcojnkjcbopnbaaGreatDoor

/- What holds of a machine that was laid: plain Lean. -/
namespace Go.Proofs.YtcojnkjcbopnbaaGreatDoor
open Go.RowKit

/-- States that lead to one of the first n. -/
def OkS (n : Nat) (ss : List St) : Prop := ∀ s, s ∈ ss → (s.nx < n ∧ s.ot < n) ∧ Fits s.f
theorem OkS.mono {n m : Nat} {ss : List St} (h : OkS n ss) (hm : n ≤ m) : OkS m ss := fun s hs => ⟨⟨Nat.lt_of_lt_of_le (h s hs).1.1 hm, Nat.lt_of_lt_of_le (h s hs).1.2 hm⟩, (h s hs).2⟩
/-- A machine while it is laid, of n states at least. -/
structure LOk (n : Nat) (x : Mk) : Prop where
  start : x.1 < x.2.length
  ok : OkS x.2.length x.2
  len : n ≤ x.2.length
theorem LOk.less {n m : Nat} {x : Mk} (h : LOk n x) (hm : m ≤ n) : LOk m x := ⟨h.start, h.ok, Nat.le_trans hm h.len⟩
theorem LOk.put {n : Nat} {ss : List St} (hn : n ≤ ss.length) (h : OkS ss.length ss) (s : St) (h1 : s.nx < ss.length) (h2 : s.ot < ss.length) (h3 : Fits s.f) : LOk n (putN ss s) := by
  refine ⟨by simp [putN], fun t ht => ?_, by simp [putN]; omega⟩
  simp only [putN, List.length_append, List.length_singleton] at ht ⊢
  rcases List.mem_append.1 ht with ht | ht
  · exact (h.mono (Nat.le_succ _)) t ht
  · rw [List.mem_singleton.1 ht]
    exact ⟨⟨by omega, by omega⟩, h3⟩
/-- What lays keeps it so. -/
def LayP (f : Nat → List St → Mk) : Prop := ∀ next ss, next < ss.length → OkS ss.length ss → LOk ss.length (f next ss)
theorem fits_zero' : Fits zero4 := fits_zero
theorem iterN_ok (f : Mk → Mk) (n : Nat) (h : ∀ x, LOk n x → LOk n (f x)) (j : Nat) : ∀ x, LOk n x → LOk n (iterN f j x) := by
  induction j with
  | zero => intro x hx; exact hx
  | succ j ih => intro x hx; exact ih _ (h x hx)
theorem foldl_ok {α : Type} (f : Mk → α → Mk) (n : Nat) (l : List α) (h : ∀ x i, i ∈ l → LOk n x → LOk n (f x i)) : ∀ x, LOk n x → LOk n (l.foldl f x) := by
  induction l with
  | nil => intro x hx; exact hx
  | cons i l ih =>
    intro x hx
    exact ih (fun y j hj => h y j (List.mem_cons_of_mem _ hj)) _ (h x i List.mem_cons_self hx)
theorem ringN_ok (f : Nat → List St → Mk) (hf : LayP f) (next : Nat) (ss : List St) (hn : next < ss.length) (h : OkS ss.length ss) : LOk ss.length (ringN f next ss) := by
  have h0 := LOk.put (Nat.le_refl _) h (forkS 0 next) (by show 0 < _; omega) hn fits_zero'
  have h1 := hf ss.length (ss ++ [forkS 0 next]) (by simp) h0.ok
  obtain ⟨r, hr⟩ : ∃ r, r = f ss.length (ss ++ [forkS 0 next]) := ⟨_, rfl⟩
  rw [← hr] at h1
  have hl : ss.length + 1 ≤ r.2.length := by have := h1.len; simpa using this
  unfold ringN
  rw [← hr]
  refine ⟨by rw [setNx_len]; show ss.length < _; omega, fun t ht => ?_, by rw [setNx_len]; show ss.length ≤ _; omega⟩
  rw [setNx_len]
  unfold setNx at ht
  split at ht
  · rename_i s hs
    rcases List.mem_or_eq_of_mem_set ht with ht | rfl
    · exact h1.ok t ht
    · have := h1.ok s (List.mem_of_getElem? hs)
      exact ⟨⟨h1.start, this.1.2⟩, this.2⟩
  · exact h1.ok t ht
theorem layN_ok (d : Nat) : ∀ (q : Plan), Wf d q → LayP (layN d q) := by
  induction d with
  | zero => intro q h; exact h.elim
  | succ d ih =>
    intro q h next ss hn hs
    have hw := h.1
    have h0 : LOk ss.length (next, ss) := ⟨hn, hs, Nat.le_refl _⟩
    unfold layN
    split
    · rename_i hk
      refine LOk.put (Nat.le_refl _) hs _ hn (by show 0 < _; omega) ?_
      unfold leafS
      simp only
      split
      · exact hw.fits
      · exact fits_zero'
    · split
      · unfold catN
        refine foldl_ok _ _ _ (fun x i _ hx => ?_) _ h0
        exact (ih _ (h.2 _ (List.getElem_mem i.isLt)) x.1 x.2 hx.start hx.ok).less hx.len
      · split
        · rename_i hk
          obtain ⟨hne, _⟩ := hw.alt hk
          unfold altN
          rw [List.getLast?_eq_some_getLast hne]
          simp only
          refine foldl_ok _ _ _ (fun x i _ hx => ?_) _ ((ih _ (h.2 _ (List.getLast_mem hne)) next ss hn hs))
          have hm : q.kids.dropLast[i] ∈ q.kids := List.dropLast_subset _ (List.getElem_mem i.isLt)
          have h1 := ih _ (h.2 _ hm) next x.2 (Nat.lt_of_lt_of_le hn hx.len) hx.ok
          unfold branchN
          exact LOk.put (Nat.le_trans hx.len h1.len) h1.ok _ h1.start (Nat.lt_of_lt_of_le hx.start h1.len) fits_zero'
        · split
          · rename_i hk
            obtain ⟨c, hc, l0, l1, lh, hr⟩ := hw.rep hk
            rw [hc]
            simp only
            have hcw : LayP (layN d c) := ih c (h.2 c (by rw [hc]; exact List.mem_singleton_self c))
            unfold timesN
            refine iterN_ok _ _ (fun x hx => (hcw x.1 x.2 hx.start hx.ok).less hx.len) _ _ (iterN_ok _ _ (fun x hx => ?_) _ _ ?_)
            · have h1 := hcw x.1 x.2 hx.start hx.ok
              unfold mayN
              exact LOk.put (Nat.le_trans hx.len h1.len) h1.ok _ h1.start (Nat.lt_of_lt_of_le hn (Nat.le_trans hx.len h1.len)) fits_zero'
            · split
              · exact ringN_ok _ hcw next ss hn hs
              · exact h0
          · exact h0
/-- A machine that was laid holds together. -/
theorem ssOk_of (q : Plan) (d : Nat) (hw : Wf d q) (g : St) (hg : g.nx = 0 ∧ g.ot = 0 ∧ Fits g.f) : SsOk (layN d q 0 [g]).2 ∧ (layN d q 0 [g]).1 < (layN d q 0 [g]).2.length := by
  have h := layN_ok d q hw 0 [g] (by simp) (fun s hs => by rw [List.mem_singleton.1 hs]; exact ⟨⟨by rw [hg.1]; exact Nat.zero_lt_one, by rw [hg.2.1]; exact Nat.zero_lt_one⟩, hg.2.2⟩)
  have hl := layN_len d q 0 [g] hw
  have hn := hw.own.n
  refine ⟨⟨by have := h.start; omega, by simp at hl; omega, fun s hs => (h.ok s hs).1, fun s hs => (h.ok s hs).2⟩, h.start⟩
end Go.Proofs.YtcojnkjcbopnbaaGreatDoor

/- nfa.Build at a tree that has not too many states: a walk. -/
namespace Go.Proofs.YtcojnkjcbopnbaaGreatDoor
open Go.RowKit

def goalS : St := ⟨0, zero4, 0, 0⟩
/-- A tree's machine. -/
def machN (t : Tree) : Mk := layN 101 (planN 101 t) 0 [goalS]
/-- What Build leaves. -/
def Built (w : World) (t : Tree) (e : Ending) (w' : World) : Prop :=
  ∃ p sv, e = .returned (.tuple #[.pointer (some ⟨p, 0, none⟩), .int .i64 0]) ∧ w.heap.size ≤ p ∧ Mch w' p (machN t).2 sv (machN t).1 ∧ Below w.heap.size w w'

theorem mch_new (w : World) : Mch (w.alloc (.cells #[.slice none 0 0, .int .i64 0] 87)) w.heap.size [] (.slice none 0 0) 0 := ⟨heap_alloc_last w _, World.ownsRow_nil _ _ _ _⟩

/-- What Build tells of a tree that can be, or can't. -/
def BuildOut (w : World) (t : Tree) (R : Bool → Prop) (e : Ending) (w' : World) : Prop :=
  ∃ b, R b ∧ ((b = false ∧ e = .returned (.tuple #[.pointer none, .int .i64 1]) ∧ Below w.heap.size w w') ∨ (b = true ∧ 500 ≤ (planN 101 t).n ∧ e = .returned (.tuple #[.pointer none, .int .i64 2]) ∧ Below w.heap.size w w') ∨
    (b = true ∧ (planN 101 t).n < 500 ∧ Good 101 (-1) t ∧ Built w t e w'))

set_option maxRecDepth 100000 in
set_option maxHeartbeats 2000000 in
theorem build_gen (t : Tree) (R : Bool → Prop) (rs : Array Value) (B : Nat → Prop) (w : World) (h : At w B t rs)
    (hcan : ∀ W, At W B t rs → Calls Tryz.prog 66 #[.agg rs] W fun e w' => ∃ b : Bool, e = .returned (.bool b) ∧ Hid (R b ∧ (b = true → Good 101 (-1) t)) ∧ Below W.heap.size W w') :
    Calls Tryz.prog 44 #[.agg rs] w (BuildOut w t R) := by
  obtain ⟨W, hW, hX, hB, _⟩ := re_box w rs
  obtain ⟨a, c, e, _⟩ := h.opens
  have HC := Lib.hid (hcan W (h.after hB.out))
  have HPl := Lib.hid (fun (hg : Good 101 (-1) t) (W' : World) (hb : Below W.heap.size W W') => planOf_spec 101 (-1) t rs B W' ((h.after hB.out).after hb) hg)
  have HLay := Lib.hid (fun (hg : Good 101 (-1) t) (hn : (planN 101 t).n < 500) (p : Nat) (sv : Value) (qs : Array Value) (W' : World) (hm : Mch W' p [goalS] sv 0) (hat : PAt W' (fun k => k < p) (planN 101 t) qs) => show Calls Tryz.prog 68 #[.pointer (some ⟨p, 0, none⟩), .agg qs, .int .i64 0] W' (Laid W' p sv 0 (layN 101 (planN 101 t) 0 [goalS])) from lay_spec 101 (planN 101 t) qs (fun k => k < p) 0 p [goalS] sv 0 W' hat (fun _ h => h) (planN_wf 101 (-1) t hg hn) hm (by decide))
  obtain ⟨q, hq⟩ : ∃ q, q = planN 101 t := ⟨_, rfl⟩
  have hMach : Hid (machN t = layN 101 q 0 [goalS]) := Lib.hid (by unfold machN; rw [hq])
  rw [← hq] at HPl HLay
  have HQ := Lib.hid hq
  have HPut := Lib.hid (fun (p : Nat) (W' : World) (hm : Mch W' p [] (.slice none 0 0) 0) => show Calls Tryz.prog 69 #[.pointer (some ⟨p, 0, none⟩), .agg #[.int .i64 0, .int .u64 0, .int .u64 0, .int .u64 0, .int .u64 0, .int .i64 0, .int .i64 0]] W' (Laid W' p (.slice none 0 0) 0 (0, [goalS])) from put_spec p [] (.slice none 0 0) 0 goalS W' hm (by decide))
  subst e
  clear h hcan hq
  go_enter Tryz.func44, Tryz.ntmps44
  go_upto_region 1 with (fail)
  rw [← hW]
  clear hW
  obtain ⟨c0, c1, c2, c3, c4, c5, c6, c7⟩ := eight_re hX.out.eight
  unfold reC at HC HPl
  go_wp2_with fail
  refine HC.out.mono ?_
  rintro e w1 ⟨bb, rfl, hbb, b1⟩
  have X1 := Lib.hid (hX.out.after b1)
  have B1 := Lib.hid (Below.step hB.out b1)
  cases bb with
  | false =>
    clear b1 c0 c1 c2 c3 c4 c5 c6 c7 HPl HC
    go_wp2_with fail
    go_ret2
    exact ⟨false, hbb.out.1, Or.inl ⟨rfl, rfl, B1.out⟩⟩
  | true =>
  have HGd := Lib.hid (hbb.out.2 rfl)
  have HP1 := Lib.hid (HPl.out HGd.out w1 b1)
  have HL1 := Lib.hid (fun hn => HLay.out HGd.out hn)
  clear HLay
  clear b1 c0 c1 c2 c3 c4 c5 c6 c7 HPl HC
  obtain ⟨c0, c1, c2, c3, c4, c5, c6, c7⟩ := eight_re X1.out.eight
  go_wp2_with fail
  refine HP1.out.mono ?_
  rintro e w2 ⟨ps, rfl, hat, b2⟩
  have B2 := Lib.hid (Below.step B1.out b2)
  obtain ⟨a2, c2', e, _⟩ := hat.opens
  subst e
  have HAT := Lib.hid hat
  clear b2 hat c0 c1 c2 c3 c4 c5 c6 c7 HP1
  unfold plC
  go_upto_region 4 with (fail)
  obtain ⟨V, hV, hY, hBV, _⟩ := pl_box w2 (plC q.k q.f q.lo q.hi q.n (.slice a2 q.kids.length c2'))
  change Code.wp _ _ _ _ (w2.alloc (Obj.cells (plC q.k q.f q.lo q.hi q.n (.slice a2 q.kids.length c2')) 119))
  rw [← hV]
  have B3 := Lib.hid (Below.step B2.out hBV.out)
  have A3 := Lib.hid ((HAT.out.after hBV.out).inWorld)
  clear hV
  obtain ⟨q0, q1, q2, q3, q4, q5, q6, q7, q8⟩ := nine_pl hY.out.nine
  by_cases hn : q.n < 500
  rotate_left
  · have hn2 : decide ((500 : Int) ≤ q.n) = true := decide_eq_true (by omega)
    go_wp2_with fail
    go_ret2
    exact ⟨true, hbb.out.1, Or.inr (Or.inl ⟨rfl, by rw [← HQ.out]; omega, rfl, B3.out⟩)⟩
  · have HL2 := Lib.hid (HL1.out hn)
    clear HL1
    go_upto_region 7 with (fail)
    obtain ⟨U, hU⟩ : ∃ U, U = V.alloc (.cells #[.slice none 0 0, .int .i64 0] 87) := ⟨_, rfl⟩
    change Code.wp _ _ _ _ (V.alloc (.cells #[.slice none 0 0, .int .i64 0] 87))
    rw [← hU]
    have MU : Hid (Mch U V.heap.size [] (.slice none 0 0) 0) := Lib.hid (by rw [hU]; exact mch_new V)
    have bU : Below V.heap.size V U := by rw [hU]; exact below_new _ _
    have PU := Lib.hid (hY.out.after bU)
    have AU := Lib.hid ((A3.out.after bU).weakS (T := fun k => k < V.heap.size) fun k hk => hk.2)
    have BU := Lib.hid (Below.step B3.out bU)
    have hVw : w.heap.size ≤ V.heap.size := B3.out.size
    clear hU bU A3 hY q0 q1 q2 q3 q4 q5 q6 q7 q8
    unfold plC at AU
    obtain ⟨q0, q1, q2, q3, q4, q5, q6, q7, q8⟩ := nine_pl PU.out.nine
    go_region_with (first
      | (go_at_call 69; refine (HPut.out V.heap.size _ ?_).mono ?_; exact MU.out.after (below_drew U); rintro e w5 ⟨sv1, rfl, hM, hT⟩; have A5 := Lib.hid ((AU.out.after (below_drew U)).keep fun k hk hlt => hT.block k hlt (by have hk' : k < V.heap.size := hk; omega) (by simp [Value.ownBlock])); have P5 := Lib.hid ((PU.out.after (below_drew U)).turn (MU.out.after (below_drew U)) hT); obtain ⟨d0, d1, d2, d3, d4, d5, d6, d7, d8⟩ := nine_pl P5.out.nine; have HM5 := Lib.hid hM; have HT5 := Lib.hid hT; clear hM hT)
      | (go_at_call 68; refine (HL2.out V.heap.size _ _ _ HM5.out A5.out).mono ?_; rintro e w6 ⟨sv2, rfl, hM6, hT6⟩; have z1 := hM6.z 1; have g1 := hM6.c1; have HM6 := Lib.hid hM6; have HT6 := Lib.hid hT6; clear hM6 hT6))
    all_goals
      go_wp2_with fail
      go_ret2
      refine ⟨true, hbb.out.1, Or.inr (Or.inr ⟨rfl, by rw [← HQ.out]; exact hn, HGd.out, V.heap.size, sv2, rfl, hVw, ?_, ?_⟩)⟩
      · rw [hMach.out]
        exact (HM6.out.setStart _).1
      · have h1 : Below w.heap.size w U.drew := BU.out.drew
        have h2 : Below w.heap.size U.drew w6 := (HT5.out.trans HT6.out).below hVw BU.out.size (fun k hk => by simp [Value.ownBlock] at hk)
        exact (h1.trans h2).setCell (p := ⟨V.heap.size, 1, none⟩) hVw _

/-- A tree that was parsed, whatever it is. -/
theorem build_any (t : Tree) (rs : Array Value) (B : Nat → Prop) (w : World) (h : At w B t rs) (hf : Fine (-1) t) :
    Calls Tryz.prog 44 #[.agg rs] w (BuildOut w t (fun _ => True)) :=
  build_gen t _ rs B w h fun W hW => (can_any t rs B W hW hf).mono fun _ _ ⟨b, e1, h1, h2⟩ => ⟨b, e1, Lib.hid ⟨trivial, h1.out⟩, h2⟩
theorem build_yes (t : Tree) (rs : Array Value) (B : Nat → Prop) (w : World) (h : At w B t rs) (hg : Good 100 (-1) t) (hg1 : Good 101 (-1) t) (hn : (planN 101 t).n < 500) :
    Calls Tryz.prog 44 #[.agg rs] w (Built w t) := by
  refine (build_gen t (fun b => b = true) rs B w h fun W hW => (can_spec t rs B W hW hg).mono fun _ _ ⟨e1, h2⟩ => ⟨true, e1, Lib.hid ⟨rfl, fun _ => hg1⟩, h2⟩).mono ?_
  rintro e w' ⟨b, hb, h | h | h⟩
  · rw [hb] at h; exact absurd h.1 (by decide)
  · omega
  · exact h.2.2.2
/-- The machine of a tree that can be and is not too great holds together. -/
theorem mach_ok (t : Tree) (hg : Good 101 (-1) t) (hn : (planN 101 t).n < 500) : SsOk (machN t).2 ∧ (machN t).1 < (machN t).2.length :=
  ssOk_of _ 101 (planN_wf 101 (-1) t hg hn) goalS ⟨rfl, rfl, fits_zero'⟩
end Go.Proofs.YtcojnkjcbopnbaaGreatDoor
