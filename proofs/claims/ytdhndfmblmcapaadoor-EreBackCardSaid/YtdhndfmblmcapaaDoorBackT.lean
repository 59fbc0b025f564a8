/- A tree's text is read as the tree: plain Lean over the reader's contracts. -/
import Derived.Test.YtdhndfmblmcapaaDoorLives
import Derived.Test.YtdhndfmblmcapaaDoorGroup
import Derived.Test.YtdhndfmblmcapaaDoorAtoms
import Derived.Test.YtdhndfmblmcapaaDoorNest
import Derived.Test.YtdhndfmblmcapaaDoorRefCan
namespace Go.Proofs.YtdhndfmblmcapaaDoor
open Go.RowKit

theorem At.turn {w : World} {S : Nat → Prop} {k lo hi : Int} {f g : Nat → Nat} {l : List Tree} {cs : Array Value} (h : At w S (.mk k f lo hi l) cs) (e : ∀ i, i < 4 → f i = g i) : At w S (.mk k g lo hi l) cs := by
  obtain ⟨sl, rfl, hs⟩ := h.open
  have h2 := hs.shut k g lo hi
  rw [← reC_congr k lo hi sl e] at h2
  exact h2
theorem atom_turn {l : List UInt8} {k lo hi : Int} {f g : Nat → Nat} {ts : List Tree} {n : Nat} (H : AtomAt l (.mk k f lo hi ts) n) (e : ∀ i, i < 4 → f i = g i) : AtomAt l (.mk k g lo hi ts) n := by
  intro s k d p w rest h1 h2 h3 h4 h5 h6
  obtain ⟨g1, g2⟩ := H s k d p w rest h1 h2 h3 h4 h5 h6
  refine ⟨fun hn => (g1 hn).mono ?_, g2⟩
  rintro e1 w' ⟨cs, he, hat, hr, hb⟩
  exact ⟨cs, he, hat.turn e, hr, hb⟩

/-- A text that reads as an atom with repetitions behind it. -/
def CoreAt (l : List UInt8) (t : Tree) (m : Nat) : Prop :=
  ∃ (a : List UInt8) (t0 : Tree) (rs : List (Int × Int)), AtomAt a t0 m ∧ Starts a ∧ (∀ x, x ∈ rs → OkTimes x) ∧ l = a ++ repsL rs ∧ t = repsT t0 rs
theorem core_atom {a : List UInt8} {t : Tree} {m : Nat} (h : AtomAt a t m) (hs : Starts a) : CoreAt a t m := ⟨a, t, [], h, hs, fun x hx => absurd hx (by simp), by simp [repsL], rfl⟩
theorem repsL_snoc (rs : List (Int × Int)) (x : Int × Int) : repsL (rs ++ [x]) = repsL rs ++ timesL x.1 x.2 := by
  induction rs with
  | nil => simp [repsL]
  | cons y r ih => simp [repsL, ih]
theorem repsT_snoc (t : Tree) (rs : List (Int × Int)) (x : Int × Int) : repsT t (rs ++ [x]) = repT x.1 x.2 (repsT t rs) := by
  induction rs generalizing t with
  | nil => rfl
  | cons y r ih => exact ih _
theorem core_rep {l : List UInt8} {t : Tree} {m : Nat} (h : CoreAt l t m) (x : Int × Int) (hx : OkTimes x) : CoreAt (l ++ timesL x.1 x.2) (repT x.1 x.2 t) m := by
  obtain ⟨a, t0, rs, hA, hs, hrs, rfl, rfl⟩ := h
  refine ⟨a, t0, rs ++ [x], hA, hs, fun y hy => ?_, by rw [repsL_snoc, List.append_assoc], (repsT_snoc t0 rs x).symm⟩
  rcases List.mem_append.1 hy with hy | hy
  · exact hrs y hy
  · rw [List.mem_singleton.1 hy]; exact hx
theorem core_grp {l : List UInt8} {t : Tree} {m : Nat} (h : PatternAt l t m) : CoreAt (parL true l) t (m + 1) :=
  core_atom (atom_grp l t m h) ⟨40, l ++ [41], rfl, by decide⟩
theorem core_ok {l : List UInt8} {t : Tree} {m : Nat} (h : CoreAt l t m) (h4 : t.k ≠ 4) (h0 : t.k ≠ 0) : PcOk ⟨l, t, m⟩ := by
  obtain ⟨a, t0, rs, hA, ⟨c, r, rfl, hc⟩, hrs, rfl, rfl⟩ := h
  exact ⟨piece_at _ t0 m hA rs hrs, ⟨c, r ++ repsL rs, rfl, hc⟩, h4, h0⟩
theorem branch_one {l : List UInt8} {t : Tree} {m : Nat} (h : PcOk ⟨l, t, m⟩) : BranchAt l t m := by
  have h2 := branch_at [⟨l, t, m⟩] (fun q hq => by rw [List.mem_singleton.1 hq]; exact h) (by simp)
  have e1 : textOf [⟨l, t, m⟩] = l := List.append_nil l
  have e2 : maxN [⟨l, t, m⟩] = m := Nat.max_eq_left (Nat.zero_le m)
  rw [e1, e2] at h2
  exact h2
theorem pattern_one {l : List UInt8} {t : Tree} {m : Nat} (h : BranchAt l t m) (h5 : t.k ≠ 5) : PatternAt l t m := by
  have h2 := pattern_at ⟨l, t, m⟩ [] ⟨h, h5⟩ (fun q hq => absurd hq (by simp)) (by simp)
  have e1 : (⟨l, t, m⟩ : Pc).l ++ restAlt [] = l := List.append_nil l
  have e2 : maxN [⟨l, t, m⟩] = m := Nat.max_eq_left (Nat.zero_le m)
  rw [e1, e2] at h2
  exact h2

/-- What a tree's text reads as. -/
structure Reads (l : List UInt8) (t : Tree) (m : Nat) : Prop where
  pattern : PatternAt l t m
  branch : t.k ≠ 5 → BranchAt l t m
  core : t.k = 1 ∨ t.k = 2 ∨ t.k = 3 ∨ t.k = 6 → CoreAt l t m
theorem reads_core {l : List UInt8} {t : Tree} {m : Nat} (h : CoreAt l t m) (h4 : t.k ≠ 4) (h0 : t.k ≠ 0) (h5 : t.k ≠ 5) : Reads l t m :=
  have hb := branch_one (core_ok h h4 h0)
  ⟨pattern_one hb h5, fun _ => hb, fun _ => h⟩
theorem reads_branch {l : List UInt8} {t : Tree} {m : Nat} (h : BranchAt l t m) (h5 : t.k ≠ 5) (hc : ¬ (t.k = 1 ∨ t.k = 2 ∨ t.k = 3 ∨ t.k = 6)) : Reads l t m :=
  ⟨pattern_one h h5, fun _ => h, fun h => absurd h hc⟩

theorem set_atom (f : Nat → Nat) (hf : Fits f) : AtomAt (setL f) (.mk 1 f 0 0 []) 0 ∧ Starts (setL f) := by
  unfold setL
  by_cases h : allB f = true
  · rw [if_pos h]
    exact ⟨atom_turn atom_any fun i hi => ((allB_iff f).1 h i hi).symm, ⟨46, [], rfl, by decide⟩⟩
  · rw [if_neg h]
    obtain ⟨r, er⟩ := showL_cons f
    exact ⟨atom_set f hf, ⟨91, r, er, by decide⟩⟩
theorem setL_len (f : Nat → Nat) : (setL f).length ≤ 520 := by
  unfold setL
  split
  · simp
  · unfold showL
    have h1 := listTo_len (fun _ => true) 256
    have h2 := listTo_len (bit f) 256
    split <;> simp only [List.length_append, List.length_cons, List.length_nil] <;> omega

def catPc (n : Nat) (c : Tree) : Pc := ⟨parL (among [5] c.k) (showN n c), c, upN (barB 4 c.k) (nestN n c)⟩
theorem cat_text (n : Nat) (l : List Tree) : textOf (l.map (catPc n)) = partsL (showN n) [] [5] l := by
  cases l with
  | nil => rfl
  | cons t r =>
    show parL (among [5] t.k) (showN n t) ++ textOf (r.map (catPc n)) = parL (among [5] t.k) (showN n t) ++ r.flatMap _
    congr 1
    induction r with
    | nil => rfl
    | cons u r ih => show parL (among [5] u.k) (showN n u) ++ textOf (r.map (catPc n)) = _; rw [ih]; rfl
theorem cat_max (n : Nat) (l : List Tree) : maxN (l.map (catPc n)) = maxL (fun c => upN (barB 4 c.k) (nestN n c)) l := by
  induction l with
  | nil => rfl
  | cons t r ih => show max _ (maxN (r.map (catPc n))) = max _ _; rw [ih]; rfl
theorem cat_trees (n : Nat) (l : List Tree) : (l.map (catPc n)).map (·.t) = l := by
  induction l with
  | nil => rfl
  | cons t r ih => show t :: (r.map (catPc n)).map (·.t) = _; rw [ih]
def altPc (n : Nat) (c : Tree) : Pc := ⟨showN n c, c, nestN n c⟩
theorem alt_text (n : Nat) (t : Tree) (r : List Tree) : (altPc n t).l ++ restAlt (r.map (altPc n)) = partsL (showN n) [124] [] (t :: r) := by
  show showN n t ++ restAlt (r.map (altPc n)) = showN n t ++ r.flatMap _
  congr 1
  induction r with
  | nil => rfl
  | cons u r ih => show 124 :: (showN n u ++ restAlt (r.map (altPc n))) = _; rw [ih]; rfl
theorem alt_max (n : Nat) (l : List Tree) : maxN (l.map (altPc n)) = maxL (fun c => upN (barB 5 c.k) (nestN n c)) l := by
  induction l with
  | nil => rfl
  | cons t r ih => show max _ (maxN (r.map (altPc n))) = max _ _; rw [ih]; rfl
theorem alt_trees (n : Nat) (l : List Tree) : (l.map (altPc n)).map (·.t) = l := by
  induction l with
  | nil => rfl
  | cons t r ih => show t :: (r.map (altPc n)).map (·.t) = _; rw [ih]

theorem reads_leaf (n : Nat) (k : Int) (a : List UInt8) (f : Nat → Nat) (hk : k = 1 ∨ k = 2 ∨ k = 3) (h : AtomAt a (.mk k f 0 0 []) 0) (hs : Starts a) (e : showN (n + 1) (.mk k f 0 0 []) = a) :
    Reads (showN (n + 1) (.mk k f 0 0 [])) (.mk k f 0 0 []) (nestN (n + 1) (.mk k f 0 0 [])) := by
  rw [e]
  have h4 : (Tree.mk k f 0 0 []).k ≠ 4 := by show k ≠ 4; omega
  have h0 : (Tree.mk k f 0 0 []).k ≠ 0 := by show k ≠ 0; omega
  have h5 : (Tree.mk k f 0 0 []).k ≠ 5 := by show k ≠ 5; omega
  exact reads_core (core_atom h hs) h4 h0 h5

theorem back_at (n : Nat) : ∀ (within : Int) (t : Tree) (d : Nat), Good n within t → Wf t → nodesN d t ≤ 400 → n ≤ d → Reads (showN n t) t (nestN n t) := by
  induction n with
  | zero => intro within t d hg _ _ _; exact hg.elim
  | succ n ih =>
    intro within t d hg hwf hnd hdd
    obtain ⟨d', rfl⟩ : ∃ d', d = d' + 1 := ⟨d - 1, by omega⟩
    obtain ⟨hlen, hnk⟩ := nodes_kids hnd
    obtain ⟨hF, hK⟩ := hg
    have hR : ∀ c, c ∈ t.kids → Reads (showN n c) c (nestN n c) ∧ FitT t.k c := fun c hc => by
      cases hwf with
      | mk k f lo hi l hf hc' hk => exact ⟨ih k c d' (hK c hc) (hk c hc) (hnk c hc) (by omega), (hK c hc).fit⟩
    clear ih hK hnk hnd
    obtain ⟨k, f, lo, hi, l, hf, hc, _⟩ := hwf
    simp only [Tree.kids] at hlen hR
    have hFk := hF.k0
    have hF6 := hF.k6
    have hset : k ≠ 1 → f = zero4 := fun h => funext fun i => by
      by_cases hi : i < 4
      · exact hF.set h i hi
      · exact hc i (by omega)
    have htimes : k ≠ 6 → lo = 0 ∧ hi = 0 := hF.times
    have halone : k < 4 → l = [] := hF.alone
    have hparts : k = 4 ∨ k = 5 → k ≠ within ∧ 2 ≤ l.length := hF.parts
    have hrep : k = 6 → l.length = 1 ∧ 0 ≤ lo ∧ lo ≤ 50 ∧ (hi = -1 ∨ (lo ≤ hi ∧ hi ≤ 50)) := hF.rep
    have kk : k = 0 ∨ k = 1 ∨ k = 2 ∨ k = 3 ∨ k = 4 ∨ k = 5 ∨ k = 6 := by
      have h1 : (0 : Int) ≤ k := hFk
      have h2 : k ≤ 6 := hF6
      omega
    clear hF hFk hF6
    rcases kk with rfl | rfl | rfl | rfl | rfl | rfl | rfl
    · obtain ⟨rfl, rfl⟩ := htimes (by omega)
      obtain rfl := halone (by omega)
      obtain rfl := hset (by omega)
      have hb := branch_at [] (fun q hq => absurd hq (by simp)) (by simp)
      exact reads_branch hb (by show (0 : Int) ≠ 5; omega) (by show ¬ ((0 : Int) = 1 ∨ (0 : Int) = 2 ∨ (0 : Int) = 3 ∨ (0 : Int) = 6); omega)
    · obtain ⟨rfl, rfl⟩ := htimes (by omega)
      obtain rfl := halone (by omega)
      obtain ⟨h1, h2⟩ := set_atom f hf
      exact reads_leaf n 1 _ f (by omega) h1 h2 rfl
    · obtain ⟨rfl, rfl⟩ := htimes (by omega)
      obtain rfl := halone (by omega)
      obtain rfl := hset (by omega)
      exact reads_leaf n 2 [94] zero4 (by omega) atom_beg ⟨94, [], rfl, by decide⟩ rfl
    · obtain ⟨rfl, rfl⟩ := htimes (by omega)
      obtain rfl := halone (by omega)
      obtain rfl := hset (by omega)
      exact reads_leaf n 3 [36] zero4 (by omega) atom_end_ ⟨36, [], rfl, by decide⟩ rfl
    · obtain ⟨rfl, rfl⟩ := htimes (by omega)
      obtain rfl := hset (by omega)
      obtain ⟨_, h2⟩ := hparts (by omega)
      have hb := branch_at (l.map (catPc n)) (fun q hq => by
        obtain ⟨c, hcl, rfl⟩ := List.mem_map.1 hq
        obtain ⟨hr, hfit⟩ := hR c hcl
        have n4 : c.k ≠ 4 := fun e => (hfit.parts (Or.inl e)).1 e
        have n0 : c.k ≠ 0 := fun e => hfit.empty e rfl
        have g0 := hfit.k0
        have g6 := hfit.k6
        by_cases h5 : c.k = 5
        · have e1 : catPc n c = ⟨parL true (showN n c), c, nestN n c + 1⟩ := by unfold catPc; rw [h5]; rfl
          rw [e1]
          exact core_ok (core_grp hr.pattern) n4 n0
        · have e1 : catPc n c = ⟨showN n c, c, nestN n c⟩ := by
            unfold catPc
            have a1 : among [5] c.k = false := by simp [among, h5]
            have a2 : barB 4 c.k = false := by simp [barB, h5]
            rw [a1, a2]; rfl
          rw [e1]
          exact core_ok (hr.core (by omega)) n4 n0) (by rw [List.length_map]; omega)
      rw [cat_text, cat_max, cat_trees] at hb
      have ej : joinT 4 l = .mk 4 zero4 0 0 l := by
        match l, h2 with
        | _ :: _ :: _, _ => rfl
      rw [ej] at hb
      exact reads_branch hb (by show (4 : Int) ≠ 5; omega) (by show ¬ ((4 : Int) = 1 ∨ (4 : Int) = 2 ∨ (4 : Int) = 3 ∨ (4 : Int) = 6); omega)
    · obtain ⟨rfl, rfl⟩ := htimes (by omega)
      obtain rfl := hset (by omega)
      obtain ⟨_, h2⟩ := hparts (by omega)
      have hq : ∀ c, c ∈ l → BrOk (altPc n c) := fun c hcl => by
        obtain ⟨hr, hfit⟩ := hR c hcl
        have n5 : c.k ≠ 5 := fun e => (hfit.parts (Or.inr e)).1 e
        exact ⟨hr.branch n5, n5⟩
      match l, h2, hq, hlen with
      | t :: u :: r, _, hq, hlen =>
        have hp := pattern_at (altPc n t) ((u :: r).map (altPc n)) (hq t (by simp)) (fun q hqm => by
          obtain ⟨c, hcl, rfl⟩ := List.mem_map.1 hqm
          exact hq c (List.mem_cons_of_mem _ hcl)) (by rw [List.length_map]; simp only [List.length_cons] at hlen ⊢; omega)
        rw [alt_text, ← List.map_cons (f := altPc n), alt_max, alt_trees] at hp
        exact ⟨hp, fun h => absurd rfl h, fun h => by have h' : (5 : Int) = 1 ∨ (5 : Int) = 2 ∨ (5 : Int) = 3 ∨ (5 : Int) = 6 := h; omega⟩
    · obtain rfl := hset (by omega)
      obtain ⟨h1, hx⟩ := hrep rfl
      obtain ⟨u, rfl⟩ := List.length_eq_one_iff.1 h1
      obtain ⟨hr, hfit⟩ := hR u (by simp)
      have g0 := hfit.k0
      have g6 := hfit.k6
      have core : CoreAt (parL (among [5, 4, 0] u.k) (showN n u)) u (upN (barB 6 u.k) (nestN n u)) := by
        by_cases hb : u.k = 5 ∨ u.k = 4 ∨ u.k = 0
        · have e1 : among [5, 4, 0] u.k = true := by rcases hb with h | h | h <;> rw [h] <;> rfl
          have e2 : barB 6 u.k = true := by rcases hb with h | h | h <;> rw [h] <;> rfl
          rw [e1, e2]
          exact core_grp hr.pattern
        · have m5 : u.k ≠ 5 := fun h => hb (Or.inl h)
          have m4 : u.k ≠ 4 := fun h => hb (Or.inr (Or.inl h))
          have m0 : u.k ≠ 0 := fun h => hb (Or.inr (Or.inr h))
          have e1 : among [5, 4, 0] u.k = false := by simp [among, m5, m4, m0]
          have e2 : barB 6 u.k = false := by simp [barB, m5, m4, m0]
          rw [e1, e2]
          exact hr.core (by omega)
      have hc2 := core_rep core (lo, hi) hx
      have es : showN (n + 1) (.mk 6 zero4 lo hi [u]) = parL (among [5, 4, 0] u.k) (showN n u) ++ timesL lo hi := by
        show (parL (among [5, 4, 0] u.k) (showN n u) ++ []) ++ timesL lo hi = _
        rw [List.append_nil]
      have en : nestN (n + 1) (.mk 6 zero4 lo hi [u]) = upN (barB 6 u.k) (nestN n u) := Nat.max_eq_left (Nat.zero_le _)
      rw [es, en]
      exact reads_core hc2 (by show (6 : Int) ≠ 4; omega) (by show (6 : Int) ≠ 0; omega) (by show (6 : Int) ≠ 5; omega)

theorem timesL_len (lo hi : Int) : (timesL lo hi).length ≤ 7 := by
  have h1 := digs_len lo.toNat
  have h2 := digs_len hi.toNat
  unfold timesL
  split
  · simp
  split
  · simp
  split
  · simp
  split
  · simp only [List.length_append, List.length_cons, List.length_nil]; omega
  split
  · simp only [List.length_append, List.length_cons, List.length_nil]; omega
  · simp only [List.length_append, List.length_cons, List.length_nil]; omega
theorem parts_len (g : Tree → List UInt8) (N : Tree → Nat) (sep : List UInt8) (hs : sep.length ≤ 1) (ks : List Int) (l : List Tree) (h : ∀ c, c ∈ l → (g c).length + 3 ≤ 540 * N c) : (partsL g sep ks l).length ≤ 540 * sumL N l := by
  have hp : ∀ (b : Bool) (x : List UInt8), (parL b x).length ≤ x.length + 2 := by
    intro b x
    unfold parL
    split
    · simp only [List.length_append, List.length_cons, List.length_nil]; omega
    · omega
  have hr : ∀ l : List Tree, (∀ c, c ∈ l → (g c).length + 3 ≤ 540 * N c) → (l.flatMap fun u => sep ++ parL (among ks u.k) (g u)).length ≤ 540 * sumL N l := by
    intro l
    induction l with
    | nil => intro _; simp
    | cons u r ih =>
      intro h
      have h1 := ih fun c hc => h c (List.mem_cons_of_mem _ hc)
      have h2 := h u (by simp)
      have h3 := hp (among ks u.k) (g u)
      rw [List.flatMap_cons, List.length_append, List.length_append]
      show _ ≤ 540 * (N u + sumL N r)
      omega
  cases l with
  | nil => simp [partsL]
  | cons t r =>
    have h1 := hr r fun c hc => h c (List.mem_cons_of_mem _ hc)
    have h2 := h t (by simp)
    have h3 := hp (among ks t.k) (g t)
    show (parL (among ks t.k) (g t) ++ _).length ≤ 540 * (N t + sumL N r)
    rw [List.length_append]
    omega
theorem show_len (n : Nat) : ∀ (t : Tree), (showN n t).length + 3 ≤ 540 * nodesN n t := by
  induction n with
  | zero => intro t; show 0 + 3 ≤ 540 * 1; omega
  | succ n ih =>
    intro t
    have h1 := parts_len (showN n) (nodesN n) [] (by simp) [5] t.kids fun c _ => ih c
    have h2 := parts_len (showN n) (nodesN n) [124] (by simp) [] t.kids fun c _ => ih c
    have h3 := parts_len (showN n) (nodesN n) [] (by simp) [5, 4, 0] t.kids fun c _ => ih c
    have h4 := setL_len t.f
    have h5 := timesL_len t.lo t.hi
    show _ ≤ 540 * (1 + sumL (nodesN n) t.kids)
    unfold showN
    split
    · omega
    split
    · simp only [List.length_cons, List.length_nil]; omega
    split
    · simp only [List.length_cons, List.length_nil]; omega
    split
    · omega
    split
    · omega
    split
    · rw [List.length_append]; omega
    · simp only [List.length_nil]; omega
theorem sumL_mono (g h : Tree → Nat) (e : ∀ t, g t ≤ h t) (l : List Tree) : sumL g l ≤ sumL h l := by
  induction l with
  | nil => exact Nat.le_refl _
  | cons a l ih => show g a + sumL g l ≤ h a + sumL h l; have := e a; omega
theorem nodes_up (n : Nat) : ∀ (t : Tree), nodesN n t ≤ nodesN (n + 1) t := by
  induction n with
  | zero => intro t; show 1 ≤ 1 + _; omega
  | succ n ih => intro t; show 1 + sumL (nodesN n) t.kids ≤ 1 + sumL (nodesN (n + 1)) t.kids; have := sumL_mono _ _ ih t.kids; omega
theorem nodes_mono (n k : Nat) (t : Tree) : nodesN n t ≤ nodesN (n + k) t := by
  induction k with
  | zero => exact Nat.le_refl _
  | succ k ih => exact Nat.le_trans ih (nodes_up (n + k) t)
theorem show_size (t : Tree) (h : nodesN 150 t ≤ 400) : (showN 100 t).length ≤ 216000 := by
  have h1 := show_len 100 t
  have h2 : nodesN 100 t ≤ nodesN 150 t := nodes_mono 100 50 t
  omega
end Go.Proofs.YtdhndfmblmcapaaDoor
