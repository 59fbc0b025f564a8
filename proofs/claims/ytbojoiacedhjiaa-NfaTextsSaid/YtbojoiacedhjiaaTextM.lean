/- The machine of a text, and of a*: plain Lean. -/
import Derived.Test.YtbojoiacedhjiaaNBuild
import Derived.Test.YtbojoiacedhjiaaWalkT
import Derived.Test.YtbojoiacedhjiaaLongest
namespace Go.Proofs.Ytbojoiacedhjiaa
open Go.RowKit

theorem pow_lt64 (c : Nat) : 2 ^ (c % 64) < 18446744073709551616 := by
  have h1 : 2 ^ (c % 64) ≤ 2 ^ 63 := Nat.pow_le_pow_right (by decide) (by omega)
  have h2 : (2 : Nat) ^ 63 < 18446744073709551616 := by decide
  omega
/-- The set of one byte. -/
def oneF (c : Nat) : Nat → Nat := fun i => if i = c / 64 then 2 ^ (c % 64) else 0
theorem fits_oneF (c : Nat) : Fits (oneF c) := by
  intro i hi
  unfold oneF
  split
  · exact pow_lt64 c
  · decide
theorem bit_oneF (c x : Nat) : bit (oneF c) x = decide (x = c) := by
  unfold bit oneF
  by_cases h : x / 64 = c / 64
  · rw [if_pos h, Nat.testBit_two_pow]
    exact decide_eq_decide.2 (by omega)
  · rw [if_neg h, Nat.zero_testBit]
    exact (decide_eq_false (by omega)).symm
def oneT (c : Nat) : Tree := .mk 1 (oneF c) 0 0 []
def oneP (c : Nat) : Plan := .mk 1 (oneF c) 0 0 1 []
def emptyT : Tree := .mk 0 zero4 0 0 []
def joinT (kind : Int) : List Tree → Tree
  | [] => emptyT
  | [t] => t
  | t :: u :: r => .mk kind zero4 0 0 (t :: u :: r)
def bytesT (l : List UInt8) : List Tree := l.map fun c => oneT c.toNat
def textT (l : List UInt8) : Tree := joinT 4 (bytesT l)

theorem oneT_fit (within : Int) (c : Nat) : FitT within (oneT c) where
  fits := fits_oneF c
  k0 := by show (0 : Int) ≤ 1; omega
  k6 := by show (1 : Int) ≤ 6; omega
  set := fun h => absurd rfl h
  times := fun _ => ⟨rfl, rfl⟩
  alone := fun _ => rfl
  empty := fun h => by have h' : (1 : Int) = 0 := h; omega
  parts := fun h => by have h' : (1 : Int) = 4 ∨ (1 : Int) = 5 := h; omega
  rep := fun h => by have h' : (1 : Int) = 6 := h; omega
  few := Nat.zero_le _
theorem good_one (n : Nat) (within : Int) (c : Nat) : Good (n + 1) within (oneT c) := ⟨oneT_fit within c, fun x hx => absurd hx (by simp [oneT, Tree.kids])⟩
theorem empty_fit : FitT (-1) emptyT where
  fits := fits_zero
  k0 := by show (0 : Int) ≤ 0; omega
  k6 := by show (0 : Int) ≤ 6; omega
  set := fun _ _ _ => rfl
  times := fun _ => ⟨rfl, rfl⟩
  alone := fun _ => rfl
  empty := fun _ => by decide
  parts := fun h => by have h' : (0 : Int) = 4 ∨ (0 : Int) = 5 := h; omega
  rep := fun h => by have h' : (0 : Int) = 6 := h; omega
  few := Nat.zero_le _
theorem good_empty (n : Nat) : Good (n + 1) (-1) emptyT := ⟨empty_fit, fun x hx => absurd hx (by simp [emptyT, Tree.kids])⟩
/-- A tree of two parts or more. -/
theorem many_fit (within k : Int) (l : List Tree) (hk : k = 4 ∨ k = 5) (hw : k ≠ within) (h2 : 2 ≤ l.length) (hl : l.length ≤ 1000000) : FitT within (.mk k zero4 0 0 l) where
  fits := fits_zero
  k0 := by show (0 : Int) ≤ k; omega
  k6 := by show k ≤ 6; omega
  set := fun _ _ _ => rfl
  times := fun _ => ⟨rfl, rfl⟩
  alone := fun h => by have h' : k < 4 := h; omega
  empty := fun h => by have h' : k = 0 := h; omega
  parts := fun _ => ⟨hw, h2⟩
  rep := fun h => by have h' : k = 6 := h; omega
  few := hl
theorem star_fit : FitT (-1) (.mk 6 zero4 0 (-1) [oneT 97]) where
  fits := fits_zero
  k0 := by show (0 : Int) ≤ 6; omega
  k6 := by show (6 : Int) ≤ 6; omega
  set := fun _ _ _ => rfl
  times := fun h => absurd rfl h
  alone := fun h => by have h' : (6 : Int) < 4 := h; omega
  empty := fun h => by have h' : (6 : Int) = 0 := h; omega
  parts := fun h => by have h' : (6 : Int) = 4 ∨ (6 : Int) = 5 := h; omega
  rep := fun _ => ⟨rfl, by show (0 : Int) ≤ 0; omega, by show (0 : Int) ≤ 50; omega, Or.inl rfl⟩
  few := by show 1 ≤ 1000000; omega
theorem bytesT_len (l : List UInt8) : (bytesT l).length = l.length := by simp [bytesT]
theorem bytesT_mem (l : List UInt8) (t : Tree) (h : t ∈ bytesT l) : ∃ c, t = oneT c := by
  obtain ⟨c, _, rfl⟩ := List.mem_map.1 h
  exact ⟨_, rfl⟩
theorem textT_two (c d : UInt8) (r : List UInt8) : textT (c :: d :: r) = .mk 4 zero4 0 0 (bytesT (c :: d :: r)) := rfl
theorem good_text (l : List UInt8) (hl : l.length ≤ 30) : Good 100 (-1) (textT l) := by
  match l, hl with
  | [], _ => exact good_empty 99
  | [c], _ => exact good_one 99 _ _
  | c :: d :: r, hl =>
    rw [textT_two]
    refine ⟨many_fit (-1) 4 _ (Or.inl rfl) (by omega) (by rw [bytesT_len]; simp) (by rw [bytesT_len]; omega), fun t ht => ?_⟩
    obtain ⟨x, rfl⟩ := bytesT_mem _ t ht
    exact good_one 98 _ _
theorem noAlt_one (n c : Nat) : NoAltT (n + 1) (oneT c) := ⟨by show (1 : Int) ≠ 5; omega, fun x hx => absurd hx (by simp [oneT, Tree.kids])⟩
theorem noAlt_text (l : List UInt8) : NoAltT 100 (textT l) := by
  match l with
  | [] => exact ⟨by show (0 : Int) ≠ 5; omega, fun x hx => absurd hx (by simp [textT, bytesT, joinT, emptyT, Tree.kids])⟩
  | [c] => exact noAlt_one 99 _
  | c :: d :: r =>
    rw [textT_two]
    refine ⟨by show (4 : Int) ≠ 5; omega, fun t ht => ?_⟩
    obtain ⟨x, rfl⟩ := bytesT_mem _ t ht
    exact noAlt_one 98 _
theorem planN_one (d c : Nat) : planN (d + 1) (oneT c) = oneP c := rfl
theorem planN_empty (d : Nat) : planN (d + 1) emptyT = emptyP := rfl
theorem partsN_bytes (d : Nat) (l : List UInt8) (n : Nat) (ps : List Plan) (h : n + l.length < 500) : partsN (planN (d + 1)) 4 (bytesT l) n ps = some (n + l.length, ps ++ l.map fun c => oneP c.toNat) := by
  induction l generalizing n ps with
  | nil => simp [bytesT, partsN]
  | cons c r ih =>
    show partsN (planN (d + 1)) 4 (oneT c.toNat :: bytesT r) n ps = _
    simp only [List.length_cons] at h
    unfold partsN
    rw [planN_one, if_neg (by show ¬ 500 ≤ n + 1; omega), if_pos (Or.inl (by show 0 < 1; omega))]
    rw [show n + (oneP c.toNat).n = n + 1 from rfl, ih (n + 1) _ (by omega)]
    congr 2
    · simp only [List.length_cons]; omega
    · simp
theorem planN_text (c d : UInt8) (r : List UInt8) (hl : (c :: d :: r).length ≤ 30) : planN 100 (textT (c :: d :: r)) = .mk 4 zero4 0 0 (c :: d :: r).length ((c :: d :: r).map fun c => oneP c.toNat) := by
  rw [textT_two]
  show finishN (.mk 4 zero4 0 0 (bytesT (c :: d :: r))) (partsN (planN (98 + 1)) 4 (bytesT (c :: d :: r)) 0 []) = _
  rw [partsN_bytes 98 _ 0 [] (by omega)]
  unfold finishN
  simp only [Nat.zero_add, List.nil_append]
  have h4 : ownN 4 0 0 (c :: d :: r).length = (c :: d :: r).length := by unfold ownN; rw [if_neg (by decide), if_neg (by decide)]
  show (if ownN 4 0 0 (c :: d :: r).length = 0 then emptyP else Plan.mk 4 zero4 0 0 (ownN 4 0 0 (c :: d :: r).length) _) = _
  rw [h4, if_neg (by simp)]
theorem plan_few (l : List UInt8) (hl : l.length ≤ 30) : (planN 100 (textT l)).n < 500 := by
  match l, hl with
  | [], _ => exact (by decide : (0 : Nat) < 500)
  | [c], _ => exact (by decide : (1 : Nat) < 500)
  | c :: d :: r, hl => rw [planN_text c d r hl]; show (c :: d :: r).length < 500; omega

/-- The machine of a text. -/
def textM : List UInt8 → Mk
  | [] => (0, [goalS])
  | c :: r => putN (textM r).2 ⟨1, oneF c.toNat, (textM r).1, 0⟩
theorem revF_foldl {α β : Type} (l : List α) (f : β → α → β) (a : β) : (revF l.length).foldl (fun x i => f x l[i]) a = l.foldr (fun c x => f x c) a := by
  have h : (revF l.length).map (fun i => l[i]) = l.reverse := by
    have h := revF_map l id
    rw [List.map_id] at h
    exact h
  rw [← List.foldl_reverse, ← h, List.foldl_map]
theorem machN_text (l : List UInt8) (hl : l.length ≤ 30) : machN (textT l) = textM l := by
  match l, hl with
  | [], _ => rfl
  | [c], _ => rfl
  | c :: d :: r, hl =>
    unfold machN
    rw [planN_text c d r hl]
    show catN (layN 99) ((c :: d :: r).map fun c => oneP c.toNat) 0 [goalS] = _
    unfold catN
    rw [revF_foldl ((c :: d :: r).map fun c => oneP c.toNat) (fun x (q : Plan) => layN 99 q x.1 x.2) (0, [goalS]), List.foldr_map]
    generalize (c :: d :: r) = l
    induction l with
    | nil => rfl
    | cons c r ih => rw [List.foldr_cons, ih]; rfl
theorem textM_len (l : List UInt8) : (textM l).2.length = l.length + 1 := by
  induction l with
  | nil => rfl
  | cons c r ih => show ((textM r).2 ++ [_]).length = _; rw [List.length_append, ih]; rfl
theorem textM_start (l : List UInt8) : (textM l).1 = l.length := by
  cases l with
  | nil => rfl
  | cons c r => show (textM r).2.length = _; rw [textM_len]; rfl
theorem textM_last (c : UInt8) (r : List UInt8) : (textM (c :: r)).2[r.length + 1]? = some ⟨1, oneF c.toNat, r.length, 0⟩ := by
  show ((textM r).2 ++ [(⟨1, oneF c.toNat, (textM r).1, 0⟩ : St)])[r.length + 1]? = _
  rw [List.getElem?_append_right (by rw [textM_len]; omega), textM_len, Nat.sub_self, textM_start]
  rfl
theorem textM_pre (p r : List UInt8) (j : Nat) (hj : j ≤ r.length) : (textM (p ++ r)).2[j]? = (textM r).2[j]? := by
  induction p with
  | nil => rfl
  | cons c p ih =>
    show ((textM (p ++ r)).2 ++ [_])[j]? = _
    rw [List.getElem?_append_left (by rw [textM_len, List.length_append]; omega)]
    exact ih
theorem textM_first (l : List UInt8) : (textM l).2[0]? = some goalS := by
  have := textM_pre l [] 0 (Nat.le_refl _)
  rw [List.append_nil] at this
  rw [this]; rfl
theorem textM_mem (l : List UInt8) (s : St) (h : s ∈ (textM l).2) : s.nx < l.length + 1 ∧ s.ot < l.length + 1 ∧ Fits s.f := by
  induction l with
  | nil =>
    have h' : s ∈ [goalS] := h
    rw [List.mem_singleton.1 h']
    exact ⟨by decide, by decide, fits_zero⟩
  | cons c r ih =>
    have h' : s ∈ (textM r).2 ++ [(⟨1, oneF c.toNat, (textM r).1, 0⟩ : St)] := h
    simp only [List.length_cons]
    rcases List.mem_append.1 h' with h' | h'
    · obtain ⟨h1, h2, h3⟩ := ih h'
      exact ⟨by omega, by omega, h3⟩
    · rw [List.mem_singleton.1 h']
      refine ⟨?_, by show (0 : Nat) < _; omega, fits_oneF _⟩
      show (textM r).1 < _
      rw [textM_start]; omega
theorem textM_ok (l : List UInt8) (hl : l.length ≤ 30) : SsOk (textM l).2 := by
  refine ⟨by rw [textM_len]; omega, by rw [textM_len]; omega, fun s hs => ?_, fun s hs => (textM_mem l s hs).2.2⟩
  rw [textM_len]
  exact ⟨(textM_mem l s hs).1, (textM_mem l s hs).2.1⟩

/-- What walking a text's machine over that text tells. -/
theorem text_walk (l : List UInt8) (s : ByteArray) (r : List UInt8) : ∀ (p : List UInt8) (_ : l = p ++ r) (d place : Nat) (seen told : List Nat), r.length ≤ d → (∀ i (h : i < r.length), byteN s (place + i) = r[i].toNat) → seen.length = (textM l).2.length → (∀ k, k ∈ seen → k ≤ place) →
    (walkN (textM l).2 s d place (comeN (textM l).2 s.size (textM l).2.length r.length place ⟨seen, [], told⟩)).told = told ++ [place + r.length] := by
  induction r with
  | nil =>
    intro p hp d place seen told hd hb hsl hse
    have hlen := textM_len l
    have h0 : (textM l).2[0]? = some goalS := textM_first l
    have hs0 : seen[0]? ≠ some (place + 1) := fun e => by have := hse _ (List.mem_of_getElem? e); omega
    have hc : comeN (textM l).2 s.size (textM l).2.length 0 place ⟨seen, [], told⟩ = ⟨seen.set 0 (place + 1), [], told ++ [place]⟩ := by
      rw [hlen]
      unfold comeN
      rw [if_neg hs0, h0]
      rfl
    show (walkN (textM l).2 s d place (comeN (textM l).2 s.size (textM l).2.length 0 place ⟨seen, [], told⟩)).told = _
    rw [hc, walkN_stop _ _ _ _ _ rfl]
    rfl
  | cons c r ih =>
    intro p hp d place seen told hd hb hsl hse
    have hlen := textM_len l
    simp only [List.length_cons] at hd
    have hl1 : (textM l).2[r.length + 1]? = some ⟨1, oneF c.toNat, r.length, 0⟩ := by
      rw [hp, textM_pre p (c :: r) (r.length + 1) (by simp)]
      exact textM_last c r
    have hs0 : seen[r.length + 1]? ≠ some (place + 1) := fun e => by have := hse _ (List.mem_of_getElem? e); omega
    have hc : comeN (textM l).2 s.size (textM l).2.length (r.length + 1) place ⟨seen, [], told⟩ = ⟨seen.set (r.length + 1) (place + 1), [r.length + 1], told⟩ := by
      rw [hlen]
      unfold comeN
      rw [if_neg hs0, hl1]
      rfl
    obtain ⟨d', rfl⟩ : ∃ d', d = d' + 1 := ⟨d - 1, by omega⟩
    show (walkN (textM l).2 s (d' + 1) place (comeN (textM l).2 s.size (textM l).2.length (r.length + 1) place ⟨seen, [], told⟩)).told = told ++ [place + (r.length + 1)]
    rw [hc]
    unfold walkN
    rw [if_neg (by simp)]
    have hb0 : byteN s place = c.toNat := hb 0 (by simp)
    have hone : stepN (textM l).2 s.size (byteN s place) place [r.length + 1] (clearN ⟨seen.set (r.length + 1) (place + 1), [r.length + 1], told⟩) = comeN (textM l).2 s.size (textM l).2.length r.length (place + 1) ⟨seen.set (r.length + 1) (place + 1), [], told⟩ := by
      show oneN (textM l).2 s.size (byteN s place) place (clearN _) (r.length + 1) = _
      unfold oneN
      rw [hl1]
      simp only
      rw [hb0, bit_oneF, if_pos (by simp)]
      rfl
    rw [hone]
    have := ih (p ++ [c]) (by rw [hp]; simp) d' (place + 1) (seen.set (r.length + 1) (place + 1)) told (by omega) (fun i h => by
      have := hb (i + 1) (by simp; omega)
      rw [show place + 1 + i = place + (i + 1) by omega, this]
      rfl) (by simpa using hsl) (fun k hk => by
      rcases List.mem_or_eq_of_mem_set hk with h | h
      · have := hse k h; omega
      · omega)
    rw [this]
    congr 2
    omega
theorem text_told (l : List UInt8) (s : ByteArray) (at_ : Nat) (ha : at_ + l.length ≤ s.size) (hb : ∀ i (h : i < l.length), byteN s (at_ + i) = l[i].toNat) : toldN (textM l).2 (textM l).1 s at_ = [at_ + l.length] := by
  unfold toldN
  rw [textM_start]
  exact text_walk l s l [] rfl (s.size - at_) at_ (List.replicate (textM l).2.length 0) [] (by omega) hb (by simp) (fun k hk => by rw [List.mem_replicate] at hk; omega)

/-- The tree of a*. -/
def starT : Tree := .mk 6 zero4 0 (-1) [oneT 97]
def starS : List St := [goalS, ⟨4, zero4, 2, 0⟩, ⟨1, oneF 97, 1, 0⟩]
theorem machN_star : machN starT = (1, starS) := rfl
theorem good_star : Good 100 (-1) starT := ⟨star_fit, fun c hc => by rw [List.mem_singleton.1 hc]; exact good_one 98 _ _⟩
theorem noAlt_star : NoAltT 100 starT := ⟨by show (6 : Int) ≠ 5; omega, fun c hc => by rw [List.mem_singleton.1 hc]; exact noAlt_one 98 _⟩
theorem few_star : (planN 100 starT).n < 500 := by decide
theorem ok_star : SsOk starS := by
  refine ⟨by decide, by decide, fun s hs => ?_, fun s hs => ?_⟩
  · simp only [starS, List.mem_cons, List.mem_nil_iff, or_false] at hs
    rcases hs with rfl | rfl | rfl <;> exact ⟨by decide, by decide⟩
  · simp only [starS, List.mem_cons, List.mem_nil_iff, or_false] at hs
    rcases hs with rfl | rfl | rfl
    · exact fits_zero
    · exact fits_zero
    · exact fits_oneF _
def aab : ByteArray := ⟨#[97, 97, 98]⟩
theorem told_star : toldN starS 1 aab 0 = [0, 1, 2] := by kernel_rfl
theorem last_star : lastN (toldN starS 1 aab 1) = 2 := by kernel_rfl
end Go.Proofs.Ytbojoiacedhjiaa
