/- Parse of what Show writes is the set, and all of the text. -/
import Derived.Test.YtdhndfmblmcapaaDoorParse
import Derived.Test.YtdhndfmblmcapaaDoorShow
namespace Go.Proofs.YtdhndfmblmcapaaDoor
open Go.RowKit

def item (c : Nat) : UInt8 × UInt8 × Nat := (c.toUInt8, c.toUInt8, if spc c = true then 2 else 1)
theorem listTo_flat (p : Nat → Bool) : ∀ n, listTo p n = ((List.range n).filter p).flatMap escOf
  | 0 => rfl
  | n + 1 => by
    show listTo p n ++ _ = _
    rw [listTo_flat p n, List.range_succ, List.filter_append, List.flatMap_append]
    congr 1
    cases h : p n <;> simp [h]
theorem spc_cases {c : Nat} (h : spc c = true) : c = 94 ∨ c = 45 ∨ c = 93 ∨ c = 91 ∨ c = 92 := by simp [spc] at h; omega
theorem spc_not {c : Nat} (h : spc c = false) : c ≠ 94 ∧ c ≠ 45 ∧ c ≠ 93 ∧ c ≠ 91 ∧ c ≠ 92 := by simp [spc] at h; omega
theorem u8_ne_of {k m : Nat} (hk : k < 256) (hm : m < 256) (h : k ≠ m) : k.toUInt8 ≠ m.toUInt8 := fun e => h (by rw [← u8_nat hk, ← u8_nat hm, e])

theorem esc_head (c : Nat) (hc : c < 256) (X : List UInt8) : ∃ d t, escOf c ++ X = d :: t ∧ d ≠ 45 ∧ d ≠ 93 ∧ d ≠ 94 := by
  unfold escOf
  cases h : spc c
  · rw [if_neg (by decide)]
    obtain ⟨h1, h2, h3, _, _⟩ := spc_not h
    exact ⟨_, _, rfl, u8_ne_of hc (m := 45) (by omega) h2, u8_ne_of hc (m := 93) (by omega) h3, u8_ne_of hc (m := 94) (by omega) h1⟩
  · rw [if_pos rfl]
    exact ⟨_, _, rfl, by decide, by decide, by decide⟩
theorem esc_mem (c : Nat) (hc : c < 256) (d : UInt8) (t : List UInt8) (hd : d ≠ 45) : MemAt (escOf c ++ d :: t) c.toUInt8 c.toUInt8 (if spc c = true then 2 else 1) := by
  unfold escOf
  cases h : spc c
  · obtain ⟨h1, h2, h3, h4, h5⟩ := spc_not h
    exact Or.inl ⟨rfl, rfl, d, t, rfl, u8_ne_of hc (m := 92) (by omega) h5, u8_ne_of hc (m := 91) (by omega) h4, hd⟩
  · refine Or.inr (Or.inl ⟨rfl, rfl, d, t, rfl, ?_, ?_, hd⟩)
    · exact u8_ne_of hc (m := 110) (by omega) (by have := spc_cases h; omega)
    · exact u8_ne_of hc (m := 116) (by omega) (by have := spc_cases h; omega)
theorem esc_drop (c : Nat) (X : List UInt8) : (escOf c ++ X).drop (if spc c = true then 2 else 1) = X := by
  unfold escOf
  cases h : spc c <;> simp
theorem esc_len (c : Nat) : (escOf c).length = if spc c = true then 2 else 1 := by
  unfold escOf
  cases h : spc c <;> simp

theorem chain_of : ∀ (cs : List Nat) (B : List UInt8), cs ≠ [] → (∀ c, c ∈ cs → c < 256) → Chain (cs.flatMap escOf ++ 93 :: B) (cs.map item)
  | [], _, h, _ => absurd rfl h
  | [c], B, _, hc => by
    have h256 := hc c (by simp)
    show MemAt _ _ _ _ ∧ _
    simp only [List.flatMap_cons, List.flatMap_nil, List.append_nil]
    exact ⟨esc_mem c h256 93 B (by decide), B, esc_drop c _⟩
  | c :: c' :: r, B, _, hc => by
    have h256 := hc c (by simp)
    have h256' := hc c' (by simp)
    have ih := chain_of (c' :: r) B (by simp) (fun x hx => hc x (by simp at hx ⊢; exact Or.inr hx))
    obtain ⟨d, t, e, h45, h93, _⟩ := esc_head c' h256' (r.flatMap escOf ++ 93 :: B)
    have e0 : (c :: c' :: r).flatMap escOf ++ 93 :: B = escOf c ++ ((c' :: r).flatMap escOf ++ 93 :: B) := by simp
    have e1 : (c' :: r).flatMap escOf ++ 93 :: B = d :: t := by rw [← e]; simp
    rw [e0]
    show MemAt _ _ _ _ ∧ (∃ d t, _ ∧ _) ∧ Chain _ _
    refine ⟨?_, ⟨d, t, ?_, h93⟩, ?_⟩
    · rw [e1]; exact esc_mem c h256 d t h45
    · show (escOf c ++ _).drop _ = _
      rw [← e1]; exact esc_drop c _
    · show Chain ((escOf c ++ _).drop _) _
      have := esc_drop c ((c' :: r).flatMap escOf ++ 93 :: B)
      rw [show (item c).2.2 = if spc c = true then 2 else 1 from rfl, this]
      exact ih
theorem len_of : ∀ cs : List Nat, lenOf (cs.map item) = (cs.flatMap escOf).length
  | [] => rfl
  | c :: r => by
    show (if spc c = true then 2 else 1) + lenOf (r.map item) = _
    rw [len_of r, List.flatMap_cons, List.length_append, esc_len]
theorem in_of : ∀ (cs : List Nat), (∀ c, c ∈ cs → c < 256) → ∀ c, inItems (cs.map item) c = decide (c ∈ cs)
  | [], _, _ => by simp [inItems]
  | x :: r, h, c => by
    have hx := h x (by simp)
    show ((decide (x.toUInt8.toNat ≤ c) && decide (c ≤ x.toUInt8.toNat)) || inItems (r.map item) c) = _
    rw [in_of r (fun y hy => h y (by simp [hy])) c, u8_nat hx, ← Bool.decide_and, ← Bool.decide_or]
    refine decide_eq_decide.2 ?_
    simp only [List.mem_cons]
    constructor
    · rintro (h | h)
      · exact Or.inl (by omega)
      · exact Or.inr h
    · rintro (h | h)
      · exact Or.inl (by omega)
      · exact Or.inr h

theorem mem_set (p : Nat → Bool) {c : Nat} (hc : c < 256) : decide (c ∈ (List.range 256).filter p) = p c := by
  cases h : p c <;> simp [h, hc]
theorem cs_lt (p : Nat → Bool) : ∀ c, c ∈ (List.range 256).filter p → c < 256 := fun c hc => by simp at hc; exact hc.1
theorem some_bit {f : Nat → Nat} (hf : Fits f) (h : empty4 f = false) : (List.range 256).filter (bit f) ≠ [] := by
  intro e
  have hb : ∀ c, c < 256 → bit f c = bit zero4 c := fun c hc => by
    rw [bit_zero, ← mem_set (bit f) hc, e]; simp
  have hw := word_ext hf fits_zero hb
  have := (empty_iff f).2 hw
  rw [h] at this
  cases this

theorem parse_show (f : Nat → Nat) (hf : Fits f) (s : ByteArray) (k : Nat) (B : List UInt8) (h : s.data.toList.drop k = showL f ++ B) (hs : s.size ≤ 1152921504606846976) (w : World) :
    Calls Tryd.prog 71 #[.string s, .int .i64 k] w fun e w' => e = .returned (.tuple #[.agg (words f), .int .i64 ((k + (showL f).length : Nat) : Int), .int .i64 0]) ∧ Below w.heap.size w w' := by
  cases he : empty4 f
  · have e : showL f = [91] ++ listTo (bit f) 256 ++ [93] := by unfold showL; rw [if_neg (by rw [he]; decide)]
    have hne := some_bit hf he
    have hch := chain_of _ B hne (cs_lt (bit f))
    rw [e, listTo_flat] at h ⊢
    have h2 : s.data.toList.drop k = 91 :: (((List.range 256).filter (bit f)).flatMap escOf ++ 93 :: B) := by rw [h]; simp
    obtain ⟨x, r, hx⟩ := List.exists_cons_of_ne_nil hne
    have hhead : Lib.hasPrefix (((List.range 256).filter (bit f)).flatMap escOf ++ 93 :: B) [94] = false := by
      have hx2 := cs_lt (bit f) x (by rw [hx]; simp)
      obtain ⟨d, t, e2, _, _, h94⟩ := esc_head x hx2 (r.flatMap escOf ++ 93 :: B)
      rw [hx, List.flatMap_cons, List.append_assoc, e2]
      simp [Lib.hasPrefix, List.isPrefixOf, Ne.symm h94]
    refine (parse_pos s k _ _ h2 hhead hch hs w).mono ?_
    rintro e' w' ⟨g, rfl, hS, hb⟩
    refine ⟨?_, hb⟩
    have hw : words g = words f := words_ext hS.out.1 hf fun c hc => by rw [hS.out.2 c hc, in_of _ (cs_lt (bit f)), mem_set _ hc]
    have hl : k + 1 + lenOf (((List.range 256).filter (bit f)).map item) + 1 = k + ([91] ++ ((List.range 256).filter (bit f)).flatMap escOf ++ [93]).length := by
      rw [len_of]; simp; omega
    rw [hw, hl]
  · have e : showL f = [91, 94] ++ listTo (fun _ => true) 256 ++ [93] := by unfold showL; rw [if_pos he]
    have hch := chain_of ((List.range 256).filter (fun _ => true)) B (by decide) (cs_lt _)
    rw [e, listTo_flat] at h ⊢
    have h2 : s.data.toList.drop k = 91 :: 94 :: (((List.range 256).filter (fun _ => true)).flatMap escOf ++ 93 :: B) := by rw [h]; simp
    refine (parse_neg s k _ _ h2 hch hs w).mono ?_
    rintro e' w' ⟨g, rfl, hS, hb⟩
    refine ⟨?_, hb⟩
    have hw : words g = words f := words_ext hS.out.1 hf fun c hc => by
      rw [hS.out.2 c hc, in_of _ (cs_lt _), mem_set _ hc, empty_bit he hc]; rfl
    have hl : k + 2 + lenOf (((List.range 256).filter (fun _ => true)).map item) + 1 = k + ([91, 94] ++ ((List.range 256).filter (fun _ => true)).flatMap escOf ++ [93]).length := by
      rw [len_of]; simp; omega
    rw [hw, hl]
end Go.Proofs.YtdhndfmblmcapaaDoor
