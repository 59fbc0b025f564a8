/- Cells that can be stand in an order; a number's text looks like that number: plain mathematics. -/
import Derived.Test.YtpmfkmolbioomaaDoorCellD
namespace Go.Proofs.YtpmfkmolbioomaaDoor
open Go.Lib (compareBytes)

theorem can_num {k n : Int} {s : ByteArray} (h : canB k n s = true) (hk : k ≠ 2) : numC k n = n := by
  rcases can_cases k n s with ⟨rfl, rfl, _, _⟩ | ⟨rfl, rfl, _, hc⟩ | ⟨rfl, _, hc⟩ | ⟨rfl, _, _⟩ | ⟨rfl, _, hc⟩ | ⟨rfl, rfl, _⟩ | ⟨rfl, _, hc⟩ | ⟨rfl, _, rfl, _⟩ | ⟨rfl, _, _, hc⟩ | ⟨rfl, _, hc⟩ | ⟨_, _, _, _, hc⟩
  · rfl
  · rw [h] at hc; cases hc
  · rw [h] at hc; cases hc
  · rfl
  · rw [h] at hc; cases hc
  · exact absurd rfl hk
  · rw [h] at hc; cases hc
  · rfl
  · rw [h] at hc; cases hc
  · rw [h] at hc; cases hc
  · rw [h] at hc; cases hc

theorem cmp_ref {k n : Int} {s : ByteArray} {k' n' : Int} {s' : ByteArray} (h : canB k n s = true) (h' : canB k' n' s' = true) : refCmpC k n s k' n' s' = cmpC k n s k' n' s' := by
  unfold refCmpC cmpC
  by_cases hk : k = 2 ∨ k' = 2
  · rw [if_pos hk, if_pos hk]
  · rw [if_neg hk, if_neg hk, can_num h (fun e => hk (Or.inl e)), can_num h' (fun e => hk (Or.inr e))]
    unfold cmpI
    by_cases h1 : n = n'
    · rw [if_pos h1, if_neg (by omega), if_neg (by omega)]
    · rw [if_neg h1]
      by_cases h2 : n < n'
      · rw [if_pos h2, if_pos h2]
      · rw [if_neg h2, if_neg h2, if_pos (by omega)]

theorem cmpI_turn (m n : Int) : cmpI n m = - cmpI m n := by
  unfold cmpI
  by_cases h1 : m < n
  · rw [if_neg (by omega), if_pos h1, if_pos h1]; rfl
  · by_cases h2 : n < m
    · rw [if_pos h2, if_neg h1, if_pos h2]
    · rw [if_neg h2, if_neg h1, if_neg h1, if_neg h2]; rfl
theorem cmpC_turn (k n : Int) (s : ByteArray) (k' n' : Int) (s' : ByteArray) : cmpC k' n' s' k n s = - cmpC k n s k' n' s' := by
  unfold cmpC
  by_cases hk : k = 2 ∨ k' = 2
  · rw [if_pos hk, if_pos (Or.symm hk)]
    exact cmp_turn _ _
  · rw [if_neg hk, if_neg (fun e => hk (Or.symm e))]
    exact cmpI_turn _ _
theorem cmpC_cases (k n : Int) (s : ByteArray) (k' n' : Int) (s' : ByteArray) : cmpC k n s k' n' s' = -1 ∨ cmpC k n s k' n' s' = 0 ∨ cmpC k n s k' n' s' = 1 := by
  unfold cmpC
  split
  · exact cmp_cases _ _
  · unfold cmpI
    split
    · exact Or.inl rfl
    · split
      · exact Or.inr (Or.inr rfl)
      · exact Or.inr (Or.inl rfl)
theorem cmpC_self (k n : Int) (s : ByteArray) : cmpC k n s k n s = 0 := by
  unfold cmpC
  split
  · exact cmp_self _
  · unfold cmpI
    rw [if_neg (by omega), if_neg (by omega)]

theorem cmp_trans : ∀ a b c : List UInt8, compareBytes a b ≤ 0 → compareBytes b c ≤ 0 → compareBytes a c ≤ 0
  | [], _, [], _, _ => by unfold compareBytes; decide
  | [], _, _ :: _, _, _ => by unfold compareBytes; decide
  | x :: l, [], c, h1, _ => by
    have : compareBytes (x :: l) [] = 1 := rfl
    omega
  | x :: l, y :: m, [], _, h2 => by
    have : compareBytes (y :: m) [] = 1 := rfl
    omega
  | x :: l, y :: m, z :: k, h1, h2 => by
    unfold compareBytes at h1 h2 ⊢
    by_cases a1 : x < y
    · by_cases a2 : y < z
      · rw [if_pos (show x < z by rw [UInt8.lt_iff_toNat_lt] at *; omega)]; decide
      · rw [if_neg a2] at h2
        by_cases a3 : z < y
        · rw [if_pos a3] at h2; omega
        · rw [if_pos (show x < z by rw [UInt8.lt_iff_toNat_lt] at *; omega)]; decide
    · rw [if_neg a1] at h1
      by_cases b1 : y < x
      · rw [if_pos b1] at h1; omega
      · rw [if_neg b1] at h1
        by_cases a2 : y < z
        · rw [if_pos (show x < z by rw [UInt8.lt_iff_toNat_lt] at *; omega)]; decide
        · rw [if_neg a2] at h2
          by_cases a3 : z < y
          · rw [if_pos a3] at h2; omega
          · rw [if_neg a3] at h2
            rw [if_neg (show ¬ x < z by rw [UInt8.lt_iff_toNat_lt] at *; omega), if_neg (show ¬ z < x by rw [UInt8.lt_iff_toNat_lt] at *; omega)]
            exact cmp_trans l m k h1 h2

theorem cmpI_trans {m n o : Int} (h1 : cmpI m n ≤ 0) (h2 : cmpI n o ≤ 0) : cmpI m o ≤ 0 := by
  unfold cmpI at *
  by_cases a : m < o
  · rw [if_pos a]; decide
  · rw [if_neg a]
    by_cases b : o < m
    · exfalso
      by_cases c : m < n
      · rw [if_neg (show ¬ n < o by omega), if_pos (show o < n by omega)] at h2; omega
      · rw [if_neg c] at h1
        by_cases d : n < m
        · rw [if_pos d] at h1; omega
        · rw [if_neg (show ¬ n < o by omega), if_pos (show o < n by omega)] at h2; omega
    · rw [if_neg b]; decide

theorem cmpC_trans {k n : Int} {s : ByteArray} {k' n' : Int} {s' : ByteArray} {k2 n2 : Int} {s2 : ByteArray} (h12 : k = 2 ↔ k' = 2) (h13 : k = 2 ↔ k2 = 2) (h1 : cmpC k n s k' n' s' ≤ 0) (h2 : cmpC k' n' s' k2 n2 s2 ≤ 0) : cmpC k n s k2 n2 s2 ≤ 0 := by
  unfold cmpC at *
  by_cases hk : k = 2
  · rw [if_pos (Or.inl hk)] at h1 ⊢
    rw [if_pos (Or.inl (h12.1 hk))] at h2
    exact cmp_trans _ _ _ h1 h2
  · have hk' : ¬ k' = 2 := fun e => hk (h12.2 e)
    have hk2 : ¬ k2 = 2 := fun e => hk (h13.2 e)
    rw [if_neg (by omega)] at h1 h2 ⊢
    exact cmpI_trans h1 h2

/-! ### A number's text looks like that number -/
theorem dig_plain {c : UInt8} (h : isDig c = true) : ([32, 9, 10] : List UInt8).contains c = false := by
  have h1 := isDig_yes h
  rw [blank_mem]
  unfold blankB
  simp only [Bool.or_eq_false_iff, beq_eq_false_iff_ne]
  omega
theorem showText_plain (n : Int) : ∀ c ∈ showText n, ([32, 9, 10] : List UInt8).contains c = false := by
  have hp : ∀ m, ∀ c ∈ showPlain m, ([32, 9, 10] : List UInt8).contains c = false := by
    intro m c h
    rw [showPlain_split] at h
    rcases List.mem_append.1 h with h | h
    · exact dig_plain (wholeText_digs m c h)
    · unfold showFrac at h
      split at h
      · cases h
      · rcases List.mem_cons.1 h with rfl | h
        · decide
        · exact dig_plain (strip_digs _ _ c h)
  intro c h
  unfold showText at h
  split at h
  · rcases List.mem_cons.1 h with rfl | h
    · decide
    · exact hp _ c h
  · exact hp _ c h
theorem showText_cons (n : Int) : ∃ c l, showText n = c :: l := by
  unfold showText
  split
  · exact ⟨_, _, rfl⟩
  · obtain ⟨c, l, h, _⟩ := wholeText_cons n.natAbs
    rw [showPlain_split, h]
    exact ⟨c, _, rfl⟩

theorem drop_plain {p : UInt8 → Bool} {l r : List UInt8} (h : ∀ c ∈ l, p c = false) (hne : l ≠ []) : (l ++ r).dropWhile p = l ++ r := by
  cases l with
  | nil => exact absurd rfl hne
  | cons c l => rw [List.cons_append, List.dropWhile_cons, if_neg (by rw [h c (by simp)]; decide)]

theorem trim_plain {l : List UInt8} (h : ∀ c ∈ l, ([32, 9, 10] : List UInt8).contains c = false) (hne : l ≠ []) : Lib.trimS l [32, 9, 10] = l := by
  unfold Lib.trimS Lib.trimLeftS Lib.trimRightS
  have h1 := drop_plain (r := []) (p := (([32, 9, 10] : List UInt8).contains ·)) (l := l.reverse) (fun c hc => h c (List.mem_reverse.1 hc)) (by simpa using hne)
  rw [List.append_nil] at h1
  rw [h1, List.reverse_reverse]
  have h2 := drop_plain (r := []) (p := (([32, 9, 10] : List UInt8).contains ·)) h hne
  rw [List.append_nil] at h2
  exact h2
theorem trim_padded {l : List UInt8} (h : ∀ c ∈ l, ([32, 9, 10] : List UInt8).contains c = false) (hne : l ≠ []) : Lib.trimS (32 :: (l ++ [10])) [32, 9, 10] = l := by
  unfold Lib.trimS Lib.trimLeftS Lib.trimRightS
  have e1 : (32 :: (l ++ [10]) : List UInt8).reverse = 10 :: (l.reverse ++ [32]) := by simp
  rw [e1, List.dropWhile_cons, if_pos (by decide)]
  have h1 := drop_plain (r := [32]) (p := (([32, 9, 10] : List UInt8).contains ·)) (l := l.reverse) (fun c hc => h c (List.mem_reverse.1 hc)) (by simpa using hne)
  rw [h1]
  have e2 : (l.reverse ++ [32]).reverse = 32 :: l := by simp
  rw [e2, List.dropWhile_cons, if_pos (by decide)]
  have h2 := drop_plain (r := []) (p := (([32, 9, 10] : List UInt8).contains ·)) h hne
  rw [List.append_nil] at h2
  exact h2

def padT (n : Int) : ByteArray := ({ data := #[32] } : ByteArray) ++ showT n ++ ({ data := #[10] } : ByteArray)
theorem showT_data (n : Int) : (showT n).data.toList = showText n := by unfold showT; rfl
theorem padT_data (n : Int) : (padT n).data.toList = 32 :: (showText n ++ [10]) := by
  unfold padT
  rw [ByteArray.data_append, Array.toList_append, ByteArray.data_append, Array.toList_append, showT_data]
  rfl
theorem showText_ne (n : Int) : showText n ≠ [] := by
  obtain ⟨c, l, h⟩ := showText_cons n
  rw [h]; simp

theorem trimB_show (n : Int) : trimB (showT n) = showT n := by
  unfold trimB
  rw [showT_data, trim_plain (showText_plain n) (showText_ne n)]
  rfl
theorem trimB_pad (n : Int) : trimB (padT n) = showT n := by
  unfold trimB
  rw [padT_data, trim_padded (showText_plain n) (showText_ne n)]
  rfl

theorem show_parse (n : Int) (hn : Fits n) : pN (showT n).data.toList = n ∧ pE (showT n).data.toList = (showT n).size ∧ pR (showT n).data.toList = 0 := by
  have h := parse_text n hn [] [] (by simp) clean_nil
  simp only [List.nil_append, List.append_nil, List.length_nil, Nat.zero_add] at h
  rw [parse_three] at h
  unfold num3 at h
  rw [showT_data, Lib.size_eq, showT_data]
  simp at h
  obtain ⟨h1, h2, h3⟩ := h
  exact ⟨h1, by omega, h3⟩

theorem show_whole (n : Int) (hn : Fits n) : wholeB (showT n) = true := by
  obtain ⟨_, h2, h3⟩ := show_parse n hn
  unfold wholeB
  rw [h2, h3]
  have : (showT n).size ≠ 0 := by
    rw [Lib.size_eq, showT_data]
    intro e
    exact showText_ne n (List.length_eq_zero_iff.1 e)
  rw [decide_eq_true this]
  simp

theorem show_in (n : Int) (hn : Fits n) : inK (showT n) = 3 ∧ inN (showT n) = n := by
  have h : looksB (showT n) = true := by unfold looksB; rw [trimB_show]; exact show_whole n hn
  unfold inK inN
  rw [h, trimB_show]
  exact ⟨rfl, (show_parse n hn).1⟩
theorem pad_in (n : Int) (hn : Fits n) : inK (padT n) = 3 ∧ inN (padT n) = n := by
  have h : looksB (padT n) = true := by unfold looksB; rw [trimB_pad]; exact show_whole n hn
  unfold inK inN
  rw [h, trimB_pad]
  exact ⟨rfl, (show_parse n hn).1⟩
theorem padT_size (n : Int) : (padT n).size ≤ 23 := by
  have h := showText_len n
  rw [Lib.size_eq, padT_data]
  simp
  omega
end Go.Proofs.YtpmfkmolbioomaaDoor
