/- How many bytes a token takes: plain Lean. -/
import Derived.Test.YtejofdhpegcmjaaLexRe
namespace Go.Proofs.Ytejofdhpegcmjaa
open Go.RowKit

theorem text_len : ∀ (f : Nat) (l : List UInt8), l.length ≤ f → ∀ x, textN l = some x → x.2 ≤ l.length
  | 0, l, hl, x, h => by
    obtain rfl := List.eq_nil_of_length_eq_zero (Nat.le_zero.1 hl)
    exact absurd h (by simp [textN])
  | f + 1, l, hl, x, h => by
    cases l with
    | nil => exact absurd h (by simp [textN])
    | cons c t =>
      have hl' : t.length ≤ f := by simpa using hl
      by_cases h10 : c.toNat = 10
      · rw [tx_feed (Or.inr ⟨c, t, rfl, h10⟩)] at h; exact absurd h (by simp)
      by_cases h34 : c.toNat = 34
      · rw [tx_end h34] at h
        have : x = ([], 1) := (Option.some.inj h).symm
        rw [this]; simp
      by_cases h92 : c.toNat = 92
      · rcases feed_or t with hf | ⟨d, u, rfl, hd⟩
        · rw [tx_esc_bad h92 hf] at h; exact absurd h (by simp)
        · rw [tx_esc h92 hd] at h
          cases hb : textN u with
          | none => rw [hb] at h; exact absurd h (by simp)
          | some y =>
            rw [hb] at h
            have := text_len f u (by simp at hl'; omega) y hb
            have : x = (meantN d ++ y.1, y.2 + 2) := (Option.some.inj h).symm
            rw [this]; simp; omega
      · rw [tx_on h10 h34 h92] at h
        cases hb : textN t with
        | none => rw [hb] at h; exact absurd h (by simp)
        | some y =>
          rw [hb] at h
          have := text_len f t hl' y hb
          have : x = ([c] ++ y.1, y.2 + 1) := (Option.some.inj h).symm
          rw [this]; simp; omega
theorem pat_len : ∀ (f : Nat) (l : List UInt8), l.length ≤ f → ∀ q x, patN q l = some x → x.2 ≤ l.length
  | 0, l, hl, q, x, h => by
    obtain rfl := List.eq_nil_of_length_eq_zero (Nat.le_zero.1 hl)
    exact absurd h (by simp [patN])
  | f + 1, l, hl, q, x, h => by
    cases l with
    | nil => exact absurd h (by simp [patN])
    | cons c t =>
      have hl' : t.length ≤ f := by simpa using hl
      by_cases h10 : c.toNat = 10
      · rw [pa_feed (Or.inr ⟨c, t, rfl, h10⟩)] at h; exact absurd h (by simp)
      by_cases h47 : q = 0 ∧ c.toNat = 47
      · rw [h47.1, pa_end h47.2] at h
        have : x = ([], 1) := (Option.some.inj h).symm
        rw [this]; simp
      by_cases h92 : c.toNat = 92
      · rcases feed_or t with hf | ⟨d, u, rfl, hd⟩
        · rw [pa_esc_bad h92 hf] at h; exact absurd h (by simp)
        · rw [pa_esc h92 hd] at h
          cases hb : patN (if q = 0 then 0 else 3) u with
          | none => rw [hb] at h; exact absurd h (by simp)
          | some y =>
            rw [hb] at h
            have := pat_len f u (by simp at hl'; omega) _ y hb
            have : x = (escN d ++ y.1, y.2 + 2) := (Option.some.inj h).symm
            rw [this]; simp; omega
      · rw [pa_on h10 h47 h92] at h
        cases hb : patN (nextQ q c) t with
        | none => rw [hb] at h; exact absurd h (by simp)
        | some y =>
          rw [hb] at h
          have := pat_len f t hl' _ y hb
          have : x = ([c] ++ y.1, y.2 + 1) := (Option.some.inj h).symm
          rw [this]; simp; omega
theorem runN_head {is : UInt8 → Bool} {c : UInt8} {t : List UInt8} (h : is c = true) : 1 ≤ runN is (c :: t) := by
  show 1 ≤ (if is c = true then runN is t + 1 else 0)
  rw [if_pos h]; omega
theorem num_len (l : List UInt8) : numN l ≤ l.length := by
  have h1 := runN_le digB l
  have h2 := runN_le digB (l.drop (runN digB l + 1))
  rw [List.length_drop] at h2
  unfold numN
  split
  · rename_i h
    have : runN digB l < l.length := by
      rcases Nat.lt_or_ge (runN digB l) l.length with h' | h'
      · exact h'
      · rw [List.drop_eq_nil_of_le h'] at h; exact absurd h (by simp)
    omega
  · exact h1
theorem num_pos {c : UInt8} {t : List UInt8} (h : digB c = true ∨ (c.toNat = 46 ∧ dotB t = true)) : 1 ≤ numN (c :: t) := by
  rcases h with h | ⟨h, _⟩
  · have := runN_head (t := t) h
    unfold numN
    split <;> omega
  · have hd : digB c = false := by unfold digB; rw [h]; decide
    have hr : runN digB (c :: t) = 0 := by
      show (if digB c = true then runN digB t + 1 else 0) = 0
      rw [hd]; rfl
    have hc : c = 46 := u8_eq 46 h rfl
    unfold numN
    rw [hr, if_pos (by rw [hc]; rfl)]
    omega
theorem sign_len (l : List UInt8) : signN l ≤ l.length := by
  unfold signN
  split
  · rename_i h; exact h.1
  · split
    · rename_i h; exact h.1
    · omega

/-- What a token is, when there is one. -/
inductive Got (l : List UInt8) (K : Int) (S : List UInt8) (m : Nat) : Prop where
  | no (hl : l = []) (hK : K = 0) (hS : S = []) (hm : m = 0)
  | yes (hl : l ≠ []) (hK : K ≠ 0) (h1 : 1 ≤ m) (hm : m ≤ l.length) (hS : K ≠ 3 → K ≠ 4 → S = l.take m)
theorem read_got {l : List UInt8} {op : Bool} {K : Int} {S : List UInt8} {m : Nat} (h : readN l op = .got K S m) : Got l K S m := by
  cases l with
  | nil =>
    have : Rd1.got 0 [] 0 = Rd1.got K S m := h
    injection this with h1 h2 h3
    exact .no rfl h1.symm h2.symm h3.symm
  | cons c r =>
    rw [rd_eq] at h
    by_cases h10 : c.toNat = 10
    · rw [if_pos h10] at h
      injection h with h1 h2 h3
      subst h1 h2 h3
      exact .yes (by simp) (by decide) (Nat.le_refl _) (by simp) (fun _ _ => rfl)
    rw [if_neg h10] at h
    by_cases hl : letB c = true
    · rw [if_pos hl] at h
      have hr := runN_head (is := namB) (t := r) (c := c) (by unfold namB; rw [hl]; rfl)
      have hle := runN_le namB (c :: r)
      unfold nameN at h
      split at h
      · exact absurd h (by simp)
      · injection h with h1 h2 h3
        subst h2 h3
        refine .yes (by simp) (fun h0 => ?_) hr hle (fun _ _ => rfl)
        rw [h0] at h1
        split at h1
        · exact absurd h1 (by decide)
        · split at h1
          · exact absurd h1 (by decide)
          · split at h1 <;> exact absurd h1 (by decide)
    rw [if_neg hl] at h
    by_cases hd : digB c = true ∨ (c.toNat = 46 ∧ dotB r = true)
    · rw [if_pos hd] at h
      injection h with h1 h2 h3
      subst h1 h2 h3
      exact .yes (by simp) (by decide) (num_pos hd) (num_len _) (fun _ _ => rfl)
    rw [if_neg hd] at h
    by_cases h34 : c.toNat = 34
    · rw [if_pos h34] at h
      cases ht : textN r with
      | none => rw [ht] at h; exact absurd h (by simp [quoteN])
      | some x =>
        rw [ht] at h
        have hx := text_len _ r (Nat.le_refl _) x ht
        injection h with h1 h2 h3
        subst h1 h3
        exact .yes (by simp) (by decide) (by omega) (by simp; omega) (fun h _ => absurd rfl h)
    rw [if_neg h34] at h
    by_cases h47 : c.toNat = 47 ∧ op = false
    · rw [if_pos h47] at h
      cases ht : patN 0 r with
      | none => rw [ht] at h; exact absurd h (by simp [quoteN])
      | some x =>
        rw [ht] at h
        have hx := pat_len _ r (Nat.le_refl _) 0 x ht
        injection h with h1 h2 h3
        subst h1 h3
        exact .yes (by simp) (by decide) (by omega) (by simp; omega) (fun _ h => absurd rfl h)
    rw [if_neg h47] at h
    unfold signR at h
    split at h
    · exact absurd h (by simp)
    · rename_i h0
      injection h with h1 h2 h3
      subst h1 h2 h3
      exact .yes (by simp) (by decide) (by omega) (sign_len _) (fun _ _ => rfl)
theorem read_le {s : ByteArray} {k m : Nat} {op : Bool} {K : Int} {S : List UInt8} (hk : k ≤ s.size) (h : readN (s.data.toList.drop k) op = .got K S m) : k + m ≤ s.size := by
  rcases read_got h with ⟨_, _, _, hm⟩ | ⟨_, _, _, hm, _⟩
  · omega
  · rw [List.length_drop, ← Lib.size_eq] at hm; omega
end Go.Proofs.Ytejofdhpegcmjaa
