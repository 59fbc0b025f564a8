/- There and back: what dec.Parse makes of dec.Show's text. Plain mathematics. -/
import Derived.Test.YtpmfkmolbioomaaDoorShow
namespace Go.Proofs.YtpmfkmolbioomaaDoor
open Go.RowKit

theorem tw_block {p : UInt8 → Bool} {A B : List UInt8} (hA : ∀ c ∈ A, p c = true) (hB : ∀ c, B.head? = some c → p c = false) : (A ++ B).takeWhile p = A := by
  induction A with
  | nil =>
    cases B with
    | nil => rfl
    | cons c B => simp [hB c rfl]
  | cons a A ih =>
    simp only [List.cons_append, List.takeWhile_cons, hA a (by simp), if_true]
    rw [ih (fun c hc => hA c (by simp [hc]))]

theorem ddig_nat (n : Nat) : (ddig n).toNat = 48 + n % 10 := by
  unfold ddig
  simp
  omega
theorem ddig_isDig (n : Nat) : isDig (ddig n) = true := by
  simp [isDig, ddig_nat]; omega

theorem fixD_digs : ∀ k p, ∀ c ∈ fixD k p, isDig c = true
  | 0, _, c, h => by simp [fixD] at h
  | k + 1, p, c, h => by
    simp only [fixD, List.mem_append, List.mem_singleton] at h
    rcases h with h | h
    · exact fixD_digs k _ c h
    · rw [h]; exact ddig_isDig _
theorem strip_digs : ∀ k p, ∀ c ∈ strip k p, isDig c = true
  | 0, _, c, h => by simp [strip] at h
  | k + 1, p, c, h => by
    unfold strip at h
    split at h
    · exact strip_digs k _ c h
    · exact fixD_digs _ _ c h
theorem decZ_digs : ∀ k n, ∀ c ∈ decZ k n, isDig c = true
  | 0, _, c, h => by simp [decZ] at h
  | k + 1, n, c, h => by
    unfold decZ at h
    split at h
    · simp at h
    · simp only [List.mem_append, List.mem_singleton] at h
      rcases h with h | h
      · exact decZ_digs k _ c h
      · rw [h]; exact ddig_isDig _

theorem dval_digit (l : List UInt8) (n : Nat) : dval (l ++ [ddig n]) = dval l * 10 + n % 10 := by
  rw [dval_snoc, ddig_nat]; omega

theorem dval_fixD : ∀ k p, p < 10 ^ k → dval (fixD k p) = p
  | 0, p, h => by simp at h; subst h; rfl
  | k + 1, p, h => by
    rw [Nat.pow_succ] at h
    rw [fixD, dval_digit, dval_fixD k (p / 10) (by omega)]; omega

theorem dval_decZ : ∀ k n, n < 10 ^ k → dval (decZ k n) = n
  | 0, n, h => by simp at h; subst h; rfl
  | k + 1, n, h => by
    rw [Nat.pow_succ] at h
    unfold decZ
    split
    · rename_i h0; subst h0; rfl
    · rw [dval_digit, dval_decZ k (n / 10) (by omega)]; omega

theorem dval_strip : ∀ k p, p < 10 ^ k → dval (strip k p ++ List.replicate (k - (strip k p).length) 48) = p
  | 0, p, h => by simp at h; subst h; rfl
  | k + 1, p, h => by
    rw [Nat.pow_succ] at h
    unfold strip
    split
    · have hl := strip_len k (p / 10)
      have ih := dval_strip k (p / 10) (by omega)
      rw [show k + 1 - (strip k (p / 10)).length = (k - (strip k (p / 10)).length) + 1 from by omega, List.replicate_succ', ← List.append_assoc, dval_snoc, ih]
      simp
      omega
    · rw [fix_len, Nat.sub_self, List.replicate_zero, List.append_nil]
      exact dval_fixD (k + 1) p (by rw [Nat.pow_succ]; exact h)

theorem dval_append : ∀ (b a : List UInt8), dval (a ++ b) = dval a * 10 ^ b.length + dval b
  | [], a => by simp [dval]
  | c :: b, a => by
    have h1 := dval_append b (a ++ [c])
    have h2 := dval_append b [c]
    have h3 : dval [c] = c.toNat - 48 := by simp [dval, dstep]
    rw [show a ++ c :: b = (a ++ [c]) ++ b from by simp, h1, dval_snoc, show c :: b = [c] ++ b from rfl, h2, h3]
    simp only [List.length_append, List.length_cons, List.length_nil, Nat.zero_add]
    rw [Nat.add_comm 1 b.length, Nat.pow_succ, Nat.add_mul]
    rw [show dval a * (10 ^ b.length * 10) = dval a * 10 * 10 ^ b.length from by rw [Nat.mul_comm (10 ^ b.length) 10, Nat.mul_assoc]]
    omega

def wholeText (n : Nat) : List UInt8 := decZ 12 (n / 1000000 / 10) ++ [ddig (n / 1000000)]
def partText (n : Nat) : List UInt8 := if n % 1000000 = 0 then [] else strip 6 (n % 1000000)

theorem mval_text (n : Nat) (h : n ≤ 9223372036854775808) : mval (wholeText n) (partText n) = n := by
  unfold mval
  rw [dval_append, pad6_len]
  have h1 : dval (wholeText n) = n / 1000000 := by
    unfold wholeText
    rw [dval_digit, dval_decZ 12 _ (by omega)]; omega
  have h2 : dval (pad6 (partText n)) = n % 1000000 := by
    unfold partText pad6
    split
    · rename_i h0; rw [h0]; rfl
    · have hl := strip_len 6 (n % 1000000)
      rw [List.take_of_length_le hl]
      exact dval_strip 6 _ (by have := Nat.mod_lt n (show 0 < 1000000 by decide); omega)
  rw [h1, h2]
  omega

structure Clean (behind : List UInt8) : Prop where
  head : ∀ c, behind.head? = some c → isDig c = false ∧ c.toNat ≠ 46

theorem wholeText_digs (n : Nat) : ∀ c ∈ wholeText n, isDig c = true := by
  intro c h
  unfold wholeText at h
  simp only [List.mem_append, List.mem_singleton] at h
  rcases h with h | h
  · exact decZ_digs _ _ c h
  · rw [h]; exact ddig_isDig _

theorem wholeText_cons (n : Nat) : ∃ c l, wholeText n = c :: l ∧ isDig c = true := by
  have hd := wholeText_digs n
  cases h : wholeText n with
  | nil =>
    have h2 := congrArg List.length h
    unfold wholeText at h2
    simp at h2
  | cons c l => exact ⟨c, l, rfl, hd c (by rw [h]; simp)⟩

theorem showPlain_split (n : Nat) : showPlain n = wholeText n ++ showFrac (n % 1000000) := rfl

/-- The number that begins a text: blanks ahead, the number's text, something behind that doesn't go on with it. -/
theorem parse_text (a : Int) (ha : Fits a) (pre behind : List UInt8) (hpre : ∀ c ∈ pre, isBl c = true) (hb : Clean behind) :
    parseAns (pre ++ (showText a ++ behind)) = num3 (a, 0) (pre.length + (showText a).length) := by
  obtain ⟨n, hn⟩ : ∃ n, n = a.natAbs := ⟨_, rfl⟩
  have hn19 : n ≤ 9223372036854775808 := by unfold Fits at ha; omega
  obtain ⟨sg, hsg⟩ : ∃ sg : List UInt8, sg = if a < 0 then [45] else [] := ⟨_, rfl⟩
  have htext : showText a = sg ++ (wholeText n ++ showFrac (n % 1000000)) := by
    unfold showText
    rw [hsg, ← hn, ← showPlain_split]
    split <;> simp
  obtain ⟨c0, w0, hw0, hc0⟩ := wholeText_cons n
  obtain ⟨L, hL⟩ : ∃ L, L = pre ++ (showText a ++ behind) := ⟨_, rfl⟩
  rw [← hL]
  have hc0d := isDig_yes hc0
  have h1 : parseAt L = pre.length := by
    unfold parseAt
    rw [hL, tw_block hpre]
    intro c hc
    rw [htext, hsg, hw0] at hc
    split at hc
    · simp at hc; subst hc; rfl
    · simp at hc; subst hc
      simp [isBl]; omega
  have hd1 : L.drop pre.length = showText a ++ behind := by rw [hL]; simp
  have h2 : signOf (L.drop (parseAt L)) = (decide (a < 0), sg.length) := by
    rw [h1, hd1, htext, hsg, hw0]
    by_cases h : a < 0
    · rw [if_pos h]; simp [signOf, h]
    · rw [if_neg h]
      have e1 : ¬ (c0 = 45) := by intro e; rw [e] at hc0d; simp at hc0d
      have e2 : ¬ (c0 = 43) := by intro e; rw [e] at hc0d; simp at hc0d
      simp [signOf, h, e1, e2]
  have h3 : parseB L = pre.length + sg.length := by unfold parseB; rw [h2, h1]
  have hd2 : L.drop (pre.length + sg.length) = wholeText n ++ (showFrac (n % 1000000) ++ behind) := by
    rw [← List.drop_drop, hd1, htext]; simp
  have h4 : parseWhole L = wholeText n := by
    unfold parseWhole
    rw [h3, hd2, tw_block (wholeText_digs n)]
    intro c hc
    unfold showFrac at hc
    split at hc
    · exact (hb.head c (by simpa using hc)).1
    · simp at hc; subst hc; rfl
  have h5 : parseC L = pre.length + sg.length + (wholeText n).length := by unfold parseC; rw [h3, h4]
  have hd3 : L.drop (pre.length + sg.length + (wholeText n).length) = showFrac (n % 1000000) ++ behind := by
    rw [← List.drop_drop, hd2]; simp
  have h6 : parsePart L = (partText n, if n % 1000000 = 0 then 0 else 1) := by
    unfold parsePart dotOf
    rw [h5]
    have e : L[pre.length + sg.length + (wholeText n).length]? = (showFrac (n % 1000000) ++ behind).head? := by
      rw [← hd3, List.head?_drop]
    rw [e]
    by_cases h0 : n % 1000000 = 0
    · unfold showFrac partText
      rw [if_pos h0, if_pos h0, if_pos h0, List.nil_append]
      rw [if_neg]
      intro hc
      exact (hb.head 46 hc).2 rfl
    · have e2 : (showFrac (n % 1000000) ++ behind).head? = some 46 := by unfold showFrac; rw [if_neg h0]; rfl
      rw [if_pos e2, ← List.drop_drop, hd3]
      unfold showFrac partText
      rw [if_neg h0, if_neg h0, if_neg h0]
      simp only [List.cons_append, List.drop_succ_cons, List.drop_zero]
      rw [tw_block (strip_digs _ _) (fun c hc => (hb.head c hc).1)]
  have hval : parseVal L = a := by
    unfold parseVal
    rw [h2, h4, h6]
    simp only
    rw [mval_text n hn19, hn]
    unfold sgn
    by_cases h : a < 0
    · simp [h]; omega
    · simp [h]; omega
  have hnone : parseNone L = false := by
    unfold parseNone
    rw [h4, hw0]
    simp
  have hend : parseEnd L = pre.length + (showText a).length := by
    unfold parseEnd
    rw [h5, h6, htext]
    unfold showFrac partText
    by_cases h0 : n % 1000000 = 0
    · simp [h0]; omega
    · simp [h0]; omega
  unfold parseAns
  rw [hnone, hval, hend]
  unfold back
  rw [if_pos ha]
  rfl
end Go.Proofs.YtpmfkmolbioomaaDoor
