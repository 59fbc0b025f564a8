/- Merged by program: T3There, T3Cut, T3Words, T3Trim, T3Compare. -/
import Derived.Lib.Strings
import Derived.Shelf.Strings.SlTrimAscii
import Derived.Laws.Strings3
import Derived.Test.YtfhnbpilbbbckaaDoorHal
import Derived.Test.YtfhnbpilbbbckaaDoorHaj
import Derived.Test.YtfhnbpilbbbckaaDoorHab
/- There and back: what dec.Parse makes of dec.Show's text. Plain mathematics. -/
namespace Go.Proofs.YtfhnbpilbbbckaaDoor.T3
open Go.Proofs.YtfhnbpilbbbckaaDoor Go.Proofs
open Go.RowKit

theorem tw_block {p : UInt8 → Bool} {A B : List UInt8} (hA : ∀ c ∈ A, p c = true) (hB : ∀ c, B.head? = some c → p c = false) : (A ++ B).takeWhile p = A := by
  induction A with
  | nil =>
    cases B with
    | nil => rfl
    | cons c B => simp [hB c rfl]
  | cons a A ih =>
    simp only [List.cons_append, List.takeWhile_cons, hA a (by simp), if_true]
    rw [ih (fun c hc => hA c (by simp [hc]))]

theorem ddig_nat (n : Nat) : (ddig n).toNat = 48 + n % 10 := by
  unfold ddig
  simp
  omega
theorem ddig_isDig (n : Nat) : isDig (ddig n) = true := by
  simp [isDig, ddig_nat]; omega

theorem fixD_digs : ∀ k p, ∀ c ∈ fixD k p, isDig c = true
  | 0, _, c, h => by simp [fixD] at h
  | k + 1, p, c, h => by
    simp only [fixD, List.mem_append, List.mem_singleton] at h
    rcases h with h | h
    · exact fixD_digs k _ c h
    · rw [h]; exact ddig_isDig _
theorem strip_digs : ∀ k p, ∀ c ∈ strip k p, isDig c = true
  | 0, _, c, h => by simp [strip] at h
  | k + 1, p, c, h => by
    unfold strip at h
    split at h
    · exact strip_digs k _ c h
    · exact fixD_digs _ _ c h
theorem decZ_digs : ∀ k n, ∀ c ∈ decZ k n, isDig c = true
  | 0, _, c, h => by simp [decZ] at h
  | k + 1, n, c, h => by
    unfold decZ at h
    split at h
    · simp at h
    · simp only [List.mem_append, List.mem_singleton] at h
      rcases h with h | h
      · exact decZ_digs k _ c h
      · rw [h]; exact ddig_isDig _

theorem dval_digit (l : List UInt8) (n : Nat) : dval (l ++ [ddig n]) = dval l * 10 + n % 10 := by
  rw [dval_snoc, ddig_nat]; omega

theorem dval_fixD : ∀ k p, p < 10 ^ k → dval (fixD k p) = p
  | 0, p, h => by simp at h; subst h; rfl
  | k + 1, p, h => by
    rw [Nat.pow_succ] at h
    rw [fixD, dval_digit, dval_fixD k (p / 10) (by omega)]; omega

theorem dval_decZ : ∀ k n, n < 10 ^ k → dval (decZ k n) = n
  | 0, n, h => by simp at h; subst h; rfl
  | k + 1, n, h => by
    rw [Nat.pow_succ] at h
    unfold decZ
    split
    · rename_i h0; subst h0; rfl
    · rw [dval_digit, dval_decZ k (n / 10) (by omega)]; omega

theorem dval_strip : ∀ k p, p < 10 ^ k → dval (strip k p ++ List.replicate (k - (strip k p).length) 48) = p
  | 0, p, h => by simp at h; subst h; rfl
  | k + 1, p, h => by
    rw [Nat.pow_succ] at h
    unfold strip
    split
    · have hl := strip_len k (p / 10)
      have ih := dval_strip k (p / 10) (by omega)
      rw [show k + 1 - (strip k (p / 10)).length = (k - (strip k (p / 10)).length) + 1 from by omega, List.replicate_succ', ← List.append_assoc, dval_snoc, ih]
      simp
      omega
    · rw [fix_len, Nat.sub_self, List.replicate_zero, List.append_nil]
      exact dval_fixD (k + 1) p (by rw [Nat.pow_succ]; exact h)

theorem dval_append : ∀ (b a : List UInt8), dval (a ++ b) = dval a * 10 ^ b.length + dval b
  | [], a => by simp [dval]
  | c :: b, a => by
    have h1 := dval_append b (a ++ [c])
    have h2 := dval_append b [c]
    have h3 : dval [c] = c.toNat - 48 := by simp [dval, dstep]
    rw [show a ++ c :: b = (a ++ [c]) ++ b from by simp, h1, dval_snoc, show c :: b = [c] ++ b from rfl, h2, h3]
    simp only [List.length_append, List.length_cons, List.length_nil, Nat.zero_add]
    rw [Nat.add_comm 1 b.length, Nat.pow_succ, Nat.add_mul]
    rw [show dval a * (10 ^ b.length * 10) = dval a * 10 * 10 ^ b.length from by rw [Nat.mul_comm (10 ^ b.length) 10, Nat.mul_assoc]]
    omega

def wholeText (n : Nat) : List UInt8 := decZ 12 (n / 1000000 / 10) ++ [ddig (n / 1000000)]
def partText (n : Nat) : List UInt8 := if n % 1000000 = 0 then [] else strip 6 (n % 1000000)

theorem mval_text (n : Nat) (h : n ≤ 9223372036854775808) : mval (wholeText n) (partText n) = n := by
  unfold mval
  rw [dval_append, pad6_len]
  have h1 : dval (wholeText n) = n / 1000000 := by
    unfold wholeText
    rw [dval_digit, dval_decZ 12 _ (by omega)]; omega
  have h2 : dval (pad6 (partText n)) = n % 1000000 := by
    unfold partText pad6
    split
    · rename_i h0; rw [h0]; rfl
    · have hl := strip_len 6 (n % 1000000)
      rw [List.take_of_length_le hl]
      exact dval_strip 6 _ (by have := Nat.mod_lt n (show 0 < 1000000 by decide); omega)
  rw [h1, h2]
  omega

structure Clean (behind : List UInt8) : Prop where
  head : ∀ c, behind.head? = some c → isDig c = false ∧ c.toNat ≠ 46

theorem wholeText_digs (n : Nat) : ∀ c ∈ wholeText n, isDig c = true := by
  intro c h
  unfold wholeText at h
  simp only [List.mem_append, List.mem_singleton] at h
  rcases h with h | h
  · exact decZ_digs _ _ c h
  · rw [h]; exact ddig_isDig _

theorem wholeText_cons (n : Nat) : ∃ c l, wholeText n = c :: l ∧ isDig c = true := by
  have hd := wholeText_digs n
  cases h : wholeText n with
  | nil =>
    have h2 := congrArg List.length h
    unfold wholeText at h2
    simp at h2
  | cons c l => exact ⟨c, l, rfl, hd c (by rw [h]; simp)⟩

theorem showPlain_split (n : Nat) : showPlain n = wholeText n ++ showFrac (n % 1000000) := rfl

/-- The number that begins a text: blanks ahead, the number's text, something behind that doesn't go on with it. -/
theorem parse_text (a : Int) (ha : Fits a) (pre behind : List UInt8) (hpre : ∀ c ∈ pre, isBl c = true) (hb : Clean behind) :
    parseAns (pre ++ (showText a ++ behind)) = num3 (a, 0) (pre.length + (showText a).length) := by
  obtain ⟨n, hn⟩ : ∃ n, n = a.natAbs := ⟨_, rfl⟩
  have hn19 : n ≤ 9223372036854775808 := by unfold Fits at ha; omega
  obtain ⟨sg, hsg⟩ : ∃ sg : List UInt8, sg = if a < 0 then [45] else [] := ⟨_, rfl⟩
  have htext : showText a = sg ++ (wholeText n ++ showFrac (n % 1000000)) := by
    unfold showText
    rw [hsg, ← hn, ← showPlain_split]
    split <;> simp
  obtain ⟨c0, w0, hw0, hc0⟩ := wholeText_cons n
  obtain ⟨L, hL⟩ : ∃ L, L = pre ++ (showText a ++ behind) := ⟨_, rfl⟩
  rw [← hL]
  have hc0d := isDig_yes hc0
  have h1 : parseAt L = pre.length := by
    unfold parseAt
    rw [hL, tw_block hpre]
    intro c hc
    rw [htext, hsg, hw0] at hc
    split at hc
    · simp at hc; subst hc; rfl
    · simp at hc; subst hc
      simp [isBl]; omega
  have hd1 : L.drop pre.length = showText a ++ behind := by rw [hL]; simp
  have h2 : signOf (L.drop (parseAt L)) = (decide (a < 0), sg.length) := by
    rw [h1, hd1, htext, hsg, hw0]
    by_cases h : a < 0
    · rw [if_pos h]; simp [signOf, h]
    · rw [if_neg h]
      have e1 : ¬ (c0 = 45) := by intro e; rw [e] at hc0d; simp at hc0d
      have e2 : ¬ (c0 = 43) := by intro e; rw [e] at hc0d; simp at hc0d
      simp [signOf, h, e1, e2]
  have h3 : parseB L = pre.length + sg.length := by unfold parseB; rw [h2, h1]
  have hd2 : L.drop (pre.length + sg.length) = wholeText n ++ (showFrac (n % 1000000) ++ behind) := by
    rw [← List.drop_drop, hd1, htext]; simp
  have h4 : parseWhole L = wholeText n := by
    unfold parseWhole
    rw [h3, hd2, tw_block (wholeText_digs n)]
    intro c hc
    unfold showFrac at hc
    split at hc
    · exact (hb.head c (by simpa using hc)).1
    · simp at hc; subst hc; rfl
  have h5 : parseC L = pre.length + sg.length + (wholeText n).length := by unfold parseC; rw [h3, h4]
  have hd3 : L.drop (pre.length + sg.length + (wholeText n).length) = showFrac (n % 1000000) ++ behind := by
    rw [← List.drop_drop, hd2]; simp
  have h6 : parsePart L = (partText n, if n % 1000000 = 0 then 0 else 1) := by
    unfold parsePart dotOf
    rw [h5]
    have e : L[pre.length + sg.length + (wholeText n).length]? = (showFrac (n % 1000000) ++ behind).head? := by
      rw [← hd3, List.head?_drop]
    rw [e]
    by_cases h0 : n % 1000000 = 0
    · unfold showFrac partText
      rw [if_pos h0, if_pos h0, if_pos h0, List.nil_append]
      rw [if_neg]
      intro hc
      exact (hb.head 46 hc).2 rfl
    · have e2 : (showFrac (n % 1000000) ++ behind).head? = some 46 := by unfold showFrac; rw [if_neg h0]; rfl
      rw [if_pos e2, ← List.drop_drop, hd3]
      unfold showFrac partText
      rw [if_neg h0, if_neg h0, if_neg h0]
      simp only [List.cons_append, List.drop_succ_cons, List.drop_zero]
      rw [tw_block (strip_digs _ _) (fun c hc => (hb.head c hc).1)]
  have hval : parseVal L = a := by
    unfold parseVal
    rw [h2, h4, h6]
    simp only
    rw [mval_text n hn19, hn]
    unfold sgn
    by_cases h : a < 0
    · simp [h]; omega
    · simp [h]; omega
  have hnone : parseNone L = false := by
    unfold parseNone
    rw [h4, hw0]
    simp
  have hend : parseEnd L = pre.length + (showText a).length := by
    unfold parseEnd
    rw [h5, h6, htext]
    unfold showFrac partText
    by_cases h0 : n % 1000000 = 0
    · simp [h0]; omega
    · simp [h0]; omega
  unfold parseAns
  rw [hnone, hval, hend]
  unfold back
  rw [if_pos ha]
  rfl
end Go.Proofs.YtfhnbpilbbbckaaDoor.T3

/- Characters of a text as places: the widths that a range over a string goes by. Plain: no program. -/
namespace Go.Proofs.YtfhnbpilbbbckaaDoor.T3
open Go.Proofs.YtfhnbpilbbbckaaDoor Go.Proofs
open Go.Lib

/-! ### Parts of a text -/
theorem bytes_ext {t u : ByteArray} (h : t.data.toList = u.data.toList) : t = u := by
  apply ByteArray.ext
  exact Array.toList_inj.1 h

theorem part_part (s : ByteArray) (a b c d : Nat) (hd : a + d ≤ b) : (s.extract a b).extract c d = s.extract (a + c) (a + d) := by
  apply bytes_ext
  rw [extract_data, extract_data, extract_data, List.drop_take, List.take_take, List.drop_drop]
  congr 1
  omega

theorem part_join (s : ByteArray) (a b c : Nat) (h1 : a ≤ b) (h2 : b ≤ c) : s.extract a b ++ s.extract b c = s.extract a c := by
  apply bytes_ext
  rw [ByteArray.data_append, Array.toList_append, extract_data, extract_data, extract_data]
  have e : c - a = (b - a) + (c - b) := by omega
  rw [e, List.take_add, List.drop_drop, show a + (b - a) = b from by omega]

theorem part_none (s : ByteArray) (a b : Nat) (h : b ≤ a) : s.extract a b = ⟨#[]⟩ := by
  apply bytes_ext
  rw [extract_data, show b - a = 0 from by omega]
  simp

theorem part_all (s : ByteArray) : s.extract 0 s.size = s := by
  apply bytes_ext
  rw [extract_data, List.drop_zero, Nat.sub_zero, size_eq]
  exact List.take_length

theorem part_size (s : ByteArray) (a b : Nat) (h : b ≤ s.size) : (s.extract a b).size = b - a := by
  rw [ByteArray.size_extract]; omega

end Go.Proofs.YtfhnbpilbbbckaaDoor.T3

/- Words and blanks, byte by byte; the document's Blank, Words, Trim. -/
namespace Go.Proofs.YtfhnbpilbbbckaaDoor.T3
open Go.Proofs.YtfhnbpilbbbckaaDoor Go.Proofs
open Go.RowKit

def blankB (c : UInt8) : Bool := c.toNat == 32 || c.toNat == 9 || c.toNat == 10
def byteAt (s : ByteArray) (i : Nat) : UInt8 := s.get! i

theorem byteAt_eq (s : ByteArray) (i : Nat) (h : i < s.size) : byteAt s i = s[i] := by
  have := get_at s i h
  rw [Nat.add_zero] at this
  exact this

end Go.Proofs.YtfhnbpilbbbckaaDoor.T3

/- Trim: the program's, and the document's answer. -/
namespace Go.Proofs.YtfhnbpilbbbckaaDoor.T3
open Go.Proofs.YtfhnbpilbbbckaaDoor Go.Proofs
open Go.RowKit
open Go.Lib (trimS trimLeftS trimRightS)

def trimB (s : ByteArray) : ByteArray := ⟨(trimS s.data.toList [32, 9, 10]).toArray⟩

theorem blank_mem (c : UInt8) : ([32, 9, 10] : List UInt8).contains c = blankB c := by
  unfold blankB
  simp only [List.contains, List.elem]
  have e : ∀ k : UInt8, (c == k) = (c.toNat == k.toNat) := fun k => by
    rw [Bool.eq_iff_iff, beq_iff_eq, beq_iff_eq]
    exact ⟨fun h => by rw [h], fun h => UInt8.toNat_inj.1 h⟩
  rw [e 32, e 9, e 10]
  show (match c.toNat == 32 with | true => true | false => match c.toNat == 9 with | true => true | false => match c.toNat == 10 with | true => true | false => false) = (c.toNat == 32 || c.toNat == 9 || c.toNat == 10)
  cases c.toNat == 32 <;> cases c.toNat == 9 <;> cases c.toNat == 10 <;> rfl

theorem at_byte {s : ByteArray} {j : Nat} {b : UInt8} (h : s.data.toList[j]? = some b) : j < s.size ∧ byteAt s j = b := by
  have hj : j < s.data.toList.length := by
    rcases Nat.lt_or_ge j s.data.toList.length with h' | h'
    · exact h'
    · rw [List.getElem?_eq_none h'] at h; cases h
  have hs : j < s.size := by rw [Lib.size_eq]; exact hj
  refine ⟨hs, ?_⟩
  rw [byteAt_eq s j hs]
  rw [List.getElem?_eq_getElem hj] at h
  injection h

/-- The text without blanks at both ends, from where they end to where they begin. -/
theorem trim_is (s : ByteArray) (a b : Nat) (hab : a ≤ b) (hb : b ≤ s.size) (h1 : ∀ j, j < a → blankB (byteAt s j) = true) (h2 : ∀ j, b ≤ j → j < s.size → blankB (byteAt s j) = true)
    (h3 : a < b → blankB (byteAt s a) = false) (h4 : a < b → blankB (byteAt s (b - 1)) = false) (h5 : a < s.size → blankB (byteAt s a) = false) : s.extract a b = trimB s := by
  unfold trimB trimS
  apply bytes_ext
  rw [Lib.extract_data]
  rcases Nat.lt_or_ge a b with h | h
  · rw [Lib.trimRightS_take s.data.toList [32, 9, 10] b (by rw [← Lib.size_eq]; exact hb) (fun j c hj hc => by
        obtain ⟨hjs, e⟩ := at_byte hc
        rw [blank_mem, ← e]; exact h2 j hj hjs) (fun c _ hc => by
        obtain ⟨_, e⟩ := at_byte hc
        rw [blank_mem, ← e]; exact h4 h)]
    rw [Lib.trimLeftS_drop (s.data.toList.take b) [32, 9, 10] a (by rw [List.length_take, ← Lib.size_eq]; omega) (fun j c hj hc => by
        rw [List.getElem?_take_of_lt (by omega)] at hc
        obtain ⟨_, e⟩ := at_byte hc
        rw [blank_mem, ← e]; exact h1 j hj) (fun c hc => by
        rw [List.getElem?_take_of_lt h] at hc
        obtain ⟨_, e⟩ := at_byte hc
        rw [blank_mem, ← e]; exact h3 h)]
    rw [List.drop_take]
  · obtain rfl : a = b := by omega
    have ha : ¬ a < s.size := fun hlt => by
      have e1 := h5 hlt
      rw [h2 a (Nat.le_refl _) hlt] at e1
      cases e1
    rw [Lib.trimRightS_take s.data.toList [32, 9, 10] 0 (Nat.zero_le _) (fun j c _ hc => by
        obtain ⟨hjs, e⟩ := at_byte hc
        rw [blank_mem, ← e]; exact h1 j (by omega)) (fun c h0 _ => absurd h0 (Nat.lt_irrefl _))]
    rw [Nat.sub_self]
    simp [trimLeftS]

theorem part_byte (s : ByteArray) (a b i : Nat) (hb : b ≤ s.size) (h : i < (s.extract a b).size) : (s.extract a b)[i] = byteAt s (a + i) := by
  have hi : i < b - a := by rw [part_size s a b hb] at h; exact h
  have h1 : (s.extract a b).data.toList[i]? = some (s.extract a b)[i] := by
    rw [List.getElem?_eq_getElem (by rw [← Lib.size_eq]; exact h)]; rfl
  rw [Lib.extract_data, List.getElem?_take_of_lt hi, List.getElem?_drop] at h1
  exact (at_byte h1).2.symm

theorem part_byte_of {s v : ByteArray} {a b : Nat} (hv : v = s.extract a b) (hb : b ≤ s.size) (i : Nat) (h : i < v.size) : v[i] = byteAt s (a + i) := by
  subst hv
  exact part_byte s a b i hb h

end Go.Proofs.YtfhnbpilbbbckaaDoor.T3

/- Contracts of Compare: the program's, and the document's answer. -/
namespace Go.Proofs.YtfhnbpilbbbckaaDoor.T3
open Go.Proofs.YtfhnbpilbbbckaaDoor Go.Proofs
open Go.RowKit
open Go.Lib (compareBytes)

theorem cmp_self : ∀ a : List UInt8, compareBytes a a = 0
  | [] => rfl
  | x :: l => by
    unfold compareBytes
    rw [if_neg (by simp), if_neg (by simp)]
    exact cmp_self l

theorem cmp_turn : ∀ a b : List UInt8, compareBytes b a = -compareBytes a b
  | [], [] => rfl
  | [], _ :: _ => rfl
  | _ :: _, [] => rfl
  | x :: l, y :: m => by
    unfold compareBytes
    by_cases h1 : x < y
    · have h2 : ¬ y < x := by rw [UInt8.lt_iff_toNat_lt] at *; omega
      rw [if_pos h1, if_neg h2, if_pos h1]
      rfl
    · by_cases h2 : y < x
      · rw [if_pos h2, if_neg h1, if_pos h2]
      · rw [if_neg h1, if_neg h2, if_neg h2, if_neg h1]
        exact cmp_turn l m

theorem cmp_cases (a b : List UInt8) : compareBytes a b = -1 ∨ compareBytes a b = 0 ∨ compareBytes a b = 1 := by
  induction a generalizing b with
  | nil => cases b with
    | nil => exact Or.inr (Or.inl rfl)
    | cons y m => exact Or.inl rfl
  | cons x l ih => cases b with
    | nil => exact Or.inr (Or.inr rfl)
    | cons y m =>
      unfold compareBytes
      by_cases h1 : x < y
      · rw [if_pos h1]; exact Or.inl rfl
      · by_cases h2 : y < x
        · rw [if_neg h1, if_pos h2]; exact Or.inr (Or.inr rfl)
        · rw [if_neg h1, if_neg h2]; exact ih m

theorem drop_cons (s : ByteArray) (k : Nat) (h : k < s.size) : s.data.toList.drop k = s[k] :: s.data.toList.drop (k + 1) := by
  rw [List.drop_eq_getElem_cons (by rw [← Lib.size_eq]; exact h)]
  rfl

/-- The rest decides, from place k on. -/
theorem cmp_eqs {a b : ByteArray} {k : Nat} (ha : k < a.size) (hb : k < b.size) (h : a[k].toNat = b[k].toNat) :
    compareBytes (a.data.toList.drop k) (b.data.toList.drop k) = compareBytes (a.data.toList.drop (k + 1)) (b.data.toList.drop (k + 1)) := by
  rw [drop_cons a k ha, drop_cons b k hb]
  conv => lhs; unfold compareBytes
  rw [if_neg (by rw [UInt8.lt_iff_toNat_lt]; omega), if_neg (by rw [UInt8.lt_iff_toNat_lt]; omega)]
theorem cmp_lt {a b : ByteArray} {k : Nat} (ha : k < a.size) (hb : k < b.size) (h : a[k].toNat < b[k].toNat) :
    compareBytes (a.data.toList.drop k) (b.data.toList.drop k) = -1 := by
  rw [drop_cons a k ha, drop_cons b k hb]
  unfold compareBytes
  rw [if_pos (by rw [UInt8.lt_iff_toNat_lt]; omega)]
theorem cmp_gt {a b : ByteArray} {k : Nat} (ha : k < a.size) (hb : k < b.size) (h : b[k].toNat < a[k].toNat) :
    compareBytes (a.data.toList.drop k) (b.data.toList.drop k) = 1 := by
  rw [drop_cons a k ha, drop_cons b k hb]
  unfold compareBytes
  rw [if_neg (by rw [UInt8.lt_iff_toNat_lt]; omega), if_pos (by rw [UInt8.lt_iff_toNat_lt]; omega)]
theorem cmp_end {a b : ByteArray} {k : Nat} (ha : k ≤ a.size) (hb : k ≤ b.size) (h : ¬ (k < a.size ∧ k < b.size)) :
    compareBytes (a.data.toList.drop k) (b.data.toList.drop k) = if a.size = b.size then 0 else if a.size < b.size then -1 else 1 := by
  have nil : ∀ s : ByteArray, s.size ≤ k → s.data.toList.drop k = [] := fun s hs => List.drop_of_length_le (by rw [← Lib.size_eq]; exact hs)
  rcases Nat.lt_or_ge k a.size with h1 | h1
  · rw [drop_cons a k h1, nil b (by omega), if_neg (by omega), if_neg (by omega)]
    rfl
  · rw [nil a h1]
    rcases Nat.lt_or_ge k b.size with h2 | h2
    · rw [drop_cons b k h2, if_neg (by omega), if_pos (by omega)]
      rfl
    · rw [nil b h2, if_pos (by omega)]
      rfl

end Go.Proofs.YtfhnbpilbbbckaaDoor.T3
