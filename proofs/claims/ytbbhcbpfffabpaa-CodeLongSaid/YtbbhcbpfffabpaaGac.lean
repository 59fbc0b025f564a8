/- Merged by program: T3There, T3Cut, Shelf. -/
import Derived.Lib.Strings
import Derived.Shelf.Strings.Builder1
import Derived.Shelf.Small.Bits
import Derived.Shelf.Small.Strs
import Derived.Shelf.Strings.BuilderF
import Derived.Shelf.Strings.BuilderK
import Derived.Shelf.Strconv.Itoa0
import Derived.Shelf.Bits.Mul64
import Derived.Shelf.Strings.BuilderCap
import Derived.Test.YtbbhcbpfffabpaaProg
import Derived.Test.YtbbhcbpfffabpaaGab
/- There and back: what dec.Parse makes of dec.Show's text. Plain mathematics. -/
namespace Go.Proofs.Ytbbhcbpfffabpaa.T3
open Go.Proofs.Ytbbhcbpfffabpaa Go.Proofs
open Go.RowKit

theorem tw_block {p : UInt8 → Bool} {A B : List UInt8} (hA : ∀ c ∈ A, p c = true) (hB : ∀ c, B.head? = some c → p c = false) : (A ++ B).takeWhile p = A := by
  induction A with
  | nil =>
    cases B with
    | nil => rfl
    | cons c B => simp [hB c rfl]
  | cons a A ih =>
    simp only [List.cons_append, List.takeWhile_cons, hA a (by simp), if_true]
    rw [ih (fun c hc => hA c (by simp [hc]))]

theorem ddig_nat (n : Nat) : (ddig n).toNat = 48 + n % 10 := by
  unfold ddig
  simp
  omega
theorem ddig_isDig (n : Nat) : isDig (ddig n) = true := by
  simp [isDig, ddig_nat]; omega

theorem fixD_digs : ∀ k p, ∀ c ∈ fixD k p, isDig c = true
  | 0, _, c, h => by simp [fixD] at h
  | k + 1, p, c, h => by
    simp only [fixD, List.mem_append, List.mem_singleton] at h
    rcases h with h | h
    · exact fixD_digs k _ c h
    · rw [h]; exact ddig_isDig _
theorem strip_digs : ∀ k p, ∀ c ∈ strip k p, isDig c = true
  | 0, _, c, h => by simp [strip] at h
  | k + 1, p, c, h => by
    unfold strip at h
    split at h
    · exact strip_digs k _ c h
    · exact fixD_digs _ _ c h
theorem decZ_digs : ∀ k n, ∀ c ∈ decZ k n, isDig c = true
  | 0, _, c, h => by simp [decZ] at h
  | k + 1, n, c, h => by
    unfold decZ at h
    split at h
    · simp at h
    · simp only [List.mem_append, List.mem_singleton] at h
      rcases h with h | h
      · exact decZ_digs k _ c h
      · rw [h]; exact ddig_isDig _

theorem dval_digit (l : List UInt8) (n : Nat) : dval (l ++ [ddig n]) = dval l * 10 + n % 10 := by
  rw [dval_snoc, ddig_nat]; omega

theorem dval_fixD : ∀ k p, p < 10 ^ k → dval (fixD k p) = p
  | 0, p, h => by simp at h; subst h; rfl
  | k + 1, p, h => by
    rw [Nat.pow_succ] at h
    rw [fixD, dval_digit, dval_fixD k (p / 10) (by omega)]; omega

theorem dval_decZ : ∀ k n, n < 10 ^ k → dval (decZ k n) = n
  | 0, n, h => by simp at h; subst h; rfl
  | k + 1, n, h => by
    rw [Nat.pow_succ] at h
    unfold decZ
    split
    · rename_i h0; subst h0; rfl
    · rw [dval_digit, dval_decZ k (n / 10) (by omega)]; omega

theorem dval_strip : ∀ k p, p < 10 ^ k → dval (strip k p ++ List.replicate (k - (strip k p).length) 48) = p
  | 0, p, h => by simp at h; subst h; rfl
  | k + 1, p, h => by
    rw [Nat.pow_succ] at h
    unfold strip
    split
    · have hl := strip_len k (p / 10)
      have ih := dval_strip k (p / 10) (by omega)
      rw [show k + 1 - (strip k (p / 10)).length = (k - (strip k (p / 10)).length) + 1 from by omega, List.replicate_succ', ← List.append_assoc, dval_snoc, ih]
      simp
      omega
    · rw [fix_len, Nat.sub_self, List.replicate_zero, List.append_nil]
      exact dval_fixD (k + 1) p (by rw [Nat.pow_succ]; exact h)

theorem dval_append : ∀ (b a : List UInt8), dval (a ++ b) = dval a * 10 ^ b.length + dval b
  | [], a => by simp [dval]
  | c :: b, a => by
    have h1 := dval_append b (a ++ [c])
    have h2 := dval_append b [c]
    have h3 : dval [c] = c.toNat - 48 := by simp [dval, dstep]
    rw [show a ++ c :: b = (a ++ [c]) ++ b from by simp, h1, dval_snoc, show c :: b = [c] ++ b from rfl, h2, h3]
    simp only [List.length_append, List.length_cons, List.length_nil, Nat.zero_add]
    rw [Nat.add_comm 1 b.length, Nat.pow_succ, Nat.add_mul]
    rw [show dval a * (10 ^ b.length * 10) = dval a * 10 * 10 ^ b.length from by rw [Nat.mul_comm (10 ^ b.length) 10, Nat.mul_assoc]]
    omega

def wholeText (n : Nat) : List UInt8 := decZ 12 (n / 1000000 / 10) ++ [ddig (n / 1000000)]
def partText (n : Nat) : List UInt8 := if n % 1000000 = 0 then [] else strip 6 (n % 1000000)

theorem mval_text (n : Nat) (h : n ≤ 9223372036854775808) : mval (wholeText n) (partText n) = n := by
  unfold mval
  rw [dval_append, pad6_len]
  have h1 : dval (wholeText n) = n / 1000000 := by
    unfold wholeText
    rw [dval_digit, dval_decZ 12 _ (by omega)]; omega
  have h2 : dval (pad6 (partText n)) = n % 1000000 := by
    unfold partText pad6
    split
    · rename_i h0; rw [h0]; rfl
    · have hl := strip_len 6 (n % 1000000)
      rw [List.take_of_length_le hl]
      exact dval_strip 6 _ (by have := Nat.mod_lt n (show 0 < 1000000 by decide); omega)
  rw [h1, h2]
  omega

structure Clean (behind : List UInt8) : Prop where
  head : ∀ c, behind.head? = some c → isDig c = false ∧ c.toNat ≠ 46

theorem wholeText_digs (n : Nat) : ∀ c ∈ wholeText n, isDig c = true := by
  intro c h
  unfold wholeText at h
  simp only [List.mem_append, List.mem_singleton] at h
  rcases h with h | h
  · exact decZ_digs _ _ c h
  · rw [h]; exact ddig_isDig _

theorem wholeText_cons (n : Nat) : ∃ c l, wholeText n = c :: l ∧ isDig c = true := by
  have hd := wholeText_digs n
  cases h : wholeText n with
  | nil =>
    have h2 := congrArg List.length h
    unfold wholeText at h2
    simp at h2
  | cons c l => exact ⟨c, l, rfl, hd c (by rw [h]; simp)⟩

theorem showPlain_split (n : Nat) : showPlain n = wholeText n ++ showFrac (n % 1000000) := rfl

/-- The number that begins a text: blanks ahead, the number's text, something behind that doesn't go on with it. -/
theorem parse_text (a : Int) (ha : Fits a) (pre behind : List UInt8) (hpre : ∀ c ∈ pre, isBl c = true) (hb : Clean behind) :
    parseAns (pre ++ (showText a ++ behind)) = num3 (a, 0) (pre.length + (showText a).length) := by
  obtain ⟨n, hn⟩ : ∃ n, n = a.natAbs := ⟨_, rfl⟩
  have hn19 : n ≤ 9223372036854775808 := by unfold Fits at ha; omega
  obtain ⟨sg, hsg⟩ : ∃ sg : List UInt8, sg = if a < 0 then [45] else [] := ⟨_, rfl⟩
  have htext : showText a = sg ++ (wholeText n ++ showFrac (n % 1000000)) := by
    unfold showText
    rw [hsg, ← hn, ← showPlain_split]
    split <;> simp
  obtain ⟨c0, w0, hw0, hc0⟩ := wholeText_cons n
  obtain ⟨L, hL⟩ : ∃ L, L = pre ++ (showText a ++ behind) := ⟨_, rfl⟩
  rw [← hL]
  have hc0d := isDig_yes hc0
  have h1 : parseAt L = pre.length := by
    unfold parseAt
    rw [hL, tw_block hpre]
    intro c hc
    rw [htext, hsg, hw0] at hc
    split at hc
    · simp at hc; subst hc; rfl
    · simp at hc; subst hc
      simp [isBl]; omega
  have hd1 : L.drop pre.length = showText a ++ behind := by rw [hL]; simp
  have h2 : signOf (L.drop (parseAt L)) = (decide (a < 0), sg.length) := by
    rw [h1, hd1, htext, hsg, hw0]
    by_cases h : a < 0
    · rw [if_pos h]; simp [signOf, h]
    · rw [if_neg h]
      have e1 : ¬ (c0 = 45) := by intro e; rw [e] at hc0d; simp at hc0d
      have e2 : ¬ (c0 = 43) := by intro e; rw [e] at hc0d; simp at hc0d
      simp [signOf, h, e1, e2]
  have h3 : parseB L = pre.length + sg.length := by unfold parseB; rw [h2, h1]
  have hd2 : L.drop (pre.length + sg.length) = wholeText n ++ (showFrac (n % 1000000) ++ behind) := by
    rw [← List.drop_drop, hd1, htext]; simp
  have h4 : parseWhole L = wholeText n := by
    unfold parseWhole
    rw [h3, hd2, tw_block (wholeText_digs n)]
    intro c hc
    unfold showFrac at hc
    split at hc
    · exact (hb.head c (by simpa using hc)).1
    · simp at hc; subst hc; rfl
  have h5 : parseC L = pre.length + sg.length + (wholeText n).length := by unfold parseC; rw [h3, h4]
  have hd3 : L.drop (pre.length + sg.length + (wholeText n).length) = showFrac (n % 1000000) ++ behind := by
    rw [← List.drop_drop, hd2]; simp
  have h6 : parsePart L = (partText n, if n % 1000000 = 0 then 0 else 1) := by
    unfold parsePart dotOf
    rw [h5]
    have e : L[pre.length + sg.length + (wholeText n).length]? = (showFrac (n % 1000000) ++ behind).head? := by
      rw [← hd3, List.head?_drop]
    rw [e]
    by_cases h0 : n % 1000000 = 0
    · unfold showFrac partText
      rw [if_pos h0, if_pos h0, if_pos h0, List.nil_append]
      rw [if_neg]
      intro hc
      exact (hb.head 46 hc).2 rfl
    · have e2 : (showFrac (n % 1000000) ++ behind).head? = some 46 := by unfold showFrac; rw [if_neg h0]; rfl
      rw [if_pos e2, ← List.drop_drop, hd3]
      unfold showFrac partText
      rw [if_neg h0, if_neg h0, if_neg h0]
      simp only [List.cons_append, List.drop_succ_cons, List.drop_zero]
      rw [tw_block (strip_digs _ _) (fun c hc => (hb.head c hc).1)]
  have hval : parseVal L = a := by
    unfold parseVal
    rw [h2, h4, h6]
    simp only
    rw [mval_text n hn19, hn]
    unfold sgn
    by_cases h : a < 0
    · simp [h]; omega
    · simp [h]; omega
  have hnone : parseNone L = false := by
    unfold parseNone
    rw [h4, hw0]
    simp
  have hend : parseEnd L = pre.length + (showText a).length := by
    unfold parseEnd
    rw [h5, h6, htext]
    unfold showFrac partText
    by_cases h0 : n % 1000000 = 0
    · simp [h0]; omega
    · simp [h0]; omega
  unfold parseAns
  rw [hnone, hval, hend]
  unfold back
  rw [if_pos ha]
  rfl
end Go.Proofs.Ytbbhcbpfffabpaa.T3

/- Characters of a text as places: the widths that a range over a string goes by. Plain: no program. -/
namespace Go.Proofs.Ytbbhcbpfffabpaa.T3
open Go.Proofs.Ytbbhcbpfffabpaa Go.Proofs
open Go.Lib

/-! ### Parts of a text -/
theorem bytes_ext {t u : ByteArray} (h : t.data.toList = u.data.toList) : t = u := by
  apply ByteArray.ext
  exact Array.toList_inj.1 h

theorem part_part (s : ByteArray) (a b c d : Nat) (hd : a + d ≤ b) : (s.extract a b).extract c d = s.extract (a + c) (a + d) := by
  apply bytes_ext
  rw [extract_data, extract_data, extract_data, List.drop_take, List.take_take, List.drop_drop]
  congr 1
  omega

theorem part_join (s : ByteArray) (a b c : Nat) (h1 : a ≤ b) (h2 : b ≤ c) : s.extract a b ++ s.extract b c = s.extract a c := by
  apply bytes_ext
  rw [ByteArray.data_append, Array.toList_append, extract_data, extract_data, extract_data]
  have e : c - a = (b - a) + (c - b) := by omega
  rw [e, List.take_add, List.drop_drop, show a + (b - a) = b from by omega]

theorem part_none (s : ByteArray) (a b : Nat) (h : b ≤ a) : s.extract a b = ⟨#[]⟩ := by
  apply bytes_ext
  rw [extract_data, show b - a = 0 from by omega]
  simp

theorem part_all (s : ByteArray) : s.extract 0 s.size = s := by
  apply bytes_ext
  rw [extract_data, List.drop_zero, Nat.sub_zero, size_eq]
  exact List.take_length

theorem part_size (s : ByteArray) (a b : Nat) (h : b ≤ s.size) : (s.extract a b).size = b - a := by
  rw [ByteArray.size_extract]; omega

end Go.Proofs.Ytbbhcbpfffabpaa.T3

/-
  DERIVED: THE SHELF's CONTRACTS AT THIS DUMP, IN PLAIN WORDS (tools/lay-plain.mjs out of 'TryShelf.lean', which tools/lay-shelf.mjs wrote): THE SAME DECLARATIONS UNDER THE SAME NAMES: 'import', 'namespace', 'open', 'def', 'theorem' AND NOTHING ELSE: no command of the shelf's: FOR A HAND-IN. Each laying: the table of numbers ('.._ren') and one theorem, a field a fact of the dump's own or the kernel's comparison; each contract: ONE APPLICATION.
-/
namespace Go.Proofs
open Go.Shelf
def Try.lays170_ren : Go.Shelf.Ren := ⟨fun | 170 => 50 | n => n, fun | 70 => 56 | 3 => 3 | 0 => 0 | 72 => 58 | 37 => 42 | 5 => 5 | n => n, fun | n => n⟩
theorem Try.lays170 : Go.Proofs.Lays.n170 Try.prog Try.lays170_ren := {
  mixed := by kernel_rfl
  f170 := Try.func50.trans (congrArg some (by kernel_rfl))
  t0 := Try.underlying0
  a0 := Try.isAgg0
  z0 := Try.sizeOf0
  v0 := Try.zeroValue0
  t3 := Try.underlying3
  a3 := Try.isAgg3
  z3 := Try.sizeOf3
  v3 := Try.zeroValue3
  t37 := Try.underlying42
  a37 := Try.isAgg42
  z37 := Try.sizeOf42
  v37 := Try.zeroValue42
  t70 := Try.underlying56
  a70 := Try.isAgg56
  z70 := Try.sizeOf56
  v70 := Try.zeroValue56
  t72 := Try.underlying58
  a72 := Try.isAgg58
  z72 := Try.sizeOf58
  v72 := Try.zeroValue58 }
open Go.RowKit in
/-- (*strings.Builder).Len: "Len returns the number of accumulated bytes; b.Len() == len(b.String()).": the world is as it was. (LAID: no walk: one application.) -/
theorem Try.Builder_Len (B b : Nat) (bs : List Value) (w : World) (h : Lib.IsBuilder 58 5 B b bs w) :
    Calls Try.prog 50 #[.pointer (some ⟨b, 0, none⟩)] w fun e w' => e = .returned (.int .i64 bs.length) ∧ w' = w := Any.Builder_Len Try.lays170 B b bs w h
def Try.lays169_ren : Go.Shelf.Ren := ⟨fun | 169 => 52 | n => n, fun | 70 => 56 | 9 => 9 | 0 => 0 | 72 => 58 | 37 => 42 | 127 => 83 | 3 => 3 | 5 => 5 | n => n, fun | n => n⟩
theorem Try.lays169 : Go.Proofs.Lays.n169 Try.prog Try.lays169_ren := {
  mixed := by kernel_rfl
  f169 := Try.func52.trans (congrArg some (by kernel_rfl))
  t0 := Try.underlying0
  a0 := Try.isAgg0
  z0 := Try.sizeOf0
  v0 := Try.zeroValue0
  t3 := Try.underlying3
  a3 := Try.isAgg3
  z3 := Try.sizeOf3
  v3 := Try.zeroValue3
  t9 := Try.underlying9
  a9 := Try.isAgg9
  z9 := Try.sizeOf9
  v9 := Try.zeroValue9
  t37 := Try.underlying42
  a37 := Try.isAgg42
  z37 := Try.sizeOf42
  v37 := Try.zeroValue42
  t70 := Try.underlying56
  a70 := Try.isAgg56
  z70 := Try.sizeOf56
  v70 := Try.zeroValue56
  t72 := Try.underlying58
  a72 := Try.isAgg58
  z72 := Try.sizeOf58
  v72 := Try.zeroValue58
  t127 := Try.underlying83
  a127 := Try.isAgg83
  z127 := Try.sizeOf83
  v127 := Try.zeroValue83 }
theorem Try.Builder_Extra_169 : Builder.Extra Try.prog Try.lays169_ren := {
  sizeBuilder := by kernel_rfl
  liesBuilder := by kernel_rfl
  t5 := Try.underlying5
  a5 := Try.isAgg5
  z5 := Try.sizeOf5
  v5 := Try.zeroValue5
  infoByte := by kernel_rfl
  cellsByte := by kernel_rfl
  sizeByte := by kernel_rfl
  neB5 := by decide }
open Go.RowKit in
/-- (*strings.Builder).String: "String returns the accumulated string.": OF A BUILDER THAT HOLDS AT LEAST ONE BYTE. ✋ THE MODEL FREEZES THOSE BYTES IN THE BUFFER (unsafe.String): a later write INTO them ends the model's run without an answer; a later append BEHIND them goes on. The statement's order of evaluation is drawn: one draw. (LAID: no walk: one application.) -/
theorem Try.Builder_String (B b : Nat) (l : List UInt8) (w : World) (h : Lib.IsBuilder 58 5 B b (Lib.byteCells l) w) (h0 : l ≠ []) :
    Calls Try.prog 52 #[.pointer (some ⟨b, 0, none⟩)] w fun e w' => e = .returned (.string ⟨l.toArray⟩) ∧ Below B w w' := Any.Builder_String Try.lays169 Try.Builder_Extra_169 B b l w h h0
open Go.RowKit in
/-- (*strings.Builder).String OF A BUILDER THAT HOLDS NO BYTE: the empty string. (Its buffer is nil, or a row of which it has taken nothing yet; where that row has NO capacity the model lays one new block for unsafe.SliceData's 'some address'.) One draw. (LAID: no walk: one application.) -/
theorem Try.Builder_String_empty (B b : Nat) (w : World) (h : Lib.IsBuilder 58 5 B b [] w) (hBw : B ≤ w.heap.size) :
    Calls Try.prog 52 #[.pointer (some ⟨b, 0, none⟩)] w fun e w' => e = .returned (.string ⟨#[]⟩) ∧ Below B w w' := Any.Builder_String_empty Try.lays169 Try.Builder_Extra_169 B b w h hBw
open Go.RowKit in
/-- (*strings.Builder).String: "String returns the accumulated string.": WHATEVER THE BUILDER HOLDS. (LAID: no walk: one application.) -/
theorem Try.Builder_String_any (B b : Nat) (l : List UInt8) (w : World) (h : Lib.IsBuilder 58 5 B b (Lib.byteCells l) w) (hBw : B ≤ w.heap.size) :
    Calls Try.prog 52 #[.pointer (some ⟨b, 0, none⟩)] w fun e w' => e = .returned (.string ⟨l.toArray⟩) ∧ Below B w w' := Any.Builder_String_any Try.lays169 Try.Builder_Extra_169 B b l w h hBw
def Try.lays134_ren : Go.Shelf.Ren := ⟨fun | 134 => 87 | 129 => 92 | n => n, fun | 53 => 67 | 3 => 3 | 4 => 4 | 46 => 98 | 5 => 5 | 9 => 9 | n => n, fun | n => n⟩
theorem Try.lays134 : Go.Proofs.Lays.n134 Try.prog Try.lays134_ren := {
  mixed := by kernel_rfl
  f129 := Try.func92.trans (congrArg some (by kernel_rfl))
  f134 := Try.func87.trans (congrArg some (by kernel_rfl))
  t3 := Try.underlying3
  a3 := Try.isAgg3
  z3 := Try.sizeOf3
  v3 := Try.zeroValue3
  t4 := Try.underlying4
  a4 := Try.isAgg4
  z4 := Try.sizeOf4
  v4 := Try.zeroValue4
  t5 := Try.underlying5
  a5 := Try.isAgg5
  z5 := Try.sizeOf5
  v5 := Try.zeroValue5
  t9 := Try.underlying9
  a9 := Try.isAgg9
  z9 := Try.sizeOf9
  v9 := Try.zeroValue9
  t46 := Try.underlying98
  a46 := Try.isAgg98
  z46 := Try.sizeOf98
  v46 := Try.zeroValue98
  t53 := Try.underlying67
  a53 := Try.isAgg67
  z53 := Try.sizeOf67
  v53 := Try.zeroValue67 }
/-- bits.LeadingZeros64: "LeadingZeros64 returns the number of leading zero bits in x; the result is 64 for x == 0.": IT RETURNS '64 - Lib.bitLen x'; the world is as it was. ITS CALLEE bits.Len64 IS MET BY ITS OWN CONTRACT OFF THE SHELF (lay that first): entered in place it sends the kernel out of memory. (LAID: no walk: one application.) -/
theorem Try.bits_LeadingZeros64 (x : Int) (w : World) (h0 : 0 ≤ x) (h1 : x ≤ 18446744073709551615) :
    Calls Try.prog 87 #[.int .u64 x] w fun e w' => e = .returned (.int .i64 (64 - (Lib.bitLen x.toNat : Int))) ∧ w' = w := Any.bits_LeadingZeros64 Try.lays134 x w h0 h1
def Try.lays213_ren : Go.Shelf.Ren := ⟨fun | 213 => 88 | 265 => 93 | n => n, fun | 9 => 9 | 3 => 3 | n => n, fun | n => n⟩
theorem Try.lays213 : Go.Proofs.Lays.n213 Try.prog Try.lays213_ren := {
  mixed := by kernel_rfl
  f213 := Try.func88.trans (congrArg some (by kernel_rfl))
  f265 := Try.func93.trans (congrArg some (by kernel_rfl))
  t3 := Try.underlying3
  a3 := Try.isAgg3
  z3 := Try.sizeOf3
  v3 := Try.zeroValue3
  t9 := Try.underlying9
  a9 := Try.isAgg9
  z9 := Try.sizeOf9
  v9 := Try.zeroValue9 }
open Go.RowKit in
/-- internal/bytealg.CompareString (what strings.Compare calls): IT RETURNS 'Lib.compareBytes a b'; the world is as it was. (LAID: no walk: one application.) -/
theorem Try.bytealg_CompareString (a b : ByteArray) (w : World) :
    Calls Try.prog 88 #[.string a, .string b] w fun e w' => e = .returned (.int .i64 (Lib.compareBytes a.data.toList b.data.toList)) ∧ w' = w := Any.bytealg_CompareString Try.lays213 a b w
def Try.lays106_ren : Go.Shelf.Ren := ⟨fun | 106 => 75 | 213 => 88 | 265 => 93 | n => n, fun | 9 => 9 | 3 => 3 | n => n, fun | n => n⟩
theorem Try.lays106 : Go.Proofs.Lays.n106 Try.prog Try.lays106_ren := {
  mixed := by kernel_rfl
  f106 := Try.func75.trans (congrArg some (by kernel_rfl))
  f213 := Try.func88.trans (congrArg some (by kernel_rfl))
  f265 := Try.func93.trans (congrArg some (by kernel_rfl))
  t3 := Try.underlying3
  a3 := Try.isAgg3
  z3 := Try.sizeOf3
  v3 := Try.zeroValue3
  t9 := Try.underlying9
  a9 := Try.isAgg9
  z9 := Try.sizeOf9
  v9 := Try.zeroValue9 }
open Go.RowKit in
/-- strings.Compare: "Compare returns an integer comparing two strings lexicographically. The result will be 0 if a == b, -1 if a < b, and +1 if a > b.": IT RETURNS 'Lib.compareBytes a b'; the world is as it was. (LAID: no walk: one application.) -/
theorem Try.strings_Compare (a b : ByteArray) (w : World) :
    Calls Try.prog 75 #[.string a, .string b] w fun e w' => e = .returned (.int .i64 (Lib.compareBytes a.data.toList b.data.toList)) ∧ w' = w := Any.strings_Compare Try.lays106 a b w
open Go.RowKit in
/-- (*strings.Builder).Len: "Len returns the number of accumulated bytes; b.Len() == len(b.String()).": the world is as it was. (THE FORM '_f': 'Lib.IsBuilderF'.) (LAID: no walk: one application.) -/
theorem Try.Builder_Len_f (B b : Nat) (bs : List Value) (w : World) (h : Lib.IsBuilderF 58 5 B b bs w) :
    Calls Try.prog 50 #[.pointer (some ⟨b, 0, none⟩)] w fun e w' => e = .returned (.int .i64 bs.length) ∧ w' = w := Any.Builder_Len_f Try.lays170 B b bs w h
open Go.RowKit in
/-- (*strings.Builder).String: "String returns the accumulated string.": OF A BUILDER THAT HOLDS AT LEAST ONE BYTE. ✋ THE MODEL FREEZES THOSE BYTES IN THE BUFFER (unsafe.String): a later write INTO them ends the model's run without an answer; a later append BEHIND them goes on. The statement's order of evaluation is drawn: one draw. THE FORM '_f': IT SAYS BESIDES THAT THE BUILDER IS A BUILDER STILL ('Lib.IsBuilderF', the same bytes): SO IT CAN BE WRITTEN ON: 'b.WriteString(b.String()[:k])'. (LAID: no walk: one application.) -/
theorem Try.Builder_String_f (B b : Nat) (l : List UInt8) (w : World) (h : Lib.IsBuilderF 58 5 B b (Lib.byteCells l) w) (h0 : l ≠ []) :
    Calls Try.prog 52 #[.pointer (some ⟨b, 0, none⟩)] w fun e w' => e = .returned (.string ⟨l.toArray⟩) ∧ (Lib.IsBuilderF 58 5 B b (Lib.byteCells l) w' ∧ Below B w w') := Any.Builder_String_f Try.lays169 Try.Builder_Extra_169 B b l w h h0
open Go.RowKit in
/-- (*strings.Builder).String OF A BUILDER THAT HOLDS NO BYTE: the empty string; THE FORM '_f': a builder still. (LAID: no walk: one application.) -/
theorem Try.Builder_String_empty_f (B b : Nat) (w : World) (h : Lib.IsBuilderF 58 5 B b [] w) (hBw : B ≤ w.heap.size) :
    Calls Try.prog 52 #[.pointer (some ⟨b, 0, none⟩)] w fun e w' => e = .returned (.string ⟨#[]⟩) ∧ (Lib.IsBuilderF 58 5 B b [] w' ∧ Below B w w') := Any.Builder_String_empty_f Try.lays169 Try.Builder_Extra_169 B b w h hBw
open Go.RowKit in
/-- (*strings.Builder).String: "String returns the accumulated string.": WHATEVER THE BUILDER HOLDS; THE FORM '_f': OF A BUILDER THAT MAY HAVE BEEN READ BEFORE; AND IT IS A BUILDER STILL, holding the same bytes: it can be written on. (LAID: no walk: one application.) -/
theorem Try.Builder_String_any_f (B b : Nat) (l : List UInt8) (w : World) (h : Lib.IsBuilderF 58 5 B b (Lib.byteCells l) w) (hBw : B ≤ w.heap.size) :
    Calls Try.prog 52 #[.pointer (some ⟨b, 0, none⟩)] w fun e w' => e = .returned (.string ⟨l.toArray⟩) ∧ (Lib.IsBuilderF 58 5 B b (Lib.byteCells l) w' ∧ Below B w w') := Any.Builder_String_any_f Try.lays169 Try.Builder_Extra_169 B b l w h hBw
open Go.RowKit in
/-- (*strings.Builder).String: "String returns the accumulated string.": OF A BUILDER THAT HOLDS AT LEAST ONE BYTE. ✋ THE MODEL FREEZES THOSE BYTES IN THE BUFFER (unsafe.String): a later write INTO them ends the model's run without an answer; a later append BEHIND them goes on. The statement's order of evaluation is drawn: one draw. THE FORM '_k': OVER 'Lib.IsBuilderF' (a builder that 'String()' may have read), AND WITH THE FRAME THAT REACHES ABOVE THE BUILDER: 'Lib.OthersKept': every block that is not b and is no row of uint8's stands as it stood: the iterator of a range among them. (LAID: no walk: one application.) -/
theorem Try.Builder_String_k (B b : Nat) (l : List UInt8) (w : World) (h : Lib.IsBuilderF 58 5 B b (Lib.byteCells l) w) (h0 : l ≠ []) :
    Calls Try.prog 52 #[.pointer (some ⟨b, 0, none⟩)] w fun e w' => e = .returned (.string ⟨l.toArray⟩) ∧ (Lib.IsBuilderF 58 5 B b (Lib.byteCells l) w' ∧ Below B w w' ∧ Lib.OthersKept 5 (some b) w w') := Any.Builder_String_k Try.lays169 Try.Builder_Extra_169 B b l w h h0
open Go.RowKit in
/-- (*strings.Builder).String OF A BUILDER THAT HOLDS NO BYTE: the empty string; THE FORM '_k': OVER 'Lib.IsBuilderF' (a builder that 'String()' may have read), AND WITH THE FRAME THAT REACHES ABOVE THE BUILDER: 'Lib.OthersKept': every block that is not b and is no row of uint8's stands as it stood: the iterator of a range among them. (LAID: no walk: one application.) -/
theorem Try.Builder_String_empty_k (B b : Nat) (w : World) (h : Lib.IsBuilderF 58 5 B b [] w) (hBw : B ≤ w.heap.size) :
    Calls Try.prog 52 #[.pointer (some ⟨b, 0, none⟩)] w fun e w' => e = .returned (.string ⟨#[]⟩) ∧ (Lib.IsBuilderF 58 5 B b [] w' ∧ Below B w w' ∧ Lib.OthersKept 5 (some b) w w') := Any.Builder_String_empty_k Try.lays169 Try.Builder_Extra_169 B b w h hBw
open Go.RowKit in
/-- (*strings.Builder).String: "String returns the accumulated string.": WHATEVER THE BUILDER HOLDS; THE FORM '_k': OVER 'Lib.IsBuilderF' (a builder that 'String()' may have read), AND WITH THE FRAME THAT REACHES ABOVE THE BUILDER: 'Lib.OthersKept': every block that is not b and is no row of uint8's stands as it stood: the iterator of a range among them. (LAID: no walk: one application.) -/
theorem Try.Builder_String_any_k (B b : Nat) (l : List UInt8) (w : World) (h : Lib.IsBuilderF 58 5 B b (Lib.byteCells l) w) (hBw : B ≤ w.heap.size) :
    Calls Try.prog 52 #[.pointer (some ⟨b, 0, none⟩)] w fun e w' => e = .returned (.string ⟨l.toArray⟩) ∧ (Lib.IsBuilderF 58 5 B b (Lib.byteCells l) w' ∧ Below B w w' ∧ Lib.OthersKept 5 (some b) w w') := Any.Builder_String_any_k Try.lays169 Try.Builder_Extra_169 B b l w h hBw
def Try.lays129_ren : Go.Shelf.Ren := ⟨fun | 129 => 92 | n => n, fun | 53 => 67 | 3 => 3 | 4 => 4 | 46 => 98 | 5 => 5 | 9 => 9 | n => n, fun | n => n⟩
theorem Try.lays129 : Go.Proofs.Lays.n129 Try.prog Try.lays129_ren := {
  mixed := by kernel_rfl
  f129 := Try.func92.trans (congrArg some (by kernel_rfl))
  t3 := Try.underlying3
  a3 := Try.isAgg3
  z3 := Try.sizeOf3
  v3 := Try.zeroValue3
  t4 := Try.underlying4
  a4 := Try.isAgg4
  z4 := Try.sizeOf4
  v4 := Try.zeroValue4
  t5 := Try.underlying5
  a5 := Try.isAgg5
  z5 := Try.sizeOf5
  v5 := Try.zeroValue5
  t9 := Try.underlying9
  a9 := Try.isAgg9
  z9 := Try.sizeOf9
  v9 := Try.zeroValue9
  t46 := Try.underlying98
  a46 := Try.isAgg98
  z46 := Try.sizeOf98
  v46 := Try.zeroValue98
  t53 := Try.underlying67
  a53 := Try.isAgg67
  z53 := Try.sizeOf67
  v53 := Try.zeroValue67 }
/-- bits.Len64: "Len64 returns the minimum number of bits required to represent x; the result is 0 for x == 0.": IT RETURNS 'Lib.bitLen x'; the world is as it was. ('h0', 'h1': x is a uint64.) (LAID: no walk: one application.) -/
theorem Try.bits_Len64 (x : Int) (w : World) (h0 : 0 ≤ x) (h1 : x ≤ 18446744073709551615) :
    Calls Try.prog 92 #[.int .u64 x] w fun e w' => e = .returned (.int .i64 (Lib.bitLen x.toNat)) ∧ w' = w := Any.bits_Len64 Try.lays129 x w h0 h1
def Try.lays264_ren : Go.Shelf.Ren := ⟨fun | 264 => 72 | n => n, fun | 53 => 67 | 46 => 98 | n => n, fun | n => n⟩
theorem Try.lays264 : Go.Proofs.Lays.n264 Try.prog Try.lays264_ren := {
  mixed := by kernel_rfl
  f264 := Try.func72.trans (congrArg some (by kernel_rfl))
  t46 := Try.underlying98
  a46 := Try.isAgg98
  z46 := Try.sizeOf98
  v46 := Try.zeroValue98
  t53 := Try.underlying67
  a53 := Try.isAgg67
  z53 := Try.sizeOf67
  v53 := Try.zeroValue67 }
open Go.RowKit Go.Lib in
theorem Try.bits_Mul64 (x y : Nat) (hx : x < 18446744073709551616) (hy : y < 18446744073709551616) (w : World) :
    Calls Try.prog 72 #[.int .u64 x, .int .u64 y] w fun e w' => e = .returned (.tuple #[.int .u64 ((x * y / 18446744073709551616 : Nat) : Int), .int .u64 ((x * y % 18446744073709551616 : Nat) : Int)]) ∧ w' = w := Any.bits_Mul64 Try.lays264 x y hx hy w
end Go.Proofs
