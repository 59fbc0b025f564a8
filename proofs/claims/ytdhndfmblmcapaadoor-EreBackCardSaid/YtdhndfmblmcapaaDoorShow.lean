/- class.Show: a walk. -/
import Derived.Test.YtdhndfmblmcapaaDoorEq
import Derived.Test.YtdhndfmblmcapaaDoorList
import Derived.Test.YtdhndfmblmcapaaDoorNot
import Derived.Test.YtdhndfmblmcapaaDoorMember
namespace Go.Proofs.YtdhndfmblmcapaaDoor
open Go.RowKit

theorem listTo_congr {p q : Nat → Bool} : ∀ k, k ≤ 256 → (∀ c, c < 256 → p c = q c) → listTo p k = listTo q k
  | 0, _, _ => rfl
  | k + 1, hk, h => by
    show listTo p k ++ _ = listTo q k ++ _
    rw [listTo_congr k (by omega) h, h k (by omega)]

theorem list_text (f : Nat → Nat) (hf : Fits f) (w : World) :
    Calls Tryd.prog 52 #[.agg (words f)] w fun e w' => ∃ t : ByteArray, e = .returned (.string t) ∧ Hid (t.data.toList = listTo (bit f) 256) ∧ t.size ≤ 512 ∧ Below w.heap.size w w' := by
  refine (list_spec f hf w).mono ?_
  rintro e w' ⟨rfl, hb⟩
  have h := listTo_len (bit f) 256
  exact ⟨_, rfl, Lib.hid (by simp), by simpa [ByteArray.size] using h, hb⟩

/-- How a set is written. -/
def empty4 (f : Nat → Nat) : Bool := decide (f 0 = 0) && (decide (f 1 = 0) && (decide (f 2 = 0) && decide (f 3 = 0)))
theorem empty_iff (f : Nat → Nat) : empty4 f = true ↔ ∀ k, k < 4 → f k = zero4 k := by
  unfold empty4 zero4
  constructor
  · intro e k hk
    simp at e
    have : k = 0 ∨ k = 1 ∨ k = 2 ∨ k = 3 := by omega
    rcases this with rfl | rfl | rfl | rfl
    · exact e.1
    · exact e.2.1
    · exact e.2.2.1
    · exact e.2.2.2
  · intro e
    simp [e 0 (by omega), e 1 (by omega), e 2 (by omega), e 3 (by omega)]
theorem empty_bit {f : Nat → Nat} (h : empty4 f = true) {c : Nat} (hc : c < 256) : bit f c = false := by
  unfold bit
  rw [(empty_iff f).1 h (c / 64) (by omega)]
  simp [zero4]
def showL (f : Nat → Nat) : List UInt8 := if empty4 f = true then [91, 94] ++ listTo (fun _ => true) 256 ++ [93] else [91] ++ listTo (bit f) 256 ++ [93]

set_option maxRecDepth 100000 in
theorem show_spec (f : Nat → Nat) (hf : Fits f) (w : World) :
    Calls Tryd.prog 44 #[.agg (words f)] w fun e w' => ∃ t : ByteArray, e = .returned (.string t) ∧ Hid (t.data.toList = showL f) ∧ t.size ≤ 520 ∧ Below w.heap.size w w' := by
  have HN := Lib.hid (fun w => not_spec f hf w)
  have HL := Lib.hid (fun f hf w => list_text f hf w)
  have heq := equal_words f zero4 (b := empty4 f)
  have hq : ∀ w, (Op.equalIn 10000 24 (.agg #[.int .u64 (f 0), .int .u64 (f 1), .int .u64 (f 2), .int .u64 (f 3)]) (.agg #[.int .u64 0, .int .u64 0, .int .u64 0, .int .u64 0])).run Tryd.prog w = .ok (empty4 f) w := fun w => heq w (empty_iff f)
  clear heq
  go_enter Tryd.func44, Tryd.ntmps44
  go_upto_region 1 with (fail)
  obtain ⟨W, hW, Q, HB⟩ := quad_box w f 24
  rw [← hW]
  clear hW
  have c0 := Q.out.c 0 (by omega); have c1 := Q.out.c 1 (by omega); have c2 := Q.out.c 2 (by omega); have c3 := Q.out.c 3 (by omega)
  cases he : empty4 f
  case true =>
    rw [he] at hq
    have HE := Lib.hid he; clear he
    go_wp2_with fail
    refine (HN.out _).mono ?_
    rintro e w1 ⟨rfl, b1⟩
    have B1 := Lib.hid (Below.step HB.out b1); clear b1
    simp only [words]
    go_wp2_with fail
    refine (HL.out (notW f) (fits_not f) _).mono ?_
    rintro e w2 ⟨t, rfl, ht, hz, b2⟩
    have B2 := Lib.hid (Below.step B1.out b2); clear b2
    go_wp2_with fail
    go_ret
    refine ⟨_, rfl, Lib.hid ?_, ?_, B2.out⟩
    · unfold showL
      rw [if_pos HE.out]
      simp only [ByteArray.data_append, Array.toList_append, ht.out]
      rw [listTo_congr 256 (Nat.le_refl _) (fun c hc => show bit (notW f) c = true by rw [bit_not f hf hc, empty_bit HE.out hc]; rfl)]
    · simp only [ByteArray.size_append]
      show 2 + t.size + 1 ≤ 520
      omega
  case false =>
    rw [he] at hq
    have HE := Lib.hid he; clear he
    go_wp2_with fail
    refine (HL.out f hf _).mono ?_
    rintro e w2 ⟨t, rfl, ht, hz, b2⟩
    have B2 := Lib.hid (Below.step HB.out b2); clear b2
    go_wp2_with fail
    go_ret
    refine ⟨_, rfl, Lib.hid ?_, ?_, B2.out⟩
    · unfold showL
      rw [if_neg (by rw [HE.out]; decide)]
      simp only [ByteArray.data_append, Array.toList_append, ht.out]
    · simp only [ByteArray.size_append]
      show 1 + t.size + 1 ≤ 520
      omega
end Go.Proofs.YtdhndfmblmcapaaDoor
