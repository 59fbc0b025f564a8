/- Line feeds passed over; records of lines; records that a byte ends: plain. -/
import Derived.Test.YtcojnkjcbopnbaaGreatDoorBase
import Derived.Lib.IndexMore
namespace Go.Proofs.YtcojnkjcbopnbaaGreatDoor
open Go.RowKit
open Go.Lib (occAt index index_spec NoOcc)

/-- A text's byte; 0 beyond. -/
def bt (s : ByteArray) (k : Nat) : UInt8 := if h : k < s.size then s[k] else 0
theorem bt_in {s : ByteArray} {k : Nat} (h : k < s.size) : bt s k = s[k] := dif_pos h
theorem bt_list {s : ByteArray} {k : Nat} (h : k < s.size) : s.data.toList[k]? = some (bt s k) := by
  rw [bt_in h, List.getElem?_eq_getElem (by simpa using h)]
  rfl
theorem bt_eq {s : ByteArray} {k : Nat} {c : UInt8} (h : s.data.toList[k]? = some c) : k < s.size ∧ bt s k = c := by
  have hk : k < s.size := by
    obtain ⟨h1, _⟩ := List.getElem?_eq_some_iff.1 h
    simpa using h1
  refine ⟨hk, ?_⟩
  rw [bt_list hk] at h
  simpa using h

theorem tail_list (s : ByteArray) (a : Nat) : (s.extract a s.size).data.toList = s.data.toList.drop a := by
  rw [Lib.extract_data, List.take_of_length_le (by simp)]

/-- The place behind the line feeds. -/
def Feeds (s : ByteArray) (a f : Nat) : Prop := a ≤ f ∧ f ≤ s.size ∧ (∀ k, a ≤ k → k < f → bt s k = 10) ∧ (f < s.size → bt s f ≠ 10)

theorem feeds_ex (s : ByteArray) : ∀ (n a : Nat), s.size - a ≤ n → a ≤ s.size → ∃ f, Feeds s a f := by
  intro n
  induction n with
  | zero =>
    intro a h1 h2
    exact ⟨a, Nat.le_refl _, h2, fun k k1 k2 => by omega, fun h => by omega⟩
  | succ n ih =>
    intro a h1 h2
    by_cases hlt : a < s.size
    · by_cases h10 : bt s a = 10
      · obtain ⟨f, f1, f2, f3, f4⟩ := ih (a + 1) (by omega) (by omega)
        refine ⟨f, by omega, f2, fun k k1 k2 => ?_, f4⟩
        rcases Nat.lt_or_ge a k with h | h
        · exact f3 k h k2
        · rw [show k = a from by omega]; exact h10
      · exact ⟨a, Nat.le_refl _, h2, fun k k1 k2 => by omega, fun _ => h10⟩
    · exact ⟨a, Nat.le_refl _, h2, fun k k1 k2 => by omega, fun h => by omega⟩
theorem feeds_one {s : ByteArray} {a f g : Nat} (h : Feeds s a f) (h' : Feeds s a g) : f = g := by
  obtain ⟨f1, f2, f3, f4⟩ := h
  obtain ⟨g1, g2, g3, g4⟩ := h'
  rcases Nat.lt_trichotomy f g with h | h | h
  · exact absurd (g3 f f1 h) (f4 (by omega))
  · exact h
  · exact absurd (f3 g g1 h) (g4 (by omega))

/-- A record of lines. -/
def Blk (s : ByteArray) (b e : Nat) : Prop := b < e ∧ e ≤ s.size ∧ bt s b ≠ 10 ∧ bt s (e - 1) ≠ 10 ∧ ∀ k, b ≤ k → k + 1 < e → ¬ (bt s k = 10 ∧ bt s (k + 1) = 10)

theorem occ_two (l : List UInt8) (a b : UInt8) (j : Nat) : occAt l [a, b] j = true ↔ l[j]? = some a ∧ l[j + 1]? = some b := by
  unfold occAt
  have h0 : l[j]? = (l.drop j)[0]? := by rw [List.getElem?_drop]; rfl
  have h1 : l[j + 1]? = (l.drop j)[1]? := by rw [List.getElem?_drop]
  rw [h0, h1]
  generalize l.drop j = d
  match d with
  | [] => simp [List.isPrefixOf]
  | [x] => simp [List.isPrefixOf]
  | x :: y :: d =>
    show ((a == x) && ((b == y) && true)) = true ↔ some x = some a ∧ some y = some b
    rw [Bool.and_true, Bool.and_eq_true, beq_iff_eq, beq_iff_eq, Option.some.injEq, Option.some.injEq]
    exact ⟨fun h => ⟨h.1.symm, h.2.symm⟩, fun h => ⟨h.1.symm, h.2.symm⟩⟩

theorem occ_bt (s : ByteArray) (a j : Nat) : occAt (s.extract a s.size).data.toList [10, 10] j = true ↔ a + j + 1 < s.size ∧ bt s (a + j) = 10 ∧ bt s (a + j + 1) = 10 := by
  rw [occ_two, tail_list, List.getElem?_drop, List.getElem?_drop, ← Nat.add_assoc]
  constructor
  · rintro ⟨h1, h2⟩
    exact ⟨(bt_eq h2).1, (bt_eq h1).2, (bt_eq h2).2⟩
  · rintro ⟨h, h1, h2⟩
    rw [bt_list (by omega), bt_list h, h1, h2]
    exact ⟨rfl, rfl⟩

/-- A record that ends at empty lines. -/
theorem blk_some (s : ByteArray) (a i : Nat) (h0 : bt s a ≠ 10) (hi : occAt (s.extract a s.size).data.toList [10, 10] i = true) (hn : NoOcc (s.extract a s.size).data.toList [10, 10] i) :
    Blk s a (a + i) ∧ a + i + 2 ≤ s.size ∧ bt s (a + i) = 10 ∧ bt s (a + i + 1) = 10 := by
  obtain ⟨h1, h2, h3⟩ := (occ_bt s a i).1 hi
  have hno : ∀ k, a ≤ k → k < a + i → ¬ (bt s k = 10 ∧ bt s (k + 1) = 10) := by
    rintro k hk1 hk2 ⟨h4, h5⟩
    have h6 := hn (k - a) (by omega)
    rw [(occ_bt s a (k - a)).2 (by rw [show a + (k - a) = k from by omega]; exact ⟨by omega, h4, h5⟩)] at h6
    exact Bool.noConfusion h6
  have hpos : 0 < i := by
    rcases Nat.eq_zero_or_pos i with h | h
    · subst h; exact absurd h2 h0
    · exact h
  refine ⟨⟨by omega, by omega, h0, fun h => ?_, fun k hk1 hk2 => hno k hk1 (by omega)⟩, by omega, h2, h3⟩
  exact hno (a + i - 1) (by omega) (by omega) ⟨h, by rw [show a + i - 1 + 1 = a + i from by omega]; exact h2⟩

/-- A record that ends with the text. -/
theorem blk_none (s : ByteArray) (a : Nat) (ha : a < s.size) (h0 : bt s a ≠ 10) (hn : ∀ j, j ≤ (s.extract a s.size).data.toList.length → occAt (s.extract a s.size).data.toList [10, 10] j = false) :
    ∃ e, (⟨(Lib.trimSuffix (s.extract a s.size).data.toList [10]).toArray⟩ : ByteArray) = s.extract a e ∧ Blk s a e := by
  have hno : ∀ k, a ≤ k → k + 1 < s.size → ¬ (bt s k = 10 ∧ bt s (k + 1) = 10) := by
    rintro k hk1 hk2 ⟨h4, h5⟩
    have h6 := hn (k - a) (by rw [tail_list]; simp; omega)
    rw [(occ_bt s a (k - a)).2 (by rw [show a + (k - a) = k from by omega]; exact ⟨by omega, h4, h5⟩)] at h6
    exact Bool.noConfusion h6
  have hl : (s.extract a s.size).data.toList.length = s.size - a := by rw [tail_list]; simp
  have hlast : (s.extract a s.size).data.toList[s.size - a - 1]? = some (bt s (s.size - 1)) := by
    rw [tail_list, List.getElem?_drop, show a + (s.size - a - 1) = s.size - 1 from by omega]
    exact bt_list (by omega)
  by_cases hb : bt s (s.size - 1) = 10
  · have hne : (s.extract a s.size).data.toList ≠ [] := fun e => by rw [e] at hl; simp at hl; omega
    have hsuf : Lib.hasSuffix (s.extract a s.size).data.toList [10] = true := by
      unfold Lib.hasSuffix
      rw [List.isSuffixOf_iff_suffix]
      refine ⟨(s.extract a s.size).data.toList.dropLast, ?_⟩
      have h1 := List.dropLast_concat_getLast hne
      have h2 : (s.extract a s.size).data.toList.getLast hne = 10 := by
        rw [List.getLast_eq_getElem]
        have h3 := hlast
        rw [hb, List.getElem?_eq_some_iff] at h3
        obtain ⟨h4, h5⟩ := h3
        simp only [hl]
        exact h5
      rw [h2] at h1
      exact h1
    have hgt : a < s.size - 1 := by
      rcases Nat.lt_or_ge a (s.size - 1) with h | h
      · exact h
      · rw [show s.size - 1 = a from by omega] at hb
        exact absurd hb h0
    refine ⟨s.size - 1, ?_, hgt, by omega, h0, fun h => ?_, fun k hk1 hk2 => hno k hk1 (by omega)⟩
    · unfold Lib.trimSuffix
      rw [if_pos hsuf, hl]
      have h7 : ((s.extract a s.size).data.toList.take (s.size - a - 1)) = (s.extract a (s.size - 1)).data.toList := by
        rw [tail_list, Lib.extract_data, show s.size - a - 1 = s.size - 1 - a from by omega]
      rw [List.length_singleton, h7]
    · exact hno (s.size - 1 - 1) (by omega) (by omega) ⟨h, by rw [show s.size - 1 - 1 + 1 = s.size - 1 from by omega]; exact hb⟩
  · have hsuf : ¬ Lib.hasSuffix (s.extract a s.size).data.toList [10] = true := by
      unfold Lib.hasSuffix
      rw [List.isSuffixOf_iff_suffix]
      rintro ⟨t, ht⟩
      have h1 : t.length = s.size - a - 1 := by
        have := congrArg List.length ht
        rw [List.length_append, hl] at this
        simp at this; omega
      rw [← ht, List.getElem?_append_right (by omega), show s.size - a - 1 - t.length = 0 from by omega] at hlast
      simp at hlast
      exact hb hlast.symm
    refine ⟨s.size, ?_, ha, by omega, h0, hb, fun k hk1 hk2 => hno k hk1 hk2⟩
    unfold Lib.trimSuffix
    rw [if_neg hsuf]

/-- What a record is that a byte ends. -/
def OneRec (s : ByteArray) (c : UInt8) (a b e : Nat) : Prop := a ≤ b ∧ ((e = b + 1 ∧ b < s.size ∧ bt s b = c) ∨ (e = s.size ∧ b = s.size))
theorem index_byte (l : List UInt8) (c : UInt8) : Lib.indexByte l c = -1 ∨ ∃ i : Nat, Lib.indexByte l c = i ∧ l[i]? = some c := by
  induction l with
  | nil => exact Or.inl rfl
  | cons x l ih =>
    unfold Lib.indexByte
    by_cases h : x = c
    · subst h
      exact Or.inr ⟨0, by simp, by simp⟩
    · have hb : (x == c) = false := by simpa using h
      rw [hb]
      simp only [Bool.false_eq_true, if_false]
      rcases ih with h1 | ⟨i, h1, h2⟩
      · rw [h1]; exact Or.inl rfl
      · rw [h1]
        have hb1 : (((i : Nat) : Int) == -1) = false := beq_eq_false_iff_ne.2 (by omega)
        rw [hb1]
        exact Or.inr ⟨i + 1, by simp, by simpa using h2⟩
theorem one_rec (s : ByteArray) (c : UInt8) (a : Nat) (ha : a < s.size) :
    (Lib.indexByte (s.extract a s.size).data.toList c = -1 ∧ OneRec s c a s.size s.size) ∨ (∃ i : Nat, Lib.indexByte (s.extract a s.size).data.toList c = i ∧ OneRec s c a (a + i) (a + i + 1)) := by
  rcases index_byte (s.extract a s.size).data.toList c with h | ⟨i, h1, h2⟩
  · exact Or.inl ⟨h, by omega, Or.inr ⟨rfl, rfl⟩⟩
  · rw [tail_list, List.getElem?_drop] at h2
    have h3 := bt_eq h2
    exact Or.inr ⟨i, h1, by omega, Or.inl ⟨rfl, h3.1, h3.2⟩⟩
end Go.Proofs.YtcojnkjcbopnbaaGreatDoor
