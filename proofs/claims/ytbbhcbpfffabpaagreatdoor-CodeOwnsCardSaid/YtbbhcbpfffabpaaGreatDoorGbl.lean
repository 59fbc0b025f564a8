/- Merged by program: T2Find, T2RefIndex, C15T. -/
import Derived.Deep.DeepCutAuto
import Derived.Deep.CutBlock
import Derived.Test.YtbbhcbpfffabpaaGreatDoorGaf
import Derived.Test.YtbbhcbpfffabpaaGreatDoorGab
import Derived.Test.YtbbhcbpfffabpaaGreatDoorGag
import Derived.Test.YtbbhcbpfffabpaaGreatDoorGbk
import Derived.Test.YtbbhcbpfffabpaaGreatDoorGbj
/- Contracts of package text: isEdge, Index. -/
namespace Go.Proofs.YtbbhcbpfffabpaaGreatDoor.T2
open Go.Proofs.YtbbhcbpfffabpaaGreatDoor Go.Proofs
open Go.RowKit
open Go.Lib (occAt index index_spec NoOcc size_eq tail_size)

def EInv (s : ByteArray) (p b : Nat) : Prop := ∀ j, 1 ≤ j → j < b → edgeAt s p j = true

theorem edgeB_yes {s : ByteArray} {p b : Nat} (h : EInv s p b) (hb : 4 ≤ b ∨ p < b) : edgeB s p = true := by
  have far : ∀ j, p < j → edgeAt s p j = true := fun j hj => by
    unfold edgeAt; simp only [Bool.or_eq_true, decide_eq_true_eq]; exact Or.inl hj
  have all : ∀ j, 1 ≤ j → j < 4 → edgeAt s p j = true := fun j h1 h4 => by
    by_cases hj : j < b
    · exact h j h1 hj
    · exact far j (by omega)
  unfold edgeB
  rw [all 1 (by omega) (by omega), all 2 (by omega) (by omega), all 3 (by omega) (by omega)]
  rfl

theorem edgeB_no {s : ByteArray} {p b : Nat} (h1 : 1 ≤ b) (h4 : b < 4) (h : edgeAt s p b = false) : edgeB s p = false := by
  unfold edgeB
  have hb : b = 1 ∨ b = 2 ∨ b = 3 := by omega
  rcases hb with rfl | rfl | rfl <;> rw [h] <;> simp

theorem edgeAt_tail {s : ByteArray} {p b : Nat} (hb : b ≤ p) : edgeAt s p b = decide (adv (s.extract (p - b) s.size) 0 1 ≤ b) := by
  have h := tail_adv s (p - b) 1 0
  rw [Nat.add_zero] at h
  unfold edgeAt
  rw [Bool.eq_iff_iff]
  simp only [Bool.or_eq_true, decide_eq_true_eq]
  omega

set_option maxRecDepth 100000 in
set_option maxHeartbeats 400000 in
theorem isEdge_any (s : ByteArray) (p : Nat) (hs : s.size ≤ maxLen) (hp : p ≤ s.size) (w : World) :
    Calls Tryz.prog 40 #[.string s, .int .i64 p] w fun e w' => e = .returned (.bool (edgeB s p)) ∧ Below w.heap.size w w' := by
  have B := Lib.hid (fun a w => behind_any (s.extract a s.size) 1 (by rw [Lib.tail_size]; omega) (by omega) w)
  unfold maxLen at hs
  go_enter Tryz.func40, Tryz.ntmps40
  go_wp2_with fail
  go_loopw [5] (fun x wr => ∃ b : Nat, x = .int .i64 b ∧ 1 ≤ b ∧ b ≤ 4 ∧ Hid (EInv s p b) ∧ Hid (Below w.heap.size w wr)) (fun x _ => 4 - (intOf x).toNat)
  case atStart => exact ⟨1, rfl, by omega, by omega, Lib.hid (fun j h1 h2 => by omega), Lib.hid (Below.refl _ _)⟩
  case round =>
    obtain ⟨b, rfl, hb1, hb4, hinv, hbel⟩ := hrel
    by_cases h4 : b < 4
    · by_cases hbp : b ≤ p
      · obtain ⟨x, hx⟩ : ∃ x, x = adv (s.extract (p - b) s.size) 0 1 := ⟨_, rfl⟩
        have C := Lib.hid (show ∀ w, Calls Tryz.prog 71 #[.string (s.extract (p - b) s.size), .int .i64 1] w fun e w' => e = .returned (.int .i64 x) ∧ Below w.heap.size w w' from fun w => by rw [hx]; exact B.out (p - b) w)
        have HE := Lib.hid (show edgeAt s p b = decide (x ≤ b) from by rw [hx]; exact edgeAt_tail hbp)
        have hxl : x ≤ s.size - (p - b) := by rw [hx, ← tail_size]; exact adv_le _ 1 0 (Nat.zero_le _)
        clear hx
        by_cases hxb : x ≤ b
        · have HN := Lib.hid (show EInv s p (b + 1) from fun j h1 h2 => by
            rcases Nat.lt_or_ge j b with h | h
            · exact hinv.out j h1 h
            · obtain rfl : j = b := by omega
              rw [HE.out]; simpa using hxb)
          go_wp2_with fail
          refine (C.out _).mono ?_
          rintro e w1 ⟨rfl, b1⟩
          have B1 := Lib.hid (Below.step hbel.out b1); clear b1
          go_wp2_with fail
          go_roundw
          case rel => exact ⟨b + 1, by go_num, by omega, by omega, HN, B1⟩
          case measure => simp [intOf]; omega
        · have HN := Lib.hid (edgeB_no hb1 h4 (by rw [HE.out]; simpa using hxb))
          go_wp2_with fail
          refine (C.out _).mono ?_
          rintro e w1 ⟨rfl, b1⟩
          have B1 := Lib.hid (Below.step hbel.out b1); clear b1
          go_wp2_with fail
          go_ret
          exact ⟨by rw [HN.out]; rfl, B1.out⟩
      · have HE := Lib.hid (edgeB_yes hinv.out (Or.inr (by omega)))
        go_wp2_with fail
        go_ret
        exact ⟨by rw [HE.out]; rfl, hbel.out⟩
    · have HE := Lib.hid (edgeB_yes hinv.out (Or.inl (by omega)))
      go_wp2_with fail
      go_ret
      exact ⟨by rw [HE.out]; rfl, hbel.out⟩

/-! ### Index -/
theorem occ_tail (s t : ByteArray) (a i : Nat) : occAt (s.extract a s.size).data.toList t.data.toList i = occAt s.data.toList t.data.toList (a + i) := by
  unfold occAt
  rw [Lib.extract_data, List.take_of_length_le (by rw [List.length_drop, ← size_eq]; omega), List.drop_drop]

theorem miss_of_occ {s t : ByteArray} {p : Nat} (h : occAt s.data.toList t.data.toList p = false) : hitB s t p = false := by
  unfold hitB; rw [h]; rfl

theorem edge_index {s : ByteArray} {p : Nat} (h : Edge s p) : ∃ i, i ≤ cnt s 0 ∧ adv s 0 i = p := by
  obtain ⟨k, hk⟩ := h
  rcases Nat.lt_or_ge (cnt s 0) k with h | h
  · exact ⟨cnt s 0, Nat.le_refl _, by rw [adv_cnt s 0 _ (Nat.zero_le _) (Nat.le_refl _), ← hk, adv_cnt s 0 k (Nat.zero_le _) (by omega)]⟩
  · exact ⟨k, h, hk⟩

/-- What the search in the rest says: nothing, or the next place. -/
theorem next_cases (s t : ByteArray) (a : Nat) (ha : a ≤ s.size) (hno : ∀ p, p < a → hitB s t p = false) :
    (index (s.extract a s.size).data.toList t.data.toList = -1 ∧ IsIdx s t 0) ∨
    (∃ i : Nat, index (s.extract a s.size).data.toList t.data.toList = i ∧ a + i + t.size ≤ s.size ∧ (∀ p, p < a + i → hitB s t p = false) ∧
      hitB s t (a + i) = (edgeB s (a + i) && edgeB s (a + i + t.size))) := by
  rcases index_spec (s.extract a s.size).data.toList t.data.toList with ⟨h1, h2⟩ | ⟨i, h1, h2, h3, h4⟩
  · refine Or.inl ⟨h1, Or.inl ⟨rfl, fun p hp => ?_⟩⟩
    rcases Nat.lt_or_ge p a with h | h
    · exact hno p h
    · have := h2 (p - a) (by rw [← size_eq, tail_size]; omega)
      rw [occ_tail, show a + (p - a) = p from by omega] at this
      exact miss_of_occ this
  · rw [← size_eq, tail_size] at h2
    rw [occ_tail] at h3
    refine Or.inr ⟨i, h1, occ_room (by omega) h3, fun p hp => ?_, by unfold hitB; rw [h3]; rfl⟩
    rcases Nat.lt_or_ge p a with h | h
    · exact hno p h
    · have := h4 (p - a) (by omega)
      rw [occ_tail, show a + (p - a) = p from by omega] at this
      exact miss_of_occ this

theorem hit_idx {s t : ByteArray} {p : Nat} (hp : p ≤ s.size) (h : hitB s t p = true) (hno : ∀ q, q < p → hitB s t q = false) : IsIdx s t (cnt (s.extract 0 p) 0 + 1) := by
  have he : edgeB s p = true := by
    unfold hitB at h; simp only [Bool.and_eq_true] at h; exact h.2.1
  obtain ⟨i, hi, rfl⟩ := edge_index (edge_of_edgeB s p hp he)
  rw [cnt_head s i hi]
  exact Or.inr ⟨i, rfl, hi, h, hno⟩

/-- No hit: there is more to look at. -/
theorem miss_more {s t : ByteArray} {p : Nat} (hroom : p + t.size ≤ s.size) (h : hitB s t p = false) (hno : ∀ q, q < p → hitB s t q = false) : p < s.size := by
  rcases Nat.eq_zero_or_pos t.size with h0 | h0
  · exfalso
    have h1 := hit_empty s t h0
    rcases Nat.eq_zero_or_pos p with rfl | hp
    · rw [h1] at h; cases h
    · have := hno 0 hp
      rw [h1] at this; cases this
  · omega

def IdxPost (s t : ByteArray) (w : World) (e : Ending) (w' : World) : Prop := ∃ n : Nat, IsIdx s t n ∧ e = .returned (.int .i64 n) ∧ Below w.heap.size w w'

theorem cell_size {w : World} {v : Value} (hm : w.cell? ⟨0, 0, none⟩ = some v) : 0 < w.heap.size := by
  rcases Nat.eq_zero_or_pos w.heap.size with h | h
  · exfalso
    have : w.heap[0]? = none := Array.getElem?_eq_none (by omega)
    simp [World.cell?, this] at hm
  · exact h

set_option maxRecDepth 100000 in
set_option maxHeartbeats 1000000 in
theorem index_any (s t : ByteArray) (m : Int) (hs : s.size < 4294967281) (ht : t.size < 4294967281) (w : World) (hm : w.cell? ⟨0, 0, none⟩ = some (.int .i64 m)) :
    Calls Tryz.prog 14 #[.string s, .string t] w (IdxPost s t w) := by
  have hs' : s.size ≤ maxLen := by simp only [maxLen]; omega
  have h0 := cell_size hm
  have SI := Lib.hid (fun a wr (hb : Below w.heap.size w wr) => Tryz.strings_Index (s.extract a s.size) t m wr (by rw [tail_size]; omega) ((hb.cell (p := ⟨0, 0, none⟩) h0).trans hm))
  have IE := Lib.hid (fun p hp w => isEdge_any s p hs' hp w)
  have LN := Lib.hid (fun p w => len_any (s.extract 0 p) (by rw [ByteArray.size_extract]; omega) w)
  clear hm h0 hs'
  go_enter Tryz.func14, Tryz.ntmps14
  go_wp2_with fail
  go_loopw [5] (fun x wr => ∃ a : Nat, x = .int .i64 a ∧ a ≤ s.size ∧ Hid (∀ p, p < a → hitB s t p = false) ∧ Hid (Below w.heap.size w wr)) (fun x _ => s.size - (intOf x).toNat)
  case atStart => exact ⟨0, rfl, by omega, Lib.hid (fun p h => by omega), Lib.hid (Below.refl _ _)⟩
  case round =>
    obtain ⟨a, rfl, ha, hno, hbel⟩ := hrel
    have SA := Lib.hid (SI.out a wr hbel.out)
    rcases next_cases s t a ha hno.out with ⟨h1, h2⟩ | ⟨i, h1, h2, h3, h4⟩
    · rw [h1] at SA
      have H2 := Lib.hid h2; clear h1 h2
      go_wp2_with fail
      refine (SA.out).mono ?_
      rintro e w1 ⟨rfl, rfl⟩
      go_wp2_with fail
      go_ret
      exact ⟨0, H2.out, rfl, hbel.out⟩
    · rw [h1] at SA
      have H3 := Lib.hid h3; clear h1 h3
      have H4 := Lib.hid h4; clear h4
      have hi : a + i ≤ s.size := by omega
      cases h5 : edgeB s (a + i)
      · have hmiss : hitB s t (a + i) = false := by rw [H4.out, h5]; rfl
        have hmore := miss_more h2 hmiss H3.out
        have HM := Lib.hid hmiss; clear hmiss
        have E1 := Lib.hid (IE.out (a + i) hi); rw [h5] at E1; clear h5
        go_wp2_with fail
        refine (SA.out).mono ?_
        rintro e w1 ⟨rfl, rfl⟩
        go_wp2_with fail
        refine (E1.out _).mono ?_
        rintro e w1 ⟨rfl, b1⟩
        have B1 := Lib.hid (Below.step hbel.out b1); clear b1
        go_wp2_with fail
        go_roundw
        case rel =>
          refine ⟨a + i + 1, by go_num, by omega, Lib.hid (fun p hp => ?_), B1⟩
          rcases Nat.lt_or_ge p (a + i) with h | h
          · exact H3.out p h
          · obtain rfl : p = a + i := by omega
            exact HM.out
        case measure => simp [intOf]; omega
      · have E1 := Lib.hid (IE.out (a + i) hi); rw [h5] at E1
        cases h6 : edgeB s (a + i + t.size)
        · have hmiss : hitB s t (a + i) = false := by rw [H4.out, h6]; simp
          have hmore := miss_more h2 hmiss H3.out
          have HM := Lib.hid hmiss; clear hmiss
          have E2 := Lib.hid (IE.out (a + i + t.size) h2); rw [h6] at E2; clear h5 h6
          go_wp2_with fail
          refine (SA.out).mono ?_
          rintro e w1 ⟨rfl, rfl⟩
          go_wp2_with fail
          refine (E1.out _).mono ?_
          rintro e w1 ⟨rfl, b1⟩
          have B1 := Lib.hid (Below.step hbel.out b1); clear b1
          go_wp2_with fail
          refine (E2.out _).mono ?_
          rintro e w2 ⟨rfl, b2⟩
          have B2 := Lib.hid (Below.step B1.out b2); clear b2
          go_wp2_with fail
          go_roundw
          case rel =>
            refine ⟨a + i + 1, by go_num, by omega, Lib.hid (fun p hp => ?_), B2⟩
            rcases Nat.lt_or_ge p (a + i) with h | h
            · exact H3.out p h
            · obtain rfl : p = a + i := by omega
              exact HM.out
          case measure => simp [intOf]; omega
        · have hhit : hitB s t (a + i) = true := by rw [H4.out, h5, h6]; rfl
          have HI := Lib.hid (hit_idx hi hhit H3.out)
          have E2 := Lib.hid (IE.out (a + i + t.size) h2); rw [h6] at E2; clear h5 h6 hhit
          have LA := Lib.hid (LN.out (a + i))
          obtain ⟨n, hn⟩ : ∃ n, n = cnt (s.extract 0 (a + i)) 0 := ⟨_, rfl⟩
          have hnl : n ≤ s.size := by
            have := cnt_le (s.extract 0 (a + i)) _ 0 (Nat.le_refl _)
            rw [head_size s _ hi] at this; omega
          rw [← hn] at LA HI
          clear hn
          go_wp2_with fail
          refine (SA.out).mono ?_
          rintro e w1 ⟨rfl, rfl⟩
          go_wp2_with fail
          refine (E1.out _).mono ?_
          rintro e w1 ⟨rfl, b1⟩
          have B1 := Lib.hid (Below.step hbel.out b1); clear b1
          go_wp2_with fail
          refine (E2.out _).mono ?_
          rintro e w2 ⟨rfl, b2⟩
          have B2 := Lib.hid (Below.step B1.out b2); clear b2
          go_wp2_with fail
          refine (LA.out _).mono ?_
          rintro e w3 ⟨rfl, b3⟩
          have B3 := Lib.hid (Below.step B2.out b3); clear b3
          go_wp2_with fail
          go_ret
          exact ⟨n + 1, HI.out, rfl, B3.out⟩

end Go.Proofs.YtbbhcbpfffabpaaGreatDoor.T2

/- Contract of the document's Index. -/
namespace Go.Proofs.YtbbhcbpfffabpaaGreatDoor.T2
open Go.Proofs.YtbbhcbpfffabpaaGreatDoor Go.Proofs
open Go.RowKit

theorem hit_edge {s t : ByteArray} {p : Nat} (hp : p ≤ s.size) (h : hitB s t p = true) : ∃ i, i ≤ cnt s 0 ∧ adv s 0 i = p := by
  unfold hitB at h
  simp only [Bool.and_eq_true] at h
  exact edge_index (edge_of_edgeB s p hp h.2.1)

theorem idx_found {s t : ByteArray} {i : Nat} (hi : i < cnt s 0) (h : chs t 0 <+: (chs s 0).drop i) (hno : ∀ j, j < i → ¬ chs t 0 <+: (chs s 0).drop j) : IsIdx s t (i + 1) := by
  refine Or.inr ⟨i, rfl, by omega, (begins_iff s t i hi).1 h, fun p hp => ?_⟩
  cases hh : hitB s t p with
  | false => rfl
  | true =>
    exfalso
    have hle := adv_le s i 0 (Nat.zero_le _)
    obtain ⟨j, hj, rfl⟩ := hit_edge (by omega) hh
    have hji : j < i := by
      rcases Nat.lt_or_ge j i with h | h
      · exact h
      · have := adv_mono s 0 h; omega
    exact hno j hji ((begins_iff s t j (by omega)).2 hh)

theorem idx_none {s t : ByteArray} (ht : 0 < t.size) (hno : ∀ j, j < cnt s 0 → ¬ chs t 0 <+: (chs s 0).drop j) : IsIdx s t 0 := by
  refine Or.inl ⟨rfl, fun p hp => ?_⟩
  cases hh : hitB s t p with
  | false => rfl
  | true =>
    exfalso
    have hlt := hit_lt s t p hp ht hh
    obtain ⟨j, hj, rfl⟩ := hit_edge hp hh
    have hjc : j < cnt s 0 := by
      rcases Nat.lt_or_ge j (cnt s 0) with h | h
      · exact h
      · have := adv_cnt s 0 j (Nat.zero_le _) h; omega
    exact hno j hjc ((begins_iff s t j hjc).2 hh)

theorem idx_empty {s t : ByteArray} (ht : t.size = 0) : IsIdx s t 1 :=
  Or.inr ⟨0, rfl, Nat.zero_le _, hit_empty s t ht, fun _ hp => absurd hp (Nat.not_lt_zero _)⟩

theorem rds_drop {w : World} {b off n c : Nat} {l : List ByteArray} (h : RdS w (some ⟨b, off, none⟩) n c l) {i : Nat} (hi : i < n) : RdS w (some ⟨b, off + i, none⟩) (n - i) (c - i) (l.drop i) := by
  have hl := h.len
  have hc := h.cap
  refine ⟨by rw [List.length_drop]; omega, by omega, by have := h.big; omega, (fun e => by cases e), ?_⟩
  rcases h.cells with hc | ⟨b', o', hp, hlt, hc⟩
  · rw [hc] at hl; simp at hl; omega
  · injection hp with hp
    injection hp with hp1 hp2
    subst hp1; subst hp2
    refine Or.inr ⟨b, off + i, rfl, hlt, fun j hj => ?_⟩
    rw [List.length_drop] at hj
    rw [Nat.add_assoc, hc (i + j) (by omega), List.getElem_drop]

theorem empty_bytes {t : ByteArray} (h : t.size = 0) : t.toList.isEmpty = true := by
  rw [Lib.toList_data]
  have := Lib.size_eq t
  rw [List.eq_nil_of_length_eq_zero (show t.data.toList.length = 0 by omega)]
  rfl
theorem some_bytes {t : ByteArray} (h : 0 < t.size) : t.toList.isEmpty = false := by
  rw [Lib.toList_data]
  have := Lib.size_eq t
  cases hl : t.data.toList with
  | nil =>
    have h2 : t.data.toList.length = 0 := by rw [hl]; rfl
    omega
  | cons a l => rfl

set_option maxRecDepth 100000 in
set_option maxHeartbeats 2000000 in
theorem refIndex_any (s t : ByteArray) (hs : s.size ≤ 1048576) (ht : t.size ≤ 1048576) (w : World) :
    Calls Tryz.prog 25 #[.string s, .string t] w (IdxPost s t w) := by
  have RS := Lib.hid (fun w => refChars_any s hs w)
  have RT := Lib.hid (fun w => refChars_any t ht w)
  have hn1 := cnt_le s _ 0 (Nat.le_refl _)
  go_enter Tryz.func25, Tryz.ntmps25
  go_wp2_with fail
  refine (RS.out _).mono ?_
  rintro e w1 ⟨p, n, c, rfl, hr, hn, hb⟩
  have HR := Lib.hid hr; clear hr
  have HB := Lib.hid hb; clear hb
  have hnb : n ≤ 1048576 := by omega
  have HN := Lib.hid hn; clear hn hn1
  have hc1 := HR.out.cap
  have hc2 := HR.out.big
  go_wp2_with fail
  refine (RT.out _).mono ?_
  rintro e w2 ⟨q, n', c', rfl, hr2, hn2, hb2⟩
  have HR1 := Lib.hid (HR.out.below hb2)
  have HB2 := Lib.hid (Below.step HB.out hb2)
  have HR2 := Lib.hid hr2
  clear hr2 hn2 hb2 HR HB
  go_wp2_with fail
  go_loopw [7] (fun y wr => ∃ k : Nat, y = .int .i64 k ∧ k ≤ n ∧ Hid (∀ j, j < k → ¬ chs t 0 <+: (chs s 0).drop j) ∧ Hid (Below w2.heap.size w2 wr)) (fun y _ => n - (intOf y).toNat)
  case atStart => exact ⟨0, rfl, by omega, Lib.hid (fun j h => absurd h (Nat.not_lt_zero _)), Lib.hid (Below.refl _ _)⟩
  case round =>
    obtain ⟨k, rfl, hk, hno, hbel⟩ := hrel
    by_cases hlt : k < n
    · obtain ⟨b1, o1, x, rfl, _, _⟩ := HR1.out.at_ hlt
      have HD := Lib.hid (rds_drop (HR1.out.below hbel.out) hlt)
      have HT := Lib.hid (HR2.out.below hbel.out)
      have hck : ¬ c = k := by omega
      by_cases hpre : chs t 0 <+: (chs s 0).drop k
      · have C := Lib.hid (begins_yes _ _ _ _ _ _ _ _ wr HD.out HT.out hpre)
        have HI := Lib.hid (idx_found (show k < cnt s 0 by have := HN.out; omega) hpre hno.out)
        clear hpre
        go_wp2_with fail
        refine C.out.mono ?_
        rintro e w3 ⟨rfl, b3⟩
        have B3 := Lib.hid (Below.step (Below.step HB2.out hbel.out) b3); clear b3
        go_wp2_with fail
        go_ret
        exact ⟨k + 1, HI.out, rfl, B3.out⟩
      · have C := Lib.hid (begins_no _ _ _ _ _ _ _ _ wr HD.out HT.out hpre)
        have HI := Lib.hid (show ∀ j, j < k + 1 → ¬ chs t 0 <+: (chs s 0).drop j from fun j hj => by
          rcases Nat.lt_or_ge j k with h | h
          · exact hno.out j h
          · obtain rfl : j = k := by omega
            exact hpre)
        clear hpre
        go_wp2_with fail
        refine C.out.mono ?_
        rintro e w3 ⟨rfl, b3⟩
        have B3 := Lib.hid (Below.step hbel.out b3); clear b3
        go_wp2_with fail
        go_roundw
        case rel => exact ⟨k + 1, by go_num, by omega, HI, B3⟩
        case measure => simp [intOf]; omega
    · obtain rfl : k = n := by omega
      have HBB := Lib.hid (Below.step HB2.out hbel.out)
      rcases Nat.eq_zero_or_pos t.size with h0 | h0
      · have HI := Lib.hid (idx_empty (s := s) h0)
        have he := empty_bytes h0
        clear h0
        go_wp2_with fail
        go_ret
        exact ⟨1, HI.out, rfl, HBB.out⟩
      · have HI := Lib.hid (idx_none h0 (fun j hj => hno.out j (by rw [HN.out]; exact hj)))
        have he := some_bytes h0
        go_wp2_with fail
        go_ret
        exact ⟨0, HI.out, rfl, HBB.out⟩
end Go.Proofs.YtbbhcbpfffabpaaGreatDoor.T2

/- The document's Own of layer 15: what the functions below it answer. -/
namespace Go.Proofs.YtbbhcbpfffabpaaGreatDoor
open Go.RowKit T3

open Classical in
/-- Where a text stands in another one first. -/
noncomputable def idxN (s t : ByteArray) : Nat := if h : ∃ n, T2.IsIdx s t n then Classical.choose h else 0
theorem idxN_of {s t : ByteArray} {n : Nat} (h : T2.IsIdx s t n) : idxN s t = n := by
  have hx : ∃ n, T2.IsIdx s t n := ⟨n, h⟩
  unfold idxN
  rw [dif_pos hx]
  exact T2.idx_unique (Classical.choose_spec hx) h
theorem idxN_le (s t : ByteArray) : idxN s t ≤ s.size + 1 := by
  unfold idxN
  split
  · rename_i hx
    have h := Classical.choose_spec hx
    generalize Classical.choose hx = n at h
    unfold T2.IsIdx at h
    rcases h with ⟨h, _⟩ | ⟨i, h, hi, _⟩
    · omega
    · have := T2.cnt_le s _ 0 (Nat.le_refl _)
      omega
  · omega

noncomputable def ownRef : OwnRef where
  chars s := T2.cnt s 0
  index s t := (idxN s t : Int)
  low s := T2.shS 65 97 s
  up s := T2.shS 97 65 s
  sub s f m := T2.subB s f m
  whole n := T1.back (n * 1000000)
  int n := n.tdiv 1000000 * 1000000
  num c := numL c.k c.n c.s
  count c := if (numL c.k c.n c.s).2 = 0 then ((numL c.k c.n c.s).1.tdiv 1000000, 0) else (0, (numL c.k c.n c.s).2)
  form f l := doL f.data.toList l

theorem ownRefOk : OwnRefOk ownRef where
  chars s w hs := (T2.refChars_any s (by omega) w).mono fun e w' h => by
    obtain ⟨p, n, c, rfl, _, rfl, hb⟩ := h
    exact ⟨p, c, rfl, hb⟩
  charsLe s hs := by
    have := T2.cnt_le s _ 0 (Nat.le_refl _)
    show T2.cnt s 0 ≤ 300
    omega
  index s t w hs ht := (T2.refIndex_any s t (by omega) (by omega) w).mono fun e w' h => by
    obtain ⟨n, hn, rfl, hb⟩ := h
    refine ⟨?_, hb⟩
    show _ = Ending.returned (.int .i64 (idxN s t : Int))
    rw [idxN_of hn]
  indexFits s t hs ht := by
    have := idxN_le s t
    show Fits (idxN s t : Int)
    unfold Fits
    omega
  low s w hs := T2.refShift_low s (by omega) w
  up s w hs := T2.refShift_up s (by omega) w
  sub s f m w hs hf hm := T2.refSub_any s f m (by omega) (by unfold Fits at hf; omega) (by unfold Fits at hm; omega) w
  whole n w hn := T1.refWhole_any n w hn
  int n w hn := T1.refInt_any n w hn
  num c w hn hs := refNumZ_any c.k c.n c.s hs w
  numFits c hn := numL_fits c.k c.n c.s hn
  count c w hn hs := (refCountZ_any c.k c.n c.s hn hs w).mono fun e w' h => by
    refine ⟨?_, h.2⟩
    rw [h.1]
    show Ending.returned (countF (numL c.k c.n c.s)) = _
    unfold countF ownRef
    dsimp only
    split <;> rfl
  countFits c hn := by
    show Fits (if (numL c.k c.n c.s).2 = 0 then ((numL c.k c.n c.s).1.tdiv 1000000, (0 : Int)) else (0, (numL c.k c.n c.s).2)).1
    have h := tdiv_fits _ (numL_fits c.k c.n c.s hn)
    split
    · unfold Fits; exact h
    · unfold Fits; omega
  form f l p n cap w hf hl hC := refDo_any f (by omega) l p n cap w hC (fun c hc => ⟨(hl c hc).1, (hl c hc).2⟩)
end Go.Proofs.YtbbhcbpfffabpaaGreatDoor
