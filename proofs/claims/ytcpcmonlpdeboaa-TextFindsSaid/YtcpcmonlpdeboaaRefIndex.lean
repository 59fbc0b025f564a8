/- Contract of the document's Index. -/
import Derived.Test.YtcpcmonlpdeboaaChars
import Derived.Test.YtcpcmonlpdeboaaBegins
import Derived.Test.YtcpcmonlpdeboaaFind
namespace Go.Proofs.Ytcpcmonlpdeboaa
open Go.RowKit

theorem hit_edge {s t : ByteArray} {p : Nat} (hp : p ≤ s.size) (h : hitB s t p = true) : ∃ i, i ≤ cnt s 0 ∧ adv s 0 i = p := by
  unfold hitB at h
  simp only [Bool.and_eq_true] at h
  exact edge_index (edge_of_edgeB s p hp h.2.1)

theorem idx_found {s t : ByteArray} {i : Nat} (hi : i < cnt s 0) (h : chs t 0 <+: (chs s 0).drop i) (hno : ∀ j, j < i → ¬ chs t 0 <+: (chs s 0).drop j) : IsIdx s t (i + 1) := by
  refine Or.inr ⟨i, rfl, by omega, (begins_iff s t i hi).1 h, fun p hp => ?_⟩
  cases hh : hitB s t p with
  | false => rfl
  | true =>
    exfalso
    have hle := adv_le s i 0 (Nat.zero_le _)
    obtain ⟨j, hj, rfl⟩ := hit_edge (by omega) hh
    have hji : j < i := by
      rcases Nat.lt_or_ge j i with h | h
      · exact h
      · have := adv_mono s 0 h; omega
    exact hno j hji ((begins_iff s t j (by omega)).2 hh)

theorem idx_none {s t : ByteArray} (ht : 0 < t.size) (hno : ∀ j, j < cnt s 0 → ¬ chs t 0 <+: (chs s 0).drop j) : IsIdx s t 0 := by
  refine Or.inl ⟨rfl, fun p hp => ?_⟩
  cases hh : hitB s t p with
  | false => rfl
  | true =>
    exfalso
    have hlt := hit_lt s t p hp ht hh
    obtain ⟨j, hj, rfl⟩ := hit_edge hp hh
    have hjc : j < cnt s 0 := by
      rcases Nat.lt_or_ge j (cnt s 0) with h | h
      · exact h
      · have := adv_cnt s 0 j (Nat.zero_le _) h; omega
    exact hno j hjc ((begins_iff s t j hjc).2 hh)

theorem idx_empty {s t : ByteArray} (ht : t.size = 0) : IsIdx s t 1 :=
  Or.inr ⟨0, rfl, Nat.zero_le _, hit_empty s t ht, fun _ hp => absurd hp (Nat.not_lt_zero _)⟩

theorem rds_drop {w : World} {b off n c : Nat} {l : List ByteArray} (h : RdS w (some ⟨b, off, none⟩) n c l) {i : Nat} (hi : i < n) : RdS w (some ⟨b, off + i, none⟩) (n - i) (c - i) (l.drop i) := by
  have hl := h.len
  have hc := h.cap
  refine ⟨by rw [List.length_drop]; omega, by omega, by have := h.big; omega, (fun e => by cases e), ?_⟩
  rcases h.cells with hc | ⟨b', o', hp, hlt, hc⟩
  · rw [hc] at hl; simp at hl; omega
  · injection hp with hp
    injection hp with hp1 hp2
    subst hp1; subst hp2
    refine Or.inr ⟨b, off + i, rfl, hlt, fun j hj => ?_⟩
    rw [List.length_drop] at hj
    rw [Nat.add_assoc, hc (i + j) (by omega), List.getElem_drop]

theorem empty_bytes {t : ByteArray} (h : t.size = 0) : t.toList.isEmpty = true := by
  rw [Lib.toList_data]
  have := Lib.size_eq t
  rw [List.eq_nil_of_length_eq_zero (show t.data.toList.length = 0 by omega)]
  rfl
theorem some_bytes {t : ByteArray} (h : 0 < t.size) : t.toList.isEmpty = false := by
  rw [Lib.toList_data]
  have := Lib.size_eq t
  cases hl : t.data.toList with
  | nil =>
    have h2 : t.data.toList.length = 0 := by rw [hl]; rfl
    omega
  | cons a l => rfl

set_option maxRecDepth 100000 in
set_option maxHeartbeats 2000000 in
theorem refIndex_any (s t : ByteArray) (hs : s.size ≤ 1048576) (ht : t.size ≤ 1048576) (w : World) :
    Calls Try.prog 17 #[.string s, .string t] w (IdxPost s t w) := by
  have RS := Lib.hid (fun w => refChars_any s hs w)
  have RT := Lib.hid (fun w => refChars_any t ht w)
  have hn1 := cnt_le s _ 0 (Nat.le_refl _)
  go_enter Try.func17, Try.ntmps17
  go_wp2_with fail
  refine (RS.out _).mono ?_
  rintro e w1 ⟨p, n, c, rfl, hr, hn, hb⟩
  have HR := Lib.hid hr; clear hr
  have HB := Lib.hid hb; clear hb
  have hnb : n ≤ 1048576 := by omega
  have HN := Lib.hid hn; clear hn hn1
  have hc1 := HR.out.cap
  have hc2 := HR.out.big
  go_wp2_with fail
  refine (RT.out _).mono ?_
  rintro e w2 ⟨q, n', c', rfl, hr2, hn2, hb2⟩
  have HR1 := Lib.hid (HR.out.below hb2)
  have HB2 := Lib.hid (Below.step HB.out hb2)
  have HR2 := Lib.hid hr2
  clear hr2 hn2 hb2 HR HB
  go_wp2_with fail
  go_loopw [7] (fun y wr => ∃ k : Nat, y = .int .i64 k ∧ k ≤ n ∧ Hid (∀ j, j < k → ¬ chs t 0 <+: (chs s 0).drop j) ∧ Hid (Below w2.heap.size w2 wr)) (fun y _ => n - (intOf y).toNat)
  case atStart => exact ⟨0, rfl, by omega, Lib.hid (fun j h => absurd h (Nat.not_lt_zero _)), Lib.hid (Below.refl _ _)⟩
  case round =>
    obtain ⟨k, rfl, hk, hno, hbel⟩ := hrel
    by_cases hlt : k < n
    · obtain ⟨b1, o1, x, rfl, _, _⟩ := HR1.out.at_ hlt
      have HD := Lib.hid (rds_drop (HR1.out.below hbel.out) hlt)
      have HT := Lib.hid (HR2.out.below hbel.out)
      have hck : ¬ c = k := by omega
      by_cases hpre : chs t 0 <+: (chs s 0).drop k
      · have C := Lib.hid (begins_yes _ _ _ _ _ _ _ _ wr HD.out HT.out hpre)
        have HI := Lib.hid (idx_found (show k < cnt s 0 by have := HN.out; omega) hpre hno.out)
        clear hpre
        go_wp2_with fail
        refine C.out.mono ?_
        rintro e w3 ⟨rfl, b3⟩
        have B3 := Lib.hid (Below.step (Below.step HB2.out hbel.out) b3); clear b3
        go_wp2_with fail
        go_ret
        exact ⟨k + 1, HI.out, rfl, B3.out⟩
      · have C := Lib.hid (begins_no _ _ _ _ _ _ _ _ wr HD.out HT.out hpre)
        have HI := Lib.hid (show ∀ j, j < k + 1 → ¬ chs t 0 <+: (chs s 0).drop j from fun j hj => by
          rcases Nat.lt_or_ge j k with h | h
          · exact hno.out j h
          · obtain rfl : j = k := by omega
            exact hpre)
        clear hpre
        go_wp2_with fail
        refine C.out.mono ?_
        rintro e w3 ⟨rfl, b3⟩
        have B3 := Lib.hid (Below.step hbel.out b3); clear b3
        go_wp2_with fail
        go_roundw
        case rel => exact ⟨k + 1, by go_num, by omega, HI, B3⟩
        case measure => simp [intOf]; omega
    · obtain rfl : k = n := by omega
      have HBB := Lib.hid (Below.step HB2.out hbel.out)
      rcases Nat.eq_zero_or_pos t.size with h0 | h0
      · have HI := Lib.hid (idx_empty (s := s) h0)
        have he := empty_bytes h0
        clear h0
        go_wp2_with fail
        go_ret
        exact ⟨1, HI.out, rfl, HBB.out⟩
      · have HI := Lib.hid (idx_none h0 (fun j hj => hno.out j (by rw [HN.out]; exact hj)))
        have he := some_bytes h0
        go_wp2_with fail
        go_ret
        exact ⟨0, HI.out, rfl, HBB.out⟩
end Go.Proofs.Ytcpcmonlpdeboaa
