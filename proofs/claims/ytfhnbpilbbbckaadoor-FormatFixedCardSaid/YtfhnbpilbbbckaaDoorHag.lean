/- Merged by program: T2Edge, T2Text. -/
import Derived.Test.YtfhnbpilbbbckaaDoorRows
import Derived.WalkKit
import Derived.WalkSpells
import Derived.WalkLawsBesides
import Derived.Lib.Hide
import Derived.LoopTactic
import Derived.Laws.RangeAny
import Derived.Test.YtfhnbpilbbbckaaDoorHaf
/- Where characters begin and end, and where a text stands in another one, character by character. Plain: no program. -/
namespace Go.Proofs.YtfhnbpilbbbckaaDoor.T2
open Go.Proofs.YtfhnbpilbbbckaaDoor Go.Proofs
open Go.Lib

/-- A place is one where a character begins, or the end. -/
def Edge (s : ByteArray) (p : Nat) : Prop := ∃ k, adv s 0 k = p

/-- Does no character of several bytes that begins up to three bytes ahead reach beyond the place? -/
def edgeAt (s : ByteArray) (p back : Nat) : Bool := decide (p < back) || decide (adv s (p - back) 1 ≤ p)
def edgeB (s : ByteArray) (p : Nat) : Bool := edgeAt s p 1 && edgeAt s p 2 && edgeAt s p 3

theorem edge_of_edgeB (s : ByteArray) (p : Nat) (hp : p ≤ s.size) (h : edgeB s p = true) : Edge s p := by
  by_cases he : p = s.size
  · exact ⟨s.size, by rw [he]; exact adv_full s 0 _ (Nat.zero_le _) (by omega)⟩
  by_cases h0 : p = 0
  · exact ⟨0, by rw [h0]; rfl⟩
  obtain ⟨k, h1, h2⟩ := adv_locate s p 0 p (by omega) (Nat.zero_le _) (by omega)
  by_cases hk : adv s 0 k = p
  · exact ⟨k, hk⟩
  exfalso
  have hs : adv s 0 k < s.size := by omega
  rw [adv_succ, adv_one hs] at h2
  have h4 := cw_four hs
  unfold edgeB at h
  simp only [Bool.and_eq_true] at h
  have hat : edgeAt s p (p - adv s 0 k) = true := by
    have hj : p - adv s 0 k = 1 ∨ p - adv s 0 k = 2 ∨ p - adv s 0 k = 3 := by omega
    rcases hj with e | e | e <;> rw [e]
    · exact h.1.1
    · exact h.1.2
    · exact h.2
  unfold edgeAt at hat
  simp only [Bool.or_eq_true, decide_eq_true_eq] at hat
  rw [show p - (p - adv s 0 k) = adv s 0 k from by omega, adv_one hs] at hat
  omega

theorem edgeB_of_edge (s : ByteArray) (p : Nat) (hp : p ≤ s.size) (h : Edge s p) : edgeB s p = true := by
  obtain ⟨m, hm⟩ := h
  have all : ∀ back, 0 < back → edgeAt s p back = true := by
    intro back hb
    unfold edgeAt
    simp only [Bool.or_eq_true, decide_eq_true_eq]
    by_cases hlt : p < back
    · exact Or.inl hlt
    refine Or.inr ?_
    have hr : p - back < s.size := by omega
    rw [adv_one hr]
    by_cases hw : p - back + cw s (p - back) ≤ p
    · exact hw
    exfalso
    have hlead := cw_lead (s := s) (p := p - back) (by omega)
    obtain ⟨k, h1, h2⟩ := adv_locate s (p - back) 0 (p - back) (by omega) (Nat.zero_le _) hr
    have hs : adv s 0 k < s.size := by omega
    by_cases hq : adv s 0 k = p - back
    · have hk1 : adv s 0 (k + 1) = p - back + cw s (p - back) := by rw [adv_succ, hq, adv_one hr]
      rcases Nat.lt_or_ge k m with hkm | hkm
      · have := adv_mono s 0 (show k + 1 ≤ m from hkm)
        omega
      · have := adv_mono s 0 hkm
        omega
    · rw [adv_succ, adv_one hs] at h2
      have := cw_cont (s := s) (p := adv s 0 k) (j := p - back - adv s 0 k) hs (by omega) (by omega)
      rw [show adv s 0 k + (p - back - adv s 0 k) = p - back from by omega] at this
      omega
  unfold edgeB
  rw [all 1 (by omega), all 2 (by omega), all 3 (by omega)]
  rfl

/-! ### A text in another one -/
/-- Does t stand at p, from edge to edge? -/
def hitB (s t : ByteArray) (p : Nat) : Bool := occAt s.data.toList t.data.toList p && (edgeB s p && edgeB s (p + t.size))

theorem occ_room {s t : ByteArray} {p : Nat} (hp : p ≤ s.size) (h : occAt s.data.toList t.data.toList p = true) : p + t.size ≤ s.size := by
  unfold occAt at h
  rw [List.isPrefixOf_iff_prefix] at h
  have := h.length_le
  rw [List.length_drop, ← size_eq, ← size_eq] at this
  omega

theorem occ_part {s t : ByteArray} {p : Nat} (h : occAt s.data.toList t.data.toList p = true) : s.extract p (p + t.size) = t := by
  unfold occAt at h
  rw [List.isPrefixOf_iff_prefix, List.prefix_iff_eq_take] at h
  apply bytes_ext
  rw [extract_data, show p + t.size - p = t.size from by omega, size_eq]
  exact h.symm

theorem occ_of_part {s t : ByteArray} {p : Nat} (h : s.extract p (p + t.size) = t) : occAt s.data.toList t.data.toList p = true := by
  unfold occAt
  rw [List.isPrefixOf_iff_prefix, List.prefix_iff_eq_take, ← size_eq]
  rw [← congrArg (fun u : ByteArray => u.data.toList) h, extract_data, show p + t.size - p = t.size from by omega]

/-- The characters of a part from edge to edge are the text's own. -/
theorem chs_part (s : ByteArray) (p e : Nat) (he : e ≤ s.size) (hed : ∃ k, adv s p k = e) : ∀ (n q : Nat), e - (p + q) ≤ n → p + q ≤ e → (∃ k, adv s p k = p + q) →
    ∀ i, i < cnt (s.extract p e) q → (chs (s.extract p e) q)[i]? = (chs s (p + q))[i]? ∧ i < cnt s (p + q)
  | n, q, hn, hq, hqe, i, hi => by
    have hsz := part_size s p e he
    by_cases h : q < (s.extract p e).size
    · have hs : p + q < s.size := by omega
      have hw : p + q + cw s (p + q) ≤ e := by
        obtain ⟨k, hk⟩ := hqe
        obtain ⟨m, hm⟩ := hed
        have hkm : k + 1 ≤ m := by
          rcases Nat.lt_or_ge k m with hkm | hkm
          · exact hkm
          · have := adv_mono s p hkm; omega
        have h1 := adv_mono s p hkm
        rw [adv_succ, hk, adv_one hs] at h1
        omega
      have hpe : s.extract p e = (s.extract p s.size).extract 0 (e - p) := by
        rw [part_part s p s.size 0 (e - p) (by omega), Nat.add_zero, show p + (e - p) = e from by omega]
      have hcw : cw (s.extract p e) q = cw s (p + q) := by
        rw [hpe, head_cw _ _ _ (by rw [tail_size]; omega) (by omega), tail_cw, if_pos (by omega)]
      cases n with
      | zero => omega
      | succ n =>
        have hp1 := cw_pos s (p + q)
        rw [chs_step h, chs_step hs, hcw]
        rw [cnt_step h, hcw] at hi
        have hnext : ∃ k, adv s p k = p + (q + cw s (p + q)) := by
          obtain ⟨k, hk⟩ := hqe
          exact ⟨k + 1, by rw [adv_succ, hk, adv_one hs, Nat.add_assoc]⟩
        cases i with
        | zero =>
          refine ⟨?_, by rw [cnt_step hs]; omega⟩
          simp only [List.getElem?_cons_zero]
          rw [part_part s p e q (q + cw s (p + q)) (by omega), Nat.add_assoc]
        | succ i =>
          obtain ⟨h1, h2⟩ := chs_part s p e he hed n (q + cw s (p + q)) (by omega) (by omega) hnext i (by omega)
          rw [← Nat.add_assoc] at h1 h2
          refine ⟨by simpa using h1, by rw [cnt_step hs]; omega⟩
    · rw [cnt_end h] at hi; omega

/-- Characters joined are the part that they go through. -/
def joinB : List ByteArray → ByteArray
  | [] => ⟨#[]⟩
  | a :: l => a ++ joinB l

theorem join_take (s : ByteArray) : ∀ (k p : Nat), p ≤ s.size → joinB ((chs s p).take k) = s.extract p (adv s p k)
  | 0, p, _ => by rw [part_none s p (adv s p 0) (Nat.le_refl _)]; rfl
  | k + 1, p, hp => by
    by_cases h : p < s.size
    · rw [chs_step h, List.take_succ_cons, adv_step h]
      show s.extract p (p + cw s p) ++ joinB _ = _
      have hw := cw_le h
      rw [join_take s k _ hw]
      exact part_join s _ _ _ (by omega) (adv_ge s k _)
    · rw [chs_end h, adv_end h, part_none s p p (Nat.le_refl _)]; rfl

theorem join_all (s : ByteArray) : joinB (chs s 0) = s := by
  have h := join_take s s.size 0 (Nat.zero_le _)
  rw [adv_full s 0 _ (Nat.zero_le _) (by omega), part_all] at h
  rw [List.take_of_length_le] at h
  · exact h
  · have := cnt_le s s.size 0 (by omega); unfold cnt at this; omega

/-- The characters from the i-th on begin with t's just where t stands there, from edge to edge. -/
theorem begins_iff (s t : ByteArray) (i : Nat) (hi : i < cnt s 0) :
    chs t 0 <+: (chs s 0).drop i ↔ hitB s t (adv s 0 i) = true := by
  have hp : adv s 0 i < s.size := adv_lt_cnt s 0 i hi
  rw [chs_drop]
  unfold hitB
  simp only [Bool.and_eq_true]
  constructor
  · intro h
    rw [List.prefix_iff_eq_take] at h
    have hj := congrArg joinB h
    rw [join_all, join_take s _ _ (by omega)] at hj
    have hle := adv_le s (chs t 0).length (adv s 0 i) (by omega)
    have hge := adv_ge s (chs t 0).length (adv s 0 i)
    have hsz : t.size = adv s (adv s 0 i) (chs t 0).length - adv s 0 i := by
      have e := congrArg ByteArray.size hj
      rw [part_size s _ _ hle] at e
      exact e
    have he : adv s 0 i + t.size = adv s 0 (i + (chs t 0).length) := by rw [adv_add]; omega
    refine ⟨occ_of_part ?_, edgeB_of_edge s _ (by omega) ⟨i, rfl⟩, edgeB_of_edge s _ (by rw [he, adv_add]; exact hle) ⟨_, he.symm⟩⟩
    rw [he, adv_add]; exact hj.symm
  · rintro ⟨h1, _, h3⟩
    have hroom := occ_room (by omega) h1
    have hpart := occ_part h1
    obtain ⟨m, hm⟩ := edge_of_edgeB s _ hroom h3
    have him : adv s 0 i ≤ adv s 0 m := by omega
    have hed : ∃ k, adv s (adv s 0 i) k = adv s 0 i + t.size := by
      rcases Nat.lt_or_ge m i with h | h
      · have := adv_mono s 0 (Nat.le_of_lt h)
        exact ⟨0, by rw [adv_zero]; omega⟩
      · exact ⟨m - i, by rw [← adv_add, show i + (m - i) = m from by omega]; exact hm⟩
    have hc := chs_part s (adv s 0 i) (adv s 0 i + t.size) hroom hed t.size 0 (by omega) (by omega) ⟨0, rfl⟩
    rw [hpart, Nat.add_zero] at hc
    rw [List.prefix_iff_eq_take]
    apply List.ext_getElem?
    intro j
    by_cases hj : j < (chs t 0).length
    · rw [List.getElem?_take_of_lt hj]
      exact (hc j hj).1
    · rw [List.getElem?_eq_none (by omega), List.getElem?_eq_none (by rw [List.length_take]; omega)]

/-! ### Where it stands first -/
/-- The place (from 1) of the first character from which on s's characters begin with t's; 0, if there is none; 1 of an empty t. -/
def IsIdx (s t : ByteArray) (n : Nat) : Prop :=
  (n = 0 ∧ (∀ p, p ≤ s.size → hitB s t p = false)) ∨ (∃ i, n = i + 1 ∧ i ≤ cnt s 0 ∧ hitB s t (adv s 0 i) = true ∧ ∀ p, p < adv s 0 i → hitB s t p = false)

theorem hit_empty (s t : ByteArray) (h : t.size = 0) : hitB s t 0 = true := by
  have ht : t = ⟨#[]⟩ := by
    apply bytes_ext
    have := size_eq t
    exact List.eq_nil_of_length_eq_zero (by omega)
  subst ht
  unfold hitB
  rw [edgeB_of_edge s 0 (Nat.zero_le _) ⟨0, rfl⟩]
  show (occAt _ [] 0 && (true && edgeB s 0)) = true
  rw [edgeB_of_edge s 0 (Nat.zero_le _) ⟨0, rfl⟩]
  simp [occAt]

/-- Behind the last character nothing begins. -/
theorem hit_lt (s t : ByteArray) (p : Nat) (hp : p ≤ s.size) (ht : 0 < t.size) (h : hitB s t p = true) : p < s.size := by
  unfold hitB at h
  simp only [Bool.and_eq_true] at h
  have := occ_room hp h.1
  omega

/-- The number of characters ahead of a character's place. -/
theorem cnt_head (s : ByteArray) (i : Nat) (hi : i ≤ cnt s 0) : cnt (s.extract 0 (adv s 0 i)) 0 = i := by
  have hle := adv_le s i 0 (Nat.zero_le _)
  have hsz := head_size s (adv s 0 i) hle
  have key : ∀ k, k ≤ i → adv (s.extract 0 (adv s 0 i)) 0 k = adv s 0 k := fun k hk => head_adv s _ hle k 0 (Nat.zero_le _) (adv_mono s 0 hk)
  have h1 : cnt (s.extract 0 (adv s 0 i)) 0 ≤ i := by
    have h2 := cnt_adv (s.extract 0 (adv s 0 i)) 0 i
    rw [key i (Nat.le_refl _), cnt_end (by rw [hsz]; omega)] at h2
    omega
  rcases Nat.lt_or_ge (cnt (s.extract 0 (adv s 0 i)) 0) i with h | h
  · exfalso
    have h2 := adv_cnt (s.extract 0 (adv s 0 i)) 0 _ (Nat.zero_le _) (Nat.le_refl _)
    rw [key _ h1, hsz] at h2
    have h3 := adv_lt s 0 (cnt (s.extract 0 (adv s 0 i)) 0) (adv_lt_cnt s 0 _ (by omega))
    have h4 := adv_mono s 0 (show cnt (s.extract 0 (adv s 0 i)) 0 + 1 ≤ i from h)
    omega
  · omega

theorem idx_unique {s t : ByteArray} {n m : Nat} (h : IsIdx s t n) (h' : IsIdx s t m) : n = m := by
  rcases h with ⟨rfl, h0⟩ | ⟨i, rfl, hi, h1, h2⟩ <;> rcases h' with ⟨rfl, h0'⟩ | ⟨j, rfl, hj, h1', h2'⟩
  · rfl
  · have := h0 _ (adv_le s j 0 (Nat.zero_le _)); rw [h1'] at this; cases this
  · have := h0' _ (adv_le s i 0 (Nat.zero_le _)); rw [h1] at this; cases this
  · have hij : adv s 0 i = adv s 0 j := by
      rcases Nat.lt_trichotomy (adv s 0 i) (adv s 0 j) with h | h | h
      · have := h2' _ h; rw [h1] at this; cases this
      · exact h
      · have := h2 _ h; rw [h1'] at this; cases this
    have e1 := cnt_head s i hi
    rw [hij, cnt_head s j hj] at e1
    omega

/-- What is found: the part there. -/
theorem idx_part {s t : ByteArray} {i : Nat} (hit : hitB s t (adv s 0 i) = true) : s.extract (adv s 0 i) (adv s (adv s 0 i) (cnt t 0)) = t := by
  have hp := adv_le s i 0 (Nat.zero_le _)
  by_cases hc : cnt t 0 = 0
  · have h0 : t.size = 0 := by
      by_cases h : 0 < t.size
      · rw [cnt_step h] at hc; omega
      · omega
    have ht : t = ⟨#[]⟩ := by
      apply bytes_ext
      have := size_eq t
      exact List.eq_nil_of_length_eq_zero (by omega)
    rw [hc, adv_zero, part_none s _ _ (Nat.le_refl _), ht]
  · have hlt : adv s 0 i < s.size := hit_lt s t _ hp (by
      by_cases h : 0 < t.size
      · exact h
      · rw [cnt_end h] at hc; omega) hit
    have hi : i < cnt s 0 := by
      have h2 := cnt_adv s 0 i
      rw [cnt_step hlt] at h2
      omega
    rw [← begins_iff s t i hi, List.prefix_iff_eq_take] at hit
    rw [chs_drop] at hit
    have hj := congrArg joinB hit
    rw [join_all, join_take s _ _ hp] at hj
    exact hj.symm

end Go.Proofs.YtfhnbpilbbbckaaDoor.T2

/- Contracts of package text: behind, Len, Sub. -/
namespace Go.Proofs.YtfhnbpilbbbckaaDoor.T2
open Go.Proofs.YtfhnbpilbbbckaaDoor Go.Proofs
open Go.RowKit

theorem Below.drewN' {B : Nat} {a w : World} (h : Below B a w) (n : Nat) : Below B a (w.drewN n) := by
  induction n with
  | zero => exact h
  | succ n ih => exact ⟨ih.os, ih.tape, ih.output, ih.size, ih.block⟩

theorem Below.step {w w1 w2 : World} (h : Below w.heap.size w w1) (h2 : Below w1.heap.size w1 w2) : Below w.heap.size w w2 :=
  h.trans (h2.mono h.size)

theorem below_iter (w : World) (s : ByteArray) (pos : Nat) : Below w.heap.size w (w.iter s pos) := (Below.refl _ _).alloc (Nat.le_refl _) _

theorem ret_i64 {a b : Int} (h : a = b) : Ending.returned (.int .i64 a) = .returned (.int .i64 b) := by rw [h]
theorem ret_str {a b : ByteArray} (h : a = b) : Ending.returned (.string a) = .returned (.string b) := by rw [h]

set_option maxRecDepth 100000 in
set_option maxHeartbeats 400000 in
theorem behind_any (s : ByteArray) (m : Nat) (hs : s.size ≤ maxLen) (hm : m ≤ 9223372036854775807) (w : World) :
    Calls Tryd.prog 90 #[.string s, .int .i64 m] w fun e w' => e = .returned (.int .i64 (adv s 0 m)) ∧ Below w.heap.size w w' := by
  unfold maxLen at hs
  go_enter Tryd.func90, Tryd.ntmps90
  go_wp2
  go_loopw [1] (fun n w' => ∃ pos k : Nat, w' = w.iter s pos ∧ n = .int .i64 k ∧ Hid (adv s pos k = adv s 0 m) ∧ pos ≤ s.size ∧ k ≤ m) (fun _ w' => s.size - w'.iterPos w.heap.size)
  case atStart => exact ⟨0, m, rfl, rfl, Lib.hid rfl, by omega, by omega⟩
  case round =>
    obtain ⟨pos, k, rfl, rfl, hadv, hp, hk⟩ := hrel
    by_cases hlt : pos < s.size
    · have hnx : ∀ ty, (Instr.next (.pointer (some ⟨w.heap.size, 0, none⟩)) true ty).run Tryd.prog (w.iter s pos) = _ := fun ty => run_next_any w s pos ty hlt
      have hw1 := cw_le hlt
      have hw2 := cw_pos s pos
      by_cases hk0 : k = 0
      · subst hk0
        go_wp2
        go_ret
        exact ⟨ret_i64 (by rw [← hadv.out]; rfl), below_iter _ _ _⟩
      · have hb : ((k : Int) == 0) = false := by rw [beq_eq_false_iff_ne]; omega
        go_wp2
        go_roundw
        case rel =>
          refine ⟨pos + cw s pos, k - 1, rfl, by go_num, Lib.hid ?_, hw1, by omega⟩
          rw [← hadv.out]
          obtain ⟨j, rfl⟩ : ∃ j, k = j + 1 := ⟨k - 1, by omega⟩
          rw [adv_step hlt]; rfl
        case measure =>
          simp only [World.iterPos_iter]
          unfold cw at hw1 hw2
          omega
    · have hnx : ∀ ty, (Instr.next (.pointer (some ⟨w.heap.size, 0, none⟩)) true ty).run Tryd.prog (w.iter s pos) = _ := fun ty => run_next_end w s pos ty hlt
      go_wp2
      go_ret
      exact ⟨ret_i64 (by rw [← hadv.out, adv_end hlt]; omega), below_iter _ _ _⟩

theorem behind_int (s : ByteArray) (z : Int) (hs : s.size ≤ maxLen) (h0 : 0 ≤ z) (hz : z ≤ 9223372036854775807) (w : World) :
    Calls Tryd.prog 90 #[.string s, .int .i64 z] w fun e w' => e = .returned (.int .i64 (adv s 0 z.toNat)) ∧ Below w.heap.size w w' := by
  obtain ⟨m, rfl⟩ := Int.eq_ofNat_of_zero_le h0
  rw [Int.toNat_natCast]
  exact behind_any s m hs (by omega) w

set_option maxRecDepth 100000 in
set_option maxHeartbeats 400000 in
theorem len_any (s : ByteArray) (hs : s.size ≤ maxLen) (w : World) :
    Calls Tryd.prog 22 #[.string s] w fun e w' => e = .returned (.int .i64 (cnt s 0)) ∧ Below w.heap.size w w' := by
  unfold maxLen at hs
  have hc := cnt_le s s.size 0 (by omega)
  go_enter Tryd.func22, Tryd.ntmps22
  go_wp2
  go_loopw [3] (fun n w' => ∃ pos k : Nat, w' = w.iter s pos ∧ n = .int .i64 k ∧ Hid (k + cnt s pos = cnt s 0) ∧ pos ≤ s.size ∧ k ≤ pos) (fun _ w' => s.size - w'.iterPos w.heap.size)
  case atStart => exact ⟨0, 0, rfl, rfl, Lib.hid (by omega), by omega, by omega⟩
  case round =>
    obtain ⟨pos, k, rfl, rfl, hcnt, hp, hk⟩ := hrel
    by_cases hlt : pos < s.size
    · have hnx : ∀ ty, (Instr.next (.pointer (some ⟨w.heap.size, 0, none⟩)) true ty).run Tryd.prog (w.iter s pos) = _ := fun ty => run_next_any w s pos ty hlt
      have hw1 := cw_le hlt
      have hw2 := cw_pos s pos
      go_wp2
      go_roundw
      case rel => exact ⟨pos + cw s pos, k + 1, rfl, by go_num, Lib.hid (by rw [← hcnt.out, cnt_step hlt]; omega), hw1, by omega⟩
      case measure =>
        simp only [World.iterPos_iter]
        unfold cw at hw1 hw2
        omega
    · have hnx : ∀ ty, (Instr.next (.pointer (some ⟨w.heap.size, 0, none⟩)) true ty).run Tryd.prog (w.iter s pos) = _ := fun ty => run_next_end w s pos ty hlt
      go_wp2
      go_ret
      exact ⟨ret_i64 (by rw [← hcnt.out, cnt_end hlt]; omega), below_iter _ _ _⟩

/-- So many characters behind so many. -/
def subN (s : ByteArray) (a k : Nat) : ByteArray := s.extract (adv s 0 a) (adv s 0 (a + k))
/-- The characters at the places from .. from + many - 1. -/
def subB (s : ByteArray) (f m : Int) : ByteArray :=
  if m < 1 then ⟨#[]⟩ else if f < 1 then (if m - 1 + f < 1 then ⟨#[]⟩ else subN s 0 (m - 1 + f).toNat) else subN s (f - 1).toNat m.toNat

theorem sub_parts (s : ByteArray) (a k : Nat) : (s.extract (adv s 0 a) s.size).extract 0 (adv (s.extract (adv s 0 a) s.size) 0 k) = subN s a k := by
  have h := adv_le s a 0 (Nat.zero_le _)
  have h2 := tail_adv s (adv s 0 a) k 0
  rw [Nat.add_zero, ← adv_add] at h2
  have h3 := adv_le s (a + k) 0 (Nat.zero_le _)
  rw [part_part s (adv s 0 a) s.size 0 _ (by omega), h2]
  rfl

set_option maxRecDepth 100000 in
set_option maxHeartbeats 400000 in
theorem sub_any (s : ByteArray) (f m : Int) (hs : s.size ≤ maxLen) (hf : -9223372036854775808 ≤ f ∧ f ≤ 9223372036854775807) (hm : -9223372036854775808 ≤ m ∧ m ≤ 9223372036854775807) (w : World) :
    Calls Tryd.prog 80 #[.string s, .int .i64 f, .int .i64 m] w fun e w' => e = .returned (.string (subB s f m)) ∧ Below w.heap.size w w' := by
  obtain ⟨f1, f2⟩ := hf
  obtain ⟨m1, m2⟩ := hm
  have B := Lib.hid (fun z h0 hz w => behind_int s z hs h0 hz w)
  have B2 := Lib.hid (fun a z h0 hz w => behind_int (s.extract (adv s 0 a) s.size) z (by rw [Lib.tail_size]; omega) h0 hz w)
  have P := Lib.hid (sub_parts s)
  have HL := Lib.hid (fun a => adv_le s a 0 (Nat.zero_le _))
  have HL2 := Lib.hid (show ∀ a b, adv (s.extract a s.size) 0 b ≤ s.size - a from fun a b => by rw [← Lib.tail_size]; exact adv_le _ b 0 (Nat.zero_le _))
  unfold maxLen at hs
  by_cases h1 : m < 1
  · rw [show subB s f m = ⟨#[]⟩ from by unfold subB; rw [if_pos h1]]
    go_enter Tryd.func80, Tryd.ntmps80
    go_wp2_with fail
    go_ret
    exact ⟨rfl, Below.refl _ _⟩
  · by_cases h2 : f < 1
    · by_cases h3 : m - 1 + f < 1
      · rw [show subB s f m = ⟨#[]⟩ from by unfold subB; rw [if_neg h1, if_pos h2, if_pos h3]]
        go_enter Tryd.func80, Tryd.ntmps80
        go_wp2_with fail
        go_ret
        exact ⟨rfl, Below.refl _ _⟩
      · rw [show subB s f m = subN s 0 (m - 1 + f).toNat from by unfold subB; rw [if_neg h1, if_pos h2, if_neg h3]]
        go_enter Tryd.func80, Tryd.ntmps80
        go_wp2_with fail
        refine (B.out _ (by omega) (by omega) _).mono ?_
        rintro e w1 ⟨rfl, b1⟩
        have B1 := Lib.hid b1; clear b1
        have hl := HL.out (Int.toNat 0)
        go_wp2_with fail
        refine (B2.out _ _ (by omega) (by omega) _).mono ?_
        rintro e w2 ⟨rfl, b2⟩
        have BB := Lib.hid (Below.step B1.out b2); clear b2
        have hl2 := HL2.out (adv s 0 (Int.toNat 0)) (m - 1 + f).toNat
        go_wp2_with fail
        go_ret
        exact ⟨ret_str (P.out _ _), BB.out⟩
    · obtain ⟨a, rfl⟩ : ∃ a : Nat, f = (a : Int) + 1 := ⟨(f - 1).toNat, by omega⟩
      rw [show subB s ((a : Int) + 1) m = subN s a m.toNat from by unfold subB; rw [if_neg h1, if_neg h2, show ((a : Int) + 1 - 1).toNat = a from by omega]]
      go_enter Tryd.func80, Tryd.ntmps80
      go_wp2_with fail
      refine (B.out _ (by omega) (by omega) _).mono ?_
      rintro e w1 ⟨rfl, b1⟩
      have B1 := Lib.hid b1; clear b1
      rw [Int.toNat_natCast]
      have hl := HL.out a
      go_wp2_with fail
      refine (B2.out _ _ (by omega) (by omega) _).mono ?_
      rintro e w2 ⟨rfl, b2⟩
      have BB := Lib.hid (Below.step B1.out b2); clear b2
      have hl2 := HL2.out (adv s 0 a) m.toNat
      go_wp2_with fail
      go_ret
      exact ⟨ret_str (P.out _ _), BB.out⟩

end Go.Proofs.YtfhnbpilbbbckaaDoor.T2
