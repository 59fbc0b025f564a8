/- Merged by program: G10Whole, T2Cut, T2Edge. -/
import Derived.Lib.RuneCountTail
import Derived.Lib.IndexMore
import Derived.Test.YtbbhcbpfffabpaaGreatDoorGad
/- The document's Whole of layer 10: a walk. -/
namespace Go.Proofs.YtbbhcbpfffabpaaGreatDoor
open Go.RowKit

/-- What digits a whole part has: of tens without its sign, else modulo 2^64. -/
def wholeN (n : Int) (b : Nat) : Nat := if b = 10 then (n.tdiv 1000000).natAbs else ((n.tdiv 1000000) % 18446744073709551616).toNat
def wholeS (n : Int) (b : Nat) (great : Bool) : List UInt8 := baseS b great 64 (wholeN n b)

/-- What Whole tells. -/
def WholeOut (n : Int) (b : Nat) (great : Bool) (w : World) (e : Ending) (w' : World) : Prop :=
  ∃ s : ByteArray, e = .returned (.string s) ∧ Hid (s.data.toList = wholeS n b great) ∧ Below w.heap.size w w'

set_option maxRecDepth 100000 in
theorem whole_any10 (n : Int) (hn : -9223372036854775808 ≤ n ∧ n ≤ 9223372036854775807) (b : Nat) (hb : 8 ≤ b ∧ b ≤ 16) (great : Bool) (w : World) :
    Calls Tryz.prog 87 #[.int .i64 n, .int .i64 b, .bool great] w (WholeOut n b great w) := by
  have hq : -9223372036855 ≤ n.tdiv 1000000 ∧ n.tdiv 1000000 ≤ 9223372036855 := by
    by_cases h : 0 ≤ n
    · rw [Int.tdiv_eq_ediv_of_nonneg h]; omega
    · have e : n.tdiv 1000000 = -((-n) / 1000000) := by rw [← Int.tdiv_eq_ediv_of_nonneg (by omega), Int.neg_tdiv, Int.neg_neg]
      rw [e]; omega
  obtain ⟨q, hqq⟩ : ∃ q, q = n.tdiv 1000000 := ⟨_, rfl⟩
  rw [← hqq] at hq
  have wb : IntKind.u64.wrap (b : Int) = b := by rw [IntKind.wrap_u64]; omega
  have w1 : IntKind.i64.wrap q = q := by rw [IntKind.wrap_i64]; omega
  have key : ∀ N : Nat, wholeN n b = N → N < 18446744073709551616 → ∀ w, Calls Tryz.prog 111 #[.int .u64 N, .int .u64 b, .bool great] w (WholeOut n b great w) := by
    intro N hN h64 w
    refine (base_any b great (by omega) (by omega) 63 N w ?_ h64 (Nat.le_refl _)).mono ?_
    · exact Nat.lt_of_lt_of_le h64 (Nat.le_trans (by decide : 18446744073709551616 ≤ 8 ^ (63 + 1)) (Nat.pow_le_pow_left hb.1 _))
    · rintro e w' ⟨s, he, hs, hB⟩
      exact ⟨s, he, Lib.hid (by rw [hs.out]; unfold wholeS; rw [hN]), hB⟩
  by_cases h10 : b = 10
  · subst h10
    have hN : wholeN n 10 = q.natAbs := by unfold wholeN; rw [if_pos rfl, hqq]
    have K := Lib.hid (key q.natAbs hN (by omega))
    have eb : (((10 : Nat) : Int) == 10) = true := rfl
    clear key hN
    by_cases h0 : q < 0
    · have d0 : decide (q < 0) = true := decide_eq_true h0
      have w2 : IntKind.i64.wrap (-q) = -q := by rw [IntKind.wrap_i64]; omega
      have w3 : IntKind.u64.wrap (-q) = (q.natAbs : Int) := by rw [IntKind.wrap_u64]; omega
      go_enter Tryz.func87, Tryz.ntmps87
      go_upto_region 2 with (fail)
      rw [← hqq]
      clear hqq
      go_wp2_with fail
      refine (K.out _).mono ?_
      rintro e w9 ⟨s, rfl, hs, b9⟩
      have B9 := Lib.hid b9
      clear b9
      go_wp2_with fail
      go_ret
      exact ⟨s, rfl, hs, B9.out⟩
    · have d0 : decide (q < 0) = false := decide_eq_false h0
      have w3 : IntKind.u64.wrap q = (q.natAbs : Int) := by rw [IntKind.wrap_u64]; omega
      go_enter Tryz.func87, Tryz.ntmps87
      go_upto_region 2 with (fail)
      rw [← hqq]
      clear hqq
      go_wp2_with fail
      refine (K.out _).mono ?_
      rintro e w9 ⟨s, rfl, hs, b9⟩
      have B9 := Lib.hid b9
      clear b9
      go_wp2_with fail
      go_ret
      exact ⟨s, rfl, hs, B9.out⟩
  · have eb : ((b : Int) == 10) = false := beq_eq_false_iff_ne.2 (by omega)
    have hN : wholeN n b = (q % 18446744073709551616).toNat := by unfold wholeN; rw [if_neg h10, hqq]
    obtain ⟨M, hM⟩ : ∃ M, M = (q % 18446744073709551616).toNat := ⟨_, rfl⟩
    rw [← hM] at hN
    have hM64 : M < 18446744073709551616 := by omega
    have w3 : IntKind.u64.wrap q = (M : Int) := by rw [IntKind.wrap_u64]; omega
    have K := Lib.hid (key M hN hM64)
    clear key hN hM
    go_enter Tryz.func87, Tryz.ntmps87
    go_upto_region 2 with (fail)
    rw [← hqq]
    clear hqq
    go_wp2_with fail
    refine (K.out _).mono ?_
    rintro e w9 ⟨s, rfl, hs, b9⟩
    have B9 := Lib.hid b9
    clear b9
    go_wp2_with fail
    go_ret
    exact ⟨s, rfl, hs, B9.out⟩
end Go.Proofs.YtbbhcbpfffabpaaGreatDoor

/- Characters of a text as places: the widths that a range over a string goes by. Plain: no program. -/
namespace Go.Proofs.YtbbhcbpfffabpaaGreatDoor.T2
open Go.Proofs.YtbbhcbpfffabpaaGreatDoor Go.Proofs
open Go.Lib

/-! ### One character's width -/
theorem dN_pos (n a b c d : Nat) : 1 ≤ (decodeN n a b c d).2 := by
  unfold decodeN
  repeat' split
  all_goals simp

theorem dN_le (n a b c d : Nat) (hn : 1 ≤ n) : (decodeN n a b c d).2 ≤ n ∧ (decodeN n a b c d).2 ≤ 4 := by
  unfold decodeN
  repeat' split
  all_goals simp
  all_goals omega

theorem dN_lead (n a b c d : Nat) (h : 1 < (decodeN n a b c d).2) : 192 ≤ a := by
  unfold decodeN at h
  repeat' split at h
  all_goals simp at h
  all_goals omega

theorem dN_cont1 (n a b c d : Nat) (h : 1 < (decodeN n a b c d).2) : b / 64 = 2 := by
  unfold decodeN at h
  repeat' split at h
  all_goals simp at h
  all_goals omega

theorem dN_cont2 (n a b c d : Nat) (h : 2 < (decodeN n a b c d).2) : c / 64 = 2 := by
  unfold decodeN at h
  repeat' split at h
  all_goals simp at h
  all_goals omega

theorem dN_cont3 (n a b c d : Nat) (h : 3 < (decodeN n a b c d).2) : d / 64 = 2 := by
  unfold decodeN at h
  repeat' split at h
  all_goals simp at h
  all_goals omega

set_option maxHeartbeats 2000000 in
/-- What is cut off at its end: the same width, if there is room for it, else one byte. -/
theorem dN_cut (n m a b c d b' c' d' : Nat) (hm : m ≤ n) (h1 : 1 < m → b' = b) (h2 : 2 < m → c' = c) (h3 : 3 < m → d' = d) :
    (decodeN m a b' c' d').2 = if (decodeN n a b c d).2 ≤ m then (decodeN n a b c d).2 else 1 := by
  by_cases m1 : 1 < m
  · obtain rfl := h1 m1
    by_cases m2 : 2 < m
    · obtain rfl := h2 m2
      by_cases m3 : 3 < m
      · obtain rfl := h3 m3
        have n1 : 1 < n := by omega
        have n2 : 2 < n := by omega
        have n3 : 3 < n := by omega
        have e : decodeN m a b' c' d' = decodeN n a b' c' d' := by
          unfold decodeN
          simp only [m1, m2, m3, n1, n2, n3]
        rw [e, if_pos (by have := (dN_le n a b' c' d' (by omega)).2; omega)]
      · have n1 : 1 < n := by omega
        have n2 : 2 < n := by omega
        unfold decodeN
        simp only [m1, m2, m3, n1, n2, true_and, false_and, and_false, if_false]
        repeat' split
        all_goals first | rfl | (exfalso; omega) | (simp_all; done) | (simp_all; omega)
    · have n1 : 1 < n := by omega
      unfold decodeN
      simp only [m1, m2, n1, true_and, false_and, and_false, if_false]
      repeat' split
      all_goals first | rfl | (exfalso; omega) | (simp_all; done) | (simp_all; omega)
  · unfold decodeN
    simp only [m1, false_and, and_false, if_false]
    repeat' split
    all_goals first | rfl | (exfalso; omega) | (simp_all; done) | (simp_all; omega)

/-! ### Widths in a text -/
def cw (s : ByteArray) (p : Nat) : Nat := (Utf8.decode s p).2

theorem cw_eq (s : ByteArray) (p : Nat) : cw s p = (decodeN (s.size - p) (s.get! p).toNat (s.get! (p + 1)).toNat (s.get! (p + 2)).toNat (s.get! (p + 3)).toNat).2 := by
  unfold cw; rw [decode_at]

theorem cw_pos (s : ByteArray) (p : Nat) : 1 ≤ cw s p := by rw [cw_eq]; exact dN_pos _ _ _ _ _
theorem cw_le {s : ByteArray} {p : Nat} (h : p < s.size) : p + cw s p ≤ s.size := by
  rw [cw_eq]; have := (dN_le (s.size - p) (s.get! p).toNat (s.get! (p + 1)).toNat (s.get! (p + 2)).toNat (s.get! (p + 3)).toNat (by omega)).1; omega
theorem cw_four {s : ByteArray} {p : Nat} (h : p < s.size) : cw s p ≤ 4 := by
  rw [cw_eq]; exact (dN_le _ _ _ _ _ (by omega)).2
theorem cw_lead {s : ByteArray} {p : Nat} (h : 1 < cw s p) : 192 ≤ (s.get! p).toNat := by
  rw [cw_eq] at h; exact dN_lead _ _ _ _ _ h
theorem cw_cont {s : ByteArray} {p j : Nat} (hp : p < s.size) (h0 : 0 < j) (h : j < cw s p) : (s.get! (p + j)).toNat / 64 = 2 := by
  have h4 := cw_four hp
  rw [cw_eq] at h
  have hj : j = 1 ∨ j = 2 ∨ j = 3 := by rw [cw_eq] at h4; omega
  rcases hj with rfl | rfl | rfl
  · exact dN_cont1 _ _ _ _ _ h
  · exact dN_cont2 _ _ _ _ _ h
  · exact dN_cont3 _ _ _ _ _ h

theorem tail_cw (s : ByteArray) (n p : Nat) : cw (s.extract n s.size) p = cw s (n + p) := by
  unfold cw; rw [tail_decode]

theorem head_size (s : ByteArray) (e : Nat) (he : e ≤ s.size) : (s.extract 0 e).size = e := by
  rw [ByteArray.size_extract]; omega

theorem head_get! (s : ByteArray) (e j : Nat) (he : e ≤ s.size) (hj : j < e) : (s.extract 0 e).get! j = s.get! j := by
  rw [← getD_get!', ← getD_get!', extract_data]
  simp only [List.drop_zero, Nat.sub_zero]
  have hl : j < s.data.toList.length := by rw [← size_eq]; omega
  simp [List.getD, hj]

theorem head_cw (s : ByteArray) (e p : Nat) (he : e ≤ s.size) (hp : p < e) : cw (s.extract 0 e) p = if p + cw s p ≤ e then cw s p else 1 := by
  rw [cw_eq, cw_eq, head_size s e he, head_get! s e p he hp]
  rw [dN_cut (s.size - p) (e - p) (s.get! p).toNat (s.get! (p + 1)).toNat (s.get! (p + 2)).toNat (s.get! (p + 3)).toNat _ _ _ (by omega)
    (fun h => by rw [head_get! s e _ he (by omega)]) (fun h => by rw [head_get! s e _ he (by omega)]) (fun h => by rw [head_get! s e _ he (by omega)])]
  have hc : ((decodeN (s.size - p) (s.get! p).toNat (s.get! (p + 1)).toNat (s.get! (p + 2)).toNat (s.get! (p + 3)).toNat).2 ≤ e - p) = (p + (decodeN (s.size - p) (s.get! p).toNat (s.get! (p + 1)).toNat (s.get! (p + 2)).toNat (s.get! (p + 3)).toNat).2 ≤ e) := propext ⟨fun h => by omega, fun h => by omega⟩
  simp only [hc]

/-! ### So many characters on -/
def adv (s : ByteArray) : Nat → Nat → Nat
  | p, 0 => p
  | p, k + 1 => if p < s.size then adv s (p + cw s p) k else p

theorem adv_zero (s : ByteArray) (p : Nat) : adv s p 0 = p := rfl
theorem adv_step {s : ByteArray} {p : Nat} (h : p < s.size) (k : Nat) : adv s p (k + 1) = adv s (p + cw s p) k := by
  show (if p < s.size then adv s (p + cw s p) k else p) = _
  rw [if_pos h]
theorem adv_end {s : ByteArray} {p : Nat} (h : ¬ p < s.size) (k : Nat) : adv s p k = p := by
  cases k with
  | zero => rfl
  | succ k =>
    show (if p < s.size then adv s (p + cw s p) k else p) = _
    rw [if_neg h]
theorem adv_one {s : ByteArray} {p : Nat} (h : p < s.size) : adv s p 1 = p + cw s p := by rw [adv_step h]; rfl

theorem adv_add (s : ByteArray) : ∀ (i j p : Nat), adv s p (i + j) = adv s (adv s p i) j
  | 0, j, p => by rw [Nat.zero_add]; rfl
  | i + 1, j, p => by
    by_cases h : p < s.size
    · rw [show i + 1 + j = (i + j) + 1 from by omega, adv_step h, adv_step h, adv_add s i j]
    · rw [adv_end h, adv_end h, adv_end h]

theorem adv_succ (s : ByteArray) (k p : Nat) : adv s p (k + 1) = adv s (adv s p k) 1 := adv_add s k 1 p

theorem adv_ge (s : ByteArray) : ∀ (k p : Nat), p ≤ adv s p k
  | 0, p => Nat.le_refl _
  | k + 1, p => by
    by_cases h : p < s.size
    · rw [adv_step h]; have := adv_ge s k (p + cw s p); omega
    · rw [adv_end h]; exact Nat.le_refl _

theorem adv_le (s : ByteArray) : ∀ (k p : Nat), p ≤ s.size → adv s p k ≤ s.size
  | 0, p, h => h
  | k + 1, p, h => by
    by_cases hp : p < s.size
    · rw [adv_step hp]; exact adv_le s k _ (cw_le hp)
    · rw [adv_end hp]; exact h

theorem adv_mono (s : ByteArray) (p : Nat) {i j : Nat} (h : i ≤ j) : adv s p i ≤ adv s p j := by
  obtain ⟨d, rfl⟩ : ∃ d, j = i + d := ⟨j - i, by omega⟩
  rw [adv_add]; exact adv_ge s d _

theorem adv_lt (s : ByteArray) (p i : Nat) (h : adv s p i < s.size) : adv s p i < adv s p (i + 1) := by
  rw [adv_succ, adv_one h]; have := cw_pos s (adv s p i); omega

/-- Each step goes on by one byte at least. -/
theorem adv_far (s : ByteArray) : ∀ (k p : Nat), adv s p k < s.size → p + k ≤ adv s p k
  | 0, p, _ => Nat.le_refl _
  | k + 1, p, h => by
    by_cases hp : p < s.size
    · rw [adv_step hp] at h ⊢; have := adv_far s k _ h; have := cw_pos s p; omega
    · rw [adv_end hp] at h; exact absurd h hp

theorem adv_full (s : ByteArray) (p k : Nat) (hp : p ≤ s.size) (hk : s.size ≤ p + k) : adv s p k = s.size := by
  have h1 := adv_le s k p hp
  by_cases h : adv s p k < s.size
  · have := adv_far s k p h; omega
  · omega

/-- Each place lies in one character. -/
theorem adv_locate (s : ByteArray) : ∀ (n p r : Nat), r - p ≤ n → p ≤ r → r < s.size → ∃ k, adv s p k ≤ r ∧ r < adv s p (k + 1)
  | n, p, r, hn, hpr, hr => by
    have hp : p < s.size := by omega
    by_cases h : r < p + cw s p
    · exact ⟨0, hpr, by rw [adv_one hp]; exact h⟩
    · cases n with
      | zero => have := cw_pos s p; omega
      | succ n =>
        have := cw_pos s p
        obtain ⟨k, h1, h2⟩ := adv_locate s n (p + cw s p) r (by omega) (by omega) hr
        exact ⟨k + 1, by rw [adv_step hp]; exact h1, by rw [adv_step hp]; exact h2⟩

theorem tail_adv (s : ByteArray) (a : Nat) : ∀ (k p : Nat), a + adv (s.extract a s.size) p k = adv s (a + p) k
  | 0, p => rfl
  | k + 1, p => by
    by_cases h : a + p < s.size
    · rw [adv_step h, adv_step (by rw [tail_size]; omega), tail_adv s a k, tail_cw, Nat.add_assoc]
    · rw [adv_end h, adv_end (by rw [tail_size]; omega)]

/-- Characters ahead of an edge are those of what is cut there. -/
theorem head_adv (s : ByteArray) (e : Nat) (he : e ≤ s.size) : ∀ (k p : Nat), p ≤ e → adv s p k ≤ e → adv (s.extract 0 e) p k = adv s p k
  | 0, p, _, _ => rfl
  | k + 1, p, hp, hk => by
    by_cases h : p < e
    · have hs : p < s.size := by omega
      rw [adv_step hs] at hk ⊢
      have h1 := adv_ge s k (p + cw s p)
      rw [adv_step (by rw [head_size s e he]; exact h), head_cw s e p he h, if_pos (by omega)]
      exact head_adv s e he k _ (by omega) hk
    · have : p = e := by omega
      subst this
      rw [adv_end (s := s.extract 0 p) (by rw [head_size s p he]; omega)]
      have := adv_ge s (k + 1) p
      omega

/-! ### The characters -/
def chF (s : ByteArray) : Nat → Nat → List ByteArray
  | 0, _ => []
  | f + 1, p => if p < s.size then s.extract p (p + cw s p) :: chF s f (p + cw s p) else []

theorem chF_end (s : ByteArray) (f p : Nat) (h : ¬ p < s.size) : chF s f p = [] := by
  cases f with
  | zero => rfl
  | succ f => show (if _ then _ else _) = _; rw [if_neg h]

theorem chF_fuel (s : ByteArray) : ∀ (f g p : Nat), s.size - p ≤ f → s.size - p ≤ g → chF s f p = chF s g p
  | 0, g, p, hf, _ => by rw [chF_end s g p (by omega)]; rfl
  | f + 1, 0, p, _, hg => by rw [chF_end s (f + 1) p (by omega)]; rfl
  | f + 1, g + 1, p, hf, hg => by
    unfold chF
    by_cases h : p < s.size
    · have hw := cw_pos s p
      rw [if_pos h, if_pos h, chF_fuel s f g _ (by omega) (by omega)]
    · rw [if_neg h, if_neg h]

/-- The characters of a text from a place on. -/
def chs (s : ByteArray) (p : Nat) : List ByteArray := chF s (s.size - p) p
/-- How many there are. -/
def cnt (s : ByteArray) (p : Nat) : Nat := (chs s p).length

theorem chs_end {s : ByteArray} {p : Nat} (h : ¬ p < s.size) : chs s p = [] := chF_end s _ _ h
theorem chs_step {s : ByteArray} {p : Nat} (h : p < s.size) : chs s p = s.extract p (p + cw s p) :: chs s (p + cw s p) := by
  unfold chs
  obtain ⟨f, hf⟩ : ∃ f, s.size - p = f + 1 := ⟨s.size - p - 1, by omega⟩
  have hw := cw_pos s p
  rw [hf]
  show (if _ then _ else _) = _
  rw [if_pos h, chF_fuel s f (s.size - (p + cw s p)) _ (by omega) (Nat.le_refl _)]

theorem cnt_end {s : ByteArray} {p : Nat} (h : ¬ p < s.size) : cnt s p = 0 := by unfold cnt; rw [chs_end h]; rfl
theorem cnt_step {s : ByteArray} {p : Nat} (h : p < s.size) : cnt s p = cnt s (p + cw s p) + 1 := by unfold cnt; rw [chs_step h]; rfl

theorem cnt_le (s : ByteArray) : ∀ (n p : Nat), s.size - p ≤ n → cnt s p ≤ s.size - p
  | n, p, hn => by
    by_cases h : p < s.size
    · cases n with
      | zero => omega
      | succ n =>
        have hw := cw_pos s p
        have hl := cw_le h
        have := cnt_le s n (p + cw s p) (by omega)
        rw [cnt_step h]; omega
    · rw [cnt_end h]; omega

theorem chs_drop (s : ByteArray) : ∀ (k p : Nat), (chs s p).drop k = chs s (adv s p k)
  | 0, p => rfl
  | k + 1, p => by
    by_cases h : p < s.size
    · rw [chs_step h, List.drop_succ_cons, chs_drop s k, adv_step h]
    · rw [adv_end h, chs_end h]; rfl

theorem cnt_adv (s : ByteArray) (p k : Nat) : cnt s (adv s p k) = cnt s p - k := by
  unfold cnt; rw [← chs_drop, List.length_drop]

theorem adv_cnt (s : ByteArray) (p k : Nat) (hp : p ≤ s.size) (hk : cnt s p ≤ k) : adv s p k = s.size := by
  have h1 := adv_le s k p hp
  by_cases h : adv s p k < s.size
  · have h2 := cnt_adv s p k
    rw [cnt_step h] at h2
    omega
  · omega

theorem adv_lt_cnt (s : ByteArray) (p k : Nat) (hk : k < cnt s p) : adv s p k < s.size := by
  by_cases h : adv s p k < s.size
  · exact h
  · have h2 := cnt_adv s p k
    rw [cnt_end h] at h2
    omega

theorem chs_get (s : ByteArray) (p k : Nat) (hk : k < cnt s p) : (chs s p)[k]? = some (s.extract (adv s p k) (adv s p (k + 1))) := by
  have h := adv_lt_cnt s p k hk
  have h1 : ((chs s p).drop k)[0]? = (chs s p)[k]? := by simp
  rw [← h1, chs_drop, chs_step h, adv_succ, adv_one h]
  rfl

/-! ### Parts of a text -/
theorem bytes_ext {t u : ByteArray} (h : t.data.toList = u.data.toList) : t = u := by
  apply ByteArray.ext
  exact Array.toList_inj.1 h

theorem part_part (s : ByteArray) (a b c d : Nat) (hd : a + d ≤ b) : (s.extract a b).extract c d = s.extract (a + c) (a + d) := by
  apply bytes_ext
  rw [extract_data, extract_data, extract_data, List.drop_take, List.take_take, List.drop_drop]
  congr 1
  omega

theorem part_join (s : ByteArray) (a b c : Nat) (h1 : a ≤ b) (h2 : b ≤ c) : s.extract a b ++ s.extract b c = s.extract a c := by
  apply bytes_ext
  rw [ByteArray.data_append, Array.toList_append, extract_data, extract_data, extract_data]
  have e : c - a = (b - a) + (c - b) := by omega
  rw [e, List.take_add, List.drop_drop, show a + (b - a) = b from by omega]

theorem part_none (s : ByteArray) (a b : Nat) (h : b ≤ a) : s.extract a b = ⟨#[]⟩ := by
  apply bytes_ext
  rw [extract_data, show b - a = 0 from by omega]
  simp

theorem part_all (s : ByteArray) : s.extract 0 s.size = s := by
  apply bytes_ext
  rw [extract_data, List.drop_zero, Nat.sub_zero, size_eq]
  exact List.take_length

theorem part_size (s : ByteArray) (a b : Nat) (h : b ≤ s.size) : (s.extract a b).size = b - a := by
  rw [ByteArray.size_extract]; omega

end Go.Proofs.YtbbhcbpfffabpaaGreatDoor.T2

/- Where characters begin and end, and where a text stands in another one, character by character. Plain: no program. -/
namespace Go.Proofs.YtbbhcbpfffabpaaGreatDoor.T2
open Go.Proofs.YtbbhcbpfffabpaaGreatDoor Go.Proofs
open Go.Lib

/-- A place is one where a character begins, or the end. -/
def Edge (s : ByteArray) (p : Nat) : Prop := ∃ k, adv s 0 k = p

/-- Does no character of several bytes that begins up to three bytes ahead reach beyond the place? -/
def edgeAt (s : ByteArray) (p back : Nat) : Bool := decide (p < back) || decide (adv s (p - back) 1 ≤ p)
def edgeB (s : ByteArray) (p : Nat) : Bool := edgeAt s p 1 && edgeAt s p 2 && edgeAt s p 3

theorem edge_of_edgeB (s : ByteArray) (p : Nat) (hp : p ≤ s.size) (h : edgeB s p = true) : Edge s p := by
  by_cases he : p = s.size
  · exact ⟨s.size, by rw [he]; exact adv_full s 0 _ (Nat.zero_le _) (by omega)⟩
  by_cases h0 : p = 0
  · exact ⟨0, by rw [h0]; rfl⟩
  obtain ⟨k, h1, h2⟩ := adv_locate s p 0 p (by omega) (Nat.zero_le _) (by omega)
  by_cases hk : adv s 0 k = p
  · exact ⟨k, hk⟩
  exfalso
  have hs : adv s 0 k < s.size := by omega
  rw [adv_succ, adv_one hs] at h2
  have h4 := cw_four hs
  unfold edgeB at h
  simp only [Bool.and_eq_true] at h
  have hat : edgeAt s p (p - adv s 0 k) = true := by
    have hj : p - adv s 0 k = 1 ∨ p - adv s 0 k = 2 ∨ p - adv s 0 k = 3 := by omega
    rcases hj with e | e | e <;> rw [e]
    · exact h.1.1
    · exact h.1.2
    · exact h.2
  unfold edgeAt at hat
  simp only [Bool.or_eq_true, decide_eq_true_eq] at hat
  rw [show p - (p - adv s 0 k) = adv s 0 k from by omega, adv_one hs] at hat
  omega

theorem edgeB_of_edge (s : ByteArray) (p : Nat) (hp : p ≤ s.size) (h : Edge s p) : edgeB s p = true := by
  obtain ⟨m, hm⟩ := h
  have all : ∀ back, 0 < back → edgeAt s p back = true := by
    intro back hb
    unfold edgeAt
    simp only [Bool.or_eq_true, decide_eq_true_eq]
    by_cases hlt : p < back
    · exact Or.inl hlt
    refine Or.inr ?_
    have hr : p - back < s.size := by omega
    rw [adv_one hr]
    by_cases hw : p - back + cw s (p - back) ≤ p
    · exact hw
    exfalso
    have hlead := cw_lead (s := s) (p := p - back) (by omega)
    obtain ⟨k, h1, h2⟩ := adv_locate s (p - back) 0 (p - back) (by omega) (Nat.zero_le _) hr
    have hs : adv s 0 k < s.size := by omega
    by_cases hq : adv s 0 k = p - back
    · have hk1 : adv s 0 (k + 1) = p - back + cw s (p - back) := by rw [adv_succ, hq, adv_one hr]
      rcases Nat.lt_or_ge k m with hkm | hkm
      · have := adv_mono s 0 (show k + 1 ≤ m from hkm)
        omega
      · have := adv_mono s 0 hkm
        omega
    · rw [adv_succ, adv_one hs] at h2
      have := cw_cont (s := s) (p := adv s 0 k) (j := p - back - adv s 0 k) hs (by omega) (by omega)
      rw [show adv s 0 k + (p - back - adv s 0 k) = p - back from by omega] at this
      omega
  unfold edgeB
  rw [all 1 (by omega), all 2 (by omega), all 3 (by omega)]
  rfl

/-! ### A text in another one -/
/-- Does t stand at p, from edge to edge? -/
def hitB (s t : ByteArray) (p : Nat) : Bool := occAt s.data.toList t.data.toList p && (edgeB s p && edgeB s (p + t.size))

theorem occ_room {s t : ByteArray} {p : Nat} (hp : p ≤ s.size) (h : occAt s.data.toList t.data.toList p = true) : p + t.size ≤ s.size := by
  unfold occAt at h
  rw [List.isPrefixOf_iff_prefix] at h
  have := h.length_le
  rw [List.length_drop, ← size_eq, ← size_eq] at this
  omega

theorem occ_part {s t : ByteArray} {p : Nat} (h : occAt s.data.toList t.data.toList p = true) : s.extract p (p + t.size) = t := by
  unfold occAt at h
  rw [List.isPrefixOf_iff_prefix, List.prefix_iff_eq_take] at h
  apply bytes_ext
  rw [extract_data, show p + t.size - p = t.size from by omega, size_eq]
  exact h.symm

theorem occ_of_part {s t : ByteArray} {p : Nat} (h : s.extract p (p + t.size) = t) : occAt s.data.toList t.data.toList p = true := by
  unfold occAt
  rw [List.isPrefixOf_iff_prefix, List.prefix_iff_eq_take, ← size_eq]
  rw [← congrArg (fun u : ByteArray => u.data.toList) h, extract_data, show p + t.size - p = t.size from by omega]

/-- The characters of a part from edge to edge are the text's own. -/
theorem chs_part (s : ByteArray) (p e : Nat) (he : e ≤ s.size) (hed : ∃ k, adv s p k = e) : ∀ (n q : Nat), e - (p + q) ≤ n → p + q ≤ e → (∃ k, adv s p k = p + q) →
    ∀ i, i < cnt (s.extract p e) q → (chs (s.extract p e) q)[i]? = (chs s (p + q))[i]? ∧ i < cnt s (p + q)
  | n, q, hn, hq, hqe, i, hi => by
    have hsz := part_size s p e he
    by_cases h : q < (s.extract p e).size
    · have hs : p + q < s.size := by omega
      have hw : p + q + cw s (p + q) ≤ e := by
        obtain ⟨k, hk⟩ := hqe
        obtain ⟨m, hm⟩ := hed
        have hkm : k + 1 ≤ m := by
          rcases Nat.lt_or_ge k m with hkm | hkm
          · exact hkm
          · have := adv_mono s p hkm; omega
        have h1 := adv_mono s p hkm
        rw [adv_succ, hk, adv_one hs] at h1
        omega
      have hpe : s.extract p e = (s.extract p s.size).extract 0 (e - p) := by
        rw [part_part s p s.size 0 (e - p) (by omega), Nat.add_zero, show p + (e - p) = e from by omega]
      have hcw : cw (s.extract p e) q = cw s (p + q) := by
        rw [hpe, head_cw _ _ _ (by rw [tail_size]; omega) (by omega), tail_cw, if_pos (by omega)]
      cases n with
      | zero => omega
      | succ n =>
        have hp1 := cw_pos s (p + q)
        rw [chs_step h, chs_step hs, hcw]
        rw [cnt_step h, hcw] at hi
        have hnext : ∃ k, adv s p k = p + (q + cw s (p + q)) := by
          obtain ⟨k, hk⟩ := hqe
          exact ⟨k + 1, by rw [adv_succ, hk, adv_one hs, Nat.add_assoc]⟩
        cases i with
        | zero =>
          refine ⟨?_, by rw [cnt_step hs]; omega⟩
          simp only [List.getElem?_cons_zero]
          rw [part_part s p e q (q + cw s (p + q)) (by omega), Nat.add_assoc]
        | succ i =>
          obtain ⟨h1, h2⟩ := chs_part s p e he hed n (q + cw s (p + q)) (by omega) (by omega) hnext i (by omega)
          rw [← Nat.add_assoc] at h1 h2
          refine ⟨by simpa using h1, by rw [cnt_step hs]; omega⟩
    · rw [cnt_end h] at hi; omega

/-- Characters joined are the part that they go through. -/
def joinB : List ByteArray → ByteArray
  | [] => ⟨#[]⟩
  | a :: l => a ++ joinB l

theorem join_take (s : ByteArray) : ∀ (k p : Nat), p ≤ s.size → joinB ((chs s p).take k) = s.extract p (adv s p k)
  | 0, p, _ => by rw [part_none s p (adv s p 0) (Nat.le_refl _)]; rfl
  | k + 1, p, hp => by
    by_cases h : p < s.size
    · rw [chs_step h, List.take_succ_cons, adv_step h]
      show s.extract p (p + cw s p) ++ joinB _ = _
      have hw := cw_le h
      rw [join_take s k _ hw]
      exact part_join s _ _ _ (by omega) (adv_ge s k _)
    · rw [chs_end h, adv_end h, part_none s p p (Nat.le_refl _)]; rfl

theorem join_all (s : ByteArray) : joinB (chs s 0) = s := by
  have h := join_take s s.size 0 (Nat.zero_le _)
  rw [adv_full s 0 _ (Nat.zero_le _) (by omega), part_all] at h
  rw [List.take_of_length_le] at h
  · exact h
  · have := cnt_le s s.size 0 (by omega); unfold cnt at this; omega

/-- The characters from the i-th on begin with t's just where t stands there, from edge to edge. -/
theorem begins_iff (s t : ByteArray) (i : Nat) (hi : i < cnt s 0) :
    chs t 0 <+: (chs s 0).drop i ↔ hitB s t (adv s 0 i) = true := by
  have hp : adv s 0 i < s.size := adv_lt_cnt s 0 i hi
  rw [chs_drop]
  unfold hitB
  simp only [Bool.and_eq_true]
  constructor
  · intro h
    rw [List.prefix_iff_eq_take] at h
    have hj := congrArg joinB h
    rw [join_all, join_take s _ _ (by omega)] at hj
    have hle := adv_le s (chs t 0).length (adv s 0 i) (by omega)
    have hge := adv_ge s (chs t 0).length (adv s 0 i)
    have hsz : t.size = adv s (adv s 0 i) (chs t 0).length - adv s 0 i := by
      have e := congrArg ByteArray.size hj
      rw [part_size s _ _ hle] at e
      exact e
    have he : adv s 0 i + t.size = adv s 0 (i + (chs t 0).length) := by rw [adv_add]; omega
    refine ⟨occ_of_part ?_, edgeB_of_edge s _ (by omega) ⟨i, rfl⟩, edgeB_of_edge s _ (by rw [he, adv_add]; exact hle) ⟨_, he.symm⟩⟩
    rw [he, adv_add]; exact hj.symm
  · rintro ⟨h1, _, h3⟩
    have hroom := occ_room (by omega) h1
    have hpart := occ_part h1
    obtain ⟨m, hm⟩ := edge_of_edgeB s _ hroom h3
    have him : adv s 0 i ≤ adv s 0 m := by omega
    have hed : ∃ k, adv s (adv s 0 i) k = adv s 0 i + t.size := by
      rcases Nat.lt_or_ge m i with h | h
      · have := adv_mono s 0 (Nat.le_of_lt h)
        exact ⟨0, by rw [adv_zero]; omega⟩
      · exact ⟨m - i, by rw [← adv_add, show i + (m - i) = m from by omega]; exact hm⟩
    have hc := chs_part s (adv s 0 i) (adv s 0 i + t.size) hroom hed t.size 0 (by omega) (by omega) ⟨0, rfl⟩
    rw [hpart, Nat.add_zero] at hc
    rw [List.prefix_iff_eq_take]
    apply List.ext_getElem?
    intro j
    by_cases hj : j < (chs t 0).length
    · rw [List.getElem?_take_of_lt hj]
      exact (hc j hj).1
    · rw [List.getElem?_eq_none (by omega), List.getElem?_eq_none (by rw [List.length_take]; omega)]

/-! ### Where it stands first -/
/-- The place (from 1) of the first character from which on s's characters begin with t's; 0, if there is none; 1 of an empty t. -/
def IsIdx (s t : ByteArray) (n : Nat) : Prop :=
  (n = 0 ∧ (∀ p, p ≤ s.size → hitB s t p = false)) ∨ (∃ i, n = i + 1 ∧ i ≤ cnt s 0 ∧ hitB s t (adv s 0 i) = true ∧ ∀ p, p < adv s 0 i → hitB s t p = false)

theorem hit_empty (s t : ByteArray) (h : t.size = 0) : hitB s t 0 = true := by
  have ht : t = ⟨#[]⟩ := by
    apply bytes_ext
    have := size_eq t
    exact List.eq_nil_of_length_eq_zero (by omega)
  subst ht
  unfold hitB
  rw [edgeB_of_edge s 0 (Nat.zero_le _) ⟨0, rfl⟩]
  show (occAt _ [] 0 && (true && edgeB s 0)) = true
  rw [edgeB_of_edge s 0 (Nat.zero_le _) ⟨0, rfl⟩]
  simp [occAt]

/-- Behind the last character nothing begins. -/
theorem hit_lt (s t : ByteArray) (p : Nat) (hp : p ≤ s.size) (ht : 0 < t.size) (h : hitB s t p = true) : p < s.size := by
  unfold hitB at h
  simp only [Bool.and_eq_true] at h
  have := occ_room hp h.1
  omega

/-- The number of characters ahead of a character's place. -/
theorem cnt_head (s : ByteArray) (i : Nat) (hi : i ≤ cnt s 0) : cnt (s.extract 0 (adv s 0 i)) 0 = i := by
  have hle := adv_le s i 0 (Nat.zero_le _)
  have hsz := head_size s (adv s 0 i) hle
  have key : ∀ k, k ≤ i → adv (s.extract 0 (adv s 0 i)) 0 k = adv s 0 k := fun k hk => head_adv s _ hle k 0 (Nat.zero_le _) (adv_mono s 0 hk)
  have h1 : cnt (s.extract 0 (adv s 0 i)) 0 ≤ i := by
    have h2 := cnt_adv (s.extract 0 (adv s 0 i)) 0 i
    rw [key i (Nat.le_refl _), cnt_end (by rw [hsz]; omega)] at h2
    omega
  rcases Nat.lt_or_ge (cnt (s.extract 0 (adv s 0 i)) 0) i with h | h
  · exfalso
    have h2 := adv_cnt (s.extract 0 (adv s 0 i)) 0 _ (Nat.zero_le _) (Nat.le_refl _)
    rw [key _ h1, hsz] at h2
    have h3 := adv_lt s 0 (cnt (s.extract 0 (adv s 0 i)) 0) (adv_lt_cnt s 0 _ (by omega))
    have h4 := adv_mono s 0 (show cnt (s.extract 0 (adv s 0 i)) 0 + 1 ≤ i from h)
    omega
  · omega

theorem idx_unique {s t : ByteArray} {n m : Nat} (h : IsIdx s t n) (h' : IsIdx s t m) : n = m := by
  rcases h with ⟨rfl, h0⟩ | ⟨i, rfl, hi, h1, h2⟩ <;> rcases h' with ⟨rfl, h0'⟩ | ⟨j, rfl, hj, h1', h2'⟩
  · rfl
  · have := h0 _ (adv_le s j 0 (Nat.zero_le _)); rw [h1'] at this; cases this
  · have := h0' _ (adv_le s i 0 (Nat.zero_le _)); rw [h1] at this; cases this
  · have hij : adv s 0 i = adv s 0 j := by
      rcases Nat.lt_trichotomy (adv s 0 i) (adv s 0 j) with h | h | h
      · have := h2' _ h; rw [h1] at this; cases this
      · exact h
      · have := h2 _ h; rw [h1'] at this; cases this
    have e1 := cnt_head s i hi
    rw [hij, cnt_head s j hj] at e1
    omega

/-- What is found: the part there. -/
theorem idx_part {s t : ByteArray} {i : Nat} (hit : hitB s t (adv s 0 i) = true) : s.extract (adv s 0 i) (adv s (adv s 0 i) (cnt t 0)) = t := by
  have hp := adv_le s i 0 (Nat.zero_le _)
  by_cases hc : cnt t 0 = 0
  · have h0 : t.size = 0 := by
      by_cases h : 0 < t.size
      · rw [cnt_step h] at hc; omega
      · omega
    have ht : t = ⟨#[]⟩ := by
      apply bytes_ext
      have := size_eq t
      exact List.eq_nil_of_length_eq_zero (by omega)
    rw [hc, adv_zero, part_none s _ _ (Nat.le_refl _), ht]
  · have hlt : adv s 0 i < s.size := hit_lt s t _ hp (by
      by_cases h : 0 < t.size
      · exact h
      · rw [cnt_end h] at hc; omega) hit
    have hi : i < cnt s 0 := by
      have h2 := cnt_adv s 0 i
      rw [cnt_step hlt] at h2
      omega
    rw [← begins_iff s t i hi, List.prefix_iff_eq_take] at hit
    rw [chs_drop] at hit
    have hj := congrArg joinB hit
    rw [join_all, join_take s _ _ hp] at hj
    exact hj.symm

end Go.Proofs.YtbbhcbpfffabpaaGreatDoor.T2
