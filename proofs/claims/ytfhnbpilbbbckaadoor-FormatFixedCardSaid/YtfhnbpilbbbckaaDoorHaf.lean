/- Merged by program: T2Cut. -/
import Derived.Lib.RuneCountTail
import Derived.Lib.IndexMore
/- Characters of a text as places: the widths that a range over a string goes by. Plain: no program. -/
namespace Go.Proofs.YtfhnbpilbbbckaaDoor.T2
open Go.Proofs.YtfhnbpilbbbckaaDoor Go.Proofs
open Go.Lib

/-! ### One character's width -/
theorem dN_pos (n a b c d : Nat) : 1 ≤ (decodeN n a b c d).2 := by
  unfold decodeN
  repeat' split
  all_goals simp

theorem dN_le (n a b c d : Nat) (hn : 1 ≤ n) : (decodeN n a b c d).2 ≤ n ∧ (decodeN n a b c d).2 ≤ 4 := by
  unfold decodeN
  repeat' split
  all_goals simp
  all_goals omega

theorem dN_lead (n a b c d : Nat) (h : 1 < (decodeN n a b c d).2) : 192 ≤ a := by
  unfold decodeN at h
  repeat' split at h
  all_goals simp at h
  all_goals omega

theorem dN_cont1 (n a b c d : Nat) (h : 1 < (decodeN n a b c d).2) : b / 64 = 2 := by
  unfold decodeN at h
  repeat' split at h
  all_goals simp at h
  all_goals omega

theorem dN_cont2 (n a b c d : Nat) (h : 2 < (decodeN n a b c d).2) : c / 64 = 2 := by
  unfold decodeN at h
  repeat' split at h
  all_goals simp at h
  all_goals omega

theorem dN_cont3 (n a b c d : Nat) (h : 3 < (decodeN n a b c d).2) : d / 64 = 2 := by
  unfold decodeN at h
  repeat' split at h
  all_goals simp at h
  all_goals omega

set_option maxHeartbeats 2000000 in
/-- What is cut off at its end: the same width, if there is room for it, else one byte. -/
theorem dN_cut (n m a b c d b' c' d' : Nat) (hm : m ≤ n) (h1 : 1 < m → b' = b) (h2 : 2 < m → c' = c) (h3 : 3 < m → d' = d) :
    (decodeN m a b' c' d').2 = if (decodeN n a b c d).2 ≤ m then (decodeN n a b c d).2 else 1 := by
  by_cases m1 : 1 < m
  · obtain rfl := h1 m1
    by_cases m2 : 2 < m
    · obtain rfl := h2 m2
      by_cases m3 : 3 < m
      · obtain rfl := h3 m3
        have n1 : 1 < n := by omega
        have n2 : 2 < n := by omega
        have n3 : 3 < n := by omega
        have e : decodeN m a b' c' d' = decodeN n a b' c' d' := by
          unfold decodeN
          simp only [m1, m2, m3, n1, n2, n3]
        rw [e, if_pos (by have := (dN_le n a b' c' d' (by omega)).2; omega)]
      · have n1 : 1 < n := by omega
        have n2 : 2 < n := by omega
        unfold decodeN
        simp only [m1, m2, m3, n1, n2, true_and, false_and, and_false, if_false]
        repeat' split
        all_goals first | rfl | (exfalso; omega) | (simp_all; done) | (simp_all; omega)
    · have n1 : 1 < n := by omega
      unfold decodeN
      simp only [m1, m2, n1, true_and, false_and, and_false, if_false]
      repeat' split
      all_goals first | rfl | (exfalso; omega) | (simp_all; done) | (simp_all; omega)
  · unfold decodeN
    simp only [m1, false_and, and_false, if_false]
    repeat' split
    all_goals first | rfl | (exfalso; omega) | (simp_all; done) | (simp_all; omega)

/-! ### Widths in a text -/
def cw (s : ByteArray) (p : Nat) : Nat := (Utf8.decode s p).2

theorem cw_eq (s : ByteArray) (p : Nat) : cw s p = (decodeN (s.size - p) (s.get! p).toNat (s.get! (p + 1)).toNat (s.get! (p + 2)).toNat (s.get! (p + 3)).toNat).2 := by
  unfold cw; rw [decode_at]

theorem cw_pos (s : ByteArray) (p : Nat) : 1 ≤ cw s p := by rw [cw_eq]; exact dN_pos _ _ _ _ _
theorem cw_le {s : ByteArray} {p : Nat} (h : p < s.size) : p + cw s p ≤ s.size := by
  rw [cw_eq]; have := (dN_le (s.size - p) (s.get! p).toNat (s.get! (p + 1)).toNat (s.get! (p + 2)).toNat (s.get! (p + 3)).toNat (by omega)).1; omega
theorem cw_four {s : ByteArray} {p : Nat} (h : p < s.size) : cw s p ≤ 4 := by
  rw [cw_eq]; exact (dN_le _ _ _ _ _ (by omega)).2
theorem cw_lead {s : ByteArray} {p : Nat} (h : 1 < cw s p) : 192 ≤ (s.get! p).toNat := by
  rw [cw_eq] at h; exact dN_lead _ _ _ _ _ h
theorem cw_cont {s : ByteArray} {p j : Nat} (hp : p < s.size) (h0 : 0 < j) (h : j < cw s p) : (s.get! (p + j)).toNat / 64 = 2 := by
  have h4 := cw_four hp
  rw [cw_eq] at h
  have hj : j = 1 ∨ j = 2 ∨ j = 3 := by rw [cw_eq] at h4; omega
  rcases hj with rfl | rfl | rfl
  · exact dN_cont1 _ _ _ _ _ h
  · exact dN_cont2 _ _ _ _ _ h
  · exact dN_cont3 _ _ _ _ _ h

theorem tail_cw (s : ByteArray) (n p : Nat) : cw (s.extract n s.size) p = cw s (n + p) := by
  unfold cw; rw [tail_decode]

theorem head_size (s : ByteArray) (e : Nat) (he : e ≤ s.size) : (s.extract 0 e).size = e := by
  rw [ByteArray.size_extract]; omega

theorem head_get! (s : ByteArray) (e j : Nat) (he : e ≤ s.size) (hj : j < e) : (s.extract 0 e).get! j = s.get! j := by
  rw [← getD_get!', ← getD_get!', extract_data]
  simp only [List.drop_zero, Nat.sub_zero]
  have hl : j < s.data.toList.length := by rw [← size_eq]; omega
  simp [List.getD, hj]

theorem head_cw (s : ByteArray) (e p : Nat) (he : e ≤ s.size) (hp : p < e) : cw (s.extract 0 e) p = if p + cw s p ≤ e then cw s p else 1 := by
  rw [cw_eq, cw_eq, head_size s e he, head_get! s e p he hp]
  rw [dN_cut (s.size - p) (e - p) (s.get! p).toNat (s.get! (p + 1)).toNat (s.get! (p + 2)).toNat (s.get! (p + 3)).toNat _ _ _ (by omega)
    (fun h => by rw [head_get! s e _ he (by omega)]) (fun h => by rw [head_get! s e _ he (by omega)]) (fun h => by rw [head_get! s e _ he (by omega)])]
  have hc : ((decodeN (s.size - p) (s.get! p).toNat (s.get! (p + 1)).toNat (s.get! (p + 2)).toNat (s.get! (p + 3)).toNat).2 ≤ e - p) = (p + (decodeN (s.size - p) (s.get! p).toNat (s.get! (p + 1)).toNat (s.get! (p + 2)).toNat (s.get! (p + 3)).toNat).2 ≤ e) := propext ⟨fun h => by omega, fun h => by omega⟩
  simp only [hc]

/-! ### So many characters on -/
def adv (s : ByteArray) : Nat → Nat → Nat
  | p, 0 => p
  | p, k + 1 => if p < s.size then adv s (p + cw s p) k else p

theorem adv_zero (s : ByteArray) (p : Nat) : adv s p 0 = p := rfl
theorem adv_step {s : ByteArray} {p : Nat} (h : p < s.size) (k : Nat) : adv s p (k + 1) = adv s (p + cw s p) k := by
  show (if p < s.size then adv s (p + cw s p) k else p) = _
  rw [if_pos h]
theorem adv_end {s : ByteArray} {p : Nat} (h : ¬ p < s.size) (k : Nat) : adv s p k = p := by
  cases k with
  | zero => rfl
  | succ k =>
    show (if p < s.size then adv s (p + cw s p) k else p) = _
    rw [if_neg h]
theorem adv_one {s : ByteArray} {p : Nat} (h : p < s.size) : adv s p 1 = p + cw s p := by rw [adv_step h]; rfl

theorem adv_add (s : ByteArray) : ∀ (i j p : Nat), adv s p (i + j) = adv s (adv s p i) j
  | 0, j, p => by rw [Nat.zero_add]; rfl
  | i + 1, j, p => by
    by_cases h : p < s.size
    · rw [show i + 1 + j = (i + j) + 1 from by omega, adv_step h, adv_step h, adv_add s i j]
    · rw [adv_end h, adv_end h, adv_end h]

theorem adv_succ (s : ByteArray) (k p : Nat) : adv s p (k + 1) = adv s (adv s p k) 1 := adv_add s k 1 p

theorem adv_ge (s : ByteArray) : ∀ (k p : Nat), p ≤ adv s p k
  | 0, p => Nat.le_refl _
  | k + 1, p => by
    by_cases h : p < s.size
    · rw [adv_step h]; have := adv_ge s k (p + cw s p); omega
    · rw [adv_end h]; exact Nat.le_refl _

theorem adv_le (s : ByteArray) : ∀ (k p : Nat), p ≤ s.size → adv s p k ≤ s.size
  | 0, p, h => h
  | k + 1, p, h => by
    by_cases hp : p < s.size
    · rw [adv_step hp]; exact adv_le s k _ (cw_le hp)
    · rw [adv_end hp]; exact h

theorem adv_mono (s : ByteArray) (p : Nat) {i j : Nat} (h : i ≤ j) : adv s p i ≤ adv s p j := by
  obtain ⟨d, rfl⟩ : ∃ d, j = i + d := ⟨j - i, by omega⟩
  rw [adv_add]; exact adv_ge s d _

theorem adv_lt (s : ByteArray) (p i : Nat) (h : adv s p i < s.size) : adv s p i < adv s p (i + 1) := by
  rw [adv_succ, adv_one h]; have := cw_pos s (adv s p i); omega

/-- Each step goes on by one byte at least. -/
theorem adv_far (s : ByteArray) : ∀ (k p : Nat), adv s p k < s.size → p + k ≤ adv s p k
  | 0, p, _ => Nat.le_refl _
  | k + 1, p, h => by
    by_cases hp : p < s.size
    · rw [adv_step hp] at h ⊢; have := adv_far s k _ h; have := cw_pos s p; omega
    · rw [adv_end hp] at h; exact absurd h hp

theorem adv_full (s : ByteArray) (p k : Nat) (hp : p ≤ s.size) (hk : s.size ≤ p + k) : adv s p k = s.size := by
  have h1 := adv_le s k p hp
  by_cases h : adv s p k < s.size
  · have := adv_far s k p h; omega
  · omega

/-- Each place lies in one character. -/
theorem adv_locate (s : ByteArray) : ∀ (n p r : Nat), r - p ≤ n → p ≤ r → r < s.size → ∃ k, adv s p k ≤ r ∧ r < adv s p (k + 1)
  | n, p, r, hn, hpr, hr => by
    have hp : p < s.size := by omega
    by_cases h : r < p + cw s p
    · exact ⟨0, hpr, by rw [adv_one hp]; exact h⟩
    · cases n with
      | zero => have := cw_pos s p; omega
      | succ n =>
        have := cw_pos s p
        obtain ⟨k, h1, h2⟩ := adv_locate s n (p + cw s p) r (by omega) (by omega) hr
        exact ⟨k + 1, by rw [adv_step hp]; exact h1, by rw [adv_step hp]; exact h2⟩

theorem tail_adv (s : ByteArray) (a : Nat) : ∀ (k p : Nat), a + adv (s.extract a s.size) p k = adv s (a + p) k
  | 0, p => rfl
  | k + 1, p => by
    by_cases h : a + p < s.size
    · rw [adv_step h, adv_step (by rw [tail_size]; omega), tail_adv s a k, tail_cw, Nat.add_assoc]
    · rw [adv_end h, adv_end (by rw [tail_size]; omega)]

/-- Characters ahead of an edge are those of what is cut there. -/
theorem head_adv (s : ByteArray) (e : Nat) (he : e ≤ s.size) : ∀ (k p : Nat), p ≤ e → adv s p k ≤ e → adv (s.extract 0 e) p k = adv s p k
  | 0, p, _, _ => rfl
  | k + 1, p, hp, hk => by
    by_cases h : p < e
    · have hs : p < s.size := by omega
      rw [adv_step hs] at hk ⊢
      have h1 := adv_ge s k (p + cw s p)
      rw [adv_step (by rw [head_size s e he]; exact h), head_cw s e p he h, if_pos (by omega)]
      exact head_adv s e he k _ (by omega) hk
    · have : p = e := by omega
      subst this
      rw [adv_end (s := s.extract 0 p) (by rw [head_size s p he]; omega)]
      have := adv_ge s (k + 1) p
      omega

/-! ### The characters -/
def chF (s : ByteArray) : Nat → Nat → List ByteArray
  | 0, _ => []
  | f + 1, p => if p < s.size then s.extract p (p + cw s p) :: chF s f (p + cw s p) else []

theorem chF_end (s : ByteArray) (f p : Nat) (h : ¬ p < s.size) : chF s f p = [] := by
  cases f with
  | zero => rfl
  | succ f => show (if _ then _ else _) = _; rw [if_neg h]

theorem chF_fuel (s : ByteArray) : ∀ (f g p : Nat), s.size - p ≤ f → s.size - p ≤ g → chF s f p = chF s g p
  | 0, g, p, hf, _ => by rw [chF_end s g p (by omega)]; rfl
  | f + 1, 0, p, _, hg => by rw [chF_end s (f + 1) p (by omega)]; rfl
  | f + 1, g + 1, p, hf, hg => by
    unfold chF
    by_cases h : p < s.size
    · have hw := cw_pos s p
      rw [if_pos h, if_pos h, chF_fuel s f g _ (by omega) (by omega)]
    · rw [if_neg h, if_neg h]

/-- The characters of a text from a place on. -/
def chs (s : ByteArray) (p : Nat) : List ByteArray := chF s (s.size - p) p
/-- How many there are. -/
def cnt (s : ByteArray) (p : Nat) : Nat := (chs s p).length

theorem chs_end {s : ByteArray} {p : Nat} (h : ¬ p < s.size) : chs s p = [] := chF_end s _ _ h
theorem chs_step {s : ByteArray} {p : Nat} (h : p < s.size) : chs s p = s.extract p (p + cw s p) :: chs s (p + cw s p) := by
  unfold chs
  obtain ⟨f, hf⟩ : ∃ f, s.size - p = f + 1 := ⟨s.size - p - 1, by omega⟩
  have hw := cw_pos s p
  rw [hf]
  show (if _ then _ else _) = _
  rw [if_pos h, chF_fuel s f (s.size - (p + cw s p)) _ (by omega) (Nat.le_refl _)]

theorem cnt_end {s : ByteArray} {p : Nat} (h : ¬ p < s.size) : cnt s p = 0 := by unfold cnt; rw [chs_end h]; rfl
theorem cnt_step {s : ByteArray} {p : Nat} (h : p < s.size) : cnt s p = cnt s (p + cw s p) + 1 := by unfold cnt; rw [chs_step h]; rfl

theorem cnt_le (s : ByteArray) : ∀ (n p : Nat), s.size - p ≤ n → cnt s p ≤ s.size - p
  | n, p, hn => by
    by_cases h : p < s.size
    · cases n with
      | zero => omega
      | succ n =>
        have hw := cw_pos s p
        have hl := cw_le h
        have := cnt_le s n (p + cw s p) (by omega)
        rw [cnt_step h]; omega
    · rw [cnt_end h]; omega

theorem chs_drop (s : ByteArray) : ∀ (k p : Nat), (chs s p).drop k = chs s (adv s p k)
  | 0, p => rfl
  | k + 1, p => by
    by_cases h : p < s.size
    · rw [chs_step h, List.drop_succ_cons, chs_drop s k, adv_step h]
    · rw [adv_end h, chs_end h]; rfl

theorem cnt_adv (s : ByteArray) (p k : Nat) : cnt s (adv s p k) = cnt s p - k := by
  unfold cnt; rw [← chs_drop, List.length_drop]

theorem adv_cnt (s : ByteArray) (p k : Nat) (hp : p ≤ s.size) (hk : cnt s p ≤ k) : adv s p k = s.size := by
  have h1 := adv_le s k p hp
  by_cases h : adv s p k < s.size
  · have h2 := cnt_adv s p k
    rw [cnt_step h] at h2
    omega
  · omega

theorem adv_lt_cnt (s : ByteArray) (p k : Nat) (hk : k < cnt s p) : adv s p k < s.size := by
  by_cases h : adv s p k < s.size
  · exact h
  · have h2 := cnt_adv s p k
    rw [cnt_end h] at h2
    omega

theorem chs_get (s : ByteArray) (p k : Nat) (hk : k < cnt s p) : (chs s p)[k]? = some (s.extract (adv s p k) (adv s p (k + 1))) := by
  have h := adv_lt_cnt s p k hk
  have h1 : ((chs s p).drop k)[0]? = (chs s p)[k]? := by simp
  rw [← h1, chs_drop, chs_step h, adv_succ, adv_one h]
  rfl

/-! ### Parts of a text -/
theorem bytes_ext {t u : ByteArray} (h : t.data.toList = u.data.toList) : t = u := by
  apply ByteArray.ext
  exact Array.toList_inj.1 h

theorem part_part (s : ByteArray) (a b c d : Nat) (hd : a + d ≤ b) : (s.extract a b).extract c d = s.extract (a + c) (a + d) := by
  apply bytes_ext
  rw [extract_data, extract_data, extract_data, List.drop_take, List.take_take, List.drop_drop]
  congr 1
  omega

theorem part_join (s : ByteArray) (a b c : Nat) (h1 : a ≤ b) (h2 : b ≤ c) : s.extract a b ++ s.extract b c = s.extract a c := by
  apply bytes_ext
  rw [ByteArray.data_append, Array.toList_append, extract_data, extract_data, extract_data]
  have e : c - a = (b - a) + (c - b) := by omega
  rw [e, List.take_add, List.drop_drop, show a + (b - a) = b from by omega]

theorem part_none (s : ByteArray) (a b : Nat) (h : b ≤ a) : s.extract a b = ⟨#[]⟩ := by
  apply bytes_ext
  rw [extract_data, show b - a = 0 from by omega]
  simp

theorem part_all (s : ByteArray) : s.extract 0 s.size = s := by
  apply bytes_ext
  rw [extract_data, List.drop_zero, Nat.sub_zero, size_eq]
  exact List.take_length

theorem part_size (s : ByteArray) (a b : Nat) (h : b ≤ s.size) : (s.extract a b).size = b - a := by
  rw [ByteArray.size_extract]; omega

end Go.Proofs.YtfhnbpilbbbckaaDoor.T2
