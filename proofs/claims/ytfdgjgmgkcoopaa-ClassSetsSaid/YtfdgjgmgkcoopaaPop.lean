/- How many bits a word has: what OnesCount64 reckons is that number. Plain Lean. -/
import Derived.Test.YtfdgjgmgkcoopaaSet
namespace Go.Proofs.Ytfdgjgmgkcoopaa

def M0 : Nat := 6148914691236517205
def M1 : Nat := 3689348814741910323
def M2 : Nat := 1085102592571150095
/-- What OnesCount64 reckons, in plain numbers. -/
def one1 (x : Nat) : Nat := (((x / 2) &&& M0) + (x &&& M0)) % 18446744073709551616
def one2 (x : Nat) : Nat := (((x / 4) &&& M1) + (x &&& M1)) % 18446744073709551616
def one3 (x : Nat) : Nat := ((x / 16 + x) % 18446744073709551616) &&& M2
def one4 (x : Nat) : Nat := (x + x / 256) % 18446744073709551616
def one5 (x : Nat) : Nat := (x + x / 65536) % 18446744073709551616
def one6 (x : Nat) : Nat := (x + x / 4294967296) % 18446744073709551616
def ones6 (x : Nat) : Nat := one6 (one5 (one4 (one3 (one2 (one1 x)))))

/-- So many of the first n bits are set. -/
def bsum (x : Nat) : Nat → Nat
  | 0 => 0
  | n + 1 => bsum x n + (x.testBit n).toNat
def cntTo (f : Nat → Nat) : Nat → Nat
  | 0 => 0
  | n + 1 => cntTo f n + (bit f n).toNat

theorem and_split (h l n m : Nat) (hl : l < 256) (hm : m < 256) : (256 * h + l) &&& (256 * n + m) = 256 * (h &&& n) + (l &&& m) := by
  apply Nat.eq_of_testBit_eq
  intro i
  have hlm : l &&& m < 2 ^ 8 := Nat.and_lt_two_pow _ (n := 8) hm
  rw [Nat.testBit_and, show (256 : Nat) = 2 ^ 8 from rfl, Nat.testBit_two_pow_mul_add _ (show l < 2 ^ 8 from hl), Nat.testBit_two_pow_mul_add _ (show m < 2 ^ 8 from hm), Nat.testBit_two_pow_mul_add _ hlm]
  by_cases h : i < 8
  · simp [h, Nat.testBit_and]
  · simp [h, Nat.testBit_and]

def b1 (l : Nat) : Nat := ((l / 2) &&& 85) + (l &&& 85)
def b2 (l : Nat) : Nat := ((l / 4) &&& 51) + (l &&& 51)
def b3 (l : Nat) : Nat := (l / 16 + l) &&& 15

theorem low1 : ∀ r : Fin 2, ∀ l : Fin 256, (128 * r.val + l.val / 2) &&& 85 = (l.val / 2) &&& 85 := by decide +kernel
theorem low2 : ∀ r : Fin 4, ∀ l : Fin 256, (64 * r.val + l.val / 4) &&& 51 = (l.val / 4) &&& 51 := by decide +kernel
theorem low3 : ∀ r : Fin 5, ∀ l : Fin 69, (16 * r.val + l.val / 16 + l.val) &&& 15 = (l.val / 16 + l.val) &&& 15 := by decide +kernel
theorem b1_lt : ∀ l : Fin 256, b1 l.val < 256 := by decide +kernel
theorem b21 : ∀ l : Fin 256, b2 (b1 l.val) < 69 ∧ b2 (b1 l.val) % 16 < 5 := by decide +kernel
theorem b321 : ∀ l : Fin 256, b3 (b2 (b1 l.val)) = bsum l.val 8 := by decide +kernel
theorem bsum8 : ∀ l : Fin 256, bsum l.val 8 ≤ 8 := by decide +kernel

theorem step1 (h l n : Nat) (hl : l < 256) : (((256 * h + l) / 2) &&& (256 * n + 85)) + ((256 * h + l) &&& (256 * n + 85)) = 256 * (((h / 2) &&& n) + (h &&& n)) + b1 l := by
  have e : (256 * h + l) / 2 = 256 * (h / 2) + (128 * (h % 2) + l / 2) := by omega
  rw [e, and_split _ _ _ _ (by omega) (by omega), and_split _ _ _ _ hl (by omega)]
  have := low1 ⟨h % 2, by omega⟩ ⟨l, hl⟩
  simp only at this
  rw [this]
  unfold b1
  omega
theorem step2 (h l n : Nat) (hl : l < 256) : (((256 * h + l) / 4) &&& (256 * n + 51)) + ((256 * h + l) &&& (256 * n + 51)) = 256 * (((h / 4) &&& n) + (h &&& n)) + b2 l := by
  have e : (256 * h + l) / 4 = 256 * (h / 4) + (64 * (h % 4) + l / 4) := by omega
  rw [e, and_split _ _ _ _ (by omega) (by omega), and_split _ _ _ _ hl (by omega)]
  have := low2 ⟨h % 4, by omega⟩ ⟨l, hl⟩
  simp only at this
  rw [this]
  unfold b2
  omega
theorem step3 (h l n : Nat) (hl : l < 69) (hh : h % 16 < 5) : ((256 * h + l) / 16 + (256 * h + l)) &&& (256 * n + 15) = 256 * ((h / 16 + h) &&& n) + b3 l := by
  have e : (256 * h + l) / 16 + (256 * h + l) = 256 * (h / 16 + h) + (16 * (h % 16) + l / 16 + l) := by omega
  rw [e, and_split _ _ _ _ (by omega) (by omega)]
  have := low3 ⟨h % 16, hh⟩ ⟨l, hl⟩
  simp only at this
  rw [this]
  rfl

/-- A word out of its eight bytes. -/
def word (a b c d e f g h : Nat) : Nat := 256 * (256 * (256 * (256 * (256 * (256 * (256 * h + g) + f) + e) + d) + c) + b) + a

theorem one1_word (a b c d e f g h : Nat) (ha : a < 256) (hb : b < 256) (hc : c < 256) (hd : d < 256) (he : e < 256) (hf : f < 256) (hg : g < 256) (hh : h < 256) :
    one1 (word a b c d e f g h) = word (b1 a) (b1 b) (b1 c) (b1 d) (b1 e) (b1 f) (b1 g) (b1 h) := by
  have l1 := b1_lt ⟨a, ha⟩; have l2 := b1_lt ⟨b, hb⟩; have l3 := b1_lt ⟨c, hc⟩; have l4 := b1_lt ⟨d, hd⟩
  have l5 := b1_lt ⟨e, he⟩; have l6 := b1_lt ⟨f, hf⟩; have l7 := b1_lt ⟨g, hg⟩; have l8 := b1_lt ⟨h, hh⟩
  simp only at l1 l2 l3 l4 l5 l6 l7 l8
  have e1 : M0 = 256 * (256 * (256 * (256 * (256 * (256 * (256 * 85 + 85) + 85) + 85) + 85) + 85) + 85) + 85 := rfl
  unfold one1
  rw [e1]
  unfold word
  rw [step1 _ _ _ ha, step1 _ _ _ hb, step1 _ _ _ hc, step1 _ _ _ hd, step1 _ _ _ he, step1 _ _ _ hf, step1 _ _ _ hg]
  rw [show (h / 2 &&& 85) + (h &&& 85) = b1 h from rfl]
  exact Nat.mod_eq_of_lt (by omega)
theorem one2_word (a b c d e f g h : Nat) (ha : a < 256) (hb : b < 256) (hc : c < 256) (hd : d < 256) (he : e < 256) (hf : f < 256) (hg : g < 256)
    (l1 : b2 a < 69) (l2 : b2 b < 69) (l3 : b2 c < 69) (l4 : b2 d < 69) (l5 : b2 e < 69) (l6 : b2 f < 69) (l7 : b2 g < 69) (l8 : b2 h < 69) :
    one2 (word a b c d e f g h) = word (b2 a) (b2 b) (b2 c) (b2 d) (b2 e) (b2 f) (b2 g) (b2 h) := by
  have e1 : M1 = 256 * (256 * (256 * (256 * (256 * (256 * (256 * 51 + 51) + 51) + 51) + 51) + 51) + 51) + 51 := rfl
  unfold one2
  rw [e1]
  unfold word
  rw [step2 _ _ _ ha, step2 _ _ _ hb, step2 _ _ _ hc, step2 _ _ _ hd, step2 _ _ _ he, step2 _ _ _ hf, step2 _ _ _ hg]
  rw [show (h / 4 &&& 51) + (h &&& 51) = b2 h from rfl]
  exact Nat.mod_eq_of_lt (by omega)
theorem one3_word (a b c d e f g h : Nat) (ha : a < 69) (hb : b < 69) (hc : c < 69) (hd : d < 69) (he : e < 69) (hf : f < 69) (hg : g < 69) (hh : h < 69)
    (kb : b % 16 < 5) (kc : c % 16 < 5) (kd : d % 16 < 5) (ke : e % 16 < 5) (kf : f % 16 < 5) (kg : g % 16 < 5) (kh : h % 16 < 5) :
    one3 (word a b c d e f g h) = word (b3 a) (b3 b) (b3 c) (b3 d) (b3 e) (b3 f) (b3 g) (b3 h) := by
  have e1 : M2 = 256 * (256 * (256 * (256 * (256 * (256 * (256 * 15 + 15) + 15) + 15) + 15) + 15) + 15) + 15 := rfl
  unfold one3
  rw [Nat.mod_eq_of_lt (by unfold word; omega), e1]
  unfold word
  rw [step3 _ _ _ ha (by omega), step3 _ _ _ hb (by omega), step3 _ _ _ hc (by omega), step3 _ _ _ hd (by omega), step3 _ _ _ he (by omega), step3 _ _ _ hf (by omega), step3 _ _ _ hg (by omega)]
  rfl
theorem one6_word (a b c d e f g h : Nat) (ha : a ≤ 8) (hb : b ≤ 8) (hc : c ≤ 8) (hd : d ≤ 8) (he : e ≤ 8) (hf : f ≤ 8) (hg : g ≤ 8) (hh : h ≤ 8) :
    one6 (one5 (one4 (word a b c d e f g h))) % 128 = a + b + c + d + e + f + g + h ∧ one6 (one5 (one4 (word a b c d e f g h))) < 9223372036854775808 := by
  have e4 : one4 (word a b c d e f g h) = word (a + b) (b + c) (c + d) (d + e) (e + f) (f + g) (g + h) h := by
    have : word a b c d e f g h / 256 = word b c d e f g h 0 := by unfold word; omega
    unfold one4
    rw [this]
    unfold word
    omega
  have e5 : one5 (word (a + b) (b + c) (c + d) (d + e) (e + f) (f + g) (g + h) h) = word (a + b + c + d) (b + c + d + e) (c + d + e + f) (d + e + f + g) (e + f + g + h) (f + g + h) (g + h) h := by
    have : word (a + b) (b + c) (c + d) (d + e) (e + f) (f + g) (g + h) h / 65536 = word (c + d) (d + e) (e + f) (f + g) (g + h) h 0 0 := by unfold word; omega
    unfold one5
    rw [this]
    unfold word
    omega
  rw [e4, e5]
  have : word (a + b + c + d) (b + c + d + e) (c + d + e + f) (d + e + f + g) (e + f + g + h) (f + g + h) (g + h) h / 4294967296 = word (e + f + g + h) (f + g + h) (g + h) h 0 0 0 0 := by unfold word; omega
  unfold one6
  rw [this]
  obtain ⟨X, hX⟩ : ∃ X, X = word (a + b + c + d) (b + c + d + e) (c + d + e + f) (d + e + f + g) (e + f + g + h) (f + g + h) (g + h) h + word (e + f + g + h) (f + g + h) (g + h) h 0 0 0 0 := ⟨_, rfl⟩
  rw [← hX]
  unfold word at hX
  clear this e4 e5
  have hl : X < 9223372036854775808 := by omega
  have hm : X % 18446744073709551616 = X := Nat.mod_eq_of_lt (by omega)
  rw [hm]
  exact ⟨by omega, hl⟩

theorem bsum_split (h l : Nat) (hl : l < 256) (n : Nat) : bsum (256 * h + l) (n + 8) = bsum l 8 + bsum h n := by
  have tb (i : Nat) : (256 * h + l).testBit i = if i < 8 then l.testBit i else h.testBit (i - 8) := Nat.testBit_two_pow_mul_add (i := 8) _ hl _
  induction n with
  | zero => simp [bsum, tb]
  | succ n ih =>
    rw [show n + 1 + 8 = (n + 8) + 1 from by omega]
    show bsum (256 * h + l) (n + 8) + ((256 * h + l).testBit (n + 8)).toNat = _
    rw [ih, tb, if_neg (by omega), Nat.add_sub_cancel]
    show _ = bsum l 8 + (bsum h n + (h.testBit n).toNat)
    omega

theorem ones6_eq (x : Nat) (hx : x < 18446744073709551616) : ones6 x % 128 = bsum x 64 ∧ ones6 x < 9223372036854775808 := by
  obtain ⟨a, b, c, d, e, f, g, h, ha, hb, hc, hd, he, hf, hg, hh, hw⟩ : ∃ a b c d e f g h, a < 256 ∧ b < 256 ∧ c < 256 ∧ d < 256 ∧ e < 256 ∧ f < 256 ∧ g < 256 ∧ h < 256 ∧ x = word a b c d e f g h :=
    ⟨x % 256, x / 256 % 256, x / 65536 % 256, x / 16777216 % 256, x / 4294967296 % 256, x / 1099511627776 % 256, x / 281474976710656 % 256, x / 72057594037927936 % 256, by omega, by omega, by omega, by omega, by omega, by omega, by omega, by omega, by unfold word; omega⟩
  have s : bsum x 64 = bsum a 8 + bsum b 8 + bsum c 8 + bsum d 8 + bsum e 8 + bsum f 8 + bsum g 8 + bsum h 8 := by
    rw [hw]
    unfold word
    rw [bsum_split _ _ ha 56, bsum_split _ _ hb 48, bsum_split _ _ hc 40, bsum_split _ _ hd 32, bsum_split _ _ he 24, bsum_split _ _ hf 16, bsum_split _ _ hg 8]
    omega
  have q1 := b21 ⟨a, ha⟩; have q2 := b21 ⟨b, hb⟩; have q3 := b21 ⟨c, hc⟩; have q4 := b21 ⟨d, hd⟩
  have q5 := b21 ⟨e, he⟩; have q6 := b21 ⟨f, hf⟩; have q7 := b21 ⟨g, hg⟩; have q8 := b21 ⟨h, hh⟩
  have t1 := b321 ⟨a, ha⟩; have t2 := b321 ⟨b, hb⟩; have t3 := b321 ⟨c, hc⟩; have t4 := b321 ⟨d, hd⟩
  have t5 := b321 ⟨e, he⟩; have t6 := b321 ⟨f, hf⟩; have t7 := b321 ⟨g, hg⟩; have t8 := b321 ⟨h, hh⟩
  have u1 := bsum8 ⟨a, ha⟩; have u2 := bsum8 ⟨b, hb⟩; have u3 := bsum8 ⟨c, hc⟩; have u4 := bsum8 ⟨d, hd⟩
  have u5 := bsum8 ⟨e, he⟩; have u6 := bsum8 ⟨f, hf⟩; have u7 := bsum8 ⟨g, hg⟩; have u8 := bsum8 ⟨h, hh⟩
  simp only at q1 q2 q3 q4 q5 q6 q7 q8 t1 t2 t3 t4 t5 t6 t7 t8 u1 u2 u3 u4 u5 u6 u7 u8
  unfold ones6
  rw [hw, one1_word _ _ _ _ _ _ _ _ ha hb hc hd he hf hg hh,
    one2_word _ _ _ _ _ _ _ _ (b1_lt ⟨a, ha⟩) (b1_lt ⟨b, hb⟩) (b1_lt ⟨c, hc⟩) (b1_lt ⟨d, hd⟩) (b1_lt ⟨e, he⟩) (b1_lt ⟨f, hf⟩) (b1_lt ⟨g, hg⟩) q1.1 q2.1 q3.1 q4.1 q5.1 q6.1 q7.1 q8.1,
    one3_word _ _ _ _ _ _ _ _ q1.1 q2.1 q3.1 q4.1 q5.1 q6.1 q7.1 q8.1 q2.2 q3.2 q4.2 q5.2 q6.2 q7.2 q8.2, ← hw, s, t1, t2, t3, t4, t5, t6, t7, t8]
  exact one6_word _ _ _ _ _ _ _ _ u1 u2 u3 u4 u5 u6 u7 u8

theorem cnt_word (f : Nat → Nat) (k : Nat) : ∀ m, m ≤ 64 → cntTo f (64 * k + m) = cntTo f (64 * k) + bsum (f k) m
  | 0, _ => rfl
  | m + 1, h => by
    show cntTo f (64 * k + m) + (bit f (64 * k + m)).toNat = cntTo f (64 * k) + (bsum (f k) m + ((f k).testBit m).toNat)
    rw [cnt_word f k m (by omega)]
    unfold bit
    rw [show (64 * k + m) / 64 = k from by omega, show (64 * k + m) % 64 = m from by omega]
    omega
theorem cnt_le (f : Nat → Nat) : ∀ n, cntTo f n ≤ n
  | 0 => Nat.le_refl _
  | n + 1 => by
    have := cnt_le f n
    have h2 : (bit f n).toNat ≤ 1 := Bool.toNat_le _
    show cntTo f n + (bit f n).toNat ≤ n + 1
    omega
theorem cnt_not (f g : Nat → Nat) (h : ∀ c, c < 256 → bit g c = !bit f c) : ∀ n, n ≤ 256 → cntTo g n + cntTo f n = n
  | 0, _ => rfl
  | n + 1, hn => by
    have ih := cnt_not f g h n (by omega)
    show cntTo g n + (bit g n).toNat + (cntTo f n + (bit f n).toNat) = n + 1
    rw [h n (by omega)]
    cases bit f n <;> simp <;> omega
end Go.Proofs.Ytfdgjgmgkcoopaa
