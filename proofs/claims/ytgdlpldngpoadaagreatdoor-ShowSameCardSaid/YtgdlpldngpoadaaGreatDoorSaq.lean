/- Merged by program: LexSg, LexPs. -/
import Derived.StillTailTactics
import Derived.Test.YtgdlpldngpoadaaGreatDoorSap
/- number, sign: walks. -/
namespace Go.Proofs.YtgdlpldngpoadaaGreatDoor
open Go.RowKit

set_option maxRecDepth 100000 in
set_option maxHeartbeats 1000000 in
theorem number_spec (p : Nat) (s : ByteArray) (k : Nat) (L : Tok) (w : World) (h : Rd w p s k L) (hk : k ≤ s.size) (hs : s.size ≤ 8000) :
    Calls Tryz.prog 160 #[.pointer (some ⟨p, 0, none⟩)] w (TookAt p s k (numN (s.data.toList.drop k)) L w) := by
  have HL := Lib.hid (fun j w h (hj : j ≤ s.size) => left_spec p s j L w h hj)
  have HRun := Lib.hid (fun t w h => run_dig t h w)
  have HT := Lib.hid (fun n w h hn => take_spec p s k n L w h hn hs)
  have HH := Lib.hid (fun t c l hl w => hp1_spec t c l hl w)
  have R := Lib.hid h
  have hlen : (s.data.toList.drop k).length = s.size - k := by rw [List.length_drop, ← Lib.size_eq]
  have hrn := runN_le digB (s.data.toList.drop k)
  rw [hlen] at hrn
  obtain ⟨l, hl⟩ : ∃ l, l = s.data.toList.drop k := ⟨_, rfl⟩
  rw [← hl] at hrn hlen ⊢
  obtain ⟨n, hn⟩ : ∃ n, n = runN digB l := ⟨_, rfl⟩
  rw [← hn] at hrn
  have HN := Lib.hid hn
  have HLl := Lib.hid hl
  have HLen := Lib.hid hlen
  clear h hn hl hlen
  go_enter Tryz.func160, Tryz.ntmps160
  go_wp2_with fail
  refine (HL.out k _ R.out hk).mono ?_
  rintro e w1 ⟨t, rfl, ht, hsz, m, rfl⟩
  have B1 := Lib.hid (But.of (p := p) (drewN_below w m))
  have R1 := Lib.hid (R.out.drewN m)
  have HT1 : Hid (t.data.toList = l) := Lib.hid (by rw [ht.out, HLl.out])
  have hts : n ≤ t.size := by omega
  have hts2 : t.size ≤ 8000 := by omega
  have HSz : Hid (t.size = s.size - k) := Lib.hid hsz
  clear ht hsz
  go_wp2_with fail
  refine (HRun.out t _ (by omega)).mono ?_
  rintro e w1 ⟨rfl, rfl⟩
  rw [HT1.out, ← HN.out]
  have HX : Hid ((t.extract n t.size).data.toList = l.drop n) := Lib.hid (by rw [extract_end, HT1.out])
  cases hh : headIs (l.drop n) 46
  case false =>
    have HE : Hid (numN l = n) := Lib.hid (by unfold numN; rw [← HN.out, if_neg (fun h => by rw [head_iff.1 h] at hh; exact absurd hh (by decide))])
    have HHd := Lib.hid hh; clear hh
    go_wp2_with fail
    refine (HH.out _ 46 _ HX.out _).mono ?_
    rintro e w1 ⟨rfl, rfl⟩
    rw [HHd.out]
    go_wp2_with fail
    refine (HT.out n _ R1.out (by omega)).mono ?_
    rintro e w2 ⟨t2, rfl, ht2, hsz2, R2, b2⟩
    have HB2 := Lib.hid (B1.out.trans b2)
    have HR2 := Lib.hid R2
    have HS2 := Lib.hid hsz2
    clear b2 R2 hsz2
    go_wp2_with fail
    go_ret
    rw [HE.out]
    exact ⟨t2, rfl, ht2, HS2.out, HR2.out, HB2.out⟩
  case true =>
    have HE : Hid (numN l = n + 1 + runN digB (l.drop (n + 1))) := Lib.hid (by unfold numN; rw [← HN.out, if_pos (head_iff.2 hh)])
    have hlt : n < t.size := by
      obtain ⟨r, hr⟩ := headIs_yes hh
      have : (l.drop n).length = l.length - n := List.length_drop
      rw [hr] at this
      simp at this
      have := HLen.out
      have := HSz.out
      omega
    have HHd := Lib.hid hh; clear hh
    have HX2 : Hid ((t.extract (n + 1) t.size).data.toList = l.drop (n + 1)) := Lib.hid (by rw [extract_end, HT1.out])
    have hx2s : (t.extract (n + 1) t.size).size ≤ 8000 := by rw [ByteArray.size_extract]; omega
    have hrn2 : runN digB (l.drop (n + 1)) ≤ t.size - (n + 1) := by
      have := runN_le digB (l.drop (n + 1))
      rw [List.length_drop, HLen.out] at this
      have := HSz.out
      omega
    obtain ⟨n2, hn2⟩ : ∃ n2, n2 = runN digB (l.drop (n + 1)) := ⟨_, rfl⟩
    rw [← hn2] at HE hrn2
    have HN2 := Lib.hid hn2; clear hn2
    have hle : k + (n + 1 + n2) ≤ s.size := by have := HSz.out; omega
    go_wp2_with fail
    refine (HH.out _ 46 _ HX.out _).mono ?_
    rintro e w1 ⟨rfl, rfl⟩
    rw [HHd.out]
    go_wp2_with fail
    refine (HRun.out _ _ (by omega)).mono ?_
    rintro e w1 ⟨rfl, rfl⟩
    rw [HX2.out, ← HN2.out]
    go_wp2_with fail
    refine (HT.out (n + 1 + n2) _ R1.out hle).mono ?_
    rintro e w2 ⟨t2, rfl, ht2, hsz2, R2, b2⟩
    have HB2 := Lib.hid (B1.out.trans b2)
    have HR2 := Lib.hid R2
    have HS2 := Lib.hid hsz2
    clear b2 R2 hsz2
    go_wp2_with fail
    go_ret
    rw [HE.out]
    exact ⟨t2, rfl, ht2, HS2.out, HR2.out, HB2.out⟩

def SignAt (p : Nat) (s : ByteArray) (k : Nat) (L : Tok) (n : Nat) (w : World) (e : Ending) (w' : World) : Prop :=
  (n = 0 ∧ Fell p k 4 w e w') ∨ (0 < n ∧ TookAt p s k n L w e w')
theorem sign_two {l : List UInt8} (h : 2 ≤ l.length) (b : signB (l.take 2) = true) : signN l = 2 := by unfold signN; rw [if_pos ⟨h, b⟩]
theorem sign_one {l : List UInt8} (h : 1 ≤ l.length) (h2 : 2 ≤ l.length → signB (l.take 2) = false) (b : signB (l.take 1) = true) : signN l = 1 := by
  unfold signN
  rw [if_neg (fun x => by rw [h2 x.1] at x; exact absurd x.2 (by decide)), if_pos ⟨h, b⟩]
theorem sign_none {l : List UInt8} (h1 : 1 ≤ l.length → signB (l.take 1) = false) (h2 : 2 ≤ l.length → signB (l.take 2) = false) : signN l = 0 := by
  unfold signN
  rw [if_neg (fun x => by rw [h2 x.1] at x; exact absurd x.2 (by decide)), if_neg (fun x => by rw [h1 x.1] at x; exact absurd x.2 (by decide))]

set_option maxRecDepth 100000 in
set_option maxHeartbeats 1000000 in
theorem sign_walk (p : Nat) (s : ByteArray) (k : Nat) (L : Tok) (w : World) (h : Rd w p s k L) (hk : k ≤ s.size) (hs : s.size ≤ 8000) :
    Calls Tryz.prog 164 #[.pointer (some ⟨p, 0, none⟩)] w (SignAt p s k L (signN (s.data.toList.drop k)) w) := by
  have HL := Lib.hid (fun j w h (hj : j ≤ s.size) => left_spec p s j L w h hj)
  have HT := Lib.hid (fun n w h hn => take_spec p s k n L w h hn hs)
  have HS := Lib.hid (fun t l hl w => sign_spec t l hl w)
  have R := Lib.hid h
  have c1 := h.c1
  have hlen : (s.data.toList.drop k).length = s.size - k := by rw [List.length_drop, ← Lib.size_eq]
  obtain ⟨l, hl⟩ : ∃ l, l = s.data.toList.drop k := ⟨_, rfl⟩
  rw [← hl] at hlen ⊢
  have HLl := Lib.hid hl
  have HLen := Lib.hid hlen
  clear h hl hlen
  go_enter Tryz.func164, Tryz.ntmps164
  go_wp2_with fail
  refine (HL.out k _ R.out hk).mono ?_
  rintro e w1 ⟨t, rfl, ht, hsz, m, rfl⟩
  have B1 := Lib.hid (But.of (p := p) (drewN_below w m))
  have R1 := Lib.hid (R.out.drewN m)
  have HT1 : Hid (t.data.toList = l) := Lib.hid (by rw [ht.out, HLl.out])
  have hts2 : t.size ≤ 8000 := by omega
  have HSz : Hid (t.size = s.size - k) := Lib.hid hsz
  have d1 : (w.drewN m).cell? ⟨p, 1, none⟩ = some (.int .i64 k) := by simpa using c1
  clear ht hsz c1
  obtain ⟨n0, hn0⟩ : ∃ n0 : Nat, n0 = min 2 t.size := ⟨_, rfl⟩
  have hmin : min 2 (t.size : Int) = (n0 : Int) := by rw [hn0]; omega
  have hn2 : n0 ≤ 2 := by omega
  have hnt : n0 ≤ t.size := by omega
  have HN0 := Lib.hid hn0
  clear hn0
  go_wp2_with fail

  clear hmin
  go_loop [4] (fun i => ∃ n : Nat, n ≤ n0 ∧ i = .int .i64 n ∧ Hid (∀ m, n < m → m ≤ n0 → signB (l.take m) = false)) (fun i => (intOf i).toNat)
  case atStart => exact ⟨n0, Nat.le_refl _, rfl, Lib.hid (fun m h1 h2 => by omega)⟩
  case round =>
    obtain ⟨n, hn, rfl, HNo⟩ := hrel
    by_cases h0 : 0 < n
    · have HX : Hid ((t.extract 0 n).data.toList = l.take n) := Lib.hid (by rw [extract_list, HT1.out, List.drop_zero, Nat.sub_zero])
      cases hb : signB (l.take n)
      case true =>
        have HE : Hid (signN l = n) := Lib.hid (by
          have h1 := HLen.out
          have h2 := HSz.out
          have h3 := HN0.out
          have h4 : n = 1 ∨ n = 2 := by omega
          rcases h4 with rfl | rfl
          · exact sign_one (by omega) (fun h => HNo.out 2 (by omega) (by omega)) hb
          · exact sign_two (by omega) hb)
        have HB := Lib.hid hb; clear hb
        go_wp2_with fail
        refine (HS.out _ _ HX.out _).mono ?_
        rintro e w1 ⟨rfl, rfl⟩
        rw [HB.out]
        go_wp2_with fail
        refine (HT.out n _ R1.out (by have := HSz.out; omega)).mono ?_
        rintro e w2 ⟨t2, rfl, ht2, hsz2, R2, b2⟩
        have HB2 := Lib.hid (B1.out.trans b2)
        have HR2 := Lib.hid R2
        have HS2 := Lib.hid hsz2
        clear b2 R2 hsz2
        go_wp2_with fail
        go_ret
        rw [HE.out]
        exact Or.inr ⟨h0, t2, rfl, ht2, HS2.out, HR2.out, HB2.out⟩
      case false =>
        have HB := Lib.hid hb; clear hb
        go_wp2_with fail
        refine (HS.out _ _ HX.out _).mono ?_
        rintro e w1 ⟨rfl, rfl⟩
        rw [HB.out]
        go_wp2_with fail
        go_round
        case rel =>
          refine ⟨n - 1, by omega, by go_num, Lib.hid (fun m h1 h2 => ?_)⟩
          by_cases he : m = n
          · rw [he]; exact HB.out
          · exact HNo.out m (by omega) h2
        case measure => simp [intOf]; omega
    · have hn0 : n = 0 := by omega
      subst hn0
      have HE : Hid (signN l = 0) := Lib.hid (by
        have h1 := HLen.out
        have h2 := HSz.out
        have h3 := HN0.out
        exact sign_none (fun h => HNo.out 1 (by omega) (by omega)) (fun h => HNo.out 2 (by omega) (by omega)))
      clear h0
      go_wp2_with fail
      rw [HE.out]
      exact ⟨rfl, Or.inl ⟨rfl, rfl, B1.out⟩⟩
end Go.Proofs.YtgdlpldngpoadaaGreatDoor

/- pass: a walk. -/
namespace Go.Proofs.YtgdlpldngpoadaaGreatDoor
open Go.RowKit

theorem passN_fuel : ∀ (f g : Nat) (l : List UInt8), l.length ≤ f → l.length ≤ g → passN f l = passN g l
  | 0, g, l, hf, _ => by
    obtain rfl := List.eq_nil_of_length_eq_zero (Nat.le_zero.1 hf)
    cases g <;> rfl
  | f + 1, 0, l, _, hg => by
    obtain rfl := List.eq_nil_of_length_eq_zero (Nat.le_zero.1 hg)
    rfl
  | f + 1, g + 1, l, hf, hg => by
    cases l with
    | nil => rfl
    | cons c t =>
      simp only [List.length_cons] at hf hg
      unfold passN
      simp only []
      rw [passN_fuel f g t (by omega) (by omega), passN_fuel f g (t.drop 1) (by simp; omega) (by simp; omega), passN_fuel f g (t.drop (runN notFeedB t)) (by simp; omega) (by simp; omega)]
def passA (l : List UInt8) : Nat := passN l.length l
theorem passA_cons (c : UInt8) (t : List UInt8) : passA (c :: t) = if c = 32 then passA t + 1 else if c = 9 then passA t + 1 else if c = 92 ∧ t.head? = some 10 then passA (t.drop 1) + 2
      else if c = 35 then passA (t.drop (runN notFeedB t)) + (runN notFeedB t + 1) else 0 := by
  unfold passA
  conv => lhs; rw [List.length_cons]; unfold passN
  simp only []
  rw [passN_fuel t.length (t.drop 1).length (t.drop 1) (by simp) (Nat.le_refl _), passN_fuel t.length (t.drop (runN notFeedB t)).length (t.drop (runN notFeedB t)) (by simp) (Nat.le_refl _)]

/-- What comes ahead of the next token. -/
inductive Pa1 (l : List UInt8) : Prop where
  | one (b1 : headIs l 32 = true ∨ (headIs l 32 = false ∧ headIs l 9 = true)) (h : passA l = passA (l.drop 1) + 1) (hl : 1 ≤ l.length)
  | two (b1 : headIs l 32 = false) (b2 : headIs l 9 = false) (b3 : Lib.hasPrefix l [92, 10] = true) (h : passA l = passA (l.drop 2) + 2) (hl : 2 ≤ l.length)
  | note (b1 : headIs l 32 = false) (b2 : headIs l 9 = false) (b3 : Lib.hasPrefix l [92, 10] = false) (b4 : headIs l 35 = true) (h : passA l = passA (l.drop (runN notFeedB l)) + runN notFeedB l) (hl : 1 ≤ runN notFeedB l)
  | stop (b1 : headIs l 32 = false) (b2 : headIs l 9 = false) (b3 : Lib.hasPrefix l [92, 10] = false) (b4 : headIs l 35 = false) (h : passA l = 0)
theorem pa1 (l : List UInt8) : Pa1 l := by
  cases l with
  | nil => exact .stop rfl rfl rfl rfl rfl
  | cons c t =>
    have hc := passA_cons c t
    by_cases h32 : c = 32
    · subst h32
      exact .one (Or.inl rfl) (by rw [hc, if_pos rfl]; rfl) (by simp)
    have b1 : headIs (c :: t) 32 = false := by simpa [headIs] using fun h => h32 h.symm
    rw [if_neg h32] at hc
    by_cases h9 : c = 9
    · subst h9
      exact .one (Or.inr ⟨b1, rfl⟩) (by rw [hc, if_pos rfl]; rfl) (by simp)
    have b2 : headIs (c :: t) 9 = false := by simpa [headIs] using fun h => h9 h.symm
    rw [if_neg h9] at hc
    by_cases h92 : c = 92 ∧ t.head? = some 10
    · rw [if_pos h92] at hc
      obtain ⟨rfl, ht⟩ := h92
      cases t with
      | nil => exact absurd ht (by simp)
      | cons d u =>
        have : d = 10 := Option.some.inj ht
        subst this
        exact .two b1 b2 (by simp [Lib.hasPrefix, List.isPrefixOf]) (by rw [hc]; rfl) (by simp)
    rw [if_neg h92] at hc
    have b3 : Lib.hasPrefix (c :: t) [92, 10] = false := by
      cases t with
      | nil => simp [Lib.hasPrefix, List.isPrefixOf]
      | cons d u =>
        have : ¬ (c = 92 ∧ d = 10) := fun h => h92 ⟨h.1, by rw [h.2]; rfl⟩
        simp only [Lib.hasPrefix, List.isPrefixOf, Bool.and_true, Bool.and_eq_false_iff, beq_eq_false_iff_ne, ne_eq]
        by_cases h : c = 92
        · exact Or.inr fun e => this ⟨h, e.symm⟩
        · exact Or.inl fun e => h e.symm
    by_cases h35 : c = 35
    · rw [if_pos h35] at hc
      subst h35
      have hr : runN notFeedB (35 :: t) = runN notFeedB t + 1 := by
        show (if notFeedB 35 = true then runN notFeedB t + 1 else 0) = _
        rw [if_pos (by decide)]
      exact .note b1 b2 b3 rfl (by rw [hr]; exact hc) (by rw [hr]; omega)
    · rw [if_neg h35] at hc
      exact .stop b1 b2 b3 (by simpa [headIs] using fun h => h35 h.symm) hc

def PassAt (p : Nat) (s : ByteArray) (k : Nat) (L : Tok) (w : World) (e : Ending) (w' : World) : Prop := e = .returned (.tuple #[]) ∧ Rd w' p s (k + passA (s.data.toList.drop k)) L ∧ But p w w' ∧ k + passA (s.data.toList.drop k) ≤ s.size
theorem pass_le (s : ByteArray) (k : Nat) (hk : k ≤ s.size) : k + passA (s.data.toList.drop k) ≤ s.size := by
  have h : ∀ (n : Nat) (l : List UInt8), l.length ≤ n → passA l ≤ l.length := by
    intro n
    induction n with
    | zero =>
      intro l hl
      obtain rfl := List.eq_nil_of_length_eq_zero (Nat.le_zero.1 hl)
      exact Nat.le_refl _
    | succ n ih =>
      intro l hl
      rcases pa1 l with ⟨_, h, h1⟩ | ⟨_, _, _, h, h1⟩ | ⟨_, _, _, _, h, h1⟩ | ⟨_, _, _, _, h⟩
      · have := ih (l.drop 1) (by rw [List.length_drop]; omega); rw [List.length_drop] at this; omega
      · have := ih (l.drop 2) (by rw [List.length_drop]; omega); rw [List.length_drop] at this; omega
      · have h2 := runN_le notFeedB l
        have := ih (l.drop (runN notFeedB l)) (by rw [List.length_drop]; omega); rw [List.length_drop] at this; omega
      · omega
  have h1 := h _ (s.data.toList.drop k) (Nat.le_refl _)
  rw [List.length_drop, ← Lib.size_eq] at h1
  omega

set_option maxRecDepth 100000 in
set_option maxHeartbeats 1000000 in
theorem pass_spec (p : Nat) (s : ByteArray) (k : Nat) (L : Tok) (w : World) (h : Rd w p s k L) (hk : k ≤ s.size) (hs : s.size ≤ 8000) :
    Calls Tryz.prog 131 #[.pointer (some ⟨p, 0, none⟩)] w (PassAt p s k L w) := by
  have HL := Lib.hid (fun j w h (hj : j ≤ s.size) => left_spec p s j L w h hj)
  have HRun := Lib.hid (fun t w h => run_feed t h w)
  have HH := Lib.hid (fun t c l hl w => hp1_spec t c l hl w)
  have HP := Lib.hid (fun s p b h w => hp_spec s p b h w)
  have HF := Lib.hid (pass_le s k hk)
  have HR0 := Lib.hid h
  clear h
  go_enter Tryz.func131, Tryz.ntmps131
  go_wp2_with fail
  go_loopg [2] (s.size - k) (fun q _ wr => ∃ j : Nat, Hid (s.size - j = q) ∧ j ≤ s.size ∧ Hid (Rd wr p s j L) ∧ Hid (But p w wr) ∧ Hid (k + passA (s.data.toList.drop k) = j + passA (s.data.toList.drop j)))
  case atStart => exact ⟨k, Lib.hid rfl, hk, HR0, Lib.hid (.refl _ _), Lib.hid rfl⟩
  case round =>
    clear HR0
    obtain ⟨j, hq, hj, R, B0, HE⟩ := hrel
    go_wp2_with fail
    refine (HL.out j _ R.out hj).mono ?_
    rintro e w1 ⟨t, rfl, ht, hsz, n, rfl⟩
    have HT : Hid (t.data.toList = s.data.toList.drop j) := ht
    have R1 := Lib.hid (R.out.drewN n)
    have B1 := Lib.hid (B0.out.trans (.of (drewN_below wr n)))
    have hts : t.size ≤ 8000 := by omega
    have HSz : Hid (t.size = s.size - j) := Lib.hid hsz
    clear ht hsz
    obtain ⟨V, hV⟩ : ∃ V, V = wr.drewN n := ⟨_, rfl⟩
    rw [← hV] at R1 B1 ⊢
    clear hV
    have c1 := R1.out.c1
    have z1 := R1.out.z 1
    obtain ⟨l, hl⟩ : ∃ l, l = s.data.toList.drop j := ⟨_, rfl⟩
    rw [← hl] at HT HE
    have HLl := Lib.hid hl
    clear hl
    have hll : Hid (l.length = s.size - j) := Lib.hid (by rw [HLl.out, List.length_drop, ← Lib.size_eq])
    have HD : Hid (∀ m, l.drop m = s.data.toList.drop (j + m)) := Lib.hid (fun m => by rw [HLl.out, List.drop_drop])
    rcases pa1 l with ⟨b, hp, hl1⟩ | ⟨b1, b2, b3, hp, hl1⟩ | ⟨b1, b2, b3, b4, hp, hl1⟩ | ⟨b1, b2, b3, b4, hp⟩
    · have HPP := Lib.hid hp; clear hp
      have hj1 : j + 1 ≤ s.size := by have := hll.out; omega
      have R2 := Lib.hid (R1.out.put1 (j + 1))
      have B2 := Lib.hid (B1.out.put 1 (.int .i64 ((j + 1 : Nat) : Int)))
      have ej : ((j + 1 : Nat) : Int) = (j : Int) + 1 := by omega
      rw [ej] at R2 B2
      clear ej
      have HE2 : Hid (k + passA (s.data.toList.drop k) = (j + 1) + passA (s.data.toList.drop (j + 1))) := Lib.hid (by rw [HE.out, HPP.out, HD.out]; omega)
      rcases b with b1 | ⟨b1, b2⟩
      · have HB1 := Lib.hid b1; clear b1
        go_wp2_with fail
        refine (HH.out t 32 _ HT.out _).mono ?_
        rintro e w1 ⟨rfl, rfl⟩
        rw [HB1.out]
        go_wp2_with fail
        go_roundg (s.size - (j + 1))
        case measure => have := hq.out; omega
        case rel => exact ⟨j + 1, Lib.hid rfl, hj1, R2, B2, HE2⟩
      · have HB1 := Lib.hid b1; clear b1
        have HB2 := Lib.hid b2; clear b2
        go_wp2_with fail
        refine (HH.out t 32 _ HT.out _).mono ?_
        rintro e w1 ⟨rfl, rfl⟩
        rw [HB1.out]
        go_wp2_with fail
        refine (HH.out t 9 _ HT.out _).mono ?_
        rintro e w1 ⟨rfl, rfl⟩
        rw [HB2.out]
        go_wp2_with fail
        go_roundg (s.size - (j + 1))
        case measure => have := hq.out; omega
        case rel => exact ⟨j + 1, Lib.hid rfl, hj1, R2, B2, HE2⟩
    · have HPP := Lib.hid hp; clear hp
      have hj1 : j + 2 ≤ s.size := by have := hll.out; omega
      have R2 := Lib.hid (R1.out.put1 (j + 2))
      have B2 := Lib.hid (B1.out.put 1 (.int .i64 ((j + 2 : Nat) : Int)))
      have ej : ((j + 2 : Nat) : Int) = (j : Int) + 2 := by omega
      rw [ej] at R2 B2
      clear ej
      have HE2 : Hid (k + passA (s.data.toList.drop k) = (j + 2) + passA (s.data.toList.drop (j + 2))) := Lib.hid (by rw [HE.out, HPP.out, HD.out]; omega)
      have HB1 := Lib.hid b1; clear b1
      have HB2 := Lib.hid b2; clear b2
      have HB3 : Hid (Lib.hasPrefix t.data.toList [92, 10] = true) := Lib.hid (by rw [HT.out]; exact b3)
      clear b3
      go_wp2_with fail
      refine (HH.out t 32 _ HT.out _).mono ?_
      rintro e w1 ⟨rfl, rfl⟩
      rw [HB1.out]
      go_wp2_with fail
      refine (HH.out t 9 _ HT.out _).mono ?_
      rintro e w1 ⟨rfl, rfl⟩
      rw [HB2.out]
      go_wp2_with fail
      refine (HP.out t ⟨#[92, 10]⟩ true HB3.out _).mono ?_
      rintro e w1 ⟨rfl, rfl⟩
      go_wp2_with fail
      go_roundg (s.size - (j + 2))
      case measure => have := hq.out; omega
      case rel => exact ⟨j + 2, Lib.hid rfl, hj1, R2, B2, HE2⟩
    · have HPP := Lib.hid hp; clear hp
      obtain ⟨m, hm⟩ : ∃ m, m = runN notFeedB l := ⟨_, rfl⟩
      rw [← hm] at HPP hl1
      have HM := Lib.hid hm; clear hm
      have hj1 : j + m ≤ s.size := by have := hll.out; have := runN_le notFeedB l; rw [← HM.out] at this; omega
      have R2 := Lib.hid ((R1.out.after (below_drew V)).put1 (j + m))
      have B2 := Lib.hid ((B1.out.trans (.of (below_drew V))).put 1 (.int .i64 ((j + m : Nat) : Int)))
      have ej : ((j + m : Nat) : Int) = (j : Int) + m := by omega
      rw [ej] at R2 B2
      clear ej
      have HE2 : Hid (k + passA (s.data.toList.drop k) = (j + m) + passA (s.data.toList.drop (j + m))) := Lib.hid (by rw [HE.out, HPP.out, HD.out]; omega)
      have HB1 := Lib.hid b1; clear b1
      have HB2 := Lib.hid b2; clear b2
      have HB3 : Hid (Lib.hasPrefix t.data.toList [92, 10] = false) := Lib.hid (by rw [HT.out]; exact b3)
      clear b3
      have HB4 := Lib.hid b4; clear b4
      have HRn : Hid (∀ w, Calls Tryz.prog 154 #[.string t, .func (.func 155) #[] #[]] w fun e w' => e = .returned (.int .i64 m) ∧ w' = w) := Lib.hid (fun w => by
        have := HRun.out t w (by omega)
        rw [HT.out, ← HM.out] at this
        exact this)
      go_wp2_with fail
      refine (HH.out t 32 _ HT.out _).mono ?_
      rintro e w1 ⟨rfl, rfl⟩
      rw [HB1.out]
      go_wp2_with fail
      refine (HH.out t 9 _ HT.out _).mono ?_
      rintro e w1 ⟨rfl, rfl⟩
      rw [HB2.out]
      go_wp2_with fail
      refine (HP.out t ⟨#[92, 10]⟩ false HB3.out _).mono ?_
      rintro e w1 ⟨rfl, rfl⟩
      go_wp2_with fail
      refine (HH.out t 35 _ HT.out _).mono ?_
      rintro e w1 ⟨rfl, rfl⟩
      rw [HB4.out]
      go_wp2_with fail
      go_still_tail 9, (by kernel_rfl)
      still_call (HRn.out _)
      repeat still_step
      refine wpStill_nil ?_
      change wpList _ _ _ _ _ w1.drew
      have c1' : w1.drew.cell? ⟨p, 1, none⟩ = some (.int .i64 j) := c1
      have z1' : w1.drew.frozen? ⟨p, 1, none⟩ = false := z1
      go_wp2_with fail
      go_roundg (s.size - (j + m))
      case measure => have := hq.out; omega
      case rel => exact ⟨j + m, Lib.hid rfl, hj1, R2, B2, HE2⟩
    · have HPP := Lib.hid hp; clear hp
      have HB1 := Lib.hid b1; clear b1
      have HB2 := Lib.hid b2; clear b2
      have HB3 : Hid (Lib.hasPrefix t.data.toList [92, 10] = false) := Lib.hid (by rw [HT.out]; exact b3)
      clear b3
      have HB4 := Lib.hid b4; clear b4
      have HE2 : Hid (k + passA (s.data.toList.drop k) = j) := Lib.hid (by rw [HE.out, HPP.out, Nat.add_zero])
      go_wp2_with fail
      refine (HH.out t 32 _ HT.out _).mono ?_
      rintro e w1 ⟨rfl, rfl⟩
      rw [HB1.out]
      go_wp2_with fail
      refine (HH.out t 9 _ HT.out _).mono ?_
      rintro e w1 ⟨rfl, rfl⟩
      rw [HB2.out]
      go_wp2_with fail
      refine (HP.out t ⟨#[92, 10]⟩ false HB3.out _).mono ?_
      rintro e w1 ⟨rfl, rfl⟩
      go_wp2_with fail
      refine (HH.out t 35 _ HT.out _).mono ?_
      rintro e w1 ⟨rfl, rfl⟩
      rw [HB4.out]
      go_wp2_with fail
      refine bodyPost_ret (results_none rfl _ _ _) rfl ?_
      exact ⟨rfl, by rw [HE2.out]; exact R1.out, B1.out, HF.out⟩
end Go.Proofs.YtgdlpldngpoadaaGreatDoor
