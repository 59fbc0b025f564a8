/- number, sign: walks. -/
import Derived.Test.YtejofdhpegcmjaaLexO
namespace Go.Proofs.Ytejofdhpegcmjaa
open Go.RowKit

set_option maxRecDepth 100000 in
set_option maxHeartbeats 1000000 in
theorem number_spec (p : Nat) (s : ByteArray) (k : Nat) (L : Tok) (w : World) (h : Rd w p s k L) (hk : k ≤ s.size) (hs : s.size ≤ 8000) :
    Calls Try.prog 37 #[.pointer (some ⟨p, 0, none⟩)] w (TookAt p s k (numN (s.data.toList.drop k)) L w) := by
  have HL := Lib.hid (fun j w h (hj : j ≤ s.size) => left_spec p s j L w h hj)
  have HRun := Lib.hid (fun t w h => run_dig t h w)
  have HT := Lib.hid (fun n w h hn => take_spec p s k n L w h hn hs)
  have HH := Lib.hid (fun t c l hl w => hp1_spec t c l hl w)
  have R := Lib.hid h
  have hlen : (s.data.toList.drop k).length = s.size - k := by rw [List.length_drop, ← Lib.size_eq]
  have hrn := runN_le digB (s.data.toList.drop k)
  rw [hlen] at hrn
  obtain ⟨l, hl⟩ : ∃ l, l = s.data.toList.drop k := ⟨_, rfl⟩
  rw [← hl] at hrn hlen ⊢
  obtain ⟨n, hn⟩ : ∃ n, n = runN digB l := ⟨_, rfl⟩
  rw [← hn] at hrn
  have HN := Lib.hid hn
  have HLl := Lib.hid hl
  have HLen := Lib.hid hlen
  clear h hn hl hlen
  go_enter Try.func37, Try.ntmps37
  go_wp2_with fail
  refine (HL.out k _ R.out hk).mono ?_
  rintro e w1 ⟨t, rfl, ht, hsz, m, rfl⟩
  have B1 := Lib.hid (But.of (p := p) (drewN_below w m))
  have R1 := Lib.hid (R.out.drewN m)
  have HT1 : Hid (t.data.toList = l) := Lib.hid (by rw [ht.out, HLl.out])
  have hts : n ≤ t.size := by omega
  have hts2 : t.size ≤ 8000 := by omega
  have HSz : Hid (t.size = s.size - k) := Lib.hid hsz
  clear ht hsz
  go_wp2_with fail
  refine (HRun.out t _ (by omega)).mono ?_
  rintro e w1 ⟨rfl, rfl⟩
  rw [HT1.out, ← HN.out]
  have HX : Hid ((t.extract n t.size).data.toList = l.drop n) := Lib.hid (by rw [extract_end, HT1.out])
  cases hh : headIs (l.drop n) 46
  case false =>
    have HE : Hid (numN l = n) := Lib.hid (by unfold numN; rw [← HN.out, if_neg (fun h => by rw [head_iff.1 h] at hh; exact absurd hh (by decide))])
    have HHd := Lib.hid hh; clear hh
    go_wp2_with fail
    refine (HH.out _ 46 _ HX.out _).mono ?_
    rintro e w1 ⟨rfl, rfl⟩
    rw [HHd.out]
    go_wp2_with fail
    refine (HT.out n _ R1.out (by omega)).mono ?_
    rintro e w2 ⟨t2, rfl, ht2, hsz2, R2, b2⟩
    have HB2 := Lib.hid (B1.out.trans b2)
    have HR2 := Lib.hid R2
    have HS2 := Lib.hid hsz2
    clear b2 R2 hsz2
    go_wp2_with fail
    go_ret
    rw [HE.out]
    exact ⟨t2, rfl, ht2, HS2.out, HR2.out, HB2.out⟩
  case true =>
    have HE : Hid (numN l = n + 1 + runN digB (l.drop (n + 1))) := Lib.hid (by unfold numN; rw [← HN.out, if_pos (head_iff.2 hh)])
    have hlt : n < t.size := by
      obtain ⟨r, hr⟩ := headIs_yes hh
      have : (l.drop n).length = l.length - n := List.length_drop
      rw [hr] at this
      simp at this
      have := HLen.out
      have := HSz.out
      omega
    have HHd := Lib.hid hh; clear hh
    have HX2 : Hid ((t.extract (n + 1) t.size).data.toList = l.drop (n + 1)) := Lib.hid (by rw [extract_end, HT1.out])
    have hx2s : (t.extract (n + 1) t.size).size ≤ 8000 := by rw [ByteArray.size_extract]; omega
    have hrn2 : runN digB (l.drop (n + 1)) ≤ t.size - (n + 1) := by
      have := runN_le digB (l.drop (n + 1))
      rw [List.length_drop, HLen.out] at this
      have := HSz.out
      omega
    obtain ⟨n2, hn2⟩ : ∃ n2, n2 = runN digB (l.drop (n + 1)) := ⟨_, rfl⟩
    rw [← hn2] at HE hrn2
    have HN2 := Lib.hid hn2; clear hn2
    have hle : k + (n + 1 + n2) ≤ s.size := by have := HSz.out; omega
    go_wp2_with fail
    refine (HH.out _ 46 _ HX.out _).mono ?_
    rintro e w1 ⟨rfl, rfl⟩
    rw [HHd.out]
    go_wp2_with fail
    refine (HRun.out _ _ (by omega)).mono ?_
    rintro e w1 ⟨rfl, rfl⟩
    rw [HX2.out, ← HN2.out]
    go_wp2_with fail
    refine (HT.out (n + 1 + n2) _ R1.out hle).mono ?_
    rintro e w2 ⟨t2, rfl, ht2, hsz2, R2, b2⟩
    have HB2 := Lib.hid (B1.out.trans b2)
    have HR2 := Lib.hid R2
    have HS2 := Lib.hid hsz2
    clear b2 R2 hsz2
    go_wp2_with fail
    go_ret
    rw [HE.out]
    exact ⟨t2, rfl, ht2, HS2.out, HR2.out, HB2.out⟩

def SignAt (p : Nat) (s : ByteArray) (k : Nat) (L : Tok) (n : Nat) (w : World) (e : Ending) (w' : World) : Prop :=
  (n = 0 ∧ Fell p k 4 w e w') ∨ (0 < n ∧ TookAt p s k n L w e w')
theorem sign_two {l : List UInt8} (h : 2 ≤ l.length) (b : signB (l.take 2) = true) : signN l = 2 := by unfold signN; rw [if_pos ⟨h, b⟩]
theorem sign_one {l : List UInt8} (h : 1 ≤ l.length) (h2 : 2 ≤ l.length → signB (l.take 2) = false) (b : signB (l.take 1) = true) : signN l = 1 := by
  unfold signN
  rw [if_neg (fun x => by rw [h2 x.1] at x; exact absurd x.2 (by decide)), if_pos ⟨h, b⟩]
theorem sign_none {l : List UInt8} (h1 : 1 ≤ l.length → signB (l.take 1) = false) (h2 : 2 ≤ l.length → signB (l.take 2) = false) : signN l = 0 := by
  unfold signN
  rw [if_neg (fun x => by rw [h2 x.1] at x; exact absurd x.2 (by decide)), if_neg (fun x => by rw [h1 x.1] at x; exact absurd x.2 (by decide))]

set_option maxRecDepth 100000 in
set_option maxHeartbeats 1000000 in
theorem sign_walk (p : Nat) (s : ByteArray) (k : Nat) (L : Tok) (w : World) (h : Rd w p s k L) (hk : k ≤ s.size) (hs : s.size ≤ 8000) :
    Calls Try.prog 41 #[.pointer (some ⟨p, 0, none⟩)] w (SignAt p s k L (signN (s.data.toList.drop k)) w) := by
  have HL := Lib.hid (fun j w h (hj : j ≤ s.size) => left_spec p s j L w h hj)
  have HT := Lib.hid (fun n w h hn => take_spec p s k n L w h hn hs)
  have HS := Lib.hid (fun t l hl w => sign_spec t l hl w)
  have R := Lib.hid h
  have c1 := h.c1
  have hlen : (s.data.toList.drop k).length = s.size - k := by rw [List.length_drop, ← Lib.size_eq]
  obtain ⟨l, hl⟩ : ∃ l, l = s.data.toList.drop k := ⟨_, rfl⟩
  rw [← hl] at hlen ⊢
  have HLl := Lib.hid hl
  have HLen := Lib.hid hlen
  clear h hl hlen
  go_enter Try.func41, Try.ntmps41
  go_wp2_with fail
  refine (HL.out k _ R.out hk).mono ?_
  rintro e w1 ⟨t, rfl, ht, hsz, m, rfl⟩
  have B1 := Lib.hid (But.of (p := p) (drewN_below w m))
  have R1 := Lib.hid (R.out.drewN m)
  have HT1 : Hid (t.data.toList = l) := Lib.hid (by rw [ht.out, HLl.out])
  have hts2 : t.size ≤ 8000 := by omega
  have HSz : Hid (t.size = s.size - k) := Lib.hid hsz
  have d1 : (w.drewN m).cell? ⟨p, 1, none⟩ = some (.int .i64 k) := by simpa using c1
  clear ht hsz c1
  obtain ⟨n0, hn0⟩ : ∃ n0 : Nat, n0 = min 2 t.size := ⟨_, rfl⟩
  have hmin : min 2 (t.size : Int) = (n0 : Int) := by rw [hn0]; omega
  have hn2 : n0 ≤ 2 := by omega
  have hnt : n0 ≤ t.size := by omega
  have HN0 := Lib.hid hn0
  clear hn0
  go_wp2_with fail

  clear hmin
  go_loop [4] (fun i => ∃ n : Nat, n ≤ n0 ∧ i = .int .i64 n ∧ Hid (∀ m, n < m → m ≤ n0 → signB (l.take m) = false)) (fun i => (intOf i).toNat)
  case atStart => exact ⟨n0, Nat.le_refl _, rfl, Lib.hid (fun m h1 h2 => by omega)⟩
  case round =>
    obtain ⟨n, hn, rfl, HNo⟩ := hrel
    by_cases h0 : 0 < n
    · have HX : Hid ((t.extract 0 n).data.toList = l.take n) := Lib.hid (by rw [extract_list, HT1.out, List.drop_zero, Nat.sub_zero])
      cases hb : signB (l.take n)
      case true =>
        have HE : Hid (signN l = n) := Lib.hid (by
          have h1 := HLen.out
          have h2 := HSz.out
          have h3 := HN0.out
          have h4 : n = 1 ∨ n = 2 := by omega
          rcases h4 with rfl | rfl
          · exact sign_one (by omega) (fun h => HNo.out 2 (by omega) (by omega)) hb
          · exact sign_two (by omega) hb)
        have HB := Lib.hid hb; clear hb
        go_wp2_with fail
        refine (HS.out _ _ HX.out _).mono ?_
        rintro e w1 ⟨rfl, rfl⟩
        rw [HB.out]
        go_wp2_with fail
        refine (HT.out n _ R1.out (by have := HSz.out; omega)).mono ?_
        rintro e w2 ⟨t2, rfl, ht2, hsz2, R2, b2⟩
        have HB2 := Lib.hid (B1.out.trans b2)
        have HR2 := Lib.hid R2
        have HS2 := Lib.hid hsz2
        clear b2 R2 hsz2
        go_wp2_with fail
        go_ret
        rw [HE.out]
        exact Or.inr ⟨h0, t2, rfl, ht2, HS2.out, HR2.out, HB2.out⟩
      case false =>
        have HB := Lib.hid hb; clear hb
        go_wp2_with fail
        refine (HS.out _ _ HX.out _).mono ?_
        rintro e w1 ⟨rfl, rfl⟩
        rw [HB.out]
        go_wp2_with fail
        go_round
        case rel =>
          refine ⟨n - 1, by omega, by go_num, Lib.hid (fun m h1 h2 => ?_)⟩
          by_cases he : m = n
          · rw [he]; exact HB.out
          · exact HNo.out m (by omega) h2
        case measure => simp [intOf]; omega
    · have hn0 : n = 0 := by omega
      subst hn0
      have HE : Hid (signN l = 0) := Lib.hid (by
        have h1 := HLen.out
        have h2 := HSz.out
        have h3 := HN0.out
        exact sign_none (fun h => HNo.out 1 (by omega) (by omega)) (fun h => HNo.out 2 (by omega) (by omega)))
      clear h0
      go_wp2_with fail
      rw [HE.out]
      exact ⟨rfl, Or.inl ⟨rfl, rfl, B1.out⟩⟩
end Go.Proofs.Ytejofdhpegcmjaa
