/- Merged by program: G10Base, G10Whole. -/
import Derived.Test.YtfhnbpilbbbckaaDoorHac
/- The document's Base, Whole of layer 10: walks. -/
namespace Go.Proofs.YtfhnbpilbbbckaaDoor
open Go.RowKit

theorem conv_byte (W : World) (x : UInt8) (X : Int) (hX : X = x.toNat) :
    (convert 37 9 (.slice (some ⟨W.heap.size, 0, none⟩) 1 1)).run Tryd.prog (W.alloc (.cells #[.int .u8 X] 5)) = .ok (.string ⟨#[x]⟩) (W.alloc (.cells #[.int .u8 X] 5)) := by
  have h := run_convert_bytes_back (P := Tryd.prog) (W.alloc (.cells #[.int .u8 X] 5)) 37 9 5 ⟨W.heap.size, 0, none⟩ 1 [x] Tryd.underlying37 Tryd.underlying5 Tryd.underlying9 ?_
  · exact h
  · intro j hj
    have hj0 : j = 0 := by simpa using hj
    subst hj0
    simp only [Addr.add, List.getElem_cons_zero]
    rw [hX]
    simp [go_sem]

theorem byte_nat {k : Nat} (h : k < 256) : k.toUInt8.toNat = k := by simp [Nat.toUInt8, UInt8.toNat_ofNat']; omega

/-- What Base tells. -/
def BaseOut (b : Nat) (great : Bool) (k n : Nat) (w : World) (e : Ending) (w' : World) : Prop :=
  ∃ s : ByteArray, e = .returned (.string s) ∧ Hid (s.data.toList = baseS b great (k + 1) n) ∧ Below w.heap.size w w'

set_option maxRecDepth 100000 in
set_option maxHeartbeats 1000000 in
theorem base_any (b : Nat) (great : Bool) (hb : 2 ≤ b) (hb16 : b ≤ 16) : ∀ (k n : Nat) (w : World), n < b ^ (k + 1) → n < 18446744073709551616 → k ≤ 63 →
    Calls Tryd.prog 20 #[.int .u64 n, .int .u64 b, .bool great] w (BaseOut b great k n w) := by
  intro k
  induction k with
  | zero =>
    intro n w hn h64 hk
    have hlt : n < b := by simpa using hn
    have hd : n % b < b := Nat.mod_lt _ (by omega)
    obtain ⟨d, hdd⟩ : ∃ d, d = n % b := ⟨_, rfl⟩
    have e1 : ((n : Int) % (b : Int)) = (d : Int) := by rw [hdd]; exact (Int.natCast_emod n b).symm
    have hd16 : d < 16 := by omega
    have hc0 := conv_byte w (48 + d).toUInt8 (48 + (d : Int)) (by rw [byte_nat (by omega)]; omega)
    have dl : decide ((n : Int) < (b : Int)) = true := decide_eq_true (by omega)
    have HS : Hid (baseS b great (0 + 1) n = [bdig great d]) := Lib.hid (by
      show (if n < b then _ else _) = _
      rw [if_pos hlt, hdd, Nat.mod_eq_of_lt hlt])
    clear hdd hn hd
    go_enter Tryd.func20, Tryd.ntmps20
    by_cases h9 : 9 < d
    · have d9 : decide ((9 : Int) < (d : Int)) = true := decide_eq_true (by omega)
      have V1 := below_new w (.cells #[.int .u8 (48 + (d : Int))] 5)
      cases great with
      | true =>
        have hx : bdig true d = (55 + d).toUInt8 := by unfold bdig; rw [if_neg (by omega)]; rfl
        have hc1 := conv_byte (w.alloc (.cells #[.int .u8 (48 + (d : Int))] 5)) (55 + d).toUInt8 (65 + (d : Int) - 10) (by rw [byte_nat (by omega)]; omega)
        rw [World.size_alloc] at hc1
        have V2 := Lib.hid (Below.step V1 (below_new _ (.cells #[.int .u8 (65 + (d : Int) - 10)] 5)))
        rw [hx] at HS
        generalize (55 + d).toUInt8 = x1 at HS hc1
        generalize (48 + d).toUInt8 = x0 at hc0
        clear V1 hx
        go_wp2_with fail
        go_ret
        exact ⟨_, rfl, Lib.hid (by rw [HS.out]), V2.out⟩
      | false =>
        have hx : bdig false d = (87 + d).toUInt8 := by unfold bdig; rw [if_neg (by omega)]; rfl
        have hc1 := conv_byte (w.alloc (.cells #[.int .u8 (48 + (d : Int))] 5)) (87 + d).toUInt8 (97 + (d : Int) - 10) (by rw [byte_nat (by omega)]; omega)
        rw [World.size_alloc] at hc1
        have V2 := Lib.hid (Below.step V1 (below_new _ (.cells #[.int .u8 (97 + (d : Int) - 10)] 5)))
        rw [hx] at HS
        generalize (87 + d).toUInt8 = x1 at HS hc1
        generalize (48 + d).toUInt8 = x0 at hc0
        clear V1 hx
        go_wp2_with fail
        go_ret
        exact ⟨_, rfl, Lib.hid (by rw [HS.out]), V2.out⟩
    · have d9 : decide ((9 : Int) < (d : Int)) = false := decide_eq_false (by omega)
      have V1 := Lib.hid (below_new w (.cells #[.int .u8 (48 + (d : Int))] 5))
      have hx : bdig great d = (48 + d).toUInt8 := by unfold bdig; rw [if_pos (by omega)]
      rw [hx] at HS
      generalize (48 + d).toUInt8 = x0 at HS hc0
      clear hx
      go_wp2_with fail
      go_ret
      exact ⟨_, rfl, Lib.hid (by rw [HS.out]), V1.out⟩
  | succ k ih =>
    intro n w hn h64 hk
    have hd : n % b < b := Nat.mod_lt _ (by omega)
    obtain ⟨d, hdd⟩ : ∃ d, d = n % b := ⟨_, rfl⟩
    have e1 : ((n : Int) % (b : Int)) = (d : Int) := by rw [hdd]; exact (Int.natCast_emod n b).symm
    have hd16 : d < 16 := by omega
    have hc0 := conv_byte w (48 + d).toUInt8 (48 + (d : Int)) (by rw [byte_nat (by omega)]; omega)
    have HI := Lib.hid ih
    clear ih
    by_cases hlt : n < b
    · have dl : decide ((n : Int) < (b : Int)) = true := decide_eq_true (by omega)
      have HS : Hid (baseS b great (k + 1 + 1) n = [bdig great d]) := Lib.hid (by
        show (if n < b then _ else _) = _
        rw [if_pos hlt, hdd, Nat.mod_eq_of_lt hlt])
      clear hdd hn hd HI
      go_enter Tryd.func20, Tryd.ntmps20
      by_cases h9 : 9 < d
      · have d9 : decide ((9 : Int) < (d : Int)) = true := decide_eq_true (by omega)
        have V1 := below_new w (.cells #[.int .u8 (48 + (d : Int))] 5)
        cases great with
        | true =>
          have hx : bdig true d = (55 + d).toUInt8 := by unfold bdig; rw [if_neg (by omega)]; rfl
          have hc1 := conv_byte (w.alloc (.cells #[.int .u8 (48 + (d : Int))] 5)) (55 + d).toUInt8 (65 + (d : Int) - 10) (by rw [byte_nat (by omega)]; omega)
          rw [World.size_alloc] at hc1
          have V2 := Lib.hid (Below.step V1 (below_new _ (.cells #[.int .u8 (65 + (d : Int) - 10)] 5)))
          rw [hx] at HS
          generalize (55 + d).toUInt8 = x1 at HS hc1
          generalize (48 + d).toUInt8 = x0 at hc0
          clear V1 hx
          go_wp2_with fail
          go_ret
          exact ⟨_, rfl, Lib.hid (by rw [HS.out]), V2.out⟩
        | false =>
          have hx : bdig false d = (87 + d).toUInt8 := by unfold bdig; rw [if_neg (by omega)]; rfl
          have hc1 := conv_byte (w.alloc (.cells #[.int .u8 (48 + (d : Int))] 5)) (87 + d).toUInt8 (97 + (d : Int) - 10) (by rw [byte_nat (by omega)]; omega)
          rw [World.size_alloc] at hc1
          have V2 := Lib.hid (Below.step V1 (below_new _ (.cells #[.int .u8 (97 + (d : Int) - 10)] 5)))
          rw [hx] at HS
          generalize (87 + d).toUInt8 = x1 at HS hc1
          generalize (48 + d).toUInt8 = x0 at hc0
          clear V1 hx
          go_wp2_with fail
          go_ret
          exact ⟨_, rfl, Lib.hid (by rw [HS.out]), V2.out⟩
      · have d9 : decide ((9 : Int) < (d : Int)) = false := decide_eq_false (by omega)
        have V1 := Lib.hid (below_new w (.cells #[.int .u8 (48 + (d : Int))] 5))
        have hx : bdig great d = (48 + d).toUInt8 := by unfold bdig; rw [if_pos (by omega)]
        rw [hx] at HS
        generalize (48 + d).toUInt8 = x0 at HS hc0
        clear hx
        go_wp2_with fail
        go_ret
        exact ⟨_, rfl, Lib.hid (by rw [HS.out]), V1.out⟩
    · have dl : decide ((n : Int) < (b : Int)) = false := decide_eq_false (by omega)
      have HS : Hid (baseS b great (k + 1 + 1) n = baseS b great (k + 1) (n / b) ++ [bdig great d]) := Lib.hid (by
        show (if n < b then _ else _) = _
        rw [if_neg hlt, hdd])
      have HQ : Hid (n / b < b ^ (k + 1) ∧ n / b < 18446744073709551616) := Lib.hid ⟨by
        rw [Nat.div_lt_iff_lt_mul (by omega), ← Nat.pow_succ]; exact hn, Nat.lt_of_le_of_lt (Nat.div_le_self n b) h64⟩
      obtain ⟨Q, hQ⟩ : ∃ Q, Q = n / b := ⟨_, rfl⟩
      have e2 : ((n : Int) / (b : Int)) = (Q : Int) := by rw [hQ]; exact (Int.natCast_ediv n b).symm
      rw [← hQ] at HS HQ
      have hwq : IntKind.u64.wrap (Q : Int) = Q := by have := HQ.out.2; rw [IntKind.wrap_u64]; omega
      clear hdd hn hd hQ
      go_enter Tryd.func20, Tryd.ntmps20
      by_cases h9 : 9 < d
      · have d9 : decide ((9 : Int) < (d : Int)) = true := decide_eq_true (by omega)
        have V1 := below_new w (.cells #[.int .u8 (48 + (d : Int))] 5)
        cases great with
        | true =>
          have hx : bdig true d = (55 + d).toUInt8 := by unfold bdig; rw [if_neg (by omega)]; rfl
          have hc1 := conv_byte (w.alloc (.cells #[.int .u8 (48 + (d : Int))] 5)) (55 + d).toUInt8 (65 + (d : Int) - 10) (by rw [byte_nat (by omega)]; omega)
          rw [World.size_alloc] at hc1
          have V2 := Lib.hid (Below.step V1 (below_new _ (.cells #[.int .u8 (65 + (d : Int) - 10)] 5)))
          rw [hx] at HS
          generalize (55 + d).toUInt8 = x1 at HS hc1
          generalize (48 + d).toUInt8 = x0 at hc0
          clear V1 hx
          go_wp2_with fail
          refine (HI.out Q _ HQ.out.1 HQ.out.2 (by omega)).mono ?_
          rintro e w2 ⟨t, rfl, ht, b2⟩
          have B2 := Lib.hid (Below.step V2.out b2)
          have n1 : ¬ 9223372036854775807 < t.size + 1 := by
            have h1 := baseS_len b true (k + 1) Q
            rw [← ht.out] at h1
            have h2 : t.data.toList.length = t.size := by simp
            omega
          have n2 : ¬ 9223372036854775807 < t.size + (⟨#[x1]⟩ : ByteArray).size := n1
          have HT : Hid ((t ++ (⟨#[x1]⟩ : ByteArray)).data.toList = baseS b true (k + 1 + 1) n) := Lib.hid (by
            have e : (t ++ (⟨#[x1]⟩ : ByteArray)).data.toList = t.data.toList ++ [x1] := by simp
            rw [e, ht.out, HS.out])
          clear b2 ht
          go_wp2_with fail
          go_ret
          exact ⟨_, rfl, HT, B2.out⟩
        | false =>
          have hx : bdig false d = (87 + d).toUInt8 := by unfold bdig; rw [if_neg (by omega)]; rfl
          have hc1 := conv_byte (w.alloc (.cells #[.int .u8 (48 + (d : Int))] 5)) (87 + d).toUInt8 (97 + (d : Int) - 10) (by rw [byte_nat (by omega)]; omega)
          rw [World.size_alloc] at hc1
          have V2 := Lib.hid (Below.step V1 (below_new _ (.cells #[.int .u8 (97 + (d : Int) - 10)] 5)))
          rw [hx] at HS
          generalize (87 + d).toUInt8 = x1 at HS hc1
          generalize (48 + d).toUInt8 = x0 at hc0
          clear V1 hx
          go_wp2_with fail
          refine (HI.out Q _ HQ.out.1 HQ.out.2 (by omega)).mono ?_
          rintro e w2 ⟨t, rfl, ht, b2⟩
          have B2 := Lib.hid (Below.step V2.out b2)
          have n1 : ¬ 9223372036854775807 < t.size + 1 := by
            have h1 := baseS_len b false (k + 1) Q
            rw [← ht.out] at h1
            have h2 : t.data.toList.length = t.size := by simp
            omega
          have n2 : ¬ 9223372036854775807 < t.size + (⟨#[x1]⟩ : ByteArray).size := n1
          have HT : Hid ((t ++ (⟨#[x1]⟩ : ByteArray)).data.toList = baseS b false (k + 1 + 1) n) := Lib.hid (by
            have e : (t ++ (⟨#[x1]⟩ : ByteArray)).data.toList = t.data.toList ++ [x1] := by simp
            rw [e, ht.out, HS.out])
          clear b2 ht
          go_wp2_with fail
          go_ret
          exact ⟨_, rfl, HT, B2.out⟩
      · have d9 : decide ((9 : Int) < (d : Int)) = false := decide_eq_false (by omega)
        have V1 := Lib.hid (below_new w (.cells #[.int .u8 (48 + (d : Int))] 5))
        have hx : bdig great d = (48 + d).toUInt8 := by unfold bdig; rw [if_pos (by omega)]
        rw [hx] at HS
        generalize (48 + d).toUInt8 = x0 at HS hc0
        clear hx
        go_wp2_with fail
        refine (HI.out Q _ HQ.out.1 HQ.out.2 (by omega)).mono ?_
        rintro e w2 ⟨t, rfl, ht, b2⟩
        have B2 := Lib.hid (Below.step V1.out b2)
        have n1 : ¬ 9223372036854775807 < t.size + 1 := by
          have h1 := baseS_len b great (k + 1) Q
          rw [← ht.out] at h1
          have h2 : t.data.toList.length = t.size := by simp
          omega
        have n2 : ¬ 9223372036854775807 < t.size + (⟨#[x0]⟩ : ByteArray).size := n1
        have HT : Hid ((t ++ (⟨#[x0]⟩ : ByteArray)).data.toList = baseS b great (k + 1 + 1) n) := Lib.hid (by
          have e : (t ++ (⟨#[x0]⟩ : ByteArray)).data.toList = t.data.toList ++ [x0] := by simp
          rw [e, ht.out, HS.out])
        clear b2 ht
        go_wp2_with fail
        go_ret
        exact ⟨_, rfl, HT, B2.out⟩
end Go.Proofs.YtfhnbpilbbbckaaDoor

/- The document's Whole of layer 10: a walk. -/
namespace Go.Proofs.YtfhnbpilbbbckaaDoor
open Go.RowKit

/-- What digits a whole part has: of tens without its sign, else modulo 2^64. -/
def wholeN (n : Int) (b : Nat) : Nat := if b = 10 then (n.tdiv 1000000).natAbs else ((n.tdiv 1000000) % 18446744073709551616).toNat
def wholeS (n : Int) (b : Nat) (great : Bool) : List UInt8 := baseS b great 64 (wholeN n b)

/-- What Whole tells. -/
def WholeOut (n : Int) (b : Nat) (great : Bool) (w : World) (e : Ending) (w' : World) : Prop :=
  ∃ s : ByteArray, e = .returned (.string s) ∧ Hid (s.data.toList = wholeS n b great) ∧ Below w.heap.size w w'

set_option maxRecDepth 100000 in
theorem whole_any10 (n : Int) (hn : -9223372036854775808 ≤ n ∧ n ≤ 9223372036854775807) (b : Nat) (hb : 8 ≤ b ∧ b ≤ 16) (great : Bool) (w : World) :
    Calls Tryd.prog 7 #[.int .i64 n, .int .i64 b, .bool great] w (WholeOut n b great w) := by
  have hq : -9223372036855 ≤ n.tdiv 1000000 ∧ n.tdiv 1000000 ≤ 9223372036855 := by
    by_cases h : 0 ≤ n
    · rw [Int.tdiv_eq_ediv_of_nonneg h]; omega
    · have e : n.tdiv 1000000 = -((-n) / 1000000) := by rw [← Int.tdiv_eq_ediv_of_nonneg (by omega), Int.neg_tdiv, Int.neg_neg]
      rw [e]; omega
  obtain ⟨q, hqq⟩ : ∃ q, q = n.tdiv 1000000 := ⟨_, rfl⟩
  rw [← hqq] at hq
  have wb : IntKind.u64.wrap (b : Int) = b := by rw [IntKind.wrap_u64]; omega
  have w1 : IntKind.i64.wrap q = q := by rw [IntKind.wrap_i64]; omega
  have key : ∀ N : Nat, wholeN n b = N → N < 18446744073709551616 → ∀ w, Calls Tryd.prog 20 #[.int .u64 N, .int .u64 b, .bool great] w (WholeOut n b great w) := by
    intro N hN h64 w
    refine (base_any b great (by omega) (by omega) 63 N w ?_ h64 (Nat.le_refl _)).mono ?_
    · exact Nat.lt_of_lt_of_le h64 (Nat.le_trans (by decide : 18446744073709551616 ≤ 8 ^ (63 + 1)) (Nat.pow_le_pow_left hb.1 _))
    · rintro e w' ⟨s, he, hs, hB⟩
      exact ⟨s, he, Lib.hid (by rw [hs.out]; unfold wholeS; rw [hN]), hB⟩
  by_cases h10 : b = 10
  · subst h10
    have hN : wholeN n 10 = q.natAbs := by unfold wholeN; rw [if_pos rfl, hqq]
    have K := Lib.hid (key q.natAbs hN (by omega))
    have eb : (((10 : Nat) : Int) == 10) = true := rfl
    clear key hN
    by_cases h0 : q < 0
    · have d0 : decide (q < 0) = true := decide_eq_true h0
      have w2 : IntKind.i64.wrap (-q) = -q := by rw [IntKind.wrap_i64]; omega
      have w3 : IntKind.u64.wrap (-q) = (q.natAbs : Int) := by rw [IntKind.wrap_u64]; omega
      go_enter Tryd.func7, Tryd.ntmps7
      go_upto_region 2 with (fail)
      rw [← hqq]
      clear hqq
      go_wp2_with fail
      refine (K.out _).mono ?_
      rintro e w9 ⟨s, rfl, hs, b9⟩
      have B9 := Lib.hid b9
      clear b9
      go_wp2_with fail
      go_ret
      exact ⟨s, rfl, hs, B9.out⟩
    · have d0 : decide (q < 0) = false := decide_eq_false h0
      have w3 : IntKind.u64.wrap q = (q.natAbs : Int) := by rw [IntKind.wrap_u64]; omega
      go_enter Tryd.func7, Tryd.ntmps7
      go_upto_region 2 with (fail)
      rw [← hqq]
      clear hqq
      go_wp2_with fail
      refine (K.out _).mono ?_
      rintro e w9 ⟨s, rfl, hs, b9⟩
      have B9 := Lib.hid b9
      clear b9
      go_wp2_with fail
      go_ret
      exact ⟨s, rfl, hs, B9.out⟩
  · have eb : ((b : Int) == 10) = false := beq_eq_false_iff_ne.2 (by omega)
    have hN : wholeN n b = (q % 18446744073709551616).toNat := by unfold wholeN; rw [if_neg h10, hqq]
    obtain ⟨M, hM⟩ : ∃ M, M = (q % 18446744073709551616).toNat := ⟨_, rfl⟩
    rw [← hM] at hN
    have hM64 : M < 18446744073709551616 := by omega
    have w3 : IntKind.u64.wrap q = (M : Int) := by rw [IntKind.wrap_u64]; omega
    have K := Lib.hid (key M hN hM64)
    clear key hN hM
    go_enter Tryd.func7, Tryd.ntmps7
    go_upto_region 2 with (fail)
    rw [← hqq]
    clear hqq
    go_wp2_with fail
    refine (K.out _).mono ?_
    rintro e w9 ⟨s, rfl, hs, b9⟩
    have B9 := Lib.hid b9
    clear b9
    go_wp2_with fail
    go_ret
    exact ⟨s, rfl, hs, B9.out⟩
end Go.Proofs.YtfhnbpilbbbckaaDoor
