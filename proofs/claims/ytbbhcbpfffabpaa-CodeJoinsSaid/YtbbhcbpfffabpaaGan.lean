/- Merged by program: T1DivB. -/
import Derived.BigQuiet
import Derived.Deep.DeepCutAuto
import Derived.Deep.CutBlock
import Derived.Deep.QuietTactic
import Derived.Laws.Bits64b
import Derived.Lib.ItoaNum
import Derived.Test.YtbbhcbpfffabpaaGam
import Derived.Test.YtbbhcbpfffabpaaGac
/- Contracts of Div64. -/
namespace Go.Proofs.Ytbbhcbpfffabpaa.T1
open Go.Proofs.Ytbbhcbpfffabpaa Go.Proofs
open Go.RowKit

def SomeQuot (q : Nat) (w : World) (e : Ending) (w' : World) : Prop := ∃ r : Int, e = .returned (.tuple #[.int .u64 q, .int .u64 r]) ∧ ∃ n, w' = w.drewN n

theorem wr_sub {A d P R : Nat} (h : A + d = P + R) (hR : R < 18446744073709551616) :
    IntKind.u64.wrap (IntKind.u64.wrap (IntKind.u64.wrap (A : Int) + d) - IntKind.u64.wrap (P : Int)) = (R : Int) := by
  simp only [wrapU]; omega

theorem int_two {a b : Value} {c d : Int} (h : a = .int .u64 c) (h' : b = .int .u64 d) : Ending.returned (.tuple #[a, b]) = .returned (.tuple #[.int .u64 c, .int .u64 d]) := by rw [h, h']

structure Kn (Y v1 v0 U d1 d0 : Nat) : Prop where
  y : Y = v1 * 4294967296 + v0
  b1 : v1 < 4294967296
  b0 : v0 < 4294967296
  u : U < Y
  e1 : d1 < 4294967296
  e0 : d0 < 4294967296

set_option maxRecDepth 100000 in
set_option maxHeartbeats 1000000 in
theorem div64_core (hi lo y s Y v1 v0 U T d1 d0 qa ra : Nat) (w : World) (hs : s ≤ 63) (hsy : 64 - (Lib.bitLen y : Int) = s) (hy0 : 1 ≤ y) (hy : y ≤ 18446744073709551615) (hhi : 1 ≤ hi) (hh : hi < y)
    (eY : IntKind.u64.wrap (↑y * 2 ^ s) = (Y : Int)) (ev1 : (Y : Int) / 4294967296 = v1) (ev0 : bits .and .u64 (Y : Int) 4294967295 = v0)
    (eU : bits .or .u64 (IntKind.u64.wrap (↑hi * 2 ^ s)) ((lo : Int) / 2 ^ (64 - s)) = U) (eT : IntKind.u64.wrap (↑lo * 2 ^ s) = (T : Int))
    (ed1 : (T : Int) / 4294967296 = d1) (ed0 : bits .and .u64 (T : Int) 4294967295 = d0)
    (eq : IntKind.u64.wrap ((U : Int) / v1) = qa) (er : IntKind.u64.wrap ((U : Int) - IntKind.u64.wrap ((qa : Int) * v1)) = ra) (hv1 : 1 ≤ v1)
    (K : Kn Y v1 v0 U d1 d0) (hq : Hid (qa * v1 + ra = U)) (hra : ra < 4294967296) (hqa : (U * 4294967296 + d1) / Y ≤ qa) (qb rb R : Nat) (hR : Hid (R = (U * 4294967296 + d1) % Y))
    (eqb : Hid (IntKind.u64.wrap ((R : Int) / v1) = qb)) (erb : Hid (IntKind.u64.wrap ((R : Int) - IntKind.u64.wrap ((qb : Int) * v1)) = rb))
    (hqb : Hid (qb * v1 + rb = R)) (hrb : rb < 4294967296) (hqB : (R * 4294967296 + d0) / Y ≤ qb)
    (Z : Nat) (hZ : Hid (Z = (U * 4294967296 + d1) / Y * 4294967296 + (R * 4294967296 + d0) / Y)) :
    Calls Try.prog 73 #[.int .u64 hi, .int .u64 lo, .int .u64 y] w (SomeQuot Z w) := by
  have h0 : ((y : Int) == 0) = false := by simp; omega
  have h1 : ((hi : Int) == 0) = false := by simp; omega
  have HS := Lib.hid hsy; clear hsy
  obtain ⟨Q1, hQ1⟩ : ∃ Q, Q = (U * 4294967296 + d1) / Y := ⟨_, rfl⟩
  obtain ⟨Q0, hQ0⟩ : ∃ Q, Q = (R * 4294967296 + d0) / Y := ⟨_, rfl⟩
  rw [← hQ1] at hqa hZ
  rw [← hQ0] at hqB hZ
  have HQ1 := Lib.hid hQ1; clear hQ1
  have HQ0 := Lib.hid hQ0; clear hQ0
  have hQ1B : Q1 < 4294967296 := by rw [HQ1.out]; exact kn_digit K.u K.e1
  have hQ0B : Q0 < 4294967296 := by rw [HQ0.out]; exact kn_digit (by rw [hR.out]; exact Nat.mod_lt _ (by have := K.u; omega)) K.e0
  have bd1 := K.e1
  have bv1 := K.b1
  have bd0 := K.e0
  have hqaB : qa ≤ 18446744073709551615 := by have := wrapU ((U : Int) / v1); omega
  have hqbB : qb ≤ 18446744073709551615 := by have := wrapU ((R : Int) / v1); have := eqb.out; omega
  have EQ := Lib.hid eq; clear eq
  have ER := Lib.hid er; clear er
  go_enter Try.func73, Try.ntmps73
  go_upto_region 15 with (go_at_call 87; refine (Try.bits_LeadingZeros64 _ _ (by omega) (by omega)).mono ?_; rintro e w1 ⟨rfl, rfl⟩; rw [Int.toNat_natCast, HS.out])
  clear eY ev1 ev0 eU eT ed1 ed0 HS
  have eq := EQ.out; have er := ER.out
  go_upto_block 0 with (fail)
  clear eq er
  go_cut [15] (fun a wx => a = .int .u64 Q1 ∧ wx = w1)
  case first =>
    go_wp2
    go_loop [15, 16] (fun a b => ∃ q r : Nat, a = .int .u64 q ∧ b = .int .u64 r ∧ Hid (q * v1 + r = U) ∧ r < 4294967296 ∧ Q1 ≤ q ∧ q ≤ 18446744073709551615) (fun a _ => (intOf a).toNat)
    case atStart => exact ⟨qa, ra, rfl, rfl, hq, hra, hqa, hqaB⟩
    case round =>
      obtain ⟨q, r, rfl, rfl, hqr, hr, hle, hqB1⟩ := hrel
      have more : (4294967296 ≤ q ∨ 4294967296 * r + d1 < q * v0) → Q1 < q := fun h => by rw [HQ1.out]; exact kn_more K.y K.u K.e1 hqr.out h
      have less : q * v0 ≤ 4294967296 * r + d1 → q = Q1 := fun h => by
        have := kn_less K.y (by have := K.u; omega) hqr.out h
        rw [← HQ1.out] at this; omega
      have hh : Q1 < q → (q - 1) * v1 + (r + v1) = U := fun h => by
        have e : q * v1 = (q - 1) * v1 + v1 := by
          conv => lhs; rw [show q = q - 1 + 1 from by omega]
          rw [Nat.add_mul, Nat.one_mul]
        have := hqr.out; omega
      have out : Q1 < q → 4294967296 ≤ r + v1 → q - 1 = Q1 := fun h h2 => by
        have := kn_out (d := d1) K.y K.b0 K.u (hh h) h2
        rw [← HQ1.out] at this; omega
      have MORE := Lib.hid more; clear more
      have LESS := Lib.hid less; clear less
      have OUT := Lib.hid out; clear out
      have HH := Lib.hid hh; clear hh
      have end1 : Q1 < q → ¬ 4294967296 ≤ r + v1 → ∃ q' r' : Nat, Value.int .u64 ((q : Int) - 1) = .int .u64 q' ∧ Value.int .u64 ((r : Int) + v1) = .int .u64 r' ∧ Hid (q' * v1 + r' = U) ∧ r' < 4294967296 ∧ Q1 ≤ q' ∧ q' ≤ 18446744073709551615 :=
        fun h h2 => ⟨q - 1, r + v1, by rw [Int.ofNat_sub (by omega)]; rfl, rfl, Lib.hid (HH.out h), by omega, by omega, by omega⟩
      have END := Lib.hid end1; clear end1
      have OUTV : Q1 < q → 4294967296 ≤ r + v1 → Value.int .u64 ((q : Int) - 1) = .int .u64 (Q1 : Nat) := fun h h2 => by
        have := OUT.out h h2; rw [show ((q : Int) - 1) = Q1 from by omega]
      have OUTV' := Lib.hid OUTV; clear OUTV
      by_cases hbig : 4294967296 ≤ q
      · have hlt := MORE.out (Or.inl hbig)
        have hb2 : decide ((4294967296 : Int) ≤ (q : Int)) = true := by simp; omega
        by_cases hbr : 4294967296 ≤ r + v1
        · have hb3 : decide ((4294967296 : Int) ≤ (r : Int) + v1) = true := by simp; omega
          go_wp2
          go_meet
          exact ⟨OUTV'.out hlt hbr, rfl⟩
        · have hb3 : decide ((4294967296 : Int) ≤ (r : Int) + v1) = false := by simp; omega
          go_wp2
          go_round
          case rel => exact END.out hlt hbr
          case measure => simp [intOf]; omega
      · have hb2 : decide ((4294967296 : Int) ≤ (q : Int)) = false := by simp; omega
        have hqv : q * v0 < 18446744073709551616 := by
          have h1 : q * v0 ≤ 4294967295 * 4294967295 := Nat.mul_le_mul (by omega) (by have := K.b0; omega)
          omega
        obtain ⟨m, hm⟩ : ∃ m, m = q * v0 := ⟨_, rfl⟩
        have hmw : IntKind.u64.wrap ((q : Int) * v0) = (m : Int) := by
          rw [hm, wrapU, ← Int.natCast_mul]; omega
        rw [← hm] at MORE LESS
        clear hqv
        clear hm
        by_cases ht : 4294967296 * r + d1 < m
        · have hlt := MORE.out (Or.inr ht)
          have hb4 : decide ((4294967296 : Int) * r + d1 < (m : Int)) = true := by simp; omega
          by_cases hbr : 4294967296 ≤ r + v1
          · have hb3 : decide ((4294967296 : Int) ≤ (r : Int) + v1) = true := by simp; omega
            go_wp2
            go_meet
            exact ⟨OUTV'.out hlt hbr, rfl⟩
          · have hb3 : decide ((4294967296 : Int) ≤ (r : Int) + v1) = false := by simp; omega
            go_wp2
            go_round
            case rel => exact END.out hlt hbr
            case measure => simp [intOf]; omega
        · have hb4 : decide ((4294967296 : Int) * r + d1 < (m : Int)) = false := by simp; omega
          have hfin := LESS.out (by omega)
          clear MORE LESS OUT HH END OUTV'
          subst hfin
          go_wp2
          go_meet
          exact ⟨rfl, rfl⟩
  case rest =>
    obtain ⟨rfl, rfl⟩ := hcut
    have hRY : R < Y := by rw [hR.out]; exact Nat.mod_lt _ (by have := K.u; omega)
    have hY64 : Y < 18446744073709551616 := by have := K.y; have := K.b0; omega
    have eR : IntKind.u64.wrap (IntKind.u64.wrap (IntKind.u64.wrap ((U : Int) * 4294967296) + d1) - IntKind.u64.wrap ((Q1 : Int) * Y)) = R := by
      have h := wr_sub (A := U * 4294967296) (d := d1) (P := Q1 * Y) (R := R) (by rw [HQ1.out, hR.out]; have := Nat.div_add_mod (U * 4294967296 + d1) Y; rw [Nat.mul_comm] at this; omega) (by omega)
      rw [Int.natCast_mul, Int.natCast_mul] at h
      exact h
    have eqb' := eqb.out
    have erb' := erb.out
    go_upto_block 2 with (fail)
    clear eR eqb' erb'
    go_cut [18] (fun a wx => a = .int .u64 Q0 ∧ wx = wc)
    case first =>
      go_wp2
      go_loop [18, 16] (fun a b => ∃ q r : Nat, a = .int .u64 q ∧ b = .int .u64 r ∧ Hid (q * v1 + r = R) ∧ r < 4294967296 ∧ Q0 ≤ q ∧ q ≤ 18446744073709551615) (fun a _ => (intOf a).toNat)
      case atStart => exact ⟨qb, rb, rfl, rfl, hqb, hrb, hqB, hqbB⟩
      case round =>
        obtain ⟨q, r, rfl, rfl, hqr, hr, hle, hqB1⟩ := hrel
        have more : (4294967296 ≤ q ∨ 4294967296 * r + d0 < q * v0) → Q0 < q := fun h => by rw [HQ0.out]; exact kn_more K.y hRY K.e0 hqr.out h
        have less : q * v0 ≤ 4294967296 * r + d0 → q = Q0 := fun h => by
          have := kn_less K.y (by have := K.u; omega) hqr.out h
          rw [← HQ0.out] at this; omega
        have hh : Q0 < q → (q - 1) * v1 + (r + v1) = R := fun h => by
          have e : q * v1 = (q - 1) * v1 + v1 := by
            conv => lhs; rw [show q = q - 1 + 1 from by omega]
            rw [Nat.add_mul, Nat.one_mul]
          have := hqr.out; omega
        have out : Q0 < q → 4294967296 ≤ r + v1 → q - 1 = Q0 := fun h h2 => by
          have := kn_out (d := d0) K.y K.b0 hRY (hh h) h2
          rw [← HQ0.out] at this; omega
        have MORE := Lib.hid more; clear more
        have LESS := Lib.hid less; clear less
        have OUT := Lib.hid out; clear out
        have HH := Lib.hid hh; clear hh
        have end0 : Q0 < q → ¬ 4294967296 ≤ r + v1 → ∃ q' r' : Nat, Value.int .u64 ((q : Int) - 1) = .int .u64 q' ∧ Value.int .u64 ((r : Int) + v1) = .int .u64 r' ∧ Hid (q' * v1 + r' = R) ∧ r' < 4294967296 ∧ Q0 ≤ q' ∧ q' ≤ 18446744073709551615 :=
          fun h h2 => ⟨q - 1, r + v1, by rw [Int.ofNat_sub (by omega)]; rfl, rfl, Lib.hid (HH.out h), by omega, by omega, by omega⟩
        have END := Lib.hid end0; clear end0
        have OUTV : Q0 < q → 4294967296 ≤ r + v1 → Value.int .u64 ((q : Int) - 1) = .int .u64 (Q0 : Nat) := fun h h2 => by
          have := OUT.out h h2; rw [show ((q : Int) - 1) = Q0 from by omega]
        have OUTV' := Lib.hid OUTV; clear OUTV
        by_cases hbig : 4294967296 ≤ q
        · have hlt := MORE.out (Or.inl hbig)
          have hb2 : decide ((4294967296 : Int) ≤ (q : Int)) = true := by simp; omega
          by_cases hbr : 4294967296 ≤ r + v1
          · have hb3 : decide ((4294967296 : Int) ≤ (r : Int) + v1) = true := by simp; omega
            go_wp2
            go_meet
            exact ⟨OUTV'.out hlt hbr, rfl⟩
          · have hb3 : decide ((4294967296 : Int) ≤ (r : Int) + v1) = false := by simp; omega
            go_wp2
            go_round
            case rel => exact END.out hlt hbr
            case measure => simp [intOf]; omega
        · have hb2 : decide ((4294967296 : Int) ≤ (q : Int)) = false := by simp; omega
          have hqv : q * v0 < 18446744073709551616 := by
            have h1 : q * v0 ≤ 4294967295 * 4294967295 := Nat.mul_le_mul (by omega) (by have := K.b0; omega)
            omega
          obtain ⟨m, hm⟩ : ∃ m, m = q * v0 := ⟨_, rfl⟩
          have hmw : IntKind.u64.wrap ((q : Int) * v0) = (m : Int) := by
            rw [hm, wrapU, ← Int.natCast_mul]; omega
          rw [← hm] at MORE LESS
          clear hqv
          clear hm
          by_cases ht : 4294967296 * r + d0 < m
          · have hlt := MORE.out (Or.inr ht)
            have hb4 : decide ((4294967296 : Int) * r + d0 < (m : Int)) = true := by simp; omega
            by_cases hbr : 4294967296 ≤ r + v1
            · have hb3 : decide ((4294967296 : Int) ≤ (r : Int) + v1) = true := by simp; omega
              go_wp2
              go_meet
              exact ⟨OUTV'.out hlt hbr, rfl⟩
            · have hb3 : decide ((4294967296 : Int) ≤ (r : Int) + v1) = false := by simp; omega
              go_wp2
              go_round
              case rel => exact END.out hlt hbr
              case measure => simp [intOf]; omega
          · have hb4 : decide ((4294967296 : Int) * r + d0 < (m : Int)) = false := by simp; omega
            have hfin := LESS.out (by omega)
            clear MORE LESS OUT HH END OUTV'
            subst hfin
            go_wp2
            go_meet
            exact ⟨rfl, rfl⟩
    case rest =>
      obtain ⟨rfl, rfl⟩ := hcut
      have hZ' : Value.int .u64 ((Q1 : Int) * 4294967296 + Q0) = .int .u64 (Z : Nat) := by rw [hZ.out]; congr 1
      have HZ := Lib.hid hZ'; clear hZ'
      go_wp2
      go_ret2
      exact ⟨_, int_two HZ.out rfl, 0, rfl⟩

theorem bitLen_bounds (y : Nat) (hy0 : 1 ≤ y) (hy : y ≤ 18446744073709551615) : 1 ≤ Lib.bitLen y ∧ 2 ^ (Lib.bitLen y - 1) ≤ y ∧ y < 2 ^ Lib.bitLen y ∧ Lib.bitLen y ≤ 64 := by
  have h := Lib.bitLenAux_bounds 64 y (by omega) (by omega)
  have h2 := Lib.bitLen_le y 64 (by omega) (by omega)
  exact ⟨h.1, h.2.1, h.2.2, h2⟩

theorem and_mask (a : Nat) (ha : a < 18446744073709551616) : bits .and .u64 (a : Int) 4294967295 = ((a % 4294967296 : Nat) : Int) := by
  have h := bits_and_u64_nat a 4294967295 ha (by omega)
  have e : a &&& 4294967295 = a % 4294967296 := Nat.and_two_pow_sub_one_eq_mod a 32
  rw [e] at h
  exact h

theorem two_digits (U T : Nat) : (U * 4294967296 + T / 4294967296) * 4294967296 + T % 4294967296 = U * 18446744073709551616 + T := by omega

theorem div64_high (hi lo y : Nat) (w : World) (hlo : lo ≤ 18446744073709551615) (hy0 : 1 ≤ y) (hy : y ≤ 18446744073709551615) (hhi : 1 ≤ hi) (hh : hi < y) :
    Calls Try.prog 73 #[.int .u64 hi, .int .u64 lo, .int .u64 y] w (SomeQuot ((hi * 18446744073709551616 + lo) / y) w) := by
  obtain ⟨l1, l2, l3, l4⟩ := bitLen_bounds y hy0 hy
  obtain ⟨s, hs⟩ : ∃ s, s = 64 - Lib.bitLen y := ⟨_, rfl⟩
  have hs63 : s ≤ 63 := by omega
  have p64 : (2 : Nat) ^ 64 = 18446744073709551616 := by decide
  have pB : (2 : Nat) ^ 32 = 4294967296 := by decide
  have e1 : 2 ^ Lib.bitLen y * 2 ^ s = 2 ^ 64 := by rw [← Nat.pow_add]; congr 1; omega
  have e2 : 2 ^ (Lib.bitLen y - 1) * 2 ^ s = 2 ^ 63 := by rw [← Nat.pow_add]; congr 1; omega
  have e3 : 2 ^ (64 - s) * 2 ^ s = 2 ^ 64 := by rw [← Nat.pow_add]; congr 1; omega
  have hps : 0 < 2 ^ s := Nat.two_pow_pos s
  have hY1 : y * 2 ^ s < 2 ^ 64 := by rw [← e1]; exact Nat.mul_lt_mul_of_pos_right l3 hps
  have hY0 : 2 ^ 63 ≤ y * 2 ^ s := by rw [← e2]; exact Nat.mul_le_mul_right _ l2
  have hHY : hi * 2 ^ s + 2 ^ s ≤ y * 2 ^ s := by rw [← Nat.succ_mul]; exact Nat.mul_le_mul_right _ hh
  have hl : lo / 2 ^ (64 - s) < 2 ^ s := by
    rw [Nat.div_lt_iff_lt_mul (Nat.two_pow_pos _), Nat.mul_comm, e3]; omega
  have hor : hi * 2 ^ s ||| lo / 2 ^ (64 - s) = hi * 2 ^ s + lo / 2 ^ (64 - s) := by
    have := Nat.two_pow_add_eq_or_of_lt hl hi
    rw [Nat.mul_comm (2 ^ s) hi] at this
    exact this.symm
  obtain ⟨Y, hY⟩ : ∃ Y, Y = y * 2 ^ s := ⟨_, rfl⟩
  obtain ⟨U, hU⟩ : ∃ U, U = hi * 2 ^ s + lo / 2 ^ (64 - s) := ⟨_, rfl⟩
  obtain ⟨T, hT⟩ : ∃ T, T = lo * 2 ^ s % 2 ^ 64 := ⟨_, rfl⟩
  have hT64 : T < 18446744073709551616 := by rw [hT, p64]; omega
  have hK : Kn Y (Y / 4294967296) (Y % 4294967296) U (T / 4294967296) (T % 4294967296) :=
    ⟨by omega, by omega, by omega, by omega, by omega, by omega⟩
  have hv1 : 1 ≤ Y / 4294967296 := by omega
  have hY0' : 9223372036854775808 ≤ Y := by rw [hY]; exact hY0
  have hU64 : U < 18446744073709551616 := by omega
  obtain ⟨R, hR⟩ : ∃ R, R = (U * 4294967296 + T / 4294967296) % Y := ⟨_, rfl⟩
  have hRY : R < Y := by rw [hR]; exact Nat.mod_lt _ (by omega)
  have ewr : ∀ A : Nat, A < 18446744073709551616 → IntKind.u64.wrap ((A : Int) / ((Y / 4294967296 : Nat) : Int)) = ((A / (Y / 4294967296) : Nat) : Int) := by
    intro A hA
    have := Nat.div_le_self A (Y / 4294967296)
    rw [← Int.natCast_ediv, wrapU]
    generalize A / (Y / 4294967296) = z at this ⊢
    omega
  have ewm : ∀ A : Nat, A < 18446744073709551616 → IntKind.u64.wrap ((A : Int) - IntKind.u64.wrap (((A / (Y / 4294967296) : Nat) : Int) * ((Y / 4294967296 : Nat) : Int))) = ((A % (Y / 4294967296) : Nat) : Int) := by
    intro A hA
    have h := Nat.div_add_mod A (Y / 4294967296)
    rw [Nat.mul_comm] at h
    rw [← Int.natCast_mul]
    generalize A / (Y / 4294967296) * (Y / 4294967296) = p at h ⊢
    generalize A % (Y / 4294967296) = q at h ⊢
    rw [wrapU, wrapU]; omega
  have hm : ∀ A : Nat, A % (Y / 4294967296) < 4294967296 := fun A => by have := Nat.mod_lt A (show 0 < Y / 4294967296 from hv1); have := hK.b1; omega
  have hdm : ∀ A : Nat, Hid (A / (Y / 4294967296) * (Y / 4294967296) + A % (Y / 4294967296) = A) := fun A => Lib.hid (by rw [Nat.mul_comm]; exact Nat.div_add_mod A _)
  refine div64_core hi lo y s Y (Y / 4294967296) (Y % 4294967296) U T (T / 4294967296) (T % 4294967296) (U / (Y / 4294967296)) (U % (Y / 4294967296)) w hs63 (by omega) hy0 hy hhi hh
    ?eY (by omega) (and_mask Y (by omega)) ?eU ?eT (by omega) (and_mask T (by omega)) (ewr U hU64) (ewm U hU64) hv1 hK (hdm U) (hm U) (kn_first hK.y hv1 hK.e1) (R / (Y / 4294967296)) (R % (Y / 4294967296)) R (Lib.hid hR)
    (Lib.hid (ewr R (by omega))) (Lib.hid (ewm R (by omega))) (hdm R) (hm R) (kn_first hK.y hv1 hK.e0) _ (Lib.hid ?_)
  case eY =>
    rw [show ((2 : Int) ^ s) = ((2 ^ s : Nat) : Int) from by simp, ← Int.natCast_mul, ← hY, wrapU]; omega
  case eT =>
    rw [show ((2 : Int) ^ s) = ((2 ^ s : Nat) : Int) from by simp, ← Int.natCast_mul, wrapU, hT, p64]; omega
  case eU =>
    rw [show ((2 : Int) ^ s) = ((2 ^ s : Nat) : Int) from by simp, show ((2 : Int) ^ (64 - s)) = ((2 ^ (64 - s) : Nat) : Int) from by simp, ← Int.natCast_mul, ← Int.natCast_ediv, wrapU]
    rw [show (((hi * 2 ^ s : Nat) : Int) % 18446744073709551616) = ((hi * 2 ^ s : Nat) : Int) from by omega]
    rw [bits_or_u64_nat _ _ (by omega) (by omega), hor, hU]
  · rw [hR, ← kn_two (by omega)]
    have h := kn_shift (hi := hi) (lo := lo) hs63
    rw [← hU, ← hT, p64] at h
    rw [(two_digits U T).trans h, hY, Nat.mul_div_mul_right _ _ hps]

set_option maxRecDepth 100000 in
set_option maxHeartbeats 400000 in
theorem div64_low (lo y : Nat) (w : World) (hlo : lo ≤ 18446744073709551615) (hy0 : 1 ≤ y) (hy : y ≤ 18446744073709551615) :
    Calls Try.prog 73 #[.int .u64 ((0 : Nat) : Int), .int .u64 lo, .int .u64 y] w (SomeQuot (lo / y) w) := by
  have h0 : ((y : Int) == 0) = false := by simp; omega
  have h1 : decide (y ≤ 0) = false := by simp; omega
  have h2 : decide ((y : Int) ≤ 0) = false := by simp; omega
  have hw : IntKind.u64.wrap ((lo : Int) / y) = ((lo / y : Nat) : Int) := by
    have := Nat.div_le_self lo y
    rw [← Int.natCast_ediv, wrapU]
    generalize lo / y = z at this ⊢
    omega
  have HW := Lib.hid hw; clear hw
  go_enter Try.func73, Try.ntmps73
  go_wp2
  go_quiet (fail)
  go_wp2
  go_ret2
  exact ⟨_, int_two (congrArg _ HW.out) rfl, _, rfl⟩

theorem div64_any (hi lo y : Nat) (w : World) (hlo : lo ≤ 18446744073709551615) (hy : y ≤ 18446744073709551615) (hh : hi < y) :
    Calls Try.prog 73 #[.int .u64 hi, .int .u64 lo, .int .u64 y] w (SomeQuot ((hi * 18446744073709551616 + lo) / y) w) := by
  rcases Nat.eq_zero_or_pos hi with h | h
  · subst h
    rw [show 0 * 18446744073709551616 + lo = lo from by omega]
    exact div64_low lo y w hlo (by omega) hy
  · exact div64_high hi lo y w hlo (by omega) hy h hh
end Go.Proofs.Ytbbhcbpfffabpaa.T1
