/- Merged by program: FixM, FixP, CelP. -/
import Derived.Test.YtbbhcbpfffabpaaGreatDoorGao
import Derived.Test.YtbbhcbpfffabpaaGreatDoorGaj
/- Plain lemmas on digits: how a number is rounded, padded with noughts and cut; a text of ASCII has as many characters as bytes. -/
namespace Go.Proofs.YtbbhcbpfffabpaaGreatDoor
open Go.RowKit

/-- A byte that is a digit of a base. -/
def DigB (x : UInt8) : Prop := x.toNat < 128 ∧ x.toNat ≠ 45 ∧ x.toNat ≠ 43 ∧ x.toNat ≠ 32
theorem bdig_val (great : Bool) (d : Nat) (h : d < 16) : (bdig great d).toNat = if d < 10 then 48 + d else if great then 55 + d else 87 + d := by
  unfold bdig
  split
  · rw [show ∀ k : Nat, k.toUInt8.toNat = k % 256 from fun k => by simp [Nat.toUInt8]]; omega
  split <;> (rw [show ∀ k : Nat, k.toUInt8.toNat = k % 256 from fun k => by simp [Nat.toUInt8]]; omega)
theorem bdig_dig (great : Bool) (d : Nat) (h : d < 16) : DigB (bdig great d) := by
  unfold DigB
  rw [bdig_val great d h]
  split
  · omega
  split <;> omega
theorem baseS_dig (b : Nat) (hb : 2 ≤ b) (hb16 : b ≤ 16) (great : Bool) : ∀ k n, ∀ x ∈ baseS b great k n, DigB x
  | 0, _, x, hx => absurd hx (by simp [baseS])
  | k + 1, n, x, hx => by
    unfold baseS at hx
    split at hx
    · rename_i h
      rw [List.mem_singleton] at hx
      rw [hx]; exact bdig_dig _ _ (by omega)
    · rcases List.mem_append.1 hx with h | h
      · exact baseS_dig b hb hb16 great k _ x h
      · rw [List.mem_singleton] at h
        rw [h]; exact bdig_dig _ _ (Nat.lt_of_lt_of_le (Nat.mod_lt _ (by omega)) hb16)
theorem baseS_pos (b : Nat) (great : Bool) (k n : Nat) : 1 ≤ (baseS b great (k + 1) n).length := by
  unfold baseS
  split
  · simp
  · simp

theorem get_byte {s : ByteArray} {p : Nat} (hp : p < s.size) : s.get! p ∈ s.data.toList := by
  have h1 : p < s.data.size := hp
  have h2 : s.get! p = s.data[p] := by
    show s.data[p]! = _
    exact getElem!_pos s.data p h1
  rw [h2]
  exact Array.getElem_mem_toList h1
theorem cw_ascii {s : ByteArray} (h : ∀ x ∈ s.data.toList, x.toNat < 128) {p : Nat} (hp : p < s.size) : T2.cw s p = 1 := by
  have h1 := T2.cw_pos s p
  rcases Nat.lt_or_ge 1 (T2.cw s p) with h2 | h2
  · have h3 := T2.cw_lead h2
    have h4 := h _ (get_byte hp)
    omega
  · omega
theorem cnt_ascii {s : ByteArray} (h : ∀ x ∈ s.data.toList, x.toNat < 128) : ∀ (n p : Nat), s.size - p ≤ n → p ≤ s.size → T2.cnt s p = s.size - p
  | 0, p, h1, h2 => by rw [T2.cnt_end (by omega)]; omega
  | n + 1, p, h1, h2 => by
    by_cases hp : p < s.size
    · rw [T2.cnt_step hp, cw_ascii h hp, cnt_ascii h n (p + 1) (by omega) (by omega)]; omega
    · rw [T2.cnt_end hp]; omega
theorem cnt_dig {l : List UInt8} (h : ∀ x ∈ l, DigB x) : T2.cnt (ofL l) 0 = l.length := by
  rw [cnt_ascii (by rw [ofL_list]; exact fun x hx => (h x hx).1) (ofL l).size 0 (by omega) (by omega), ofL_size]; omega
theorem signed_dig {l : List UInt8} (h : ∀ x ∈ l, DigB x) : signed (ofL l) = false := by
  unfold signed
  rw [ofL_list]
  cases l with
  | nil => rfl
  | cons b r =>
    obtain ⟨_, h1, h2, h3⟩ := h b (by simp)
    show (b.toNat == 45 || b.toNat == 43 || b.toNat == 32) = false
    rw [beq_eq_false_iff_ne.2 h1, beq_eq_false_iff_ne.2 h2, beq_eq_false_iff_ne.2 h3]; rfl
theorem signAt_dig {l : List UInt8} (h : ∀ x ∈ l, DigB x) : signAt (ofL l) = 0 := by
  unfold signAt
  rw [if_neg (by rw [signed_dig h]; decide)]
theorem ofL_append (a b : List UInt8) : ofL a ++ ofL b = ofL (a ++ b) := T2.bytes_ext (by simp [ofL])
/-- Digits, padded with noughts. -/
theorem pad_digs {l : List UInt8} (h : ∀ x ∈ l, DigB x) (wide : Int) : padS (ofL l) wide false true = fillS 48 (clampN wide - l.length) ++ ofL l := by
  unfold padS
  rw [if_neg (by decide), if_pos rfl, signAt_dig h, T2.part_none _ 0 0 (by omega), T2.part_all]
  unfold lackN
  rw [cnt_dig h]
  exact congrArg (· ++ ofL l) (T2.bytes_ext (by simp))

theorem round_r0 (a : Nat) : (2 * a + 1) / 2 = a := by omega
/-- The digit that is dropped last. -/
def dropN (a : Nat) : Nat → Nat
  | 0 => 0
  | r + 1 => a / 10 ^ r % 10
theorem dropN_lt (a r : Nat) : dropN a r < 10 := by
  cases r with
  | zero => exact (by omega : 0 < 10)
  | succ r => exact Nat.mod_lt _ (by omega)
/-- The last digit that is dropped tells how to round. -/
theorem round_step (a many : Nat) : roundN a many = a / 10 ^ (6 - keepN many) + if 5 ≤ dropN a (6 - keepN many) then 1 else 0 := by
  unfold roundN
  have h : keepN many ≤ 6 := by unfold keepN; omega
  obtain ⟨r, hr⟩ : ∃ r, r = 6 - keepN many := ⟨_, rfl⟩
  rw [← hr]
  obtain ⟨D, hD⟩ : ∃ D, D = dropN a r := ⟨_, rfl⟩
  rw [← hD]
  have : r = 0 ∨ r = 1 ∨ r = 2 ∨ r = 3 ∨ r = 4 ∨ r = 5 ∨ r = 6 := by omega
  clear hr
  rcases this with rfl | rfl | rfl | rfl | rfl | rfl | rfl
  all_goals
    simp only [dropN, Nat.reducePow, Nat.div_one] at hD
    simp only [Nat.reducePow, Nat.reduceMul, Nat.div_one]
    split <;> omega

theorem repl_snoc (k : Nat) (x : UInt8) : List.replicate (k + 1) x = List.replicate k x ++ [x] := List.replicate_succ' ..
/-- What is padded is the whole part, and the part behind the point. -/
theorem pad_cut : ∀ (k : Nat) (f x : Nat), x < 10 ^ (f + 1) →
    List.replicate (k + 1 - (baseS 10 false (f + 1) x).length) 48 ++ baseS 10 false (f + 1) x = baseS 10 false (f + 1) (x / 10 ^ k) ++ fixT k (x % 10 ^ k)
  | 0, f, x, _ => by
    have h1 := baseS_pos 10 false f x
    rw [show 0 + 1 - (baseS 10 false (f + 1) x).length = 0 from by omega, Nat.pow_zero, Nat.div_one]
    simp [fixT]
  | k + 1, f, x, hx => by
    have e1 : x % 10 ^ (k + 1) / 10 = x / 10 % 10 ^ k := by
      rw [Nat.pow_succ, Nat.mul_comm (10 ^ k) 10, Nat.mod_mul_right_div_self]
    have e2 : x % 10 ^ (k + 1) % 10 = x % 10 := Nat.mod_mod_of_dvd _ ⟨10 ^ k, by rw [Nat.pow_succ, Nat.mul_comm]⟩
    have e3 : fixT (k + 1) (x % 10 ^ (k + 1)) = fixT k (x / 10 % 10 ^ k) ++ [bdig false (x % 10)] := by
      show fixT k (x % 10 ^ (k + 1) / 10) ++ [bdig false (x % 10 ^ (k + 1) % 10)] = _
      rw [e1, e2]
    have e4 : x / 10 ^ (k + 1) = x / 10 / 10 ^ k := by rw [Nat.div_div_eq_div_mul, Nat.pow_succ, Nat.mul_comm]
    have ih := pad_cut k f (x / 10) (by omega)
    rw [e3, e4, ← List.append_assoc, ← ih]
    by_cases h : x < 10
    · have h0 : x / 10 = 0 := by omega
      have g1 : baseS 10 false (f + 1) x = [bdig false x] := by
        show (if x < 10 then _ else _) = _
        rw [if_pos h]
      have g2 : baseS 10 false (f + 1) 0 = [48] := by
        show (if 0 < 10 then _ else _) = _
        rw [if_pos (by omega)]; rfl
      rw [h0, g1, g2, Nat.mod_eq_of_lt h]
      simp only [List.length_singleton]
      rw [show k + 1 + 1 - 1 = k + 1 from rfl, show k + 1 - 1 = k from rfl, repl_snoc]
    · obtain ⟨f', rfl⟩ : ∃ f', f = f' + 1 := ⟨f - 1, by
        rcases Nat.eq_zero_or_pos f with h1 | h1
        · rw [h1] at hx; omega
        · omega⟩
      have g1 : baseS 10 false (f' + 1 + 1) x = baseS 10 false (f' + 1) (x / 10) ++ [bdig false (x % 10)] := by
        show (if x < 10 then _ else _) = _
        rw [if_neg h]
      have g2 : baseS 10 false (f' + 1) (x / 10) = baseS 10 false (f' + 1 + 1) (x / 10) := baseS_more 10 false (by omega) f' (x / 10) (by
        rw [Nat.div_lt_iff_lt_mul (by omega), ← Nat.pow_succ]; exact hx)
      rw [g1, g2, List.length_append, List.length_singleton, List.append_assoc]
      rw [show k + 1 + 1 - ((baseS 10 false (f' + 1 + 1) (x / 10)).length + 1) = k + 1 - (baseS 10 false (f' + 1 + 1) (x / 10)).length from by omega]
end Go.Proofs.YtbbhcbpfffabpaaGreatDoor

/- format.Fixed: a walk. -/
namespace Go.Proofs.YtbbhcbpfffabpaaGreatDoor
open Go.RowKit

/-- The digits of the whole part, and those behind the point. -/
def fixW (a many : Nat) : List UInt8 := baseS 10 false 20 (roundN a many / 10 ^ keepN many)
def fixF (a many : Nat) : List UInt8 := fixT (keepN many) (roundN a many % 10 ^ keepN many)
theorem roundN_le (a many : Nat) : roundN a many ≤ a + 1 := by
  rw [round_step]
  have h := Nat.div_le_self a (10 ^ (6 - keepN many))
  split <;> omega
theorem fix_text (a many : Nat) (ha : a ≤ 9223372036854775808) (h6 : keepN many ≤ 6) :
    padS (ofL (baseS 10 false 64 (roundN a many))) (keepN many + 1 : Nat) false true = ofL (fixW a many ++ fixF a many) := by
  have hr := roundN_le a many
  rw [pad_digs (baseS_dig 10 (by omega) (by omega) false 64 _)]
  have hc : clampN ((keepN many + 1 : Nat) : Int) = keepN many + 1 := by
    unfold clampN
    rw [if_neg (by omega), if_neg (by omega)]; omega
  rw [hc]
  unfold fillS
  rw [ofL_append, pad_cut (keepN many) 63 _ (Nat.lt_of_le_of_lt (by omega : _ ≤ 9223372036854775809) (by decide))]
  unfold fixW fixF
  rw [baseS_fuel 10 false (by omega) (roundN a many / 10 ^ keepN many) 44 19]
  exact Nat.lt_of_le_of_lt (Nat.div_le_self _ _) (Nat.lt_of_le_of_lt (by omega : _ ≤ 9223372036854775809) (by decide))
theorem fixF_len (a many : Nat) : (fixF a many).length = keepN many := fixT_len _ _
theorem fixW_len (a many : Nat) : (fixW a many).length ≤ 20 := baseS_len _ _ _ _
theorem fixed_zero (a : Nat) : fixedT a 0 = fixW a 0 := by
  unfold fixedT fixW
  rw [show keepN 0 = 0 from rfl]
  simp [fracT]
theorem fixed_more (a many : Nat) (h : 0 < many) : fixedT a many = fixW a many ++ 46 :: fixF a many ++ List.replicate (many - keepN many) 48 := by
  unfold fixedT fixW fracT
  rw [if_neg (by unfold keepN; omega)]
  rfl
theorem cut_left (P Q : List UInt8) : (ofL (P ++ Q)).extract 0 P.length = ofL P := T2.bytes_ext (by
  rw [Lib.extract_data, ofL_list, ofL_list]; simp)
theorem cut_right (P Q : List UInt8) : (ofL (P ++ Q)).extract P.length (ofL (P ++ Q)).size = ofL Q := T2.bytes_ext (by
  rw [Lib.extract_data, ofL_list, ofL_list, ofL_size]; simp)

set_option maxRecDepth 100000 in
set_option maxHeartbeats 2000000 in
theorem fixedP_any (n : Int) (hn : -9223372036854775808 ≤ n ∧ n ≤ 9223372036854775807) (dg : Int) (w : World) (hE : Env w) :
    Calls Tryz.prog 148 #[.int .i64 n, .int .i64 dg] w (StrOut (ofL (fixedS n dg)) w) := by
  have HW := Lib.hid (fun w => within_any dg w)
  have HD := Lib.hid (fun w => distance_any n hn w)
  have hw := clampN_le dg
  obtain ⟨M, hMe⟩ : ∃ M, M = clampN dg := ⟨_, rfl⟩
  obtain ⟨a, ha⟩ : ∃ a, a = n.natAbs := ⟨_, rfl⟩
  have HF : Hid (fixedS n dg = (if n < 0 then [45] else []) ++ fixedT a M) := Lib.hid (by unfold fixedS; rw [← hMe, ← ha])
  rw [← hMe] at HW hw
  rw [← ha] at HD
  have ha64 : a ≤ 9223372036854775808 := by omega
  have fin : ∀ t e w', ofL (fixedS n dg) = t → StrOut t w e w' → StrOut (ofL (fixedS n dg)) w e w' := fun t e w' h h2 => by rw [h]; exact h2
  have FIN := Lib.hid fin
  have HE := Lib.hid hE
  clear fin ha hMe hE
  obtain ⟨r, hr⟩ : ∃ r, r = 6 - M := ⟨_, rfl⟩
  have hr6 : r ≤ 6 := by omega
  have HR : Hid (r = 6 - keepN M) := Lib.hid (by rw [hr]; unfold keepN; omega)
  have Hr := Lib.hid hr
  clear hr
  go_enter Tryz.func148, Tryz.ntmps148
  go_wp2_with fail
  refine (HW.out _).mono ?_
  rintro e w1 ⟨rfl, rfl⟩
  go_wp2_with fail
  refine (HD.out _).mono ?_
  rintro e w1 ⟨rfl, rfl⟩
  go_wp2_with fail
  go_loop [5, 6, 17] (fun x y z => ∃ i q d : Nat, x = .int .u64 q ∧ y = .int .u64 d ∧ z = .int .i64 i ∧ i ≤ r ∧ q ≤ a ∧ d < 10 ∧ Hid (q = a / 10 ^ i ∧ d = dropN a i)) (fun _ _ z => r - (intOf z).toNat)
  case atStart => exact ⟨0, a, 0, rfl, rfl, rfl, by omega, by omega, by omega, Lib.hid ⟨by simp, rfl⟩⟩
  case round =>
    obtain ⟨i, q, d, rfl, rfl, rfl, hi, hq, hd, H⟩ := hrel
    by_cases hlt : i < r
    · have dt : decide ((i : Int) < 6 - (M : Int)) = true := decide_eq_true (by have := Hr.out; omega)
      have hqd := Nat.div_le_self q 10
      have HN : Hid (q / 10 = a / 10 ^ (i + 1) ∧ q % 10 = dropN a (i + 1)) := Lib.hid (by
        obtain ⟨h1, h2⟩ := H.out
        refine ⟨by rw [h1, Nat.div_div_eq_div_mul, Nat.pow_succ], ?_⟩
        rw [h1]; rfl)
      go_wp2_with fail
      go_round
      case rel => exact ⟨i + 1, q / 10, q % 10, by go_num, by go_num, by go_num, by omega, by omega, by omega, HN⟩
      case measure => simp [intOf]; omega
    · have dt : decide ((i : Int) < 6 - (M : Int)) = false := decide_eq_false (by have := Hr.out; omega)
      obtain rfl : i = r := by omega
      obtain ⟨x, hx⟩ : ∃ x, x = roundN a M := ⟨_, rfl⟩
      have hxv : x = q + if 5 ≤ d then 1 else 0 := by
        rw [hx, round_step, ← HR.out, H.out.1, H.out.2]
      go_upto_if 25 with (fail)
      go_cut [5] (fun v wx => v = .int .u64 x ∧ w = wx)
      case first =>
        by_cases h5 : 5 ≤ d
        · rw [if_pos h5] at hxv
          have d5 : decide ((5 : Int) ≤ (d : Int)) = true := decide_eq_true (by omega)
          have HXV := Lib.hid hxv
          clear hxv hx
          go_wp2_with fail
          go_meet
          exact ⟨by rw [HXV.out]; go_num, rfl⟩
        · rw [if_neg h5] at hxv
          have d5 : decide ((5 : Int) ≤ (d : Int)) = false := decide_eq_false (by omega)
          have HXV := Lib.hid hxv
          clear hxv hx
          go_wp2_with fail
          go_meet
          exact ⟨by rw [HXV.out]; go_num, rfl⟩
      case rest =>
        obtain ⟨rfl, hw1⟩ := hcut
        subst hw1
        go_step
        obtain ⟨K, hK⟩ : ∃ K, K = keepN M := ⟨_, rfl⟩
        have hK6 : K ≤ 6 := by rw [hK]; unfold keepN; omega
        have hKM : K ≤ M := by rw [hK]; unfold keepN; omega
        have hmin : min (M : Int) 6 = (K : Int) := by rw [hK]; unfold keepN; omega
        have hx64 : x ≤ 9223372036854775809 := by have := roundN_le a M; omega
        have HT := fix_text a M ha64 (by omega)
        rw [← hx, ← hK] at HT
        have hFl := fixF_len a M
        have hWl := fixW_len a M
        rw [← hK] at hFl
        obtain ⟨P, hP⟩ : ∃ P, P = fixW a M := ⟨_, rfl⟩
        obtain ⟨Q, hQ⟩ : ∃ Q, Q = fixF a M := ⟨_, rfl⟩
        rw [← hP, ← hQ] at HT
        rw [← hP] at hWl
        rw [← hQ] at hFl
        have hz : M = 0 → fixedS n dg = (if n < 0 then [45] else []) ++ P := fun h => by
          rw [HF.out, h, fixed_zero, hP, h]
        have hpos : 0 < M → fixedS n dg = (if n < 0 then [45] else []) ++ (P ++ 46 :: Q ++ List.replicate (M - K) 48) := fun h => by
          rw [HF.out, fixed_more a M h, hP, hQ, hK]
        have HZ := Lib.hid hz
        have HPOS := Lib.hid hpos
        have HU := Lib.hid (fun w hE => fmtU 10 (by omega) x (by omega) w hE)
        have HPAD : Hid (∀ w, Calls Tryz.prog 108 #[.string ⟨(baseS 10 false 64 x).toArray⟩, .int .i64 ((K : Int) + 1), .bool false, .bool true] w (StrOut (ofL (P ++ Q)) w)) := Lib.hid (fun w => by
          have h := padP_any (ofL (baseS 10 false 64 x)) (by rw [ofL_size]; have := baseS_len 10 false 64 x; omega) (K + 1 : Nat) false true w
          rw [HT] at h
          exact h)
        have hs1 : (ofL (P ++ Q)).size = P.length + K := by rw [ofL_size, List.length_append, hFl]
        have HL := Lib.hid (cut_left P Q)
        have HRr := Lib.hid (cut_right P Q)
        obtain ⟨T, hT⟩ : ∃ T, T = ofL (P ++ Q) := ⟨_, rfl⟩
        obtain ⟨p, hp⟩ : ∃ p, p = P.length := ⟨_, rfl⟩
        rw [← hT] at HPAD HL HRr hs1
        rw [← hp] at HL HRr hs1 hWl
        have hsub : (T.size : Int) - (K : Int) = (p : Int) := by rw [hs1]; omega
        have hpT : p ≤ T.size := by omega
        have hT26 : T.size ≤ 26 := by omega
        have HS1 := Lib.hid hs1
        have Hp := Lib.hid hp
        have HFl := Lib.hid hFl
        clear hz hpos HT hx hxv HF hP hQ hT hp hs1 hFl HR Hr H HD HW hn hK
        go_wp2_with fail
        refine (HU.out _ HE.out).mono ?_
        rintro e w1 ⟨rfl, b1⟩
        have B1 := Lib.hid b1
        clear b1
        go_wp2_with fail
        refine (HPAD.out _).mono ?_
        rintro e w2 ⟨rfl, b2⟩
        have B2 := Lib.hid (Below.step B1.out b2)
        clear b2
        go_wp2_with fail
        by_cases h0 : n < 0
        · have d0 : decide (n < 0) = true := decide_eq_true h0
          have hm : min p T.size = p := by omega
          have n1 : ¬ 9223372036854775807 < (⟨#[45]⟩ : ByteArray).size + p := by rw [show (⟨#[45]⟩ : ByteArray).size = 1 from rfl]; omega
          have n2 : ¬ 9223372036854775807 < (⟨#[45]⟩ : ByteArray).size + (ofL P).size := by rw [show (⟨#[45]⟩ : ByteArray).size = 1 from rfl, ofL_size, ← Hp.out]; omega
          have n3 : ¬ 9223372036854775807 < 1 + p := by omega
          by_cases hM : M = 0
          · have dM : ((M : Int) == 0) = true := by rw [hM]; rfl
            have HZ1 := Lib.hid (HZ.out hM)
            clear hM
            go_quiet (fail)
            go_wp2_with fail
            go_ret
            exact FIN.out _ _ _ (by rw [HZ1.out, if_pos (by omega), HL.out, ← ofL_append]; rfl) ⟨rfl, Below.drewN' B2.out _⟩
          · have dM : ((M : Int) == 0) = false := beq_eq_false_iff_ne.2 (by omega)
            have HZ1 := Lib.hid (HPOS.out (by omega))
            have eMK : (M : Int) - (K : Int) = ((M - K : Nat) : Int) := by omega
            have HREP := Lib.hid (fun w => repeat_one 48 (M - K) (by omega) w)
            clear hM
            have hfz := fillS_size 48 (M - K)
            have HFZ := Lib.hid hfz
            have n4 : ¬ 9223372036854775807 < 1 + p + 1 + (T.size - p) + (fillS 48 (M - K)).size := by omega
            clear hfz
            go_quiet (fail)
            go_wp2_with fail
            refine (HREP.out _).mono ?_
            rintro e w3 ⟨rfl, b3⟩
            have B3 := Lib.hid (Below.step (Below.drewN' B2.out _) b3)
            clear b3
            go_wp2_with fail
            go_ret
            exact FIN.out _ _ _ (by rw [HZ1.out, if_pos (by omega), HL.out, HRr.out]; exact T2.bytes_ext (by simp [ofL, fillS])) ⟨rfl, B3.out⟩
        · have d0 : decide (n < 0) = false := decide_eq_false h0
          have hm : min p T.size = p := by omega
          by_cases hM : M = 0
          · have dM : ((M : Int) == 0) = true := by rw [hM]; rfl
            have HZ1 := Lib.hid (HZ.out hM)
            clear hM
            go_quiet (fail)
            go_wp2_with fail
            go_ret
            exact FIN.out _ _ _ (by rw [HZ1.out, if_neg (by omega), HL.out, ← ofL_append]; rfl) ⟨rfl, Below.drewN' B2.out _⟩
          · have dM : ((M : Int) == 0) = false := beq_eq_false_iff_ne.2 (by omega)
            have HZ1 := Lib.hid (HPOS.out (by omega))
            have eMK : (M : Int) - (K : Int) = ((M - K : Nat) : Int) := by omega
            have HREP := Lib.hid (fun w => repeat_one 48 (M - K) (by omega) w)
            clear hM
            have hfz := fillS_size 48 (M - K)
            have HFZ := Lib.hid hfz
            have n4 : ¬ 9223372036854775807 < p + 1 + (T.size - p) + (fillS 48 (M - K)).size := by omega
            clear hfz
            go_quiet (fail)
            go_wp2_with fail
            refine (HREP.out _).mono ?_
            rintro e w3 ⟨rfl, b3⟩
            have B3 := Lib.hid (Below.step (Below.drewN' B2.out _) b3)
            clear b3
            go_wp2_with fail
            go_ret
            exact FIN.out _ _ _ (by rw [HZ1.out, if_neg (by omega), HL.out, HRr.out]; exact T2.bytes_ext (by simp [ofL, fillS])) ⟨rfl, B3.out⟩
end Go.Proofs.YtbbhcbpfffabpaaGreatDoor

/- What cells tell: cell.Num, Str, dec.Int, format.bounded, character: walks. -/
namespace Go.Proofs.YtbbhcbpfffabpaaGreatDoor
open Go.RowKit

/-- A cell that can be walked. -/
structure COk (c : Cel) : Prop where
  n : T3.Fits c.n
  s : c.s.size ≤ 300
/-- A number and an error. -/
def TwoOut (a b : Int) (w : World) (e : Ending) (w' : World) : Prop := e = .returned (.tuple #[.int .i64 a, .int .i64 b]) ∧ Below w.heap.size w w'
/-- A text and an error. -/
def StrErr (r : ByteArray × Int) (w : World) (e : Ending) (w' : World) : Prop := e = .returned (.tuple #[.string r.1, .int .i64 r.2]) ∧ Below w.heap.size w w'

theorem back_cases (x : Int) : ((T3.back x).2 = 0 ∧ T3.Fits (T3.back x).1) ∨ ((T3.back x).2 = 10 ∧ (T3.back x).1 = 0) := by
  unfold T3.back
  split
  · rename_i h; exact Or.inl ⟨rfl, h⟩
  · exact Or.inr ⟨rfl, rfl⟩
theorem num_cases (c : Cel) (h : T3.Fits c.n) : (c.err = 0 ∧ T3.Fits c.num) ∨ (c.err = 10 ∧ c.num = 0) := by
  unfold Cel.err Cel.num
  have h0 : T3.Fits 0 := by unfold T3.Fits; omega
  by_cases h2 : c.k = 2
  · rw [if_pos h2, if_pos h2]
    unfold T3.pR T3.pN
    by_cases hp : T3.parseNone c.s.data.toList
    · rw [if_pos hp, if_pos hp]; exact Or.inl ⟨rfl, h0⟩
    · rw [if_neg hp, if_neg hp]; exact back_cases _
  · rw [if_neg h2, if_neg h2]
    split
    · exact Or.inl ⟨rfl, h⟩
    · exact Or.inl ⟨rfl, h0⟩

set_option maxRecDepth 100000 in
theorem leading_any (s : ByteArray) (hs : s.size ≤ 300) (w : World) :
    Calls Tryz.prog 72 #[.string s] w fun e w' => e = .returned (.tuple #[.int .i64 (T3.pN s.data.toList), .int .i64 (T3.pR s.data.toList)]) ∧ w = w' := by
  have H := Lib.hid (T3.parse_any s w (by omega))
  have h3 := T3.parse_three s.data.toList
  obtain ⟨a, ha⟩ : ∃ a, a = T3.pN s.data.toList := ⟨_, rfl⟩
  obtain ⟨b, hb⟩ : ∃ b, b = T3.pE s.data.toList := ⟨_, rfl⟩
  obtain ⟨c, hc⟩ : ∃ c, c = T3.pR s.data.toList := ⟨_, rfl⟩
  rw [← ha, ← hb, ← hc] at h3
  rw [← ha, ← hc]
  rw [h3] at H
  clear ha hb hc h3
  go_enter Tryz.func72, Tryz.ntmps72
  go_wp2_with fail
  refine H.out.mono ?_
  rintro e w1 ⟨rfl, rfl⟩
  go_wp2_with fail
  go_ret2
  exact ⟨rfl, rfl⟩

set_option maxRecDepth 100000 in
theorem cnum_any (c : Cel) (h : COk c) (w : World) : Calls Tryz.prog 42 #[c.val] w (TwoOut c.num c.err w) := by
  by_cases h2 : c.k = 2
  · have hn : c.num = T3.pN c.s.data.toList := by unfold Cel.num; rw [if_pos h2]
    have he : c.err = T3.pR c.s.data.toList := by unfold Cel.err; rw [if_pos h2]
    rw [hn, he]
    clear hn he
    unfold Cel.val
    rw [h2]
    have hs := h.s
    obtain ⟨_, n, s⟩ := c
    dsimp only at hs ⊢
    have HL := Lib.hid (fun w => leading_any s hs w)
    have B0 := Lib.hid (below_new w (.cells #[.int .i64 2, .int .i64 n, .string s] 25))
    clear h h2
    go_enter Tryz.func42, Tryz.ntmps42
    go_wp2_with fail
    refine (HL.out _).mono ?_
    rintro e w1 ⟨rfl, rfl⟩
    go_wp2_with fail
    go_ret2
    exact ⟨rfl, B0.out⟩
  · refine (T3.num_cell c.k c.n c.s h2 w).mono ?_
    rintro e w1 ⟨rfl, b1⟩
    refine ⟨?_, b1⟩
    unfold Cel.num Cel.err T3.numC
    rw [if_neg h2, if_neg h2]
theorem cstr_any (c : Cel) (h : COk c) (w : World) : Calls Tryz.prog 11 #[c.val] w (StrOut c.str w) :=
  (T3.str_any c.k c.n c.s h.n w).mono fun _ _ h => h
theorem cstr_size (c : Cel) (h : COk c) : c.str.size ≤ 300 := T3.strC_size c.k c.n c.s h.s

theorem tmod_near' (a : Int) (ha : T3.Fits a) : a - a.tmod 1000000 = a.tdiv 1000000 * 1000000 ∧ -9223372036854775808 ≤ a.tdiv 1000000 * 1000000 ∧ a.tdiv 1000000 * 1000000 ≤ 9223372036854775807 := by
  unfold T3.Fits at ha
  have h := Int.tmod_add_mul_tdiv a 1000000
  refine ⟨by omega, ?_⟩
  by_cases h0 : 0 ≤ a
  · have := Int.tdiv_eq_ediv_of_nonneg h0 (b := 1000000)
    omega
  · have e : a.tdiv 1000000 = -((-a) / 1000000) := by rw [← Int.tdiv_eq_ediv_of_nonneg (by omega), Int.neg_tdiv, Int.neg_neg]
    omega
theorem tdiv_bd (a : Int) (ha : T3.Fits a) : -9223372036855 ≤ a.tdiv 1000000 ∧ a.tdiv 1000000 ≤ 9223372036855 := by
  have := tmod_near' a ha
  omega
set_option maxRecDepth 100000 in
theorem dint_any (a : Int) (ha : T3.Fits a) (w : World) :
    Calls Tryz.prog 44 #[.int .i64 a] w fun e w' => e = .returned (.int .i64 (a.tdiv 1000000 * 1000000)) ∧ w = w' := by
  obtain ⟨h1, h2, h3⟩ := tmod_near' a ha
  have h : wrap64 (a - a.tmod 1000000) = a.tdiv 1000000 * 1000000 := by
    rw [h1]; unfold wrap64; omega
  unfold T3.Fits at ha
  obtain ⟨a1, a2⟩ := ha
  have H := Lib.hid h
  clear h h1 h2 h3
  go_enter Tryz.func44, Tryz.ntmps44
  go_wp2
  go_ret
  exact ⟨T2.ret_i64 H.out, rfl⟩

set_option maxRecDepth 100000 in
theorem bounded_any (c : Cel) (h : COk c) (w : World) : Calls Tryz.prog 124 #[c.val] w (TwoOut (starS c).1 (starS c).2 w) := by
  have HN := Lib.hid (fun w => cnum_any c h w)
  have hnc := num_cases c h.n
  have HS : Hid (starS c = if c.err ≠ 0 then (0, c.err) else if c.num.tdiv 1000000 < 0 ∨ 200 < c.num.tdiv 1000000 then (0, 100) else (c.num.tdiv 1000000, 0)) := Lib.hid rfl
  obtain ⟨E, hE⟩ : ∃ E, E = c.err := ⟨_, rfl⟩
  obtain ⟨M, hM⟩ : ∃ M, M = c.num := ⟨_, rfl⟩
  rw [← hE, ← hM] at HN hnc HS
  have B0 := Lib.hid (below_new w (.cells #[.int .i64 c.k, .int .i64 c.n, .string c.s] 25))
  have hv : c.val = .agg #[.int .i64 c.k, .int .i64 c.n, .string c.s] := rfl
  rw [hv] at HN
  rw [hv]
  have fin : ∀ a b e w', starS c = (a, b) → TwoOut a b w e w' → TwoOut (starS c).1 (starS c).2 w e w' := fun a b e w' h1 h2 => by rw [h1]; exact h2
  have FIN := Lib.hid fin
  clear fin hE hM hv
  have hst : ∀ e, StrErr (noTxt, 0) w e w → True := fun _ _ => trivial
  clear hst
  rcases hnc with ⟨hE, hM⟩ | ⟨hE, hM⟩
  · obtain ⟨q, hq⟩ : ∃ q, q = M.tdiv 1000000 := ⟨_, rfl⟩
    have hqb := tdiv_bd M hM
    rw [← hq] at HS hqb
    rw [hE] at HS HN
    have HN' : Hid (∀ w, Calls Tryz.prog 42 #[.agg #[.int .i64 c.k, .int .i64 c.n, .string c.s]] w (TwoOut M 0 w)) := HN
    clear HN hE
    have wM : wrap64 (M.tdiv 1000000) = q := by rw [← hq]; unfold wrap64; omega
    clear hq
    by_cases h1 : q < 0
    · have d1 : decide (q < 0) = true := decide_eq_true h1
      have HR : Hid (starS c = (0, 100)) := Lib.hid (by rw [HS.out, if_neg (by omega), if_pos (Or.inl h1)])
      go_enter Tryz.func124, Tryz.ntmps124
      go_wp2_with fail
      refine (HN'.out _).mono ?_
      rintro e w1 ⟨rfl, b1⟩
      have B1 := Lib.hid (Below.step B0.out b1)
      clear b1
      go_wp2_with fail
      go_ret2
      exact FIN.out _ _ _ _ HR.out ⟨rfl, B1.out⟩
    · have d1 : decide (q < 0) = false := decide_eq_false h1
      by_cases h2 : 200 < q
      · have d2 : decide (200 < q) = true := decide_eq_true h2
        have HR : Hid (starS c = (0, 100)) := Lib.hid (by rw [HS.out, if_neg (by omega), if_pos (Or.inr h2)])
        go_enter Tryz.func124, Tryz.ntmps124
        go_wp2_with fail
        refine (HN'.out _).mono ?_
        rintro e w1 ⟨rfl, b1⟩
        have B1 := Lib.hid (Below.step B0.out b1)
        clear b1
        go_wp2_with fail
        go_ret2
        exact FIN.out _ _ _ _ HR.out ⟨rfl, B1.out⟩
      · have d2 : decide (200 < q) = false := decide_eq_false h2
        have HR : Hid (starS c = (q, 0)) := Lib.hid (by rw [HS.out, if_neg (by omega), if_neg (by omega)])
        go_enter Tryz.func124, Tryz.ntmps124
        go_wp2_with fail
        refine (HN'.out _).mono ?_
        rintro e w1 ⟨rfl, b1⟩
        have B1 := Lib.hid (Below.step B0.out b1)
        clear b1
        go_wp2_with fail
        go_ret2
        exact FIN.out _ _ _ _ HR.out ⟨by show Ending.returned (.tuple #[.int .i64 (wrap64 (M.tdiv 1000000)), .int .i64 0]) = _; rw [wM], B1.out⟩
  · rw [hE, hM] at HN
    have HR : Hid (starS c = (0, 10)) := Lib.hid (by rw [HS.out, hE, if_pos (by omega)])
    clear hE hM
    go_enter Tryz.func124, Tryz.ntmps124
    go_wp2_with fail
    refine (HN.out _).mono ?_
    rintro e w1 ⟨rfl, b1⟩
    have B1 := Lib.hid (Below.step B0.out b1)
    clear b1
    go_wp2_with fail
    go_ret2
    exact FIN.out _ _ _ _ HR.out ⟨rfl, B1.out⟩

set_option maxRecDepth 100000 in
set_option maxHeartbeats 1000000 in
theorem character_any (c : Cel) (h : COk c) (w : World) :
    Calls Tryz.prog 125 #[c.val] w (StrErr (if c.k = 1 then chrS (c.n.tdiv 1000000) else (T2.subB c.str 1 1, 0)) w) := by
  have B0 := Lib.hid (below_new w (.cells #[.int .i64 c.k, .int .i64 c.n, .string c.s] 25))
  have hv : c.val = .agg #[.int .i64 c.k, .int .i64 c.n, .string c.s] := rfl
  by_cases hk : c.k = 1
  · rw [if_pos hk]
    have hn := h.n
    obtain ⟨k, n, s⟩ := c
    dsimp only at hk hn B0 hv ⊢
    subst hk
    rw [hv]
    obtain ⟨q, hq⟩ : ∃ q, q = n.tdiv 1000000 := ⟨_, rfl⟩
    have hqb := tdiv_bd n hn
    rw [← hq] at hqb ⊢
    have wq : wrap64 (n.tdiv 1000000) = q := by rw [← hq]; unfold wrap64; omega
    clear hq h hv hn
    by_cases hb : wrap32 q = q
    · have hrb : -2147483648 ≤ q ∧ q ≤ 2147483647 := by
        unfold wrap32 at hb; omega
      have HV := Lib.hid (fun w => Tryz.utf8_ValidRune q w)
      by_cases hval : (0 ≤ q ∧ q < 55296) ∨ (57343 < q ∧ q ≤ 1114111)
      · have hvr : Lib.validRune q = true := by unfold Lib.validRune; exact decide_eq_true hval
        rw [hvr] at HV
        have HC : Hid (chrS q = (Utf8.encode q, 0)) := Lib.hid (by unfold chrS; rw [if_neg (by omega)])
        clear hvr
        go_enter Tryz.func125, Tryz.ntmps125
        go_wp2_with fail
        refine (HV.out _).mono ?_
        rintro e w1 ⟨rfl, rfl⟩
        go_wp2_with fail
        go_ret2
        rw [HC.out]
        exact ⟨rfl, B0.out⟩
      · have hvr : Lib.validRune q = false := by unfold Lib.validRune; exact decide_eq_false hval
        rw [hvr] at HV
        have HC : Hid (chrS q = (noTxt, 100)) := Lib.hid (by unfold chrS; rw [if_pos (by omega)])
        clear hvr
        go_enter Tryz.func125, Tryz.ntmps125
        go_wp2_with fail
        refine (HV.out _).mono ?_
        rintro e w1 ⟨rfl, rfl⟩
        go_wp2_with fail
        go_ret2
        rw [HC.out]
        exact ⟨rfl, B0.out⟩
    · have hrb : q < -2147483648 ∨ 2147483647 < q := by
        rcases Int.lt_or_le q (-2147483648) with h1 | h1
        · exact Or.inl h1
        · rcases Int.lt_or_le 2147483647 q with h2 | h2
          · exact Or.inr h2
          · exact absurd (by unfold wrap32; omega) hb
      have HC : Hid (chrS q = (noTxt, 100)) := Lib.hid (by unfold chrS; rw [if_pos (by omega)])
      have d1 : (wrap64 (wrap32 q) != q) = true := bne_iff_ne.2 (fun e => hb (by rw [← e]; unfold wrap64 wrap32; omega))
      clear hb hrb
      go_enter Tryz.func125, Tryz.ntmps125
      go_wp2_with fail
      go_ret2
      rw [HC.out]
      exact ⟨rfl, B0.out⟩
  · rw [if_neg hk]
    have HS := Lib.hid (fun w => cstr_any c h w)
    have hsz := cstr_size c h
    have HB := Lib.hid (fun w => T2.sub_any c.str 1 1 (by unfold maxLen; omega) (by omega) (by omega) w)
    rw [hv] at HS
    rw [hv]
    have d1 : (c.k != 1) = true := bne_iff_ne.2 hk
    clear hv hk
    go_enter Tryz.func125, Tryz.ntmps125
    go_wp2_with fail
    refine (HS.out _).mono ?_
    rintro e w1 ⟨rfl, b1⟩
    have B1 := Lib.hid (Below.step B0.out b1)
    clear b1
    go_wp2_with fail
    refine (HB.out _).mono ?_
    rintro e w2 ⟨rfl, b2⟩
    have B2 := Lib.hid (Below.step B1.out b2)
    clear b2
    go_wp2_with fail
    go_ret2
    exact ⟨rfl, B2.out⟩
end Go.Proofs.YtbbhcbpfffabpaaGreatDoor
