/- Bytes: isLetter, isDigit, isOfName, pass$1; run at each: walks. -/
import Derived.Test.YtejofdhpegcmjaaLexN
import Derived.KernelRfl
import Derived.Laws.Externs
namespace Go.Proofs.Ytejofdhpegcmjaa
open Go.RowKit

theorem letB_of (c : UInt8) (n : Nat) (h : c.toNat = n) : letB c = (decide (65 ≤ n ∧ n ≤ 90) || (decide (97 ≤ n ∧ n ≤ 122) || decide (n = 95))) := by subst h; rfl
set_option maxRecDepth 100000 in
theorem letter_spec (c : UInt8) (w : World) : Calls Try.prog 17 #[.int .u8 c.toNat] w fun e w' => e = .returned (.bool (letB c)) ∧ w' = w := by
  obtain ⟨n, hn⟩ : ∃ n, c.toNat = n := ⟨_, rfl⟩
  rw [letB_of c n hn, hn]
  have hlt : n < 256 := by rw [← hn]; exact UInt8.toNat_lt c
  clear hn
  by_cases h1 : 65 ≤ n
  · by_cases h2 : n ≤ 90
    · have e : (decide (65 ≤ n ∧ n ≤ 90) || (decide (97 ≤ n ∧ n ≤ 122) || decide (n = 95))) = true := by simp [h1, h2]
      rw [e]
      clear e
      have h1' : (65 : Int) ≤ n := by omega
      have h2' : (n : Int) ≤ 90 := by omega
      go_enter Try.func17, Try.ntmps17
      go_wp2_with fail
      go_ret
      exact ⟨rfl, rfl⟩
    · have d2 : decide ((n : Int) ≤ 90) = false := decide_eq_false (by omega)
      have d1 : decide ((65 : Int) ≤ n) = true := decide_eq_true (by omega)
      by_cases h3 : 97 ≤ n
      · have d3 : decide ((97 : Int) ≤ n) = true := decide_eq_true (by omega)
        by_cases h4 : n ≤ 122
        · have d4 : decide ((n : Int) ≤ 122) = true := decide_eq_true (by omega)
          have e : (decide (65 ≤ n ∧ n ≤ 90) || (decide (97 ≤ n ∧ n ≤ 122) || decide (n = 95))) = true := by simp [h3, h4]
          rw [e]
          clear e
          go_enter Try.func17, Try.ntmps17
          go_wp2_with fail
          go_ret
          exact ⟨rfl, rfl⟩
        · have d4 : decide ((n : Int) ≤ 122) = false := decide_eq_false (by omega)
          have d5 : ((n : Int) == 95) = false := by simp; omega
          have e : (decide (65 ≤ n ∧ n ≤ 90) || (decide (97 ≤ n ∧ n ≤ 122) || decide (n = 95))) = false := by simp [h2, h4]; omega
          rw [e]
          clear e
          go_enter Try.func17, Try.ntmps17
          go_wp2_with fail
          go_ret
          exact ⟨rfl, rfl⟩
      · have d3 : decide ((97 : Int) ≤ n) = false := decide_eq_false (by omega)
        have e : (decide (65 ≤ n ∧ n ≤ 90) || (decide (97 ≤ n ∧ n ≤ 122) || decide (n = 95))) = decide (n = 95) := by
          rw [decide_eq_false (p := 65 ≤ n ∧ n ≤ 90) (by omega), decide_eq_false (p := 97 ≤ n ∧ n ≤ 122) (by omega)]; rfl
        rw [e]
        clear e
        by_cases h5 : n = 95
        · subst h5
          go_enter Try.func17, Try.ntmps17
          go_wp2_with fail
          go_ret
          exact ⟨rfl, rfl⟩
        · have d5 : ((n : Int) == 95) = false := by simp; omega
          rw [decide_eq_false h5]
          go_enter Try.func17, Try.ntmps17
          go_wp2_with fail
          go_ret
          exact ⟨rfl, rfl⟩
  · have d1 : decide ((65 : Int) ≤ n) = false := decide_eq_false (by omega)
    have d3 : decide ((97 : Int) ≤ n) = false := decide_eq_false (by omega)
    have d5 : ((n : Int) == 95) = false := by simp; omega
    have e : (decide (65 ≤ n ∧ n ≤ 90) || (decide (97 ≤ n ∧ n ≤ 122) || decide (n = 95))) = false := by simp; omega
    rw [e]
    clear e
    go_enter Try.func17, Try.ntmps17
    go_wp2_with fail
    go_ret
    exact ⟨rfl, rfl⟩

theorem digB_of (c : UInt8) (n : Nat) (h : c.toNat = n) : digB c = decide (48 ≤ n ∧ n ≤ 57) := by subst h; rfl
set_option maxRecDepth 100000 in
theorem digit_spec (c : UInt8) (w : World) : Calls Try.prog 27 #[.int .u8 c.toNat] w fun e w' => e = .returned (.bool (digB c)) ∧ w' = w := by
  obtain ⟨n, hn⟩ : ∃ n, c.toNat = n := ⟨_, rfl⟩
  rw [digB_of c n hn, hn]
  have hlt : n < 256 := by rw [← hn]; exact UInt8.toNat_lt c
  clear hn
  by_cases h1 : 48 ≤ n
  · have d1 : decide ((48 : Int) ≤ n) = true := decide_eq_true (by omega)
    by_cases h2 : n ≤ 57
    · have d2 : decide ((n : Int) ≤ 57) = true := decide_eq_true (by omega)
      rw [decide_eq_true (p := 48 ≤ n ∧ n ≤ 57) ⟨h1, h2⟩]
      go_enter Try.func27, Try.ntmps27
      go_wp2_with fail
      go_ret
      exact ⟨rfl, rfl⟩
    · have d2 : decide ((n : Int) ≤ 57) = false := decide_eq_false (by omega)
      rw [decide_eq_false (p := 48 ≤ n ∧ n ≤ 57) (by omega)]
      go_enter Try.func27, Try.ntmps27
      go_wp2_with fail
      go_ret
      exact ⟨rfl, rfl⟩
  · have d1 : decide ((48 : Int) ≤ n) = false := decide_eq_false (by omega)
    rw [decide_eq_false (p := 48 ≤ n ∧ n ≤ 57) (by omega)]
    go_enter Try.func27, Try.ntmps27
    go_wp2_with fail
    go_ret
    exact ⟨rfl, rfl⟩

theorem letter_is (c : UInt8) (b : Bool) (h : letB c = b) (w : World) : Calls Try.prog 17 #[.int .u8 c.toNat] w fun e w' => e = .returned (.bool b) ∧ w' = w := by subst h; exact letter_spec c w
theorem digit_is (c : UInt8) (b : Bool) (h : digB c = b) (w : World) : Calls Try.prog 27 #[.int .u8 c.toNat] w fun e w' => e = .returned (.bool b) ∧ w' = w := by subst h; exact digit_spec c w

set_option maxRecDepth 100000 in
theorem ofName_spec (c : UInt8) (w : World) : Calls Try.prog 19 #[.int .u8 c.toNat] w fun e w' => e = .returned (.bool (namB c)) ∧ w' = w := by
  cases h : letB c
  case true =>
    have e : namB c = true := by unfold namB; rw [h]; rfl
    rw [e]
    have HL := Lib.hid (fun w => letter_is c true h w)
    clear h e
    go_enter Try.func19, Try.ntmps19
    go_wp2_with fail
    refine (HL.out _).mono ?_
    rintro e w1 ⟨rfl, rfl⟩
    go_wp2_with fail
    go_ret
    exact ⟨rfl, rfl⟩
  case false =>
    have e : namB c = digB c := by unfold namB; rw [h]; rfl
    rw [e]
    have HL := Lib.hid (fun w => letter_is c false h w)
    have HD := Lib.hid (fun w => digit_spec c w)
    clear h e
    go_enter Try.func19, Try.ntmps19
    go_wp2_with fail
    refine (HL.out _).mono ?_
    rintro e w1 ⟨rfl, rfl⟩
    go_wp2_with fail
    refine (HD.out _).mono ?_
    rintro e w2 ⟨rfl, rfl⟩
    go_wp2_with fail
    go_ret
    exact ⟨rfl, rfl⟩

set_option maxRecDepth 100000 in
theorem notFeed_spec (c : UInt8) (w : World) : Calls Try.prog 34 #[.int .u8 c.toNat] w fun e w' => e = .returned (.bool (notFeedB c)) ∧ w' = w := by
  by_cases h : c.toNat = 10
  · have e : notFeedB c = false := by unfold notFeedB; rw [decide_eq_true h]; rfl
    rw [e, h]
    go_enter Try.func34, Try.ntmps34
    go_wp2_with fail
    go_ret
    exact ⟨rfl, rfl⟩
  · have e : notFeedB c = true := by unfold notFeedB; rw [decide_eq_false h]; rfl
    rw [e]
    have d : ((c.toNat : Int) != 10) = true := by simp; omega
    go_enter Try.func34, Try.ntmps34
    go_wp2_with fail
    go_ret
    exact ⟨rfl, rfl⟩
end Go.Proofs.Ytejofdhpegcmjaa
