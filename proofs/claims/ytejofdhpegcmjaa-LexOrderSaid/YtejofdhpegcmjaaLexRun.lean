/- lex.run with each function that it is given: walks (gen_run.py). -/
import Derived.Test.YtejofdhpegcmjaaLexB
namespace Go.Proofs.Ytejofdhpegcmjaa
open Go.RowKit

theorem drop_at {l : List UInt8} {k : Nat} (h : k < l.length) : l.drop k = l[k] :: l.drop (k + 1) := List.drop_eq_getElem_cons h
theorem runN_step (is : UInt8 → Bool) (s : ByteArray) (k : Nat) (hk : k < s.size) : runN is (s.data.toList.drop k) = if is s[k] then runN is (s.data.toList.drop (k + 1)) + 1 else 0 := by
  rw [drop_at (by simpa using hk)]
  rfl

set_option maxRecDepth 100000 in
theorem run_nam (s : ByteArray) (hs : s.size ≤ 1152921504606846976) (w : World) :
    Calls Try.prog 18 #[.string s, .func (.func 19) #[] #[]] w fun e w' => e = .returned (.int .i64 (runN namB s.data.toList)) ∧ w' = w := by
  have HC := Lib.hid (fun c w => ofName_spec c w)
  go_enter Try.func18, Try.ntmps18
  go_wp2_with fail
  go_loop [8] (fun i => ∃ k : Nat, k ≤ s.size ∧ i = .int .i64 k ∧ Hid (runN namB s.data.toList = k + runN namB (s.data.toList.drop k))) (fun i => s.size - (intOf i).toNat)
  case atStart => exact ⟨0, Nat.zero_le _, rfl, Lib.hid (by simp)⟩
  case round =>
    obtain ⟨k, hk, rfl, HR⟩ := hrel
    by_cases hlt : k < s.size
    · have hst := runN_step namB s k hlt
      cases hb : namB s[k]
      case true =>
        rw [hb, if_pos rfl] at hst
        have HB := Lib.hid hb; clear hb
        have HS := Lib.hid hst; clear hst
        go_wp2_with fail
        refine (HC.out _ _).mono ?_
        rintro e w1 ⟨rfl, rfl⟩
        rw [HB.out]
        go_wp2_with fail
        go_round
        case rel => exact ⟨k + 1, by omega, by go_num, Lib.hid (by rw [HR.out, HS.out]; omega)⟩
        case measure => simp [intOf]; omega
      case false =>
        rw [hb] at hst
        have HB := Lib.hid hb; clear hb
        have HS := Lib.hid hst; clear hst
        go_wp2_with fail
        refine (HC.out _ _).mono ?_
        rintro e w1 ⟨rfl, rfl⟩
        rw [HB.out]
        go_wp2_with fail
        go_ret
        exact ⟨ret_i64 (by rw [HR.out, HS.out]; simp), rfl⟩
    · have hke : k = s.size := by omega
      subst hke
      go_wp2_with fail
      go_ret
      exact ⟨ret_i64 (by rw [HR.out, List.drop_eq_nil_of_le (by simp)]; rfl), rfl⟩

set_option maxRecDepth 100000 in
theorem run_dig (s : ByteArray) (hs : s.size ≤ 1152921504606846976) (w : World) :
    Calls Try.prog 18 #[.string s, .func (.func 27) #[] #[]] w fun e w' => e = .returned (.int .i64 (runN digB s.data.toList)) ∧ w' = w := by
  have HC := Lib.hid (fun c w => digit_spec c w)
  go_enter Try.func18, Try.ntmps18
  go_wp2_with fail
  go_loop [8] (fun i => ∃ k : Nat, k ≤ s.size ∧ i = .int .i64 k ∧ Hid (runN digB s.data.toList = k + runN digB (s.data.toList.drop k))) (fun i => s.size - (intOf i).toNat)
  case atStart => exact ⟨0, Nat.zero_le _, rfl, Lib.hid (by simp)⟩
  case round =>
    obtain ⟨k, hk, rfl, HR⟩ := hrel
    by_cases hlt : k < s.size
    · have hst := runN_step digB s k hlt
      cases hb : digB s[k]
      case true =>
        rw [hb, if_pos rfl] at hst
        have HB := Lib.hid hb; clear hb
        have HS := Lib.hid hst; clear hst
        go_wp2_with fail
        refine (HC.out _ _).mono ?_
        rintro e w1 ⟨rfl, rfl⟩
        rw [HB.out]
        go_wp2_with fail
        go_round
        case rel => exact ⟨k + 1, by omega, by go_num, Lib.hid (by rw [HR.out, HS.out]; omega)⟩
        case measure => simp [intOf]; omega
      case false =>
        rw [hb] at hst
        have HB := Lib.hid hb; clear hb
        have HS := Lib.hid hst; clear hst
        go_wp2_with fail
        refine (HC.out _ _).mono ?_
        rintro e w1 ⟨rfl, rfl⟩
        rw [HB.out]
        go_wp2_with fail
        go_ret
        exact ⟨ret_i64 (by rw [HR.out, HS.out]; simp), rfl⟩
    · have hke : k = s.size := by omega
      subst hke
      go_wp2_with fail
      go_ret
      exact ⟨ret_i64 (by rw [HR.out, List.drop_eq_nil_of_le (by simp)]; rfl), rfl⟩

set_option maxRecDepth 100000 in
theorem run_feed (s : ByteArray) (hs : s.size ≤ 1152921504606846976) (w : World) :
    Calls Try.prog 18 #[.string s, .func (.func 34) #[] #[]] w fun e w' => e = .returned (.int .i64 (runN notFeedB s.data.toList)) ∧ w' = w := by
  have HC := Lib.hid (fun c w => notFeed_spec c w)
  go_enter Try.func18, Try.ntmps18
  go_wp2_with fail
  go_loop [8] (fun i => ∃ k : Nat, k ≤ s.size ∧ i = .int .i64 k ∧ Hid (runN notFeedB s.data.toList = k + runN notFeedB (s.data.toList.drop k))) (fun i => s.size - (intOf i).toNat)
  case atStart => exact ⟨0, Nat.zero_le _, rfl, Lib.hid (by simp)⟩
  case round =>
    obtain ⟨k, hk, rfl, HR⟩ := hrel
    by_cases hlt : k < s.size
    · have hst := runN_step notFeedB s k hlt
      cases hb : notFeedB s[k]
      case true =>
        rw [hb, if_pos rfl] at hst
        have HB := Lib.hid hb; clear hb
        have HS := Lib.hid hst; clear hst
        go_wp2_with fail
        refine (HC.out _ _).mono ?_
        rintro e w1 ⟨rfl, rfl⟩
        rw [HB.out]
        go_wp2_with fail
        go_round
        case rel => exact ⟨k + 1, by omega, by go_num, Lib.hid (by rw [HR.out, HS.out]; omega)⟩
        case measure => simp [intOf]; omega
      case false =>
        rw [hb] at hst
        have HB := Lib.hid hb; clear hb
        have HS := Lib.hid hst; clear hst
        go_wp2_with fail
        refine (HC.out _ _).mono ?_
        rintro e w1 ⟨rfl, rfl⟩
        rw [HB.out]
        go_wp2_with fail
        go_ret
        exact ⟨ret_i64 (by rw [HR.out, HS.out]; simp), rfl⟩
    · have hke : k = s.size := by omega
      subst hke
      go_wp2_with fail
      go_ret
      exact ⟨ret_i64 (by rw [HR.out, List.drop_eq_nil_of_le (by simp)]; rfl), rfl⟩
end Go.Proofs.Ytejofdhpegcmjaa
