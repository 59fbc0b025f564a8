/- ere.timesText: walks. -/
import Derived.Test.YtdhndfmblmcapaaDoorWrite
import Derived.Test.YtdhndfmblmcapaaDoorTimes
namespace Go.Proofs.YtdhndfmblmcapaaDoor
open Go.RowKit

theorem itoa_spec (m : Nat) (hm : m < 100) : ∃ D : ByteArray, D.data.toList = digs m ∧ D.size ≤ 2 ∧ ∀ w, Calls Tryd.prog 45 #[.int .i64 m] w fun e w' => e = .returned (.string D) ∧ w' = w := by
  refine ⟨⟨(Lib.decDigits m).toArray⟩, digs_is m hm, ?_, fun w => Tryd.strconv_Itoa_small m hm w⟩
  have : (⟨(Lib.decDigits m).toArray⟩ : ByteArray).size = (digs m).length := by rw [← digs_is m hm]; rfl
  rw [this]
  exact (digs_len m).2
theorem cat3 (a b c : ByteArray) : (a ++ b ++ c).data.toList = a.data.toList ++ b.data.toList ++ c.data.toList := by simp

theorem tt_star (w : World) : Calls Tryd.prog 34 #[.int .i64 0, .int .i64 (-1)] w fun e w' => ∃ t : ByteArray, e = .returned (.string t) ∧ Hid (t.data.toList = [42]) ∧ t.size ≤ 10 ∧ w' = w := by
  go_enter Tryd.func34, Tryd.ntmps34
  go_wp2_with fail
  go_ret
  exact ⟨_, rfl, Lib.hid rfl, by decide, rfl⟩

theorem tt_plus (w : World) : Calls Tryd.prog 34 #[.int .i64 1, .int .i64 (-1)] w fun e w' => ∃ t : ByteArray, e = .returned (.string t) ∧ Hid (t.data.toList = [43]) ∧ t.size ≤ 10 ∧ w' = w := by
  go_enter Tryd.func34, Tryd.ntmps34
  go_wp2_with fail
  go_ret
  exact ⟨_, rfl, Lib.hid rfl, by decide, rfl⟩

theorem tt_quest (w : World) : Calls Tryd.prog 34 #[.int .i64 0, .int .i64 1] w fun e w' => ∃ t : ByteArray, e = .returned (.string t) ∧ Hid (t.data.toList = [63]) ∧ t.size ≤ 10 ∧ w' = w := by
  go_enter Tryd.func34, Tryd.ntmps34
  go_wp2_with fail
  go_ret
  exact ⟨_, rfl, Lib.hid rfl, by decide, rfl⟩

set_option maxRecDepth 100000 in
theorem tt_open (m : Nat) (hm : m < 100) (a0 : ((m : Int) == 0) = false) (a1 : ((m : Int) == 1) = false) (w : World) : Calls Tryd.prog 34 #[.int .i64 m, .int .i64 (-1)] w fun e w' => ∃ t : ByteArray, e = .returned (.string t) ∧ Hid (t.data.toList = 123 :: (digs m ++ [44]) ++ [125]) ∧ t.size ≤ 10 ∧ w' = w := by
  obtain ⟨D, hD, hs, hc⟩ := itoa_spec m hm
  have HD := Lib.hid hD
  have HC := Lib.hid hc
  clear hD hc
  go_enter Tryd.func34, Tryd.ntmps34
  go_wp2_with fail
  refine (HC.out _).mono ?_
  rintro e w1 ⟨rfl, rfl⟩
  go_wp2_with fail
  go_ret
  refine ⟨_, rfl, Lib.hid ?_, ?_, rfl⟩
  · rw [cat3, HD.out]; simp
  · simp only [ByteArray.size_append]
    show 1 + D.size + 2 ≤ 10
    omega

set_option maxRecDepth 100000 in
theorem tt_same1 (m : Nat) (hm : m < 100) (a0 : ((m : Int) == 0) = true) (a1 : ((m : Int) == 1) = false) (w : World) : Calls Tryd.prog 34 #[.int .i64 m, .int .i64 m] w fun e w' => ∃ t : ByteArray, e = .returned (.string t) ∧ Hid (t.data.toList = 123 :: digs m ++ [125]) ∧ t.size ≤ 10 ∧ w' = w := by
  obtain ⟨D, hD, hs, hc⟩ := itoa_spec m hm
  have HD := Lib.hid hD
  have HC := Lib.hid hc
  have hn : ((m : Int) == -1) = false := beq_eq_false_iff_ne.2 (by omega)
  clear hD hc
  go_enter Tryd.func34, Tryd.ntmps34
  go_wp2_with fail
  refine (HC.out _).mono ?_
  rintro e w1 ⟨rfl, rfl⟩
  go_wp2_with fail
  go_ret
  refine ⟨_, rfl, Lib.hid ?_, ?_, rfl⟩
  · rw [cat3, HD.out]; simp
  · simp only [ByteArray.size_append]
    show 1 + D.size + 1 ≤ 10
    omega

set_option maxRecDepth 100000 in
theorem tt_same2 (m : Nat) (hm : m < 100) (a0 : ((m : Int) == 0) = false) (a1 : ((m : Int) == 1) = true) (w : World) : Calls Tryd.prog 34 #[.int .i64 m, .int .i64 m] w fun e w' => ∃ t : ByteArray, e = .returned (.string t) ∧ Hid (t.data.toList = 123 :: digs m ++ [125]) ∧ t.size ≤ 10 ∧ w' = w := by
  obtain ⟨D, hD, hs, hc⟩ := itoa_spec m hm
  have HD := Lib.hid hD
  have HC := Lib.hid hc
  have hn : ((m : Int) == -1) = false := beq_eq_false_iff_ne.2 (by omega)
  clear hD hc
  go_enter Tryd.func34, Tryd.ntmps34
  go_wp2_with fail
  refine (HC.out _).mono ?_
  rintro e w1 ⟨rfl, rfl⟩
  go_wp2_with fail
  go_ret
  refine ⟨_, rfl, Lib.hid ?_, ?_, rfl⟩
  · rw [cat3, HD.out]; simp
  · simp only [ByteArray.size_append]
    show 1 + D.size + 1 ≤ 10
    omega

set_option maxRecDepth 100000 in
theorem tt_same3 (m : Nat) (hm : m < 100) (a0 : ((m : Int) == 0) = false) (a1 : ((m : Int) == 1) = false) (w : World) : Calls Tryd.prog 34 #[.int .i64 m, .int .i64 m] w fun e w' => ∃ t : ByteArray, e = .returned (.string t) ∧ Hid (t.data.toList = 123 :: digs m ++ [125]) ∧ t.size ≤ 10 ∧ w' = w := by
  obtain ⟨D, hD, hs, hc⟩ := itoa_spec m hm
  have HD := Lib.hid hD
  have HC := Lib.hid hc
  have hn : ((m : Int) == -1) = false := beq_eq_false_iff_ne.2 (by omega)
  clear hD hc
  go_enter Tryd.func34, Tryd.ntmps34
  go_wp2_with fail
  refine (HC.out _).mono ?_
  rintro e w1 ⟨rfl, rfl⟩
  go_wp2_with fail
  go_ret
  refine ⟨_, rfl, Lib.hid ?_, ?_, rfl⟩
  · rw [cat3, HD.out]; simp
  · simp only [ByteArray.size_append]
    show 1 + D.size + 1 ≤ 10
    omega

set_option maxRecDepth 100000 in
theorem tt_two1 (m n : Nat) (hm : m < 100) (hn' : n < 100) (a0 : ((m : Int) == 0) = true) (a1 : ((m : Int) == 1) = false) (h1 : ((n : Int) == 1) = false) (e1 : ((m : Int) == n) = false) (w : World) : Calls Tryd.prog 34 #[.int .i64 m, .int .i64 n] w fun e w' => ∃ t : ByteArray, e = .returned (.string t) ∧ Hid (t.data.toList = 123 :: (digs m ++ 44 :: digs n) ++ [125]) ∧ t.size ≤ 10 ∧ w' = w := by
  obtain ⟨D, hD, hs, hc⟩ := itoa_spec m hm
  obtain ⟨E, hE, hs', hc'⟩ := itoa_spec n hn'
  have HD := Lib.hid hD
  have HC := Lib.hid hc
  have HE := Lib.hid hE
  have HC2 := Lib.hid hc'
  have hn : ((n : Int) == -1) = false := beq_eq_false_iff_ne.2 (by omega)
  clear hD hc hE hc'
  go_enter Tryd.func34, Tryd.ntmps34
  go_wp2_with fail
  refine (HC.out _).mono ?_
  rintro e w1 ⟨rfl, rfl⟩
  go_wp2_with fail
  refine (HC2.out _).mono ?_
  rintro e w1 ⟨rfl, rfl⟩
  go_wp2_with fail
  go_ret
  refine ⟨_, rfl, Lib.hid ?_, ?_, rfl⟩
  · simp only [ByteArray.data_append, Array.toList_append, HD.out, HE.out]; simp
  · simp only [ByteArray.size_append]
    show 1 + D.size + 1 + E.size + 1 ≤ 10
    omega

set_option maxRecDepth 100000 in
theorem tt_two2 (m n : Nat) (hm : m < 100) (hn' : n < 100) (a0 : ((m : Int) == 0) = false) (a1 : ((m : Int) == 1) = true) (e1 : ((m : Int) == n) = false) (w : World) : Calls Tryd.prog 34 #[.int .i64 m, .int .i64 n] w fun e w' => ∃ t : ByteArray, e = .returned (.string t) ∧ Hid (t.data.toList = 123 :: (digs m ++ 44 :: digs n) ++ [125]) ∧ t.size ≤ 10 ∧ w' = w := by
  obtain ⟨D, hD, hs, hc⟩ := itoa_spec m hm
  obtain ⟨E, hE, hs', hc'⟩ := itoa_spec n hn'
  have HD := Lib.hid hD
  have HC := Lib.hid hc
  have HE := Lib.hid hE
  have HC2 := Lib.hid hc'
  have hn : ((n : Int) == -1) = false := beq_eq_false_iff_ne.2 (by omega)
  clear hD hc hE hc'
  go_enter Tryd.func34, Tryd.ntmps34
  go_wp2_with fail
  refine (HC.out _).mono ?_
  rintro e w1 ⟨rfl, rfl⟩
  go_wp2_with fail
  refine (HC2.out _).mono ?_
  rintro e w1 ⟨rfl, rfl⟩
  go_wp2_with fail
  go_ret
  refine ⟨_, rfl, Lib.hid ?_, ?_, rfl⟩
  · simp only [ByteArray.data_append, Array.toList_append, HD.out, HE.out]; simp
  · simp only [ByteArray.size_append]
    show 1 + D.size + 1 + E.size + 1 ≤ 10
    omega

set_option maxRecDepth 100000 in
theorem tt_two3 (m n : Nat) (hm : m < 100) (hn' : n < 100) (a0 : ((m : Int) == 0) = false) (a1 : ((m : Int) == 1) = false) (e1 : ((m : Int) == n) = false) (w : World) : Calls Tryd.prog 34 #[.int .i64 m, .int .i64 n] w fun e w' => ∃ t : ByteArray, e = .returned (.string t) ∧ Hid (t.data.toList = 123 :: (digs m ++ 44 :: digs n) ++ [125]) ∧ t.size ≤ 10 ∧ w' = w := by
  obtain ⟨D, hD, hs, hc⟩ := itoa_spec m hm
  obtain ⟨E, hE, hs', hc'⟩ := itoa_spec n hn'
  have HD := Lib.hid hD
  have HC := Lib.hid hc
  have HE := Lib.hid hE
  have HC2 := Lib.hid hc'
  have hn : ((n : Int) == -1) = false := beq_eq_false_iff_ne.2 (by omega)
  clear hD hc hE hc'
  go_enter Tryd.func34, Tryd.ntmps34
  go_wp2_with fail
  refine (HC.out _).mono ?_
  rintro e w1 ⟨rfl, rfl⟩
  go_wp2_with fail
  refine (HC2.out _).mono ?_
  rintro e w1 ⟨rfl, rfl⟩
  go_wp2_with fail
  go_ret
  refine ⟨_, rfl, Lib.hid ?_, ?_, rfl⟩
  · simp only [ByteArray.data_append, Array.toList_append, HD.out, HE.out]; simp
  · simp only [ByteArray.size_append]
    show 1 + D.size + 1 + E.size + 1 ≤ 10
    omega

theorem timesText_spec (x : Int × Int) (h : OkTimes x) (w : World) : Calls Tryd.prog 34 #[.int .i64 x.1, .int .i64 x.2] w fun e w' => ∃ t : ByteArray, e = .returned (.string t) ∧ Hid (t.data.toList = timesL x.1 x.2) ∧ t.size ≤ 10 ∧ w' = w := by
  obtain ⟨lo, hi⟩ := x
  obtain ⟨h0, h1, h2⟩ := h
  simp only at h0 h1 h2 ⊢
  obtain ⟨m, rfl⟩ : ∃ m : Nat, lo = m := ⟨lo.toNat, by omega⟩
  unfold timesL
  by_cases c1 : ((m : Int) = 0 ∧ hi = -1)
  · rw [if_pos c1, c1.1, c1.2]; exact tt_star w
  rw [if_neg c1]
  by_cases c2 : ((m : Int) = 1 ∧ hi = -1)
  · rw [if_pos c2, c2.1, c2.2]; exact tt_plus w
  rw [if_neg c2]
  by_cases c3 : ((m : Int) = 0 ∧ hi = 1)
  · rw [if_pos c3, c3.1, c3.2]; exact tt_quest w
  rw [if_neg c3]
  have hm : m < 100 := by omega
  have f0 : m ≠ 0 → ((m : Int) == 0) = false := fun h => beq_eq_false_iff_ne.2 (by omega)
  have f1 : m ≠ 1 → ((m : Int) == 1) = false := fun h => beq_eq_false_iff_ne.2 (by omega)
  have t0 : m = 0 → ((m : Int) == 0) = true := fun h => beq_iff_eq.2 (by omega)
  have t1 : m = 1 → ((m : Int) == 1) = true := fun h => beq_iff_eq.2 (by omega)
  by_cases c4 : hi = -1
  · rw [if_pos c4, c4]
    exact tt_open m hm (f0 fun e => c1 ⟨by omega, c4⟩) (f1 fun e => c2 ⟨by omega, c4⟩) w
  rw [if_neg c4]
  obtain ⟨n, rfl⟩ : ∃ n : Nat, hi = n := ⟨hi.toNat, by omega⟩
  have hn : n < 100 := by omega
  by_cases c5 : (m : Int) = n
  · rw [if_pos c5, ← c5]
    by_cases d0 : m = 0
    · exact tt_same1 m hm (t0 d0) (f1 (by omega)) w
    · by_cases d1 : m = 1
      · exact tt_same2 m hm (f0 d0) (t1 d1) w
      · exact tt_same3 m hm (f0 d0) (f1 d1) w
  · rw [if_neg c5]
    have g1 : ((n : Int) == 1) = false := beq_eq_false_iff_ne.2 (by omega)
    have ge : ((m : Int) == n) = false := beq_eq_false_iff_ne.2 (by omega)
    by_cases d0 : m = 0
    · exact tt_two1 m n hm hn (t0 d0) (f1 (by omega)) g1 ge w
    · by_cases d1 : m = 1
      · exact tt_two2 m n hm hn (f0 d0) (t1 d1) ge w
      · exact tt_two3 m n hm hn (f0 d0) (f1 d1) ge w
end Go.Proofs.YtdhndfmblmcapaaDoor
