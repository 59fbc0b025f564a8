/- ere.number at one and two digits: walks. -/
import Derived.Test.YtdhndfmblmcapaaDoorRdr
namespace Go.Proofs.YtdhndfmblmcapaaDoor
open Go.RowKit

set_option maxRecDepth 100000 in
theorem number_one (s : ByteArray) (hs : s.size = 1) (a : Nat) (ha : s[0].toNat = a + 48) (h9 : a ≤ 9) (w : World) :
    Calls Tryd.prog 74 #[.string s] w fun e w' => e = .returned (.tuple #[.int .i64 a, .bool true]) ∧ w' = w := by
  go_enter Tryd.func74, Tryd.ntmps74
  go_wp2_with fail
  refine wp_loop_rounds 2 ?_
  rw [rounds_succ]
  have h1 : decide ((s[0].toNat : Int) < 48) = false := decide_eq_false (by omega)
  have h2 : decide ((57 : Int) < s[0].toNat) = false := decide_eq_false (by omega)
  go_wp2_with fail
  rw [rounds_succ]
  go_wp2_with fail
  go_ret2
  exact ⟨rfl, rfl⟩

set_option maxRecDepth 100000 in
theorem number_two (s : ByteArray) (hs : s.size = 2) (a b : Nat) (ha : s[0].toNat = a + 48) (h9 : a ≤ 9) (hb : s[1].toNat = b + 48) (hb9 : b ≤ 9) (w : World) :
    Calls Tryd.prog 74 #[.string s] w fun e w' => e = .returned (.tuple #[.int .i64 ((a : Int) * 10 + b), .bool true]) ∧ w' = w := by
  go_enter Tryd.func74, Tryd.ntmps74
  go_wp2_with fail
  refine wp_loop_rounds 3 ?_
  rw [rounds_succ]
  have h1 : decide ((s[0].toNat : Int) < 48) = false := decide_eq_false (by omega)
  have h2 : decide ((57 : Int) < s[0].toNat) = false := decide_eq_false (by omega)
  have h4 : decide ((s[1].toNat : Int) < 48) = false := decide_eq_false (by omega)
  have h5 : decide ((57 : Int) < s[1].toNat) = false := decide_eq_false (by omega)
  go_wp2_with fail
  rw [rounds_succ]
  go_wp2_with fail
  rw [rounds_succ]
  go_wp2_with fail
  go_ret2
  exact ⟨rfl, rfl⟩

/-- The digits of a number below 100. -/
def digs (n : Nat) : List UInt8 := if n < 10 then [UInt8.ofNat (48 + n)] else [UInt8.ofNat (48 + n / 10), UInt8.ofNat (48 + n % 10)]
theorem digs_is (n : Nat) (h : n < 100) : Lib.decDigits n = digs n := by
  unfold digs
  by_cases h1 : n < 10
  · rw [if_pos h1, Lib.decDigits, dif_pos h1]
  · rw [if_neg h1, Lib.decDigits, dif_neg h1, Lib.decDigits, dif_pos (by omega)]
    rfl
theorem number_spec (s : ByteArray) (n : Nat) (h : n < 100) (hs : s.data.toList = digs n) (w : World) :
    Calls Tryd.prog 74 #[.string s] w fun e w' => e = .returned (.tuple #[.int .i64 n, .bool true]) ∧ w' = w := by
  have hsz : s.size = (digs n).length := by rw [← hs]; simp
  have hget : ∀ (j : Nat) (hj : j < s.size), (digs n)[j]? = some s[j] := by
    intro j hj
    rw [← hs, List.getElem?_eq_getElem (by simpa using hj)]
    rfl
  unfold digs at hsz hget
  by_cases h1 : n < 10
  · rw [if_pos h1] at hsz hget
    have hs1 : s.size = 1 := hsz
    have h0 := hget 0 (by omega)
    refine number_one s hs1 n ?_ (by omega) w
    simp only [List.getElem?_cons_zero, Option.some.injEq] at h0
    rw [← h0]
    simp
    omega
  · rw [if_neg h1] at hsz hget
    have hs1 : s.size = 2 := hsz
    have h0 := hget 0 (by omega)
    have h2 := hget 1 (by omega)
    simp only [List.getElem?_cons_zero, List.getElem?_cons_succ, Option.some.injEq] at h0 h2
    have := number_two s hs1 (n / 10) (n % 10) (by rw [← h0]; simp; omega) (by omega) (by rw [← h2]; simp; omega) (by omega) w
    have e : ((n / 10 : Nat) : Int) * 10 + ((n % 10 : Nat) : Int) = (n : Int) := by omega
    rw [e] at this
    exact this
end Go.Proofs.YtdhndfmblmcapaaDoor
