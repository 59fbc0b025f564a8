/- class.escaped, byteAt, goesOn: walks. -/
import Derived.Test.YtdhndfmblmcapaaDoorAdd
import Derived.Test.YtdhndfmblmcapaaDoorShelf
namespace Go.Proofs.YtdhndfmblmcapaaDoor
open Go.RowKit

set_option maxRecDepth 100000 in
theorem escaped_spec (c : Nat) (h1 : c ≠ 110) (h2 : c ≠ 116) (w : World) :
    Calls Tryd.prog 96 #[.int .u8 c] w fun e w' => e = .returned (.int .u8 c) ∧ w' = w := by
  go_enter Tryd.func96, Tryd.ntmps96
  go_wp2_with fail
  go_ret
  exact ⟨rfl, rfl⟩

set_option maxRecDepth 100000 in
theorem byteAt_plain (s : ByteArray) (k : Nat) (h : k < s.size) (hs : s.size ≤ 1152921504606846976) (hc : s[k].toNat ≠ 92) (w : World) :
    Calls Tryd.prog 92 #[.string s, .int .i64 k] w fun e w' => e = .returned (.tuple #[.int .u8 s[k].toNat, .int .i64 ((k + 1 : Nat) : Int), .int .i64 0]) ∧ w' = w := by
  go_enter Tryd.func92, Tryd.ntmps92
  go_wp2_with fail
  exact bodyPost_ret (v := .tuple #[.int .u8 s[k].toNat, .int .i64 ((k + 1 : Nat) : Int), .int .i64 0]) (by simp [results, Tryd.results92, go_sem]) rfl ⟨rfl, rfl⟩

set_option maxRecDepth 100000 in
theorem byteAt_esc (s : ByteArray) (k : Nat) (h : k + 1 < s.size) (hs : s.size ≤ 1152921504606846976) (hc : s[k].toNat = 92) (h1 : s[k + 1].toNat ≠ 110) (h2 : s[k + 1].toNat ≠ 116) (w : World) :
    Calls Tryd.prog 92 #[.string s, .int .i64 k] w fun e w' => e = .returned (.tuple #[.int .u8 s[k + 1].toNat, .int .i64 ((k + 2 : Nat) : Int), .int .i64 0]) ∧ w' = w := by
  have C := Lib.hid (fun w => escaped_spec s[k + 1].toNat h1 h2 w)
  go_enter Tryd.func92, Tryd.ntmps92
  go_wp2_with fail
  refine (C.out _).mono ?_
  rintro e w1 ⟨rfl, rfl⟩
  go_wp2_with fail
  exact bodyPost_ret (v := .tuple #[.int .u8 s[k + 1].toNat, .int .i64 ((k + 2 : Nat) : Int), .int .i64 0]) (by simp [results, Tryd.results92, go_sem]) rfl ⟨rfl, rfl⟩

theorem hp_spec (s p : ByteArray) (b : Bool) (h : Lib.hasPrefix s.data.toList p.data.toList = b) (w : World) :
    Calls Tryd.prog 80 #[.string s, .string p] w fun e w' => e = .returned (.bool b) ∧ w' = w := by
  rw [← h]; exact Tryd.strings_HasPrefix s p w

set_option maxRecDepth 100000 in
theorem goesOn_no (s : ByteArray) (h : Lib.hasPrefix s.data.toList [45] = false) (w : World) :
    Calls Tryd.prog 93 #[.string s] w fun e w' => e = .returned (.bool false) ∧ w' = w := by
  have C := Lib.hid (fun w => hp_spec s ⟨#[45]⟩ false h w)
  go_enter Tryd.func93, Tryd.ntmps93
  go_wp2_with fail
  refine (C.out _).mono ?_
  rintro e w1 ⟨rfl, rfl⟩
  go_wp2_with fail
  go_ret
  exact ⟨rfl, rfl⟩

set_option maxRecDepth 100000 in
theorem goesOn_yes (s : ByteArray) (h : Lib.hasPrefix s.data.toList [45] = true) (h1 : Lib.hasPrefix s.data.toList [45, 93] = false) (h2 : Lib.hasPrefix s.data.toList [45, 91, 58] = false) (w : World) :
    Calls Tryd.prog 93 #[.string s] w fun e w' => e = .returned (.bool true) ∧ w' = w := by
  have C := Lib.hid (fun w => hp_spec s ⟨#[45]⟩ true h w)
  have D := Lib.hid (fun w => hp_spec s ⟨#[45, 93]⟩ false h1 w)
  have E := Lib.hid (fun w => hp_spec s ⟨#[45, 91, 58]⟩ false h2 w)
  go_enter Tryd.func93, Tryd.ntmps93
  go_wp2_with fail
  refine (C.out _).mono ?_
  rintro e w1 ⟨rfl, rfl⟩
  go_wp2_with fail
  refine (D.out _).mono ?_
  rintro e w2 ⟨rfl, rfl⟩
  go_wp2_with fail
  refine (E.out _).mono ?_
  rintro e w3 ⟨rfl, rfl⟩
  go_wp2_with fail
  go_ret
  exact ⟨rfl, rfl⟩
end Go.Proofs.YtdhndfmblmcapaaDoor
