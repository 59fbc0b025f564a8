/- Contract of the document's begins. -/
import Derived.Test.YtcpcmonlpdeboaaStrs
namespace Go.Proofs.Ytcpcmonlpdeboaa
open Go.RowKit

theorem prefix_get {a b : List ByteArray} {k : Nat} {x y : ByteArray} (h : b <+: a) (hx : a[k]? = some x) (hy : b[k]? = some y) : x = y := by
  obtain ⟨t, rfl⟩ := h
  have hk : k < b.length := by
    rcases Nat.lt_or_ge k b.length with h | h
    · exact h
    · rw [List.getElem?_eq_none h] at hy; cases hy
  rw [List.getElem?_append_left hk, hy] at hx
  injection hx with hx
  exact hx.symm

set_option maxRecDepth 100000 in
set_option maxHeartbeats 400000 in
theorem begins_yes (p q : Option Addr) (n m c d : Nat) (a b : List ByteArray) (w : World) (hp : RdS w p n c a) (hq : RdS w q m d b) (h : b <+: a) :
    Calls Try.prog 27 #[.slice p n c, .slice q m d] w fun e w' => e = .returned (.bool true) ∧ Below w.heap.size w w' := by
  have hmn : m ≤ n := by have := h.length_le; rw [hp.len, hq.len]; exact this
  have HP := Lib.hid hp; clear hp
  have HQ := Lib.hid hq; clear hq
  have HH := Lib.hid h; clear h
  have hc1 := HP.out.cap
  have hc2 := HQ.out.cap
  have hc3 := HP.out.big
  have hc4 := HQ.out.big
  go_enter Try.func27, Try.ntmps27
  go_wp2_with fail
  go_loopw [5] (fun x wr => ∃ k r : Nat, x = .int .i64 k ∧ k ≤ m ∧ wr = w.drewN r) (fun x _ => m - (intOf x).toNat)
  case atStart => exact ⟨0, 0, rfl, by omega, rfl⟩
  case round =>
    obtain ⟨k, r, rfl, hk, rfl⟩ := hrel
    by_cases hlt : k < m
    · obtain ⟨b1, o1, x, rfl, hx, hc1'⟩ := HP.out.at_ (show k < n by omega)
      obtain ⟨b2, o2, y, rfl, hy, hc2'⟩ := HQ.out.at_ hlt
      obtain rfl : x = y := prefix_get HH.out hx hy
      clear hx hy
      have hi0 : (0 : Int) ≤ k := by omega
      have hi1 : (k : Int) < m := by omega
      have hi2 : (k : Int) < n := by omega
      go_wp2_with fail
      go_quiet (fail)
      go_wp2_with fail
      go_roundw
      case rel => exact ⟨k + 1, _, by go_num, by omega, rfl⟩
      case measure => simp [intOf]; omega
    · go_wp2_with fail
      go_ret
      exact ⟨rfl, Below.drewN' (Below.refl _ _) _⟩

set_option maxRecDepth 100000 in
set_option maxHeartbeats 400000 in
theorem begins_no (p q : Option Addr) (n m c d : Nat) (a b : List ByteArray) (w : World) (hp : RdS w p n c a) (hq : RdS w q m d b) (h : ¬ b <+: a) :
    Calls Try.prog 27 #[.slice p n c, .slice q m d] w fun e w' => e = .returned (.bool false) ∧ Below w.heap.size w w' := by
  have HP := Lib.hid hp; clear hp
  have HQ := Lib.hid hq; clear hq
  have HH := Lib.hid h; clear h
  have hc1 := HP.out.cap
  have hc2 := HQ.out.cap
  have hc3 := HP.out.big
  have hc4 := HQ.out.big
  by_cases hmn : n < m
  · go_enter Try.func27, Try.ntmps27
    go_wp2_with fail
    go_ret
    exact ⟨rfl, Below.refl _ _⟩
  · go_enter Try.func27, Try.ntmps27
    go_wp2_with fail
    go_loopw [5] (fun x wr => ∃ k r : Nat, x = .int .i64 k ∧ k ≤ m ∧ wr = w.drewN r ∧ Hid (a.take k = b.take k)) (fun x _ => m - (intOf x).toNat)
    case atStart => exact ⟨0, 0, rfl, by omega, rfl, Lib.hid rfl⟩
    case round =>
      obtain ⟨k, r, rfl, hk, rfl, heq⟩ := hrel
      by_cases hlt : k < m
      · obtain ⟨b1, o1, x, rfl, hx, hc1'⟩ := HP.out.at_ (show k < n by omega)
        obtain ⟨b2, o2, y, rfl, hy, hc2'⟩ := HQ.out.at_ hlt
        have HX := Lib.hid hx; clear hx
        have HY := Lib.hid hy; clear hy
        have hi0 : (0 : Int) ≤ k := by omega
        have hi1 : (k : Int) < m := by omega
        have hi2 : (k : Int) < n := by omega
        by_cases hxy : x = y
        · subst hxy
          go_wp2_with fail
          go_quiet (fail)
          go_wp2_with fail
          go_roundw
          case rel => exact ⟨k + 1, _, by go_num, by omega, rfl, Lib.hid (rds_step HX.out HY.out heq.out rfl)⟩
          case measure => simp [intOf]; omega
        · have hne := bytes_ne hxy
          clear hxy
          go_wp2_with fail
          go_quiet (fail)
          go_wp2_with fail
          go_ret
          exact ⟨rfl, Below.drewN' (Below.drewN' (Below.refl _ _) _) _⟩
      · exfalso
        apply HH.out
        rw [List.prefix_iff_eq_take, ← HQ.out.len]
        obtain rfl : k = m := by omega
        rw [heq.out, List.take_of_length_le (by rw [← HQ.out.len]; exact Nat.le_refl _)]

end Go.Proofs.Ytcpcmonlpdeboaa
