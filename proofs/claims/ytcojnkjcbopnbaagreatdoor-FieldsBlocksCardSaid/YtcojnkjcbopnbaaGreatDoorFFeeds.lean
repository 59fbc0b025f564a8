/- fields.feeds: a walk. -/
import Derived.Test.YtcojnkjcbopnbaaGreatDoorFPlain
namespace Go.Proofs.YtcojnkjcbopnbaaGreatDoor
open Go.RowKit

/-- What feeds tells. -/
def FeedsOut (s : ByteArray) (a : Nat) (w : World) (e : Ending) (w' : World) : Prop := ∃ f : Nat, e = .returned (.int .i64 f) ∧ Hid (Feeds s a f) ∧ w' = w

set_option maxRecDepth 100000 in
theorem feeds_spec (s : ByteArray) (a : Nat) (ha : a ≤ s.size) (hs : s.size ≤ 1000000) (w : World) :
    Calls Tryz.prog 25 #[.string s, .int .i64 a] w (FeedsOut s a w) := by
  go_enter Tryz.func25, Tryz.ntmps25
  go_wp2_with fail
  go_loopw [1] (fun x wr => ∃ f : Nat, x = .int .i64 f ∧ a ≤ f ∧ f ≤ s.size ∧ Hid (∀ k, a ≤ k → k < f → bt s k = 10) ∧ wr = w) (fun x _ => s.size - (intOf x).toNat)
  case atStart => exact ⟨a, rfl, by omega, ha, Lib.hid (fun k h1 h2 => by omega), rfl⟩
  case round =>
    obtain ⟨f, rfl, h1, h2, h3, hwr⟩ := hrel
    subst hwr
    by_cases hlt : f < s.size
    · have hd : decide ((f : Int) < s.size) = true := decide_eq_true (by omega)
      by_cases h10 : s[f] = 10
      · have hb : (((s[f].toNat : Nat) : Int) == 10) = true := by rw [h10]; rfl
        have H3 : Hid (∀ k, a ≤ k → k < f + 1 → bt s k = 10) := Lib.hid fun k k1 k2 => by
          rcases Nat.lt_or_ge k f with h | h
          · exact h3.out k k1 h
          · rw [show k = f from by omega, bt_in hlt]; exact h10
        clear h3 h10
        go_wp2_with fail
        go_roundw
        case rel => exact ⟨f + 1, by go_num, by omega, by omega, H3, trivial⟩
        case measure => simp [intOf]; omega
      · have hb : (((s[f].toNat : Nat) : Int) == 10) = false := beq_eq_false_iff_ne.2 (fun e => h10 (by apply UInt8.toNat_inj.1; show s[f].toNat = 10; omega))
        have HF : Hid (Feeds s a f) := Lib.hid ⟨h1, h2, h3.out, fun _ => by rw [bt_in hlt]; exact h10⟩
        clear h3 h10
        go_wp2_with fail
        go_ret
        exact ⟨f, rfl, HF, rfl⟩
    · have hd : decide ((f : Int) < s.size) = false := decide_eq_false (by omega)
      have HF : Hid (Feeds s a f) := Lib.hid ⟨h1, h2, h3.out, fun h => absurd h hlt⟩
      clear h3
      go_wp2_with fail
      go_ret
      exact ⟨f, rfl, HF, rfl⟩

theorem feeds_same (s : ByteArray) (a f : Nat) (ha : a ≤ s.size) (hs : s.size ≤ 1000000) (hf : Feeds s a f) (w : World) :
    Calls Tryz.prog 25 #[.string s, .int .i64 a] w fun e w' => e = .returned (.int .i64 f) ∧ w' = w :=
  (feeds_spec s a ha hs w).mono fun e w' ⟨g, he, hg, hw⟩ => ⟨by rw [he, feeds_one hg.out hf], hw⟩
end Go.Proofs.YtcojnkjcbopnbaaGreatDoor
