/- Contract of aukletlaw01.lives: it returns true. -/
import Derived.Test.YtghbhaoogcgbfaaShow
namespace Go.Proofs.Ytghbhaoogcgbfaa
open Go.RowKit

theorem Below.drewN' {B : Nat} {a w : World} (h : Below B a w) (n : Nat) : Below B a (w.drewN n) := by
  induction n with
  | zero => exact h
  | succ n ih => exact ⟨ih.os, ih.tape, ih.output, ih.size, ih.block⟩

theorem Drew.below {w w' : World} (h : Drew w w') : Below w.heap.size w w' := by
  obtain ⟨n, rfl⟩ := h
  exact Below.drewN' (Below.refl _ _) n

theorem Below.step {w w1 w2 : World} (h : Below w.heap.size w w1) (h2 : Below w1.heap.size w1 w2) : Below w.heap.size w w2 :=
  h.trans (h2.mono h.size)

theorem lives_mul : mulAns 1500000 2500000 = (3750000, 0) := by decide
theorem lives_parse : parseAns [32, 45, 46, 53, 120] = .tuple #[.int .i64 (-500000), .int .i64 4, .int .i64 0] := by
  have h1 : parseNone [32, 45, 46, 53, 120] = false := by decide
  have h2 : parseVal [32, 45, 46, 53, 120] = -500000 := by decide
  have h3 : parseEnd [32, 45, 46, 53, 120] = 4 := by decide
  unfold parseAns
  rw [h1, h2, h3]
  rfl
theorem lives_show : showText (-500000) = [45, 48, 46, 53] := by decide

set_option maxHeartbeats 400000 in
theorem lives_any (w : World) :
    Calls Try.prog 17 #[] w fun e w' => e = .returned (.bool true) ∧ Below w.heap.size w w' := by
  have hm := fun w => mul_any 1500000 2500000 w (by decide) (by decide)
  rw [lives_mul] at hm
  have hp := fun w => parse_any ⟨#[32, 45, 46, 53, 120]⟩ w (by decide)
  rw [show ({ data := #[32, 45, 46, 53, 120] } : ByteArray).data.toList = [32, 45, 46, 53, 120] from rfl, lives_parse] at hp
  have hs := fun w => show_any (-500000) w (by decide)
  have HM := Lib.hid hm; clear hm
  have HP := Lib.hid hp; clear hp
  have HS := Lib.hid hs; clear hs
  go_enter Try.func17, Try.ntmps17
  go_wp2_with fail
  refine (HM.out _).mono ?_
  rintro e w1 ⟨rfl, hd⟩
  have HD := Lib.hid hd.below; clear hd
  unfold ans
  go_wp2_with fail
  refine (HP.out _).mono ?_
  rintro e w2 ⟨rfl, rfl⟩
  go_wp2_with fail
  refine (HS.out _).mono ?_
  rintro e w3 ⟨t, ht, rfl, hb⟩
  have HB := Lib.hid hb; clear hb
  have et : t = ⟨#[45, 48, 46, 53]⟩ := by
    apply ByteArray.ext
    apply Array.toList_inj.1
    rw [ht]; decide
  subst et
  clear ht
  go_wp2_with fail
  go_ret
  exact ⟨rfl, Below.step HD.out HB.out⟩
end Go.Proofs.Ytghbhaoogcgbfaa
