/- aukletlaw09.lives: a walk. -/
import Derived.Test.YtcojnkjcbopnbaaGreatDoorFTake
import Derived.Test.YtcojnkjcbopnbaaGreatDoorFText
namespace Go.Proofs.YtcojnkjcbopnbaaGreatDoor
open Go.RowKit

theorem words_ab : Lib.goFieldsP T2.blankR ⟨#[32, 97, 32, 98, 32]⟩ = [⟨#[97]⟩, ⟨#[98]⟩] := by decide +kernel
theorem set_ab : setL [⟨#[97]⟩, ⟨#[98]⟩] 3 ⟨#[100]⟩ = [⟨#[97]⟩, ⟨#[98]⟩, ⟨#[]⟩, ⟨#[100]⟩] := by rfl
theorem join_ab : recT [⟨#[97]⟩, ⟨#[98]⟩, ⟨#[]⟩, ⟨#[100]⟩] emptyB true ⟨#[45]⟩ = ⟨#[97, 45, 98, 45, 45, 100]⟩ := by rfl

set_option maxRecDepth 100000 in
theorem lives9 (w : World) : Calls Tryz.prog 6 #[] w fun e w' => e = .returned (.bool true) ∧ Below w.heap.size w w' := by
  have HN := Lib.hid (new_spec w)
  go_enter Tryz.func6, Tryz.ntmps6
  go_wp2_with fail
  refine HN.out.mono ?_
  rintro e w1 ⟨rfl, h1, b1⟩
  have B1 := Lib.hid b1
  have HT := Lib.hid (take_spec False (fun l => l = Lib.goFieldsP T2.blankR ⟨#[32, 97, 32, 98, 32]⟩) w.heap.size _ _ _ _ _ ⟨#[32, 97, 32, 98, 32]⟩ ⟨#[32]⟩ w1 h1 (at_words _ _ (by rw [Lib.toList_data]) (by decide) w1))
  obtain ⟨p, hp⟩ : ∃ p, p = w.heap.size := ⟨_, rfl⟩
  rw [← hp] at HT
  have HP := Lib.hid hp
  clear b1 h1 HN
  rw [← hp]
  clear hp
  go_wp2_with fail
  refine HT.out.mono ?_
  rintro e w2 ⟨b2, ⟨y, _, rfl, hy⟩ | ⟨rfl, v, l, h2, _, hl⟩⟩
  · exfalso
    rcases hy with h | ⟨l, rfl, h⟩
    · exact h
    · rw [words_ab] at h
      simp at h
  · rw [words_ab] at hl
    subst hl
    have B2 := Lib.hid ((B1.out.mono (by rw [HP.out]; exact Nat.le_refl _) : Below p w w1).trans b2)
    have HM := Lib.hid (many_spec p v _ _ _ _ w2 h2)
    have HS := Lib.hid (set_spec 3 (by decide) p v _ _ _ _ ⟨#[100]⟩ ⟨#[45]⟩ w2 h2)
    clear b2 h2
    go_wp2_with fail
    refine HM.out.mono ?_
    rintro e w2' ⟨rfl, e2⟩
    subst e2
    go_wp2_with fail
    refine HS.out.mono ?_
    rintro e w3 ⟨rfl, ⟨v3, h3⟩, b3⟩
    rw [set_ab] at h3
    have B3 := Lib.hid (B2.out.trans b3)
    have HX := Lib.hid (rtext_spec p v3 _ _ _ _ w3 h3 (by decide) (by decide))
    rw [join_ab] at HX
    clear h3 b3
    go_wp2_with fail
    refine HX.out.mono ?_
    rintro e w4 ⟨rfl, _, b4⟩
    have B4 := Lib.hid (B3.out.trans b4)
    clear b4
    go_wp2_with fail
    go_ret
    rw [← HP.out]
    exact ⟨rfl, B4.out⟩
end Go.Proofs.YtcojnkjcbopnbaaGreatDoor
