/- subst.At at a blank: a walk. -/
import Derived.Test.YtcojnkjcbopnbaaGreatDoorT2Rune
import Derived.Test.YtcojnkjcbopnbaaGreatDoorFOwn
namespace Go.Proofs.YtcojnkjcbopnbaaGreatDoor
open Go.RowKit

/-- None of the texts is longer. -/
def Short (m : Nat) (l : List ByteArray) : Prop := ∀ x ∈ l, x.size ≤ m

theorem short_words (p : Nat → Bool) (s : ByteArray) : Short s.size (Lib.goFieldsP p s) := by
  intro x hx
  have hx' : x ∈ (Lib.spansOfP p s).map fun x => s.extract x.1 x.2 := hx
  obtain ⟨y, _, rfl⟩ := List.mem_map.1 hx'
  simp only [ByteArray.size_extract]
  omega

/-- What At tells: texts, or why there are none. -/
def AtOut (F : Prop) (Q : List ByteArray → Prop) (w : World) (e : Ending) (w' : World) : Prop :=
  Below w.heap.size w w' ∧ ((F ∧ ∃ a y : Int, y ≠ 0 ∧ e = .returned (.tuple #[.slice none 0 0, .int .i64 a, .int .i64 y])) ∨
    (∃ p n c l, e = .returned (.tuple #[.slice p n c, .int .i64 0, .int .i64 0]) ∧ Hid (NewStrs w w' (.slice p n c) l ∧ n = l.length ∧ Q l)))

set_option maxRecDepth 100000 in
theorem at_words (s sep : ByteArray) (hsep : sep.toList = [32]) (hs : s.size ≤ 4294967296) (w : World) :
    Calls Tryz.prog 20 #[.string s, .string sep] w (AtOut False (fun l => l = Lib.goFieldsP T2.blankR s) w) := by
  have HW := Lib.hid (T2.words_any s hs w)
  have b32 : (sep.toList == [32]) = true := beq_iff_eq.2 hsep
  go_enter Tryz.func20, Tryz.ntmps20
  go_wp2_with fail
  refine HW.out.mono ?_
  rintro e w1 ⟨p, c, rfl, h1, b1⟩
  have H1 := Lib.hid h1
  have B1 := Lib.hid b1
  clear h1 b1
  go_wp2_with fail
  go_ret3
  exact ⟨B1.out, Or.inr ⟨p, _, c, _, rfl, Lib.hid ⟨H1.out, rfl, rfl⟩⟩⟩
end Go.Proofs.YtcojnkjcbopnbaaGreatDoor
