/- aukletlaw04.lives: a walk. -/
import Derived.Test.YtfdgjgmgkcoopaaParse
import Derived.Test.YtfdgjgmgkcoopaaCount
import Derived.Test.YtfdgjgmgkcoopaaHas
namespace Go.Proofs.Ytfdgjgmgkcoopaa
open Go.RowKit

/-- So many of the first n numbers. -/
def cntB (p : Nat → Bool) : Nat → Nat
  | 0 => 0
  | n + 1 => cntB p n + (p n).toNat
theorem cnt_is (f : Nat → Nat) (p : Nat → Bool) : ∀ n, n ≤ 256 → (∀ c, c < 256 → bit f c = p c) → cntTo f n = cntB p n
  | 0, _, _ => rfl
  | n + 1, hn, h => by
    show cntTo f n + (bit f n).toNat = cntB p n + (p n).toNat
    rw [cnt_is f p n (by omega) h, h n (by omega)]

theorem lives_cnt : cntB (fun c => !inItems [(97, 99, 3)] c) 256 = 253 := by decide +kernel

set_option maxRecDepth 100000 in
theorem lives_spec (w : World) :
    Calls Try.prog 12 #[] w fun e w' => e = .returned (.bool true) ∧ Below w.heap.size w w' := by
  have HP := Lib.hid (fun w => parse_neg ⟨#[91, 94, 97, 45, 99, 93]⟩ 0 [(97, 99, 3)] [97, 45, 99, 93] rfl
    ⟨Or.inr (Or.inr ⟨rfl, by decide, [93], rfl, by decide, by decide, by decide, by decide, by decide⟩), [], rfl⟩ (by decide) w)
  go_enter Try.func12, Try.ntmps12
  go_wp2_with fail
  refine (HP.out _).mono ?_
  rintro e w1 ⟨g, rfl, hS, b1⟩
  have B1 := Lib.hid b1; clear b1
  have HH := Lib.hid (fun c hc w => has_spec g hS.out.1 c hc w)
  have HC := Lib.hid (fun w => count_spec g hS.out.1 w)
  have H100 : Hid (bit g 100 = true) := Lib.hid (by rw [hS.out.2 100 (by omega)]; decide)
  have H98 : Hid (bit g 98 = false) := Lib.hid (by rw [hS.out.2 98 (by omega)]; decide)
  have HN : Hid (cntTo g 256 = 253) := Lib.hid (by rw [cnt_is g _ 256 (Nat.le_refl _) hS.out.2, lives_cnt])
  simp only [words]
  go_upto_region 2 with (fail)
  obtain ⟨W2, hW2, QP, HB2⟩ := quad_box w1 g 24
  change Code.wp _ _ _ _ (w1.alloc (Obj.cells (words g) 24))
  rw [← hW2]
  clear hW2
  have B2 := Lib.hid (Below.step B1.out HB2.out)
  clear HB2
  have c0 := QP.out.c 0 (by omega); have c1 := QP.out.c 1 (by omega); have c2 := QP.out.c 2 (by omega); have c3 := QP.out.c 3 (by omega)
  go_wp2_with fail
  refine (HH.out 100 (by omega) _).mono ?_
  rintro e w3 ⟨rfl, b3⟩
  have Q3 := Lib.hid (QP.out.after b3)
  have B3 := Lib.hid (Below.step B2.out b3)
  clear b3 c0 c1 c2 c3
  rw [H100.out]
  have c0 := Q3.out.c 0 (by omega); have c1 := Q3.out.c 1 (by omega); have c2 := Q3.out.c 2 (by omega); have c3 := Q3.out.c 3 (by omega)
  go_wp2_with fail
  refine (HH.out 98 (by omega) _).mono ?_
  rintro e w4 ⟨rfl, b4⟩
  have Q4 := Lib.hid (Q3.out.after b4)
  have B4 := Lib.hid (Below.step B3.out b4)
  clear b4 c0 c1 c2 c3
  rw [H98.out]
  have c0 := Q4.out.c 0 (by omega); have c1 := Q4.out.c 1 (by omega); have c2 := Q4.out.c 2 (by omega); have c3 := Q4.out.c 3 (by omega)
  go_wp2_with fail
  refine (HC.out _).mono ?_
  rintro e w5 ⟨rfl, b5⟩
  rw [HN.out]
  have B5 := Lib.hid (Below.step B4.out b5)
  clear b5
  go_wp2_with fail
  go_ret
  exact ⟨rfl, B5.out⟩
end Go.Proofs.Ytfdgjgmgkcoopaa
