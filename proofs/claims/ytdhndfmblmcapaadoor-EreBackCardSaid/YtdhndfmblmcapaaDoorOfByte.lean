/- ere.ofByte: a walk. -/
import Derived.Test.YtdhndfmblmcapaaDoorRdr
import Derived.Test.YtdhndfmblmcapaaDoorAdd
import Derived.Laws.Rows
import Derived.Laws.Tables
namespace Go.Proofs.YtdhndfmblmcapaaDoor
open Go.RowKit

/-- The set of one byte. -/
def oneF (c : Nat) : Nat → Nat := fun i => if i = c / 64 then 2 ^ (c % 64) else 0
theorem fits_oneF (c : Nat) : Fits (oneF c) := by
  intro i hi
  unfold oneF
  split
  · exact pow_lt64 c
  · decide
theorem bit_oneF (c x : Nat) : bit (oneF c) x = decide (x = c) := by
  unfold bit oneF
  by_cases h : x / 64 = c / 64
  · rw [if_pos h, Nat.testBit_two_pow]
    exact decide_eq_decide.2 (by omega)
  · rw [if_neg h, Nat.zero_testBit]
    exact (decide_eq_false (by omega)).symm
def oneT (c : Nat) : Tree := .mk 1 (oneF c) 0 0 []

theorem info_re : (Tryd.prog.info? 27).map (·.size) = some 8 := by kernel_rfl

/-- A whole tree stored to a result's cells, and read as the result. -/
theorem re_one (k : Int) (f : Nat → Nat) (lo hi : Int) (a : Option Addr) (n c : Nat) : (reC k f lo hi (.slice a n c)).all (·.oneCell') = true := by
  simp [reC]
  exact ⟨rfl, rfl, rfl, rfl, rfl, rfl, rfl, rfl⟩

set_option maxRecDepth 100000 in
theorem ofByte_spec (c : Nat) (hc : c < 256) (w : World) :
    Calls Tryd.prog 64 #[.int .u8 c] w fun e w' => e = .returned (.agg (reC 1 (oneF c) 0 0 (.slice none 0 0))) ∧ Below w.heap.size w w' := by
  have HA := Lib.hid (fun w => add_spec zero4 fits_zero c c hc hc w)
  have HI := info_re
  go_enter Tryd.func64, Tryd.ntmps64
  go_upto_region 1 with (fail)
  obtain ⟨W, hW, hX, hB, _⟩ := re_box w zeroR
  change Code.wp _ _ _ _ (w.alloc (Obj.cells zeroR 27))
  rw [← hW]
  clear hW
  go_wp2_with fail
  refine (HA.out _).mono ?_
  rintro e w1 ⟨g, rfl, hS, b1⟩
  have X1 := Lib.hid (hX.out.after b1)
  have B1 := Lib.hid (Below.step hB.out b1)
  clear b1
  have hg : reC 1 g 0 0 (.slice none 0 0) = reC 1 (oneF c) 0 0 (.slice none 0 0) := by
    refine reC_congr 1 0 0 _ (word_ext hS.out.1 (fits_oneF c) fun x hx => ?_)
    rw [hS.out.2 x hx, bit_oneF, bit_zero, Bool.false_or, ← Bool.decide_and]
    exact decide_eq_decide.2 (by omega)
  have HG := Lib.hid hg; clear hg
  simp only [words]
  go_wp2_with (refine wpList_store_row rfl 27 (.tmp 2) (.tmp 7) rfl w.heap.size (reC 1 g 0 0 (.slice none 0 0)) rfl rfl 27 zeroR X1.out.row HI rfl (re_one _ _ _ _ _ _ _) ?_)
  refine bodyPost_ret (v := .agg (reC 1 g 0 0 (.slice none 0 0))) (results_cell_row (by rfl) _ _ w.heap.size 27 _ (0, 0) _ (by rfl) (X1.out.setRow _).row Tryd.underlying27 (by rfl) HI) rfl ⟨by rw [HG.out], ?_⟩
  exact below_setRow B1.out (Nat.le_refl _) _
end Go.Proofs.YtdhndfmblmcapaaDoor
