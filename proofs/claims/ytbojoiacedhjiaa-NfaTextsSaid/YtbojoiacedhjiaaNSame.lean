/- aukletref06.Same at two like lists; aukletlaw06.built at a tree that has a machine: walks. -/
import Derived.Test.YtbojoiacedhjiaaTextM
namespace Go.Proofs.Ytbojoiacedhjiaa
open Go.RowKit

/-- Numbers in a slice. -/
def NumsAt (w : World) (v : Value) (l : List Nat) : Prop := ∃ a c, v = .slice a l.length c ∧ ∀ i (h : i < l.length), ∃ b, a = some ⟨b, 0, none⟩ ∧ w.cell? ⟨b, i, none⟩ = some (.int .i64 (l[i] : Nat))
theorem nums_of {w : World} {base : Nat} {v : Value} {l : List Nat} (h : w.ownsRow base 3 1 v l.length (ints l)) : NumsAt w v l := by
  rcases h.2 with ⟨rfl, h0⟩ | ⟨g, cap, cur, rfl, _⟩
  · exact ⟨none, 0, by rw [h0], fun i hi => by omega⟩
  · refine ⟨_, _, rfl, fun i hi => ⟨g, rfl, ?_⟩⟩
    rw [h.cellAt i (by omega)]
    simp [ints, hi]
theorem NumsAt.after {w w' : World} {v : Value} {l : List Nat} (h : NumsAt w v l) (hb : Below w.heap.size w w') : NumsAt w' v l := by
  obtain ⟨a, c, rfl, h⟩ := h
  refine ⟨a, c, rfl, fun i hi => ?_⟩
  obtain ⟨b, rfl, hc⟩ := h i hi
  exact ⟨b, rfl, by rw [hb.cell (p := ⟨b, i, none⟩) (cell_lt hc)]; exact hc⟩

set_option maxRecDepth 100000 in
theorem same_spec (l : List Nat) (u v : Value) (w : World) (hl : l.length ≤ 1000000000) (hu : NumsAt w u l) (hv : NumsAt w v l) :
    Calls Try.prog 7 #[u, v] w fun e w' => e = .returned (.bool true) ∧ Below w.heap.size w w' := by
  obtain ⟨a, c, rfl, ha⟩ := hu
  obtain ⟨b, d, rfl, hb⟩ := hv
  have HA := Lib.hid ha
  have HB := Lib.hid hb
  clear ha hb
  go_enter Try.func7, Try.ntmps7
  go_wp2_with fail
  go_loopw [5] (fun y wr => ∃ i : Nat, y = .int .i64 i ∧ i ≤ l.length ∧ Hid (Below w.heap.size w wr)) (fun y _ => l.length - (intOf y).toNat)
  case atStart => exact ⟨0, rfl, by omega, Lib.hid (Below.refl _ _)⟩
  case round =>
    obtain ⟨i, rfl, hi, hb⟩ := hrel
    by_cases hgo : i < l.length
    · obtain ⟨x, rfl, hx⟩ := HA.out i hgo
      obtain ⟨y, rfl, hy⟩ := HB.out i hgo
      have c0 : wr.cell? ⟨x, i, none⟩ = some (.int .i64 (l[i] : Nat)) := by rw [hb.out.cell (p := ⟨x, i, none⟩) (cell_lt hx)]; exact hx
      have d0 : wr.cell? ⟨y, i, none⟩ = some (.int .i64 (l[i] : Nat)) := by rw [hb.out.cell (p := ⟨y, i, none⟩) (cell_lt hy)]; exact hy
      clear hx hy
      obtain ⟨z, hz⟩ : ∃ z, z = l[i] := ⟨_, rfl⟩
      rw [← hz] at c0 d0
      clear hz
      have hi0 : (0 : Int) ≤ i := by omega
      have hi1 : (i : Int) < l.length := by omega
      go_wp2_with fail
      go_quiet (fail)
      go_wp2_with fail
      go_roundw
      case rel => exact ⟨i + 1, by go_num, by omega, Lib.hid (Below.drewN' hb.out _)⟩
      case measure => simp [intOf]; omega
    · go_wp2_with fail
      go_ret
      exact ⟨rfl, hb.out⟩

set_option maxRecDepth 100000 in
theorem built_spec (t : Tree) (rs : Array Value) (B : Nat → Prop) (w : World) (h : At w B t rs) (hg : Good 100 (-1) t) (hn : (planN 100 t).n < 500) (hna : NoAltT 100 t) :
    Calls Try.prog 5 #[.agg rs] w fun e w' => ∃ p sv, e = .returned (.pointer (some ⟨p, 0, none⟩)) ∧ Mch w' p (machN t).2 sv (machN t).1 ∧ Below w.heap.size w w' := by
  obtain ⟨W, hW, hX, hB, _⟩ := re_box w rs
  obtain ⟨a, c, e, _⟩ := h.opens
  have HC := Lib.hid (build_spec t rs B W (h.after hB.out) hg hn hna)
  subst e
  clear h hg hna hn
  go_enter Try.func5, Try.ntmps5
  go_upto_region 1 with (fail)
  rw [← hW]
  clear hW
  obtain ⟨c0, c1, c2, c3, c4, c5, c6, c7⟩ := eight_re hX.out.eight
  unfold reC at HC
  go_wp2_with fail
  refine HC.out.mono ?_
  rintro e w1 ⟨p, sv, rfl, _, hm, b1⟩
  have HM := Lib.hid hm
  have B1 := Lib.hid (Below.step hB.out b1)
  clear hm b1
  go_wp2_with fail
  go_ret
  exact ⟨p, sv, rfl, HM.out, B1.out⟩
end Go.Proofs.Ytbojoiacedhjiaa
