/- ere.hasNone, its closure, slices.IndexFunc, slices.ContainsFunc at trees none of which is of the kinds: walks. -/
import Derived.Test.YtbojoiacedhjiaaIsOf
namespace Go.Proofs.Ytbojoiacedhjiaa
open Go.RowKit

set_option maxRecDepth 100000 in
theorem none1_spec (k : Int) (f : Nat → Nat) (lo hi : Int) (sl v : Value) (ks : List Int) (g : Nat) (w : World) (hg : w.cell? ⟨g, 0, none⟩ = some v) (hv : ∃ a n c, v = .slice a n c) (h : IntsAt w v ks) (hk : among ks k = false) :
    Calls Try.prog 30 #[.agg (reC k f lo hi sl), .pointer (some ⟨g, 0, none⟩)] w fun e w' => e = .returned (.bool false) ∧ Below w.heap.size w w' := by
  obtain ⟨a, n, c, rfl⟩ := hv
  have hlt := cell_lt hg
  go_enter Try.func30, Try.ntmps30
  go_upto_region 1 with (fail)
  obtain ⟨W, hW, hX, hB, _⟩ := re_box w (reC k f lo hi sl)
  rw [← hW]
  clear hW
  obtain ⟨c0, c1, c2, c3, c4, c5, c6, c7⟩ := eight_re hX.out.eight
  have d0 : W.cell? ⟨g, 0, none⟩ = some (.slice a n c) := by rw [hB.out.cell (p := ⟨g, 0, none⟩) hlt]; exact hg
  have H := Lib.hid (isOf_spec k f lo hi sl _ ks W (h.after hB.out))
  rw [hk] at H
  clear h hg hk
  go_wp2_with fail
  refine H.out.mono ?_
  rintro e w1 ⟨rfl, b1⟩
  have B1 := Lib.hid (Below.step hB.out b1)
  clear b1
  go_wp2_with fail
  go_ret
  exact ⟨rfl, B1.out⟩

def NoneOf (ks : List Int) (l : List Tree) : Prop := ∀ t, t ∈ l → among ks t.k = false

set_option maxRecDepth 100000 in
theorem indexFunc_spec (l : List Tree) (sl v : Value) (ks : List Int) (g : Nat) (B : Nat → Prop) (w : World) (hsl : SlAt w B l sl) (hlen : l.length ≤ 1000000) (hg : w.cell? ⟨g, 0, none⟩ = some v) (hv : ∃ a n c, v = .slice a n c) (h : IntsAt w v ks) (hk : NoneOf ks l) :
    Calls Try.prog 32 #[sl, .func (.func 30) #[] #[.pointer (some ⟨g, 0, none⟩)]] w fun e w' => e = .returned (.int .i64 (-1)) ∧ Below w.heap.size w w' := by
  have hlt := cell_lt hg
  rcases hsl with ⟨rfl, a, c, rfl⟩ | ⟨hl, b, off, c, cs, rfl, hc, hB, h8, hat⟩
  · go_enter Try.func32, Try.ntmps32
    go_wp2_with fail
    refine wp_loop_rounds 1 ?_
    rw [rounds_succ]
    go_wp2_with fail
    go_ret
    exact ⟨rfl, Below.refl _ _⟩
  · have H := Lib.hid h; clear h
    have HG := Lib.hid hg; clear hg
    go_enter Try.func32, Try.ntmps32
    go_wp2_with fail
    go_loopw [8] (fun y wr => ∃ i : Nat, y = .int .i64 i ∧ i ≤ l.length ∧ Hid (Below w.heap.size w wr)) (fun y _ => l.length - (intOf y).toNat)
    case atStart => exact ⟨0, rfl, by omega, Lib.hid (Below.refl _ _)⟩
    case round =>
      obtain ⟨i, rfl, hi, hb⟩ := hrel
      by_cases hgo : i < l.length
      · have hT := hat i hgo
        obtain ⟨si, e, _⟩ := hT.open
        have h8i := (h8 i hgo).keep (hb.out.block b ((h8 i hgo).lt hT.size))
        rw [e] at h8i
        obtain ⟨c0, c1, c2, c3, c4, c5, c6, c7⟩ := eight_re h8i
        have hN := hk l[i] (List.getElem_mem hgo)
        have HC := Lib.hid (none1_spec l[i].k l[i].f l[i].lo l[i].hi si v ks g wr (by rw [hb.out.cell (p := ⟨g, 0, none⟩) hlt]; exact HG.out) hv (H.out.after hb.out) hN)
        clear h8i hN e hT
        go_wp2_with fail
        refine HC.out.mono ?_
        rintro e w1 ⟨rfl, b1⟩
        have B1 := Lib.hid (Below.step hb.out b1)
        clear b1
        go_wp2_with fail
        go_roundw
        case rel => exact ⟨i + 1, by go_num, by omega, B1⟩
        case measure => simp [intOf]; omega
      · have hi' : i = l.length := by omega
        subst hi'
        go_wp2_with fail
        go_ret
        exact ⟨rfl, hb.out⟩

set_option maxRecDepth 100000 in
theorem hasNone_spec (l : List Tree) (sl v : Value) (ks : List Int) (B : Nat → Prop) (w : World) (hsl : SlAt w B l sl) (hlen : l.length ≤ 1000000) (hv : ∃ a n c, v = .slice a n c) (h : IntsAt w v ks) (hk : NoneOf ks l) :
    Calls Try.prog 27 #[sl, v] w fun e w' => e = .returned (.bool true) ∧ Below w.heap.size w w' := by
  have hb := below_new w (.cells #[v] 33)
  have hg : (w.alloc (.cells #[v] 33)).cell? ⟨w.heap.size, 0, none⟩ = some v := cell_of_row _ _ 0 _ _ (0, 0) (heap_alloc_last w _)
  have HI := Lib.hid (indexFunc_spec l sl v ks w.heap.size B _ (hsl.after hb) hlen hg hv (h.after hb) hk)
  obtain ⟨a, n, c, rfl⟩ := hv
  obtain ⟨a', n', c', rfl⟩ : ∃ a n c, sl = .slice a n c := by
    rcases hsl with ⟨rfl, a, c, rfl⟩ | ⟨hl, b, off, c, cs, rfl, _⟩
    · exact ⟨_, _, _, rfl⟩
    · exact ⟨_, _, _, rfl⟩
  have HB := Lib.hid hb
  clear hb hg h hk hsl
  go_enter Try.func27, Try.ntmps27
  go_wp2_with (go_at_call 29; go_in)
  refine HI.out.mono ?_
  rintro e w1 ⟨rfl, b1⟩
  have B1 := Lib.hid (Below.step HB.out b1)
  clear b1
  go_wp2_with fail
  go_ret
  exact ⟨rfl, B1.out⟩
end Go.Proofs.Ytbojoiacedhjiaa
