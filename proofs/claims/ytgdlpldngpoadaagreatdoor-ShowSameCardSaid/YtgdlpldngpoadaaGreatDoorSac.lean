/- Merged by program: ShC. -/
import Derived.Test.YtgdlpldngpoadaaGreatDoorSab
/- The program's writer of trees: joined, signed. -/
namespace Go.Proofs.YtgdlpldngpoadaaGreatDoor
open Go.RowKit

set_option maxRecDepth 100000 in
set_option maxHeartbeats 1000000 in
theorem joined_one (t u v : Nd) (ht : t.kids = [u, v]) (su sv g : ByteArray) (h1 : Writes 67 u su) (h2 : Writes 67 v sv) (z1 : su.size ≤ 1000) (z2 : sv.size ≤ 1000) (z3 : g.size ≤ 1000)
    (S : Nat → Prop) (cs : Array Value) (w : World) (hA : At w S t cs) (b : Nat) (hg : w.cell? ⟨b, 0, none⟩ = some (.string g)) :
    Calls Tryz.prog 70 #[.agg cs, .slice (some ⟨b, 0, none⟩) 1 1] w fun e w' => e = .returned (.string (su ++ (g ++ sv))) ∧ Below w.heap.size w w' := by
  have HP0 := Lib.hid (fun w cs (h : At w S t cs) => by have := part_spec t 0 (by rw [ht]; simp) S cs w h; simpa only [ht, List.getElem_cons_zero] using this)
  have HP1 := Lib.hid (fun w cs (h : At w S t cs) => by have := part_spec t 1 (by rw [ht]; simp) S cs w h; simpa only [ht, List.getElem_cons_succ, List.getElem_cons_zero] using this)
  have HO1 := Lib.hid h1
  have HO2 := Lib.hid h2
  have HA := Lib.hid hA
  obtain ⟨x, c, y, d, rfl, _, _⟩ := hA.opens
  clear hA h1 h2 ht
  obtain ⟨W, hW, hX, hB, _⟩ := nd_box w (ndC t.k t.s t.n t.a (.slice x t.kids.length c) (.slice y t.p.length d))
  go_enter Tryz.func70, Tryz.ntmps70
  go_upto_region 1 with (fail)
  change Code.wp _ _ _ _ (w.alloc (Obj.cells (ndC t.k t.s t.n t.a (.slice x t.kids.length c) (.slice y t.p.length d)) 25))
  rw [← hW]
  clear hW
  have HAW := Lib.hid (HA.out.after hB.out)
  obtain ⟨c0, c1, c2, c3, c4, c5⟩ := six_nd hX.out.six
  go_wp2_with fail
  refine (HP0.out _ _ HAW.out).mono ?_
  rintro e w1 ⟨ds, rfl, hD, b1⟩
  go_wp2_with fail
  refine (HO1.out _ _ _ hD).mono ?_
  rintro e w2 ⟨rfl, b2⟩
  have HB2 := Lib.hid (Below.step hB.out (Below.step b1 b2))
  have HX2 := Lib.hid ((hX.out.after b1).after b2)
  clear hD b1 b2 c0 c1 c2 c3 c4 c5 hX hB
  go_wp2_with fail
  go_loopw [5, 6, 7, 13] (fun s5 s6 s7 z wr => s6 = s6 ∧ s7 = s7 ∧ ∃ i : Nat, z = .int .i64 i ∧ i ≤ 1 ∧ s5 = .string (if i = 0 then su else su ++ (g ++ sv)) ∧ Hid (Below w2.heap.size w2 wr)) (fun _ _ _ y _ => 1 - (intOf y).toNat)
  case atStart => exact ⟨rfl, rfl, 0, rfl, by omega, rfl, Lib.hid (Below.refl _ _)⟩
  case round =>
    obtain ⟨_, _, i, rfl, hi, rfl, hb⟩ := hrel
    by_cases hgo : i = 0
    · subst hgo
      have hg1 : wr.cell? ⟨b, 0, none⟩ = some (.string g) := by rw [hb.out.cell (p := ⟨b, 0, none⟩) (Nat.lt_of_lt_of_le (cell_lt hg) HB2.out.size), HB2.out.cell (p := ⟨b, 0, none⟩) (cell_lt hg)]; exact hg
      have HX3 := Lib.hid (HX2.out.after hb.out)
      have HA3 := Lib.hid (HA.out.after (Below.step HB2.out hb.out))
      obtain ⟨c0, c1, c2, c3, c4, c5⟩ := six_nd HX3.out.six
      simp only [if_true]
      go_wp2_with fail
      refine (HP1.out _ _ HA3.out).mono ?_
      rintro e w3 ⟨ds, rfl, hD, b1⟩
      go_wp2_with fail
      refine (HO2.out _ _ _ hD).mono ?_
      rintro e w4 ⟨rfl, b2⟩
      have HB4 := Lib.hid (Below.step hb.out (Below.step b1 b2))
      clear hD b1 b2 c0 c1 c2 c3 c4 c5
      go_wp2_with fail
      go_roundw
      case rel => exact ⟨trivial, trivial, 1, by go_num, by omega, rfl, HB4⟩
      case measure => simp [intOf]
    · obtain rfl : i = 1 := by omega
      simp only [Nat.one_ne_zero, if_false]
      go_wp2_with fail
      go_ret
      exact ⟨rfl, Below.step HB2.out hb.out⟩

set_option maxRecDepth 100000 in
set_option maxHeartbeats 1000000 in
theorem wsigned_13 (s : ByteArray) (n a : Int) (u v : Nd) (p : List ByteArray) (su sv : ByteArray) (h1 : Writes 67 u su) (h2 : Writes 67 v sv) (z1 : su.size ≤ 1000) (z2 : sv.size ≤ 1000) :
    Writes 35 (.mk 13 s n a [u, v] p) (su ++ (⟨#[32]⟩ ++ sv)) := by
  intro S cs w hA
  have HA := Lib.hid hA
  obtain ⟨x, c, y, d, rfl, _, _⟩ := hA.opens
  simp only [Nd.k, Nd.s, Nd.n, Nd.a, Nd.kids, Nd.p] at HA ⊢
  have HJ := Lib.hid (fun w cs (hb : At w S (.mk 13 s n a [u, v] p) cs) b hg => joined_one _ u v rfl su sv ⟨#[32]⟩ h1 h2 z1 z2 (by decide) S cs w hb b hg)
  clear h1 h2 hA
  obtain ⟨W, hW, hX, hB, _⟩ := nd_box w (ndC 13 s n a (.slice x [u, v].length c) (.slice y p.length d))
  go_enter Tryz.func35, Tryz.ntmps35
  go_upto_region 1 with (fail)
  change Code.wp _ _ _ _ (w.alloc (Obj.cells (ndC 13 s n a (.slice x [u, v].length c) (.slice y p.length d)) 25))
  rw [← hW]
  clear hW
  obtain ⟨c0, c1, c2, c3, c4, c5⟩ := six_nd hX.out.six
  have HAW := Lib.hid (HA.out.after hB.out)
  go_wp2_with fail
  have hN := below_new W (.cells #[Value.string ⟨#[32]⟩] 9)
  refine (HJ.out _ _ (HAW.out.after hN) _ (cell_of_row _ _ 0 _ _ _ (heap_alloc_last W _))).mono ?_
  rintro e w1 ⟨rfl, b1⟩
  go_wp2_with fail
  go_ret
  exact ⟨rfl, Below.step hB.out (Below.step hN b1)⟩
set_option maxRecDepth 100000 in
set_option maxHeartbeats 1000000 in
theorem wsigned_14 (s : ByteArray) (n a : Int) (u v : Nd) (p : List ByteArray) (su sv : ByteArray) (h1 : Writes 67 u su) (h2 : Writes 67 v sv) (z1 : su.size ≤ 1000) (z2 : sv.size ≤ 1000) (z3 : (⟨#[32]⟩ ++ s ++ ⟨#[32]⟩ : ByteArray).size ≤ 1000) (z4 : s.size ≤ 100) :
    Writes 35 (.mk 14 s n a [u, v] p) (su ++ (⟨#[32]⟩ ++ s ++ ⟨#[32]⟩ ++ sv)) := by
  intro S cs w hA
  have HA := Lib.hid hA
  obtain ⟨x, c, y, d, rfl, _, _⟩ := hA.opens
  simp only [Nd.k, Nd.s, Nd.n, Nd.a, Nd.kids, Nd.p] at HA ⊢
  have HJ := Lib.hid (fun w cs (hb : At w S (.mk 14 s n a [u, v] p) cs) b hg => joined_one _ u v rfl su sv (⟨#[32]⟩ ++ s ++ ⟨#[32]⟩) h1 h2 z1 z2 z3 S cs w hb b hg)
  clear h1 h2 hA z3
  obtain ⟨W, hW, hX, hB, _⟩ := nd_box w (ndC 14 s n a (.slice x [u, v].length c) (.slice y p.length d))
  go_enter Tryz.func35, Tryz.ntmps35
  go_upto_region 1 with (fail)
  change Code.wp _ _ _ _ (w.alloc (Obj.cells (ndC 14 s n a (.slice x [u, v].length c) (.slice y p.length d)) 25))
  rw [← hW]
  clear hW
  obtain ⟨c0, c1, c2, c3, c4, c5⟩ := six_nd hX.out.six
  have HAW := Lib.hid (HA.out.after hB.out)
  go_wp2_with fail
  have hN := below_new W (.cells #[Value.string (⟨#[32]⟩ ++ s ++ ⟨#[32]⟩)] 9)
  refine (HJ.out _ _ (HAW.out.after hN) _ (cell_of_row _ _ 0 _ _ _ (heap_alloc_last W _))).mono ?_
  rintro e w1 ⟨rfl, b1⟩
  go_wp2_with fail
  go_ret
  exact ⟨rfl, Below.step hB.out (Below.step hN b1)⟩
end Go.Proofs.YtgdlpldngpoadaaGreatDoor
