/- aukletref05.Join at parts none of which is of that kind, or empty; aukletref06.Same at a list of one number or more: walks. -/
import Derived.Test.YtbojoiacedhjiaaTextM
namespace Go.Proofs.Ytbojoiacedhjiaa
open Go.RowKit

/-- A slice that the call owns, of trees' cells. -/
theorem owns_eight {w : World} {base g n cap : Nat} {cs : Nat → Array Value} (h : w.ownsRow base 28 8 (.slice (some ⟨g, 0, none⟩) n cap) n (flatC cs n)) (hc : ∀ j, j < n → (cs j).size = 8) (i : Nat) (hi : i < n) : Eight w g (0 + i * 8) (cs i) := by
  intro j hj
  rw [Nat.zero_add, h.cellAt (i * 8 + j) (by omega)]
  exact flatC_get 8 cs n hc i hi j hj

set_option maxRecDepth 100000 in
theorem join_none (a : Option Addr) (c : Nat) (w : World) :
    Calls Try.prog 6 #[.int .i64 4, .slice a 0 c] w fun e w' => e = .returned (.agg zeroR) ∧ Below w.heap.size w w' := by
  have HI := info_re
  go_enter Try.func6, Try.ntmps6
  go_upto_region 1 with (fail)
  obtain ⟨W, hW, hX, hB, hsz⟩ := re_box w zeroR
  change Code.wp _ _ _ _ (w.alloc (Obj.cells zeroR 28))
  rw [← hW]
  clear hW
  have bN := below_new W (.cells #[] 28)
  have B1 := Lib.hid (Below.step hB.out bN)
  have X1 := Lib.hid (hX.out.after bN)
  clear bN
  go_wp2_with fail
  refine wp_loop_rounds 1 ?_
  rw [rounds_succ]
  go_wp2_with (refine wpList_store_row rfl 28 (.tmp 4) (.tmp 48) rfl w.heap.size zeroR rfl rfl 28 zeroR X1.out.row HI rfl (re_one _ _ _ _ _ _ _) ?_)
  refine bodyPost_ret (v := .agg zeroR) (results_cell_row (by rfl) _ _ w.heap.size 28 _ (0, 0) _ (by rfl) (X1.out.setRow _).row Try.underlying28 (by rfl) HI) rfl ⟨rfl, ?_⟩
  exact below_setRow B1.out (Nat.le_refl _) _

set_option maxRecDepth 100000 in
set_option maxHeartbeats 1000000 in
theorem join_some (l : List Tree) (b off c : Nat) (cs : Nat → Array Value) (S : Nat → Prop) (w : World) (hl : 0 < l.length) (hlen : l.length ≤ 400)
    (h8 : ∀ i, i < l.length → Eight w b (off + i * 8) (cs i)) (hat : ∀ i (h : i < l.length), At w S l[i] (cs i)) (hk : ∀ t, t ∈ l → t.k = 1) :
    Calls Try.prog 6 #[.int .i64 4, .slice (some ⟨b, off, none⟩) l.length c] w fun e w' =>
      ∃ ds, e = .returned (.agg ds) ∧ At w' (fun k => S k ∨ w.heap.size ≤ k) (joinT 4 l) ds ∧ Below w.heap.size w w' := by
  have HI := info_re
  have HK := Lib.hid hk
  have H8 := Lib.hid h8
  have HAT := Lib.hid hat
  have hsz8 : ∀ j, j < l.length → (cs j).size = 8 := fun j hj => (hat j hj).size
  have HS8 := Lib.hid hsz8
  have hbl : b < w.heap.size := (h8 0 hl).lt (hsz8 0 hl)
  clear hk h8 hat hsz8
  go_enter Try.func6, Try.ntmps6
  go_upto_region 1 with (fail)
  obtain ⟨W, hW, hX, hB, hsz⟩ := re_box w zeroR
  change Code.wp _ _ _ _ (w.alloc (Obj.cells zeroR 28))
  rw [← hW]
  clear hW
  have bN := below_new W (.cells #[] 28)
  have oN := Lib.hid (World.ownsRow_lit (base := w.heap.size + 1) (e := 28) (size := 8) W #[] 0 (by rw [hsz.out]; omega) (by unfold maxLen; omega) rfl)
  have B1 := Lib.hid (Below.step hB.out bN)
  have X1 := Lib.hid (hX.out.after bN)
  clear bN
  go_wp2_with fail
  go_loopw [5, 6] (fun lv y wr => ∃ i : Nat, y = .int .i64 i ∧ i ≤ l.length ∧ Hid (wr.ownsRow (w.heap.size + 1) 28 8 lv i (flatC cs i)) ∧ Hid (Below w.heap.size w wr) ∧ Hid (Box wr w.heap.size zeroR)) (fun _ y _ => l.length - (intOf y).toNat)
  case atStart => exact ⟨0, rfl, by omega, oN, B1, X1⟩
  case round =>
    obtain ⟨i, rfl, hi, hown, hb, hx⟩ := hrel
    by_cases hgo : i < l.length
    · obtain ⟨ai, ci, e, _⟩ := (HAT.out i hgo).opens
      have h8i := (H8.out i hgo).keep (hb.out.block b hbl)
      have hki := HK.out l[i] (List.getElem_mem hgo)
      obtain ⟨f0, lo0, hi0, n0, e'⟩ : ∃ f0 lo0 hi0 n0, cs i = reC 1 f0 lo0 hi0 (.slice ai n0 ci) := ⟨_, _, _, _, by rw [← hki]; exact e⟩
      rw [e'] at h8i
      have EC := Lib.hid e'
      clear e e' hki
      obtain ⟨c0, c1, c2, c3, c4, c5, c6, c7⟩ := eight_re h8i
      clear h8i
      obtain ⟨i0, hi0', hz0, hz1, hz2⟩ := info_parts info_re3
      have hge := hb.out.size
      have O5 := Lib.hid (owns_after hown.out (below_new wr (.cells (reC 1 f0 lo0 hi0 (.slice ai n0 ci)) 28)))
      have R5 := Lib.hid (heap_alloc_last wr (.cells (reC 1 f0 lo0 hi0 (.slice ai n0 ci)) 28))
      go_upto_region 8 with (fail)
      go_wp2_with (at_builtin; refine wpList_append_own _ rfl _ _ 23 rfl (w.heap.size + 1) 28 i0 (.agg #[.int .i64 0, .int .u64 0, .int .u64 0, .int .u64 0, .int .u64 0, .int .i64 0, .int .i64 0, .slice none 0 0]) 8 80 Try.underlying23 hi0' hz0 hz1 hz2 rfl (by decide) _ _ _ rfl O5.out ⟨wr.heap.size, 0, none⟩ 1 1 (reC 1 f0 lo0 hi0 (.slice ai n0 ci)).toList rfl rfl ?c1 ?c2 ?c3 ?c4 ?c5 ?_)
      case c1 =>
        intro j u hj
        have e : (⟨wr.heap.size, 0, none⟩ : Addr).add j = ⟨wr.heap.size, j, none⟩ := by unfold Addr.add; split <;> simp_all
        rw [e]
        exact (cell_of_row _ _ j _ _ _ R5.out).trans (by simpa using hj)
      case c2 =>
        intro u hu
        have h := re_one 1 f0 lo0 hi0 ai n0 ci
        rw [Array.all_eq_true_iff_forall_mem] at h
        exact h u (by simpa using hu)
      case c3 => unfold maxLen; omega
      case c4 => omega
      case c5 => rw [World.size_alloc]; omega
      intro v' w4 hown' hgrow _
      have hgrow' : (wr.alloc (.cells (reC 1 f0 lo0 hi0 (.slice ai n0 ci)) 28)).grownBy w4 _ := hgrow
      have hlt5 := O5.out.lt
      have OW := Lib.hid hown'
      have hx5 := (hx.out.after (below_new wr (.cells (reC 1 f0 lo0 hi0 (.slice ai n0 ci)) 28)))
      have hw4 := hgrow'.block w.heap.size (by have := hx5.lt; omega) (fun e => by have := (hlt5 _ e.symm).1; omega)
      have XW : Hid (Box w4 w.heap.size zeroR) := Lib.hid ⟨by rw [hw4]; exact hx5.row⟩
      have BW : Hid (Below w.heap.size w w4) := Lib.hid ((Below.step hb.out (below_new wr (.cells (reC 1 f0 lo0 hi0 (.slice ai n0 ci)) 28))).grown hgrow' (by rw [World.size_alloc]; omega) (fun k hk => by have := (hlt5 k hk).1; omega))
      clear hown' hgrow hgrow' hlt5 hx5 hw4
      go_wp2_with fail
      go_roundw
      case rel => exact ⟨i + 1, by go_num, by omega, Lib.hid (by rw [flatC_succ, EC.out]; exact OW.out), BW, XW⟩
      case measure => simp [intOf]; omega
    · obtain rfl : i = l.length := by omega
      have hshape : ∃ nb cap, u5 = Value.slice (some ⟨nb, 0, none⟩) l.length cap ∧ w.heap.size + 1 ≤ nb ∧ l.length ≤ cap := by
        rcases hown.out.2 with ⟨_, h0⟩ | ⟨nb, cap, cur, hv', hb', _, hcap, _⟩
        · omega
        · exact ⟨nb, cap, hv', hb', hcap⟩
      obtain ⟨nb, cap, rfl, hnb, hcap⟩ := hshape
      have h0 : ((l.length : Int) == 0) = false := beq_eq_false_iff_ne.2 (by omega)
      have E8 := Lib.hid (fun i hi => owns_eight hown.out HS8.out i hi)
      by_cases h1 : l.length = 1
      · have hq1 : ((l.length : Int) == 1) = true := beq_iff_eq.2 (by omega)
        obtain ⟨a0, c0, e, _⟩ := (HAT.out 0 hl).opens
        have h80 := E8.out 0 hl
        rw [e] at h80
        rw [show 0 + 0 * 8 = 0 from rfl] at h80
        obtain ⟨d0, d1, d2, d3, d4, d5, d6, d7⟩ := eight_re h80
        have EC := Lib.hid e
        have H1 := Lib.hid h1
        clear e h80 h1
        go_wp2_with (refine wpList_store_row rfl 28 (.tmp 4) (.tmp 54) rfl w.heap.size (reC l[0].k l[0].f l[0].lo l[0].hi (.slice a0 l[0].kids.length c0)) rfl rfl 28 zeroR hx.out.row HI rfl (re_one _ _ _ _ _ _ _) ?_)
        refine bodyPost_ret (v := .agg (reC l[0].k l[0].f l[0].lo l[0].hi (.slice a0 l[0].kids.length c0))) (results_cell_row (by rfl) _ _ w.heap.size 28 _ (0, 0) _ (by rfl) (hx.out.setRow _).row Try.underlying28 (by rfl) HI) rfl ⟨_, rfl, ?_, below_setRow hb.out (Nat.le_refl _) _⟩
        have hj : joinT 4 l = l[0] := by
          match l, H1.out with
          | [t], _ => rfl
        rw [hj, ← EC.out]
        exact ((HAT.out 0 hl).after (below_setRow hb.out (Nat.le_refl _) _)).weakS fun k hk => Or.inl hk
      · have hq1 : ((l.length : Int) == 1) = false := beq_eq_false_iff_ne.2 (by omega)
        have H1 := Lib.hid h1
        clear h1
        go_wp2_with (refine wpList_store_row rfl 28 (.tmp 4) (.tmp 57) rfl w.heap.size (reC 4 zero4 0 0 (.slice (some ⟨nb, 0, none⟩) l.length cap)) rfl rfl 28 zeroR hx.out.row HI rfl (re_one _ _ _ _ _ _ _) ?_)
        refine bodyPost_ret (v := .agg (reC 4 zero4 0 0 (.slice (some ⟨nb, 0, none⟩) l.length cap))) (results_cell_row (by rfl) _ _ w.heap.size 28 _ (0, 0) _ (by rfl) (hx.out.setRow _).row Try.underlying28 (by rfl) HI) rfl ⟨_, rfl, ?_, below_setRow hb.out (Nat.le_refl _) _⟩
        have hj : joinT 4 l = .mk 4 zero4 0 0 l := by
          match l, hl, H1.out with
          | [t], _, h => exact absurd rfl h
          | t :: u :: r, _, _ => rfl
        rw [hj]
        refine .node 4 zero4 0 0 l nb 0 cap cs (fun e => by rw [e] at hl; exact absurd hl (by simp)) hcap (Or.inr (by omega)) (fun i hi => ?_) (fun i hi => ?_)
        · exact (E8.out i hi).keep (Go.setRow_other _ _ _ _ (by omega))
        · exact ((HAT.out i hi).after (below_setRow hb.out (Nat.le_refl _) _)).weakS fun k hk => Or.inl hk
theorem join_spec (l : List Tree) (v : Value) (S : Nat → Prop) (w : World) (hlen : l.length ≤ 400) (hsl : SlAt w S l v) (hk : ∀ t, t ∈ l → t.k = 1) :
    Calls Try.prog 6 #[.int .i64 4, v] w fun e w' =>
      ∃ ds, e = .returned (.agg ds) ∧ At w' (fun k => S k ∨ w.heap.size ≤ k) (joinT 4 l) ds ∧ Below w.heap.size w w' := by
  rcases hsl with ⟨rfl, a, c, rfl⟩ | ⟨hl, b, off, c, cs, rfl, hc, hB, h8, hat⟩
  · refine (join_none a c w).mono ?_
    rintro e w' ⟨rfl, hb⟩
    exact ⟨_, rfl, .leaf _ _ _ _ _ _, hb⟩
  · exact join_some l b off c cs S w (by cases l with | nil => exact absurd rfl hl | cons => simp) hlen h8 hat hk
end Go.Proofs.Ytbojoiacedhjiaa
