/- Merged by program: E5Joined, E5Own. -/
import Derived.Maps.AppendAt
import Derived.Test.YtimipfdknfdbdaaGreatDoorQjah
import Derived.Test.YtimipfdknfdbdaaGreatDoorQjai
/- ere.joined at parts none of which is of that kind, or dropped: walks. -/
namespace Go.Proofs.YtimipfdknfdbdaaGreatDoor.E5
open Go.Proofs.YtimipfdknfdbdaaGreatDoor Go.Proofs
open Go.RowKit

def emptyT : Tree := .mk 0 zero4 0 0 []
def joinT (kind : Int) : List Tree → Tree
  | [] => emptyT
  | [t] => t
  | t :: u :: r => .mk kind zero4 0 0 (t :: u :: r)

theorem info_re3 : (Tryz.prog.info? 48).map (fun i => (i.zero, i.size, i.bytes)) = some (some (.agg #[.int .i64 0, .int .u64 0, .int .u64 0, .int .u64 0, .int .u64 0, .int .i64 0, .int .i64 0, .slice none 0 0]), 8, 80) := by kernel_rfl

theorem owns_after {w w' : World} {base : Nat} {e : TypeId} {size : Nat} {v : Value} {n : Nat} {xs : List Value} (h : w.ownsRow base e size v n xs) (hb : Below w.heap.size w w') : w'.ownsRow base e size v n xs :=
  h.kept (row := none) ⟨hb.os, hb.tape, hb.output, hb.size, fun k hk _ => hb.block k hk⟩ (by cases v.ownBlock <;> simp)

/-- The cells of the first so many parts. -/
def flatC (cs : Nat → Array Value) (n : Nat) : List Value := (List.range n).flatMap fun j => (cs j).toList
theorem flatC_succ (cs : Nat → Array Value) (n : Nat) : flatC cs (n + 1) = flatC cs n ++ (cs n).toList := by
  unfold flatC
  rw [List.range_succ, List.flatMap_append]
  simp
theorem flatC_len (cs : Nat → Array Value) (n : Nat) (h : ∀ j, j < n → (cs j).size = 8) : (flatC cs n).length = n * 8 := by
  induction n with
  | zero => rfl
  | succ n ih =>
    rw [flatC_succ, List.length_append, ih fun j hj => h j (by omega)]
    have := h n (by omega)
    simp only [Array.length_toList, this]
    omega
theorem flatC_get (cs : Nat → Array Value) (n : Nat) (h : ∀ j, j < n → (cs j).size = 8) (i : Nat) (hi : i < n) (j : Nat) (hj : j < 8) : (flatC cs n)[i * 8 + j]? = (cs i)[j]? := by
  induction n with
  | zero => omega
  | succ n ih =>
    rw [flatC_succ]
    have hl := flatC_len cs n fun j hj => h j (by omega)
    by_cases e : i < n
    · rw [List.getElem?_append_left (by omega)]
      exact ih (fun j hj => h j (by omega)) e
    · obtain rfl : i = n := by omega
      rw [List.getElem?_append_right (by omega), hl]
      simp
/-- A slice that the call owns, of trees' cells. -/
theorem owns_eight {w : World} {base g n cap : Nat} {cs : Nat → Array Value} (h : w.ownsRow base 48 8 (.slice (some ⟨g, 0, none⟩) n cap) n (flatC cs n)) (hc : ∀ j, j < n → (cs j).size = 8) (i : Nat) (hi : i < n) : Eight w g (0 + i * 8) (cs i) := by
  intro j hj
  rw [Nat.zero_add, h.cellAt (i * 8 + j) (by omega)]
  exact flatC_get cs n hc i hi j hj

set_option maxRecDepth 100000 in
theorem joined_none (kind : Int) (a : Option Addr) (c : Nat) (dv : Value) (w : World) :
    Calls Tryz.prog 39 #[.int .i64 kind, .slice a 0 c, dv] w fun e w' => e = .returned (.agg zeroR) ∧ Below w.heap.size w w' := by
  have HI := info_re
  go_enter Tryz.func39, Tryz.ntmps39
  go_upto_region 1 with (fail)
  obtain ⟨W, hW, hX, hB, hsz⟩ := re_box w zeroR
  change Code.wp _ _ _ _ (w.alloc (Obj.cells zeroR 48))
  rw [← hW]
  clear hW
  go_wp2_with fail
  refine wp_loop_rounds 1 ?_
  rw [rounds_succ]
  go_wp2_with (refine wpList_store_row rfl 48 (.tmp 6) (.tmp 39) rfl w.heap.size zeroR rfl rfl 48 zeroR hX.out.row HI rfl (re_one _ _ _ _ _ _ _) ?_)
  refine bodyPost_ret (v := .agg zeroR) (results_cell_row (by rfl) _ _ w.heap.size 48 _ (0, 0) _ (by rfl) (hX.out.setRow _).row Tryz.underlying48 (by rfl) HI) rfl ⟨rfl, ?_⟩
  exact below_setRow hB.out (Nat.le_refl _) _

set_option maxRecDepth 100000 in
theorem joined_some (kind : Int) (l : List Tree) (b off c : Nat) (cs : Nat → Array Value) (S : Nat → Prop) (dv : Value) (ks : List Int) (w : World) (hl : 0 < l.length) (hlen : l.length ≤ 400)
    (h8 : ∀ i, i < l.length → Eight w b (off + i * 8) (cs i)) (hat : ∀ i (h : i < l.length), At w S l[i] (cs i)) (hk : ∀ t, t ∈ l → t.k ≠ kind) (hd : NoneOf ks l) (hv : IntsAt w dv ks) :
    Calls Tryz.prog 39 #[.int .i64 kind, .slice (some ⟨b, off, none⟩) l.length c, dv] w fun e w' =>
      ∃ ds, e = .returned (.agg ds) ∧ At w' (fun k => S k ∨ w.heap.size ≤ k) (joinT kind l) ds ∧ Below w.heap.size w w' := by
  have HI := info_re
  have HK := Lib.hid hk
  have HDr := Lib.hid hd
  have HV := Lib.hid hv
  have H8 := Lib.hid h8
  have HAT := Lib.hid hat
  have hsz8 : ∀ j, j < l.length → (cs j).size = 8 := fun j hj => (hat j hj).size
  have HS8 := Lib.hid hsz8
  have hbl : b < w.heap.size := (h8 0 hl).lt (hsz8 0 hl)
  clear hk hd hv h8 hat hsz8
  go_enter Tryz.func39, Tryz.ntmps39
  go_upto_region 1 with (fail)
  obtain ⟨W, hW, hX, hB, hsz⟩ := re_box w zeroR
  change Code.wp _ _ _ _ (w.alloc (Obj.cells zeroR 48))
  rw [← hW]
  clear hW
  go_wp2_with fail
  go_loopw [7, 12] (fun lv y wr => ∃ i : Nat, y = .int .i64 i ∧ i ≤ l.length ∧ Hid (wr.ownsRow (w.heap.size + 1) 48 8 lv i (flatC cs i)) ∧ Hid (Below w.heap.size w wr) ∧ Hid (Box wr w.heap.size zeroR)) (fun _ y _ => l.length - (intOf y).toNat)
  case atStart => exact ⟨0, rfl, by omega, Lib.hid (World.ownsRow_nil _ _ _ _), hB, hX⟩
  case round =>
    obtain ⟨i, rfl, hi, hown, hb, hx⟩ := hrel
    by_cases hgo : i < l.length
    · obtain ⟨ai, ci, e, _⟩ := (HAT.out i hgo).opens
      have h8i := (H8.out i hgo).keep (hb.out.block b hbl)
      have hki := HK.out l[i] (List.getElem_mem hgo)
      have hdi := HDr.out l[i] (List.getElem_mem hgo)
      obtain ⟨k0, f0, lo0, hi0, n0, e'⟩ : ∃ k0 f0 lo0 hi0 n0, cs i = reC k0 f0 lo0 hi0 (.slice ai n0 ci) ∧ k0 = l[i].k := ⟨_, _, _, _, _, e, rfl⟩
      rw [← e'.2] at hki hdi
      rw [e'.1] at h8i
      have EC := Lib.hid e'.1
      clear e e'
      have hko : among [kind] k0 = false := by simp [among, hki]
      obtain ⟨c0, c1, c2, c3, c4, c5, c6, c7⟩ := eight_re h8i
      clear h8i hki
      go_upto_region 5 with (fail)
      obtain ⟨V, hV, hY, hBV, hszV⟩ := re_box wr (reC k0 f0 lo0 hi0 (.slice ai n0 ci))
      change Code.wp _ _ _ _ (wr.alloc (Obj.cells (reC k0 f0 lo0 hi0 (.slice ai n0 ci)) 48))
      rw [← hV]
      clear hV c0 c1 c2 c3 c4 c5 c6 c7
      have own1 := Lib.hid (owns_after hown.out hBV.out)
      have hb1 := Lib.hid (Below.step hb.out hBV.out)
      have hx1 := Lib.hid (hx.out.after hBV.out)
      obtain ⟨c0, c1, c2, c3, c4, c5, c6, c7⟩ := eight_re hY.out.eight
      have bK := below_new V (.cells #[.int .i64 kind] 3)
      have HO := Lib.hid (isOf_spec k0 f0 lo0 hi0 (.slice ai n0 ci) (.slice (some ⟨V.heap.size, 0, none⟩) 1 1) [kind] (V.alloc (.cells #[.int .i64 kind] 3)) (Or.inr ⟨_, _, rfl, by simp, heap_alloc_last V _⟩))
      rw [hko] at HO
      clear hko
      have own2 := Lib.hid (owns_after own1.out bK)
      have hb2 := Lib.hid (Below.step hb1.out bK)
      have hx2 := Lib.hid (hx1.out.after bK)
      have hY2 := Lib.hid (hY.out.after bK)
      clear bK
      go_wp2_with fail
      refine HO.out.mono ?_
      rintro e w2 ⟨rfl, b2⟩
      have own3 := Lib.hid (owns_after own2.out b2)
      have hb3 := Lib.hid (Below.step hb2.out b2)
      have hx3 := Lib.hid (hx2.out.after b2)
      have hY3 := Lib.hid (hY2.out.after b2)
      clear b2 c0 c1 c2 c3 c4 c5 c6 c7
      obtain ⟨c0, c1, c2, c3, c4, c5, c6, c7⟩ := eight_re hY3.out.eight
      have HO2 := Lib.hid (isOf_spec k0 f0 lo0 hi0 (.slice ai n0 ci) dv ks w2 (HV.out.after hb3.out))
      rw [hdi] at HO2
      clear hdi
      go_wp2_with fail
      refine HO2.out.mono ?_
      rintro e w3 ⟨rfl, b3⟩
      have own4 := Lib.hid (owns_after own3.out b3)
      have hb4 := Lib.hid (Below.step hb3.out b3)
      have hx4 := Lib.hid (hx3.out.after b3)
      have hY4 := Lib.hid (hY3.out.after b3)
      clear b3 c0 c1 c2 c3 c4 c5 c6 c7
      obtain ⟨c0, c1, c2, c3, c4, c5, c6, c7⟩ := eight_re hY4.out.eight
      have own5 := owns_after own4.out (below_new w3 (.cells (reC k0 f0 lo0 hi0 (.slice ai n0 ci)) 48))
      have hsz5 : (w3.alloc (.cells (reC k0 f0 lo0 hi0 (.slice ai n0 ci)) 48)).heap.size = w3.heap.size + 1 := World.size_alloc _ _
      have hge := hb4.out.size
      have row5 : (w3.alloc (.cells (reC k0 f0 lo0 hi0 (.slice ai n0 ci)) 48)).heap[w3.heap.size]? = some (.cells (reC k0 f0 lo0 hi0 (.slice ai n0 ci)) 48 (0, 0)) := heap_alloc_last w3 _
      obtain ⟨i0, hi0', hz0, hz1, hz2⟩ := info_parts info_re3
      have O5 := Lib.hid own5
      have R5 := Lib.hid row5
      clear own5 row5
      go_wp2_with (at_builtin; refine wpList_append_own _ rfl _ _ 46 rfl (w.heap.size + 1) 48 i0 (.agg #[.int .i64 0, .int .u64 0, .int .u64 0, .int .u64 0, .int .u64 0, .int .i64 0, .int .i64 0, .slice none 0 0]) 8 80 Tryz.underlying46 hi0' hz0 hz1 hz2 rfl (by decide) _ _ _ rfl O5.out ⟨w3.heap.size, 0, none⟩ 1 1 (reC k0 f0 lo0 hi0 (.slice ai n0 ci)).toList rfl rfl ?c1 ?c2 ?c3 ?c4 ?c5 ?_)
      case c1 =>
        intro j u hj
        have e : (⟨w3.heap.size, 0, none⟩ : Addr).add j = ⟨w3.heap.size, j, none⟩ := by unfold Addr.add; split <;> simp_all
        rw [e]
        exact (cell_of_row _ _ j _ _ _ R5.out).trans (by simpa using hj)
      case c2 =>
        intro u hu
        have h := re_one k0 f0 lo0 hi0 ai n0 ci
        rw [Array.all_eq_true_iff_forall_mem] at h
        exact h u (by simpa using hu)
      case c3 => unfold maxLen; omega
      case c4 => omega
      case c5 => rw [World.size_alloc]; omega
      intro v' w4 hown' hgrow _
      have hgrow' : (w3.alloc (.cells (reC k0 f0 lo0 hi0 (.slice ai n0 ci)) 48)).grownBy w4 _ := hgrow
      have hlt5 := O5.out.lt
      have OW := Lib.hid hown'
      have hx5 := (hx4.out.after (below_new w3 (.cells (reC k0 f0 lo0 hi0 (.slice ai n0 ci)) 48)))
      have hw4 := hgrow'.block w.heap.size (by have := hx5.lt; omega) (fun e => by have := (hlt5 _ e.symm).1; omega)
      have XW : Hid (Box w4 w.heap.size zeroR) := Lib.hid ⟨by rw [hw4]; exact hx5.row⟩
      have BW : Hid (Below w.heap.size w w4) := Lib.hid ((Below.step hb4.out (below_new w3 (.cells (reC k0 f0 lo0 hi0 (.slice ai n0 ci)) 48))).grown hgrow' (by omega) (fun k hk => by have := (hlt5 k hk).1; omega))
      clear hown' hgrow hgrow' hlt5 hx5 hw4
      go_wp2_with fail
      go_roundw
      case rel => exact ⟨i + 1, by go_num, by omega, Lib.hid (by rw [flatC_succ, EC.out]; exact OW.out), BW, XW⟩
      case measure => simp [intOf]; omega
    · obtain rfl : i = l.length := by omega
      have hshape : ∃ nb cap, u7 = Value.slice (some ⟨nb, 0, none⟩) l.length cap ∧ w.heap.size + 1 ≤ nb ∧ l.length ≤ cap := by
        rcases hown.out.2 with ⟨_, h0⟩ | ⟨nb, cap, cur, hv', hb', _, hcap, _⟩
        · omega
        · exact ⟨nb, cap, hv', hb', hcap⟩
      obtain ⟨nb, cap, rfl, hnb, hcap⟩ := hshape
      have h0 : ((l.length : Int) == 0) = false := beq_eq_false_iff_ne.2 (by omega)
      have E8 := Lib.hid (fun i hi => owns_eight hown.out HS8.out i hi)
      by_cases h1 : l.length = 1
      · have hq1 : ((l.length : Int) == 1) = true := beq_iff_eq.2 (by omega)
        obtain ⟨a0, c0, e, _⟩ := (HAT.out 0 hl).opens
        have h80 := E8.out 0 hl
        rw [e] at h80
        rw [show 0 + 0 * 8 = 0 from rfl] at h80
        obtain ⟨d0, d1, d2, d3, d4, d5, d6, d7⟩ := eight_re h80
        have EC := Lib.hid e
        have H1 := Lib.hid h1
        clear e h80 h1
        go_wp2_with (refine wpList_store_row rfl 48 (.tmp 6) (.tmp 44) rfl w.heap.size (reC l[0].k l[0].f l[0].lo l[0].hi (.slice a0 l[0].kids.length c0)) rfl rfl 48 zeroR hx.out.row HI rfl (re_one _ _ _ _ _ _ _) ?_)
        refine bodyPost_ret (v := .agg (reC l[0].k l[0].f l[0].lo l[0].hi (.slice a0 l[0].kids.length c0))) (results_cell_row (by rfl) _ _ w.heap.size 48 _ (0, 0) _ (by rfl) (hx.out.setRow _).row Tryz.underlying48 (by rfl) HI) rfl ⟨_, rfl, ?_, below_setRow hb.out (Nat.le_refl _) _⟩
        have hj : joinT kind l = l[0] := by
          match l, H1.out with
          | [t], _ => rfl
        rw [hj, ← EC.out]
        exact ((HAT.out 0 hl).after (below_setRow hb.out (Nat.le_refl _) _)).weakS fun k hk => Or.inl hk
      · have hq1 : ((l.length : Int) == 1) = false := beq_eq_false_iff_ne.2 (by omega)
        have H1 := Lib.hid h1
        clear h1
        go_wp2_with (refine wpList_store_row rfl 48 (.tmp 6) (.tmp 47) rfl w.heap.size (reC kind zero4 0 0 (.slice (some ⟨nb, 0, none⟩) l.length cap)) rfl rfl 48 zeroR hx.out.row HI rfl (re_one _ _ _ _ _ _ _) ?_)
        refine bodyPost_ret (v := .agg (reC kind zero4 0 0 (.slice (some ⟨nb, 0, none⟩) l.length cap))) (results_cell_row (by rfl) _ _ w.heap.size 48 _ (0, 0) _ (by rfl) (hx.out.setRow _).row Tryz.underlying48 (by rfl) HI) rfl ⟨_, rfl, ?_, below_setRow hb.out (Nat.le_refl _) _⟩
        have hj : joinT kind l = .mk kind zero4 0 0 l := by
          match l, hl, H1.out with
          | [t], _, h => exact absurd rfl h
          | t :: u :: r, _, _ => rfl
        rw [hj]
        refine .node kind zero4 0 0 l nb 0 cap cs (fun e => by rw [e] at hl; exact absurd hl (by simp)) hcap (Or.inr (by omega)) (fun i hi => ?_) (fun i hi => ?_)
        · exact (E8.out i hi).keep (Go.setRow_other _ _ _ _ (by omega))
        · exact ((HAT.out i hi).after (below_setRow hb.out (Nat.le_refl _) _)).weakS fun k hk => Or.inl hk
end Go.Proofs.YtimipfdknfdbdaaGreatDoor.E5

/- A slice of trees that a call makes, tree by tree. -/
namespace Go.Proofs.YtimipfdknfdbdaaGreatDoor.E5
open Go.Proofs.YtimipfdknfdbdaaGreatDoor Go.Proofs
open Go.RowKit

structure OwnTrees (w : World) (base : Nat) (v : Value) (ts : List Tree) (cs : Nat → Array Value) : Prop where
  row : w.ownsRow base 48 8 v ts.length (flatC cs ts.length)
  at_ : ∀ j (h : j < ts.length), At w (fun b => base ≤ b ∧ some b ≠ v.ownBlock) ts[j] (cs j)

theorem own_nil (w : World) (base : Nat) (cs : Nat → Array Value) : OwnTrees w base (.slice none 0 0) [] cs := ⟨World.ownsRow_nil _ _ _ _, fun j h => absurd h (by simp)⟩
theorem OwnTrees.after {w w' : World} {base : Nat} {v : Value} {ts : List Tree} {cs : Nat → Array Value} (h : OwnTrees w base v ts cs) (hb : Below w.heap.size w w') : OwnTrees w' base v ts cs :=
  ⟨owns_after h.row hb, fun j hj => (h.at_ j hj).after hb⟩
theorem OwnTrees.but {p : Nat} {w w' : World} {base : Nat} {v : Value} {ts : List Tree} {cs : Nat → Array Value} (h : OwnTrees w base v ts cs) (hb : But p w w') (hp : p < base) : OwnTrees w' base v ts cs :=
  ⟨h.row.kept (row := some p) ⟨hb.os, hb.tape, hb.output, hb.size, fun k hk e => hb.block k hk (fun e' => e (by rw [e']))⟩ (by
      cases hv : v.ownBlock with
      | none => exact Or.inl rfl
      | some k => exact Or.inr (fun e => by have := (h.row.lt k hv).1; simp at e; omega)),
    fun j hj => (h.at_ j hj).butS hb (fun e => by have := e.1; omega)⟩
theorem OwnTrees.size8 {w : World} {base : Nat} {v : Value} {ts : List Tree} {cs : Nat → Array Value} (h : OwnTrees w base v ts cs) (j : Nat) (hj : j < ts.length) : (cs j).size = 8 := (h.at_ j hj).size
theorem flatC_congr {cs ds : Nat → Array Value} {n : Nat} (h : ∀ j, j < n → cs j = ds j) : flatC cs n = flatC ds n := by
  induction n with
  | zero => rfl
  | succ n ih => rw [flatC_succ, flatC_succ, ih fun j hj => h j (by omega), h n (by omega)]
theorem OwnTrees.snoc {w w' : World} {base : Nat} {v v' : Value} {ts : List Tree} {cs : Nat → Array Value} (h : OwnTrees w base v ts cs) {t : Tree} {ds : Array Value} {C : Nat} (ht : At w (Up C) t ds) (hC : base ≤ C) (hv : ∀ k, v.ownBlock = some k → k < C)
    (hrow : w'.ownsRow base 48 8 v' (ts.length + 1) (flatC cs ts.length ++ ds.toList)) (hg : w.grownBy w' v.ownBlock) (hb : v'.ownBlock = v.ownBlock ∨ v'.ownBlock = some w.heap.size) :
    OwnTrees w' base v' (ts ++ [t]) (fun j => if j = ts.length then ds else cs j) := by
  have hl : (ts ++ [t]).length = ts.length + 1 := by simp
  refine ⟨?_, fun j hj => ?_⟩
  · rw [hl, flatC_succ, if_pos rfl, flatC_congr (ds := cs) (fun j hj => if_neg (by omega))]
    exact hrow
  · have keep : ∀ {u : Tree} {es : Array Value}, At w (fun b => base ≤ b ∧ some b ≠ v.ownBlock) u es → At w' (fun b => base ≤ b ∧ some b ≠ v'.ownBlock) u es := by
      intro u es hu
      refine ((hu.inWorld).keep (w' := w') (fun k hk hlt => hg.block k hlt hk.1.2)).weakS fun k hk => ⟨hk.1.1, ?_⟩
      rcases hb with e | e
      · rw [e]; exact hk.1.2
      · rw [e]; intro e'; have := hk.2; simp at e'; omega
    by_cases e : j = ts.length
    · subst e
      rw [if_pos rfl]
      have : (ts ++ [t])[ts.length] = t := by simp
      rw [this]
      refine keep (ht.weakS fun k hk => ⟨Nat.le_trans hC hk, fun e => ?_⟩)
      have h1 := hv k e.symm
      have h2 : C ≤ k := hk
      omega
    · rw [if_neg e]
      have hj' : j < ts.length := by rw [hl] at hj; omega
      have : (ts ++ [t])[j] = ts[j] := List.getElem_append_left hj'
      rw [this]
      exact keep (h.at_ j hj')
theorem OwnTrees.slAt {w : World} {base : Nat} {v : Value} {ts : List Tree} {cs : Nat → Array Value} (h : OwnTrees w base v ts cs) : SlAt w (Up base) ts v := by
  rcases h.row.2 with ⟨rfl, h0⟩ | ⟨g, cap, cur, rfl, hb, _, hcap, _⟩
  · exact Or.inl ⟨List.eq_nil_of_length_eq_zero h0, none, 0, by rfl⟩
  · by_cases e : ts = []
    · subst e; exact Or.inl ⟨rfl, _, _, rfl⟩
    · exact Or.inr ⟨e, g, 0, cap, cs, rfl, hcap, hb, fun i hi => owns_eight h.row h.size8 i hi, fun i hi => (h.at_ i hi).weakS fun k hk => hk.1⟩

theorem joined_spec (kind : Int) (l : List Tree) (v : Value) (S : Nat → Prop) (dv : Value) (ks : List Int) (w : World) (hlen : l.length ≤ 400)
    (hsl : SlAt w S l v) (hk : ∀ t, t ∈ l → t.k ≠ kind) (hd : NoneOf ks l) (hv : IntsAt w dv ks) :
    Calls Tryz.prog 39 #[.int .i64 kind, v, dv] w fun e w' =>
      ∃ ds, e = .returned (.agg ds) ∧ At w' (fun k => S k ∨ w.heap.size ≤ k) (joinT kind l) ds ∧ Below w.heap.size w w' := by
  rcases hsl with ⟨rfl, a, c, rfl⟩ | ⟨hl, b, off, c, cs, rfl, hc, hB, h8, hat⟩
  · refine (joined_none kind a c dv w).mono ?_
    rintro e w' ⟨rfl, hb⟩
    exact ⟨_, rfl, .leaf _ _ _ _ _ _, hb⟩
  · exact joined_some kind l b off c cs S dv ks w (by cases l with | nil => exact absurd rfl hl | cons => simp) hlen h8 hat hk hd hv
end Go.Proofs.YtimipfdknfdbdaaGreatDoor.E5
