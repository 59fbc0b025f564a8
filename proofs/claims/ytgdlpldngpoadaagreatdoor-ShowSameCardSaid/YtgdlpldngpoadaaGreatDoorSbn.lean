/- Merged by program: ShM, Post, NdOpen. -/
import Derived.ProofKit
import Derived.OpenShut
import Derived.HandedShaped
import Derived.SizedLaws
import Derived.Test.YtgdlpldngpoadaaGreatDoorSbh
import Derived.Test.YtgdlpldngpoadaaGreatDoorSbj
import Derived.Test.YtgdlpldngpoadaaGreatDoorSbm
import Derived.Test.YtgdlpldngpoadaaGreatDoorSaa
/- The law's lives. -/
namespace Go.Proofs.YtgdlpldngpoadaaGreatDoor
open Go.RowKit

theorem ref_one (w : World) : Calls Tryz.prog 223 #[.string ⟨#[49]⟩] w fun e w' => e = .returned (.tuple #[.int .i64 1000000, .int .i64 1, .int .i64 0]) ∧ Below w.heap.size w w' := by
  refine (T3.refParse_any ⟨#[49]⟩ w (by decide)).mono ?_
  rintro e w' ⟨rfl, hb⟩
  have h : T3.parseAns [49] = .tuple #[.int .i64 1000000, .int .i64 1, .int .i64 0] := by kernel_rfl
  exact ⟨congrArg Ending.returned h, hb⟩
theorem live_few : PFew 8796093022207 liveT := by
  have hx : PFew 8796093022207 ndX := .mk _ _ _ _ _ _ (by decide) (fun c h => absurd h (by simp))
  have hy : PFew 8796093022207 ndY := .mk _ _ _ _ _ _ (by decide) (fun c h => absurd h (by simp))
  have hz : PFew 8796093022207 ndZ := .mk _ _ _ _ _ _ (by decide) (fun c h => absurd h (by simp))
  have h1 : PFew 8796093022207 nd1 := .mk _ _ _ _ _ _ (by decide) (fun c h => absurd h (by simp))
  have hP : PFew 8796093022207 ndP := .mk _ _ _ _ _ _ (by decide) (fun c h => by
    rcases List.mem_cons.1 h with rfl | h
    · exact hz
    · rcases List.mem_cons.1 h with rfl | h
      · exact h1
      · exact absurd h (by simp))
  have hJ : PFew 8796093022207 ndJ := .mk _ _ _ _ _ _ (by decide) (fun c h => by
    rcases List.mem_cons.1 h with rfl | h
    · exact hy
    · rcases List.mem_cons.1 h with rfl | h
      · exact hP
      · exact absurd h (by simp))
  exact .mk _ _ _ _ _ _ (by decide) (fun c h => by
    rcases List.mem_cons.1 h with rfl | h
    · exact hx
    · rcases List.mem_cons.1 h with rfl | h
      · exact hJ
      · exact absurd h (by simp))
/-- But for places a tree is the same without them. -/
theorem allB_map (f : Nd → Nd → Bool) (g : Nd → Nd) : ∀ l : List Nd, (∀ c ∈ l, f c (g c) = true) → allB f l (l.map g) = true
  | [], _ => rfl
  | a :: l, h => by
    simp only [List.map_cons, allB, h a (by simp), Bool.true_and]
    exact allB_map f g l fun c hc => h c (by simp [hc])
theorem sameF_strip (n : Nat) : ∀ t, sameF n false t (stripF n t) = true := by
  induction n with
  | zero => intro t; rfl
  | succ n ih =>
    intro t
    cases t with
    | mk k s m a l p =>
      have h : allB (sameF n false) l (l.map (stripF n)) = true := allB_map _ _ _ fun c _ => ih c
      simp [sameF, headB, stripF, Nd.k, Nd.s, Nd.n, Nd.kids, Nd.p, namesB_refl, h]

set_option maxRecDepth 100000 in
set_option maxHeartbeats 2000000 in
theorem zlives (w : World) : Calls Tryz.prog 6 #[] w fun e w' => e = .returned (.bool true) ∧ Below w.heap.size w w' := by
  have HI := info_nd
  go_enter Tryz.func6, Tryz.ntmps6
  go_wp2_with fail
  refine (live_ref ref_one _).mono ?_
  rintro e w1 ⟨cs, rfl, hA, b1⟩
  have HEX := Lib.hid (fun V (hb : Below w1.heap.size w1 V) => zexpr _ cs V (hA.after hb))
  have HST0 := Lib.hid (fun V (hb : Below w1.heap.size w1 V) => zstrip 5 liveT cs _ V (hA.after hb) live_low live_few)
  have HSM0 := Lib.hid (fun V B ds (hb : Below w1.heap.size w1 V) (h : At V (Up B) (stripF 5 liveT) ds) => by have h := zsame 5 liveT _ cs ds _ (Up B) V (hA.after hb) h live_low; rw [sameF_strip] at h; exact h)
  obtain ⟨x, c, y, d, hcs, _, _⟩ := hA.opens
  rw [hcs] at HEX HST0 HSM0 ⊢
  have HB1 := Lib.hid b1
  clear hA hcs b1
  obtain ⟨t, ht⟩ : ∃ t, t = liveT := ⟨_, rfl⟩
  rw [← ht] at HEX HST0 HSM0 ⊢
  clear ht
  go_upto_region 2 with (refine wpList_store_row rfl 25 (.tmp 1) (.tmp 8) rfl w1.heap.size (ndC t.k t.s t.n t.a (.slice x t.kids.length c) (.slice y t.p.length d)) rfl rfl 25 zeroN (heap_alloc_last _ _) HI rfl (nd_one _ _ _ _ _ _ _ _ _ _) ?_)
  obtain ⟨W2, hW2, X2, B2, hs2⟩ := nd_boxed w1 zeroN (ndC t.k t.s t.n t.a (.slice x t.kids.length c) (.slice y t.p.length d))
  change Code.wp _ _ _ _ ((w1.alloc (Obj.cells zeroN 25)).setRow w1.heap.size (ndC t.k t.s t.n t.a (.slice x t.kids.length c) (.slice y t.p.length d)))
  rw [← hW2]
  obtain ⟨xb, hxb⟩ : ∃ xb, xb = w1.heap.size := ⟨_, rfl⟩
  rw [← hxb] at X2 ⊢
  clear hW2 hxb hs2
  obtain ⟨c0, c1, c2, c3, c4, c5⟩ := six_nd X2.out.six
  go_wp2_with fail
  refine (HEX.out _ B2.out).mono ?_
  rintro e W3 ⟨rfl, b3⟩
  have X3 := Lib.hid (X2.out.after b3)
  have B13 := Lib.hid (Below.step B2.out b3)
  have HB3 := Lib.hid (Below.step HB1.out B13.out)
  have HST := Lib.hid (fun V (hb : Below W3.heap.size W3 V) => HST0.out V (Below.step B13.out hb))
  have HSM := Lib.hid (fun V B ds (hb : Below W3.heap.size W3 V) (h : At V (Up B) (stripF 5 t) ds) => HSM0.out V B ds (Below.step B13.out hb) h)
  clear b3 c0 c1 c2 c3 c4 c5 HEX HST0 HSM0
  simp only [xText]
  go_upto_region 3 with (fail)
  obtain ⟨c0, c1, c2, c3, c4, c5⟩ := six_nd X3.out.six
  have H0 : Hid (Hid (Below W3.heap.size W3 W3) ∧ W3.cell? ⟨xb, 0, none⟩ = some (.int .i64 t.k) ∧ W3.cell? ⟨xb, 1, none⟩ = some (.string t.s) ∧ W3.cell? ⟨xb, 2, none⟩ = some (.int .i64 t.n) ∧ W3.cell? ⟨xb, 3, none⟩ = some (.int .i64 t.a) ∧ W3.cell? ⟨xb, 4, none⟩ = some (.slice x t.kids.length c) ∧ W3.cell? ⟨xb, 5, none⟩ = some (.slice y t.p.length d)) :=
    Lib.hid ⟨Lib.hid (Below.refl _ _), by simpa using c0, by simpa using c1, by simpa using c2, by simpa using c3, by simpa using c4, by simpa using c5⟩
  clear c0 c1 c2 c3 c4 c5
  try simp only [Act.put]
  refine wp_region_held_drew (S := fun W' => Hid (Below W3.heap.size W3 W') ∧ W'.cell? ⟨xb, 0, none⟩ = some (.int .i64 t.k) ∧ W'.cell? ⟨xb, 1, none⟩ = some (.string t.s) ∧ W'.cell? ⟨xb, 2, none⟩ = some (.int .i64 t.n) ∧ W'.cell? ⟨xb, 3, none⟩ = some (.int .i64 t.a) ∧ W'.cell? ⟨xb, 4, none⟩ = some (.slice x t.kids.length c) ∧ W'.cell? ⟨xb, 5, none⟩ = some (.slice y t.p.length d)) (by kernel_rfl) ?_ (fun hS => ?_)
  · exact keep6 H0.out (below_drew _)
  clear H0
  refine takeW (i := 0) (d := 16) (v := .int .i64 0) rfl rfl (by kernel_rfl) (by kernel_rfl) (by kernel_rfl) (fun _ _ _ h => h) (by rfl) (fun w' hSw => by obtain ⟨x_, x0, x1, x2, x3, x4, x5⟩ := hSw; go_simp) hS ?_
  simp only [List.setIfInBounds_toArray, List.set_cons_zero, List.set_cons_succ]
  refine takeW (i := 1) (d := 17) (v := .bool true) rfl rfl (by kernel_rfl) (by kernel_rfl) (by kernel_rfl) (fun _ _ _ h => h) (by rfl) (fun w' hSw => by obtain ⟨x_, x0, x1, x2, x3, x4, x5⟩ := hSw; go_simp) hS ?_
  simp only [List.setIfInBounds_toArray, List.set_cons_zero, List.set_cons_succ]
  refine takeW (i := 2) (d := 18) (v := .bool true) rfl rfl (by kernel_rfl) (by kernel_rfl) (by kernel_rfl) (fun _ _ _ h => h) (by rfl) (fun w' hSw => by obtain ⟨x_, x0, x1, x2, x3, x4, x5⟩ := hSw; go_simp) hS ?_
  simp only [List.setIfInBounds_toArray, List.set_cons_zero, List.set_cons_succ]
  refine takeW (i := 3) (d := 19) (v := .int .i64 0) rfl rfl (by kernel_rfl) (by kernel_rfl) (by kernel_rfl) (fun _ _ _ h => h) (by rfl) (fun w' hSw => by obtain ⟨x_, x0, x1, x2, x3, x4, x5⟩ := hSw; go_simp) hS ?_
  simp only [List.setIfInBounds_toArray, List.set_cons_zero, List.set_cons_succ]
  refine takeW (i := 4) (d := 20) (v := .bool true) rfl rfl (by kernel_rfl) (by kernel_rfl) (by kernel_rfl) (fun _ _ _ h => h) (by rfl) (fun w' hSw => by obtain ⟨x_, x0, x1, x2, x3, x4, x5⟩ := hSw; go_simp) hS ?_
  simp only [List.setIfInBounds_toArray, List.set_cons_zero, List.set_cons_succ]
  refine takeW (i := 5) (d := 21) (v := .bool true) rfl rfl (by kernel_rfl) (by kernel_rfl) (by kernel_rfl) (fun _ _ _ h => h) (by rfl) (fun w' hSw => by obtain ⟨x_, x0, x1, x2, x3, x4, x5⟩ := hSw; go_simp) hS ?_
  simp only [List.setIfInBounds_toArray, List.set_cons_zero, List.set_cons_succ]
  refine takeW (i := 6) (d := 22) (v := .bool true) rfl rfl (by kernel_rfl) (by kernel_rfl) (by kernel_rfl) (fun _ _ _ h => h) (by rfl) (fun w' hSw => by obtain ⟨x_, x0, x1, x2, x3, x4, x5⟩ := hSw; go_simp) hS ?_
  simp only [List.setIfInBounds_toArray, List.set_cons_zero, List.set_cons_succ]
  refine takeW (i := 7) (d := 23) (v := .string ⟨#[120, 32, 61, 32, 40, 121, 32, 40, 122, 32, 43, 32, 49, 41, 41]⟩) rfl rfl (by kernel_rfl) (by kernel_rfl) (by kernel_rfl) (fun _ _ _ h => h) (by rfl) (fun w' hSw => by obtain ⟨x_, x0, x1, x2, x3, x4, x5⟩ := hSw; go_simp) hS ?_
  simp only [List.setIfInBounds_toArray, List.set_cons_zero, List.set_cons_succ]
  refine takeW (i := 8) (d := 24) (v := .bool true) rfl rfl (by kernel_rfl) (by kernel_rfl) (by kernel_rfl) (fun _ _ _ h => h) (by rfl) (fun w' hSw => by obtain ⟨x_, x0, x1, x2, x3, x4, x5⟩ := hSw; go_simp) hS ?_
  simp only [List.setIfInBounds_toArray, List.set_cons_zero, List.set_cons_succ]
  refine takeW (i := 9) (d := 25) (v := .bool true) rfl rfl (by kernel_rfl) (by kernel_rfl) (by kernel_rfl) (fun _ _ _ h => h) (by rfl) (fun w' hSw => by obtain ⟨x_, x0, x1, x2, x3, x4, x5⟩ := hSw; go_simp) hS ?_
  simp only [List.setIfInBounds_toArray, List.set_cons_zero, List.set_cons_succ]
  refine takeW (i := 10) (d := 26) (v := .bool true) rfl rfl (by kernel_rfl) (by kernel_rfl) (by kernel_rfl) (fun _ _ _ h => h) (by rfl) (fun w' hSw => by obtain ⟨x_, x0, x1, x2, x3, x4, x5⟩ := hSw; go_simp) hS ?_
  simp only [List.setIfInBounds_toArray, List.set_cons_zero, List.set_cons_succ]
  refine takeW (i := 11) (d := 27) (v := .agg #[.int .i64 t.k, .string t.s, .int .i64 t.n, .int .i64 t.a, .slice x t.kids.length c, .slice y t.p.length d]) rfl rfl (by kernel_rfl) (by kernel_rfl) (by kernel_rfl) (fun _ _ _ h => h) (by rfl) (fun w' hSw => by obtain ⟨x_, x0, x1, x2, x3, x4, x5⟩ := hSw; go_simp) hS ?_
  simp only [List.setIfInBounds_toArray, List.set_cons_zero, List.set_cons_succ]
  refine takeW (i := 12) (d := 28) (v := .agg #[.int .i64 t.k, .string t.s, .int .i64 t.n, .int .i64 t.a, .slice x t.kids.length c, .slice y t.p.length d]) rfl rfl (by kernel_rfl) (by kernel_rfl) (by kernel_rfl) (fun _ _ _ h => h) (by rfl) (fun w' hSw => by obtain ⟨x_, x0, x1, x2, x3, x4, x5⟩ := hSw; go_simp) hS ?_
  simp only [List.setIfInBounds_toArray, List.set_cons_zero, List.set_cons_succ]
  refine wpAnyH_ready (rs := [13]) (by kernel_rfl) (by simp) ?_
  refine AllReadyH.cons rfl (fun X hX => ?_) (AllReadyH.nil)
  rw [if_pos (by rfl)]
  go_simp
  refine (HST.out _ hS.1.out).mono ?_; rintro e w1 ⟨ds, rfl, hA1, b1⟩
  go_wp2_with fail
  refine hX.out _ _ (keep6 hS b1) (fun hS13_13 => ?_)
  clear hX X hS b1
  refine wpAnyH_ready (rs := [14]) (by kernel_rfl) (by simp) ?_
  refine AllReadyH.cons rfl (fun X hX => ?_) (AllReadyH.nil)
  rw [if_pos (by rfl)]
  go_simp
  refine (HSM.out _ _ _ hS13_13.1.out hA1).mono ?_; rintro e w1 ⟨rfl, b1⟩
  go_wp2_with fail
  refine hX.out _ _ (keep6 hS13_13 b1) (fun hS14_14 => ?_)
  clear hX X hS13_13 b1
  refine takeW (i := 15) (d := 31) (v := .bool true) rfl rfl (by kernel_rfl) (by kernel_rfl) (by kernel_rfl) (fun _ _ _ h => h) (by rfl) (fun w' hSw => by obtain ⟨x_, x0, x1, x2, x3, x4, x5⟩ := hSw; go_simp) hS14_14 ?_
  simp only [List.setIfInBounds_toArray, List.set_cons_zero, List.set_cons_succ]
  refine takeW (i := 16) (d := 0) (v := .bool true) rfl rfl (by kernel_rfl) (by kernel_rfl) (by kernel_rfl) (fun _ _ _ h => h) (by rfl) (fun w' hSw => by obtain ⟨x_, x0, x1, x2, x3, x4, x5⟩ := hSw; go_simp) hS14_14 ?_
  simp only [List.setIfInBounds_toArray, List.set_cons_zero]
  refine wpAnyH_done (by kernel_rfl) ?_ _
  have HEE := hS14_14.1
  clear hS14_14
  go_wp2_with fail
  go_ret
  exact ⟨rfl, Below.step HB3.out HEE.out⟩
end Go.Proofs.YtgdlpldngpoadaaGreatDoor

/- What a row asks behind a call whose arguments lead to no memory and which makes new memory at most. -/
namespace Go.Proofs.YtgdlpldngpoadaaGreatDoor
open Go.ChangeShapes Go.WideShapes Go.ChangeAt Go.RowKit Go.ChangeMaps

theorem post_bare {H : Type} {enc : TypeId × Value → H} {f : Func} {s : ChangeSpec} {fresh handsOn : Bool} {W W' : World} {args : Array Value} {v : Value} {ds gs : List (DataW H)}
    (hW : DataW.Whole enc Tryz.prog f.params.toList s.vars false W args.toList ds gs [])
    (hres : ∀ (b : Nat) (sp : Nat → Bool) (hd : Bool), DataW.TrodAll enc Tryz.prog W' b sp hd f.resultTypes.toList (v.resultList f.resultTypes.size) (s.fn H (ds ++ gs)).results [])
    (hargs : ∀ sp : Nat → Bool, DataW.TrodAll enc Tryz.prog W' 0 sp true f.params.toList args.toList (s.fn H (ds ++ gs)).args [])
    (hvars : ∀ sp : Nat → Bool, DataW.TrodVars enc Tryz.prog W' sp s.vars (s.fn H (ds ++ gs)).vars [])
    (hb : Below W.heap.size W W') :
    s.post enc Tryz.prog f false fresh handsOn false W args v W' := by
  refine ⟨ds, gs, [], [], [], [], hW, hres _ _ _, hargs _, hvars _, World.keptBut_mono (fun p hp => ?_) (hb.frame (fun _ => False)), fun h => ?_⟩
  · exact absurd hp (by simp)
  · exact absurd h (by simp)

end Go.Proofs.YtgdlpldngpoadaaGreatDoor

/- A program's tree as an argument: it is opened into memory's tree, no part of it greater than its bulk. -/
namespace Go.Proofs.YtgdlpldngpoadaaGreatDoor
open Go.ChangeShapes Go.WideShapes Go.ChangeAt Go.RowKit

theorem cells_node : Tryz.prog.cellsOf 25 = 6 := by kernel_rfl
theorem cells_int : Tryz.prog.cellsOf 3 = 1 := by kernel_rfl
theorem cells_int64 : Tryz.prog.cellsOf 2 = 1 := by kernel_rfl
theorem cells_string : Tryz.prog.cellsOf 9 = 1 := by kernel_rfl
theorem cells_nodes : Tryz.prog.cellsOf 22 = 1 := by kernel_rfl
theorem cells_strings : Tryz.prog.cellsOf 23 = 1 := by kernel_rfl
def I64 (a : Int) : Prop := -9223372036854775808 ≤ a ∧ a ≤ 9223372036854775807
theorem i64_of {a : Int} (h : (Lit.int .i64 a).wf = true) : I64 a := by
  have e1 : IntKind.i64.min = -9223372036854775808 := by decide
  have e2 : IntKind.i64.max = 9223372036854775807 := by decide
  simp [Lit.wf, e1, e2] at h
  exact h
theorem some_at {α : Type} {l : List α} {n : Nat} (h : l.length = n) (i : Nat) (hi : i < n) : ∃ y, l[i]? = some y := ⟨l[i], List.getElem?_eq_getElem (by omega)⟩
theorem spot_of {w : World} {a : Addr} {v : Value} (h : w.cell? a = some v) : a.spot = none := by
  unfold World.cell? at h
  split at h
  · split at h
    · exact absurd h (by simp)
    · rename_i hs
      simpa using hs
  · exact absurd h (by simp)
theorem add_plain (a : Addr) (h : a.spot = none) (n : Nat) : a.add n = ⟨a.block, a.off + n, none⟩ := by
  obtain ⟨b, o, s⟩ := a
  simp only at h
  subst h
  unfold Addr.add
  split
  · rename_i e; rw [e]; rfl
  · rfl

/-- No part of a tree is greater than B. -/
inductive NdOk (B : Nat) : Nd → Prop
  | mk (k : Int) (s : ByteArray) (n a : Int) (l : List Nd) (q : List ByteArray) (hk : I64 k) (hs : s.size ≤ B) (hn : I64 n) (ha : I64 a) (hl : l.length ≤ B) (hq : q.length ≤ B) (hqs : ∀ x, x ∈ q → x.size ≤ B) (hc : ∀ c, c ∈ l → NdOk B c) : NdOk B (.mk k s n a l q)
theorem NdOk.mono {B C : Nat} {t : Nd} (h : NdOk B t) (hle : B ≤ C) : NdOk C t := by
  induction h with
  | mk k s n a l q hk hs hn ha hl hq hqs _ ih => exact .mk k s n a l q hk (Nat.le_trans hs hle) hn ha (Nat.le_trans hl hle) (Nat.le_trans hq hle) (fun x hx => Nat.le_trans (hqs x hx) hle) ih
theorem NdOk.few {B : Nat} {t : Nd} (h : NdOk B t) : PFew B t := by
  induction h with
  | mk k s n a l q _ _ _ _ _ hq _ _ ih => exact .mk k s n a l q hq ih

section
variable {H : Type} {enc : TypeId × Value → H} {W : World} {base : Nat} {sp : Nat → Bool} {hd : Bool}
theorem bulk_mem : ∀ {l : List (DataW H)} {d : DataW H}, d ∈ l → Rows.uptoBulk d ≤ Rows.uptoBulkAll l
  | [], _, h => absurd h (by simp)
  | a :: l, d, h => by
    simp only [Rows.uptoBulkAll]
    rcases List.mem_cons.1 h with rfl | h
    · omega
    · have := bulk_mem h; omega
theorem bulk_pos (d : DataW H) : 1 ≤ Rows.uptoBulk d := by
  cases d with
  | lit x => cases x <;> simp [Rows.uptoBulk]
  | nil => simp [Rows.uptoBulk]
  | ptr d => simp [Rows.uptoBulk]
  | slice a b => simp [Rows.uptoBulk]
  | agg p => simp [Rows.uptoBulk]
  | iface t d => simp [Rows.uptoBulk]
  | map e => simp [Rows.uptoBulk]
  | held x => simp [Rows.uptoBulk]
theorem bulk_len : ∀ (l : List (DataW H)), l.length ≤ Rows.uptoBulkAll l
  | [] => Nat.zero_le _
  | a :: l => by
    simp only [Rows.uptoBulkAll, List.length_cons]
    have := bulk_pos a
    have := bulk_len l
    omega
theorem open_i64 {n : Nat} {v : Value} {y : DataW H × List MemPlace} (h : DataW.trod enc Tryz.prog W base sp hd n 3 [v] = some y) : ∃ a : Int, v = .int .i64 a ∧ I64 a := by
  obtain ⟨a, e, _, hw⟩ := DataW.trod_int Tryz.underlying3 h
  exact ⟨a, by simpa using e, i64_of hw⟩
theorem open_int64 {n : Nat} {v : Value} {y : DataW H × List MemPlace} (h : DataW.trod enc Tryz.prog W base sp hd n 2 [v] = some y) : ∃ a : Int, v = .int .i64 a ∧ I64 a := by
  obtain ⟨a, e, _, hw⟩ := DataW.trod_int Tryz.underlying2 h
  exact ⟨a, by simpa using e, i64_of hw⟩
theorem open_str {n : Nat} {v : Value} {y : DataW H × List MemPlace} (h : DataW.trod enc Tryz.prog W base sp hd n 9 [v] = some y) : ∃ s : ByteArray, v = .string s ∧ s.size ≤ Rows.uptoBulk y.1 := by
  obtain ⟨s, e, hy, _⟩ := DataW.trod_string Tryz.underlying9 h
  refine ⟨s, by simpa using e, ?_⟩
  rw [hy]
  simp only [Rows.uptoBulk]
  simp

set_option maxRecDepth 100000 in
theorem open_names {n : Nat} {v : Value} {y : DataW H × List MemPlace} (h : DataW.trod enc Tryz.prog W base sp hd n 23 [v] = some y) :
    ∃ l : List ByteArray, PAt W (fun _ => True) l v ∧ l.length ≤ Rows.uptoBulk y.1 ∧ ∀ x, x ∈ l → x.size ≤ Rows.uptoBulk y.1 := by
  rcases DataW.trod_slice Tryz.underlying23 h with ⟨e7, _⟩ | ⟨a, len, cap, elems, rest, m', hm, e7, hy, _, hlc, _, hel, hat, _⟩
  · have e7' : v = .slice none 0 0 := by simpa using e7
    subst e7'
    exact ⟨[], .zero _ _, Nat.zero_le _, fun x hx => absurd hx (by simp)⟩
  · have e7' : v = .slice (some a) len cap := by simpa using e7
    subst e7'
    have hb : Rows.uptoBulk y.1 = Rows.uptoBulkAll (elems.map (·.1)) + Rows.uptoBulkAll (rest.map (·.1)) + 1 := by rw [hy]; simp only [Rows.uptoBulk]
    have each : ∀ i, ∃ s : ByteArray, i < len → W.cell? (a.add i) = some (.string s) ∧ s.size ≤ Rows.uptoBulk y.1 := by
      intro i
      by_cases hi : i < len
      · have h5 := hat i hi
        rw [cells_string, List.getElem?_eq_getElem (by omega), Nat.mul_one] at h5
        obtain ⟨cs', hc, ht⟩ := Option.bind_eq_some_iff.1 h5
        obtain ⟨hlen, _, hget⟩ := World.cells?_some hc
        match cs', hlen with
        | [u], _ =>
          obtain ⟨s, rfl, hs⟩ := open_str ht
          refine ⟨s, fun _ => ⟨?_, ?_⟩⟩
          · have := hget 0 (by omega)
            simpa [Addr.add] using this
          · have : Rows.uptoBulk elems[i].1 ≤ Rows.uptoBulkAll (elems.map (·.1)) := bulk_mem (List.mem_map.2 ⟨elems[i], List.getElem_mem _, rfl⟩)
            omega
      · exact ⟨⟨#[]⟩, fun h => absurd h hi⟩
    obtain ⟨q, hq⟩ := Classical.axiomOfChoice each
    clear each hat
    by_cases h0 : len = 0
    · subst h0
      exact ⟨[], .nil _ _ _ _ (fun e => by simp at e), Nat.zero_le _, fun x hx => absurd hx (by simp)⟩
    · have hsp : a.spot = none := by
        have h8 := (hq 0 (by omega)).1
        have h10 := spot_of h8
        simpa [Addr.add] using h10
      obtain ⟨l, hl'⟩ : ∃ l : List ByteArray, l = (List.range len).map q := ⟨_, rfl⟩
      have hll : l.length = len := by rw [hl']; simp
      refine ⟨l, Or.inr ⟨fun e => by rw [e] at hll; exact h0 hll.symm, a.block, a.off, cap, ?_, by omega, trivial, fun i hi => ?_⟩, ?_, fun x hx => ?_⟩
      · have h := add_plain a hsp 0
        have ea : a = ⟨a.block, a.off, none⟩ := by simpa [Addr.add] using h
        rw [hll, ← ea]
      · have h6 := (hq i (by omega)).1
        rw [add_plain a hsp] at h6
        rw [h6]
        simp [hl']
      · have := bulk_len (elems.map (·.1))
        rw [List.length_map] at this
        omega
      · rw [hl'] at hx
        obtain ⟨i, hi, rfl⟩ := List.mem_map.1 hx
        exact (hq i (by simpa using hi)).2

set_option maxRecDepth 100000 in
theorem open_nd_at (n : Nat) : ∀ (cs : List Value) (x : DataW H × List MemPlace), DataW.trod enc Tryz.prog W base sp hd n 25 cs = some x → ∃ t, At W (fun _ => True) t cs.toArray ∧ NdOk (Rows.uptoBulk x.1) t := by
  induction n using Nat.strongRecOn with
  | ind n ih =>
    intro cs x h
    obtain ⟨xs, m, rfl, hx, hlen, hxl, hf⟩ := DataW.trod_struct Tryz.underlying25 h
    rw [cells_node] at hlen
    match cs, hlen with
    | [v0, v1, v2, v3, v4, v5], _ =>
      have hxl' : xs.length = 6 := hxl
      match xs, hxl' with
      | [y0, y1, y2, y3, y4, y5], _ =>
      have g0 := hf 0 _ rfl
      have g1 := hf 1 _ rfl
      have g2 := hf 2 _ rfl
      have g3 := hf 3 _ rfl
      have g4 := hf 4 _ rfl
      have g5 := hf 5 _ rfl
      have h0 : DataW.trod enc Tryz.prog W base sp hd m 3 (([v0, v1, v2, v3, v4, v5].drop 0).take (Tryz.prog.cellsOf 3)) = some y0 := g0
      have h1 : DataW.trod enc Tryz.prog W base sp hd m 9 (([v0, v1, v2, v3, v4, v5].drop 1).take (Tryz.prog.cellsOf 9)) = some y1 := g1
      have h2 : DataW.trod enc Tryz.prog W base sp hd m 2 (([v0, v1, v2, v3, v4, v5].drop 2).take (Tryz.prog.cellsOf 2)) = some y2 := g2
      have h3 : DataW.trod enc Tryz.prog W base sp hd m 3 (([v0, v1, v2, v3, v4, v5].drop 3).take (Tryz.prog.cellsOf 3)) = some y3 := g3
      have h4 : DataW.trod enc Tryz.prog W base sp hd m 22 (([v0, v1, v2, v3, v4, v5].drop 4).take (Tryz.prog.cellsOf 22)) = some y4 := g4
      have h5 : DataW.trod enc Tryz.prog W base sp hd m 23 (([v0, v1, v2, v3, v4, v5].drop 5).take (Tryz.prog.cellsOf 23)) = some y5 := g5
      clear g0 g1 g2 g3 g4 g5 hf
      rw [cells_int] at h0 h3
      rw [cells_string] at h1
      rw [cells_int64] at h2
      rw [cells_nodes] at h4
      rw [cells_strings] at h5
      obtain ⟨k, rfl, ik⟩ := open_i64 h0
      obtain ⟨s, rfl, is⟩ := open_str h1
      obtain ⟨nn, rfl, inn⟩ := open_int64 h2
      obtain ⟨a, rfl, ia⟩ := open_i64 h3
      obtain ⟨p, hp, hpl, hps⟩ := open_names h5
      have hb : Rows.uptoBulk x.1 = Rows.uptoBulkAll [y0.1, y1.1, y2.1, y3.1, y4.1, y5.1] + 1 := by rw [hx]; simp only [Rows.uptoBulk, List.map_cons, List.map_nil]
      have hb1 : Rows.uptoBulk y1.1 ≤ Rows.uptoBulk x.1 := by rw [hb]; have := bulk_mem (l := [y0.1, y1.1, y2.1, y3.1, y4.1, y5.1]) (d := y1.1) (by simp); omega
      have hb4 : Rows.uptoBulk y4.1 ≤ Rows.uptoBulk x.1 := by rw [hb]; have := bulk_mem (l := [y0.1, y1.1, y2.1, y3.1, y4.1, y5.1]) (d := y4.1) (by simp); omega
      have hb5 : Rows.uptoBulk y5.1 ≤ Rows.uptoBulk x.1 := by rw [hb]; have := bulk_mem (l := [y0.1, y1.1, y2.1, y3.1, y4.1, y5.1]) (d := y5.1) (by simp); omega
      have fin : ∀ (l : List Nd), l.length ≤ Rows.uptoBulk x.1 → (∀ c, c ∈ l → NdOk (Rows.uptoBulk x.1) c) → NdOk (Rows.uptoBulk x.1) (.mk k s nn a l p) := fun l hl hc =>
        .mk k s nn a l p ik (Nat.le_trans is hb1) inn ia hl (Nat.le_trans hpl hb5) (fun x hx => Nat.le_trans (hps x hx) hb5) hc
      clear h0 h1 h2 h3 h5 hb hb1 hb5 hx hps hpl is ik inn ia
      rcases DataW.trod_slice Tryz.underlying22 h4 with ⟨e7, _⟩ | ⟨ad, len, cap, elems, rest, m', hm, e7, hy, _, hl, _, hel, hat, _⟩
      · have e7' : v4 = .slice none 0 0 := by simpa using e7
        subst e7'
        exact ⟨_, .leaf k s nn a p none 0 _ hp, fin [] (Nat.zero_le _) (fun c hc => absurd hc (by simp))⟩
      · have e7' : v4 = .slice (some ad) len cap := by simpa using e7
        subst e7'
        have hby : Rows.uptoBulk y4.1 = Rows.uptoBulkAll (elems.map (·.1)) + Rows.uptoBulkAll (rest.map (·.1)) + 1 := by rw [hy]; simp only [Rows.uptoBulk]
        have each : ∀ i, ∃ q : Nd × Array Value, i < len → (∀ j, j < 6 → W.cell? ((ad.add (i * 6)).add j) = q.2[j]?) ∧ At W (fun _ => True) q.1 q.2 ∧ NdOk (Rows.uptoBulk x.1) q.1 := by
          intro i
          by_cases hi : i < len
          · have h5 := hat i hi
            rw [cells_node, List.getElem?_eq_getElem (by omega)] at h5
            obtain ⟨cs', hc, ht⟩ := Option.bind_eq_some_iff.1 h5
            obtain ⟨t, hA, hW⟩ := ih m' (by omega) cs' _ ht
            obtain ⟨_, _, hget⟩ := World.cells?_some hc
            have hbe : Rows.uptoBulk elems[i].1 ≤ Rows.uptoBulkAll (elems.map (·.1)) := bulk_mem (List.mem_map.2 ⟨elems[i], List.getElem_mem _, rfl⟩)
            exact ⟨(t, cs'.toArray), fun _ => ⟨fun j hj => by rw [hget j hj]; simp, hA, hW.mono (by omega)⟩⟩
          · exact ⟨(Nd.mk 0 ⟨#[]⟩ 0 0 [] [], #[]), fun h => absurd h hi⟩
        obtain ⟨q, hq⟩ := Classical.axiomOfChoice each
        clear each hat ih
        by_cases h0 : len = 0
        · subst h0
          exact ⟨_, .leaf k s nn a p (some ad) cap _ hp, fin [] (Nat.zero_le _) (fun c hc => absurd hc (by simp))⟩
        · have hsp : ad.spot = none := by
            obtain ⟨h6, h7, _⟩ := hq 0 (by omega)
            have h8 := h6 0 (by omega)
            obtain ⟨sl, sp', h9, _⟩ := h7.open
            rw [h9] at h8
            have h10 := spot_of h8
            simpa [Addr.add] using h10
          obtain ⟨l, hl'⟩ : ∃ l : List Nd, l = (List.range len).map fun i => (q i).1 := ⟨_, rfl⟩
          have hll : l.length = len := by rw [hl']; simp
          have hget : ∀ i (h : i < l.length), l[i] = (q i).1 := fun i h => by simp [hl']
          have hne : l ≠ [] := fun e => by rw [e] at hll; exact h0 hll.symm
          refine ⟨.mk k s nn a l p, ?_, fin l ?_ (fun c hc => ?_)⟩
          · have hn := At.node (w := W) (S := fun _ => True) k s nn a l p ad.block ad.off cap v5 (fun i => (q i).2) hne (by omega) trivial hp (fun i h j hj => by
              have h6 := (hq i (by omega)).1 j hj
              rw [add_plain ad hsp, add_plain _ rfl] at h6
              exact h6) (fun i h => by rw [hget i h]; exact (hq i (by omega)).2.1)
            rw [hll] at hn
            have ea : ad = ⟨ad.block, ad.off, none⟩ := by
              have h := add_plain ad hsp 0
              simpa [Addr.add] using h
            rw [← ea] at hn
            exact hn
          · have := bulk_len (elems.map (·.1))
            rw [List.length_map] at this
            omega
          · rw [hl'] at hc
            obtain ⟨i, hi, rfl⟩ := List.mem_map.1 hc
            exact (hq i (by simpa using hi)).2.2
end

/-- What a row asks behind a call whose arguments lead to memory. -/
theorem post_reads {H : Type} {enc : TypeId × Value → H} {f : Func} {s : ChangeSpec} {fresh handsOn : Bool} {W W' : World} {args : Array Value} {v : Value} {ds gs : List (DataW H)} {before : List MemPlace}
    (hW : DataW.Whole enc Tryz.prog f.params.toList s.vars false W args.toList ds gs before)
    (hres : ∀ (b : Nat) (sp : Nat → Bool) (hd : Bool), DataW.TrodAll enc Tryz.prog W' b sp hd f.resultTypes.toList (v.resultList f.resultTypes.size) (s.fn H (ds ++ gs)).results [])
    (hargs : ∀ sp : Nat → Bool, (∀ p ∈ before, sp p.block = true) → DataW.TrodAll enc Tryz.prog W' 0 sp true f.params.toList args.toList (s.fn H (ds ++ gs)).args before)
    (hvars : ∀ sp : Nat → Bool, DataW.TrodVars enc Tryz.prog W' sp s.vars (s.fn H (ds ++ gs)).vars [])
    (hb : Below W.heap.size W W') :
    s.post enc Tryz.prog f false fresh handsOn false W args v W' := by
  have hold : ∀ p ∈ before, (fun b => decide (b < W.heap.size)) p.block = true := fun p hp => by simpa using hW.lt p hp
  refine ⟨ds, gs, before, [], before, [], hW, hres _ _ _, hargs _ hold, hvars _, World.keptBut_mono (fun p hp => ⟨hp, Or.inr (by simpa using hp)⟩) (hb.frame (· ∈ before)), fun h => ?_⟩
  exact absurd h (by simp)
end Go.Proofs.YtgdlpldngpoadaaGreatDoor
