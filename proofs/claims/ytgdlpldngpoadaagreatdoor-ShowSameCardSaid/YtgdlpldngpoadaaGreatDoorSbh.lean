/- Merged by program: SyP, ShI, ShJ, NdParts. -/
import Derived.Lib.SliceRun
import Derived.Test.YtgdlpldngpoadaaGreatDoorSbe
import Derived.Test.YtgdlpldngpoadaaGreatDoorSal
import Derived.Test.YtgdlpldngpoadaaGreatDoorSbf
import Derived.Test.YtgdlpldngpoadaaGreatDoorSbg
import Derived.Test.YtgdlpldngpoadaaGreatDoorSab
import Derived.Test.YtgdlpldngpoadaaGreatDoorSaa
/- The program's reading of x = (y (z + 1)). -/
namespace Go.Proofs.YtgdlpldngpoadaaGreatDoor
open Go.RowKit

theorem parse_one (w : World) : Calls Tryz.prog 196 #[.string ⟨#[49]⟩] w fun e w' => e = .returned (.tuple #[.int .i64 1000000, .int .i64 1, .int .i64 0]) ∧ Below w.heap.size w w' := by
  refine (T3.parse_any ⟨#[49]⟩ w (by decide)).mono ?_
  rintro e w' ⟨rfl, rfl⟩
  have h : T3.parseAns [49] = .tuple #[.int .i64 1000000, .int .i64 1, .int .i64 0] := by kernel_rfl
  exact ⟨congrArg Ending.returned h, Below.refl _ _⟩
theorem x_reads (w : World) : Calls Tryz.prog 17 #[.string xText] w fun e w' => ∃ cs, e = .returned (.tuple #[.agg cs, .int .i64 0, .int .i64 0]) ∧ At w' (Up w.heap.size) xTree cs ∧ Below w.heap.size w w' := x_read parse_one w
end Go.Proofs.YtgdlpldngpoadaaGreatDoor

/- The program's show and Expr at the tree of x=y z+1. -/
namespace Go.Proofs.YtgdlpldngpoadaaGreatDoor
open Go.RowKit

theorem live_low : Low 5 liveT := by simp [Low, liveT, ndX, ndJ, ndY, ndP, ndZ, nd1, Nd.kids, Nd.p]
theorem xTree_low : Low 5 xTree := by simp [Low, xTree, Nd.kids, Nd.p]
theorem live_cnt : cntN 5 liveT = 7 := by simp [cntN, sumF, liveT, ndX, ndJ, ndY, ndP, ndZ, nd1, Nd.kids]
theorem live_deep : deepN 5 liveT = 4 := by simp [deepN, maxF, liveT, ndX, ndJ, ndY, ndP, ndZ, nd1, Nd.kids]
theorem live_same : sameF 5 false xTree liveT = true := by simp [sameF, headB, allB, namesB_refl, xTree, liveT, ndX, ndJ, ndY, ndP, ndZ, nd1, Nd.kids, Nd.p, Nd.k, Nd.s, Nd.n]

set_option maxRecDepth 100000 in
theorem show_idle (a b : Addr) (w : World) :
    CallsD Tryz.prog 27 #[.pointer (some a), .pointer (some b)] .returning w fun e u' w' => e = .returned (.tuple #[]) ∧ u' = .returning ∧ w' = w := by
  refine callsD_of_wpS Tryz.func27 rfl fun c₀ cs hu => ?_
  apply wpS_seq
  apply wpS_region
  simp [wpOpsS, go_sem, recoverD, hu, Tryz.ntmps27, Exit.thenS]
  refine wpS_of_wp ?_
  go_wp2_with fail
  cases c₀
  simp_all [bodyPostS, results, Tryz.results27]

/-- Show's variables: the tree, the two results. -/
structure R4 (w V : World) (cs : Array Value) (s : ByteArray) : Prop where
  nx : Box V w.heap.size cs
  sx : V.heap[w.heap.size + 1]? = some (.cells #[.string s] 9 (0, 0))
  ex : V.heap[w.heap.size + 1 + 1]? = some (.cells #[.int .i64 0] 28 (0, 0))
  below : Below w.heap.size w V
theorem R4.lt {w V : World} {cs : Array Value} {s : ByteArray} (h : R4 w V cs s) : w.heap.size + 3 ≤ V.heap.size := (Array.getElem?_eq_some_iff.1 h.ex).1
theorem R4.after {w V W : World} {cs : Array Value} {s : ByteArray} (h : R4 w V cs s) (hb : Below V.heap.size V W) : R4 w W cs s := by
  have hl := h.lt
  exact ⟨h.nx.after hb, by rw [hb.block _ (by omega)]; exact h.sx, by rw [hb.block _ (by omega)]; exact h.ex, Below.step h.below hb⟩
theorem r4_new (w : World) (cs : Array Value) : ∃ W, W = ((w.alloc (.cells cs 25)).alloc (.cells #[.string ⟨#[]⟩] 9)).alloc (.cells #[.int .i64 0] 28) ∧ Hid (R4 w W cs ⟨#[]⟩) := by
  have s1 : (w.alloc (.cells cs 25)).heap.size = w.heap.size + 1 := World.size_alloc _ _
  have s2 : ((w.alloc (.cells cs 25)).alloc (.cells #[.string ⟨#[]⟩] 9)).heap.size = w.heap.size + 1 + 1 := by rw [World.size_alloc, s1]
  have b1 := below_new w (.cells cs 25)
  have b2 := below_new (w.alloc (.cells cs 25)) (.cells #[.string ⟨#[]⟩] 9)
  have b3 := below_new ((w.alloc (.cells cs 25)).alloc (.cells #[.string ⟨#[]⟩] 9)) (.cells #[.int .i64 0] 28)
  have h2 := heap_alloc_last (w.alloc (.cells cs 25)) (.cells #[.string ⟨#[]⟩] 9)
  have h3 := heap_alloc_last ((w.alloc (.cells cs 25)).alloc (.cells #[.string ⟨#[]⟩] 9)) (.cells #[.int .i64 0] 28)
  rw [s1] at h2
  rw [s2] at h3
  exact ⟨_, rfl, Lib.hid ⟨((box_new w cs).after b2).after b3, (b3.block (w.heap.size + 1) (by omega)).trans h2, h3, Below.step (Below.step b1 b2) b3⟩⟩
theorem R4.put {w V : World} {cs : Array Value} {s : ByteArray} (h : R4 w V cs s) (r : ByteArray) : R4 w (V.setCell ⟨w.heap.size + 1, 0, none⟩ (.string r)) cs r := by
  have hl := h.lt
  have b1 := bt_set V (w.heap.size + 1) 0 (.string r)
  exact ⟨h.nx.bt b1 (by omega), setCell_one _ _ _ _ h.sx _, by rw [b1.block _ (by omega) (by omega)]; exact h.ex, h.below.setCell (p := ⟨w.heap.size + 1, 0, none⟩) (by show w.heap.size ≤ w.heap.size + 1; omega) _⟩
theorem R4.pute {w V : World} {cs : Array Value} {s : ByteArray} (h : R4 w V cs s) : R4 w (V.setCell ⟨w.heap.size + 1 + 1, 0, none⟩ (.int .i64 0)) cs s := by
  have hl := h.lt
  have b1 := bt_set V (w.heap.size + 1 + 1) 0 (.int .i64 0)
  exact ⟨h.nx.bt b1 (by omega), by rw [b1.block _ (by omega) (by omega)]; exact h.sx, setCell_one _ _ _ _ h.ex _, h.below.setCell (p := ⟨w.heap.size + 1 + 1, 0, none⟩) (by show w.heap.size ≤ w.heap.size + 1 + 1; omega) _⟩

set_option maxRecDepth 100000 in
set_option maxHeartbeats 2000000 in
theorem zshow (S : Nat → Prop) (cs : Array Value) (w : World) (hA : At w S liveT cs) :
    Calls Tryz.prog 15 #[.agg cs, .func (.func 16) #[] #[], .func (.func 17) #[] #[]] w fun e w' => e = .returned (.tuple #[.string xText, .int .i64 0]) ∧ Below w.heap.size w w' := by
  have HI := info_nd
  have HCt := Lib.hid (fun V (hb : Below w.heap.size w V) => by have h := zcount 5 liveT cs S V (hA.after hb) live_low (by rw [live_cnt]; omega); rw [live_cnt] at h; exact h)
  have HDp := Lib.hid (fun V (hb : Below w.heap.size w V) => by have h := zdeep 5 liveT cs S V (hA.after hb) live_low (by rw [live_deep]; omega); rw [live_deep] at h; exact h)
  have HWr := Lib.hid (fun V (hb : Below w.heap.size w V) => x_writes S cs V (hA.after hb))
  have HSm := Lib.hid (fun V (hb : Below w.heap.size w V) B ds (h : At V (Up B) xTree ds) => by have h := zsame 5 xTree liveT ds cs (Up B) S V h (hA.after hb) xTree_low; rw [live_same] at h; exact h)
  obtain ⟨x, c, y, d, hcs, _, _⟩ := hA.opens
  rw [hcs] at HCt HDp HWr HSm ⊢
  clear hA hcs
  obtain ⟨t, ht⟩ : ∃ t, t = liveT := ⟨_, rfl⟩
  rw [← ht] at HCt HDp HWr HSm ⊢
  clear ht
  obtain ⟨W, hW, HR⟩ := r4_new w (ndC t.k t.s t.n t.a (.slice x t.kids.length c) (.slice y t.p.length d))
  go_enter_defers Tryz.func15, Tryz.ntmps15
  go_upto_region 1 with (fail)
  change Code.wp _ _ _ _ (((w.alloc (.cells (ndC t.k t.s t.n t.a (.slice x t.kids.length c) (.slice y t.p.length d)) 25)).alloc (.cells #[.string ⟨#[]⟩] 9)).alloc (.cells #[.int .i64 0] 28))
  rw [← hW]
  clear hW
  obtain ⟨c0, c1, c2, c3, c4, c5⟩ := six_nd HR.out.nx.six
  go_wp2_with fail
  refine (HCt.out _ HR.out.below).mono ?_
  rintro e w1 ⟨rfl, b1⟩
  have HR1 := Lib.hid (HR.out.after b1)
  clear b1 c0 c1 c2 c3 c4 c5
  obtain ⟨c0, c1, c2, c3, c4, c5⟩ := six_nd HR1.out.nx.six
  go_wp2_with fail
  refine (HDp.out _ HR1.out.below).mono ?_
  rintro e w2 ⟨rfl, b2⟩
  have HR2 := Lib.hid (HR1.out.after b2)
  clear b2 c0 c1 c2 c3 c4 c5
  obtain ⟨c0, c1, c2, c3, c4, c5⟩ := six_nd HR2.out.nx.six
  go_wp2_with fail
  refine (HWr.out _ HR2.out.below).mono ?_
  rintro e w3 ⟨rfl, b3⟩
  have HR3 := Lib.hid (HR2.out.after b3)
  clear b3 c0 c1 c2 c3 c4 c5
  have a1 : w3.cell? ⟨w.heap.size + 1, 0, none⟩ = some (.string ⟨#[]⟩) := cell_of_row _ _ 0 _ _ _ HR3.out.sx
  have z1 : w3.frozen? ⟨w.heap.size + 1, 0, none⟩ = false := frozen_of_row _ _ 0 _ _ HR3.out.sx
  go_upto_region 5 with (fail)
  obtain ⟨V, hV, HV⟩ : ∃ V, V = w3.setCell ⟨w.heap.size + 1, 0, none⟩ (.string xText) ∧ Hid (R4 w V (ndC t.k t.s t.n t.a (.slice x t.kids.length c) (.slice y t.p.length d)) xText) := ⟨_, rfl, Lib.hid (HR3.out.put _)⟩
  rw [← hV]
  clear hV a1 z1
  have a1 : V.cell? ⟨w.heap.size + 1, 0, none⟩ = some (.string xText) := cell_of_row _ _ 0 _ _ _ HV.out.sx
  go_wp2_with fail
  refine (x_reads _).mono ?_
  rintro e w4 ⟨ds, rfl, hD, b4⟩
  obtain ⟨xa, xc, ya, yc, hds, _⟩ := hD.opens
  subst hds
  have HD := Lib.hid hD
  have HV4 := Lib.hid (HV.out.after b4)
  clear hD b4 a1
  obtain ⟨q, hq⟩ : ∃ q, q = xTree := ⟨_, rfl⟩
  rw [← hq] at HD HSm ⊢
  clear hq
  go_upto_region 6 with (refine wpList_store_row rfl 25 (.tmp 8) (.tmp 28) rfl w4.heap.size (ndC q.k q.s q.n q.a (.slice xa q.kids.length xc) (.slice ya q.p.length yc)) rfl rfl 25 zeroN (heap_alloc_last _ _) HI rfl (nd_one _ _ _ _ _ _ _ _ _ _) ?_)
  obtain ⟨W5, hW5, X5, B5, hs5⟩ := nd_boxed w4 zeroN (ndC q.k q.s q.n q.a (.slice xa q.kids.length xc) (.slice ya q.p.length yc))
  change Code.wp _ _ _ _ ((w4.alloc (Obj.cells zeroN 25)).setRow w4.heap.size (ndC q.k q.s q.n q.a (.slice xa q.kids.length xc) (.slice ya q.p.length yc)))
  rw [← hW5]
  clear hW5
  have HV5 := Lib.hid (HV4.out.after B5.out)
  have HD5 := Lib.hid (HD.out.after B5.out)
  obtain ⟨c0, c1, c2, c3, c4, c5⟩ := six_nd HV5.out.nx.six
  obtain ⟨d0, d1, d2, d3, d4, d5⟩ := six_nd X5.out.six
  go_wp2_with fail
  refine (HSm.out _ HV5.out.below _ _ HD5.out).mono ?_
  rintro e w6 ⟨rfl, b6⟩
  have HV6 := Lib.hid (HV5.out.after b6)
  clear b6 c0 c1 c2 c3 c4 c5 d0 d1 d2 d3 d4 d5
  have a1 : w6.cell? ⟨w.heap.size + 1, 0, none⟩ = some (.string xText) := cell_of_row _ _ 0 _ _ _ HV6.out.sx
  have z1 : w6.frozen? ⟨w.heap.size + 1, 0, none⟩ = false := frozen_of_row _ _ 0 _ _ HV6.out.sx
  have a2 : w6.cell? ⟨w.heap.size + 1 + 1, 0, none⟩ = some (.int .i64 0) := cell_of_row _ _ 0 _ _ _ HV6.out.ex
  have z2 : w6.frozen? ⟨w.heap.size + 1 + 1, 0, none⟩ = false := frozen_of_row _ _ 0 _ _ HV6.out.ex
  go_wp2_with fail
  obtain ⟨Z, hZ, HZ⟩ : ∃ Z, Z = (w6.setCell ⟨w.heap.size + 1, 0, none⟩ (.string xText)).setCell ⟨w.heap.size + 1 + 1, 0, none⟩ (.int .i64 0) ∧ Hid (R4 w Z (ndC t.k t.s t.n t.a (.slice x t.kids.length c) (.slice y t.p.length d)) xText) := ⟨_, rfl, Lib.hid (HV6.out.put _).pute⟩
  rw [← hZ]
  clear hZ a1 z1 a2 z2
  refine leaves_cons (f := 27) (args := #[.pointer (some ⟨w.heap.size + 1, 0, none⟩), .pointer (some ⟨w.heap.size + 1 + 1, 0, none⟩)]) (by simp) (by simp [go_sem]) ?_
  refine (show_idle ⟨w.heap.size + 1, 0, none⟩ ⟨w.heap.size + 1 + 1, 0, none⟩ Z).mono ?_
  rintro e u' w'' ⟨rfl, rfl, rfl⟩
  have eA : w''.cell? ⟨w.heap.size + 1, 0, none⟩ = some (.string xText) := cell_of_row _ _ 0 _ _ _ HZ.out.sx
  have eE : w''.cell? ⟨w.heap.size + 1 + 1, 0, none⟩ = some (.int .i64 0) := cell_of_row _ _ 0 _ _ _ HZ.out.ex
  refine ⟨.tuple #[.string xText, .int .i64 0], ?_, ?_⟩
  · simp [results, Tryz.results15, go_sem, eA, eE]
  · exact ⟨rfl, HZ.out.below⟩

set_option maxRecDepth 100000 in
theorem zexpr (S : Nat → Prop) (cs : Array Value) (w : World) (hA : At w S liveT cs) :
    Calls Tryz.prog 7 #[.agg cs] w fun e w' => e = .returned (.tuple #[.string xText, .int .i64 0]) ∧ Below w.heap.size w w' := by
  have HS := Lib.hid (fun V (hb : Below w.heap.size w V) => zshow S cs V (hA.after hb))
  obtain ⟨x, c, y, d, hcs, _, _⟩ := hA.opens
  rw [hcs] at HS ⊢
  clear hA hcs
  obtain ⟨t, ht⟩ : ∃ t, t = liveT := ⟨_, rfl⟩
  rw [← ht] at HS ⊢
  clear ht
  obtain ⟨W, hW, hX, hB, _⟩ := nd_box w (ndC t.k t.s t.n t.a (.slice x t.kids.length c) (.slice y t.p.length d))
  go_enter Tryz.func7, Tryz.ntmps7
  go_upto_region 1 with (fail)
  change Code.wp _ _ _ _ (w.alloc (Obj.cells (ndC t.k t.s t.n t.a (.slice x t.kids.length c) (.slice y t.p.length d)) 25))
  rw [← hW]
  clear hW
  obtain ⟨c0, c1, c2, c3, c4, c5⟩ := six_nd hX.out.six
  go_wp2_with fail
  refine (HS.out _ hB.out).mono ?_
  rintro e w1 ⟨rfl, b1⟩
  go_wp2_with fail
  refine bodyPost_ret (v := .tuple #[.string xText, .int .i64 0]) ?_ rfl ?_
  · simp [results, Tryz.results7, go_sem]
  · exact ⟨rfl, Below.step hB.out b1⟩
end Go.Proofs.YtgdlpldngpoadaaGreatDoor

/- The program's slices.Clone: of texts, of trees. -/
namespace Go.Proofs.YtgdlpldngpoadaaGreatDoor
open Go.RowKit

set_option maxRecDepth 100000 in
set_option maxHeartbeats 1000000 in
theorem clone_strs (l : List ByteArray) (v : Value) (S : Nat → Prop) (w : World) (hl : PAt w S l v) (hf : l.length ≤ 8796093022207) :
    Calls Tryz.prog 22 #[v] w fun e w' => ∃ v', e = .returned v' ∧ PAt w' (Up w.heap.size) l v' ∧ Below w.heap.size w w' := by
  have q22 : ∀ (w : World) (a : Option Addr) (n c n' c' : Nat), (binOp .eql 23 (.slice a n c) (.slice none n' c')).run Tryz.prog w = .ok (.bool a.isNone) w := fun w a n c n' c' => Lib.run_eql_slice_nil w _ _ a n c n' c' Tryz.underlying23
  obtain ⟨a, c, rfl⟩ := hl.shape
  cases a with
  | none =>
    have h : l = [] ∧ c = 0 := by
      rcases hl with ⟨rfl, a', c', e, hac⟩ | ⟨hl, b', off', c', e, _⟩
      · simp only [Value.slice.injEq] at e
        obtain ⟨e1, _, e3⟩ := e
        exact ⟨rfl, by rw [e3]; exact hac e1.symm⟩
      · simp at e
    obtain ⟨rfl, rfl⟩ := h
    clear hl hf
    simp only [List.length_nil]
    go_enter Tryz.func22, Tryz.ntmps22
    go_wp2_with fail
    go_ret
    exact ⟨_, rfl, PAt.zero _ _, Below.refl _ _⟩
  | some ad =>
    obtain ⟨W, hW, hO, hB⟩ : ∃ W, W = w.alloc (.cells #[] 9) ∧ Hid (W.ownsRow w.heap.size 9 1 (.slice (some ⟨w.heap.size, 0, none⟩) 0 0) 0 (([] : List ByteArray).map Value.string)) ∧ Hid (Below w.heap.size w W) :=
      ⟨_, rfl, Lib.hid (World.ownsRow_lit (base := w.heap.size) (e := 9) (size := 1) w #[] 0 (Nat.le_refl _) (by simp only [maxLen]; omega) (by simp)), Lib.hid (below_new w _)⟩
    have HP := Lib.hid (hl.after hB.out)
    have HF := Lib.hid hf
    clear hl hf
    go_enter Tryz.func22, Tryz.ntmps22
    go_wp2_with (at_builtin; change wpList _ _ _ _ _ (w.alloc (.cells #[] 9)); rw [← hW]; clear hW; refine wpList_plain rfl fun K hK => ?_; refine op_append_strs _ _ rfl 7 rfl w.heap.size W (.slice (some ⟨w.heap.size, 0, none⟩) 0 0) 0 [] (.slice (some ad) l.length c) l S rfl hO.out rfl HP.out (by have := HF.out; omega) hB.out.size ?_; intro p5 c5 w2 ho hg hwh; refine hK _ _ ?_; clear hK K)
    rw [Nat.zero_add] at ho
    rw [List.nil_append] at ho
    have HO2 := Lib.hid ho
    have HG := Lib.hid hg
    clear ho hg hwh
    go_wp2_with fail
    go_ret
    exact ⟨_, rfl, (own_pAt HO2.out).weakS fun b hb => hb.1, hB.out.grown HG.out hB.out.size (fun j hj => by have := (hO.out.lt j hj).1; omega)⟩

theorem flat_read {w : World} {b off n : Nat} {cs : Nat → Array Value} (h6 : ∀ i, i < n → Six w b (off + i * 6) (cs i)) (hs : ∀ i, i < n → (cs i).size = 6) : ∀ j u, (flatC cs n)[j]? = some u → w.cell? ((⟨b, off, none⟩ : Addr).add j) = some u := by
  intro j u hj
  have hl : j < n * 6 := by have := (List.getElem?_eq_some_iff.1 hj).1; rwa [flatC_len cs n hs] at this
  have hi : j / 6 < n := by omega
  have hr : j % 6 < 6 := by omega
  have e : j / 6 * 6 + j % 6 = j := by omega
  have h1 := flatC_get cs n hs (j / 6) hi (j % 6) hr
  rw [e, hj] at h1
  have h2 := h6 (j / 6) hi (j % 6) hr
  rw [← h1, show off + j / 6 * 6 + j % 6 = off + j from by omega] at h2
  rw [Addr.add_mid]
  exact h2
theorem flat_one {n : Nat} {cs : Nat → Array Value} (h : ∀ i, i < n → ∀ u ∈ (cs i).toList, u.oneCell' = true) : ∀ u ∈ flatC cs n, u.oneCell' = true := by
  intro u hu
  unfold flatC at hu
  obtain ⟨j, hj, hm⟩ := List.mem_flatMap.1 hu
  exact h j (List.mem_range.1 hj) u hm
theorem At.one {w : World} {S : Nat → Prop} {t : Nd} {cs : Array Value} (h : At w S t cs) : ∀ u ∈ cs.toList, u.oneCell' = true := by
  obtain ⟨x, c, y, d, rfl, _, _⟩ := h.opens
  intro u hu
  exact (Array.all_eq_true_iff_forall_mem.1 (nd_one _ _ _ _ _ _ _ _ _ _)) u (by simpa using hu)

set_option maxRecDepth 100000 in
set_option maxHeartbeats 1000000 in
theorem clone_nds (l : List Nd) (v : Value) (S : Nat → Prop) (w : World) (hl : SlAt w S l v) (hf : l.length ≤ 1000000) :
    ∃ cs : Nat → Array Value, (∀ i (h : i < l.length), At w S l[i] (cs i)) ∧ ∀ V, Below w.heap.size w V → Calls Tryz.prog 23 #[v] V fun e w' => ∃ v' : Value, e = .returned v' ∧ w'.ownsRow V.heap.size 25 6 v' l.length (flatC cs l.length) ∧ Below V.heap.size V w' := by
  have q22 : ∀ (w : World) (a : Option Addr) (n c n' c' : Nat), (binOp .eql 22 (.slice a n c) (.slice none n' c')).run Tryz.prog w = .ok (.bool a.isNone) w := fun w a n c n' c' => Lib.run_eql_slice_nil w _ _ a n c n' c' Tryz.underlying22
  obtain ⟨i0, hi0, hz0, hz1, hz2⟩ := info_parts info_nd3
  obtain ⟨a, c, rfl⟩ := hl.shape
  cases a with
  | none =>
    have h : l = [] := by
      rcases hl with ⟨rfl, _⟩ | ⟨hl, b', off', c', cs, e, _⟩
      · rfl
      · simp at e
    subst h
    clear hl hf
    refine ⟨fun _ => zeroN, fun i h => absurd h (by simp), fun V _ => ?_⟩
    simp only [List.length_nil]
    go_enter Tryz.func23, Tryz.ntmps23
    go_wp2_with fail
    go_ret
    exact ⟨_, rfl, World.ownsRow_nil _ _ _ _, Below.refl _ _⟩
  | some ad =>
    obtain ⟨b, off, cs, hb, h6, hat⟩ : ∃ (b off : Nat) (cs : Nat → Array Value), (l = [] ∨ ad = ⟨b, off, none⟩) ∧ (∀ i, i < l.length → Six w b (off + i * 6) (cs i)) ∧ (∀ i (h : i < l.length), At w S l[i] (cs i)) := by
      rcases hl with ⟨rfl, _⟩ | ⟨hl, b', off', c', cs, e, hc, hB, h6, hk⟩
      · exact ⟨0, 0, fun _ => zeroN, Or.inl rfl, fun i h => absurd h (by simp), fun i h => absurd h (by simp)⟩
      · simp only [Value.slice.injEq, Option.some.injEq] at e
        exact ⟨b', off', cs, Or.inr e.1, h6, hk⟩
    refine ⟨cs, hat, fun V hV => ?_⟩
    have hsz : ∀ i, i < l.length → (cs i).size = 6 := fun i h => (hat i h).size
    obtain ⟨W, hW, hO, hB⟩ : ∃ W, W = V.alloc (.cells #[] 25) ∧ Hid (W.ownsRow V.heap.size 25 6 (.slice (some ⟨V.heap.size, 0, none⟩) 0 0) 0 []) ∧ Hid (Below V.heap.size V W) :=
      ⟨_, rfl, Lib.hid (World.ownsRow_lit (base := V.heap.size) (e := 25) (size := 6) V #[] 0 (Nat.le_refl _) (by simp only [maxLen]; omega) (by simp)), Lib.hid (below_new V _)⟩
    have hlen := flatC_len cs l.length hsz
    have hread : ∀ j u, (flatC cs l.length)[j]? = some u → W.cell? (ad.add j) = some u := by
      intro j u hj
      rcases hb with rfl | rfl
      · simp [flatC] at hj
      · exact flat_read (fun i hi => (h6 i hi).after (hsz i hi) (Below.step hV hB.out)) hsz j u hj
    have hone : ∀ u ∈ flatC cs l.length, u.oneCell' = true := flat_one fun i hi => (hat i hi).one
    have key : ∀ (n : Nat) (xs : List Value), n ≤ 1000000 → xs.length = n * 6 → (∀ j u, xs[j]? = some u → W.cell? (ad.add j) = some u) → (∀ u ∈ xs, u.oneCell' = true) →
        Calls Tryz.prog 23 #[.slice (some ad) n c] V fun e w' => ∃ v' : Value, e = .returned v' ∧ w'.ownsRow V.heap.size 25 6 v' n xs ∧ Below V.heap.size V w' := by
      clear hb h6 hat hsz hl hlen hread hone hf hV
      intro n xs hf hlen hread hone
      have HRD := Lib.hid hread
      have HONE := Lib.hid hone
      have HLEN := Lib.hid hlen
      clear hread hone hlen
      go_enter Tryz.func23, Tryz.ntmps23
      go_wp2_with (at_builtin; change wpList _ _ _ _ _ (V.alloc (.cells #[] 25)); rw [← hW]; clear hW; refine wpList_append_own_at _ rfl _ _ 22 rfl V.heap.size 25 i0 (.agg #[.int .i64 0, .string ⟨#[]⟩, .int .i64 0, .int .i64 0, .slice none 0 0, .slice none 0 0]) 6 88 Tryz.underlying22 hi0 hz0 hz1 hz2 rfl (by decide) _ _ _ rfl hO.out ad n c xs rfl HLEN.out HRD.out HONE.out ?c1 ?c2 ?c3 ?_)
      case c1 => unfold maxLen; omega
      case c2 => omega
      case c3 => exact hB.out.size
      intro v' w2 ho hg hnil hwh
      have HO2 := Lib.hid ho
      have HG := Lib.hid hg
      clear ho hg hwh hnil
      go_wp2_with fail
      go_ret
      exact ⟨_, rfl, HO2.out, hB.out.grown HG.out hB.out.size (fun j hj => by have := (hO.out.lt j hj).1; omega)⟩
    refine (key _ _ hf hlen hread hone).mono ?_
    rintro e w' ⟨v', rfl, h1, h2⟩
    exact ⟨v', rfl, h1, h2⟩
end Go.Proofs.YtgdlpldngpoadaaGreatDoor

/- The document's Parts: a walk. -/
namespace Go.Proofs.YtgdlpldngpoadaaGreatDoor
open Go.RowKit

/-- How many nodes a tree of at most so many storeys has. -/
def sumL (g : Nd → Nat) : List Nd → Nat
  | [] => 0
  | t :: r => g t + sumL g r
theorem sumL_snoc (g : Nd → Nat) (l : List Nd) (t : Nd) : sumL g (l ++ [t]) = sumL g l + g t := by
  induction l with
  | nil => simp [sumL]
  | cons a l ih => simp [sumL, ih]; omega
theorem sumL_mem (g : Nd → Nat) {l : List Nd} {t : Nd} (h : t ∈ l) : g t ≤ sumL g l := by
  induction l with
  | nil => exact absurd h (by simp)
  | cons a l ih =>
    show g t ≤ g a + sumL g l
    rcases List.mem_cons.1 h with rfl | h
    · omega
    · have := ih h; omega
def nodesN : Nat → Nd → Nat
  | 0, _ => 1
  | n + 1, t => 1 + sumL (nodesN n) t.kids
theorem nodesN_pos (n : Nat) (t : Nd) : 1 ≤ nodesN n t := by
  cases n with
  | zero => exact Nat.le_refl _
  | succ n => show 1 ≤ 1 + _; omega
theorem sumL_len (n : Nat) (l : List Nd) : l.length ≤ sumL (nodesN n) l := by
  induction l with
  | nil => exact Nat.le_refl _
  | cons a l ih =>
    show l.length + 1 ≤ nodesN n a + sumL (nodesN n) l
    have := nodesN_pos n a
    omega
/-- At most so many storeys. -/
def Deep : Nat → Nd → Prop
  | 0, _ => False
  | n + 1, t => ∀ c, c ∈ t.kids → Deep n c
/-- No list of names is longer than p. -/
inductive PFew (p : Nat) : Nd → Prop
  | mk (k : Int) (s : ByteArray) (n a : Int) (l : List Nd) (q : List ByteArray) (hq : q.length ≤ p) (hl : ∀ c, c ∈ l → PFew p c) : PFew p (.mk k s n a l q)
theorem PFew.here {p : Nat} {t : Nd} (h : PFew p t) : t.p.length ≤ p := by cases h; assumption
theorem PFew.kids {p : Nat} {t : Nd} (h : PFew p t) : ∀ c, c ∈ t.kids → PFew p c := by cases h; assumption
theorem low_of : ∀ (d : Nat) (t : Nd) (p : Nat), Deep d t → nodesN d t ≤ 3000 → PFew p t → p ≤ 9223372036854775807 → Low d t
  | 0, _, _, h, _, _, _ => h.elim
  | d + 1, t, p, h, hn, hp, hb => by
    have h' : 1 + sumL (nodesN d) t.kids ≤ 3000 := hn
    have := sumL_len d t.kids
    exact ⟨by omega, Nat.le_trans hp.here hb, fun c hc => low_of d c p (h c hc) (by have := sumL_mem (nodesN d) hc; omega) (hp.kids c hc) hb⟩

/-- What Parts answers. -/
structure PartsOf (d : Nat) (t : Nd) (m v : Nat) : Prop where
  pos : 1 ≤ v
  le : v ≤ m + 3001
  is : v ≤ m → v = nodesN d t ∧ Deep d t

set_option maxRecDepth 100000 in
theorem parts_spec (d : Nat) : ∀ (D : Nat) (t : Nd) (cs : Array Value) (S : Nat → Prop) (m : Nat) (w : World), D + d = 601 → At w S t cs → m ≤ 3000 →
    Calls Tryz.prog 13 #[.agg cs, .int .i64 D, .int .i64 m] w fun e w' => ∃ v : Nat, e = .returned (.int .i64 v) ∧ Hid (PartsOf d t m v) ∧ Below w.heap.size w w' := by
  induction d with
  | zero =>
    intro D t cs S m w hD h hm
    obtain ⟨x, c, y, e, rfl, _⟩ := h.opens
    clear h
    have hd : decide ((600 : Int) < D) = true := decide_eq_true (by omega)
    go_enter Tryz.func13, Tryz.ntmps13
    go_upto_region 1 with (fail)
    obtain ⟨W, hW, hX, hB, _⟩ := nd_box w (ndC t.k t.s t.n t.a (.slice x t.kids.length c) (.slice y t.p.length e))
    rw [← hW]
    clear hW
    go_wp2_with fail
    go_ret
    exact ⟨3001, rfl, Lib.hid ⟨by omega, by omega, fun h => by omega⟩, hB.out⟩
  | succ d ih =>
    intro D t cs S m w hD h hm
    have HI := Lib.hid ih; clear ih
    have hd : decide ((600 : Int) < D) = false := decide_eq_false (by omega)
    obtain ⟨D', hD'⟩ : ∃ D' : Nat, D' = D + 1 := ⟨_, rfl⟩
    have hDi : (D : Int) + 1 = D' := by omega
    have HD : Hid (D' + d = 601) := Lib.hid (by omega)
    have hD9 : (D : Int) ≤ 601 := by omega
    clear hD hD'
    obtain ⟨x, c, y, e, rfl, hsl, _⟩ := h.opens
    clear h
    by_cases hm1 : m = 0
    · have hmb : decide ((m : Int) < 1) = true := decide_eq_true (by omega)
      have HM := Lib.hid hm1
      clear hm1
      go_enter Tryz.func13, Tryz.ntmps13
      go_upto_region 1 with (fail)
      obtain ⟨W, hW, hX, hB, _⟩ := nd_box w (ndC t.k t.s t.n t.a (.slice x t.kids.length c) (.slice y t.p.length e))
      rw [← hW]
      clear hW
      go_wp2_with fail
      go_ret
      exact ⟨3001, rfl, Lib.hid ⟨by omega, by omega, fun h => by have := HM.out; omega⟩, hB.out⟩
    · have hmb : decide ((m : Int) < 1) = false := decide_eq_false (by omega)
      have HM := Lib.hid hm1
      clear hm1
      go_enter Tryz.func13, Tryz.ntmps13
      go_upto_region 1 with (fail)
      obtain ⟨W, hW, hX, hB, _⟩ := nd_box w (ndC t.k t.s t.n t.a (.slice x t.kids.length c) (.slice y t.p.length e))
      rw [← hW]
      clear hW
      have S1 := Lib.hid (hsl.after hB.out)
      clear hsl
      obtain ⟨c0, c1, c2, c3, c4, c5⟩ := six_nd hX.out.six
      go_wp2_with fail
      go_loopw [7, 8] (fun x y wr => ∃ n i : Nat, x = .int .i64 n ∧ y = .int .i64 i ∧ i ≤ t.kids.length ∧ i + 1 ≤ n ∧ n ≤ m + 3001 ∧ Hid (n ≤ m → n = 1 + sumL (nodesN d) (t.kids.take i) ∧ ∀ c, c ∈ t.kids.take i → Deep d c) ∧ Hid (Below W.heap.size W wr)) (fun _ y _ => t.kids.length - (intOf y).toNat)
      case atStart => exact ⟨1, 0, rfl, rfl, by omega, by omega, by omega, Lib.hid fun _ => ⟨rfl, fun c hc => absurd hc (by simp)⟩, Lib.hid (Below.refl _ _)⟩
      case round =>
        obtain ⟨n, i, rfl, rfl, hi, hin, hnm, hN, hb⟩ := hrel
        clear c0 c1 c2 c3 c4 c5
        have X1 := Lib.hid (hX.out.after hb.out)
        obtain ⟨c0, c1, c2, c3, c4, c5⟩ := six_nd X1.out.six
        have hi' : i ≤ 7000 := by omega
        by_cases hgo : i < t.kids.length
        · by_cases hle : n ≤ m
          · rcases S1.out with ⟨e, _⟩ | ⟨hl, b, off, c', cs, e, hc, hBb, h8, hat⟩
            · rw [e] at hgo; exact absurd hgo (by simp)
            · simp only [Value.slice.injEq] at e
              obtain ⟨rfl, en, rfl⟩ := e
              clear en
              have hT := hat i hgo
              have hT' := hT.after hb.out
              obtain ⟨ai, ci, pi, di, e, _⟩ := hT.opens
              have h8i := (h8 i hgo).after hT.size hb.out
              rw [e] at h8i hT'
              obtain ⟨q', hq'⟩ : ∃ q', q' = t.kids[i] := ⟨_, rfl⟩
              have HQ := Lib.hid hq'
              rw [← hq'] at h8i hT'
              clear hq'
              obtain ⟨d0, d1, d2, d3, d4, d5⟩ := six_nd h8i
              obtain ⟨q, hq⟩ : ∃ q : Nat, m - n = q := ⟨_, rfl⟩
              have hq' : (m : Int) - n = q := by omega
              have hqm : q ≤ 3000 := by omega
              have HC := Lib.hid (HI.out D' q' _ S q _ HD.out hT' hqm)
              have HQM : Hid (m - n = q) := Lib.hid hq
              clear e hT hT' h8 hat h8i hq
              go_wp2_with fail
              refine HC.out.mono ?_
              rintro e w2 ⟨v, rfl, hv, b2⟩
              have B2 := Lib.hid (Below.step hb.out b2)
              have v1 := hv.out.pos
              have v2 := hv.out.le
              clear b2
              go_wp2_with fail
              go_roundw
              case rel =>
                refine ⟨n + v, i + 1, by go_num, by go_num, by omega, by omega, by have := HQM.out; omega, Lib.hid fun h => ?_, B2⟩
                have e1 := hN.out hle
                have e2 := hv.out.is (by have := HQM.out; omega)
                rw [HQ.out] at e2
                rw [List.take_succ_eq_append_getElem hgo, sumL_snoc]
                refine ⟨by omega, fun c hc => ?_⟩
                rcases List.mem_append.1 hc with hc | hc
                · exact e1.2 c hc
                · rw [List.mem_singleton.1 hc]; exact e2.2
              case measure => simp [intOf]; omega
          · go_wp2_with fail
            go_ret
            exact ⟨n, rfl, Lib.hid ⟨by omega, by omega, fun h => absurd h hle⟩, Below.step hB.out hb.out⟩
        · go_wp2_with fail
          go_ret
          refine ⟨n, rfl, Lib.hid ⟨by omega, by omega, fun h => ?_⟩, Below.step hB.out hb.out⟩
          have e1 := hN.out h
          rw [List.take_of_length_le (by omega)] at e1
          exact e1

set_option maxRecDepth 100000 in
theorem small_spec (t : Nd) (cs : Array Value) (S : Nat → Prop) (w : World) (h : At w S t cs) :
    Calls Tryz.prog 5 #[.agg cs] w fun e w' => ∃ b : Bool, e = .returned (.bool b) ∧ Hid (b = true → Deep 600 t ∧ nodesN 600 t ≤ 3000) ∧ Below w.heap.size w w' := by
  obtain ⟨W, hW, hX, hB, _⟩ := nd_box w cs
  have HC := Lib.hid (parts_spec 600 1 t cs S 3000 W rfl (h.after hB.out) (by omega))
  obtain ⟨x, c, y, e, rfl, _⟩ := h.opens
  clear h
  go_enter Tryz.func5, Tryz.ntmps5
  go_upto_region 1 with (fail)
  rw [← hW]
  clear hW
  obtain ⟨c0, c1, c2, c3, c4, c5⟩ := six_nd hX.out.six
  go_wp2_with fail
  refine HC.out.mono ?_
  rintro e w1 ⟨v, rfl, hv, b1⟩
  have B1 := Lib.hid (Below.step hB.out b1)
  have v2 := hv.out.le
  clear b1
  go_wp2_with fail
  go_ret
  exact ⟨_, rfl, Lib.hid (fun h => by have h' : v ≤ 3000 := by simp at h; omega
                                      have := hv.out.is (by omega)
                                      exact ⟨this.2, by omega⟩), B1.out⟩
end Go.Proofs.YtgdlpldngpoadaaGreatDoor
