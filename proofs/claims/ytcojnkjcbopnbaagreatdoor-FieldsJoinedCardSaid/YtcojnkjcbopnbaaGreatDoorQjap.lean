/- Merged by program: LayCat, All7. -/
import Derived.Sort.CutIn
import Derived.RangeFuncBox
import Derived.Test.YtcojnkjcbopnbaaGreatDoorQjal
import Derived.Test.YtcojnkjcbopnbaaGreatDoorQjao
/- (*nfa.Prog).lay at parts one behind the other: a walk. -/
namespace Go.Proofs.YtcojnkjcbopnbaaGreatDoor
open Go.RowKit Go.Shelf
attribute [local go_sem] Oper.semAt_some

/-- Laying, at plans of at most so many storeys. -/
def LayIH (d : Nat) : Prop := ∀ (q : Plan) (cs : Array Value) (S : Nat → Prop) (next p : Nat) (ss : List St) (sv : Value) (st : Int) (w : World), PAt w S q cs → (∀ k, S k → k < p) → Wf d q → Mch w p ss sv st → ss.length + d * 250000 ≤ 100000000 →
  Calls Tryz.prog 68 #[.pointer (some ⟨p, 0, none⟩), .agg cs, .int .i64 next] w (Laid w p sv st (layN d q next ss))

theorem cells_ne {W : World} {row : Option Nat} {B : Nat} (hr : ∀ r, row = some r → B ≤ r ∧ ∃ o : Obj, W.heap[r]? = some o ∧ o.isCells = false) {k : Nat} {cs : Array Value} {t : TypeId} {fz : Nat × Nat} (h : W.heap[k]? = some (.cells cs t fz)) : some k ≠ row := by
  intro e
  obtain ⟨_, o, ho, hc⟩ := hr k e.symm
  rw [h] at ho
  cases ho
  cases hc
theorem One.grow {W W' : World} {row : Option Nat} {B : Nat} (hg : W.grownBy W' row) (hr : ∀ r, row = some r → B ≤ r ∧ ∃ o : Obj, W.heap[r]? = some o ∧ o.isCells = false) {b : Nat} {v : Value} {t : TypeId} (h : One W b v t) : One W' b v t := h.keep (hg.block b h.lt (cells_ne hr h.row))
theorem PBox.grow {W W' : World} {row : Option Nat} {B : Nat} (hg : W.grownBy W' row) (hr : ∀ r, row = some r → B ≤ r ∧ ∃ o : Obj, W.heap[r]? = some o ∧ o.isCells = false) {b : Nat} {cs : Array Value} (h : PBox W b cs) : PBox W' b cs := h.keep (hg.block b h.lt (cells_ne hr h.row))
theorem Mch.ne {W : World} {p : Nat} {ss : List St} {sv : Value} {st : Int} (h : Mch W p ss sv st) {k : Nat} {cs : Array Value} {t : TypeId} {fz : Nat × Nat} (hk : W.heap[k]? = some (.cells cs t fz)) (ht : t ≠ 124) : sv.ownBlock ≠ some k := by
  rcases h.own.2 with ⟨rfl, _⟩ | ⟨g, cap, cur, rfl, _, hg, _⟩
  · intro e; simp [Value.ownBlock] at e
  · intro e
    simp [Value.ownBlock] at e
    subst e
    rw [hg] at hk
    cases hk
    exact ht rfl
theorem Mch.neP {W : World} {p : Nat} {ss : List St} {sv : Value} {st : Int} (h : Mch W p ss sv st) {k : Nat} {cs : Array Value} {t : TypeId} {fz : Nat × Nat} (hk : W.heap[k]? = some (.cells cs t fz)) (ht : t ≠ 87) : k ≠ p := by
  rintro rfl
  rw [h.row] at hk
  cases hk
  exact ht rfl
theorem Mch.grow {W W' : World} {row : Option Nat} {B : Nat} (hg : W.grownBy W' row) (hr : ∀ r, row = some r → B ≤ r ∧ ∃ o : Obj, W.heap[r]? = some o ∧ o.isCells = false) {p : Nat} {ss : List St} {sv : Value} {st : Int} (h : Mch W p ss sv st) : Mch W' p ss sv st := by
  refine ⟨(hg.block p h.lt (cells_ne hr h.row)).trans h.row, h.own.kept hg ?_⟩
  rcases h.own.2 with ⟨rfl, _⟩ | ⟨g, cap, cur, rfl, _, hgg, _⟩
  · exact Or.inl rfl
  · exact Or.inr (cells_ne hr hgg)
theorem Turn.grow {p : Nat} {sv sv' : Value} {w W W' : World} {row : Option Nat} {B : Nat} (h : Turn p sv w W sv') (hB : w.heap.size ≤ B) (hg : W.grownBy W' row) (hr : ∀ r, row = some r → B ≤ r ∧ ∃ o : Obj, W.heap[r]? = some o ∧ o.isCells = false) : Turn p sv w W' sv' :=
  ⟨hg.os.trans h.os, hg.tape.trans h.tape, hg.output.trans h.output, Nat.le_trans h.size hg.size, fun k hk hp hs => (hg.block k (Nat.lt_of_lt_of_le hk h.size) (fun e => by have := (hr k e.symm).1; omega)).trans (h.block k hk hp hs), h.own⟩
theorem Turn.setNew {p : Nat} {sv sv' : Value} {w W : World} (h : Turn p sv w W sv') {b : Nat} (hb : w.heap.size ≤ b) (j : Nat) (v : Value) : Turn p sv w (W.setCell ⟨b, j, none⟩ v) sv' :=
  ⟨h.os, h.tape, h.output, by have := h.size; simpa using this, fun k hk hp hs => (heap_setCell_other W ⟨b, j, none⟩ k v (fun e => by have e' : k = b := e; omega)).trans (h.block k hk hp hs), h.own⟩
theorem Mch.setOther {W : World} {p : Nat} {ss : List St} {sv : Value} {st : Int} (h : Mch W p ss sv st) {b : Nat} (hp : b ≠ p) (hs : sv.ownBlock ≠ some b) (j : Nat) (v : Value) : Mch (W.setCell ⟨b, j, none⟩ v) p ss sv st :=
  ⟨(heap_setCell_other W ⟨b, j, none⟩ p v (fun e => hp e.symm)).trans h.row, ownsRow_setCell_other h.own (a := ⟨b, j, none⟩) hs _⟩
theorem One.setOther {w : World} {b b' : Nat} {v : Value} {t : TypeId} (h : One w b v t) (hb : b ≠ b') (j : Nat) (u : Value) : One (w.setCell ⟨b', j, none⟩ u) b v t := h.keep (heap_setCell_other w ⟨b', j, none⟩ b u hb)
/-- A box of another type than the machine's and its row's stays. -/
theorem One.turn {W W' : World} {p : Nat} {ss : List St} {sv sv' : Value} {st : Int} (hm : Mch W p ss sv st) (ht : Turn p sv W W' sv') {b : Nat} {v : Value} {t : TypeId} (h : One W b v t) (h1 : t ≠ 87) (h2 : t ≠ 124) : One W' b v t := ⟨ht.keep h.row (hm.neP h.row h1) (hm.ne h.row h2)⟩
theorem PBox.turn {W W' : World} {p : Nat} {ss : List St} {sv sv' : Value} {st : Int} (hm : Mch W p ss sv st) (ht : Turn p sv W W' sv') {b : Nat} {cs : Array Value} (h : PBox W b cs) : PBox W' b cs := ⟨ht.keep h.row (hm.neP h.row (by decide)) (hm.ne h.row (by decide))⟩
/-- What is no cells stays. -/
theorem Turn.others {p : Nat} {sv sv' : Value} {ss : List St} {st : Int} {w w' : World} (hm : Mch w p ss sv st) (h : Turn p sv w w' sv') (B : Nat) : KeepsFrom B w w' :=
  ⟨h.size, fun k o _ hk ho => h.keep hk (fun e => by subst e; rw [hm.row] at hk; cases hk; cases ho) (fun e => by
    rcases hm.own.2 with ⟨rfl, _⟩ | ⟨g, cap, cur, rfl, _, hg, _⟩
    · simp [Value.ownBlock] at e
    · simp [Value.ownBlock] at e
      subst e
      rw [hg] at hk
      cases hk
      cases ho)⟩

/-- Where the laying of parts one behind the other stands. -/
structure CatI (V w : World) (p : Nat) (sv : Value) (st : Int) (x : Mk) (n0 j B : Nat) (bv : Value) : Prop where
  ex : ∃ sv', Mch V p x.2 sv' st ∧ Turn p sv w V sv'
  ptr : One V w.heap.size (.pointer (some ⟨p, 0, none⟩)) 82
  nx : One V (w.heap.size + 2) (.int .i64 x.1) 3
  box : One V B bv 117
  len : x.2.length ≤ n0 + 500 * j
theorem CatI.grow {V V' w : World} {row : Option Nat} {p : Nat} {sv : Value} {st : Int} {x : Mk} {n0 j B C : Nat} {bv : Value} (h : CatI V w p sv st x n0 j B bv) (hC : w.heap.size ≤ C) (hg : V.grownBy V' row) (hr : ∀ r, row = some r → C ≤ r ∧ ∃ o : Obj, V.heap[r]? = some o ∧ o.isCells = false) : CatI V' w p sv st x n0 j B bv := by
  obtain ⟨⟨sv', h1, h2⟩, h3, h4, h5, h6⟩ := h
  exact ⟨⟨sv', h1.grow hg hr, h2.grow hC hg hr⟩, h3.grow hg hr, h4.grow hg hr, h5.grow hg hr, h6⟩

set_option maxRecDepth 100000 in
set_option maxHeartbeats 4000000 in
theorem lay_cat (d : Nat) (hih : LayIH d) (q : Plan) (a : Option Addr) (c : Nat) (S : Nat → Prop) (next p : Nat) (ss : List St) (sv : Value) (st : Int) (w : World) (hk : q.k = 4) (hat : PSl w S q.kids (.slice a q.kids.length c)) (hS : ∀ k, S k → k < p) (hw : Wf (d + 1) q) (h : Mch w p ss sv st)
    (hlen : ss.length + (d + 1) * 250000 ≤ 100000000) :
    Calls Tryz.prog 68 #[.pointer (some ⟨p, 0, none⟩), .agg (plC q.k q.f q.lo q.hi q.n (.slice a q.kids.length c)), .int .i64 next] w (Laid w p sv st (catN (layN d) q.kids next ss)) := by
  obtain ⟨b, cs, had, hbp, hbw, h9, hpa⟩ : ∃ (b : Nat) (cs : Nat → Array Value), (0 < q.kids.length → a = some ⟨b, 0, none⟩) ∧ (0 < q.kids.length → b < p) ∧ b < w.heap.size ∧ (∀ i, i < q.kids.length → Nine w b (i * 9) (cs i)) ∧ ∀ i (hi : i < q.kids.length), PAt w S q.kids[i] (cs i) := by
    rcases hat with ⟨e, _⟩ | ⟨hl, b, c', cs, e, _, hB, h9, hpa⟩
    · exact ⟨p, fun _ => zeroPl, fun h => by rw [e] at h; exact absurd h (by simp), fun h => by rw [e] at h; exact absurd h (by simp), h.lt, fun i hi => by rw [e] at hi; exact absurd hi (by simp), fun i hi => absurd hi (by rw [e]; simp)⟩
    · simp only [Value.slice.injEq] at e
      obtain ⟨rfl, _, _⟩ := e
      have h0 : 0 < q.kids.length := List.length_pos_iff.2 hl
      exact ⟨b, cs, fun _ => rfl, fun _ => hS b hB, (h9 0 h0).lt (hpa 0 h0).size, h9, hpa⟩
  obtain ⟨W, hW, HL, HB, HWs⟩ := layB_new w p (plC q.k q.f q.lo q.hi q.n (.slice a q.kids.length c)) next
  have e1 : (q.k == 1) = false := by rw [hk]; rfl
  have e2 : (q.k == 2) = false := by rw [hk]; rfl
  have e3 : (q.k == 3) = false := by rw [hk]; rfl
  have e4 : (q.k == 4) = true := by rw [hk]; rfl
  have HIH := Lib.hid hih
  have HAD := Lib.hid had
  have HBP := Lib.hid hbp
  have H9 := Lib.hid h9
  have HPA := Lib.hid hpa
  have HS := Lib.hid hS
  have HW := Lib.hid hw
  have HM := Lib.hid h
  have HLen := Lib.hid hlen
  have hfew := hw.1.few
  have hpw := h.lt
  clear hk hih had hbp h9 hpa hS hw h hlen hat
  refine (callsIn_wide (n := 5)).1 ?_
  refine callsIn_of_wp_marks Tryz.func68 rfl trivial ?_ rfl
  simp only [Tryz.ntmps68, List.size_toArray, List.length_cons, List.length_nil, Nat.reduceAdd, Nat.reduceSub, Array.replicate_succ, Array.replicate_zero, List.push_toArray, List.append_toArray, List.nil_append, List.cons_append]
  gi_upto_region 1 with (fail)
  rw [← hW]
  clear hW
  obtain ⟨c0, c1, c2, c3, c4, c5, c6, c7, c8⟩ := nine_pl HL.out.q.nine
  have d0 := HL.out.ptr.c
  have d2 := HL.out.nx.c
  gi_wp2_with fail
  refine ⟨trivial, ?_⟩
  refine (backward_in Fence.wide _ trivial rfl _ _ _ _).mono ?_
  rintro e w' ⟨rfl, rfl⟩
  gi_wp2_with fail
  obtain ⟨W0, hW0⟩ : ∃ W0, W0 = W.alloc (.cells #[.slice a q.kids.length c] 117) := ⟨_, rfl⟩
  have hbW : Below W.heap.size W W0 := by rw [hW0]; exact below_new _ _
  have hbw0 : Below w.heap.size w W0 := Below.step HB.out hbW
  have hsz0 : W0.heap.size ≤ w.heap.size + 4 := by rw [hW0, World.size_alloc, HWs.out]; omega
  have hsz1 : w.heap.size + 4 ≤ W0.heap.size := by rw [hW0, World.size_alloc, HWs.out]; omega
  have hbox : One W0 W.heap.size (.slice a q.kids.length c) 117 := by rw [hW0]; exact one_new _ _ _
  have hsW : W.heap.size ≤ w.heap.size + 3 := by rw [HWs.out]; omega
  have hsW1 : w.heap.size + 3 ≤ W.heap.size := by rw [HWs.out]; omega
  rw [← hW0]
  clear hW0 c0 c1 c2 c3 c4 c5 c6 c7 c8 d0 d2 e1 e2 e3 e4
  refine wpIn_rangeFunc_ownH rfl (by decide) (gf := 118) (lb := #[.pointer (some ⟨W.heap.size, 0, none⟩)]) rfl trivial (enters_of Tryz.func118 (by kernel_rfl) rfl)
    (backward_stops Fence.wide (5 - 1) trivial rfl (by decide) W.heap.size b q.kids.length c cs (by omega) W0 a HAD.out hbox.c (by omega) (fun i hi => (H9.out i hi).keep (hbw0.block b hbw)) (fun i hi => by
      obtain ⟨sl, e, hs⟩ := (HPA.out i hi).open
      obtain ⟨a', c', rfl⟩ := hs.shape
      exact ⟨_, _, _, _, _, _, _, _, e⟩)) KeepB.trans (KeepB.put (by omega) (by omega)) (Below.refl _ _) (fun _ => rfl)
    (fun pre V => CatI V w p sv st (pre.foldl (fun x i => layN d q.kids[i] x.1 x.2) (next, ss)) ss.length pre.length W.heap.size (.slice a q.kids.length c))
    (fun _ _ _ => False)
    (fun _ _ _ _ hs hg hr => hs.grow (by omega) hg hr)
    (fun _ _ _ _ _ hs _ _ => hs)
    ⟨⟨sv, HM.out.after hbw0, Turn.of hbw0⟩, HL.out.ptr.after hbW, HL.out.nx.after hbW, hbox, by simp⟩
    (fun x a' V => ∃ Bx, PBox V Bx (cs x.val) ∧ a' = { tmps := #[.pointer (some ⟨p, 0, none⟩), .agg (plC q.k q.f q.lo q.hi q.n (.slice a q.kids.length c)), .int .i64 next, .pointer (some ⟨w.heap.size, 0, none⟩), .pointer (some ⟨w.heap.size + 1, 0, none⟩), .pointer (some ⟨w.heap.size + 1 + 1, 0, none⟩), .int .i64 0, undef, .pointer (some ⟨Bx, 0, none⟩), .pointer (some ⟨w.heap.size + 1, 0, none⟩), .int .i64 q.k, .bool false, .bool false, undef, undef, undef, undef, undef, undef, .bool false, .bool false, undef, undef, undef, undef, .bool false, .bool false, undef, undef, undef, undef, .bool true, .bool true, .pointer (some ⟨w.heap.size + 1, 8, none⟩), .slice a q.kids.length c, .func (.func 118) #[] #[.pointer (some ⟨W.heap.size, 0, none⟩)], .int .i64 (x.val : Nat), .agg (cs x.val), undef, undef, undef, undef, undef, undef, undef, undef, undef, undef, undef, undef, undef, undef, undef, undef, undef, undef, undef], defers := [] })
    (fun _ _ _ _ _ _ hs hg hr => by
      obtain ⟨Bx, h1, h2⟩ := hs
      exact ⟨Bx, h1.grow hg hr, h2⟩) ?assign ?body ?done ?stop
  case assign =>
    intro l pre x V K hI hK
    obtain ⟨sl', e, hs'⟩ := (HPA.out x.val x.isLt).open
    obtain ⟨ax, cx, rfl⟩ := hs'.shape
    have HE := Lib.hid e
    have HI := Lib.hid hI
    have HK := Lib.hid hK
    have hbV : b < V.heap.size ∧ W.heap.size < V.heap.size := by
      obtain ⟨sv', _, hT⟩ := hI.ex
      have h1 := hT.size
      have h2 := hI.box.lt
      exact ⟨by omega, h2⟩
    rw [e]
    unfold plC
    clear e hs' hI hK
    gi_wp2
    refine HK.out _ _ ((KeepsOthers.alloc _ _).from _) ⟨(below_new V _).block _ hbV.2, (below_new V _).block _ hbV.1⟩ (HI.out.grow (Nat.le_refl _) (World.grownBy_alloc V _ none) (fun r e => by cases e)) ⟨V.heap.size, by rw [HE.out]; exact pbox_new _ _, by rw [HE.out]; rfl⟩
  case body =>
    rintro l pre x a' V hl ⟨r, hr⟩ hI ⟨Bx, hbx, rfl⟩ hlt
    have him := x.isLt
    obtain ⟨sl', e, hs'⟩ := (HPA.out x.val x.isLt).open
    obtain ⟨ax, cx, rfl⟩ := hs'.shape
    obtain ⟨⟨sv', hM, hT⟩, hptr, hnx, hbx0, hln⟩ := hI
    obtain ⟨y, hy⟩ : ∃ y : Mk, y = pre.foldl (fun x i => layN d q.kids[i] x.1 x.2) (next, ss) := ⟨_, rfl⟩
    have hnext : (pre ++ [x]).foldl (fun x i => layN d q.kids[i] x.1 x.2) (next, ss) = layN d q.kids[x] y.1 y.2 := by rw [List.foldl_append, hy]; rfl
    rw [← hy] at hM hnx hln
    have hkeep : ∀ k, k < p → k < w.heap.size → V.heap[k]? = w.heap[k]? := fun k hk hkw =>
      hT.block k hkw (by omega) (fun e => by have := (HM.out.own.lt k e).1; omega)
    have hpx : PAt V S q.kids[x] (cs x.val) := (HPA.out x.val x.isLt).keep fun k hk hlt' => hkeep k (HS.out k hk) hlt'
    have hwx : Wf d q.kids[x] := HW.out.2 _ (List.getElem_mem x.isLt)
    have hlx := layN_len d q.kids[x] y.1 y.2 hwx
    have hnx5 := hwx.own.n
    have h500 : 500 * pre.length ≤ 250000 := by have : pre.length ≤ 500 := by omega
                                                omega
    have HLx := Lib.hid (show (layN d q.kids[x] y.1 y.2).2.length ≤ ss.length + 500 * (pre ++ [x]).length by rw [List.length_append, List.length_singleton]; omega)
    have HC := Lib.hid (HIH.out q.kids[x] (cs x.val) S y.1 p y.2 sv' st V hpx HS.out hwx hM (by have := HLen.out; omega))
    rw [e] at HC hbx
    have HNX := Lib.hid hnext
    have HT := Lib.hid hT
    have HM1 := Lib.hid hM
    have HPtr := Lib.hid hptr
    have HNx := Lib.hid hnx
    have HBx := Lib.hid hbx0
    have c0 := hptr.c
    have c1 := hnx.c
    obtain ⟨q0, q1, q2, q3, q4, q5, q6, q7, q8⟩ := nine_pl hbx.nine
    clear e hs' hy hln hkeep hpx hwx hlx hnx5 h500 hnext hT hM hptr hnx hbx hbx0
    unfold plC at HC
    dsimp only
    gi_wp2_with fail
    refine ⟨trivial, ?_⟩
    refine (CallsIn.inRound l (callsIn_wide.2 HC.out)).mono ?_
    rintro e V1 ⟨sv2, rfl, hM2, hT2⟩
    have hx2 := HNx.out.turn HM1.out hT2 (by decide) (by decide)
    have hx0 := HPtr.out.turn HM1.out hT2 (by decide) (by decide)
    have hx3 := HBx.out.turn HM1.out hT2 (by decide) (by decide)
    have z2 := hx2.z
    have k2 := hx2.c
    have HX2 := Lib.hid hx2
    have HX0 := Lib.hid hx0
    have HX3 := Lib.hid hx3
    have HM2 := Lib.hid hM2
    have HT2 := Lib.hid hT2
    clear hx2 hx0 hx3 hM2 hT2
    gi_wp2_with fail
    have hne := HM2.out.ne HX2.out.row (by decide)
    have hneP := HM2.out.neP HX2.out.row (by decide)
    have hbV : b < V.heap.size := by have := HT.out.size; omega
    have hbp0 : b < p := HBP.out (by omega)
    refine ⟨(Turn.others HM1.out HT2.out _).trans ((KeepsOthers.setCell _ _ _).from _), ⟨?_, ?_⟩, ⟨sv2, by rw [HNX.out]; exact HM2.out.setOther hneP hne 0 _, (HT.out.trans HT2.out).setNew (by omega) 0 _⟩, HX0.out.setOther (by omega) 0 _, ?_, HX3.out.setOther (by omega) 0 _, ?_⟩
    · exact ((HX3.out.setOther (b' := w.heap.size + 1 + 1) (by omega) 0 _).row).trans HBx.out.row.symm
    · exact (heap_setCell_other V1 ⟨w.heap.size + 1 + 1, 0, none⟩ b _ (fun e => by have e' : b = w.heap.size + 1 + 1 := e; omega)).trans (HT2.out.block b hbV (by omega) (fun e => by have := (HM1.out.own.lt b e).1; omega))
    · rw [HNX.out]
      exact HX2.out.set _
    · rw [HNX.out]
      exact HLx.out
  case done =>
    rintro D ys V hD rfl hI hK
    have HD := Lib.hid hK
    have c1 := hI.nx.c
    have HI := Lib.hid hI
    clear hI hK
    dsimp only
    gi_wp2
    refine ⟨by simp, .inl ⟨_, _, rfl, run_takeDeferred HD.out, ?_⟩⟩
    refine ⟨_, results_tmp rfl _ _ _, ?_⟩
    have hf := HI.out.grow (C := W0.heap.size) (by omega) (grownBy_putObj' V D (.deferred none)) (fun r e => by cases e; exact ⟨hD, _, HD.out, rfl⟩)
    obtain ⟨⟨sv', hM, hT⟩, _, _, _, _⟩ := hf
    exact ⟨sv', rfl, hM, hT⟩
  case stop =>
    rintro D c pre V _ _ h _
    exact h.elim
end Go.Proofs.YtcojnkjcbopnbaaGreatDoor

/- (*match.Pattern).All: a walk. -/
namespace Go.Proofs.YtcojnkjcbopnbaaGreatDoor
open Go.RowKit Go.Shelf
attribute [local go_sem] Oper.semAt_some

/-- Parts as a row of numbers. -/
def pairs (l : List (Nat × Nat)) : List Value := l.flatMap fun x => [.int .i64 (x.1 : Nat), .int .i64 (x.2 : Nat)]
theorem pairs_snoc (l : List (Nat × Nat)) (x : Nat × Nat) : pairs (l ++ [x]) = pairs l ++ [.int .i64 (x.1 : Nat), .int .i64 (x.2 : Nat)] := by simp [pairs]
theorem pairs_len (l : List (Nat × Nat)) : (pairs l).length = l.length * 2 := by
  induction l with
  | nil => rfl
  | cons x r ih =>
    show ([_, _] ++ pairs r).length = _
    rw [List.length_append, ih]
    simp
    omega
theorem pairs_get (l : List (Nat × Nat)) (i : Nat) (hi : i < l.length) : (pairs l)[i * 2]? = some (.int .i64 (l[i].1 : Nat)) ∧ (pairs l)[i * 2 + 1]? = some (.int .i64 (l[i].2 : Nat)) := by
  induction l generalizing i with
  | nil => exact absurd hi (by simp)
  | cons x r ih =>
    cases i with
    | zero => exact ⟨rfl, rfl⟩
    | succ i =>
      have := ih i (by simpa using hi)
      rw [show (i + 1) * 2 = i * 2 + 2 by omega]
      exact this
theorem info_pair3 : (Tryz.prog.info? 99).map (fun i => (i.zero, i.size, i.bytes)) = some (some (.agg #[.int .i64 0, .int .i64 0]), 2, 16) := by kernel_rfl

/-- Where the collecting of parts stands. -/
structure AllI (V w : World) (pp : Nat) (s : ByteArray) (pre : List (Nat × Nat)) : Prop where
  ex : ∃ v, Boxed V w.heap.size 97 v ∧ V.ownsRow w.heap.size 99 2 v pre.length (pairs pre)
  bp : One V (w.heap.size + 1) (.pointer (some ⟨pp, 0, none⟩)) 58
  bs : One V (w.heap.size + 2) (.string s) 9
  below : Below w.heap.size w V
theorem AllI.grow {V V' w : World} {row : Option Nat} {pp : Nat} {s : ByteArray} {pre : List (Nat × Nat)} {C : Nat} (h : AllI V w pp s pre) (hC : w.heap.size ≤ C) (hg : V.grownBy V' row) (hr : ∀ r, row = some r → C ≤ r ∧ ∃ o : Obj, V.heap[r]? = some o ∧ o.isCells = false) : AllI V' w pp s pre := by
  obtain ⟨⟨v, h1, h2⟩, h3, h4, h5⟩ := h
  refine ⟨⟨v, h1.kept hg (cells_ne hr h1), h2.kept hg ?_⟩, h3.grow hg hr, h4.grow hg hr, ⟨hg.os.trans h5.os, hg.tape.trans h5.tape, hg.output.trans h5.output, Nat.le_trans h5.size hg.size, fun k hk => (hg.block k (Nat.lt_of_lt_of_le hk h5.size) (fun e => by have := (hr k e.symm).1; omega)).trans (h5.block k hk)⟩⟩
  rcases h2.2 with ⟨rfl, _⟩ | ⟨g, cap, cur, rfl, _, hgg, _⟩
  · exact Or.inl rfl
  · exact Or.inr (cells_ne hr hgg)

set_option maxRecDepth 100000 in
set_option maxHeartbeats 4000000 in
theorem all_spec (pp start : Nat) (t s : ByteArray) (ss : List St) (sv : Value) (hs : SsOk ss) (hst : start < ss.length) (hsz : s.size ≤ 100000000) (w : World) (hm : PatM w pp t ss sv start) (hlen : (allN (longN ss start s) s.size).length ≤ 1000000000) :
    Calls Tryz.prog 77 #[.pointer (some ⟨pp, 0, none⟩), .string s] w fun e w' => ∃ v, e = .returned v ∧ w'.ownsRow w.heap.size 99 2 v (allN (longN ss start s) s.size).length (pairs (allN (longN ss start s) s.size)) ∧ Below w.heap.size w w' := by
  obtain ⟨l, hl⟩ : ∃ l, l = allN (longN ss start s) s.size := ⟨_, rfl⟩
  obtain ⟨W, hW⟩ : ∃ W, W = ((w.alloc (.cells #[.slice none 0 0] 97)).alloc (.cells #[.pointer (some ⟨pp, 0, none⟩)] 58)).alloc (.cells #[.string s] 9) := ⟨_, rfl⟩
  have s1 : (w.alloc (.cells #[.slice none 0 0] 97)).heap.size = w.heap.size + 1 := World.size_alloc _ _
  have s2 : ((w.alloc (.cells #[.slice none 0 0] 97)).alloc (.cells #[.pointer (some ⟨pp, 0, none⟩)] 58)).heap.size = w.heap.size + 2 := by rw [World.size_alloc, s1]
  have hbW : Below w.heap.size w W := by rw [hW]; exact Below.step (Below.step (below_new _ _) (below_new _ _)) (below_new _ _)
  have hszW : W.heap.size = w.heap.size + 3 := by rw [hW, World.size_alloc, s2]
  have hI0 : AllI W w pp s [] := by
    refine ⟨⟨_, ?_, World.ownsRow_nil _ _ _ _⟩, ?_, ?_, hbW⟩
    · rw [hW]; exact ((Boxed.new w _ _).alloc _).alloc _
    · have h := (one_new (w.alloc (.cells #[.slice none 0 0] 97)) (.pointer (some ⟨pp, 0, none⟩)) 58).after (below_new _ (.cells #[.string s] 9))
      rw [s1] at h
      rw [hW]; exact h
    · have h := one_new ((w.alloc (.cells #[.slice none 0 0] 97)).alloc (.cells #[.pointer (some ⟨pp, 0, none⟩)] 58)) (.string s) 9
      rw [s2] at h
      rw [hW]; exact h
  have HI0 := Lib.hid hI0
  have HS := Lib.hid hs
  have HSt := Lib.hid hst
  have HM := Lib.hid (hm.after hbW)
  have HLow := Lib.hid hm.low
  have HBW := Lib.hid hbW
  have HLen := Lib.hid (hl ▸ hlen)
  rw [← hl]
  have HL := Lib.hid hl
  clear hs hst hm hl hI0 hbW hlen
  refine (callsIn_wide (n := 8)).1 ?_
  refine callsIn_of_wp_marks Tryz.func77 rfl trivial ?_ rfl
  simp only [Tryz.ntmps77, List.size_toArray, List.length_cons, List.length_nil, Nat.reduceAdd, Nat.reduceSub, Array.replicate_succ, Array.replicate_zero, List.push_toArray, List.append_toArray, List.nil_append, List.cons_append]
  gi_wp2_with fail
  refine ⟨trivial, ?_⟩
  refine (parts_in pp s _ _).mono ?_
  rintro e w' ⟨rfl, rfl⟩
  gi_wp2_with fail
  rw [← hW]
  clear hW s1 s2
  refine wpIn_rangeFunc_ownH rfl (by decide) (gf := 125) (lb := #[.pointer (some ⟨w.heap.size + 1, 0, none⟩), .pointer (some ⟨w.heap.size + 1 + 1, 0, none⟩)]) rfl trivial (enters_of Tryz.func125 (by kernel_rfl) rfl)
    (parts_stops (8 - 1) (by decide) pp start (w.heap.size + 1) (w.heap.size + 1 + 1) t s ss sv HS.out HSt.out hsz W HM.out HI0.out.bp HI0.out.bs) KeepS.trans (KeepS.put (by
      rintro k (hk | rfl | rfl)
      · have := HLow.out k hk; omega
      · omega
      · omega)) (Below.refl _ _) (fun _ => rfl)
    (fun pre V => AllI V w pp s pre)
    (fun _ _ _ => False)
    (fun _ _ _ _ hs hg hr => hs.grow (by omega) hg hr)
    (fun _ _ _ _ _ hs _ _ => hs)
    HI0.out
    (fun x a' V => a' = { tmps := #[.pointer (some ⟨pp, 0, none⟩), .string s, undef, undef, .slice none 0 0, .pointer (some ⟨w.heap.size, 0, none⟩), .int .i64 (x.1 : Nat), .int .i64 (x.2 : Nat), .pointer (some ⟨pp, 0, none⟩), .string s, .func (.func 125) #[] #[.pointer (some ⟨w.heap.size + 1, 0, none⟩), .pointer (some ⟨w.heap.size + 1 + 1, 0, none⟩)], .int .i64 (x.1 : Nat), .int .i64 (x.2 : Nat), undef, undef, undef, undef, undef, undef, undef], defers := [] })
    (fun _ _ _ _ _ _ hs _ _ => hs) ?assign ?body ?done ?stop
  case assign =>
    intro l' pre x V K hI hK
    have HK := Lib.hid hK
    have HI := Lib.hid hI
    clear hK hI
    gi_wp2
    exact HK.out _ _ (KeepsFrom.refl _ _) (KeepS.refl _ _) HI.out rfl
  case body =>
    rintro l' pre x a' V hl' ⟨r, hr⟩ hI rfl hlt
    obtain ⟨⟨v, hbx, hrow⟩, hbp, hbs, hb⟩ := hI
    have c0 := hbx.cell
    obtain ⟨i0, hi0', hz0, hz1, hz2⟩ := info_parts info_pair3
    have hsv := hb.size
    have hdl : Hid (pre.length + 1 ≤ 1000000000) := Lib.hid (by have := HLen.out; rw [← HL.out] at hlt; omega)
    have HBx := Lib.hid hbx
    have HRow := Lib.hid hrow
    have HBp := Lib.hid hbp
    have HBs := Lib.hid hbs
    have HB := Lib.hid hb
    have HNew : Hid (∀ j u, [Value.int .i64 (x.1 : Nat), .int .i64 (x.2 : Nat)][j]? = some u → (V.alloc (.cells #[.int .i64 (x.1 : Nat), .int .i64 (x.2 : Nat)] 99)).cell? (Addr.add ⟨V.heap.size, 0, none⟩ j) = some u) := Lib.hid (by
      intro j u hj
      have e : (⟨V.heap.size, 0, none⟩ : Addr).add j = ⟨V.heap.size, j, none⟩ := by unfold Addr.add; split <;> simp_all
      rw [e]
      exact (cell_of_row _ _ j _ _ _ (heap_alloc_last V _)).trans (by simpa using hj))
    clear hbx hrow hbp hbs hb
    gi_wp2_with (gi_at_builtin; refine wpListIn_append_own _ rfl _ _ 97 rfl w.heap.size 99 i0 (.agg #[.int .i64 0, .int .i64 0]) 2 16 Tryz.underlying97 hi0' hz0 hz1 hz2 rfl (by decide) _ _ _ rfl (owns_after HRow.out (below_new V _)) ⟨V.heap.size, 0, none⟩ 1 1 [.int .i64 (x.1 : Nat), .int .i64 (x.2 : Nat)] rfl rfl HNew.out ?c1 ?c2 ?c3 ?c4 ?_)
    case c1 => intro u hu; simp at hu; rcases hu with rfl | rfl <;> rfl
    case c2 => have := hdl.out; unfold maxLen; omega
    case c3 => have := hdl.out; omega
    case c4 => rw [World.size_alloc]; omega
    intro v' w1 hown hgrow _
    obtain ⟨gv, cv, rfl⟩ := ownsRow_succ hown
    have hap := HBx.out.appended (by decide) HRow.out hsv (Nat.le_refl _) hown hgrow
    obtain ⟨hb1, hb2, hr2, hko, hbl⟩ := hap
    have z0 := hb1.frozen
    have k0 := hb1.cell
    have HF : Hid (AllI (w1.setCell ⟨w.heap.size, 0, none⟩ (.slice (some ⟨gv, 0, none⟩) (pre.length + 1) cv)) w pp s (pre ++ [x])) := Lib.hid (by
      have other : ∀ {b : Nat} {u : Value} {ty : TypeId}, One V b u ty → ty ≠ 99 → b ≠ w.heap.size → One (w1.setCell ⟨w.heap.size, 0, none⟩ (.slice (some ⟨gv, 0, none⟩) (pre.length + 1) cv)) b u ty := fun h ht hne => by
        have h1 : Boxed w1 _ _ _ := Boxed.kept (Boxed.alloc (show Boxed V _ _ _ from h.row) _) hgrow (Boxed.not_row (show Boxed V _ _ _ from h.row) ht HRow.out)
        exact (One.mk h1).setOther hne 0 _
      refine ⟨⟨_, hb2, by rw [List.length_append, pairs_snoc]; exact hr2⟩, other HBp.out (by decide) (by omega), other HBs.out (by decide) (by omega), HB.out.trans hbl⟩)
    have HKS : Hid (KeepS (PartS pp sv (w.heap.size + 1) (w.heap.size + 1 + 1)) V (w1.setCell ⟨w.heap.size, 0, none⟩ (.slice (some ⟨gv, 0, none⟩) (pre.length + 1) cv))) := Lib.hid ⟨by
      rintro k (hk | rfl | rfl)
      · exact hbl.block k (HLow.out k hk)
      · exact HF.out.bp.row.trans HBp.out.row.symm
      · exact HF.out.bs.row.trans HBs.out.row.symm⟩
    have HKO := Lib.hid hko
    clear hb1 hb2 hr2 hko hbl hown hgrow
    gi_wp2_with fail
    exact ⟨HKO.out.from _, HKS.out, HF.out⟩
  case done =>
    rintro D ys V hD rfl hI hK
    have HD := Lib.hid hK
    obtain ⟨⟨v, hbx, hrow⟩, hbp, hbs, hb⟩ := hI
    have c1 := hbx.cell
    have HI : Hid (AllI V w pp s _) := Lib.hid ⟨⟨v, hbx, hrow⟩, hbp, hbs, hb⟩
    have HRow := Lib.hid hrow
    clear hbx hrow hbp hbs hb hK
    dsimp only
    gi_wp2
    refine ⟨by simp, .inl ⟨_, _, rfl, run_takeDeferred HD.out, ?_⟩⟩
    refine ⟨_, results_tmp rfl _ _ _, ?_⟩
    have hf := HI.out.grow (C := W.heap.size) (by omega) (grownBy_putObj' V D (.deferred none)) (fun r e => by cases e; exact ⟨hD, _, HD.out, rfl⟩)
    refine ⟨v, rfl, ?_, hf.below⟩
    rw [HL.out]
    exact ownsRow_putObj HRow.out _ HD.out rfl
  case stop =>
    rintro D c pre V _ _ h _
    exact h.elim
end Go.Proofs.YtcojnkjcbopnbaaGreatDoor
