/- Merged by program: LayCat. -/
import Derived.Sort.CutIn
import Derived.Test.YtimipfdknfdbdaaGreatQsam
/- (*nfa.Prog).lay at parts one behind the other: a walk. -/
namespace Go.Proofs.YtimipfdknfdbdaaGreat
open Go.RowKit Go.Shelf
attribute [local go_sem] Oper.semAt_some

/-- Laying, at plans of at most so many storeys. -/
def LayIH (d : Nat) : Prop := ∀ (q : Plan) (cs : Array Value) (S : Nat → Prop) (next p : Nat) (ss : List St) (sv : Value) (st : Int) (w : World), PAt w S q cs → (∀ k, S k → k < p) → Wf d q → Mch w p ss sv st → ss.length + d * 250000 ≤ 100000000 →
  Calls Tryz.prog 21 #[.pointer (some ⟨p, 0, none⟩), .agg cs, .int .i64 next] w (Laid w p sv st (layN d q next ss))

theorem cells_ne {W : World} {row : Option Nat} {B : Nat} (hr : ∀ r, row = some r → B ≤ r ∧ ∃ o : Obj, W.heap[r]? = some o ∧ o.isCells = false) {k : Nat} {cs : Array Value} {t : TypeId} {fz : Nat × Nat} (h : W.heap[k]? = some (.cells cs t fz)) : some k ≠ row := by
  intro e
  obtain ⟨_, o, ho, hc⟩ := hr k e.symm
  rw [h] at ho
  cases ho
  cases hc
theorem One.grow {W W' : World} {row : Option Nat} {B : Nat} (hg : W.grownBy W' row) (hr : ∀ r, row = some r → B ≤ r ∧ ∃ o : Obj, W.heap[r]? = some o ∧ o.isCells = false) {b : Nat} {v : Value} {t : TypeId} (h : One W b v t) : One W' b v t := h.keep (hg.block b h.lt (cells_ne hr h.row))
theorem PBox.grow {W W' : World} {row : Option Nat} {B : Nat} (hg : W.grownBy W' row) (hr : ∀ r, row = some r → B ≤ r ∧ ∃ o : Obj, W.heap[r]? = some o ∧ o.isCells = false) {b : Nat} {cs : Array Value} (h : PBox W b cs) : PBox W' b cs := h.keep (hg.block b h.lt (cells_ne hr h.row))
theorem Mch.ne {W : World} {p : Nat} {ss : List St} {sv : Value} {st : Int} (h : Mch W p ss sv st) {k : Nat} {cs : Array Value} {t : TypeId} {fz : Nat × Nat} (hk : W.heap[k]? = some (.cells cs t fz)) (ht : t ≠ 69) : sv.ownBlock ≠ some k := by
  rcases h.own.2 with ⟨rfl, _⟩ | ⟨g, cap, cur, rfl, _, hg, _⟩
  · intro e; simp [Value.ownBlock] at e
  · intro e
    simp [Value.ownBlock] at e
    subst e
    rw [hg] at hk
    cases hk
    exact ht rfl
theorem Mch.neP {W : World} {p : Nat} {ss : List St} {sv : Value} {st : Int} (h : Mch W p ss sv st) {k : Nat} {cs : Array Value} {t : TypeId} {fz : Nat × Nat} (hk : W.heap[k]? = some (.cells cs t fz)) (ht : t ≠ 46) : k ≠ p := by
  rintro rfl
  rw [h.row] at hk
  cases hk
  exact ht rfl
theorem Mch.grow {W W' : World} {row : Option Nat} {B : Nat} (hg : W.grownBy W' row) (hr : ∀ r, row = some r → B ≤ r ∧ ∃ o : Obj, W.heap[r]? = some o ∧ o.isCells = false) {p : Nat} {ss : List St} {sv : Value} {st : Int} (h : Mch W p ss sv st) : Mch W' p ss sv st := by
  refine ⟨(hg.block p h.lt (cells_ne hr h.row)).trans h.row, h.own.kept hg ?_⟩
  rcases h.own.2 with ⟨rfl, _⟩ | ⟨g, cap, cur, rfl, _, hgg, _⟩
  · exact Or.inl rfl
  · exact Or.inr (cells_ne hr hgg)
theorem Turn.grow {p : Nat} {sv sv' : Value} {w W W' : World} {row : Option Nat} {B : Nat} (h : Turn p sv w W sv') (hB : w.heap.size ≤ B) (hg : W.grownBy W' row) (hr : ∀ r, row = some r → B ≤ r ∧ ∃ o : Obj, W.heap[r]? = some o ∧ o.isCells = false) : Turn p sv w W' sv' :=
  ⟨hg.os.trans h.os, hg.tape.trans h.tape, hg.output.trans h.output, Nat.le_trans h.size hg.size, fun k hk hp hs => (hg.block k (Nat.lt_of_lt_of_le hk h.size) (fun e => by have := (hr k e.symm).1; omega)).trans (h.block k hk hp hs), h.own⟩
theorem Turn.setNew {p : Nat} {sv sv' : Value} {w W : World} (h : Turn p sv w W sv') {b : Nat} (hb : w.heap.size ≤ b) (j : Nat) (v : Value) : Turn p sv w (W.setCell ⟨b, j, none⟩ v) sv' :=
  ⟨h.os, h.tape, h.output, by have := h.size; simpa using this, fun k hk hp hs => (heap_setCell_other W ⟨b, j, none⟩ k v (fun e => by have e' : k = b := e; omega)).trans (h.block k hk hp hs), h.own⟩
theorem Mch.setOther {W : World} {p : Nat} {ss : List St} {sv : Value} {st : Int} (h : Mch W p ss sv st) {b : Nat} (hp : b ≠ p) (hs : sv.ownBlock ≠ some b) (j : Nat) (v : Value) : Mch (W.setCell ⟨b, j, none⟩ v) p ss sv st :=
  ⟨(heap_setCell_other W ⟨b, j, none⟩ p v (fun e => hp e.symm)).trans h.row, ownsRow_setCell_other h.own (a := ⟨b, j, none⟩) hs _⟩
theorem One.setOther {w : World} {b b' : Nat} {v : Value} {t : TypeId} (h : One w b v t) (hb : b ≠ b') (j : Nat) (u : Value) : One (w.setCell ⟨b', j, none⟩ u) b v t := h.keep (heap_setCell_other w ⟨b', j, none⟩ b u hb)
/-- A box of another type than the machine's and its row's stays. -/
theorem One.turn {W W' : World} {p : Nat} {ss : List St} {sv sv' : Value} {st : Int} (hm : Mch W p ss sv st) (ht : Turn p sv W W' sv') {b : Nat} {v : Value} {t : TypeId} (h : One W b v t) (h1 : t ≠ 46) (h2 : t ≠ 69) : One W' b v t := ⟨ht.keep h.row (hm.neP h.row h1) (hm.ne h.row h2)⟩
theorem PBox.turn {W W' : World} {p : Nat} {ss : List St} {sv sv' : Value} {st : Int} (hm : Mch W p ss sv st) (ht : Turn p sv W W' sv') {b : Nat} {cs : Array Value} (h : PBox W b cs) : PBox W' b cs := ⟨ht.keep h.row (hm.neP h.row (by decide)) (hm.ne h.row (by decide))⟩
/-- What is no cells stays. -/
theorem Turn.others {p : Nat} {sv sv' : Value} {ss : List St} {st : Int} {w w' : World} (hm : Mch w p ss sv st) (h : Turn p sv w w' sv') (B : Nat) : KeepsFrom B w w' :=
  ⟨h.size, fun k o _ hk ho => h.keep hk (fun e => by subst e; rw [hm.row] at hk; cases hk; cases ho) (fun e => by
    rcases hm.own.2 with ⟨rfl, _⟩ | ⟨g, cap, cur, rfl, _, hg, _⟩
    · simp [Value.ownBlock] at e
    · simp [Value.ownBlock] at e
      subst e
      rw [hg] at hk
      cases hk
      cases ho)⟩

/-- Where the laying of parts one behind the other stands. -/
structure CatI (V w : World) (p : Nat) (sv : Value) (st : Int) (x : Mk) (n0 j B : Nat) (bv : Value) : Prop where
  ex : ∃ sv', Mch V p x.2 sv' st ∧ Turn p sv w V sv'
  ptr : One V w.heap.size (.pointer (some ⟨p, 0, none⟩)) 41
  nx : One V (w.heap.size + 2) (.int .i64 x.1) 3
  box : One V B bv 62
  len : x.2.length ≤ n0 + 500 * j
theorem CatI.grow {V V' w : World} {row : Option Nat} {p : Nat} {sv : Value} {st : Int} {x : Mk} {n0 j B C : Nat} {bv : Value} (h : CatI V w p sv st x n0 j B bv) (hC : w.heap.size ≤ C) (hg : V.grownBy V' row) (hr : ∀ r, row = some r → C ≤ r ∧ ∃ o : Obj, V.heap[r]? = some o ∧ o.isCells = false) : CatI V' w p sv st x n0 j B bv := by
  obtain ⟨⟨sv', h1, h2⟩, h3, h4, h5, h6⟩ := h
  exact ⟨⟨sv', h1.grow hg hr, h2.grow hC hg hr⟩, h3.grow hg hr, h4.grow hg hr, h5.grow hg hr, h6⟩

set_option maxRecDepth 100000 in
set_option maxHeartbeats 4000000 in
theorem lay_cat (d : Nat) (hih : LayIH d) (q : Plan) (a : Option Addr) (c : Nat) (S : Nat → Prop) (next p : Nat) (ss : List St) (sv : Value) (st : Int) (w : World) (hk : q.k = 4) (hat : PSl w S q.kids (.slice a q.kids.length c)) (hS : ∀ k, S k → k < p) (hw : Wf (d + 1) q) (h : Mch w p ss sv st)
    (hlen : ss.length + (d + 1) * 250000 ≤ 100000000) :
    Calls Tryz.prog 21 #[.pointer (some ⟨p, 0, none⟩), .agg (plC q.k q.f q.lo q.hi q.n (.slice a q.kids.length c)), .int .i64 next] w (Laid w p sv st (catN (layN d) q.kids next ss)) := by
  obtain ⟨b, cs, had, hbp, hbw, h9, hpa⟩ : ∃ (b : Nat) (cs : Nat → Array Value), (0 < q.kids.length → a = some ⟨b, 0, none⟩) ∧ (0 < q.kids.length → b < p) ∧ b < w.heap.size ∧ (∀ i, i < q.kids.length → Nine w b (i * 9) (cs i)) ∧ ∀ i (hi : i < q.kids.length), PAt w S q.kids[i] (cs i) := by
    rcases hat with ⟨e, _⟩ | ⟨hl, b, c', cs, e, _, hB, h9, hpa⟩
    · exact ⟨p, fun _ => zeroPl, fun h => by rw [e] at h; exact absurd h (by simp), fun h => by rw [e] at h; exact absurd h (by simp), h.lt, fun i hi => by rw [e] at hi; exact absurd hi (by simp), fun i hi => absurd hi (by rw [e]; simp)⟩
    · simp only [Value.slice.injEq] at e
      obtain ⟨rfl, _, _⟩ := e
      have h0 : 0 < q.kids.length := List.length_pos_iff.2 hl
      exact ⟨b, cs, fun _ => rfl, fun _ => hS b hB, (h9 0 h0).lt (hpa 0 h0).size, h9, hpa⟩
  obtain ⟨W, hW, HL, HB, HWs⟩ := layB_new w p (plC q.k q.f q.lo q.hi q.n (.slice a q.kids.length c)) next
  have e1 : (q.k == 1) = false := by rw [hk]; rfl
  have e2 : (q.k == 2) = false := by rw [hk]; rfl
  have e3 : (q.k == 3) = false := by rw [hk]; rfl
  have e4 : (q.k == 4) = true := by rw [hk]; rfl
  have HIH := Lib.hid hih
  have HAD := Lib.hid had
  have HBP := Lib.hid hbp
  have H9 := Lib.hid h9
  have HPA := Lib.hid hpa
  have HS := Lib.hid hS
  have HW := Lib.hid hw
  have HM := Lib.hid h
  have HLen := Lib.hid hlen
  have hfew := hw.1.few
  have hpw := h.lt
  clear hk hih had hbp h9 hpa hS hw h hlen hat
  refine (callsIn_wide (n := 5)).1 ?_
  refine callsIn_of_wp_marks Tryz.func21 rfl trivial ?_ rfl
  simp only [Tryz.ntmps21, List.size_toArray, List.length_cons, List.length_nil, Nat.reduceAdd, Nat.reduceSub, Array.replicate_succ, Array.replicate_zero, List.push_toArray, List.append_toArray, List.nil_append, List.cons_append]
  gi_upto_region 1 with (fail)
  rw [← hW]
  clear hW
  obtain ⟨c0, c1, c2, c3, c4, c5, c6, c7, c8⟩ := nine_pl HL.out.q.nine
  have d0 := HL.out.ptr.c
  have d2 := HL.out.nx.c
  gi_wp2_with fail
  refine ⟨trivial, ?_⟩
  refine (backward_in Fence.wide _ trivial rfl _ _ _ _).mono ?_
  rintro e w' ⟨rfl, rfl⟩
  gi_wp2_with fail
  obtain ⟨W0, hW0⟩ : ∃ W0, W0 = W.alloc (.cells #[.slice a q.kids.length c] 62) := ⟨_, rfl⟩
  have hbW : Below W.heap.size W W0 := by rw [hW0]; exact below_new _ _
  have hbw0 : Below w.heap.size w W0 := Below.step HB.out hbW
  have hsz0 : W0.heap.size ≤ w.heap.size + 4 := by rw [hW0, World.size_alloc, HWs.out]; omega
  have hsz1 : w.heap.size + 4 ≤ W0.heap.size := by rw [hW0, World.size_alloc, HWs.out]; omega
  have hbox : One W0 W.heap.size (.slice a q.kids.length c) 62 := by rw [hW0]; exact one_new _ _ _
  have hsW : W.heap.size ≤ w.heap.size + 3 := by rw [HWs.out]; omega
  have hsW1 : w.heap.size + 3 ≤ W.heap.size := by rw [HWs.out]; omega
  rw [← hW0]
  clear hW0 c0 c1 c2 c3 c4 c5 c6 c7 c8 d0 d2 e1 e2 e3 e4
  refine wpIn_rangeFunc_ownH rfl (by decide) (gf := 53) (lb := #[.pointer (some ⟨W.heap.size, 0, none⟩)]) rfl trivial (enters_of Tryz.func53 (by kernel_rfl) rfl)
    (backward_stops Fence.wide (5 - 1) trivial rfl (by decide) W.heap.size b q.kids.length c cs (by omega) W0 a HAD.out hbox.c (by omega) (fun i hi => (H9.out i hi).keep (hbw0.block b hbw)) (fun i hi => by
      obtain ⟨sl, e, hs⟩ := (HPA.out i hi).open
      obtain ⟨a', c', rfl⟩ := hs.shape
      exact ⟨_, _, _, _, _, _, _, _, e⟩)) KeepB.trans (KeepB.put (by omega) (by omega)) (Below.refl _ _) (fun _ => rfl)
    (fun pre V => CatI V w p sv st (pre.foldl (fun x i => layN d q.kids[i] x.1 x.2) (next, ss)) ss.length pre.length W.heap.size (.slice a q.kids.length c))
    (fun _ _ _ => False)
    (fun _ _ _ _ hs hg hr => hs.grow (by omega) hg hr)
    (fun _ _ _ _ _ hs _ _ => hs)
    ⟨⟨sv, HM.out.after hbw0, Turn.of hbw0⟩, HL.out.ptr.after hbW, HL.out.nx.after hbW, hbox, by simp⟩
    (fun x a' V => ∃ Bx, PBox V Bx (cs x.val) ∧ a' = { tmps := #[.pointer (some ⟨p, 0, none⟩), .agg (plC q.k q.f q.lo q.hi q.n (.slice a q.kids.length c)), .int .i64 next, .pointer (some ⟨w.heap.size, 0, none⟩), .pointer (some ⟨w.heap.size + 1, 0, none⟩), .pointer (some ⟨w.heap.size + 1 + 1, 0, none⟩), .int .i64 0, undef, .pointer (some ⟨Bx, 0, none⟩), .pointer (some ⟨w.heap.size + 1, 0, none⟩), .int .i64 q.k, .bool false, .bool false, undef, undef, undef, undef, undef, undef, .bool false, .bool false, undef, undef, undef, undef, .bool false, .bool false, undef, undef, undef, undef, .bool true, .bool true, .pointer (some ⟨w.heap.size + 1, 8, none⟩), .slice a q.kids.length c, .func (.func 53) #[] #[.pointer (some ⟨W.heap.size, 0, none⟩)], .int .i64 (x.val : Nat), .agg (cs x.val), undef, undef, undef, undef, undef, undef, undef, undef, undef, undef, undef, undef, undef, undef, undef, undef, undef, undef, undef], defers := [] })
    (fun _ _ _ _ _ _ hs hg hr => by
      obtain ⟨Bx, h1, h2⟩ := hs
      exact ⟨Bx, h1.grow hg hr, h2⟩) ?assign ?body ?done ?stop
  case assign =>
    intro l pre x V K hI hK
    obtain ⟨sl', e, hs'⟩ := (HPA.out x.val x.isLt).open
    obtain ⟨ax, cx, rfl⟩ := hs'.shape
    have HE := Lib.hid e
    have HI := Lib.hid hI
    have HK := Lib.hid hK
    have hbV : b < V.heap.size ∧ W.heap.size < V.heap.size := by
      obtain ⟨sv', _, hT⟩ := hI.ex
      have h1 := hT.size
      have h2 := hI.box.lt
      exact ⟨by omega, h2⟩
    rw [e]
    unfold plC
    clear e hs' hI hK
    gi_wp2
    refine HK.out _ _ ((KeepsOthers.alloc _ _).from _) ⟨(below_new V _).block _ hbV.2, (below_new V _).block _ hbV.1⟩ (HI.out.grow (Nat.le_refl _) (World.grownBy_alloc V _ none) (fun r e => by cases e)) ⟨V.heap.size, by rw [HE.out]; exact pbox_new _ _, by rw [HE.out]; rfl⟩
  case body =>
    rintro l pre x a' V hl ⟨r, hr⟩ hI ⟨Bx, hbx, rfl⟩ hlt
    have him := x.isLt
    obtain ⟨sl', e, hs'⟩ := (HPA.out x.val x.isLt).open
    obtain ⟨ax, cx, rfl⟩ := hs'.shape
    obtain ⟨⟨sv', hM, hT⟩, hptr, hnx, hbx0, hln⟩ := hI
    obtain ⟨y, hy⟩ : ∃ y : Mk, y = pre.foldl (fun x i => layN d q.kids[i] x.1 x.2) (next, ss) := ⟨_, rfl⟩
    have hnext : (pre ++ [x]).foldl (fun x i => layN d q.kids[i] x.1 x.2) (next, ss) = layN d q.kids[x] y.1 y.2 := by rw [List.foldl_append, hy]; rfl
    rw [← hy] at hM hnx hln
    have hkeep : ∀ k, k < p → k < w.heap.size → V.heap[k]? = w.heap[k]? := fun k hk hkw =>
      hT.block k hkw (by omega) (fun e => by have := (HM.out.own.lt k e).1; omega)
    have hpx : PAt V S q.kids[x] (cs x.val) := (HPA.out x.val x.isLt).keep fun k hk hlt' => hkeep k (HS.out k hk) hlt'
    have hwx : Wf d q.kids[x] := HW.out.2 _ (List.getElem_mem x.isLt)
    have hlx := layN_len d q.kids[x] y.1 y.2 hwx
    have hnx5 := hwx.own.n
    have h500 : 500 * pre.length ≤ 250000 := by have : pre.length ≤ 500 := by omega
                                                omega
    have HLx := Lib.hid (show (layN d q.kids[x] y.1 y.2).2.length ≤ ss.length + 500 * (pre ++ [x]).length by rw [List.length_append, List.length_singleton]; omega)
    have HC := Lib.hid (HIH.out q.kids[x] (cs x.val) S y.1 p y.2 sv' st V hpx HS.out hwx hM (by have := HLen.out; omega))
    rw [e] at HC hbx
    have HNX := Lib.hid hnext
    have HT := Lib.hid hT
    have HM1 := Lib.hid hM
    have HPtr := Lib.hid hptr
    have HNx := Lib.hid hnx
    have HBx := Lib.hid hbx0
    have c0 := hptr.c
    have c1 := hnx.c
    obtain ⟨q0, q1, q2, q3, q4, q5, q6, q7, q8⟩ := nine_pl hbx.nine
    clear e hs' hy hln hkeep hpx hwx hlx hnx5 h500 hnext hT hM hptr hnx hbx hbx0
    unfold plC at HC
    dsimp only
    gi_wp2_with fail
    refine ⟨trivial, ?_⟩
    refine (CallsIn.inRound l (callsIn_wide.2 HC.out)).mono ?_
    rintro e V1 ⟨sv2, rfl, hM2, hT2⟩
    have hx2 := HNx.out.turn HM1.out hT2 (by decide) (by decide)
    have hx0 := HPtr.out.turn HM1.out hT2 (by decide) (by decide)
    have hx3 := HBx.out.turn HM1.out hT2 (by decide) (by decide)
    have z2 := hx2.z
    have k2 := hx2.c
    have HX2 := Lib.hid hx2
    have HX0 := Lib.hid hx0
    have HX3 := Lib.hid hx3
    have HM2 := Lib.hid hM2
    have HT2 := Lib.hid hT2
    clear hx2 hx0 hx3 hM2 hT2
    gi_wp2_with fail
    have hne := HM2.out.ne HX2.out.row (by decide)
    have hneP := HM2.out.neP HX2.out.row (by decide)
    have hbV : b < V.heap.size := by have := HT.out.size; omega
    have hbp0 : b < p := HBP.out (by omega)
    refine ⟨(Turn.others HM1.out HT2.out _).trans ((KeepsOthers.setCell _ _ _).from _), ⟨?_, ?_⟩, ⟨sv2, by rw [HNX.out]; exact HM2.out.setOther hneP hne 0 _, (HT.out.trans HT2.out).setNew (by omega) 0 _⟩, HX0.out.setOther (by omega) 0 _, ?_, HX3.out.setOther (by omega) 0 _, ?_⟩
    · exact ((HX3.out.setOther (b' := w.heap.size + 1 + 1) (by omega) 0 _).row).trans HBx.out.row.symm
    · exact (heap_setCell_other V1 ⟨w.heap.size + 1 + 1, 0, none⟩ b _ (fun e => by have e' : b = w.heap.size + 1 + 1 := e; omega)).trans (HT2.out.block b hbV (by omega) (fun e => by have := (HM1.out.own.lt b e).1; omega))
    · rw [HNX.out]
      exact HX2.out.set _
    · rw [HNX.out]
      exact HLx.out
  case done =>
    rintro D ys V hD rfl hI hK
    have HD := Lib.hid hK
    have c1 := hI.nx.c
    have HI := Lib.hid hI
    clear hI hK
    dsimp only
    gi_wp2
    refine ⟨by simp, .inl ⟨_, _, rfl, run_takeDeferred HD.out, ?_⟩⟩
    refine ⟨_, results_tmp rfl _ _ _, ?_⟩
    have hf := HI.out.grow (C := W0.heap.size) (by omega) (grownBy_putObj' V D (.deferred none)) (fun r e => by cases e; exact ⟨hD, _, HD.out, rfl⟩)
    obtain ⟨⟨sv', hM, hT⟩, _, _, _, _⟩ := hf
    exact ⟨sv', rfl, hM, hT⟩
  case stop =>
    rintro D c pre V _ _ h _
    exact h.elim
end Go.Proofs.YtimipfdknfdbdaaGreat
