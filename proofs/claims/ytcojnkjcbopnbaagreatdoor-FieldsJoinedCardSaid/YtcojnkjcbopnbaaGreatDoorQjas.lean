/- Merged by program: Round, LayAlt. -/
import Derived.OrdersHeld
import Derived.OrdersIn
import Derived.Test.YtcojnkjcbopnbaaGreatDoorQjar
/- A drawn region in a round of a range over a function, a state being held. -/
namespace Go.Proofs.YtcojnkjcbopnbaaGreatDoor
open Go.RowKit Go.Shelf

section
variable {P : Program} {ops : Array Oper} {Q : Exit → Act → World → Prop} {md : Region.Mode} {S : World → Prop}
theorem depth_none {n : Nat} (l : Nat) (h : (Fence.wide.inRound l).depth.isSome = true) : 1 ≤ n := by simp [Fence.wide] at h
def noDefer (o : Oper) : Bool := match o.op with | .defer _ => false | _ => true
theorem noDefer_spec {i : Nat} {o : Oper} (h : ops.all noDefer = true) (he : ops[i]? = some o) : ∀ c, o.op ≠ .defer c := by
  intro c e
  rw [Array.all_eq_true_iff_forall_mem] at h
  have := h o (Array.mem_of_getElem? he)
  unfold noDefer at this
  rw [e] at this
  cases this
theorem oper_round {l n : Nat} {o : Oper} {a : Act} {w : World} {next : Act → World → Prop} (hd : ∀ c, o.op ≠ .defer c) (h : o.wp P a w next Q) : o.wpIn (Fence.wide.inRound l) n P a w next Q := by
  unfold Oper.wpIn
  refine ⟨fun _ _ => trivial, ?_⟩
  rw [Oper.semAt_plain _ _ _ hd]
  unfold Oper.wp at h
  generalize (execOp a.eval o).run P w = r at h ⊢
  cases r with
  | ok x w' =>
    cases x <;> simp only [Oper.upon, Oper.uponIn] at h ⊢ <;>
      first
        | exact h
        | exact ⟨depth_none l, CallsIn.inRound l (callsIn_wide.2 h)⟩
        | exact ⟨depth_none l, fun c cs _ => let ⟨v, w2, r, s⟩ := h c cs; ⟨v, w2, r, stepsIn_wide.2 s⟩⟩
  | halt x w' => cases x <;> simp only [Oper.upon, Oper.uponIn] at h ⊢ <;> exact h
theorem wpAny_round {l n : Nat} (hd : ops.all noDefer = true) (hlo : ¬ LetsOut Q) : ∀ (fuel : Nat) (listed : Array Bool) (a : Act) (w : World), wpAny P md ops Q fuel listed a w → wpAnyIn (Fence.wide.inRound l) n P md ops Q fuel listed a w := by
  intro fuel
  induction fuel with
  | zero => intro listed a w h; exact h
  | succ fuel ih =>
    intro listed a w h
    refine ⟨h.1, fun i hi => ?_⟩
    have h2 := h.2 i hi
    unfold wpOp at h2
    unfold wpOpIn
    split
    · rename_i he; rw [he] at h2; exact ih _ _ _ h2
    · rename_i o he
      rw [he] at h2
      simp only at h2
      split
      · rename_i hw
        rw [if_pos hw] at h2
        rcases h2 with h2 | ⟨_, h2⟩
        · exact oper_round (noDefer_spec hd he) (Oper.wp_mono (fun a w => ih _ a w) h2)
        · exact absurd h2 hlo
      · rename_i hw
        rw [if_neg hw] at h2
        exact ⟨fun _ _ => trivial, ih _ _ _ h2⟩
/-- The region's law. -/
theorem region_round {l n id : Nat} {a : Act} {w : World} (hm : P.follows .mixedOrders = true) (hd : ops.all noDefer = true) (hlo : ¬ LetsOut Q)
    (h : wpAnyH P .any ops Q S ops.size (Array.replicate ops.size false) a w.drew) : (Code.region id ops true).wpIn (Fence.wide.inRound l) n P Q a w :=
  wpIn_region_any hm (wpAny_round hd hlo _ _ _ _ (wpAny_of_held _ _ _ _ h))
/-- A region that ends calmly. -/
theorem region_calm {n id : Nat} {b : Bool} {a : Act} {w : World} {K : Act → World → Prop} {Q' : Exit → Act → World → Prop} (h : (Code.region id ops b).wp P (Exit.then K (fun _ _ _ => False)) a w) : (Code.region id ops b).wpIn Fence.wide n P (Exit.then K Q') a w :=
  wpIn_wide.2 (wp_mono h (fun e a w h => by cases e <;> first | exact h | exact h.elim))
/-- An operation of a drawn region that its guard wants, taken first. -/
theorem takeW {i d : Nat} {oi : Oper} {v : Value} {fuel : Nat} {listed : Array Bool} {a : Act} {w : World} (hi : ops[i]? = some oi) (hd : oi.dst = some d)
    (hs : Region.noSelect ops = true) (hf : Region.free md ops listed i = true) (hr : (Region.ready md ops listed).contains i = true)
    (hQ : ∀ c a w, Q (.panic c) (a.put (some d) v) w → Q (.panic c) a w) (hw : Region.wanted oi (yielded ops a.tmps) = true) (hx : ∀ w, S w → (execOp a.eval oi).run P w = .ok (.value v) w) (hS : S w)
    (h : wpAnyH P md ops Q S fuel (listed.setIfInBounds i true) ⟨a.tmps.setIfInBounds d v, a.defers⟩ w) : wpAnyH P md ops Q S (fuel + 1) listed a w :=
  wpAnyH_take hi hs hf hr (by rw [hd]; exact hQ) (Or.inl ⟨hw, hx⟩) hS (by rw [hd]; exact h)
/-- The one operation that may come up. -/
theorem onlyW {i : Nat} {oi : Oper} {fuel : Nat} {listed : Array Bool} {a : Act} {w : World} (hi : ops[i]? = some oi) (hr : Region.ready md ops listed = [i]) (hw : Region.wanted oi (yielded ops a.tmps) = true)
    (h : oi.wp P a w (fun a' w' => S w' ∧ wpAnyH P md ops Q S fuel (listed.setIfInBounds i true) a' w') Q) : wpAnyH P md ops Q S (fuel + 1) listed a w := by
  refine wpAnyH_all hr (by simp) fun j hj => ?_
  rw [List.mem_singleton.1 hj]
  unfold wpOp
  rw [hi]
  simp only
  rw [if_pos hw]
  exact Or.inl h
end
end Go.Proofs.YtcojnkjcbopnbaaGreatDoor

/- (*nfa.Prog).layBranches: a walk. -/
namespace Go.Proofs.YtcojnkjcbopnbaaGreatDoor
open Go.RowKit Go.Shelf
attribute [local go_sem] Oper.semAt_some

/-- Where the laying of branches stands. -/
structure AltI (V w : World) (p : Nat) (sv : Value) (st : Int) (x : Mk) (next n0 j Bf : Nat) : Prop where
  ex : ∃ sv', Mch V p x.2 sv' st ∧ Turn p sv w V sv'
  ptr : One V w.heap.size (.pointer (some ⟨p, 0, none⟩)) 82
  nx : One V (w.heap.size + 1) (.int .i64 next) 3
  first : One V Bf (.int .i64 x.1) 3
  len : x.2.length ≤ n0 + 500 * (j + 1)
  far : w.heap.size + 2 ≤ Bf
theorem AltI.grow {V V' w : World} {row : Option Nat} {p : Nat} {sv : Value} {st : Int} {x : Mk} {next n0 j Bf C : Nat} (h : AltI V w p sv st x next n0 j Bf) (hC : w.heap.size ≤ C) (hg : V.grownBy V' row) (hr : ∀ r, row = some r → C ≤ r ∧ ∃ o : Obj, V.heap[r]? = some o ∧ o.isCells = false) : AltI V' w p sv st x next n0 j Bf := by
  obtain ⟨⟨sv', h1, h2⟩, h3, h4, h5, h6, h7⟩ := h
  exact ⟨⟨sv', h1.grow hg hr, h2.grow hC hg hr⟩, h3.grow hg hr, h4.grow hg hr, h5.grow hg hr, h6, h7⟩

theorem two_new (w : World) (p next : Nat) : ∃ W, W = (w.alloc (.cells #[.pointer (some ⟨p, 0, none⟩)] 82)).alloc (.cells #[.int .i64 next] 3) ∧ Hid (One W w.heap.size (.pointer (some ⟨p, 0, none⟩)) 82) ∧ Hid (One W (w.heap.size + 1) (.int .i64 next) 3) ∧ Hid (Below w.heap.size w W) ∧ Hid (W.heap.size = w.heap.size + 2) := by
  have s1 : (w.alloc (.cells #[.pointer (some ⟨p, 0, none⟩)] 82)).heap.size = w.heap.size + 1 := World.size_alloc _ _
  have h2 := one_new (w.alloc (.cells #[.pointer (some ⟨p, 0, none⟩)] 82)) (.int .i64 next) 3
  rw [s1] at h2
  exact ⟨_, rfl, Lib.hid ((one_new w _ _).after (below_new _ _)), Lib.hid h2, Lib.hid (Below.step (below_new _ _) (below_new _ _)), Lib.hid (by rw [World.size_alloc, s1])⟩

/-- What the first part's laying loads. -/
structure LdS (w : World) (p next b o : Nat) (cs : Array Value) (V : World) : Prop where
  ptr : One V w.heap.size (.pointer (some ⟨p, 0, none⟩)) 82
  nx : One V (w.heap.size + 1) (.int .i64 next) 3
  part : Nine V b o cs
theorem LdS.after {w : World} {p next b o : Nat} {cs : Array Value} {V V' : World} (h : LdS w p next b o cs V) (hs : cs.size = 9) (hb : Below V.heap.size V V') : LdS w p next b o cs V' := ⟨h.ptr.after hb, h.nx.after hb, h.part.after hs hb⟩
theorem LdS.turn {w : World} {p next b o : Nat} {cs : Array Value} {V V' : World} (h : LdS w p next b o cs V) (hs : cs.size = 9) {ss : List St} {sv sv' : Value} {st : Int} (hm : Mch V p ss sv st) (ht : Turn p sv V V' sv') (hb : b < p) : LdS w p next b o cs V' :=
  ⟨h.ptr.turn hm ht (by decide) (by decide), h.nx.turn hm ht (by decide) (by decide), h.part.keep (ht.block b (h.part.lt hs) (by omega) (fun e => by have := (hm.own.lt b e).1; omega))⟩

theorem LdS.put {w : World} {p next b o : Nat} {cs : Array Value} {V : World} (h : LdS w p next b o cs V) {B : Nat} (h1 : w.heap.size + 2 ≤ B) (h2 : b ≠ B) (v : Value) : LdS w p next b o cs (V.setCell ⟨B, 0, none⟩ v) :=
  ⟨h.ptr.setOther (by omega) 0 v, h.nx.setOther (by omega) 0 v, h.part.keep (heap_setCell_other V ⟨B, 0, none⟩ b v h2)⟩

/-- What a further part's laying loads. -/
structure BdS (w : World) (p next Bx : Nat) (cs : Array Value) (V : World) : Prop where
  ptr : One V w.heap.size (.pointer (some ⟨p, 0, none⟩)) 82
  nx : One V (w.heap.size + 1) (.int .i64 next) 3
  part : PBox V Bx cs
theorem BdS.after {w : World} {p next Bx : Nat} {cs : Array Value} {V V' : World} (h : BdS w p next Bx cs V) (hb : Below V.heap.size V V') : BdS w p next Bx cs V' := ⟨h.ptr.after hb, h.nx.after hb, h.part.after hb⟩
theorem BdS.turn {w : World} {p next Bx : Nat} {cs : Array Value} {V V' : World} (h : BdS w p next Bx cs V) {ss : List St} {sv sv' : Value} {st : Int} (hm : Mch V p ss sv st) (ht : Turn p sv V V' sv') : BdS w p next Bx cs V' :=
  ⟨h.ptr.turn hm ht (by decide) (by decide), h.nx.turn hm ht (by decide) (by decide), h.part.turn hm ht⟩
theorem BdS.put {w : World} {p next Bx : Nat} {cs : Array Value} {V : World} (h : BdS w p next Bx cs V) {B : Nat} (h1 : w.heap.size + 2 ≤ B) (h2 : Bx ≠ B) (v : Value) : BdS w p next Bx cs (V.setCell ⟨B, 0, none⟩ v) :=
  ⟨h.ptr.setOther (by omega) 0 v, h.nx.setOther (by omega) 0 v, h.part.keep (heap_setCell_other V ⟨B, 0, none⟩ Bx v h2)⟩

theorem grownBy_of' {W W' : World} (h : Below W.heap.size W W') : W.grownBy W' none := ⟨h.os, h.tape, h.output, h.size, fun k hk _ => h.block k hk⟩
theorem altN_of (lay : Plan → Nat → List St → Mk) (l ps : List Plan) (q : Plan) (next : Nat) (ss : List St) (h1 : l.dropLast = ps) (h2 : l.getLast? = some q) :
    altN lay l next ss = (revF ps.length).foldl (fun x i => branchN (lay ps[i]) next x) (lay q next ss) := by
  subst h1
  unfold altN
  rw [h2]

set_option maxRecDepth 100000 in
set_option maxHeartbeats 4000000 in
theorem layBranches_spec (d : Nat) (hih : LayIH d) (ps : List Plan) (m : Nat) (hm : m = ps.length) (q : Plan) (a : Option Addr) (c : Nat) (S : Nat → Prop) (next p : Nat) (ss : List St) (sv : Value) (st : Int) (w : World) (hfew : m ≤ 499) (hat : PSl w S (ps ++ [q]) (.slice a (m + 1) c)) (hS : ∀ k, S k → k < p) (hw : ∀ x, x ∈ ps → Wf d x) (hwq : Wf d q) (h : Mch w p ss sv st)
    (hlen : ss.length + (d + 1) * 250000 ≤ 100000000) :
    Calls Tryz.prog 98 #[.pointer (some ⟨p, 0, none⟩), .slice a (m + 1) c, .int .i64 next] w (Laid w p sv st (altN (layN d) (ps ++ [q]) next ss)) := by
  obtain ⟨b, cs, rfl, hcc, hbp, hbw, h9, hpa, hpq⟩ : ∃ (b : Nat) (cs : Nat → Array Value), a = some ⟨b, 0, none⟩ ∧ m + 1 ≤ c ∧ b < p ∧ b < w.heap.size ∧ (∀ i, i < m + 1 → Nine w b (i * 9) (cs i)) ∧ (∀ i (hi : i < ps.length), PAt w S ps[i] (cs i)) ∧ PAt w S q (cs m) := by
    rcases hat with ⟨e, _⟩ | ⟨hl, b, c', cs, e, hc, hB, h9, hpa⟩
    · exact absurd e (by simp)
    · have hl1 : (ps ++ [q]).length = m + 1 := by rw [hm]; simp
      rw [hl1] at e hc h9
      simp only [Value.slice.injEq] at e
      obtain ⟨rfl, _, rfl⟩ := e
      refine ⟨b, cs, rfl, hc, hS b hB, (h9 0 (by omega)).lt (hpa 0 (by omega)).size, h9, fun i hi => ?_, ?_⟩
      · have := hpa i (by omega)
        rwa [List.getElem_append_left hi] at this
      · have := hpa m (by omega)
        rwa [List.getElem_append_right (by omega), List.getElem_singleton] at this
  rw [altN_of (layN d) (ps ++ [q]) ps q next ss (by simp) (by simp)]
  obtain ⟨W, hW, HPtr, HNx, HB, HWs⟩ := two_new w p next
  obtain ⟨k0, f0, lo0, hi0, n0, a0, q0v, c0', e0⟩ : ∃ (k : Int) (f : Nat → Nat) (lo hi : Int) (n : Nat) (a : Option Addr) (q c : Nat), cs m = plC k f lo hi n (.slice a q c) := by
    obtain ⟨sl', e, hs'⟩ := hpq.open
    obtain ⟨ax, cx, rfl⟩ := hs'.shape
    exact ⟨_, _, _, _, _, _, _, _, e⟩
  have h9m := (h9 m (by omega)).after hpq.size HB.out
  have HIH := Lib.hid hih
  have H9 := Lib.hid h9
  have HPA := Lib.hid hpa
  have HS := Lib.hid hS
  have HW := Lib.hid hw
  have HM := Lib.hid h
  have HLen := Lib.hid hlen
  have hpw := h.lt
  have hlen2 : ss.length + d * 250000 ≤ 100000000 := Nat.le_trans (Nat.add_le_add_left (Nat.mul_le_mul_right _ (Nat.le_succ d)) _) hlen
  have HL1 : Hid (∀ V, Below W.heap.size W V → Calls Tryz.prog 68 #[.pointer (some ⟨p, 0, none⟩), .agg (cs m), .int .i64 next] V (Laid V p sv st (layN d q next ss))) := Lib.hid (fun V hV => by
    have hb := Below.step HB.out hV
    exact hih q (cs m) S next p ss sv st V (hpq.after hb) hS hwq (h.after hb) hlen2)
  have hMV : Hid (∀ V, Below W.heap.size W V → Mch V p ss sv st) := Lib.hid (fun V hV => h.after (Below.step HB.out hV))
  have HLq := Lib.hid (layN_len d q next ss hwq)
  have HNq := Lib.hid hwq.own.n
  rw [e0] at h9m HL1
  obtain ⟨q0, q1, q2, q3, q4, q5, q6, q7, q8⟩ := nine_pl h9m
  unfold plC at HL1
  have HE0 := Lib.hid e0
  have H9m := Lib.hid h9m
  clear hih h9 hpa hpq hS hw hwq h hlen hat e0 h9m
  have d0 := HPtr.out.c
  have d1 := HNx.out.c
  refine (callsIn_wide (n := 5)).1 ?_
  refine callsIn_of_wp_marks Tryz.func98 rfl trivial ?_ rfl
  simp only [Tryz.ntmps98, List.size_toArray, List.length_cons, List.length_nil, Nat.reduceAdd, Nat.reduceSub, Array.replicate_succ, Array.replicate_zero, List.push_toArray, List.append_toArray, List.nil_append, List.cons_append]
  have HMm := Lib.hid hm; clear hm
  gi_upto_region 1 with (fail)
  rw [← hW]
  clear hW
  gi_upto_region 2 with (fail)
  have S0 : LdS w p next b (m * 9) (plC k0 f0 lo0 hi0 n0 (.slice a0 q0v c0')) W.drew := LdS.after ⟨HPtr.out, HNx.out, H9m.out⟩ rfl (below_drew W)
  clear q0 q1 q2 q3 q4 q5 q6 q7 q8 d0 d1
  refine region_calm ?_
  refine wp_region_held_drew (S := LdS w p next b (m * 9) (plC k0 f0 lo0 hi0 n0 (.slice a0 q0v c0'))) (by kernel_rfl) S0 (fun hS => ?_)
  clear S0
  refine takeW (i := 0) (d := 14) (v := .pointer (some ⟨p, 0, none⟩)) rfl rfl (by kernel_rfl) (by kernel_rfl) (by kernel_rfl) (fun _ _ _ h => h) (by rfl) (fun w' hSw => by have c0 := hSw.ptr.c; go_simp) hS ?_
  simp only [List.setIfInBounds_toArray, List.set_cons_zero, List.set_cons_succ]
  refine takeW (i := 1) (d := 15) (v := .slice (some ⟨b, 0, none⟩) (m + 1) c) rfl rfl (by kernel_rfl) (by kernel_rfl) (by kernel_rfl) (fun _ _ _ h => h) (by rfl) (fun w' hSw => by go_simp) hS ?_
  simp only [List.setIfInBounds_toArray, List.set_cons_zero, List.set_cons_succ]
  refine takeW (i := 2) (d := 16) (v := .int .i64 m) rfl rfl (by kernel_rfl) (by kernel_rfl) (by kernel_rfl) (fun _ _ _ h => h) (by rfl) (fun w' hSw => by go_simp) hS ?_
  simp only [List.setIfInBounds_toArray, List.set_cons_zero, List.set_cons_succ]
  refine takeW (i := 3) (d := 17) (v := .pointer (some ⟨b, m * 9, none⟩)) rfl rfl (by kernel_rfl) (by kernel_rfl) (by kernel_rfl) (fun _ _ _ h => h) (by rfl) (fun w' hSw => by go_simp; intro h; omega) hS ?_
  simp only [List.setIfInBounds_toArray, List.set_cons_zero, List.set_cons_succ]
  refine takeW (i := 4) (d := 18) (v := .agg (plC k0 f0 lo0 hi0 n0 (.slice a0 q0v c0'))) rfl rfl (by kernel_rfl) (by kernel_rfl) (by kernel_rfl) (fun _ _ _ h => h) (by rfl) (fun w' hSw => by obtain ⟨r0, r1, r2, r3, r4, r5, r6, r7, r8⟩ := nine_pl hSw.part; unfold plC; go_simp) hS ?_
  simp only [List.setIfInBounds_toArray, List.set_cons_zero, List.set_cons_succ]
  refine takeW (i := 5) (d := 19) (v := .int .i64 next) rfl rfl (by kernel_rfl) (by kernel_rfl) (by kernel_rfl) (fun _ _ _ h => h) (by rfl) (fun w' hSw => by have c0 := hSw.nx.c; go_simp) hS ?_
  simp only [List.setIfInBounds_toArray, List.set_cons_zero, List.set_cons_succ]
  refine wpAnyH_ready (rs := [6, 7]) (by kernel_rfl) (by simp) ?_
  refine AllReadyH.cons rfl (fun X hX => ?_) (AllReadyH.cons rfl (fun X hX => ?_) AllReadyH.nil)
  rw [if_pos (by rfl)]
  go_simp
  refine (HL1.out _ (below_drew W)).mono ?_
  rintro e w1 ⟨sv1, rfl, hM1, hT1⟩
  have hS1 := hS.turn rfl (hMV.out _ (below_drew W)) hT1 hbp
  have HM1 := Lib.hid hM1
  have HT1 := Lib.hid ((Turn.of (below_drew W)).trans hT1)
  have hw1 : W.heap.size ≤ w1.heap.size := hT1.size
  clear hM1 hT1 hS
  go_wp2_with fail
  refine hX.out _ _ hS1 (fun _ => ?_)
  clear hX X
  refine wpAnyH_ready (rs := [7]) (by kernel_rfl) (by simp) ?_
  refine AllReadyH.cons rfl (fun X hX => ?_) AllReadyH.nil
  rw [if_pos (by rfl)]
  go_simp
  have hb2 := below_new w1 (.cells #[.int .i64 0] 3)
  have hS2 := hS1.after rfl hb2
  have hx := one_new w1 (.int .i64 0) 3
  refine hX.out _ _ hS2 (fun _ => ?_)
  clear hX X
  have k0' := hx.c
  have z0' := hx.z
  refine wpAnyH_ready (rs := [8]) (by kernel_rfl) (by simp) ?_
  refine AllReadyH.cons rfl (fun X hX => ?_) AllReadyH.nil
  rw [if_pos (by rfl)]
  go_simp
  clear k0' z0'
  have hb3 := below_new w1 (.cells #[.int .i64 (layN d q next ss).1] 3)
  have hx3 := one_new w1 (.int .i64 (layN d q next ss).1) 3
  have h4 := hS1.after rfl hb3
  refine hX.out _ _ h4 (fun _ => ?_)
  clear hX X
  refine wpAnyH_done (by kernel_rfl) ?_ _
  obtain ⟨Bf, hBf⟩ : ∃ Bf, Bf = w1.heap.size := ⟨_, rfl⟩
  obtain ⟨Z, hZ⟩ : ∃ Z, Z = w1.alloc (.cells #[.int .i64 (layN d q next ss).1] 3) := ⟨_, rfl⟩
  have HA : Hid (AltI Z w p sv st (layN d q next ss) next ss.length 0 Bf) := Lib.hid (by
    rw [hZ, hBf]
    exact ⟨⟨sv1, HM1.out.after hb3, ((Turn.of HB.out).trans HT1.out).then hb3⟩, h4.ptr, h4.nx, hx3, by have := HLq.out; have := HNq.out; omega, by have := HWs.out; omega⟩)
  rw [← hZ, ← hBf]
  clear hZ hBf hx hx3 h4 hb3 hS1 hS2 hb2 hw1 HM1 HT1
  rotate_left
  obtain ⟨D, hD⟩ : ∃ D, D = (W.alloc (.cells #[.int .i64 0] 3)).drew := ⟨_, rfl⟩
  have hx0 : One D W.heap.size (.int .i64 0) 3 := by rw [hD]; exact (one_new W _ _).after (below_drew _)
  have hbD : Below W.heap.size W D := by rw [hD]; exact (below_new W _).drew
  have hsD : D.heap.size = W.heap.size + 1 := by rw [hD]; exact World.size_alloc W _
  have hS1 : LdS w p next b (m * 9) (plC k0 f0 lo0 hi0 n0 (.slice a0 q0v c0')) D := by rw [hD]; exact (LdS.after ⟨HPtr.out, HNx.out, H9m.out⟩ rfl ((below_new W _).drew))
  refine hX.out _ _ (by rw [← hD]; exact hS1) (fun _ => ?_)
  clear hX X
  rw [← hD]
  clear hD
  refine wpAnyH_ready (rs := [6]) (by kernel_rfl) (by simp) ?_
  refine AllReadyH.cons rfl (fun X hX => ?_) AllReadyH.nil
  rw [if_pos (by rfl)]
  go_simp
  refine (HL1.out _ hbD).mono ?_
  rintro e w1 ⟨sv1, rfl, hM1, hT1⟩
  have hS2 := hS1.turn rfl (hMV.out _ hbD) hT1 hbp
  have hx := hx0.turn (hMV.out _ hbD) hT1 (by decide) (by decide)
  have HM1 := Lib.hid hM1
  have HT1 := Lib.hid ((Turn.of hbD).trans hT1)
  clear hM1 hT1 hS hS1 hx0
  go_wp2_with fail
  refine hX.out _ _ hS2 (fun _ => ?_)
  clear hX X
  have k0' := hx.c
  have z0' := hx.z
  refine wpAnyH_ready (rs := [8]) (by kernel_rfl) (by simp) ?_
  refine AllReadyH.cons rfl (fun X hX => ?_) AllReadyH.nil
  rw [if_pos (by rfl)]
  go_simp
  clear k0' z0'
  refine hX.out _ _ (hS2.put (by have := HWs.out; omega) (by have := HWs.out; omega) _) (fun _ => ?_)
  clear hX X
  refine wpAnyH_done (by kernel_rfl) ?_ _
  obtain ⟨Bf, hBf⟩ : ∃ Bf, Bf = W.heap.size := ⟨_, rfl⟩
  obtain ⟨Z, hZ⟩ : ∃ Z, Z = w1.setCell ⟨W.heap.size, 0, none⟩ (.int .i64 (layN d q next ss).1) := ⟨_, rfl⟩
  have HA : Hid (AltI Z w p sv st (layN d q next ss) next ss.length 0 Bf) := Lib.hid (by
    have h4 := hS2.put (B := W.heap.size) (by have := HWs.out; omega) (by have := HWs.out; omega) (.int .i64 (layN d q next ss).1)
    rw [hZ, hBf]
    refine ⟨⟨sv1, HM1.out.setOther (HM1.out.neP hx.row (by decide)) (HM1.out.ne hx.row (by decide)) 0 _, ((Turn.of HB.out).trans HT1.out).setNew (by have := HB.out.size; omega) 0 _⟩, h4.ptr, h4.nx, hx.set _, by have := HLq.out; have := HNq.out; omega, by have := HWs.out; omega⟩)
  rw [← hZ, ← hBf]
  clear hZ hBf hx hS2 hbD hsD HM1 HT1 D
  rotate_left
  all_goals
    try simp only [Exit.then]
    have hZw : w.heap.size ≤ Z.heap.size := by obtain ⟨_, _, hT⟩ := HA.out.ex; exact hT.size
    have hZb : Bf < Z.heap.size := HA.out.first.lt
    have hZl := HA.out.far
    have hmc : (m : Int) ≤ c := by omega
    have hbZ : b < Z.heap.size := by omega
    have hkeepZ : Hid (∀ k, k < p → k < w.heap.size → Z.heap[k]? = w.heap[k]?) := Lib.hid (fun k hk hkw => by
      obtain ⟨_, _, hT⟩ := HA.out.ex
      exact hT.block k hkw (by omega) (fun e => by have := (HM.out.own.lt k e).1; omega))
    gi_wp2_with fail
    refine ⟨trivial, ?_⟩
    refine (backward_in Fence.wide _ trivial rfl _ _ _ _).mono ?_
    rintro e w' ⟨rfl, rfl⟩
    gi_wp2_with fail
    obtain ⟨W0, hW0⟩ : ∃ W0, W0 = Z.alloc (.cells #[.slice (some ⟨b, 0, none⟩) m c] 117) := ⟨_, rfl⟩
    have hbW : Below Z.heap.size Z W0 := by rw [hW0]; exact below_new _ _
    have hsz0 : W0.heap.size = Z.heap.size + 1 := by rw [hW0, World.size_alloc]
    have hbox : One W0 Z.heap.size (.slice (some ⟨b, 0, none⟩) m c) 117 := by rw [hW0]; exact one_new _ _ _
    rw [← hW0]
    clear hW0
    have HI0 : Hid (AltI W0 w p sv st (layN d q next ss) next ss.length 0 Bf) := Lib.hid (HA.out.grow (Nat.le_refl _) (grownBy_of' hbW) (fun r e => by cases e))
    have hbW0 := HB.out.size
    have HW0b := Lib.hid hbox
    clear hbox hbW
    refine wpIn_rangeFunc_ownH rfl (by decide) (gf := 118) (lb := #[.pointer (some ⟨Z.heap.size, 0, none⟩)]) rfl trivial (enters_of Tryz.func118 (by kernel_rfl) rfl)
      (backward_stops Fence.wide (5 - 1) trivial rfl (by decide) Z.heap.size b m c cs (by omega) W0 (some ⟨b, 0, none⟩) (fun _ => rfl) HW0b.out.c (by omega) (fun i hi => (H9.out i (by omega)).keep (by
        obtain ⟨_, _, hT⟩ := HI0.out.ex
        exact hT.block b hbw (by omega) (fun e => by have := (HM.out.own.lt b e).1; omega))) (fun i hi => by
        obtain ⟨sl, e, hs⟩ := (HPA.out i (by rw [← HMm.out]; exact hi)).open
        obtain ⟨a', c', rfl⟩ := hs.shape
        exact ⟨_, _, _, _, _, _, _, _, e⟩)) KeepB.trans (KeepB.put (by omega) (by omega)) (Below.refl _ _) (fun _ => rfl)
      (fun pre V => AltI V w p sv st (pre.foldl (fun x i => branchN (layN d (ps[i.val]'(by have := i.isLt; have := HMm.out; omega))) next x) (layN d q next ss)) next ss.length pre.length Bf ∧ One V Z.heap.size (.slice (some ⟨b, 0, none⟩) m c) 117)
      (fun _ _ _ => False)
      (fun _ _ _ _ hs hg hr => ⟨hs.1.grow (by omega) hg hr, hs.2.grow hg hr⟩)
      (fun _ _ _ _ _ hs _ _ => hs)
      ⟨HI0.out, HW0b.out⟩
      (fun x a' V => ∃ Bx, PBox V Bx (cs x.val) ∧ W0.heap.size ≤ Bx ∧ a' = { tmps := #[.pointer (some ⟨p, 0, none⟩), .slice (some ⟨b, 0, none⟩) (m + 1) c, .int .i64 next, .pointer (some ⟨w.heap.size, 0, none⟩), undef, .pointer (some ⟨w.heap.size + 1, 0, none⟩), .int .i64 0, .int .i64 m, .pointer (some ⟨Bf, 0, none⟩), undef, .pointer (some ⟨Bx, 0, none⟩), .slice (some ⟨b, 0, none⟩) (m + 1) c, .int .i64 (m + 1), .int .i64 m, .pointer (some ⟨p, 0, none⟩), .slice (some ⟨b, 0, none⟩) (m + 1) c, .int .i64 m, .pointer (some ⟨b, m * 9, none⟩), .agg (plC k0 f0 lo0 hi0 n0 (.slice a0 q0v c0')), .int .i64 next, .int .i64 (layN d q next ss).1, .slice (some ⟨b, 0, none⟩) (m + 1) c, .int .i64 m, .slice (some ⟨b, 0, none⟩) m c, .func (.func 118) #[] #[.pointer (some ⟨Z.heap.size, 0, none⟩)], .int .i64 (x.val : Nat), .agg (cs x.val), undef, undef, undef, undef, undef, undef, undef, undef, undef], defers := [] })
      (fun _ _ _ _ _ _ hs hg hr => by
        obtain ⟨Bx, h1, h2, h3⟩ := hs
        exact ⟨Bx, h1.grow hg hr, h2, h3⟩) ?assign ?body ?done ?stop
    case assign =>
      intro l pre x V K hI hK
      obtain ⟨sl', e, hs'⟩ := (HPA.out x.val (by have := x.isLt; have := HMm.out; omega)).open
      obtain ⟨ax, cx, rfl⟩ := hs'.shape
      have HE := Lib.hid e
      have HI := Lib.hid hI
      have HK := Lib.hid hK
      have hbV : b < V.heap.size ∧ Z.heap.size < V.heap.size ∧ W0.heap.size ≤ V.heap.size := by
        have h2 := hI.2.lt
        exact ⟨by omega, h2, by omega⟩
      rw [e]
      unfold plC
      clear e hs' hI hK
      gi_wp2
      refine HK.out _ _ ((KeepsOthers.alloc _ _).from _) ⟨(below_new V _).block _ hbV.2.1, (below_new V _).block _ hbV.1⟩ ⟨HI.out.1.grow (Nat.le_refl _) (World.grownBy_alloc V _ none) (fun r e => by cases e), HI.out.2.after (below_new V _)⟩ ⟨V.heap.size, by rw [HE.out]; exact pbox_new _ _, hbV.2.2, by rw [HE.out]; rfl⟩
    case body =>
      rintro l' pre x a' V hl' ⟨r, hr⟩ ⟨hA, hBs⟩ ⟨Bx, hbx, hfarx, rfl⟩ hlt
      have hxm : x.val < ps.length := by have := x.isLt; have := HMm.out; omega
      obtain ⟨k1, f1, lo1, hi1, n1, a1, q1v, c1', e⟩ : ∃ (k : Int) (f : Nat → Nat) (lo hi : Int) (n : Nat) (a : Option Addr) (q c : Nat), cs x.val = plC k f lo hi n (.slice a q c) := by
        obtain ⟨sl', e, hs'⟩ := (HPA.out x.val hxm).open
        obtain ⟨ax, cx, rfl⟩ := hs'.shape
        exact ⟨_, _, _, _, _, _, _, _, e⟩
      obtain ⟨⟨sv', hM, hT⟩, hptr, hnx, hfi, hln, hfar⟩ := hA
      obtain ⟨y, hy⟩ : ∃ y : Mk, y = pre.foldl (fun x i => branchN (layN d (ps[i.val]'(by have := i.isLt; have := HMm.out; omega))) next x) (layN d q next ss) := ⟨_, rfl⟩
      have hnext : (pre ++ [x]).foldl (fun x i => branchN (layN d (ps[i.val]'(by have := i.isLt; have := HMm.out; omega))) next x) (layN d q next ss) = branchN (layN d (ps[x.val]'hxm)) next y := by rw [List.foldl_append, hy]; rfl
      rw [← hy] at hM hfi hln
      have hkw : ∀ k, k < p → k < w.heap.size → V.heap[k]? = w.heap[k]? := fun k hk hkw =>
        hT.block k hkw (by omega) (fun e => by have := (HM.out.own.lt k e).1; omega)
      have hpx : PAt V S (ps[x.val]'hxm) (cs x.val) := (HPA.out x.val hxm).keep fun k hk hlt' => hkw k (HS.out k hk) hlt'
      have hwx : Wf d (ps[x.val]'hxm) := HW.out _ (List.getElem_mem hxm)
      obtain ⟨z, hz⟩ : ∃ z, z = layN d (ps[x.val]'hxm) next y.2 := ⟨_, rfl⟩
      have hlx := layN_len d (ps[x.val]'hxm) next y.2 hwx
      rw [← hz] at hlx
      have hwn := hwx.own.n
      have hbr : branchN (layN d (ps[x.val]'hxm)) next y = putN z.2 (forkS z.1 y.1) := by unfold branchN; rw [← hz]
      have hpl : pre.length < m := by simpa using hlt
      have hz5 : z.2.length ≤ ss.length + 500 * (pre.length + 1) + 499 := by omega
      have HLx := Lib.hid (show ((pre ++ [x]).foldl (fun x i => branchN (layN d (ps[i.val]'(by have := i.isLt; have := HMm.out; omega))) next x) (layN d q next ss)).2.length ≤ ss.length + 500 * ((pre ++ [x]).length + 1) by
        rw [hnext, hbr, putN_len, List.length_append, List.length_singleton]; omega)
      have hsml : ss.length ≤ 100000000 := by have := HLen.out; omega
      have HC : Hid (∀ V1, Below V.heap.size V V1 → Calls Tryz.prog 68 #[.pointer (some ⟨p, 0, none⟩), .agg (cs x.val), .int .i64 next] V1 (Laid V1 p sv' st z)) := Lib.hid (fun V1 hb => by
        rw [hz]
        exact HIH.out (ps[x.val]'hxm) (cs x.val) S next p y.2 sv' st V1 (hpx.after hb) HS.out hwx (hM.after hb) (by
          have h2 := hlen2
          have h3 : (d + 1) * 250000 = d * 250000 + 250000 := by rw [Nat.add_mul, Nat.one_mul]
          have h4 := HLen.out
          rw [h3] at h4
          omega))
      have HPut : Hid (∀ V1 sv2, Mch V1 p z.2 sv2 st → Calls Tryz.prog 69 #[.pointer (some ⟨p, 0, none⟩), .agg #[.int .i64 4, .int .u64 0, .int .u64 0, .int .u64 0, .int .u64 0, .int .i64 z.1, .int .i64 y.1]] V1 (Laid V1 p sv2 st (putN z.2 (forkS z.1 y.1)))) := Lib.hid (fun V1 sv2 hm => by
        rw [← fork_two]
        exact put_spec p z.2 sv2 st (forkS z.1 y.1) V1 hm (by omega))
      have HMV : Hid (∀ V1, Below V.heap.size V V1 → Mch V1 p y.2 sv' st) := Lib.hid (fun V1 hb => hM.after hb)
      rw [e] at HC
      have HE := Lib.hid e
      have hS : BdS w p next Bx (cs x.val) V := ⟨hptr, hnx, hbx⟩
      rw [e] at hS
      have HNX := Lib.hid (hnext.trans hbr)
      have HT := Lib.hid hT
      have HFi := Lib.hid hfi
      have HBs := Lib.hid hBs
      have HBp := Lib.hid hbx
      have hBfV : Bf < V.heap.size := hfi.lt
      have hBxB : Bx ≠ Bf := by omega
      have hBsB : Z.heap.size ≠ Bf := by omega
      clear hy hz hkw hpx hwx hlx hwn hbr hz5 hsml hnext hM hT hptr hnx hfi hln hBs hbx
      unfold plC at HC
      dsimp only
      rw [e]
      gi_wp2_with fail
      have hfc := HFi.out.c
      have hSd := hS.after (below_drew V)
      refine region_round (S := BdS w p next Bx (plC k1 f1 lo1 hi1 n1 (.slice a1 q1v c1'))) (by kernel_rfl) (by kernel_rfl) (fun ⟨_, _, h⟩ => h) ?_
      refine takeW (i := 0) (d := 27) (v := .pointer (some ⟨p, 0, none⟩)) rfl rfl (by kernel_rfl) (by kernel_rfl) (by kernel_rfl) (fun _ _ _ h => h) (by rfl) (fun w' hSw => by have c0 := hSw.ptr.c; go_simp) hSd ?_
      simp only [List.setIfInBounds_toArray, List.set_cons_zero, List.set_cons_succ]
      refine takeW (i := 1) (d := 28) (v := .pointer (some ⟨p, 0, none⟩)) rfl rfl (by kernel_rfl) (by kernel_rfl) (by kernel_rfl) (fun _ _ _ h => h) (by rfl) (fun w' hSw => by have c0 := hSw.ptr.c; go_simp) hSd ?_
      simp only [List.setIfInBounds_toArray, List.set_cons_zero, List.set_cons_succ]
      refine takeW (i := 2) (d := 29) (v := .agg (plC k1 f1 lo1 hi1 n1 (.slice a1 q1v c1'))) rfl rfl (by kernel_rfl) (by kernel_rfl) (by kernel_rfl) (fun _ _ _ h => h) (by rfl) (fun w' hSw => by obtain ⟨r0, r1, r2, r3, r4, r5, r6, r7, r8⟩ := nine_pl hSw.part.nine; unfold plC; go_simp) hSd ?_
      simp only [List.setIfInBounds_toArray, List.set_cons_zero, List.set_cons_succ]
      refine takeW (i := 3) (d := 30) (v := .int .i64 next) rfl rfl (by kernel_rfl) (by kernel_rfl) (by kernel_rfl) (fun _ _ _ h => h) (by rfl) (fun w' hSw => by have c0 := hSw.nx.c; go_simp) hSd ?_
      simp only [List.setIfInBounds_toArray, List.set_cons_zero, List.set_cons_succ]
      refine wpAnyH_ready (rs := [4, 5]) (by kernel_rfl) (by simp) ?_
      refine AllReadyH.cons rfl (fun X hX => ?_) (AllReadyH.cons rfl (fun X hX => ?_) AllReadyH.nil)
      go_simp
      refine (HC.out _ (below_drew V)).mono ?_
      rintro e1 V1 ⟨sv2, rfl, hM1, hT1⟩
      have hS1 := hSd.turn (HMV.out _ (below_drew V)) hT1
      have hF1 := (HFi.out.after (below_drew V)).turn (HMV.out _ (below_drew V)) hT1 (by decide) (by decide)
      have hBs1 := (HBs.out.after (below_drew V)).turn (HMV.out _ (below_drew V)) hT1 (by decide) (by decide)
      have HM1 := Lib.hid hM1
      have HT1 := Lib.hid ((Turn.of (below_drew V)).trans hT1)
      have HBs1 := Lib.hid hBs1
      have HF1 := Lib.hid hF1
      clear hM1 hT1 hBs1
      go_wp2_with fail
      refine hX.out _ _ hS1 (fun _ => ?_)
      clear hX X
      have kf := hF1.c
      refine wpAnyH_ready (rs := [5]) (by kernel_rfl) (by simp) ?_
      refine AllReadyH.cons rfl (fun X hX => ?_) AllReadyH.nil
      rw [if_pos (by rfl)]
      go_simp
      refine hX.out _ _ hS1 (fun _ => ?_)
      clear hX X kf hF1
      rotate_left
      refine hX.out _ _ hSd (fun _ => ?_)
      clear hX X
      refine wpAnyH_ready (rs := [4]) (by kernel_rfl) (by simp) ?_
      refine AllReadyH.cons rfl (fun X hX => ?_) AllReadyH.nil
      rw [if_pos (by rfl)]
      go_simp
      refine (HC.out _ (below_drew V)).mono ?_
      rintro e1 V1 ⟨sv2, rfl, hM1, hT1⟩
      have hS1 := hSd.turn (HMV.out _ (below_drew V)) hT1
      have hF1 := (HFi.out.after (below_drew V)).turn (HMV.out _ (below_drew V)) hT1 (by decide) (by decide)
      have hBs1 := (HBs.out.after (below_drew V)).turn (HMV.out _ (below_drew V)) hT1 (by decide) (by decide)
      have HM1 := Lib.hid hM1
      have HT1 := Lib.hid ((Turn.of (below_drew V)).trans hT1)
      have HBs1 := Lib.hid hBs1
      have HF1 := Lib.hid hF1
      clear hM1 hT1 hBs1 hF1
      go_wp2_with fail
      refine hX.out _ _ hS1 (fun _ => ?_)
      clear hX X
      rotate_left
      all_goals
        refine takeW (i := 6) (d := 33) (v := .agg #[.int .i64 4, .int .u64 0, .int .u64 0, .int .u64 0, .int .u64 0, .int .i64 z.1, .int .i64 y.1]) rfl rfl (by kernel_rfl) (by kernel_rfl) (by kernel_rfl) (fun _ _ _ h => h) (by rfl) (fun w' hSw => by go_simp) hS1 ?_
        simp only [List.setIfInBounds_toArray, List.set_cons_zero, List.set_cons_succ]
        have HP1 := HPut.out V1 sv2 HM1.out
        refine wpAnyH_ready (rs := [7]) (by kernel_rfl) (by simp) ?_
        refine AllReadyH.cons rfl (fun X hX => ?_) AllReadyH.nil
        rw [if_pos (by rfl)]
        go_simp
        refine HP1.mono ?_
        rintro e1 V2 ⟨sv3, rfl, hM2, hT2⟩
        have hS2 := hS1.turn HM1.out hT2
        have hF2 := HF1.out.turn HM1.out hT2 (by decide) (by decide)
        have HBs2 := Lib.hid (HBs1.out.turn HM1.out hT2 (by decide) (by decide))
        have HM2 := Lib.hid hM2
        have HT2 := Lib.hid (HT1.out.trans hT2)
        clear hM2 hT2 HP1
        go_wp2_with fail
        refine hX.out _ _ hS2 (fun _ => ?_)
        clear hX X
        have kf := hF2.c
        have zf := hF2.z
        refine wpAnyH_ready (rs := [8]) (by kernel_rfl) (by simp) ?_
        refine AllReadyH.cons rfl (fun X hX => ?_) AllReadyH.nil
        rw [if_pos (by rfl)]
        go_simp
        clear kf zf
        have hS3 := fun v => hS2.put hfar hBxB v
        refine hX.out _ _ (hS3 _) (fun _ => ?_)
        clear hX X
        refine wpAnyH_done (by kernel_rfl) ?_ _
        refine ⟨(Turn.others (HMV.out V (Below.refl _ _)) HT2.out _).trans ((KeepsOthers.setCell _ _ _).from _), ⟨?_, ?_⟩, ⟨⟨sv3, by rw [HNX.out]; exact HM2.out.setOther (HM2.out.neP hF2.row (by decide)) (HM2.out.ne hF2.row (by decide)) 0 _, (HT.out.trans HT2.out).setNew (by omega) 0 _⟩, (hS3 _).ptr, (hS3 _).nx, ?_, ?_, hfar⟩, HBs2.out.setOther hBsB 0 _⟩
        · exact ((HBs2.out.setOther (b' := Bf) hBsB 0 _).row).trans HBs.out.row.symm
        · exact (heap_setCell_other V2 ⟨Bf, 0, none⟩ b _ (fun e => by have e' : b = Bf := e; omega)).trans (HT2.out.block b (by omega) (by omega) (fun e => by have := ((HMV.out V (Below.refl _ _)).own.lt b e).1; omega))
        · rw [HNX.out]
          exact hF2.set _
        · exact HLx.out
    case done =>
      rintro D ys V hD rfl hI hK
      have HD := Lib.hid hK
      have c1 := hI.1.first.c
      have HI := Lib.hid hI.1
      clear hI hK
      dsimp only
      gi_wp2
      refine ⟨by simp, .inl ⟨_, _, rfl, run_takeDeferred HD.out, ?_⟩⟩
      refine ⟨_, results_tmp rfl _ _ _, ?_⟩
      have hf := HI.out.grow (C := W0.heap.size) (by omega) (grownBy_putObj' V D (.deferred none)) (fun r e => by cases e; exact ⟨hD, _, HD.out, rfl⟩)
      obtain ⟨⟨sv', hM, hT⟩, _, _, _, _, _⟩ := hf
      have hmm := HMm.out
      subst hmm
      exact ⟨sv', rfl, hM, hT⟩
    case stop =>
      rintro D c pre V _ _ h _
      exact h.elim
end Go.Proofs.YtcojnkjcbopnbaaGreatDoor
