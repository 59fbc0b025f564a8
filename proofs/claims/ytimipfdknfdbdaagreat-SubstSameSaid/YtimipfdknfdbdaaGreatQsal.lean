/- Merged by program: Put, PlanN, Backw. -/
import Derived.Deep.LoopGhost
import Derived.RangeFuncNested
import Derived.RangeFuncBound
import Derived.RangeFuncCalls
import Derived.RangeFuncLeaves
import Derived.Shelf.Abstract
import Derived.Shelf.RegionOpen
import Derived.OwnWalkIn
import Derived.TacticsInMore
import Derived.LoopNIn
import Derived.LoopIn
import Derived.Test.YtimipfdknfdbdaaGreatQsak
import Derived.Test.YtimipfdknfdbdaaGreatQsag
/- (*nfa.Prog).put: a walk. -/
namespace Go.Proofs.YtimipfdknfdbdaaGreat
open Go.RowKit

/-- What laying leaves. -/
def Laid (w : World) (p : Nat) (sv : Value) (st : Int) (r : Nat × List St) (e : Ending) (w' : World) : Prop :=
  ∃ sv', e = .returned (.int .i64 r.1) ∧ Mch w' p r.2 sv' st ∧ Turn p sv w w' sv'

theorem below_drew_new (V : World) (o : Obj) : Below V.heap.size V (V.drew.alloc o) := (below_drew V).alloc (Nat.le_refl _) o
theorem push_c0 {V w1 : World} {o : Obj} {p : Nat} {ss : List St} {sv : Value} {st : Int} (h : Mch V p ss sv st) (hg : (V.drew.alloc o).grownBy w1 sv.ownBlock) : w1.cell? ⟨p, 0, none⟩ = some sv := by
  have h1 := h.after (below_drew_new V o)
  exact (hg.cell_far ⟨p, 0, none⟩ h1.lt (fun e => h.notP e.symm)).trans h1.c0
theorem push_z0 {V w1 : World} {o : Obj} {p : Nat} {ss : List St} {sv : Value} {st : Int} (h : Mch V p ss sv st) (hg : (V.drew.alloc o).grownBy w1 sv.ownBlock) : w1.frozen? ⟨p, 0, none⟩ = false := by
  have h1 := h.after (below_drew_new V o)
  exact (hg.frozen_far ⟨p, 0, none⟩ h1.lt (fun e => h.notP e.symm)).trans (h1.z 0)

set_option maxRecDepth 100000 in
theorem put_spec (p : Nat) (ss : List St) (sv : Value) (st : Int) (s : St) (w : World) (h : Mch w p ss sv st) (hlen : ss.length ≤ 1000000000) :
    Calls Tryz.prog 22 #[.pointer (some ⟨p, 0, none⟩), .agg (stC s)] w (Laid w p sv st (ss.length, ss ++ [s])) := by
  obtain ⟨i0, hi0', hz0, hz1, hz2⟩ := info_parts info_state3
  obtain ⟨V, hV⟩ : ∃ V, V = w.alloc (.cells (stC s) 69) := ⟨_, rfl⟩
  have B1 : Below w.heap.size w V := by rw [hV]; exact below_new _ _
  have HV1 := Lib.hid (h.after B1)
  have HB := Lib.hid B1
  have R1 : Hid (V.heap[w.heap.size]? = some (.cells (stC s) 69 (0, 0))) := Lib.hid (by rw [hV]; exact heap_alloc_last _ _)
  have HM := Lib.hid h
  have hplt := h.lt
  have hpv : p < V.heap.size := by have := B1.size; omega
  have hbv : w.heap.size < V.heap.size := by rw [hV, World.size_alloc]; omega
  have hone := Lib.hid (stC_one s)
  go_enter Tryz.func22, Tryz.ntmps22
  go_upto_region 1 with (fail)
  rw [← hV]
  clear hV B1 h
  have c0 := HV1.out.c0
  have r0 : V.cell? ⟨w.heap.size, 0, none⟩ = some (.int .i64 s.k) := cell_of_row _ _ 0 _ _ _ R1.out
  have r1 : V.cell? ⟨w.heap.size, 1, none⟩ = some (.int .u64 (s.f 0)) := cell_of_row _ _ 1 _ _ _ R1.out
  have r2 : V.cell? ⟨w.heap.size, 2, none⟩ = some (.int .u64 (s.f 1)) := cell_of_row _ _ 2 _ _ _ R1.out
  have r3 : V.cell? ⟨w.heap.size, 3, none⟩ = some (.int .u64 (s.f 2)) := cell_of_row _ _ 3 _ _ _ R1.out
  have r4 : V.cell? ⟨w.heap.size, 4, none⟩ = some (.int .u64 (s.f 3)) := cell_of_row _ _ 4 _ _ _ R1.out
  have r5 : V.cell? ⟨w.heap.size, 5, none⟩ = some (.int .i64 s.nx) := cell_of_row _ _ 5 _ _ _ R1.out
  have r6 : V.cell? ⟨w.heap.size, 6, none⟩ = some (.int .i64 s.ot) := cell_of_row _ _ 6 _ _ _ R1.out
  go_region_law ((refine step_append_lies _ rfl (.tmp 9) (.tmp 11) 44 rfl (p + 1) 69 i0 (.agg #[.int .i64 0, .int .u64 0, .int .u64 0, .int .u64 0, .int .u64 0, .int .i64 0, .int .i64 0]) 7 56 Tryz.underlying44 hi0' hz0 hz1 hz2 rfl (by decide) sv ss.length (flatS ss) (by simp [Act.eval]) (World.ownsRow.alloc (World.ownsRow.drew HV1.out.own) _) ⟨V.heap.size, 0, none⟩ 1 1 (stC s).toList (by simp [Act.eval]) rfl (World.news_of_block (heap_alloc_last V.drew (.cells (stC s) 69))) hone.out (by decide) (by unfold maxLen; omega) (by omega) (by simp; omega) _ rfl ?_; intro g cap w1 hown hgrow hat hlt; have d0 := push_c0 HV1.out hgrow; have dz := push_z0 HV1.out hgrow))
  all_goals
    go_wp2_with fail
    go_ret
    refine ⟨.slice (some ⟨g, 0, none⟩) (ss.length + 1) cap, rfl, ?_⟩
    have hg : (V.drew.alloc (.cells (stC s) 69)).grownBy w1 sv.ownBlock := hgrow
    have hsz : (V.drew.alloc (.cells (stC s) 69)).heap.size = V.heap.size + 1 := World.size_alloc _ _
    exact HM.out.push (Below.step HB.out (below_drew_new V _)) hg hown (by
      rcases hat with e | e
      · exact Or.inl e.symm
      · refine Or.inr ⟨g, rfl, ?_⟩
        have e' : g = (V.drew.alloc (.cells (stC s) 69)).heap.size := e
        omega)
end Go.Proofs.YtimipfdknfdbdaaGreat

/- nfa.repeated, nfa.planOf: walks. -/
namespace Go.Proofs.YtimipfdknfdbdaaGreat
open Go.RowKit

def overP : Plan := .mk 0 zero4 0 0 500 []
def emptyP : Plan := .mk 0 zero4 0 0 0 []
/-- How many states a repetition has, of a part of n. -/
def repN (n : Nat) (lo hi : Int) : Nat := if hi = -1 then lo.toNat * n + n + 1 else lo.toNat * n + (hi - lo).toNat * (n + 1)
/-- The parts' plans, and how many states they have: none, if these are too many. -/
def partsN (pl : Tree → Plan) (k : Int) : List Tree → Nat → List Plan → Option (Nat × List Plan)
  | [], n, ps => some (n, ps)
  | t :: r, n, ps =>
    if 500 ≤ n + (pl t).n then none
    else partsN pl k r (n + (pl t).n) (if 0 < (pl t).n ∨ k ≠ 4 then ps ++ [pl t] else ps)
def ownN (k lo hi : Int) (n : Nat) : Nat := if k = 1 ∨ k = 2 ∨ k = 3 then 1 else if k = 6 then min (repN n lo hi) 500 else n
def beginN (t : Tree) : Nat := if t.k = 5 then t.kids.length - 1 else 0
def finishN (t : Tree) : Option (Nat × List Plan) → Plan
  | none => overP
  | some (n, ps) => if ownN t.k t.lo t.hi n = 0 then emptyP else .mk t.k t.f t.lo t.hi (ownN t.k t.lo t.hi n) ps
def planN : Nat → Tree → Plan
  | 0, _ => emptyP
  | d + 1, t => finishN t (partsN (planN d) t.k t.kids (beginN t) [])

theorem repN_le (n : Nat) (lo hi : Int) (hn : n < 500) (h0 : 0 ≤ lo) (h1 : lo ≤ 50) (h : hi = -1 ∨ (lo ≤ hi ∧ hi ≤ 50)) : repN n lo hi ≤ 60000 := by
  have a : lo.toNat ≤ 50 := by omega
  have b : lo.toNat * n ≤ 50 * 500 := Nat.mul_le_mul a (by omega)
  unfold repN
  rcases h with rfl | ⟨h2, h3⟩
  · rw [if_pos rfl]; omega
  · have c : (hi - lo).toNat * (n + 1) ≤ 50 * 500 := Nat.mul_le_mul (by omega) (by omega)
    split <;> omega
theorem ownN_le (t : Tree) (n : Nat) (hn : n ≤ 1000000) : ownN t.k t.lo t.hi n ≤ 1000000 := by
  unfold ownN
  split
  · omega
  · split
    · have := Nat.min_le_right (repN n t.lo t.hi) 500; omega
    · omega

set_option maxRecDepth 100000 in
theorem repeated_spec (n : Nat) (lo hi : Int) (hn : n < 500) (h0 : 0 ≤ lo) (h1 : lo ≤ 50) (h : hi = -1 ∨ (lo ≤ hi ∧ hi ≤ 50)) (w : World) :
    Calls Tryz.prog 36 #[.int .i64 n, .int .i64 lo, .int .i64 hi] w fun e w' => e = .returned (.int .i64 (repN n lo hi : Nat)) ∧ w' = w := by
  have hl := repN_le n lo hi hn h0 h1 h
  obtain ⟨a, rfl⟩ : ∃ a : Nat, lo = a := ⟨lo.toNat, by omega⟩
  have ha : a ≤ 50 := by omega
  have hab : ((a : Int) * n) = ((a * n : Nat) : Int) := by simp
  have hb : a * n ≤ 50 * 500 := Nat.mul_le_mul ha (by omega)
  rcases h with rfl | ⟨h2, h3⟩
  · have he : repN n a (-1) = a * n + n + 1 := by simp [repN]
    rw [he] at hl ⊢
    clear he
    obtain ⟨m, hm⟩ : ∃ m, m = a * n := ⟨_, rfl⟩
    rw [← hm] at hab hb hl ⊢
    clear hm
    go_enter Tryz.func36, Tryz.ntmps36
    go_wp2_with fail
    go_ret
    exact ⟨ret_i64 (by omega), rfl⟩
  · obtain ⟨c, rfl⟩ : ∃ c : Nat, hi = a + c := ⟨(hi - a).toNat, by omega⟩
    have he : repN n a (a + c) = a * n + c * (n + 1) := by
      unfold repN
      rw [if_neg (by omega)]
      congr 1
      · congr 1
        omega
    rw [he] at hl ⊢
    clear he
    have hcn : ((c : Int) * (n + 1)) = ((c * (n + 1) : Nat) : Int) := by simp
    have hc : c * (n + 1) ≤ 50 * 500 := Nat.mul_le_mul (by omega) (by omega)
    have hne : ((a : Int) + c == -1) = false := by simp; omega
    obtain ⟨m, hm⟩ : ∃ m, m = a * n := ⟨_, rfl⟩
    obtain ⟨q, hq⟩ : ∃ q, q = c * (n + 1) := ⟨_, rfl⟩
    rw [← hm] at hab hb hl ⊢
    rw [← hq] at hcn hc hl ⊢
    clear hm hq
    go_enter Tryz.func36, Tryz.ntmps36
    go_wp2_with fail
    go_ret
    refine ⟨ret_i64 ?_, rfl⟩
    rw [show ((a : Int) + c - a) = c by omega, hcn]
    unfold wrap64
    omega

/-- What lies in memory while a plan is made. -/
structure PlF (wr w : World) (t : Tree) (rs : Array Value) (n : Nat) (sl : Value) : Prop where
  re : Box wr w.heap.size rs
  res : PBox wr (w.heap.size + 1) zeroPl
  q : PBox wr (w.heap.size + 2) (plC t.k t.f t.lo t.hi n sl)
  below : Below w.heap.size w wr
structure PlM (wr w : World) (t : Tree) (rs : Array Value) (n : Nat) (sl : Value) (ps : List Plan) (cs : Nat → Array Value) : Prop extends PlF wr w t rs n sl where
  own : OwnPlans wr (w.heap.size + 3) sl ps cs
theorem PlF.after {wr w V : World} {t : Tree} {rs : Array Value} {n : Nat} {sl : Value} (h : PlF wr w t rs n sl) (hb : Below wr.heap.size wr V) : PlF V w t rs n sl :=
  ⟨h.re.after hb, h.res.after hb, h.q.after hb, Below.step h.below hb⟩
theorem PlM.after {wr w V : World} {t : Tree} {rs : Array Value} {n : Nat} {sl : Value} {ps : List Plan} {cs : Nat → Array Value} (h : PlM wr w t rs n sl ps cs) (hb : Below wr.heap.size wr V) : PlM V w t rs n sl ps cs :=
  ⟨h.toPlF.after hb, h.own.after hb⟩
theorem PlF.grown {wr w V : World} {t : Tree} {rs : Array Value} {n : Nat} {sl : Value} {row : Option Nat} (h : PlF wr w t rs n sl) (hg : wr.grownBy V row) (hr : ∀ k, row = some k → w.heap.size + 3 ≤ k) : PlF V w t rs n sl := by
  have hlt := h.q.lt
  have ne : ∀ j, j ≤ 2 → some (w.heap.size + j) ≠ row := fun j hj e => by have := hr _ e.symm; omega
  exact ⟨⟨by rw [hg.block _ h.re.lt (ne 0 (by omega))]; exact h.re.row⟩, ⟨by rw [hg.block _ h.res.lt (ne 1 (by omega))]; exact h.res.row⟩, ⟨by rw [hg.block _ h.q.lt (ne 2 (by omega))]; exact h.q.row⟩,
    h.below.grown hg h.below.size (fun k hk => by have := hr k hk; omega)⟩
theorem planM_new (w : World) (t : Tree) (rs : Array Value) (n : Nat) : ∃ W, W = ((w.alloc (.cells rs 38)).alloc (.cells zeroPl 64)).alloc (.cells (plC t.k t.f t.lo t.hi n (.slice none 0 0)) 64) ∧ Hid (PlM W w t rs n (.slice none 0 0) [] (fun _ => zeroPl)) := by
  refine ⟨_, rfl, Lib.hid ?_⟩
  have s1 : (w.alloc (.cells rs 38)).heap.size = w.heap.size + 1 := World.size_alloc _ _
  have s2 : ((w.alloc (.cells rs 38)).alloc (.cells zeroPl 64)).heap.size = w.heap.size + 2 := by rw [World.size_alloc, s1]
  have b1 := below_new w (.cells rs 38)
  have b2 := below_new (w.alloc (.cells rs 38)) (.cells zeroPl 64)
  have b3 := below_new ((w.alloc (.cells rs 38)).alloc (.cells zeroPl 64)) (.cells (plC t.k t.f t.lo t.hi n (.slice none 0 0)) 64)
  refine ⟨⟨((box_new w rs).after b2).after b3, ?_, ?_, Below.step (Below.step b1 b2) b3⟩, ownP_nil _ _ _⟩
  · have := (pbox_new (w.alloc (.cells rs 38)) zeroPl).after b3
    rwa [s1] at this
  · have := pbox_new ((w.alloc (.cells rs 38)).alloc (.cells zeroPl 64)) (plC t.k t.f t.lo t.hi n (.slice none 0 0))
    rwa [s2] at this
theorem PlF.setBut {wr w : World} {t : Tree} {rs : Array Value} {n : Nat} {sl : Value} (_ : PlF wr w t rs n sl) (j : Nat) (v : Value) : But (w.heap.size + 2) wr (wr.setCell ⟨w.heap.size + 2, j, none⟩ v) :=
  ⟨rfl, rfl, rfl, by simp, fun k _ hp => heap_setCell_other wr ⟨w.heap.size + 2, j, none⟩ k _ (fun e => hp e)⟩
/-- The size stored anew. -/
theorem PlM.setN {wr w : World} {t : Tree} {rs : Array Value} {n : Nat} {sl : Value} {ps : List Plan} {cs : Nat → Array Value} (h : PlM wr w t rs n sl ps cs) (m : Nat) : PlM (wr.setCell ⟨w.heap.size + 2, 7, none⟩ (.int .i64 m)) w t rs m sl ps cs := by
  have hlt := h.q.lt
  have hb := h.setBut 7 (.int .i64 m)
  refine ⟨⟨h.re.but hb (by omega), ⟨by rw [hb.block _ h.res.lt (by omega)]; exact h.res.row⟩, ⟨?_⟩, h.below.setCell (p := ⟨w.heap.size + 2, 7, none⟩) (by show w.heap.size ≤ w.heap.size + 2; omega) _⟩, h.own.but hb (by omega)⟩
  rw [heap_setCell_same wr (w.heap.size + 2) 7 _ _ _ h.q.row]
  rfl
/-- The parts stored anew. -/
theorem PlF.setL {wr w : World} {t : Tree} {rs : Array Value} {n : Nat} {sl sl' : Value} {ps' : List Plan} {cs' : Nat → Array Value} (h : PlF wr w t rs n sl) (h' : OwnPlans wr (w.heap.size + 3) sl' ps' cs') : PlM (wr.setCell ⟨w.heap.size + 2, 8, none⟩ sl') w t rs n sl' ps' cs' := by
  have hlt := h.q.lt
  have hb := h.setBut 8 sl'
  refine ⟨⟨h.re.but hb (by omega), ⟨by rw [hb.block _ h.res.lt (by omega)]; exact h.res.row⟩, ⟨?_⟩, h.below.setCell (p := ⟨w.heap.size + 2, 8, none⟩) (by show w.heap.size ≤ w.heap.size + 2; omega) _⟩, h'.but hb (by omega)⟩
  rw [heap_setCell_same wr (w.heap.size + 2) 8 _ _ _ h.q.row]
  rfl
end Go.Proofs.YtimipfdknfdbdaaGreat

/- slices.Backward over a slice of plans: its contract. -/
namespace Go.Proofs.YtimipfdknfdbdaaGreat
open Go.RowKit Go.Shelf
attribute [local go_sem] Oper.semAt_some

/-- All places of a list, from behind. -/
def revF (m : Nat) : List (Fin m) := (List.finRange m).reverse
theorem revF_len (m : Nat) : (revF m).length = m := by simp [revF]
theorem revF_get (m k : Nat) (hk : k < m) : (revF m)[k]? = some ⟨m - 1 - k, by omega⟩ := by
  unfold revF
  rw [List.getElem?_reverse (by simpa using hk), List.length_finRange, List.getElem?_eq_getElem (by simp; omega), List.getElem_finRange]
  rfl
theorem revF_take (m k : Nat) (hk : k < m) : (revF m).take (k + 1) = (revF m).take k ++ [⟨m - 1 - k, by omega⟩] := by
  rw [List.take_add_one, revF_get m k hk]
  rfl

/-- What a round keeps. -/
structure KeepB (Bs b : Nat) (W W' : World) : Prop where
  box : W'.heap[Bs]? = W.heap[Bs]?
  row : W'.heap[b]? = W.heap[b]?
theorem KeepB.refl (Bs b : Nat) (W : World) : KeepB Bs b W W := ⟨rfl, rfl⟩
theorem KeepB.trans {Bs b : Nat} {A B C : World} (h : KeepB Bs b A B) (k : KeepB Bs b B C) : KeepB Bs b A C := ⟨k.box.trans h.box, k.row.trans h.row⟩
theorem KeepB.put {Bs b : Nat} {w : World} (h1 : Bs < w.heap.size) (h2 : b < w.heap.size) (W : World) (l : Nat) (o o' : Obj) (hl : w.heap.size ≤ l) (_ : W.heap[l]? = some o) (_ : o.isCells = false) (_ : o.isWalk = false) : KeepB Bs b W (W.putObj l o') :=
  ⟨World.putObj_heap_other (by omega), World.putObj_heap_other (by omega)⟩
/-- What a plan's cells look like. -/
def Shaped9 (cs : Array Value) : Prop := ∃ (k : Int) (f : Nat → Nat) (lo hi : Int) (n : Int) (a : Option Addr) (q c : Nat), cs = plC k f lo hi n (.slice a q c)

set_option maxRecDepth 100000 in
set_option maxHeartbeats 2000000 in
theorem backward1_in (F : Fence) (n : Nat) (hf : F.fn 53) (hro : F.round = none) (hn : 1 ≤ n) (l Bs b m cap : Nat) (cs : Nat → Array Value) (hm : m ≤ 1000000) (J Jx : List (Fin m) → World → Prop)
    (hY : ∀ pre x W, J pre W → pre.length < m → YieldAt F (n - 1) Tryz.prog l #[.int .i64 (x.val : Nat), .agg (cs x.val)] W fun e W' =>
      (e = .returned (.bool true) ∧ J (pre ++ [x]) W' ∧ KeepB Bs b W W') ∨ (e = .returned (.bool false) ∧ Jx (pre ++ [x]) W'))
    (W : World) (ad : Option Addr) (had : 0 < m → ad = some ⟨b, 0, none⟩) (hBs : W.cell? ⟨Bs, 0, none⟩ = some (.slice ad m cap)) (hc : ∀ i, i < m → Nine W b (i * 9) (cs i)) (hsh : ∀ i, i < m → Shaped9 (cs i)) (h0 : J [] W) :
    CallsIn F n Tryz.prog 53 #[.func (.yield l) #[] #[], .pointer (some ⟨Bs, 0, none⟩)] W fun e W' => (∃ v, e = .returned v) ∧
      ((∃ ys, ys = revF m ∧ J ys W') ∨ (∃ pre, (∃ k, k ≤ m ∧ pre = (revF m).take k) ∧ Jx pre W')) := by
  have HC := Lib.hid hc
  have HSH := Lib.hid hsh
  have HY := Lib.hid hY
  have HAD := Lib.hid had
  clear hc hsh hY had
  refine callsIn_of_wp Tryz.func53 rfl hf ?_ hro
  simp only [Tryz.ntmps53, List.size_toArray, List.length_cons, List.length_nil, Nat.reduceAdd, Nat.reduceSub, Array.replicate_succ, Array.replicate_zero, List.push_toArray, List.append_toArray, List.nil_append, List.cons_append]
  gi_wp2
  gi_loopw [3] (fun i wr => ∃ k : Nat, k ≤ m ∧ i = .int .i64 ((m : Int) - 1 - k) ∧ J ((revF m).take k) wr ∧ KeepB Bs b W wr)
    (fun i _ => (intOf i + 1).toNat)
  case atStart => exact ⟨0, Nat.zero_le _, by simp, h0, KeepB.refl _ _ _⟩
  case round =>
    obtain ⟨k, hk, rfl, hJs, hnx⟩ := hrel
    have hb1 : wr.cell? ⟨Bs, 0, none⟩ = some (.slice ad m cap) := (World.cell?_of_block (a := ⟨Bs, 0, none⟩) hnx.box).trans hBs
    by_cases hlt : k < m
    · obtain rfl := HAD.out (by omega)
      obtain ⟨i, hi⟩ : ∃ i : Nat, i = m - 1 - k := ⟨_, rfl⟩
      have him : i < m := by omega
      obtain ⟨k0, f0, lo0, hi0, n0, a0, q0, c0', e⟩ := HSH.out i him
      have h9 := (HC.out i him).keep hnx.row
      have hy0 := HY.out _ ⟨i, him⟩ wr hJs (by rw [List.length_take, revF_len]; omega)
      dsimp only at hy0
      rw [e] at h9 hy0
      obtain ⟨c0, c1, c2, c3, c4, c5, c6, c7, c8⟩ := nine_pl h9
      unfold plC at hy0
      obtain ⟨fn, tmps, assign, body, hy, hR⟩ := hy0
      have ei : (m : Int) - 1 - k = (i : Int) := by omega
      rw [ei]
      have HE := Lib.hid e
      have HI := Lib.hid hi
      clear e ei h9 hi
      gi_wp2
      refine hR.mono ?_
      rintro e W3 (⟨rfl, hJ3, hk3⟩ | ⟨rfl, hJx3⟩)
      · gi_wp2
        go_roundw
        case rel =>
          refine ⟨k + 1, by omega, ?_, ?_, hnx.trans hk3⟩
          · show Value.int .i64 ((i : Int) - 1) = .int .i64 ((m : Int) - 1 - ((k + 1 : Nat) : Int))
            congr 1
            have := HI.out
            omega
          · rw [revF_take m k hlt]
            have e2 : (⟨m - 1 - k, by omega⟩ : Fin m) = ⟨i, him⟩ := Fin.ext HI.out.symm
            rw [e2]
            exact hJ3
        case measure => simp [intOf]
      · gi_wp2
        refine bodyPost_ret (results_none rfl _ _ _) rfl ?_
        refine ⟨⟨_, rfl⟩, .inr ⟨_, ⟨k + 1, by omega, ?_⟩, hJx3⟩⟩
        rw [revF_take m k hlt]
        have e2 : (⟨m - 1 - k, by omega⟩ : Fin m) = ⟨i, him⟩ := Fin.ext HI.out.symm
        rw [e2]
    · obtain rfl : k = m := by omega
      gi_wp2
      go_end0
      refine ⟨⟨_, rfl⟩, .inl ⟨_, rfl, ?_⟩⟩
      rw [List.take_of_length_le (by rw [revF_len]; omega)] at hJs
      exact hJs

set_option maxHeartbeats 1000000 in
/-- slices.Backward: the slice is boxed; the function value captures the box. -/
theorem backward_in (F : Fence) (n : Nat) (hf : F.fn 37) (hro : F.round = none) (a : Option Addr) (len cap : Nat) (w : World) :
    CallsIn F n Tryz.prog 37 #[.slice a len cap] w fun e w' => e = .returned (.func (.func 53) #[] #[.pointer (some ⟨w.heap.size, 0, none⟩)]) ∧ w' = w.alloc (.cells #[.slice a len cap] 62) := by
  refine callsIn_of_wp Tryz.func37 rfl hf ?_ hro
  simp only [Tryz.ntmps37, List.size_toArray, List.length_cons, List.length_nil, Nat.reduceAdd, Nat.reduceSub, Array.replicate_succ, Array.replicate_zero, List.push_toArray, List.append_toArray, List.nil_append, List.cons_append]
  gi_wp2
  go_ret
  exact ⟨rfl, rfl⟩

/-- The value that slices.Backward hands back: all plans, from behind; or so many of them. -/
theorem backward_stops (F : Fence) (n : Nat) (hf : F.fn 53) (hro : F.round = none) (hn : 1 ≤ n) (Bs b m cap : Nat) (cs : Nat → Array Value) (hm : m ≤ 1000000) (w : World) (ad : Option Addr) (had : 0 < m → ad = some ⟨b, 0, none⟩)
    (hBs : w.cell? ⟨Bs, 0, none⟩ = some (.slice ad m cap)) (hb : b < w.heap.size) (hc : ∀ i, i < m → Nine w b (i * 9) (cs i)) (hsh : ∀ i, i < m → Shaped9 (cs i)) :
    SeqStopsK F n Tryz.prog 53 #[.pointer (some ⟨Bs, 0, none⟩)] (fun x : Fin m => #[Value.int .i64 (x.val : Nat), .agg (cs x.val)]) (KeepB Bs b) (fun ys => ys = revF m)
      (fun pre => ∃ k, k ≤ m ∧ pre = (revF m).take k) m w := fun l J Jx W hW _ _ hY h0 => by
  have hB := cell_lt hBs
  exact backward1_in F n hf hro hn l Bs b m cap cs hm J Jx hY W ad had ((hW.cell (p := ⟨Bs, 0, none⟩) hB).trans hBs) (fun i hi => (hc i hi).keep (hW.block b hb)) hsh h0
end Go.Proofs.YtimipfdknfdbdaaGreat
