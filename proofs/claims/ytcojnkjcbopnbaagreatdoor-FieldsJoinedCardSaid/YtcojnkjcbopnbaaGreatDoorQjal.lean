/- Merged by program: Backw, LayN, LayM. -/
import Derived.RangeFuncNested
import Derived.RangeFuncBound
import Derived.RangeFuncCalls
import Derived.RangeFuncLeaves
import Derived.Shelf.Abstract
import Derived.Shelf.RegionOpen
import Derived.OwnWalkIn
import Derived.TacticsInMore
import Derived.LoopNIn
import Derived.LoopIn
import Derived.Test.YtcojnkjcbopnbaaGreatDoorQjai
import Derived.Test.YtcojnkjcbopnbaaGreatDoorQjaj
import Derived.Test.YtcojnkjcbopnbaaGreatDoorQjak
/- slices.Backward over a slice of plans: its contract. -/
namespace Go.Proofs.YtcojnkjcbopnbaaGreatDoor
open Go.RowKit Go.Shelf
attribute [local go_sem] Oper.semAt_some

/-- All places of a list, from behind. -/
def revF (m : Nat) : List (Fin m) := (List.finRange m).reverse
theorem revF_len (m : Nat) : (revF m).length = m := by simp [revF]
theorem revF_get (m k : Nat) (hk : k < m) : (revF m)[k]? = some ⟨m - 1 - k, by omega⟩ := by
  unfold revF
  rw [List.getElem?_reverse (by simpa using hk), List.length_finRange, List.getElem?_eq_getElem (by simp; omega), List.getElem_finRange]
  rfl
theorem revF_take (m k : Nat) (hk : k < m) : (revF m).take (k + 1) = (revF m).take k ++ [⟨m - 1 - k, by omega⟩] := by
  rw [List.take_add_one, revF_get m k hk]
  rfl

/-- What a round keeps. -/
structure KeepB (Bs b : Nat) (W W' : World) : Prop where
  box : W'.heap[Bs]? = W.heap[Bs]?
  row : W'.heap[b]? = W.heap[b]?
theorem KeepB.refl (Bs b : Nat) (W : World) : KeepB Bs b W W := ⟨rfl, rfl⟩
theorem KeepB.trans {Bs b : Nat} {A B C : World} (h : KeepB Bs b A B) (k : KeepB Bs b B C) : KeepB Bs b A C := ⟨k.box.trans h.box, k.row.trans h.row⟩
theorem KeepB.put {Bs b : Nat} {w : World} (h1 : Bs < w.heap.size) (h2 : b < w.heap.size) (W : World) (l : Nat) (o o' : Obj) (hl : w.heap.size ≤ l) (_ : W.heap[l]? = some o) (_ : o.isCells = false) (_ : o.isWalk = false) : KeepB Bs b W (W.putObj l o') :=
  ⟨World.putObj_heap_other (by omega), World.putObj_heap_other (by omega)⟩
/-- What a plan's cells look like. -/
def Shaped9 (cs : Array Value) : Prop := ∃ (k : Int) (f : Nat → Nat) (lo hi : Int) (n : Int) (a : Option Addr) (q c : Nat), cs = plC k f lo hi n (.slice a q c)

set_option maxRecDepth 100000 in
set_option maxHeartbeats 2000000 in
theorem backward1_in (F : Fence) (n : Nat) (hf : F.fn 118) (hro : F.round = none) (hn : 1 ≤ n) (l Bs b m cap : Nat) (cs : Nat → Array Value) (hm : m ≤ 1000000) (J Jx : List (Fin m) → World → Prop)
    (hY : ∀ pre x W, J pre W → pre.length < m → YieldAt F (n - 1) Tryz.prog l #[.int .i64 (x.val : Nat), .agg (cs x.val)] W fun e W' =>
      (e = .returned (.bool true) ∧ J (pre ++ [x]) W' ∧ KeepB Bs b W W') ∨ (e = .returned (.bool false) ∧ Jx (pre ++ [x]) W'))
    (W : World) (ad : Option Addr) (had : 0 < m → ad = some ⟨b, 0, none⟩) (hBs : W.cell? ⟨Bs, 0, none⟩ = some (.slice ad m cap)) (hc : ∀ i, i < m → Nine W b (i * 9) (cs i)) (hsh : ∀ i, i < m → Shaped9 (cs i)) (h0 : J [] W) :
    CallsIn F n Tryz.prog 118 #[.func (.yield l) #[] #[], .pointer (some ⟨Bs, 0, none⟩)] W fun e W' => (∃ v, e = .returned v) ∧
      ((∃ ys, ys = revF m ∧ J ys W') ∨ (∃ pre, (∃ k, k ≤ m ∧ pre = (revF m).take k) ∧ Jx pre W')) := by
  have HC := Lib.hid hc
  have HSH := Lib.hid hsh
  have HY := Lib.hid hY
  have HAD := Lib.hid had
  clear hc hsh hY had
  refine callsIn_of_wp Tryz.func118 rfl hf ?_ hro
  simp only [Tryz.ntmps118, List.size_toArray, List.length_cons, List.length_nil, Nat.reduceAdd, Nat.reduceSub, Array.replicate_succ, Array.replicate_zero, List.push_toArray, List.append_toArray, List.nil_append, List.cons_append]
  gi_wp2
  gi_loopw [3] (fun i wr => ∃ k : Nat, k ≤ m ∧ i = .int .i64 ((m : Int) - 1 - k) ∧ J ((revF m).take k) wr ∧ KeepB Bs b W wr)
    (fun i _ => (intOf i + 1).toNat)
  case atStart => exact ⟨0, Nat.zero_le _, by simp, h0, KeepB.refl _ _ _⟩
  case round =>
    obtain ⟨k, hk, rfl, hJs, hnx⟩ := hrel
    have hb1 : wr.cell? ⟨Bs, 0, none⟩ = some (.slice ad m cap) := (World.cell?_of_block (a := ⟨Bs, 0, none⟩) hnx.box).trans hBs
    by_cases hlt : k < m
    · obtain rfl := HAD.out (by omega)
      obtain ⟨i, hi⟩ : ∃ i : Nat, i = m - 1 - k := ⟨_, rfl⟩
      have him : i < m := by omega
      obtain ⟨k0, f0, lo0, hi0, n0, a0, q0, c0', e⟩ := HSH.out i him
      have h9 := (HC.out i him).keep hnx.row
      have hy0 := HY.out _ ⟨i, him⟩ wr hJs (by rw [List.length_take, revF_len]; omega)
      dsimp only at hy0
      rw [e] at h9 hy0
      obtain ⟨c0, c1, c2, c3, c4, c5, c6, c7, c8⟩ := nine_pl h9
      unfold plC at hy0
      obtain ⟨fn, tmps, assign, body, hy, hR⟩ := hy0
      have ei : (m : Int) - 1 - k = (i : Int) := by omega
      rw [ei]
      have HE := Lib.hid e
      have HI := Lib.hid hi
      clear e ei h9 hi
      gi_wp2
      refine hR.mono ?_
      rintro e W3 (⟨rfl, hJ3, hk3⟩ | ⟨rfl, hJx3⟩)
      · gi_wp2
        go_roundw
        case rel =>
          refine ⟨k + 1, by omega, ?_, ?_, hnx.trans hk3⟩
          · show Value.int .i64 ((i : Int) - 1) = .int .i64 ((m : Int) - 1 - ((k + 1 : Nat) : Int))
            congr 1
            have := HI.out
            omega
          · rw [revF_take m k hlt]
            have e2 : (⟨m - 1 - k, by omega⟩ : Fin m) = ⟨i, him⟩ := Fin.ext HI.out.symm
            rw [e2]
            exact hJ3
        case measure => simp [intOf]
      · gi_wp2
        refine bodyPost_ret (results_none rfl _ _ _) rfl ?_
        refine ⟨⟨_, rfl⟩, .inr ⟨_, ⟨k + 1, by omega, ?_⟩, hJx3⟩⟩
        rw [revF_take m k hlt]
        have e2 : (⟨m - 1 - k, by omega⟩ : Fin m) = ⟨i, him⟩ := Fin.ext HI.out.symm
        rw [e2]
    · obtain rfl : k = m := by omega
      gi_wp2
      go_end0
      refine ⟨⟨_, rfl⟩, .inl ⟨_, rfl, ?_⟩⟩
      rw [List.take_of_length_le (by rw [revF_len]; omega)] at hJs
      exact hJs

set_option maxHeartbeats 1000000 in
/-- slices.Backward: the slice is boxed; the function value captures the box. -/
theorem backward_in (F : Fence) (n : Nat) (hf : F.fn 97) (hro : F.round = none) (a : Option Addr) (len cap : Nat) (w : World) :
    CallsIn F n Tryz.prog 97 #[.slice a len cap] w fun e w' => e = .returned (.func (.func 118) #[] #[.pointer (some ⟨w.heap.size, 0, none⟩)]) ∧ w' = w.alloc (.cells #[.slice a len cap] 117) := by
  refine callsIn_of_wp Tryz.func97 rfl hf ?_ hro
  simp only [Tryz.ntmps97, List.size_toArray, List.length_cons, List.length_nil, Nat.reduceAdd, Nat.reduceSub, Array.replicate_succ, Array.replicate_zero, List.push_toArray, List.append_toArray, List.nil_append, List.cons_append]
  gi_wp2
  go_ret
  exact ⟨rfl, rfl⟩

/-- The value that slices.Backward hands back: all plans, from behind; or so many of them. -/
theorem backward_stops (F : Fence) (n : Nat) (hf : F.fn 118) (hro : F.round = none) (hn : 1 ≤ n) (Bs b m cap : Nat) (cs : Nat → Array Value) (hm : m ≤ 1000000) (w : World) (ad : Option Addr) (had : 0 < m → ad = some ⟨b, 0, none⟩)
    (hBs : w.cell? ⟨Bs, 0, none⟩ = some (.slice ad m cap)) (hb : b < w.heap.size) (hc : ∀ i, i < m → Nine w b (i * 9) (cs i)) (hsh : ∀ i, i < m → Shaped9 (cs i)) :
    SeqStopsK F n Tryz.prog 118 #[.pointer (some ⟨Bs, 0, none⟩)] (fun x : Fin m => #[Value.int .i64 (x.val : Nat), .agg (cs x.val)]) (KeepB Bs b) (fun ys => ys = revF m)
      (fun pre => ∃ k, k ≤ m ∧ pre = (revF m).take k) m w := fun l J Jx W hW _ _ hY h0 => by
  have hB := cell_lt hBs
  exact backward1_in F n hf hro hn l Bs b m cap cs hm J Jx hY W ad had ((hW.cell (p := ⟨Bs, 0, none⟩) hB).trans hBs) (fun i hi => (hc i hi).keep (hW.block b hb)) hsh h0
end Go.Proofs.YtcojnkjcbopnbaaGreatDoor

/- How a plan is laid: plain Lean. -/
namespace Go.Proofs.YtcojnkjcbopnbaaGreatDoor
open Go.RowKit

abbrev Mk := Nat × List St
def iterN {α : Type} (f : α → α) : Nat → α → α
  | 0, x => x
  | n + 1, x => iterN f n (f x)
theorem iterN_succ {α : Type} (f : α → α) (n : Nat) (x : α) : iterN f (n + 1) x = f (iterN f n x) := by
  induction n generalizing x with
  | zero => rfl
  | succ n ih =>
    show iterN f (n + 1) (f x) = f (iterN f n (f x))
    exact ih (f x)
/-- A fork. -/
def forkS (a b : Nat) : St := ⟨4, zero4, a, b⟩
/-- A state added. -/
def putN (ss : List St) (s : St) : Mk := (ss.length, ss ++ [s])
def setNx (l : List St) (i n : Nat) : List St := match l[i]? with | some s => l.set i { s with nx := n } | none => l
def leafS (q : Plan) (next : Nat) : St := ⟨q.k.toNat, if q.k = 1 then q.f else zero4, next, 0⟩
/-- One way more, ahead of what may be there. -/
def mayN (lay : Nat → List St → Mk) (next : Nat) (x : Mk) : Mk := putN (lay x.1 x.2).2 (forkS (lay x.1 x.2).1 next)
def ringN (lay : Nat → List St → Mk) (next : Nat) (ss : List St) : Mk := (ss.length, setNx (lay ss.length (ss ++ [forkS 0 next])).2 ss.length (lay ss.length (ss ++ [forkS 0 next])).1)
def timesN (lay : Nat → List St → Mk) (lo hi : Int) (next : Nat) (ss : List St) : Mk :=
  iterN (fun x => lay x.1 x.2) lo.toNat (iterN (mayN lay next) (hi - lo).toNat (if hi = -1 then ringN lay next ss else (next, ss)))
def catN (lay : Plan → Nat → List St → Mk) (l : List Plan) (next : Nat) (ss : List St) : Mk := (revF l.length).foldl (fun x i => lay l[i] x.1 x.2) (next, ss)
def branchN (lay : Nat → List St → Mk) (next : Nat) (x : Mk) : Mk := putN (lay next x.2).2 (forkS (lay next x.2).1 x.1)
def altN (lay : Plan → Nat → List St → Mk) (l : List Plan) (next : Nat) (ss : List St) : Mk :=
  match l.getLast? with
  | none => (next, ss)
  | some c => (revF l.dropLast.length).foldl (fun x i => branchN (lay l.dropLast[i]) next x) (lay c next ss)
def layN : Nat → Plan → Nat → List St → Mk
  | 0, _, next, ss => (next, ss)
  | d + 1, q, next, ss =>
    if q.k = 1 ∨ q.k = 2 ∨ q.k = 3 then putN ss (leafS q next)
    else if q.k = 4 then catN (layN d) q.kids next ss
    else if q.k = 5 then altN (layN d) q.kids next ss
    else if q.k = 6 then match q.kids with
      | [] => (next, ss)
      | c :: _ => timesN (layN d c) q.lo q.hi next ss
    else (next, ss)

def sumN (l : List Plan) : Nat := (l.map Plan.n).sum
/-- What a plan's own numbers are. -/
structure WfC (q : Plan) : Prop where
  fits : Fits q.f
  few : q.kids.length ≤ 500
  n : q.n ≤ 499
  leaf : q.k = 1 ∨ q.k = 2 ∨ q.k = 3 → 1 ≤ q.n
  cat : q.k = 4 → sumN q.kids ≤ q.n
  alt : q.k = 5 → q.kids ≠ [] ∧ sumN q.kids + q.kids.length ≤ q.n + 1
  rep : q.k = 6 → ∃ c, q.kids = [c] ∧ 0 ≤ q.lo ∧ q.lo ≤ 50 ∧ (q.hi = -1 ∨ (q.lo ≤ q.hi ∧ q.hi ≤ 50)) ∧ repN c.n q.lo q.hi ≤ q.n
/-- A plan that can be, of at most so many storeys. -/
def Wf : Nat → Plan → Prop
  | 0, _ => False
  | d + 1, q => WfC q ∧ ∀ c, c ∈ q.kids → Wf d c
theorem Wf.own {d : Nat} {q : Plan} (h : Wf d q) : WfC q := by
  cases d with
  | zero => exact h.elim
  | succ d => exact h.1

theorem putN_len (ss : List St) (s : St) : (putN ss s).2.length = ss.length + 1 := by simp [putN]
theorem setNx_len (l : List St) (i n : Nat) : (setNx l i n).length = l.length := by
  unfold setNx
  split
  · simp
  · rfl
theorem iterN_len (f : Mk → Mk) (m : Nat) (h : ∀ x, (f x).2.length ≤ x.2.length + m) (j : Nat) (x : Mk) : (iterN f j x).2.length ≤ x.2.length + j * m := by
  induction j generalizing x with
  | zero => simp [iterN]
  | succ j ih =>
    have h1 := ih (f x)
    have h2 := h x
    show (iterN f j (f x)).2.length ≤ _
    rw [Nat.add_mul]
    omega
theorem foldl_len {α : Type} (f : Mk → α → Mk) (g : α → Nat) (l : List α) (h : ∀ x i, i ∈ l → (f x i).2.length ≤ x.2.length + g i) (x : Mk) : (l.foldl f x).2.length ≤ x.2.length + (l.map g).sum := by
  induction l generalizing x with
  | nil => simp
  | cons i r ih =>
    have h1 := ih (fun y j hj => h y j (List.mem_cons_of_mem _ hj)) (f x i)
    have h2 := h x i List.mem_cons_self
    simp only [List.foldl_cons, List.map_cons, List.sum_cons]
    omega
theorem revF_map {α β : Type} (l : List α) (g : α → β) : (revF l.length).map (fun i => g l[i]) = (l.map g).reverse := by
  unfold revF
  rw [List.map_reverse]
  congr 1
  apply List.ext_getElem
  · simp
  · intro i h1 h2
    simp
theorem revF_sum (l : List Plan) : ((revF l.length).map (fun i => l[i].n)).sum = sumN l := by
  rw [revF_map l Plan.n, List.sum_reverse]
  rfl
theorem layN_len (d : Nat) : ∀ (q : Plan) (next : Nat) (ss : List St), Wf d q → (layN d q next ss).2.length ≤ ss.length + q.n := by
  induction d with
  | zero => intro q next ss h; exact h.elim
  | succ d ih =>
    intro q next ss h
    have hw := h.1
    unfold layN
    split
    · rename_i hk
      rw [putN_len]
      have := hw.leaf hk
      omega
    · split
      · rename_i hk
        have h1 := foldl_len (fun x (i : Fin q.kids.length) => layN d q.kids[i] x.1 x.2) (fun i => q.kids[i].n) (revF q.kids.length) (fun x i _ => ih _ _ _ (h.2 _ (List.getElem_mem i.isLt))) (next, ss)
        rw [revF_sum] at h1
        have h2 := hw.cat hk
        unfold catN
        exact Nat.le_trans h1 (by show ss.length + _ ≤ _; omega)
      · split
        · rename_i hk
          obtain ⟨hne, h2⟩ := hw.alt hk
          unfold altN
          have hsplit : q.kids = q.kids.dropLast ++ [q.kids.getLast hne] := (List.dropLast_concat_getLast hne).symm
          rw [List.getLast?_eq_some_getLast hne]
          simp only
          have hlast := ih (q.kids.getLast hne) next ss (h.2 _ (List.getLast_mem hne))
          have h1 := foldl_len (fun x (i : Fin q.kids.dropLast.length) => branchN (layN d q.kids.dropLast[i]) next x) (fun i => q.kids.dropLast[i].n + 1) (revF q.kids.dropLast.length) (fun x i _ => by
            have hm : q.kids.dropLast[i] ∈ q.kids := List.dropLast_subset _ (List.getElem_mem i.isLt)
            have h3 := ih _ next x.2 (h.2 _ hm)
            unfold branchN
            rw [putN_len]
            omega) (layN d (q.kids.getLast hne) next ss)
          have h4 : ((revF q.kids.dropLast.length).map (fun i => q.kids.dropLast[i].n + 1)).sum = sumN q.kids.dropLast + q.kids.dropLast.length := by
            rw [revF_map q.kids.dropLast (fun c => c.n + 1), List.sum_reverse]
            unfold sumN
            generalize q.kids.dropLast = l
            induction l with
            | nil => rfl
            | cons c r ih => simp only [List.map_cons, List.sum_cons, List.length_cons, ih]; omega
          rw [h4] at h1
          have h5 : sumN q.kids = sumN q.kids.dropLast + (q.kids.getLast hne).n := by
            conv => lhs; rw [hsplit]
            simp [sumN]
          have h6 : q.kids.dropLast.length = q.kids.length - 1 := List.length_dropLast
          have h7 : 0 < q.kids.length := List.length_pos_iff.2 hne
          omega
        · split
          · rename_i hk
            obtain ⟨c, hc, l0, l1, lh, hr⟩ := hw.rep hk
            rw [hc]
            simp only
            have hcw : Wf d c := h.2 c (by rw [hc]; exact List.mem_singleton_self c)
            have hl := fun x => ih c x
            unfold timesN
            have a1 := iterN_len (fun x : Mk => layN d c x.1 x.2) c.n (fun x => ih c x.1 x.2 hcw) q.lo.toNat (iterN (mayN (layN d c) next) (q.hi - q.lo).toNat (if q.hi = -1 then ringN (layN d c) next ss else (next, ss)))
            have a2 := iterN_len (mayN (layN d c) next) (c.n + 1) (fun x => by
              have := ih c x.1 x.2 hcw
              unfold mayN
              rw [putN_len]
              omega) (q.hi - q.lo).toNat (if q.hi = -1 then ringN (layN d c) next ss else (next, ss))
            unfold repN at hr
            split at hr
            · rename_i he
              have a3 : (ringN (layN d c) next ss).2.length ≤ ss.length + 1 + c.n := by
                show (setNx _ _ _).length ≤ _
                rw [setNx_len]
                have := ih c ss.length (ss ++ [forkS 0 next]) hcw
                simp only [List.length_append, List.length_singleton] at this
                omega
              rw [if_pos he] at a1 a2 ⊢
              have e0 : (q.hi - q.lo).toNat = 0 := by omega
              rw [e0] at a1 a2 ⊢
              omega
            · rename_i he
              rw [if_neg he] at a1 a2 ⊢
              have a4 : ((next, ss) : Mk).2.length = ss.length := rfl
              omega
          · show ss.length ≤ _
            omega
end Go.Proofs.YtcojnkjcbopnbaaGreatDoor

/- (*nfa.Prog).lay at states by themselves, and at nothing: walks. -/
namespace Go.Proofs.YtcojnkjcbopnbaaGreatDoor
open Go.RowKit

/-- A box of one cell. -/
structure One (w : World) (b : Nat) (v : Value) (t : TypeId) : Prop where
  row : w.heap[b]? = some (.cells #[v] t (0, 0))
theorem One.lt {w : World} {b : Nat} {v : Value} {t : TypeId} (h : One w b v t) : b < w.heap.size := (Array.getElem?_eq_some_iff.1 h.row).1
theorem One.c {w : World} {b : Nat} {v : Value} {t : TypeId} (h : One w b v t) : w.cell? ⟨b, 0, none⟩ = some v := cell_of_row _ _ 0 _ _ _ h.row
theorem One.z {w : World} {b : Nat} {v : Value} {t : TypeId} (h : One w b v t) : w.frozen? ⟨b, 0, none⟩ = false := frozen_of_row _ _ 0 _ _ h.row
theorem One.keep {w w' : World} {b : Nat} {v : Value} {t : TypeId} (h : One w b v t) (e : w'.heap[b]? = w.heap[b]?) : One w' b v t := ⟨e.trans h.row⟩
theorem One.after {w w' : World} {b : Nat} {v : Value} {t : TypeId} (h : One w b v t) (hb : Below w.heap.size w w') : One w' b v t := h.keep (hb.block b h.lt)
theorem One.set {w : World} {b : Nat} {v : Value} {t : TypeId} (h : One w b v t) (u : Value) : One (w.setCell ⟨b, 0, none⟩ u) b u t := ⟨by rw [heap_setCell_same w b 0 _ _ _ h.row]; rfl⟩
theorem one_new (w : World) (v : Value) (t : TypeId) : One (w.alloc (.cells #[v] t)) w.heap.size v t := ⟨heap_alloc_last w _⟩

/-- The boxes of a call of lay. -/
structure LayB (W w : World) (p : Nat) (qs : Array Value) (next : Nat) : Prop where
  ptr : One W w.heap.size (.pointer (some ⟨p, 0, none⟩)) 82
  q : PBox W (w.heap.size + 1) qs
  nx : One W (w.heap.size + 2) (.int .i64 next) 3
theorem layB_new (w : World) (p : Nat) (qs : Array Value) (next : Nat) : ∃ W, W = ((w.alloc (.cells #[.pointer (some ⟨p, 0, none⟩)] 82)).alloc (.cells qs 119)).alloc (.cells #[.int .i64 next] 3) ∧ Hid (LayB W w p qs next) ∧ Hid (Below w.heap.size w W) ∧ Hid (W.heap.size = w.heap.size + 3) := by
  obtain ⟨W1, e1⟩ : ∃ W1, W1 = w.alloc (.cells #[.pointer (some ⟨p, 0, none⟩)] 82) := ⟨_, rfl⟩
  obtain ⟨W2, e2⟩ : ∃ W2, W2 = W1.alloc (.cells qs 119) := ⟨_, rfl⟩
  have s1 : W1.heap.size = w.heap.size + 1 := by rw [e1, World.size_alloc]
  have s2 : W2.heap.size = w.heap.size + 2 := by rw [e2, World.size_alloc, s1]
  have b1 : Below w.heap.size w W1 := by rw [e1]; exact below_new _ _
  have b2 : Below W1.heap.size W1 W2 := by rw [e2]; exact below_new _ _
  have b3 := below_new W2 (.cells #[.int .i64 next] 3)
  have o1 : One W1 w.heap.size (.pointer (some ⟨p, 0, none⟩)) 82 := by rw [e1]; exact one_new _ _ _
  have o2 : PBox W2 (w.heap.size + 1) qs := by rw [e2, ← s1]; exact pbox_new _ _
  have o3 := one_new W2 (.int .i64 next) 3
  rw [s2] at o3
  refine ⟨_, rfl, ?_, ?_, ?_⟩
  · rw [← e1, ← e2]; exact Lib.hid ⟨(o1.after b2).after b3, o2.after b3, o3⟩
  · rw [← e1, ← e2]; exact Lib.hid (Below.step (Below.step b1 b2) b3)
  · rw [← e1, ← e2]; exact Lib.hid (by rw [World.size_alloc, s2])
theorem Laid.of {w W : World} {p : Nat} {sv : Value} {st : Int} {r : Mk} {e : Ending} {w' : World} (hb : Below w.heap.size w W) (h : Laid W p sv st r e w') : Laid w p sv st r e w' := by
  obtain ⟨sv', e1, h1, h2⟩ := h
  exact ⟨sv', e1, h1, (Turn.of hb).trans h2⟩

theorem leaf_set (f : Nat → Nat) (next : Nat) (q : Plan) (hk : q.k = 1) (hf : q.f = f) : stC (leafS q next) = #[.int .i64 1, .int .u64 (f 0), .int .u64 (f 1), .int .u64 (f 2), .int .u64 (f 3), .int .i64 next, .int .i64 0] := by
  unfold leafS
  rw [hk, if_pos rfl, hf]
  rfl
theorem leaf_two (next : Nat) (q : Plan) (hk : q.k = 2) : stC (leafS q next) = #[.int .i64 2, .int .u64 0, .int .u64 0, .int .u64 0, .int .u64 0, .int .i64 next, .int .i64 0] := by
  unfold leafS
  rw [hk, if_neg (by omega)]
  rfl
theorem leaf_three (next : Nat) (q : Plan) (hk : q.k = 3) : stC (leafS q next) = #[.int .i64 3, .int .u64 0, .int .u64 0, .int .u64 0, .int .u64 0, .int .i64 next, .int .i64 0] := by
  unfold leafS
  rw [hk, if_neg (by omega)]
  rfl

set_option maxRecDepth 100000 in
theorem lay_leaf (q : Plan) (sl : Value) (next : Nat) (p : Nat) (ss : List St) (sv : Value) (st : Int) (w : World) (hk : q.k = 1 ∨ q.k = 2 ∨ q.k = 3) (h : Mch w p ss sv st) (hlen : ss.length ≤ 1000000000) :
    Calls Tryz.prog 68 #[.pointer (some ⟨p, 0, none⟩), .agg (plC q.k q.f q.lo q.hi q.n sl), .int .i64 next] w (Laid w p sv st (putN ss (leafS q next))) := by
  obtain ⟨W, hW, HL, HB, _⟩ := layB_new w p (plC q.k q.f q.lo q.hi q.n sl) next
  have HP := Lib.hid (put_spec p ss sv st (leafS q next) W (h.after HB.out) hlen)
  clear h
  rcases hk with e | e | e
  · rw [leaf_set q.f next q e rfl] at HP
    have h1 : (q.k == 1) = true := by rw [e]; rfl
    clear e
    go_enter Tryz.func68, Tryz.ntmps68
    go_upto_region 1 with (fail)
    rw [← hW]
    clear hW
    obtain ⟨c0, c1, c2, c3, c4, c5, c6, c7, c8⟩ := nine_pl HL.out.q.nine
    have d0 := HL.out.ptr.c
    have d2 := HL.out.nx.c
    go_wp2_with fail
    refine HP.out.mono ?_
    rintro e w1 hl
    obtain ⟨sv', rfl, h1, h2⟩ := hl
    have HL2 := Lib.hid (Laid.of HB.out (⟨sv', rfl, h1, h2⟩ : Laid W p sv st _ _ w1))
    clear h1 h2
    go_wp2_with fail
    go_ret
    exact HL2.out
  · rw [leaf_two next q e] at HP
    have h1 : (q.k == 1) = false := by rw [e]; rfl
    have h2 : (q.k == 2) = true := by rw [e]; rfl
    clear e
    go_enter Tryz.func68, Tryz.ntmps68
    go_upto_region 1 with (fail)
    rw [← hW]
    clear hW
    obtain ⟨c0, c1, c2, c3, c4, c5, c6, c7, c8⟩ := nine_pl HL.out.q.nine
    have d0 := HL.out.ptr.c
    have d2 := HL.out.nx.c
    go_wp2_with fail
    refine HP.out.mono ?_
    rintro e w1 hl
    obtain ⟨sv', rfl, h1, h2⟩ := hl
    have HL2 := Lib.hid (Laid.of HB.out (⟨sv', rfl, h1, h2⟩ : Laid W p sv st _ _ w1))
    clear h1 h2
    go_wp2_with fail
    go_ret
    exact HL2.out
  · rw [leaf_three next q e] at HP
    have h1 : (q.k == 1) = false := by rw [e]; rfl
    have h2 : (q.k == 2) = false := by rw [e]; rfl
    have h3 : (q.k == 3) = true := by rw [e]; rfl
    clear e
    go_enter Tryz.func68, Tryz.ntmps68
    go_upto_region 1 with (fail)
    rw [← hW]
    clear hW
    obtain ⟨c0, c1, c2, c3, c4, c5, c6, c7, c8⟩ := nine_pl HL.out.q.nine
    have d0 := HL.out.ptr.c
    have d2 := HL.out.nx.c
    go_wp2_with fail
    refine HP.out.mono ?_
    rintro e w1 hl
    obtain ⟨sv', rfl, h1, h2⟩ := hl
    have HL2 := Lib.hid (Laid.of HB.out (⟨sv', rfl, h1, h2⟩ : Laid W p sv st _ _ w1))
    clear h1 h2
    go_wp2_with fail
    go_ret
    exact HL2.out

set_option maxRecDepth 100000 in
theorem lay_none (q : Plan) (sl : Value) (next : Nat) (p : Nat) (ss : List St) (sv : Value) (st : Int) (w : World) (h1 : q.k ≠ 1) (h2 : q.k ≠ 2) (h3 : q.k ≠ 3) (h4 : q.k ≠ 4) (h5 : q.k ≠ 5) (h6 : q.k ≠ 6) (h : Mch w p ss sv st) :
    Calls Tryz.prog 68 #[.pointer (some ⟨p, 0, none⟩), .agg (plC q.k q.f q.lo q.hi q.n sl), .int .i64 next] w (Laid w p sv st (next, ss)) := by
  obtain ⟨W, hW, HL, HB, _⟩ := layB_new w p (plC q.k q.f q.lo q.hi q.n sl) next
  have HM := Lib.hid (h.after HB.out)
  have e1 : (q.k == 1) = false := beq_eq_false_iff_ne.2 h1
  have e2 : (q.k == 2) = false := beq_eq_false_iff_ne.2 h2
  have e3 : (q.k == 3) = false := beq_eq_false_iff_ne.2 h3
  have e4 : (q.k == 4) = false := beq_eq_false_iff_ne.2 h4
  have e5 : (q.k == 5) = false := beq_eq_false_iff_ne.2 h5
  have e6 : (q.k == 6) = false := beq_eq_false_iff_ne.2 h6
  clear h h1 h2 h3 h4 h5 h6
  go_enter Tryz.func68, Tryz.ntmps68
  go_upto_region 1 with (fail)
  rw [← hW]
  clear hW
  obtain ⟨c0, c1, c2, c3, c4, c5, c6, c7, c8⟩ := nine_pl HL.out.q.nine
  have d0 := HL.out.ptr.c
  have d2 := HL.out.nx.c
  go_wp2_with fail
  go_ret
  exact ⟨sv, rfl, HM.out, Turn.of HB.out⟩
end Go.Proofs.YtcojnkjcbopnbaaGreatDoor
