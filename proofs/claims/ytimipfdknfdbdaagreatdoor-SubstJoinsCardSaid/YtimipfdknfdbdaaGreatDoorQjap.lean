/- Merged by program: Backw, LayN. -/
import Derived.RangeFuncNested
import Derived.RangeFuncBound
import Derived.RangeFuncCalls
import Derived.RangeFuncLeaves
import Derived.Shelf.Abstract
import Derived.Shelf.RegionOpen
import Derived.OwnWalkIn
import Derived.TacticsInMore
import Derived.LoopNIn
import Derived.LoopIn
import Derived.Test.YtimipfdknfdbdaaGreatDoorQjan
import Derived.Test.YtimipfdknfdbdaaGreatDoorQjao
/- slices.Backward over a slice of plans: its contract. -/
namespace Go.Proofs.YtimipfdknfdbdaaGreatDoor
open Go.RowKit Go.Shelf
attribute [local go_sem] Oper.semAt_some

/-- All places of a list, from behind. -/
def revF (m : Nat) : List (Fin m) := (List.finRange m).reverse
theorem revF_len (m : Nat) : (revF m).length = m := by simp [revF]
theorem revF_get (m k : Nat) (hk : k < m) : (revF m)[k]? = some ⟨m - 1 - k, by omega⟩ := by
  unfold revF
  rw [List.getElem?_reverse (by simpa using hk), List.length_finRange, List.getElem?_eq_getElem (by simp; omega), List.getElem_finRange]
  rfl
theorem revF_take (m k : Nat) (hk : k < m) : (revF m).take (k + 1) = (revF m).take k ++ [⟨m - 1 - k, by omega⟩] := by
  rw [List.take_add_one, revF_get m k hk]
  rfl

/-- What a round keeps. -/
structure KeepB (Bs b : Nat) (W W' : World) : Prop where
  box : W'.heap[Bs]? = W.heap[Bs]?
  row : W'.heap[b]? = W.heap[b]?
theorem KeepB.refl (Bs b : Nat) (W : World) : KeepB Bs b W W := ⟨rfl, rfl⟩
theorem KeepB.trans {Bs b : Nat} {A B C : World} (h : KeepB Bs b A B) (k : KeepB Bs b B C) : KeepB Bs b A C := ⟨k.box.trans h.box, k.row.trans h.row⟩
theorem KeepB.put {Bs b : Nat} {w : World} (h1 : Bs < w.heap.size) (h2 : b < w.heap.size) (W : World) (l : Nat) (o o' : Obj) (hl : w.heap.size ≤ l) (_ : W.heap[l]? = some o) (_ : o.isCells = false) (_ : o.isWalk = false) : KeepB Bs b W (W.putObj l o') :=
  ⟨World.putObj_heap_other (by omega), World.putObj_heap_other (by omega)⟩
/-- What a plan's cells look like. -/
def Shaped9 (cs : Array Value) : Prop := ∃ (k : Int) (f : Nat → Nat) (lo hi : Int) (n : Int) (a : Option Addr) (q c : Nat), cs = plC k f lo hi n (.slice a q c)

set_option maxRecDepth 100000 in
set_option maxHeartbeats 2000000 in
theorem backward1_in (F : Fence) (n : Nat) (hf : F.fn 60) (hro : F.round = none) (hn : 1 ≤ n) (l Bs b m cap : Nat) (cs : Nat → Array Value) (hm : m ≤ 1000000) (J Jx : List (Fin m) → World → Prop)
    (hY : ∀ pre x W, J pre W → pre.length < m → YieldAt F (n - 1) Tryz.prog l #[.int .i64 (x.val : Nat), .agg (cs x.val)] W fun e W' =>
      (e = .returned (.bool true) ∧ J (pre ++ [x]) W' ∧ KeepB Bs b W W') ∨ (e = .returned (.bool false) ∧ Jx (pre ++ [x]) W'))
    (W : World) (ad : Option Addr) (had : 0 < m → ad = some ⟨b, 0, none⟩) (hBs : W.cell? ⟨Bs, 0, none⟩ = some (.slice ad m cap)) (hc : ∀ i, i < m → Nine W b (i * 9) (cs i)) (hsh : ∀ i, i < m → Shaped9 (cs i)) (h0 : J [] W) :
    CallsIn F n Tryz.prog 60 #[.func (.yield l) #[] #[], .pointer (some ⟨Bs, 0, none⟩)] W fun e W' => (∃ v, e = .returned v) ∧
      ((∃ ys, ys = revF m ∧ J ys W') ∨ (∃ pre, (∃ k, k ≤ m ∧ pre = (revF m).take k) ∧ Jx pre W')) := by
  have HC := Lib.hid hc
  have HSH := Lib.hid hsh
  have HY := Lib.hid hY
  have HAD := Lib.hid had
  clear hc hsh hY had
  refine callsIn_of_wp Tryz.func60 rfl hf ?_ hro
  simp only [Tryz.ntmps60, List.size_toArray, List.length_cons, List.length_nil, Nat.reduceAdd, Nat.reduceSub, Array.replicate_succ, Array.replicate_zero, List.push_toArray, List.append_toArray, List.nil_append, List.cons_append]
  gi_wp2
  gi_loopw [3] (fun i wr => ∃ k : Nat, k ≤ m ∧ i = .int .i64 ((m : Int) - 1 - k) ∧ J ((revF m).take k) wr ∧ KeepB Bs b W wr)
    (fun i _ => (intOf i + 1).toNat)
  case atStart => exact ⟨0, Nat.zero_le _, by simp, h0, KeepB.refl _ _ _⟩
  case round =>
    obtain ⟨k, hk, rfl, hJs, hnx⟩ := hrel
    have hb1 : wr.cell? ⟨Bs, 0, none⟩ = some (.slice ad m cap) := (World.cell?_of_block (a := ⟨Bs, 0, none⟩) hnx.box).trans hBs
    by_cases hlt : k < m
    · obtain rfl := HAD.out (by omega)
      obtain ⟨i, hi⟩ : ∃ i : Nat, i = m - 1 - k := ⟨_, rfl⟩
      have him : i < m := by omega
      obtain ⟨k0, f0, lo0, hi0, n0, a0, q0, c0', e⟩ := HSH.out i him
      have h9 := (HC.out i him).keep hnx.row
      have hy0 := HY.out _ ⟨i, him⟩ wr hJs (by rw [List.length_take, revF_len]; omega)
      dsimp only at hy0
      rw [e] at h9 hy0
      obtain ⟨c0, c1, c2, c3, c4, c5, c6, c7, c8⟩ := nine_pl h9
      unfold plC at hy0
      obtain ⟨fn, tmps, assign, body, hy, hR⟩ := hy0
      have ei : (m : Int) - 1 - k = (i : Int) := by omega
      rw [ei]
      have HE := Lib.hid e
      have HI := Lib.hid hi
      clear e ei h9 hi
      gi_wp2
      refine hR.mono ?_
      rintro e W3 (⟨rfl, hJ3, hk3⟩ | ⟨rfl, hJx3⟩)
      · gi_wp2
        go_roundw
        case rel =>
          refine ⟨k + 1, by omega, ?_, ?_, hnx.trans hk3⟩
          · show Value.int .i64 ((i : Int) - 1) = .int .i64 ((m : Int) - 1 - ((k + 1 : Nat) : Int))
            congr 1
            have := HI.out
            omega
          · rw [revF_take m k hlt]
            have e2 : (⟨m - 1 - k, by omega⟩ : Fin m) = ⟨i, him⟩ := Fin.ext HI.out.symm
            rw [e2]
            exact hJ3
        case measure => simp [intOf]
      · gi_wp2
        refine bodyPost_ret (results_none rfl _ _ _) rfl ?_
        refine ⟨⟨_, rfl⟩, .inr ⟨_, ⟨k + 1, by omega, ?_⟩, hJx3⟩⟩
        rw [revF_take m k hlt]
        have e2 : (⟨m - 1 - k, by omega⟩ : Fin m) = ⟨i, him⟩ := Fin.ext HI.out.symm
        rw [e2]
    · obtain rfl : k = m := by omega
      gi_wp2
      go_end0
      refine ⟨⟨_, rfl⟩, .inl ⟨_, rfl, ?_⟩⟩
      rw [List.take_of_length_le (by rw [revF_len]; omega)] at hJs
      exact hJs

set_option maxHeartbeats 1000000 in
/-- slices.Backward: the slice is boxed; the function value captures the box. -/
theorem backward_in (F : Fence) (n : Nat) (hf : F.fn 42) (hro : F.round = none) (a : Option Addr) (len cap : Nat) (w : World) :
    CallsIn F n Tryz.prog 42 #[.slice a len cap] w fun e w' => e = .returned (.func (.func 60) #[] #[.pointer (some ⟨w.heap.size, 0, none⟩)]) ∧ w' = w.alloc (.cells #[.slice a len cap] 80) := by
  refine callsIn_of_wp Tryz.func42 rfl hf ?_ hro
  simp only [Tryz.ntmps42, List.size_toArray, List.length_cons, List.length_nil, Nat.reduceAdd, Nat.reduceSub, Array.replicate_succ, Array.replicate_zero, List.push_toArray, List.append_toArray, List.nil_append, List.cons_append]
  gi_wp2
  go_ret
  exact ⟨rfl, rfl⟩

/-- The value that slices.Backward hands back: all plans, from behind; or so many of them. -/
theorem backward_stops (F : Fence) (n : Nat) (hf : F.fn 60) (hro : F.round = none) (hn : 1 ≤ n) (Bs b m cap : Nat) (cs : Nat → Array Value) (hm : m ≤ 1000000) (w : World) (ad : Option Addr) (had : 0 < m → ad = some ⟨b, 0, none⟩)
    (hBs : w.cell? ⟨Bs, 0, none⟩ = some (.slice ad m cap)) (hb : b < w.heap.size) (hc : ∀ i, i < m → Nine w b (i * 9) (cs i)) (hsh : ∀ i, i < m → Shaped9 (cs i)) :
    SeqStopsK F n Tryz.prog 60 #[.pointer (some ⟨Bs, 0, none⟩)] (fun x : Fin m => #[Value.int .i64 (x.val : Nat), .agg (cs x.val)]) (KeepB Bs b) (fun ys => ys = revF m)
      (fun pre => ∃ k, k ≤ m ∧ pre = (revF m).take k) m w := fun l J Jx W hW _ _ hY h0 => by
  have hB := cell_lt hBs
  exact backward1_in F n hf hro hn l Bs b m cap cs hm J Jx hY W ad had ((hW.cell (p := ⟨Bs, 0, none⟩) hB).trans hBs) (fun i hi => (hc i hi).keep (hW.block b hb)) hsh h0
end Go.Proofs.YtimipfdknfdbdaaGreatDoor

/- How a plan is laid: plain Lean. -/
namespace Go.Proofs.YtimipfdknfdbdaaGreatDoor
open Go.RowKit

abbrev Mk := Nat × List St
def iterN {α : Type} (f : α → α) : Nat → α → α
  | 0, x => x
  | n + 1, x => iterN f n (f x)
theorem iterN_succ {α : Type} (f : α → α) (n : Nat) (x : α) : iterN f (n + 1) x = f (iterN f n x) := by
  induction n generalizing x with
  | zero => rfl
  | succ n ih =>
    show iterN f (n + 1) (f x) = f (iterN f n (f x))
    exact ih (f x)
/-- A fork. -/
def forkS (a b : Nat) : St := ⟨4, zero4, a, b⟩
/-- A state added. -/
def putN (ss : List St) (s : St) : Mk := (ss.length, ss ++ [s])
def setNx (l : List St) (i n : Nat) : List St := match l[i]? with | some s => l.set i { s with nx := n } | none => l
def leafS (q : Plan) (next : Nat) : St := ⟨q.k.toNat, if q.k = 1 then q.f else zero4, next, 0⟩
/-- One way more, ahead of what may be there. -/
def mayN (lay : Nat → List St → Mk) (next : Nat) (x : Mk) : Mk := putN (lay x.1 x.2).2 (forkS (lay x.1 x.2).1 next)
def ringN (lay : Nat → List St → Mk) (next : Nat) (ss : List St) : Mk := (ss.length, setNx (lay ss.length (ss ++ [forkS 0 next])).2 ss.length (lay ss.length (ss ++ [forkS 0 next])).1)
def timesN (lay : Nat → List St → Mk) (lo hi : Int) (next : Nat) (ss : List St) : Mk :=
  iterN (fun x => lay x.1 x.2) lo.toNat (iterN (mayN lay next) (hi - lo).toNat (if hi = -1 then ringN lay next ss else (next, ss)))
def catN (lay : Plan → Nat → List St → Mk) (l : List Plan) (next : Nat) (ss : List St) : Mk := (revF l.length).foldl (fun x i => lay l[i] x.1 x.2) (next, ss)
def branchN (lay : Nat → List St → Mk) (next : Nat) (x : Mk) : Mk := putN (lay next x.2).2 (forkS (lay next x.2).1 x.1)
def altN (lay : Plan → Nat → List St → Mk) (l : List Plan) (next : Nat) (ss : List St) : Mk :=
  match l.getLast? with
  | none => (next, ss)
  | some c => (revF l.dropLast.length).foldl (fun x i => branchN (lay l.dropLast[i]) next x) (lay c next ss)
def layN : Nat → Plan → Nat → List St → Mk
  | 0, _, next, ss => (next, ss)
  | d + 1, q, next, ss =>
    if q.k = 1 ∨ q.k = 2 ∨ q.k = 3 then putN ss (leafS q next)
    else if q.k = 4 then catN (layN d) q.kids next ss
    else if q.k = 5 then altN (layN d) q.kids next ss
    else if q.k = 6 then match q.kids with
      | [] => (next, ss)
      | c :: _ => timesN (layN d c) q.lo q.hi next ss
    else (next, ss)

def sumN (l : List Plan) : Nat := (l.map Plan.n).sum
/-- What a plan's own numbers are. -/
structure WfC (q : Plan) : Prop where
  fits : Fits q.f
  few : q.kids.length ≤ 500
  n : q.n ≤ 499
  leaf : q.k = 1 ∨ q.k = 2 ∨ q.k = 3 → 1 ≤ q.n
  cat : q.k = 4 → sumN q.kids ≤ q.n
  alt : q.k = 5 → q.kids ≠ [] ∧ sumN q.kids + q.kids.length ≤ q.n + 1
  rep : q.k = 6 → ∃ c, q.kids = [c] ∧ 0 ≤ q.lo ∧ q.lo ≤ 50 ∧ (q.hi = -1 ∨ (q.lo ≤ q.hi ∧ q.hi ≤ 50)) ∧ repN c.n q.lo q.hi ≤ q.n
/-- A plan that can be, of at most so many storeys. -/
def Wf : Nat → Plan → Prop
  | 0, _ => False
  | d + 1, q => WfC q ∧ ∀ c, c ∈ q.kids → Wf d c
theorem Wf.own {d : Nat} {q : Plan} (h : Wf d q) : WfC q := by
  cases d with
  | zero => exact h.elim
  | succ d => exact h.1

theorem putN_len (ss : List St) (s : St) : (putN ss s).2.length = ss.length + 1 := by simp [putN]
theorem setNx_len (l : List St) (i n : Nat) : (setNx l i n).length = l.length := by
  unfold setNx
  split
  · simp
  · rfl
theorem iterN_len (f : Mk → Mk) (m : Nat) (h : ∀ x, (f x).2.length ≤ x.2.length + m) (j : Nat) (x : Mk) : (iterN f j x).2.length ≤ x.2.length + j * m := by
  induction j generalizing x with
  | zero => simp [iterN]
  | succ j ih =>
    have h1 := ih (f x)
    have h2 := h x
    show (iterN f j (f x)).2.length ≤ _
    rw [Nat.add_mul]
    omega
theorem foldl_len {α : Type} (f : Mk → α → Mk) (g : α → Nat) (l : List α) (h : ∀ x i, i ∈ l → (f x i).2.length ≤ x.2.length + g i) (x : Mk) : (l.foldl f x).2.length ≤ x.2.length + (l.map g).sum := by
  induction l generalizing x with
  | nil => simp
  | cons i r ih =>
    have h1 := ih (fun y j hj => h y j (List.mem_cons_of_mem _ hj)) (f x i)
    have h2 := h x i List.mem_cons_self
    simp only [List.foldl_cons, List.map_cons, List.sum_cons]
    omega
theorem revF_map {α β : Type} (l : List α) (g : α → β) : (revF l.length).map (fun i => g l[i]) = (l.map g).reverse := by
  unfold revF
  rw [List.map_reverse]
  congr 1
  apply List.ext_getElem
  · simp
  · intro i h1 h2
    simp
theorem revF_sum (l : List Plan) : ((revF l.length).map (fun i => l[i].n)).sum = sumN l := by
  rw [revF_map l Plan.n, List.sum_reverse]
  rfl
theorem layN_len (d : Nat) : ∀ (q : Plan) (next : Nat) (ss : List St), Wf d q → (layN d q next ss).2.length ≤ ss.length + q.n := by
  induction d with
  | zero => intro q next ss h; exact h.elim
  | succ d ih =>
    intro q next ss h
    have hw := h.1
    unfold layN
    split
    · rename_i hk
      rw [putN_len]
      have := hw.leaf hk
      omega
    · split
      · rename_i hk
        have h1 := foldl_len (fun x (i : Fin q.kids.length) => layN d q.kids[i] x.1 x.2) (fun i => q.kids[i].n) (revF q.kids.length) (fun x i _ => ih _ _ _ (h.2 _ (List.getElem_mem i.isLt))) (next, ss)
        rw [revF_sum] at h1
        have h2 := hw.cat hk
        unfold catN
        exact Nat.le_trans h1 (by show ss.length + _ ≤ _; omega)
      · split
        · rename_i hk
          obtain ⟨hne, h2⟩ := hw.alt hk
          unfold altN
          have hsplit : q.kids = q.kids.dropLast ++ [q.kids.getLast hne] := (List.dropLast_concat_getLast hne).symm
          rw [List.getLast?_eq_some_getLast hne]
          simp only
          have hlast := ih (q.kids.getLast hne) next ss (h.2 _ (List.getLast_mem hne))
          have h1 := foldl_len (fun x (i : Fin q.kids.dropLast.length) => branchN (layN d q.kids.dropLast[i]) next x) (fun i => q.kids.dropLast[i].n + 1) (revF q.kids.dropLast.length) (fun x i _ => by
            have hm : q.kids.dropLast[i] ∈ q.kids := List.dropLast_subset _ (List.getElem_mem i.isLt)
            have h3 := ih _ next x.2 (h.2 _ hm)
            unfold branchN
            rw [putN_len]
            omega) (layN d (q.kids.getLast hne) next ss)
          have h4 : ((revF q.kids.dropLast.length).map (fun i => q.kids.dropLast[i].n + 1)).sum = sumN q.kids.dropLast + q.kids.dropLast.length := by
            rw [revF_map q.kids.dropLast (fun c => c.n + 1), List.sum_reverse]
            unfold sumN
            generalize q.kids.dropLast = l
            induction l with
            | nil => rfl
            | cons c r ih => simp only [List.map_cons, List.sum_cons, List.length_cons, ih]; omega
          rw [h4] at h1
          have h5 : sumN q.kids = sumN q.kids.dropLast + (q.kids.getLast hne).n := by
            conv => lhs; rw [hsplit]
            simp [sumN]
          have h6 : q.kids.dropLast.length = q.kids.length - 1 := List.length_dropLast
          have h7 : 0 < q.kids.length := List.length_pos_iff.2 hne
          omega
        · split
          · rename_i hk
            obtain ⟨c, hc, l0, l1, lh, hr⟩ := hw.rep hk
            rw [hc]
            simp only
            have hcw : Wf d c := h.2 c (by rw [hc]; exact List.mem_singleton_self c)
            have hl := fun x => ih c x
            unfold timesN
            have a1 := iterN_len (fun x : Mk => layN d c x.1 x.2) c.n (fun x => ih c x.1 x.2 hcw) q.lo.toNat (iterN (mayN (layN d c) next) (q.hi - q.lo).toNat (if q.hi = -1 then ringN (layN d c) next ss else (next, ss)))
            have a2 := iterN_len (mayN (layN d c) next) (c.n + 1) (fun x => by
              have := ih c x.1 x.2 hcw
              unfold mayN
              rw [putN_len]
              omega) (q.hi - q.lo).toNat (if q.hi = -1 then ringN (layN d c) next ss else (next, ss))
            unfold repN at hr
            split at hr
            · rename_i he
              have a3 : (ringN (layN d c) next ss).2.length ≤ ss.length + 1 + c.n := by
                show (setNx _ _ _).length ≤ _
                rw [setNx_len]
                have := ih c ss.length (ss ++ [forkS 0 next]) hcw
                simp only [List.length_append, List.length_singleton] at this
                omega
              rw [if_pos he] at a1 a2 ⊢
              have e0 : (q.hi - q.lo).toNat = 0 := by omega
              rw [e0] at a1 a2 ⊢
              omega
            · rename_i he
              rw [if_neg he] at a1 a2 ⊢
              have a4 : ((next, ss) : Mk).2.length = ss.length := rfl
              omega
          · show ss.length ≤ _
            omega
end Go.Proofs.YtimipfdknfdbdaaGreatDoor
