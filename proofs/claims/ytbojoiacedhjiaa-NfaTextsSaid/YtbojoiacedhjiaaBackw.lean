/- slices.Backward over a slice of plans: its contract. -/
import Derived.Test.YtbojoiacedhjiaaPlanT
import Derived.RangeFuncNested
import Derived.RangeFuncBound
import Derived.RangeFuncCalls
import Derived.RangeFuncLeaves
import Derived.Shelf.Abstract
import Derived.Shelf.RegionOpen
import Derived.OwnWalkIn
import Derived.TacticsInMore
import Derived.LoopNIn
import Derived.LoopIn
namespace Go.Proofs.Ytbojoiacedhjiaa
open Go.RowKit Go.Shelf
attribute [local go_sem] Oper.semAt_some

/-- All places of a list, from behind. -/
def revF (m : Nat) : List (Fin m) := (List.finRange m).reverse
theorem revF_len (m : Nat) : (revF m).length = m := by simp [revF]
theorem revF_get (m k : Nat) (hk : k < m) : (revF m)[k]? = some ⟨m - 1 - k, by omega⟩ := by
  unfold revF
  rw [List.getElem?_reverse (by simpa using hk), List.length_finRange, List.getElem?_eq_getElem (by simp; omega), List.getElem_finRange]
  rfl
theorem revF_take (m k : Nat) (hk : k < m) : (revF m).take (k + 1) = (revF m).take k ++ [⟨m - 1 - k, by omega⟩] := by
  rw [List.take_add_one, revF_get m k hk]
  rfl

/-- What a round keeps. -/
structure KeepB (Bs b : Nat) (W W' : World) : Prop where
  box : W'.heap[Bs]? = W.heap[Bs]?
  row : W'.heap[b]? = W.heap[b]?
theorem KeepB.refl (Bs b : Nat) (W : World) : KeepB Bs b W W := ⟨rfl, rfl⟩
theorem KeepB.trans {Bs b : Nat} {A B C : World} (h : KeepB Bs b A B) (k : KeepB Bs b B C) : KeepB Bs b A C := ⟨k.box.trans h.box, k.row.trans h.row⟩
theorem KeepB.put {Bs b : Nat} {w : World} (h1 : Bs < w.heap.size) (h2 : b < w.heap.size) (W : World) (l : Nat) (o o' : Obj) (hl : w.heap.size ≤ l) (_ : W.heap[l]? = some o) (_ : o.isCells = false) (_ : o.isWalk = false) : KeepB Bs b W (W.putObj l o') :=
  ⟨World.putObj_heap_other (by omega), World.putObj_heap_other (by omega)⟩
/-- What a plan's cells look like. -/
def Shaped9 (cs : Array Value) : Prop := ∃ (k : Int) (f : Nat → Nat) (lo hi : Int) (n : Int) (a : Option Addr) (q c : Nat), cs = plC k f lo hi n (.slice a q c)

set_option maxRecDepth 100000 in
set_option maxHeartbeats 2000000 in
theorem backward1_in (F : Fence) (n : Nat) (hf : F.fn 26) (hro : F.round = none) (hn : 1 ≤ n) (l Bs b m cap : Nat) (cs : Nat → Array Value) (hm : m ≤ 1000000) (J Jx : List (Fin m) → World → Prop)
    (hY : ∀ pre x W, J pre W → pre.length < m → YieldAt F (n - 1) Try.prog l #[.int .i64 (x.val : Nat), .agg (cs x.val)] W fun e W' =>
      (e = .returned (.bool true) ∧ J (pre ++ [x]) W' ∧ KeepB Bs b W W') ∨ (e = .returned (.bool false) ∧ Jx (pre ++ [x]) W'))
    (W : World) (ad : Option Addr) (had : 0 < m → ad = some ⟨b, 0, none⟩) (hBs : W.cell? ⟨Bs, 0, none⟩ = some (.slice ad m cap)) (hc : ∀ i, i < m → Nine W b (i * 9) (cs i)) (hsh : ∀ i, i < m → Shaped9 (cs i)) (h0 : J [] W) :
    CallsIn F n Try.prog 26 #[.func (.yield l) #[] #[], .pointer (some ⟨Bs, 0, none⟩)] W fun e W' => (∃ v, e = .returned v) ∧
      ((∃ ys, ys = revF m ∧ J ys W') ∨ (∃ pre, (∃ k, k ≤ m ∧ pre = (revF m).take k) ∧ Jx pre W')) := by
  have HC := Lib.hid hc
  have HSH := Lib.hid hsh
  have HY := Lib.hid hY
  have HAD := Lib.hid had
  clear hc hsh hY had
  refine callsIn_of_wp Try.func26 rfl hf ?_ hro
  simp only [Try.ntmps26, List.size_toArray, List.length_cons, List.length_nil, Nat.reduceAdd, Nat.reduceSub, Array.replicate_succ, Array.replicate_zero, List.push_toArray, List.append_toArray, List.nil_append, List.cons_append]
  gi_wp2
  gi_loopw [3] (fun i wr => ∃ k : Nat, k ≤ m ∧ i = .int .i64 ((m : Int) - 1 - k) ∧ J ((revF m).take k) wr ∧ KeepB Bs b W wr)
    (fun i _ => (intOf i + 1).toNat)
  case atStart => exact ⟨0, Nat.zero_le _, by simp, h0, KeepB.refl _ _ _⟩
  case round =>
    obtain ⟨k, hk, rfl, hJs, hnx⟩ := hrel
    have hb1 : wr.cell? ⟨Bs, 0, none⟩ = some (.slice ad m cap) := (World.cell?_of_block (a := ⟨Bs, 0, none⟩) hnx.box).trans hBs
    by_cases hlt : k < m
    · obtain rfl := HAD.out (by omega)
      obtain ⟨i, hi⟩ : ∃ i : Nat, i = m - 1 - k := ⟨_, rfl⟩
      have him : i < m := by omega
      obtain ⟨k0, f0, lo0, hi0, n0, a0, q0, c0', e⟩ := HSH.out i him
      have h9 := (HC.out i him).keep hnx.row
      have hy0 := HY.out _ ⟨i, him⟩ wr hJs (by rw [List.length_take, revF_len]; omega)
      dsimp only at hy0
      rw [e] at h9 hy0
      obtain ⟨c0, c1, c2, c3, c4, c5, c6, c7, c8⟩ := nine_pl h9
      unfold plC at hy0
      obtain ⟨fn, tmps, assign, body, hy, hR⟩ := hy0
      have ei : (m : Int) - 1 - k = (i : Int) := by omega
      rw [ei]
      have HE := Lib.hid e
      have HI := Lib.hid hi
      clear e ei h9 hi
      gi_wp2
      refine hR.mono ?_
      rintro e W3 (⟨rfl, hJ3, hk3⟩ | ⟨rfl, hJx3⟩)
      · gi_wp2
        go_roundw
        case rel =>
          refine ⟨k + 1, by omega, ?_, ?_, hnx.trans hk3⟩
          · show Value.int .i64 ((i : Int) - 1) = .int .i64 ((m : Int) - 1 - ((k + 1 : Nat) : Int))
            congr 1
            have := HI.out
            omega
          · rw [revF_take m k hlt]
            have e2 : (⟨m - 1 - k, by omega⟩ : Fin m) = ⟨i, him⟩ := Fin.ext HI.out.symm
            rw [e2]
            exact hJ3
        case measure => simp [intOf]
      · gi_wp2
        refine bodyPost_ret (results_none rfl _ _ _) rfl ?_
        refine ⟨⟨_, rfl⟩, .inr ⟨_, ⟨k + 1, by omega, ?_⟩, hJx3⟩⟩
        rw [revF_take m k hlt]
        have e2 : (⟨m - 1 - k, by omega⟩ : Fin m) = ⟨i, him⟩ := Fin.ext HI.out.symm
        rw [e2]
    · obtain rfl : k = m := by omega
      gi_wp2
      go_end0
      refine ⟨⟨_, rfl⟩, .inl ⟨_, rfl, ?_⟩⟩
      rw [List.take_of_length_le (by rw [revF_len]; omega)] at hJs
      exact hJs

set_option maxHeartbeats 1000000 in
/-- slices.Backward: the slice is boxed; the function value captures the box. -/
theorem backward_in (F : Fence) (n : Nat) (hf : F.fn 22) (hro : F.round = none) (a : Option Addr) (len cap : Nat) (w : World) :
    CallsIn F n Try.prog 22 #[.slice a len cap] w fun e w' => e = .returned (.func (.func 26) #[] #[.pointer (some ⟨w.heap.size, 0, none⟩)]) ∧ w' = w.alloc (.cells #[.slice a len cap] 43) := by
  refine callsIn_of_wp Try.func22 rfl hf ?_ hro
  simp only [Try.ntmps22, List.size_toArray, List.length_cons, List.length_nil, Nat.reduceAdd, Nat.reduceSub, Array.replicate_succ, Array.replicate_zero, List.push_toArray, List.append_toArray, List.nil_append, List.cons_append]
  gi_wp2
  go_ret
  exact ⟨rfl, rfl⟩

/-- The value that slices.Backward hands back: all plans, from behind; or so many of them. -/
theorem backward_stops (F : Fence) (n : Nat) (hf : F.fn 26) (hro : F.round = none) (hn : 1 ≤ n) (Bs b m cap : Nat) (cs : Nat → Array Value) (hm : m ≤ 1000000) (w : World) (ad : Option Addr) (had : 0 < m → ad = some ⟨b, 0, none⟩)
    (hBs : w.cell? ⟨Bs, 0, none⟩ = some (.slice ad m cap)) (hb : b < w.heap.size) (hc : ∀ i, i < m → Nine w b (i * 9) (cs i)) (hsh : ∀ i, i < m → Shaped9 (cs i)) :
    SeqStopsK F n Try.prog 26 #[.pointer (some ⟨Bs, 0, none⟩)] (fun x : Fin m => #[Value.int .i64 (x.val : Nat), .agg (cs x.val)]) (KeepB Bs b) (fun ys => ys = revF m)
      (fun pre => ∃ k, k ≤ m ∧ pre = (revF m).take k) m w := fun l J Jx W hW _ _ hY h0 => by
  have hB := cell_lt hBs
  exact backward1_in F n hf hro hn l Bs b m cap cs hm J Jx hY W ad had ((hW.cell (p := ⟨Bs, 0, none⟩) hB).trans hBs) (fun i hi => (hc i hi).keep (hW.block b hb)) hsh h0
end Go.Proofs.Ytbojoiacedhjiaa
