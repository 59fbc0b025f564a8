/- Merged by program: LayT, Put, PlanN. -/
import Derived.Deep.AppendLies
import Derived.Deep.RegionLaw
import Derived.BigRegion
import Derived.Deep.LoopGhost
import Derived.Test.YtimipfdknfdbdaaGreatDoorQjan
import Derived.Test.YtimipfdknfdbdaaGreatDoorQjai
/- A machine while it is laid: states in memory; (*nfa.Prog).put: a walk. -/
namespace Go.Proofs.YtimipfdknfdbdaaGreatDoor
open Go.RowKit

/-- A state of a machine. -/
structure St where
  k : Nat
  f : Nat → Nat
  nx : Nat
  ot : Nat
def stC (s : St) : Array Value := #[.int .i64 s.k, .int .u64 (s.f 0), .int .u64 (s.f 1), .int .u64 (s.f 2), .int .u64 (s.f 3), .int .i64 s.nx, .int .i64 s.ot]
theorem stC_one (s : St) : ∀ u ∈ (stC s).toList, u.oneCell' = true := by
  intro u hu
  unfold stC at hu
  simp at hu
  rcases hu with rfl | rfl | rfl | rfl | rfl | rfl | rfl <;> rfl
def flatS (ss : List St) : List Value := ss.flatMap fun s => (stC s).toList
theorem flatS_nil : flatS [] = [] := rfl
theorem flatS_snoc (ss : List St) (s : St) : flatS (ss ++ [s]) = flatS ss ++ (stC s).toList := by simp [flatS]
theorem flatS_len (ss : List St) : (flatS ss).length = ss.length * 7 := by
  induction ss with
  | nil => rfl
  | cons s r ih =>
    show ((stC s).toList ++ flatS r).length = _
    rw [List.length_append, ih, List.length_cons]
    show 7 + _ = _
    omega
theorem flatS_get (ss : List St) (i : Nat) (hi : i < ss.length) (j : Nat) (hj : j < 7) : (flatS ss)[i * 7 + j]? = (stC ss[i])[j]? := by
  induction ss generalizing i with
  | nil => exact absurd hi (by simp)
  | cons s r ih =>
    show ((stC s).toList ++ flatS r)[i * 7 + j]? = _
    have hl : (stC s).toList.length = 7 := rfl
    cases i with
    | zero =>
      rw [List.getElem?_append_left (by omega), Nat.zero_mul, Nat.zero_add]
      simp
    | succ i =>
      rw [List.getElem?_append_right (by omega), hl, show (i + 1) * 7 + j - 7 = i * 7 + j by omega]
      exact ih i (by simpa using hi)
theorem flatS_set (ss : List St) (i : Nat) (hi : i < ss.length) (n : Nat) : (flatS ss).set (i * 7 + 5) (.int .i64 n) = flatS (ss.set i { ss[i] with nx := n }) := by
  induction ss generalizing i with
  | nil => exact absurd hi (by simp)
  | cons s r ih =>
    have hl : (stC s).toList.length = 7 := rfl
    cases i with
    | zero =>
      show ((stC s).toList ++ flatS r).set (0 * 7 + 5) _ = (stC { s with nx := n }).toList ++ flatS r
      rw [List.set_append_left _ _ (by omega)]
      rfl
    | succ i =>
      show ((stC s).toList ++ flatS r).set ((i + 1) * 7 + 5) _ = (stC s).toList ++ flatS (r.set i _)
      rw [List.set_append_right _ _ (by omega), hl, show (i + 1) * 7 + 5 - 7 = i * 7 + 5 by omega]
      rw [ih i (by simpa using hi)]
      rfl
theorem info_state3 : (Tryz.prog.info? 87).map (fun i => (i.zero, i.size, i.bytes)) = some (some (.agg #[.int .i64 0, .int .u64 0, .int .u64 0, .int .u64 0, .int .u64 0, .int .i64 0, .int .i64 0]), 7, 56) := by kernel_rfl
theorem info_state : (Tryz.prog.info? 87).map (·.size) = some 7 := by kernel_rfl

/-- A machine while it is laid. -/
structure Mch (w : World) (p : Nat) (ss : List St) (sv : Value) (st : Int) : Prop where
  row : w.heap[p]? = some (.cells #[sv, .int .i64 st] 56 (0, 0))
  own : w.ownsRow (p + 1) 87 7 sv ss.length (flatS ss)
theorem Mch.lt {w : World} {p : Nat} {ss : List St} {sv : Value} {st : Int} (h : Mch w p ss sv st) : p < w.heap.size := (Array.getElem?_eq_some_iff.1 h.row).1
theorem Mch.c0 {w : World} {p : Nat} {ss : List St} {sv : Value} {st : Int} (h : Mch w p ss sv st) : w.cell? ⟨p, 0, none⟩ = some sv := cell_of_row _ _ 0 _ _ _ h.row
theorem Mch.c1 {w : World} {p : Nat} {ss : List St} {sv : Value} {st : Int} (h : Mch w p ss sv st) : w.cell? ⟨p, 1, none⟩ = some (.int .i64 st) := cell_of_row _ _ 1 _ _ _ h.row
theorem Mch.z {w : World} {p : Nat} {ss : List St} {sv : Value} {st : Int} (h : Mch w p ss sv st) (j : Nat) : w.frozen? ⟨p, j, none⟩ = false := frozen_of_row _ _ j _ _ h.row
theorem Mch.notP {w : World} {p : Nat} {ss : List St} {sv : Value} {st : Int} (h : Mch w p ss sv st) : sv.ownBlock ≠ some p := fun e => by have := (h.own.lt p e).1; omega
theorem Mch.shape {w : World} {p : Nat} {ss : List St} {sv : Value} {st : Int} (h : Mch w p ss sv st) : ∃ a c, sv = .slice a ss.length c := by
  rcases h.own.2 with ⟨rfl, h0⟩ | ⟨g, cap, cur, rfl, _⟩
  · rw [h0]; exact ⟨_, _, rfl⟩
  · exact ⟨_, _, rfl⟩
theorem Mch.after {w w' : World} {p : Nat} {ss : List St} {sv : Value} {st : Int} (h : Mch w p ss sv st) (hb : Below w.heap.size w w') : Mch w' p ss sv st :=
  ⟨by rw [hb.block p h.lt]; exact h.row, owns_after h.own hb⟩

/-- What laying leaves as it was: all but the machine and its row. -/
structure Turn (p : Nat) (sv : Value) (w w' : World) (sv' : Value) : Prop where
  os : w'.os = w.os
  tape : w'.tape = w.tape
  output : w'.output = w.output
  size : w.heap.size ≤ w'.heap.size
  block : ∀ k, k < w.heap.size → k ≠ p → sv.ownBlock ≠ some k → w'.heap[k]? = w.heap[k]?
  own : sv'.ownBlock = sv.ownBlock ∨ ∃ k, sv'.ownBlock = some k ∧ w.heap.size ≤ k
theorem Turn.refl (p : Nat) (sv : Value) (w : World) : Turn p sv w w sv := ⟨rfl, rfl, rfl, Nat.le_refl _, fun _ _ _ _ => rfl, Or.inl rfl⟩
theorem Turn.trans {p : Nat} {sv sv1 sv2 : Value} {w w1 w2 : World} (h : Turn p sv w w1 sv1) (g : Turn p sv1 w1 w2 sv2) : Turn p sv w w2 sv2 := by
  refine ⟨g.os.trans h.os, g.tape.trans h.tape, g.output.trans h.output, Nat.le_trans h.size g.size, fun k hk hp hn => ?_, ?_⟩
  · refine (g.block k (Nat.lt_of_lt_of_le hk h.size) hp (fun e => ?_)).trans (h.block k hk hp hn)
    rcases h.own with e' | ⟨j, e', hj⟩
    · exact hn (e' ▸ e)
    · rw [e'] at e
      have : j = k := by simpa using e
      omega
  · rcases g.own with e | ⟨j, e, hj⟩
    · rw [e]; exact h.own
    · exact Or.inr ⟨j, e, Nat.le_trans h.size hj⟩
theorem Turn.of {p : Nat} {sv : Value} {w w' : World} (h : Below w.heap.size w w') : Turn p sv w w' sv := ⟨h.os, h.tape, h.output, h.size, fun k hk _ _ => h.block k hk, Or.inl rfl⟩
theorem Turn.then {p : Nat} {sv sv1 : Value} {w w1 w2 : World} (h : Turn p sv w w1 sv1) (g : Below w1.heap.size w1 w2) : Turn p sv w w2 sv1 := h.trans (.of g)
theorem Turn.below {p : Nat} {sv sv' : Value} {w w' : World} (h : Turn p sv w w' sv') {B : Nat} (hp : B ≤ p) (hB : B ≤ w.heap.size) (hs : ∀ k, sv.ownBlock = some k → B ≤ k) : Below B w w' :=
  ⟨h.os, h.tape, h.output, h.size, fun k hk => h.block k (by omega) (by omega) (fun e => by have := hs k e; omega)⟩
/-- A block that is neither the machine's nor its row's stays. -/
theorem Turn.keep {p : Nat} {sv sv' : Value} {w w' : World} (h : Turn p sv w w' sv') {k : Nat} {o : Obj} (ho : w.heap[k]? = some o) (hp : k ≠ p) (hs : sv.ownBlock ≠ some k) : w'.heap[k]? = some o :=
  (h.block k (Array.getElem?_eq_some_iff.1 ho).1 hp hs).trans ho

/-- The start stored anew. -/
theorem Mch.setStart {w : World} {p : Nat} {ss : List St} {sv : Value} {st : Int} (h : Mch w p ss sv st) (n : Int) : Mch (w.setCell ⟨p, 1, none⟩ (.int .i64 n)) p ss sv n ∧ Turn p sv w (w.setCell ⟨p, 1, none⟩ (.int .i64 n)) sv := by
  refine ⟨⟨?_, ?_⟩, rfl, rfl, rfl, by simp, fun k _ hp _ => heap_setCell_other w ⟨p, 1, none⟩ k _ (fun e => hp e), Or.inl rfl⟩
  · rw [heap_setCell_same w p 1 _ _ _ h.row]; rfl
  · exact ownsRow_setCell_other h.own (a := ⟨p, 1, none⟩) h.notP _

/-- A state added: the row grown, the slice stored. -/
theorem Mch.push {w w1 w2 : World} {p : Nat} {ss : List St} {sv sv' : Value} {st : Int} {s : St} (h : Mch w p ss sv st) (hb : Below w.heap.size w w1) (hg : w1.grownBy w2 sv.ownBlock)
    (ho : w2.ownsRow (p + 1) 87 7 sv' (ss.length + 1) (flatS ss ++ (stC s).toList)) (ha : sv'.ownBlock = sv.ownBlock ∨ ∃ k, sv'.ownBlock = some k ∧ w.heap.size ≤ k) :
    Mch (w2.setCell ⟨p, 0, none⟩ sv') p (ss ++ [s]) sv' st ∧ Turn p sv w (w2.setCell ⟨p, 0, none⟩ sv') sv' := by
  have hn := h.notP
  have h1 := h.after hb
  have hr : w2.heap[p]? = some (.cells #[sv, .int .i64 st] 56 (0, 0)) := by
    rw [hg.block p h1.lt (fun e => hn e.symm)]; exact h1.row
  have hn' : sv'.ownBlock ≠ some p := fun e => by have := (ho.lt p e).1; omega
  refine ⟨⟨?_, ?_⟩, ?_, ?_, ?_, ?_, fun k hk hp hs => ?_, ha⟩
  · rw [heap_setCell_same w2 p 0 _ _ _ hr]; rfl
  · rw [flatS_snoc, List.length_append]
    exact ownsRow_setCell_other ho (a := ⟨p, 0, none⟩) hn' _
  · exact hg.os.trans hb.os
  · exact hg.tape.trans hb.tape
  · exact hg.output.trans hb.output
  · have := hb.size; have := hg.size; simp; omega
  · rw [heap_setCell_other w2 ⟨p, 0, none⟩ k _ (fun e => hp e), hg.block k (by have := hb.size; omega) (fun e => hs e.symm)]
    exact hb.block k hk
end Go.Proofs.YtimipfdknfdbdaaGreatDoor

/- (*nfa.Prog).put: a walk. -/
namespace Go.Proofs.YtimipfdknfdbdaaGreatDoor
open Go.RowKit

/-- What laying leaves. -/
def Laid (w : World) (p : Nat) (sv : Value) (st : Int) (r : Nat × List St) (e : Ending) (w' : World) : Prop :=
  ∃ sv', e = .returned (.int .i64 r.1) ∧ Mch w' p r.2 sv' st ∧ Turn p sv w w' sv'

theorem below_drew_new (V : World) (o : Obj) : Below V.heap.size V (V.drew.alloc o) := (below_drew V).alloc (Nat.le_refl _) o
theorem push_c0 {V w1 : World} {o : Obj} {p : Nat} {ss : List St} {sv : Value} {st : Int} (h : Mch V p ss sv st) (hg : (V.drew.alloc o).grownBy w1 sv.ownBlock) : w1.cell? ⟨p, 0, none⟩ = some sv := by
  have h1 := h.after (below_drew_new V o)
  exact (hg.cell_far ⟨p, 0, none⟩ h1.lt (fun e => h.notP e.symm)).trans h1.c0
theorem push_z0 {V w1 : World} {o : Obj} {p : Nat} {ss : List St} {sv : Value} {st : Int} (h : Mch V p ss sv st) (hg : (V.drew.alloc o).grownBy w1 sv.ownBlock) : w1.frozen? ⟨p, 0, none⟩ = false := by
  have h1 := h.after (below_drew_new V o)
  exact (hg.frozen_far ⟨p, 0, none⟩ h1.lt (fun e => h.notP e.symm)).trans (h1.z 0)

set_option maxRecDepth 100000 in
theorem put_spec (p : Nat) (ss : List St) (sv : Value) (st : Int) (s : St) (w : World) (h : Mch w p ss sv st) (hlen : ss.length ≤ 1000000000) :
    Calls Tryz.prog 31 #[.pointer (some ⟨p, 0, none⟩), .agg (stC s)] w (Laid w p sv st (ss.length, ss ++ [s])) := by
  obtain ⟨i0, hi0', hz0, hz1, hz2⟩ := info_parts info_state3
  obtain ⟨V, hV⟩ : ∃ V, V = w.alloc (.cells (stC s) 87) := ⟨_, rfl⟩
  have B1 : Below w.heap.size w V := by rw [hV]; exact below_new _ _
  have HV1 := Lib.hid (h.after B1)
  have HB := Lib.hid B1
  have R1 : Hid (V.heap[w.heap.size]? = some (.cells (stC s) 87 (0, 0))) := Lib.hid (by rw [hV]; exact heap_alloc_last _ _)
  have HM := Lib.hid h
  have hplt := h.lt
  have hpv : p < V.heap.size := by have := B1.size; omega
  have hbv : w.heap.size < V.heap.size := by rw [hV, World.size_alloc]; omega
  have hone := Lib.hid (stC_one s)
  go_enter Tryz.func31, Tryz.ntmps31
  go_upto_region 1 with (fail)
  rw [← hV]
  clear hV B1 h
  have c0 := HV1.out.c0
  have r0 : V.cell? ⟨w.heap.size, 0, none⟩ = some (.int .i64 s.k) := cell_of_row _ _ 0 _ _ _ R1.out
  have r1 : V.cell? ⟨w.heap.size, 1, none⟩ = some (.int .u64 (s.f 0)) := cell_of_row _ _ 1 _ _ _ R1.out
  have r2 : V.cell? ⟨w.heap.size, 2, none⟩ = some (.int .u64 (s.f 1)) := cell_of_row _ _ 2 _ _ _ R1.out
  have r3 : V.cell? ⟨w.heap.size, 3, none⟩ = some (.int .u64 (s.f 2)) := cell_of_row _ _ 3 _ _ _ R1.out
  have r4 : V.cell? ⟨w.heap.size, 4, none⟩ = some (.int .u64 (s.f 3)) := cell_of_row _ _ 4 _ _ _ R1.out
  have r5 : V.cell? ⟨w.heap.size, 5, none⟩ = some (.int .i64 s.nx) := cell_of_row _ _ 5 _ _ _ R1.out
  have r6 : V.cell? ⟨w.heap.size, 6, none⟩ = some (.int .i64 s.ot) := cell_of_row _ _ 6 _ _ _ R1.out
  go_region_law ((refine step_append_lies _ rfl (.tmp 9) (.tmp 11) 54 rfl (p + 1) 87 i0 (.agg #[.int .i64 0, .int .u64 0, .int .u64 0, .int .u64 0, .int .u64 0, .int .i64 0, .int .i64 0]) 7 56 Tryz.underlying54 hi0' hz0 hz1 hz2 rfl (by decide) sv ss.length (flatS ss) (by simp [Act.eval]) (World.ownsRow.alloc (World.ownsRow.drew HV1.out.own) _) ⟨V.heap.size, 0, none⟩ 1 1 (stC s).toList (by simp [Act.eval]) rfl (World.news_of_block (heap_alloc_last V.drew (.cells (stC s) 87))) hone.out (by decide) (by unfold maxLen; omega) (by omega) (by simp; omega) _ rfl ?_; intro g cap w1 hown hgrow hat hlt; have d0 := push_c0 HV1.out hgrow; have dz := push_z0 HV1.out hgrow))
  all_goals
    go_wp2_with fail
    go_ret
    refine ⟨.slice (some ⟨g, 0, none⟩) (ss.length + 1) cap, rfl, ?_⟩
    have hg : (V.drew.alloc (.cells (stC s) 87)).grownBy w1 sv.ownBlock := hgrow
    have hsz : (V.drew.alloc (.cells (stC s) 87)).heap.size = V.heap.size + 1 := World.size_alloc _ _
    exact HM.out.push (Below.step HB.out (below_drew_new V _)) hg hown (by
      rcases hat with e | e
      · exact Or.inl e.symm
      · refine Or.inr ⟨g, rfl, ?_⟩
        have e' : g = (V.drew.alloc (.cells (stC s) 87)).heap.size := e
        omega)
end Go.Proofs.YtimipfdknfdbdaaGreatDoor

/- nfa.repeated, nfa.planOf: walks. -/
namespace Go.Proofs.YtimipfdknfdbdaaGreatDoor
open Go.RowKit

def overP : Plan := .mk 0 zero4 0 0 500 []
def emptyP : Plan := .mk 0 zero4 0 0 0 []
/-- How many states a repetition has, of a part of n. -/
def repN (n : Nat) (lo hi : Int) : Nat := if hi = -1 then lo.toNat * n + n + 1 else lo.toNat * n + (hi - lo).toNat * (n + 1)
/-- The parts' plans, and how many states they have: none, if these are too many. -/
def partsN (pl : Tree → Plan) (k : Int) : List Tree → Nat → List Plan → Option (Nat × List Plan)
  | [], n, ps => some (n, ps)
  | t :: r, n, ps =>
    if 500 ≤ n + (pl t).n then none
    else partsN pl k r (n + (pl t).n) (if 0 < (pl t).n ∨ k ≠ 4 then ps ++ [pl t] else ps)
def ownN (k lo hi : Int) (n : Nat) : Nat := if k = 1 ∨ k = 2 ∨ k = 3 then 1 else if k = 6 then min (repN n lo hi) 500 else n
def beginN (t : Tree) : Nat := if t.k = 5 then t.kids.length - 1 else 0
def finishN (t : Tree) : Option (Nat × List Plan) → Plan
  | none => overP
  | some (n, ps) => if ownN t.k t.lo t.hi n = 0 then emptyP else .mk t.k t.f t.lo t.hi (ownN t.k t.lo t.hi n) ps
def planN : Nat → Tree → Plan
  | 0, _ => emptyP
  | d + 1, t => finishN t (partsN (planN d) t.k t.kids (beginN t) [])

theorem repN_le (n : Nat) (lo hi : Int) (hn : n < 500) (h0 : 0 ≤ lo) (h1 : lo ≤ 50) (h : hi = -1 ∨ (lo ≤ hi ∧ hi ≤ 50)) : repN n lo hi ≤ 60000 := by
  have a : lo.toNat ≤ 50 := by omega
  have b : lo.toNat * n ≤ 50 * 500 := Nat.mul_le_mul a (by omega)
  unfold repN
  rcases h with rfl | ⟨h2, h3⟩
  · rw [if_pos rfl]; omega
  · have c : (hi - lo).toNat * (n + 1) ≤ 50 * 500 := Nat.mul_le_mul (by omega) (by omega)
    split <;> omega
theorem ownN_le (t : Tree) (n : Nat) (hn : n ≤ 1000000) : ownN t.k t.lo t.hi n ≤ 1000000 := by
  unfold ownN
  split
  · omega
  · split
    · have := Nat.min_le_right (repN n t.lo t.hi) 500; omega
    · omega

set_option maxRecDepth 100000 in
theorem repeated_spec (n : Nat) (lo hi : Int) (hn : n < 500) (h0 : 0 ≤ lo) (h1 : lo ≤ 50) (h : hi = -1 ∨ (lo ≤ hi ∧ hi ≤ 50)) (w : World) :
    Calls Tryz.prog 41 #[.int .i64 n, .int .i64 lo, .int .i64 hi] w fun e w' => e = .returned (.int .i64 (repN n lo hi : Nat)) ∧ w' = w := by
  have hl := repN_le n lo hi hn h0 h1 h
  obtain ⟨a, rfl⟩ : ∃ a : Nat, lo = a := ⟨lo.toNat, by omega⟩
  have ha : a ≤ 50 := by omega
  have hab : ((a : Int) * n) = ((a * n : Nat) : Int) := by simp
  have hb : a * n ≤ 50 * 500 := Nat.mul_le_mul ha (by omega)
  rcases h with rfl | ⟨h2, h3⟩
  · have he : repN n a (-1) = a * n + n + 1 := by simp [repN]
    rw [he] at hl ⊢
    clear he
    obtain ⟨m, hm⟩ : ∃ m, m = a * n := ⟨_, rfl⟩
    rw [← hm] at hab hb hl ⊢
    clear hm
    go_enter Tryz.func41, Tryz.ntmps41
    go_wp2_with fail
    go_ret
    exact ⟨ret_i64 (by omega), rfl⟩
  · obtain ⟨c, rfl⟩ : ∃ c : Nat, hi = a + c := ⟨(hi - a).toNat, by omega⟩
    have he : repN n a (a + c) = a * n + c * (n + 1) := by
      unfold repN
      rw [if_neg (by omega)]
      congr 1
      · congr 1
        omega
    rw [he] at hl ⊢
    clear he
    have hcn : ((c : Int) * (n + 1)) = ((c * (n + 1) : Nat) : Int) := by simp
    have hc : c * (n + 1) ≤ 50 * 500 := Nat.mul_le_mul (by omega) (by omega)
    have hne : ((a : Int) + c == -1) = false := by simp; omega
    obtain ⟨m, hm⟩ : ∃ m, m = a * n := ⟨_, rfl⟩
    obtain ⟨q, hq⟩ : ∃ q, q = c * (n + 1) := ⟨_, rfl⟩
    rw [← hm] at hab hb hl ⊢
    rw [← hq] at hcn hc hl ⊢
    clear hm hq
    go_enter Tryz.func41, Tryz.ntmps41
    go_wp2_with fail
    go_ret
    refine ⟨ret_i64 ?_, rfl⟩
    rw [show ((a : Int) + c - a) = c by omega, hcn]
    unfold wrap64
    omega

/-- What lies in memory while a plan is made. -/
structure PlF (wr w : World) (t : Tree) (rs : Array Value) (n : Nat) (sl : Value) : Prop where
  re : Box wr w.heap.size rs
  res : PBox wr (w.heap.size + 1) zeroPl
  q : PBox wr (w.heap.size + 2) (plC t.k t.f t.lo t.hi n sl)
  below : Below w.heap.size w wr
structure PlM (wr w : World) (t : Tree) (rs : Array Value) (n : Nat) (sl : Value) (ps : List Plan) (cs : Nat → Array Value) : Prop extends PlF wr w t rs n sl where
  own : OwnPlans wr (w.heap.size + 3) sl ps cs
theorem PlF.after {wr w V : World} {t : Tree} {rs : Array Value} {n : Nat} {sl : Value} (h : PlF wr w t rs n sl) (hb : Below wr.heap.size wr V) : PlF V w t rs n sl :=
  ⟨h.re.after hb, h.res.after hb, h.q.after hb, Below.step h.below hb⟩
theorem PlM.after {wr w V : World} {t : Tree} {rs : Array Value} {n : Nat} {sl : Value} {ps : List Plan} {cs : Nat → Array Value} (h : PlM wr w t rs n sl ps cs) (hb : Below wr.heap.size wr V) : PlM V w t rs n sl ps cs :=
  ⟨h.toPlF.after hb, h.own.after hb⟩
theorem PlF.grown {wr w V : World} {t : Tree} {rs : Array Value} {n : Nat} {sl : Value} {row : Option Nat} (h : PlF wr w t rs n sl) (hg : wr.grownBy V row) (hr : ∀ k, row = some k → w.heap.size + 3 ≤ k) : PlF V w t rs n sl := by
  have hlt := h.q.lt
  have ne : ∀ j, j ≤ 2 → some (w.heap.size + j) ≠ row := fun j hj e => by have := hr _ e.symm; omega
  exact ⟨⟨by rw [hg.block _ h.re.lt (ne 0 (by omega))]; exact h.re.row⟩, ⟨by rw [hg.block _ h.res.lt (ne 1 (by omega))]; exact h.res.row⟩, ⟨by rw [hg.block _ h.q.lt (ne 2 (by omega))]; exact h.q.row⟩,
    h.below.grown hg h.below.size (fun k hk => by have := hr k hk; omega)⟩
theorem planM_new (w : World) (t : Tree) (rs : Array Value) (n : Nat) : ∃ W, W = ((w.alloc (.cells rs 48)).alloc (.cells zeroPl 82)).alloc (.cells (plC t.k t.f t.lo t.hi n (.slice none 0 0)) 82) ∧ Hid (PlM W w t rs n (.slice none 0 0) [] (fun _ => zeroPl)) := by
  refine ⟨_, rfl, Lib.hid ?_⟩
  have s1 : (w.alloc (.cells rs 48)).heap.size = w.heap.size + 1 := World.size_alloc _ _
  have s2 : ((w.alloc (.cells rs 48)).alloc (.cells zeroPl 82)).heap.size = w.heap.size + 2 := by rw [World.size_alloc, s1]
  have b1 := below_new w (.cells rs 48)
  have b2 := below_new (w.alloc (.cells rs 48)) (.cells zeroPl 82)
  have b3 := below_new ((w.alloc (.cells rs 48)).alloc (.cells zeroPl 82)) (.cells (plC t.k t.f t.lo t.hi n (.slice none 0 0)) 82)
  refine ⟨⟨((box_new w rs).after b2).after b3, ?_, ?_, Below.step (Below.step b1 b2) b3⟩, ownP_nil _ _ _⟩
  · have := (pbox_new (w.alloc (.cells rs 48)) zeroPl).after b3
    rwa [s1] at this
  · have := pbox_new ((w.alloc (.cells rs 48)).alloc (.cells zeroPl 82)) (plC t.k t.f t.lo t.hi n (.slice none 0 0))
    rwa [s2] at this
theorem PlF.setBut {wr w : World} {t : Tree} {rs : Array Value} {n : Nat} {sl : Value} (_ : PlF wr w t rs n sl) (j : Nat) (v : Value) : But (w.heap.size + 2) wr (wr.setCell ⟨w.heap.size + 2, j, none⟩ v) :=
  ⟨rfl, rfl, rfl, by simp, fun k _ hp => heap_setCell_other wr ⟨w.heap.size + 2, j, none⟩ k _ (fun e => hp e)⟩
/-- The size stored anew. -/
theorem PlM.setN {wr w : World} {t : Tree} {rs : Array Value} {n : Nat} {sl : Value} {ps : List Plan} {cs : Nat → Array Value} (h : PlM wr w t rs n sl ps cs) (m : Nat) : PlM (wr.setCell ⟨w.heap.size + 2, 7, none⟩ (.int .i64 m)) w t rs m sl ps cs := by
  have hlt := h.q.lt
  have hb := h.setBut 7 (.int .i64 m)
  refine ⟨⟨h.re.but hb (by omega), ⟨by rw [hb.block _ h.res.lt (by omega)]; exact h.res.row⟩, ⟨?_⟩, h.below.setCell (p := ⟨w.heap.size + 2, 7, none⟩) (by show w.heap.size ≤ w.heap.size + 2; omega) _⟩, h.own.but hb (by omega)⟩
  rw [heap_setCell_same wr (w.heap.size + 2) 7 _ _ _ h.q.row]
  rfl
/-- The parts stored anew. -/
theorem PlF.setL {wr w : World} {t : Tree} {rs : Array Value} {n : Nat} {sl sl' : Value} {ps' : List Plan} {cs' : Nat → Array Value} (h : PlF wr w t rs n sl) (h' : OwnPlans wr (w.heap.size + 3) sl' ps' cs') : PlM (wr.setCell ⟨w.heap.size + 2, 8, none⟩ sl') w t rs n sl' ps' cs' := by
  have hlt := h.q.lt
  have hb := h.setBut 8 sl'
  refine ⟨⟨h.re.but hb (by omega), ⟨by rw [hb.block _ h.res.lt (by omega)]; exact h.res.row⟩, ⟨?_⟩, h.below.setCell (p := ⟨w.heap.size + 2, 8, none⟩) (by show w.heap.size ≤ w.heap.size + 2; omega) _⟩, h'.but hb (by omega)⟩
  rw [heap_setCell_same wr (w.heap.size + 2) 8 _ _ _ h.q.row]
  rfl
end Go.Proofs.YtimipfdknfdbdaaGreatDoor
