/- Merged by program: PostC, C15B, CelB, T3CellE. -/
import Derived.Lib.SmallJoins
import Derived.Deep.RegionHeld3
import Derived.Test.YtbbhcbpfffabpaaGreatDoorGac
import Derived.Test.YtbbhcbpfffabpaaGreatDoorGbf
import Derived.Test.YtbbhcbpfffabpaaGreatDoorGao
/- Cells as an argument: a cell, and a slice of cells. -/
namespace Go.Proofs.YtbbhcbpfffabpaaGreatDoor
open Go.ChangeShapes Go.WideShapes Go.ChangeAt Go.RowKit Go.ChangeMaps

theorem laid_out : laidOutB Tryz.prog = true := by kernel_rfl
theorem cells_cell : Tryz.prog.cellsOf 25 = 3 := by kernel_rfl

set_option maxRecDepth 100000 in
theorem open_cell {H : Type} {enc : TypeId × Value → H} {W : World} {base b0 : Nat} {sp : Nat → Bool} {hd : Bool} {v : Value} {d : DataW H} {p : List MemPlace} (hv : Value.okWide Tryz.prog W .any b0 25 v) (h : DataW.Trod enc Tryz.prog W base sp hd 25 v d p) :
    ∃ (k n : Int) (s : ByteArray), v = .agg #[.int .i64 k, .int .i64 n, .string s] ∧ d = .agg [.lit (.int .i64 k), .lit (.int .i64 n), .lit (.string s.data.toList)] ∧ p = [] ∧ (Lit.int .i64 k).wf = true ∧ (Lit.int .i64 n).wf = true ∧ s.size ≤ maxLen := by
  obtain ⟨c0, c1, c2, y0, y1, y2, m, rfl, rfl, rfl, hy0, hy1, hy2⟩ := Joins.open_agg3 Tryz.underlying25 (by kernel_rfl) cells_cell hv h
  obtain ⟨k, e0, rfl, w0⟩ := DataW.trod_int Tryz.underlying3 hy0
  obtain ⟨n, e1, rfl, w1⟩ := DataW.trod_int Tryz.underlying2 hy1
  obtain ⟨s, e2, rfl, w2⟩ := DataW.trod_string Tryz.underlying9 hy2
  simp at e0 e1 e2
  subst e0 e1 e2
  exact ⟨k, n, s, rfl, rfl, rfl, w0, w1, w2⟩

theorem shut_cell {H : Type} {enc : TypeId × Value → H} {W : World} {base : Nat} {sp : Nat → Bool} {hd : Bool} {k n : Int} {s : ByteArray} (wk : (Lit.int .i64 k).wf = true) (wn : (Lit.int .i64 n).wf = true) (ws : s.size ≤ maxLen) :
    DataW.Trod enc Tryz.prog W base sp hd 25 (.agg #[.int .i64 k, .int .i64 n, .string s]) (.agg [.lit (.int .i64 k), .lit (.int .i64 n), .lit (.string s.data.toList)]) [] := by
  simpa using Joins.shut_agg3 (enc := enc) (w := W) (base := base) (spare := sp) (held := hd) (y0 := (.lit (.int .i64 k), [])) (y1 := (.lit (.int .i64 n), [])) (y2 := (.lit (.string s.data.toList), [])) Tryz.underlying25 (by kernel_rfl) cells_cell
    ⟨1, by simp [DataW.trod, Tryz.underlying3, wk]⟩ ⟨1, by simp [DataW.trod, Tryz.underlying2, wn]⟩ ⟨1, by simp [DataW.trod, Tryz.underlying9, ws]⟩

theorem spot_none {w : World} {a : Addr} {v : Value} (h : w.cell? a = some v) : a.spot = none := by
  unfold World.cell? at h
  split at h
  · split at h
    · exact absurd h (by simp)
    · rename_i hs
      simpa using hs
  · exact absurd h (by simp)
theorem add_flat (a : Addr) (h : a.spot = none) (n : Nat) : a.add n = ⟨a.block, a.off + n, none⟩ := by
  obtain ⟨b, o, s⟩ := a
  simp only at h
  subst h
  unfold Addr.add
  split
  · rename_i e; rw [e]; rfl
  · rfl

theorem cells_int : Tryz.prog.cellsOf 3 = 1 := by kernel_rfl
theorem cells_int64 : Tryz.prog.cellsOf 2 = 1 := by kernel_rfl
theorem cells_string : Tryz.prog.cellsOf 9 = 1 := by kernel_rfl
section
variable {H : Type} {enc : TypeId × Value → H} {W : World} {base : Nat} {sp : Nat → Bool} {hd : Bool}
set_option maxRecDepth 100000 in
theorem open_cell_at {n : Nat} {cs : List Value} {x : DataW H × List MemPlace} (h : DataW.trod enc Tryz.prog W base sp hd n 25 cs = some x) :
    ∃ c : Cel, cs = [.int .i64 c.k, .int .i64 c.n, .string c.s] ∧ T3.Fits c.n := by
  obtain ⟨xs, m, rfl, _, hlen, hxl, hf⟩ := DataW.trod_struct Tryz.underlying25 h
  rw [cells_cell] at hlen
  match cs, hlen with
  | [v0, v1, v2], _ =>
    have hxl' : xs.length = 3 := hxl
    match xs, hxl' with
    | [y0, y1, y2], _ =>
      have g0 := hf 0 _ rfl
      have g1 := hf 1 _ rfl
      have g2 := hf 2 _ rfl
      have h0 : DataW.trod enc Tryz.prog W base sp hd m 3 (([v0, v1, v2].drop 0).take (Tryz.prog.cellsOf 3)) = some y0 := g0
      have h1 : DataW.trod enc Tryz.prog W base sp hd m 2 (([v0, v1, v2].drop 1).take (Tryz.prog.cellsOf 2)) = some y1 := g1
      have h2 : DataW.trod enc Tryz.prog W base sp hd m 9 (([v0, v1, v2].drop 2).take (Tryz.prog.cellsOf 9)) = some y2 := g2
      rw [cells_int] at h0
      rw [cells_int64] at h1
      rw [cells_string] at h2
      obtain ⟨k, e0, _, _⟩ := DataW.trod_int Tryz.underlying3 h0
      obtain ⟨n, e1, _, w1⟩ := DataW.trod_int Tryz.underlying2 h1
      obtain ⟨s, e2, _, _⟩ := DataW.trod_string Tryz.underlying9 h2
      simp at e0 e1 e2
      subst e0 e1 e2
      exact ⟨⟨k, n, s⟩, rfl, wf_fits w1⟩

set_option maxRecDepth 100000 in
theorem open_cells {v : Value} {d : DataW H} {p : List MemPlace} {b0 : Nat} (hv : Value.okWide Tryz.prog W .any b0 22 v) (h : DataW.Trod enc Tryz.prog W base sp hd 22 v d p) :
    ∃ (q : Option Addr) (n cap : Nat) (l : List Cel), v = .slice q n cap ∧ ArgC W q n l := by
  obtain ⟨a0, n0, c0, rfl⟩ := okWide_slice Tryz.underlying22 hv
  obtain ⟨fuel, hf⟩ := h
  have hf' : DataW.trod enc Tryz.prog W base sp hd fuel 22 [.slice a0 n0 c0] = some (d, p) := by simpa [Value.cells] using hf
  rcases DataW.trod_slice Tryz.underlying22 hf' with ⟨e7, _⟩ | ⟨a, len, cap, elems, rest, m', hm, e7, _, _, hl, hc, hel, hat, _⟩
  · injection e7 with e7
    injection e7 with e1 e2 e3
    subst e1 e2 e3
    exact ⟨none, 0, 0, [], rfl, ⟨by omega, rfl, Or.inl rfl, fun c hc => absurd hc (by simp)⟩⟩
  · injection e7 with e7
    injection e7 with e1 e2 e3
    subst e1 e2 e3
    have each : ∀ i, ∃ c : Cel, i < n0 → (∀ j, j < 3 → W.cell? ((a.add (i * 3)).add j) = #[Value.int .i64 c.k, Value.int .i64 c.n, Value.string c.s][j]?) ∧ T3.Fits c.n := by
      intro i
      by_cases hi : i < n0
      · have h5 := hat i hi
        rw [cells_cell, List.getElem?_eq_getElem (by omega)] at h5
        obtain ⟨cs', hcs, ht⟩ := Option.bind_eq_some_iff.1 h5
        obtain ⟨c, rfl, hfit⟩ := open_cell_at ht
        obtain ⟨_, _, hget⟩ := World.cells?_some hcs
        exact ⟨c, fun _ => ⟨fun j hj => by rw [hget j hj]; simp, hfit⟩⟩
      · exact ⟨noCel, fun h => absurd h hi⟩
    obtain ⟨q, hq⟩ := Classical.axiomOfChoice each
    have hbig : n0 ≤ 9223372036854775807 := by simp only [maxLen] at hc; omega
    obtain ⟨l, hl'⟩ : ∃ l : List Cel, l = (List.range n0).map q := ⟨_, rfl⟩
    have hll : l.length = n0 := by rw [hl']; simp
    refine ⟨some a, n0, c0, l, rfl, ⟨hbig, hll.symm, ?_, ?_⟩⟩
    · by_cases h0 : n0 = 0
      · exact Or.inl (List.eq_nil_of_length_eq_zero (by omega))
      · have hsp : a.spot = none := by
          obtain ⟨h6, _⟩ := hq 0 (by omega)
          have h10 := spot_none (h6 0 (by omega))
          simpa [Addr.add] using h10
        refine Or.inr ⟨a.block, a.off, ?_, fun i c hi => ?_⟩
        · have h := add_flat a hsp 0
          have e : a.add 0 = a := by simp [Addr.add]
          rw [e] at h
          exact congrArg some h
        · have hin : i < n0 := by rw [← hll]; exact (List.getElem?_eq_some_iff.1 hi).1
          have ec : c = q i := by
            rw [hl', List.getElem?_map, List.getElem?_range hin] at hi
            injection hi with hi
            exact hi.symm
          subst ec
          obtain ⟨h6, _⟩ := hq i hin
          have k : ∀ j, j < 3 → W.cell? ⟨a.block, a.off + i * 3 + j, none⟩ = #[Value.int .i64 (q i).k, Value.int .i64 (q i).n, Value.string (q i).s][j]? := fun j hj => by
            have h := h6 j hj
            rw [add_flat a hsp, add_flat _ rfl] at h
            exact h
          exact ⟨k 0 (by omega), k 1 (by omega), k 2 (by omega)⟩
    · intro c hc'
      rw [hl'] at hc'
      obtain ⟨i, hi, rfl⟩ := List.mem_map.1 hc'
      exact (hq i (by simpa using hi)).2
end
end Go.Proofs.YtbbhcbpfffabpaaGreatDoor

/- The document's Bool, num, str of layer 15. -/
namespace Go.Proofs.YtbbhcbpfffabpaaGreatDoor
open Go.RowKit T3

def zeroC : Array Value := #[.int .i64 0, .int .i64 0, .string ⟨#[]⟩]
def cellC (k n : Int) (s : ByteArray) : Array Value := #[.int .i64 k, .int .i64 n, .string s]
theorem info_cell : (Tryz.prog.info? 25).map (·.size) = some 3 := by kernel_rfl
theorem cell_one3 (k n : Int) (s : ByteArray) : (cellC k n s).all (·.oneCell') = true := by
  simp [cellC]
  exact ⟨rfl, rfl, rfl⟩
/-- A cell in a block of its own. -/
structure Cx (w : World) (b : Nat) (cs : Array Value) : Prop where
  row : w.heap[b]? = some (.cells cs 25 (0, 0))
theorem Cx.lt {w : World} {b : Nat} {cs : Array Value} (h : Cx w b cs) : b < w.heap.size := (Array.getElem?_eq_some_iff.1 h.row).1
theorem Cx.c {w : World} {b : Nat} {cs : Array Value} (h : Cx w b cs) (j : Nat) : w.cell? ⟨b, j, none⟩ = cs[j]? := cell_of_row _ _ j _ _ _ h.row
theorem Cx.after {w w' : World} {b : Nat} {cs : Array Value} (h : Cx w b cs) (hb : Below w.heap.size w w') : Cx w' b cs := ⟨by rw [hb.block b h.lt]; exact h.row⟩
theorem Cx.setRow {w : World} {b : Nat} {cs : Array Value} (h : Cx w b cs) (ds : Array Value) : Cx (w.setRow b ds) b ds := ⟨setRow_heap _ _ _ _ _ _ h.row⟩
theorem below_row {B : Nat} {w w' : World} (h : Below B w w') {b : Nat} (hb : B ≤ b) (q : Array Value) : Below B w (w'.setRow b q) :=
  ⟨h.os, h.tape, h.output, by have := h.size; simpa [World.setRow] using this, fun k hk => by rw [Go.setRow_other _ _ _ _ (by omega)]; exact h.block k hk⟩
theorem three_of {w : World} {b : Nat} {k n : Int} {s : ByteArray} (h : Cx w b (cellC k n s)) : w.cell? ⟨b, 0, none⟩ = some (.int .i64 k) ∧ w.cell? ⟨b, 1, none⟩ = some (.int .i64 n) ∧ w.cell? ⟨b, 2, none⟩ = some (.string s) := ⟨h.c 0, h.c 1, h.c 2⟩
theorem cx_new (w : World) (cs : Array Value) : ∃ W, W = w.alloc (.cells cs 25) ∧ Hid (Cx W w.heap.size cs) ∧ Hid (Below w.heap.size w W) ∧ Hid (W.heap.size = w.heap.size + 1) :=
  ⟨_, rfl, Lib.hid ⟨heap_alloc_last w _⟩, Lib.hid (below_new w _), Lib.hid (World.size_alloc _ _)⟩

/-- A cell and an error. -/
def twoC (k n : Int) (s : ByteArray) (e : Int) : Value := .tuple #[.agg (cellC k n s), .int .i64 e]
def boolN (b : Bool) : Int := if b = true then 1000000 else 0

/-- A Number, if there is no error. -/
def numA (p : Int × Int) : Value := if p.2 = 0 then twoC 1 p.1 ⟨#[]⟩ 0 else twoC 0 0 ⟨#[]⟩ p.2
set_option maxRecDepth 100000 in
theorem refnum_any (n e : Int) (w : World) : Calls Tryz.prog 22 #[.int .i64 n, .int .i64 e] w fun r w' => r = .returned (numA (n, e)) ∧ Below w.heap.size w w' := by
  have HI := info_cell
  obtain ⟨W, hW, hX, hB, _⟩ := cx_new w zeroC
  by_cases h0 : e = 0
  · subst h0
    go_enter Tryz.func22, Tryz.ntmps22
    go_upto_region 1 with (fail)
    change Code.wp _ _ _ _ (w.alloc (Obj.cells zeroC 25))
    rw [← hW]
    clear hW
    go_wp2_with (refine wpList_store_row rfl 25 (.tmp 4) (.tmp 11) rfl w.heap.size (cellC 1 n ⟨#[]⟩) rfl rfl 25 zeroC hX.out.row HI rfl (cell_one3 _ _ _) ?_)
    obtain ⟨Z, hZ, HZ, BZ⟩ : ∃ Z, Z = W.setRow w.heap.size (cellC 1 n ⟨#[]⟩) ∧ Hid (Cx Z w.heap.size (cellC 1 n ⟨#[]⟩)) ∧ Hid (Below w.heap.size w Z) := ⟨_, rfl, Lib.hid (hX.out.setRow _), Lib.hid (below_row hB.out (Nat.le_refl _) _)⟩
    rw [← hZ]
    clear hZ
    obtain ⟨d0, d1, d2⟩ := three_of HZ.out
    refine bodyPost_ret (v := twoC 1 n ⟨#[]⟩ 0) ?_ rfl ?_
    · simp [results, Tryz.results22, go_sem, d0, d1, d2, twoC, cellC]
    · exact ⟨rfl, BZ.out⟩
  · have hne : (e != 0) = true := by simpa using h0
    have HA : Hid (numA (n, e) = twoC 0 0 ⟨#[]⟩ e) := Lib.hid (by unfold numA; rw [if_neg h0])
    clear h0
    go_enter Tryz.func22, Tryz.ntmps22
    go_upto_region 1 with (fail)
    change Code.wp _ _ _ _ (w.alloc (Obj.cells zeroC 25))
    rw [← hW]
    clear hW
    go_wp2_with (refine wpList_store_row rfl 25 (.tmp 4) (.tmp 8) rfl w.heap.size (cellC 0 0 ⟨#[]⟩) rfl rfl 25 zeroC hX.out.row HI rfl (cell_one3 _ _ _) ?_)
    obtain ⟨Z, hZ, HZ, BZ⟩ : ∃ Z, Z = W.setRow w.heap.size (cellC 0 0 ⟨#[]⟩) ∧ Hid (Cx Z w.heap.size (cellC 0 0 ⟨#[]⟩)) ∧ Hid (Below w.heap.size w Z) := ⟨_, rfl, Lib.hid (hX.out.setRow _), Lib.hid (below_row hB.out (Nat.le_refl _) _)⟩
    rw [← hZ]
    clear hZ
    obtain ⟨d0, d1, d2⟩ := three_of HZ.out
    refine bodyPost_ret (v := twoC 0 0 ⟨#[]⟩ e) ?_ rfl ?_
    · simp [results, Tryz.results22, go_sem, d0, d1, d2, twoC, cellC]
    · exact ⟨by rw [HA.out], BZ.out⟩

/-- A Text, if it is not too long. -/
def strA (s : ByteArray) : Value := if s.size ≤ 65536 then twoC 2 0 s 0 else twoC 0 0 ⟨#[]⟩ 2
set_option maxRecDepth 100000 in
theorem refstr_any (s : ByteArray) (w : World) : Calls Tryz.prog 30 #[.string s] w fun r w' => r = .returned (strA s) ∧ Below w.heap.size w w' := by
  have HI := info_cell
  obtain ⟨W, hW, hX, hB, _⟩ := cx_new w zeroC
  by_cases h0 : s.size ≤ 65536
  · have hle : (s.size : Int) ≤ 65536 := by omega
    have HA : Hid (strA s = twoC 2 0 s 0) := Lib.hid (by unfold strA; rw [if_pos h0])
    clear h0
    go_enter Tryz.func30, Tryz.ntmps30
    go_upto_region 1 with (fail)
    change Code.wp _ _ _ _ (w.alloc (Obj.cells zeroC 25))
    rw [← hW]
    clear hW
    go_wp2_with (refine wpList_store_row rfl 25 (.tmp 2) (.tmp 9) rfl w.heap.size (cellC 2 0 s) rfl rfl 25 zeroC hX.out.row HI rfl (cell_one3 _ _ _) ?_)
    obtain ⟨Z, hZ, HZ, BZ⟩ : ∃ Z, Z = W.setRow w.heap.size (cellC 2 0 s) ∧ Hid (Cx Z w.heap.size (cellC 2 0 s)) ∧ Hid (Below w.heap.size w Z) := ⟨_, rfl, Lib.hid (hX.out.setRow _), Lib.hid (below_row hB.out (Nat.le_refl _) _)⟩
    rw [← hZ]
    clear hZ
    obtain ⟨d0, d1, d2⟩ := three_of HZ.out
    refine bodyPost_ret (v := twoC 2 0 s 0) ?_ rfl ?_
    · simp [results, Tryz.results30, go_sem, d0, d1, d2, twoC, cellC]
    · exact ⟨by rw [HA.out], BZ.out⟩
  · have hgt : (65536 : Int) < s.size := by omega
    have HA : Hid (strA s = twoC 0 0 ⟨#[]⟩ 2) := Lib.hid (by unfold strA; rw [if_neg h0])
    clear h0
    go_enter Tryz.func30, Tryz.ntmps30
    go_upto_region 1 with (fail)
    change Code.wp _ _ _ _ (w.alloc (Obj.cells zeroC 25))
    rw [← hW]
    clear hW
    go_wp2_with (refine wpList_store_row rfl 25 (.tmp 2) (.tmp 7) rfl w.heap.size (cellC 0 0 ⟨#[]⟩) rfl rfl 25 zeroC hX.out.row HI rfl (cell_one3 _ _ _) ?_)
    obtain ⟨Z, hZ, HZ, BZ⟩ : ∃ Z, Z = W.setRow w.heap.size (cellC 0 0 ⟨#[]⟩) ∧ Hid (Cx Z w.heap.size (cellC 0 0 ⟨#[]⟩)) ∧ Hid (Below w.heap.size w Z) := ⟨_, rfl, Lib.hid (hX.out.setRow _), Lib.hid (below_row hB.out (Nat.le_refl _) _)⟩
    rw [← hZ]
    clear hZ
    obtain ⟨d0, d1, d2⟩ := three_of HZ.out
    refine bodyPost_ret (v := twoC 0 0 ⟨#[]⟩ 2) ?_ rfl ?_
    · simp [results, Tryz.results30, go_sem, d0, d1, d2, twoC, cellC]
    · exact ⟨by rw [HA.out], BZ.out⟩
end Go.Proofs.YtbbhcbpfffabpaaGreatDoor

/- Cells, where the format's stand (mkz.py). -/

/- Contract of the document's Can. -/
namespace Go.Proofs.YtbbhcbpfffabpaaGreatDoor.T3
open Go.Proofs.YtbbhcbpfffabpaaGreatDoor Go.Proofs
open Go.RowKit

section
variable {P : Program} {ops : Array Oper} {Q : Exit → Act → World → Prop} {md : Region.Mode} {S : World → Prop}
/-- An operation of a drawn region that its guard wants, taken first. -/
theorem takeW {i d : Nat} {oi : Oper} {v : Value} {fuel : Nat} {listed : Array Bool} {a : Act} {w : World} (hi : ops[i]? = some oi) (hd : oi.dst = some d)
    (hs : Region.noSelect ops = true) (hf : Region.free md ops listed i = true) (hr : (Region.ready md ops listed).contains i = true)
    (hQ : ∀ c a w, Q (.panic c) (a.put (some d) v) w → Q (.panic c) a w) (hw : Region.wanted oi (yielded ops a.tmps) = true) (hx : ∀ w, S w → (execOp a.eval oi).run P w = .ok (.value v) w) (hS : S w)
    (h : wpAnyH P md ops Q S fuel (listed.setIfInBounds i true) ⟨a.tmps.setIfInBounds d v, a.defers⟩ w) : wpAnyH P md ops Q S (fuel + 1) listed a w :=
  wpAnyH_take hi hs hf hr (by rw [hd]; exact hQ) (Or.inl ⟨hw, hx⟩) hS (by rw [hd]; exact h)
/-- One that its guard passes over. -/
theorem skipW {i d : Nat} {oi : Oper} {fuel : Nat} {listed : Array Bool} {a : Act} {w : World} (hi : ops[i]? = some oi) (hd : oi.dst = some d)
    (hs : Region.noSelect ops = true) (hf : Region.free md ops listed i = true) (hr : (Region.ready md ops listed).contains i = true)
    (hQ : ∀ c a w, Q (.panic c) (a.put (some d) undef) w → Q (.panic c) a w) (hw : Region.wanted oi (yielded ops a.tmps) = false) (hS : S w)
    (h : wpAnyH P md ops Q S fuel (listed.setIfInBounds i true) ⟨a.tmps.setIfInBounds d undef, a.defers⟩ w) : wpAnyH P md ops Q S (fuel + 1) listed a w :=
  wpAnyH_take hi hs hf hr (by rw [hd]; exact hQ) (Or.inr ⟨hw, rfl⟩) hS (by rw [hd]; exact h)
end

set_option maxRecDepth 100000 in
set_option maxHeartbeats 8000000 in
theorem refCan_looks (n K M : Int) (s : ByteArray) (r : Bool) (w : World) (hr : (K = 3 ∧ M = n ∧ r = true) ∨ (K = 3 ∧ ¬ M = n ∧ r = false) ∨ (K = 2 ∧ r = false)) (I : Hid (∀ w, Calls Tryz.prog 33 #[.string s] w fun e w' => e = .returned (.agg #[.int .i64 K, .int .i64 M, .string s]) ∧ Below w.heap.size w w')) :
    Calls Tryz.prog 7 #[.agg #[.int .i64 3, .int .i64 n, .string s]] w fun e w' => e = .returned (.bool r) ∧ Below w.heap.size w w' := by
  have B0 := boxed1 w (.int .i64 3) (.int .i64 n) (.string s) 25
  have H0 := Lib.hid (held1 B0.1.out B0.2)
  clear B0
  go_enter Tryz.func7, Tryz.ntmps7
  go_wp2_with fail
  refine wp_region_held_drew (S := fun w' => Hid (Below w.heap.size w w') ∧ w'.cell? ⟨w.heap.size, 0, none⟩ = some (.int .i64 3) ∧ w'.cell? ⟨w.heap.size, 1, none⟩ = some (.int .i64 n) ∧ w'.cell? ⟨w.heap.size, 2, none⟩ = some (.string s)) (by kernel_rfl) (keep1 H0.out (below_drew _)) (fun hHeld => ?_)
  refine takeW (i := 0) (d := 3) (v := .pointer (some ⟨w.heap.size, 0, none⟩)) rfl rfl (by kernel_rfl) (by kernel_rfl) (by kernel_rfl) (fun _ _ _ h => h) (by rfl) (fun w' hSw => by go_simp) (by assumption) ?_
  simp only [List.setIfInBounds_toArray, List.set_cons_zero, List.set_cons_succ]
  refine takeW (i := 1) (d := 4) (v := .int .i64 3) rfl rfl (by kernel_rfl) (by kernel_rfl) (by kernel_rfl) (fun _ _ _ h => h) (by rfl) (fun w' hSw => by go_simp) (by assumption) ?_
  simp only [List.setIfInBounds_toArray, List.set_cons_zero, List.set_cons_succ]
  refine takeW (i := 2) (d := 5) (v := .bool false) rfl rfl (by kernel_rfl) (by kernel_rfl) (by kernel_rfl) (fun _ _ _ h => h) (by rfl) (fun w' hSw => by go_simp) (by assumption) ?_
  simp only [List.setIfInBounds_toArray, List.set_cons_zero, List.set_cons_succ]
  refine takeW (i := 3) (d := 6) (v := .bool false) rfl rfl (by kernel_rfl) (by kernel_rfl) (by kernel_rfl) (fun _ _ _ h => h) (by rfl) (fun w' hSw => by go_simp) (by assumption) ?_
  simp only [List.setIfInBounds_toArray, List.set_cons_zero, List.set_cons_succ]
  refine skipW (i := 4) (d := 7) rfl rfl (by kernel_rfl) (by kernel_rfl) (by kernel_rfl) (fun _ _ _ h => h) (by rfl) (by assumption) ?_
  simp only [List.setIfInBounds_toArray, List.set_cons_zero, List.set_cons_succ]
  refine skipW (i := 5) (d := 8) rfl rfl (by kernel_rfl) (by kernel_rfl) (by kernel_rfl) (fun _ _ _ h => h) (by rfl) (by assumption) ?_
  simp only [List.setIfInBounds_toArray, List.set_cons_zero, List.set_cons_succ]
  refine skipW (i := 6) (d := 9) rfl rfl (by kernel_rfl) (by kernel_rfl) (by kernel_rfl) (fun _ _ _ h => h) (by rfl) (by assumption) ?_
  simp only [List.setIfInBounds_toArray, List.set_cons_zero, List.set_cons_succ]
  refine takeW (i := 7) (d := 10) (v := .bool false) rfl rfl (by kernel_rfl) (by kernel_rfl) (by kernel_rfl) (fun _ _ _ h => h) (by rfl) (fun w' hSw => by go_simp) (by assumption) ?_
  simp only [List.setIfInBounds_toArray, List.set_cons_zero, List.set_cons_succ]
  refine takeW (i := 8) (d := 11) (v := .bool false) rfl rfl (by kernel_rfl) (by kernel_rfl) (by kernel_rfl) (fun _ _ _ h => h) (by rfl) (fun w' hSw => by go_simp) (by assumption) ?_
  simp only [List.setIfInBounds_toArray, List.set_cons_zero, List.set_cons_succ]
  refine skipW (i := 9) (d := 12) rfl rfl (by kernel_rfl) (by kernel_rfl) (by kernel_rfl) (fun _ _ _ h => h) (by rfl) (by assumption) ?_
  simp only [List.setIfInBounds_toArray, List.set_cons_zero, List.set_cons_succ]
  refine skipW (i := 10) (d := 13) rfl rfl (by kernel_rfl) (by kernel_rfl) (by kernel_rfl) (fun _ _ _ h => h) (by rfl) (by assumption) ?_
  simp only [List.setIfInBounds_toArray, List.set_cons_zero, List.set_cons_succ]
  refine skipW (i := 11) (d := 14) rfl rfl (by kernel_rfl) (by kernel_rfl) (by kernel_rfl) (fun _ _ _ h => h) (by rfl) (by assumption) ?_
  simp only [List.setIfInBounds_toArray, List.set_cons_zero, List.set_cons_succ]
  refine takeW (i := 12) (d := 15) (v := .bool false) rfl rfl (by kernel_rfl) (by kernel_rfl) (by kernel_rfl) (fun _ _ _ h => h) (by rfl) (fun w' hSw => by go_simp) (by assumption) ?_
  simp only [List.setIfInBounds_toArray, List.set_cons_zero, List.set_cons_succ]
  refine takeW (i := 13) (d := 16) (v := .bool false) rfl rfl (by kernel_rfl) (by kernel_rfl) (by kernel_rfl) (fun _ _ _ h => h) (by rfl) (fun w' hSw => by go_simp) (by assumption) ?_
  simp only [List.setIfInBounds_toArray, List.set_cons_zero, List.set_cons_succ]
  refine takeW (i := 14) (d := 17) (v := .pointer (some ⟨w.heap.size, 0, none⟩)) rfl rfl (by kernel_rfl) (by kernel_rfl) (by kernel_rfl) (fun _ _ _ h => h) (by rfl) (fun w' hSw => by go_simp) (by assumption) ?_
  simp only [List.setIfInBounds_toArray, List.set_cons_zero, List.set_cons_succ]
  refine takeW (i := 15) (d := 18) (v := .int .i64 3) rfl rfl (by kernel_rfl) (by kernel_rfl) (by kernel_rfl) (fun _ _ _ h => h) (by rfl) (fun w' hSw => by go_simp) (by assumption) ?_
  simp only [List.setIfInBounds_toArray, List.set_cons_zero, List.set_cons_succ]
  refine takeW (i := 16) (d := 19) (v := .bool false) rfl rfl (by kernel_rfl) (by kernel_rfl) (by kernel_rfl) (fun _ _ _ h => h) (by rfl) (fun w' hSw => by go_simp) (by assumption) ?_
  simp only [List.setIfInBounds_toArray, List.set_cons_zero, List.set_cons_succ]
  refine takeW (i := 17) (d := 20) (v := .bool false) rfl rfl (by kernel_rfl) (by kernel_rfl) (by kernel_rfl) (fun _ _ _ h => h) (by rfl) (fun w' hSw => by go_simp) (by assumption) ?_
  simp only [List.setIfInBounds_toArray, List.set_cons_zero, List.set_cons_succ]
  refine skipW (i := 18) (d := 21) rfl rfl (by kernel_rfl) (by kernel_rfl) (by kernel_rfl) (fun _ _ _ h => h) (by rfl) (by assumption) ?_
  simp only [List.setIfInBounds_toArray, List.set_cons_zero, List.set_cons_succ]
  refine skipW (i := 19) (d := 22) rfl rfl (by kernel_rfl) (by kernel_rfl) (by kernel_rfl) (fun _ _ _ h => h) (by rfl) (by assumption) ?_
  simp only [List.setIfInBounds_toArray, List.set_cons_zero, List.set_cons_succ]
  refine skipW (i := 20) (d := 23) rfl rfl (by kernel_rfl) (by kernel_rfl) (by kernel_rfl) (fun _ _ _ h => h) (by rfl) (by assumption) ?_
  simp only [List.setIfInBounds_toArray, List.set_cons_zero, List.set_cons_succ]
  refine takeW (i := 21) (d := 24) (v := .bool false) rfl rfl (by kernel_rfl) (by kernel_rfl) (by kernel_rfl) (fun _ _ _ h => h) (by rfl) (fun w' hSw => by go_simp) (by assumption) ?_
  simp only [List.setIfInBounds_toArray, List.set_cons_zero, List.set_cons_succ]
  refine takeW (i := 22) (d := 25) (v := .bool false) rfl rfl (by kernel_rfl) (by kernel_rfl) (by kernel_rfl) (fun _ _ _ h => h) (by rfl) (fun w' hSw => by go_simp) (by assumption) ?_
  simp only [List.setIfInBounds_toArray, List.set_cons_zero, List.set_cons_succ]
  refine takeW (i := 23) (d := 26) (v := .bool false) rfl rfl (by kernel_rfl) (by kernel_rfl) (by kernel_rfl) (fun _ _ _ h => h) (by rfl) (fun w' hSw => by go_simp) (by assumption) ?_
  simp only [List.setIfInBounds_toArray, List.set_cons_zero, List.set_cons_succ]
  refine takeW (i := 24) (d := 27) (v := .pointer (some ⟨w.heap.size, 0, none⟩)) rfl rfl (by kernel_rfl) (by kernel_rfl) (by kernel_rfl) (fun _ _ _ h => h) (by rfl) (fun w' hSw => by go_simp) (by assumption) ?_
  simp only [List.setIfInBounds_toArray, List.set_cons_zero, List.set_cons_succ]
  refine takeW (i := 25) (d := 28) (v := .int .i64 3) rfl rfl (by kernel_rfl) (by kernel_rfl) (by kernel_rfl) (fun _ _ _ h => h) (by rfl) (fun w' hSw => by go_simp) (by assumption) ?_
  simp only [List.setIfInBounds_toArray, List.set_cons_zero, List.set_cons_succ]
  refine takeW (i := 26) (d := 29) (v := .bool false) rfl rfl (by kernel_rfl) (by kernel_rfl) (by kernel_rfl) (fun _ _ _ h => h) (by rfl) (fun w' hSw => by go_simp) (by assumption) ?_
  simp only [List.setIfInBounds_toArray, List.set_cons_zero, List.set_cons_succ]
  refine takeW (i := 27) (d := 30) (v := .bool false) rfl rfl (by kernel_rfl) (by kernel_rfl) (by kernel_rfl) (fun _ _ _ h => h) (by rfl) (fun w' hSw => by go_simp) (by assumption) ?_
  simp only [List.setIfInBounds_toArray, List.set_cons_zero, List.set_cons_succ]
  refine skipW (i := 28) (d := 31) rfl rfl (by kernel_rfl) (by kernel_rfl) (by kernel_rfl) (fun _ _ _ h => h) (by rfl) (by assumption) ?_
  simp only [List.setIfInBounds_toArray, List.set_cons_zero, List.set_cons_succ]
  refine skipW (i := 29) (d := 32) rfl rfl (by kernel_rfl) (by kernel_rfl) (by kernel_rfl) (fun _ _ _ h => h) (by rfl) (by assumption) ?_
  simp only [List.setIfInBounds_toArray, List.set_cons_zero, List.set_cons_succ]
  refine skipW (i := 30) (d := 33) rfl rfl (by kernel_rfl) (by kernel_rfl) (by kernel_rfl) (fun _ _ _ h => h) (by rfl) (by assumption) ?_
  simp only [List.setIfInBounds_toArray, List.set_cons_zero, List.set_cons_succ]
  refine takeW (i := 31) (d := 34) (v := .bool false) rfl rfl (by kernel_rfl) (by kernel_rfl) (by kernel_rfl) (fun _ _ _ h => h) (by rfl) (fun w' hSw => by go_simp) (by assumption) ?_
  simp only [List.setIfInBounds_toArray, List.set_cons_zero, List.set_cons_succ]
  refine takeW (i := 32) (d := 35) (v := .bool false) rfl rfl (by kernel_rfl) (by kernel_rfl) (by kernel_rfl) (fun _ _ _ h => h) (by rfl) (fun w' hSw => by go_simp) (by assumption) ?_
  simp only [List.setIfInBounds_toArray, List.set_cons_zero, List.set_cons_succ]
  refine takeW (i := 33) (d := 36) (v := .bool false) rfl rfl (by kernel_rfl) (by kernel_rfl) (by kernel_rfl) (fun _ _ _ h => h) (by rfl) (fun w' hSw => by go_simp) (by assumption) ?_
  simp only [List.setIfInBounds_toArray, List.set_cons_zero, List.set_cons_succ]
  refine takeW (i := 34) (d := 37) (v := .pointer (some ⟨w.heap.size, 0, none⟩)) rfl rfl (by kernel_rfl) (by kernel_rfl) (by kernel_rfl) (fun _ _ _ h => h) (by rfl) (fun w' hSw => by go_simp) (by assumption) ?_
  simp only [List.setIfInBounds_toArray, List.set_cons_zero, List.set_cons_succ]
  refine takeW (i := 35) (d := 38) (v := .int .i64 3) rfl rfl (by kernel_rfl) (by kernel_rfl) (by kernel_rfl) (fun _ _ _ h => h) (by rfl) (fun w' hSw => by go_simp) (by assumption) ?_
  simp only [List.setIfInBounds_toArray, List.set_cons_zero, List.set_cons_succ]
  refine takeW (i := 36) (d := 39) (v := .bool true) rfl rfl (by kernel_rfl) (by kernel_rfl) (by kernel_rfl) (fun _ _ _ h => h) (by rfl) (fun w' hSw => by go_simp) (by assumption) ?_
  simp only [List.setIfInBounds_toArray, List.set_cons_zero, List.set_cons_succ]
  refine takeW (i := 37) (d := 40) (v := .bool true) rfl rfl (by kernel_rfl) (by kernel_rfl) (by kernel_rfl) (fun _ _ _ h => h) (by rfl) (fun w' hSw => by go_simp) (by assumption) ?_
  simp only [List.setIfInBounds_toArray, List.set_cons_zero, List.set_cons_succ]
  refine takeW (i := 38) (d := 41) (v := .pointer (some ⟨w.heap.size, 2, none⟩)) rfl rfl (by kernel_rfl) (by kernel_rfl) (by kernel_rfl) (fun _ _ _ h => h) (by rfl) (fun w' hSw => by go_simp) (by assumption) ?_
  simp only [List.setIfInBounds_toArray, List.set_cons_zero, List.set_cons_succ]
  refine takeW (i := 39) (d := 42) (v := .string s) rfl rfl (by kernel_rfl) (by kernel_rfl) (by kernel_rfl) (fun _ _ _ h => h) (by rfl) (fun w' hSw => by go_simp) (by assumption) ?_
  simp only [List.setIfInBounds_toArray, List.set_cons_zero, List.set_cons_succ]
  refine takeW (i := 41) (d := 44) (v := .agg #[.int .i64 3, .int .i64 n, .string s]) rfl rfl (by kernel_rfl) (by kernel_rfl) (by kernel_rfl) (fun _ _ _ h => h) (by rfl) (fun w' hSw => by go_simp) (by assumption) ?_
  simp only [List.setIfInBounds_toArray, List.set_cons_zero, List.set_cons_succ]
  refine wpAnyH_ready (rs := [40]) (by kernel_rfl) (by simp) ?_
  refine AllReadyH.cons rfl (fun X hX => ?_) AllReadyH.nil
  rw [if_pos (by rfl)]
  go_simp
  refine (I.out _).mono ?_
  rintro e w1 ⟨rfl, b1⟩
  go_wp2_with fail
  refine hX.out _ _ (keep1 hHeld b1) (fun hH2 => ?_)
  clear hX X hHeld b1
  refine takeW (i := 42) (d := 45) (v := .bool r) rfl rfl (by kernel_rfl) (by kernel_rfl) (by kernel_rfl) (fun _ _ _ h => h) (by rfl) (fun w' hSw => by rcases hr with ⟨rfl, rfl, rfl⟩ | ⟨rfl, h, rfl⟩ | ⟨rfl, rfl⟩ <;> go_simp) (by assumption) ?_
  simp only [List.setIfInBounds_toArray, List.set_cons_zero, List.set_cons_succ]
  refine takeW (i := 43) (d := 46) (v := .bool r) rfl rfl (by kernel_rfl) (by kernel_rfl) (by kernel_rfl) (fun _ _ _ h => h) (by rfl) (fun w' hSw => by go_simp) (by assumption) ?_
  simp only [List.setIfInBounds_toArray, List.set_cons_zero, List.set_cons_succ]
  refine takeW (i := 44) (d := 47) (v := .bool r) rfl rfl (by kernel_rfl) (by kernel_rfl) (by kernel_rfl) (fun _ _ _ h => h) (by rfl) (fun w' hSw => by go_simp) (by assumption) ?_
  simp only [List.setIfInBounds_toArray, List.set_cons_zero, List.set_cons_succ]
  refine takeW (i := 45) (d := 2) (v := .bool r) rfl rfl (by kernel_rfl) (by kernel_rfl) (by kernel_rfl) (fun _ _ _ h => h) (by rfl) (fun w' hSw => by go_simp) (by assumption) ?_
  simp only [List.setIfInBounds_toArray, List.set_cons_zero, List.set_cons_succ]
  refine wpAnyH_done (by kernel_rfl) ?_ _
  have HE := Lib.hid hH2.1
  clear hH2 hr
  go_wp2_with fail
  go_ret
  exact ⟨rfl, HE.out.out⟩

set_option maxHeartbeats 4000000 in
theorem refCan_any (k n : Int) (s : ByteArray) (hs : s.size ≤ 300) (w : World) :
    Calls Tryz.prog 7 #[.agg #[.int .i64 k, .int .i64 n, .string s]] w fun e w' => e = .returned (.bool (canB k n s)) ∧ Below w.heap.size w w' := by
  have I := Lib.hid (fun w => refInput_any s hs w)
  have HB := (boxed1 w (.int .i64 k) (.int .i64 n) (.string s) 25).1
  clear hs
  rcases can_cases k n s with ⟨rfl, rfl, h2, hc⟩ | ⟨rfl, rfl, h2, hc⟩ | ⟨rfl, h1, hc⟩ | ⟨rfl, h2, hc⟩ | ⟨rfl, h2, hc⟩ | ⟨rfl, rfl, hc⟩ | ⟨rfl, h1, hc⟩ | ⟨rfl, hk, rfl, hc⟩ | ⟨rfl, hk, hn, hc⟩ | ⟨rfl, hk, hc⟩ | ⟨g0, g1, g2, g3, hc⟩
  · rw [hc]; clear hc I
    have he : s.toList.isEmpty = true := by rw [h2]; rfl
    go_enter Tryz.func7, Tryz.ntmps7
    go_wp2_with fail
    go_quiet (fail)
    go_wp2_with fail
    go_ret
    exact ⟨rfl, Below.drewN' HB.out _⟩
  · rw [hc]; clear hc I
    have he : s.toList.isEmpty = false := by cases hs : s.toList with | nil => exact absurd hs h2 | cons a l => rfl
    clear h2
    go_enter Tryz.func7, Tryz.ntmps7
    go_wp2_with fail
    go_quiet (fail)
    go_wp2_with fail
    go_ret
    exact ⟨rfl, Below.drewN' HB.out _⟩
  · rw [hc]; clear hc I
    have hb : (n == 0) = false := beq_eq_false_iff_ne.2 h1
    clear h1
    go_enter Tryz.func7, Tryz.ntmps7
    go_wp2_with fail
    go_quiet (fail)
    go_wp2_with fail
    go_ret
    exact ⟨rfl, Below.drewN' HB.out _⟩
  · rw [hc]; clear hc I
    have he : s.toList.isEmpty = true := by rw [h2]; rfl
    go_enter Tryz.func7, Tryz.ntmps7
    go_wp2_with fail
    go_quiet (fail)
    go_wp2_with fail
    go_ret
    exact ⟨rfl, Below.drewN' HB.out _⟩
  · rw [hc]; clear hc I
    have he : s.toList.isEmpty = false := by cases hs : s.toList with | nil => exact absurd hs h2 | cons a l => rfl
    clear h2
    go_enter Tryz.func7, Tryz.ntmps7
    go_wp2_with fail
    go_quiet (fail)
    go_wp2_with fail
    go_ret
    exact ⟨rfl, Below.drewN' HB.out _⟩
  · rw [hc]; clear hc I
    go_enter Tryz.func7, Tryz.ntmps7
    go_wp2_with fail
    go_quiet (fail)
    go_wp2_with fail
    go_ret
    exact ⟨rfl, Below.drewN' HB.out _⟩
  · rw [hc]; clear hc I
    have hb : (n == 0) = false := beq_eq_false_iff_ne.2 h1
    clear h1
    go_enter Tryz.func7, Tryz.ntmps7
    go_wp2_with fail
    go_quiet (fail)
    go_wp2_with fail
    go_ret
    exact ⟨rfl, Below.drewN' HB.out _⟩
  · rw [hc]
    exact refCan_looks _ (inK s) (inN s) s true w (Or.inl ⟨hk, rfl, rfl⟩) I
  · rw [hc]
    exact refCan_looks n (inK s) (inN s) s false w (Or.inr (Or.inl ⟨hk, fun h => hn h.symm, rfl⟩)) I
  · rw [hc]
    exact refCan_looks n (inK s) (inN s) s false w (Or.inr (Or.inr ⟨hk, rfl⟩)) I
  · rw [hc]; clear hc I
    go_enter Tryz.func7, Tryz.ntmps7
    go_wp2_with fail
    go_quiet (fail)
    go_wp2_with fail
    go_ret
    exact ⟨rfl, Below.drewN' HB.out _⟩
end Go.Proofs.YtbbhcbpfffabpaaGreatDoor.T3
