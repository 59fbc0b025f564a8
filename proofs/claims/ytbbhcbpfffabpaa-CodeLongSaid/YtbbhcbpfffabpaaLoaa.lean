/- Merged by program: P15. -/
import Derived.ProofKit
import Derived.OpenShut
import Derived.HandedShaped
import Derived.SizedLaws
import Derived.Deep.DeepHandedRow
import Derived.Lib.SmallJoins
import Derived.Test.YtbbhcbpfffabpaaGal
/- Cells as arguments of plain rows: a cell, a slice of cells, two cells. -/
namespace Go.Proofs.Ytbbhcbpfffabpaa
open Go.ChangeShapes Go.WideShapes Go.ChangeAt Go.RowKit Go.ChangeMaps

theorem wf_fits {a : Int} (h : (Lit.int .i64 a).wf = true) : T3.Fits a := by
  have e1 : IntKind.i64.min = -9223372036854775808 := by decide
  have e2 : IntKind.i64.max = 9223372036854775807 := by decide
  simp [Lit.wf, e1, e2] at h
  unfold T3.Fits
  omega
structure ArgC (w : World) (p : Option Addr) (n : Nat) (l : List Cel) : Prop where
  big : n ≤ 9223372036854775807
  len : n = l.length
  cells : l = [] ∨ ∃ b off, p = some ⟨b, off, none⟩ ∧ ∀ i c, l[i]? = some c → w.cell? ⟨b, off + i * 3, none⟩ = some (.int .i64 c.k) ∧ w.cell? ⟨b, off + i * 3 + 1, none⟩ = some (.int .i64 c.n) ∧ w.cell? ⟨b, off + i * 3 + 2, none⟩ = some (.string c.s)
  fits : ∀ c ∈ l, T3.Fits c.n
theorem laid_out : laidOutB Try.prog = true := by kernel_rfl
theorem cells_cell : Try.prog.cellsOf 23 = 3 := by kernel_rfl

set_option maxRecDepth 100000 in
theorem open_cell {H : Type} {enc : TypeId × Value → H} {W : World} {base b0 : Nat} {sp : Nat → Bool} {hd : Bool} {v : Value} {d : DataW H} {p : List MemPlace} (hv : Value.okWide Try.prog W .any b0 23 v) (h : DataW.Trod enc Try.prog W base sp hd 23 v d p) :
    ∃ (k n : Int) (s : ByteArray), v = .agg #[.int .i64 k, .int .i64 n, .string s] ∧ d = .agg [.lit (.int .i64 k), .lit (.int .i64 n), .lit (.string s.data.toList)] ∧ p = [] ∧ (Lit.int .i64 k).wf = true ∧ (Lit.int .i64 n).wf = true ∧ s.size ≤ maxLen := by
  obtain ⟨c0, c1, c2, y0, y1, y2, m, rfl, rfl, rfl, hy0, hy1, hy2⟩ := Joins.open_agg3 Try.underlying23 (by kernel_rfl) cells_cell hv h
  obtain ⟨k, e0, rfl, w0⟩ := DataW.trod_int Try.underlying3 hy0
  obtain ⟨n, e1, rfl, w1⟩ := DataW.trod_int Try.underlying2 hy1
  obtain ⟨s, e2, rfl, w2⟩ := DataW.trod_string Try.underlying9 hy2
  simp at e0 e1 e2
  subst e0 e1 e2
  exact ⟨k, n, s, rfl, rfl, rfl, w0, w1, w2⟩

theorem shut_cell {H : Type} {enc : TypeId × Value → H} {W : World} {base : Nat} {sp : Nat → Bool} {hd : Bool} {k n : Int} {s : ByteArray} (wk : (Lit.int .i64 k).wf = true) (wn : (Lit.int .i64 n).wf = true) (ws : s.size ≤ maxLen) :
    DataW.Trod enc Try.prog W base sp hd 23 (.agg #[.int .i64 k, .int .i64 n, .string s]) (.agg [.lit (.int .i64 k), .lit (.int .i64 n), .lit (.string s.data.toList)]) [] := by
  simpa using Joins.shut_agg3 (enc := enc) (w := W) (base := base) (spare := sp) (held := hd) (y0 := (.lit (.int .i64 k), [])) (y1 := (.lit (.int .i64 n), [])) (y2 := (.lit (.string s.data.toList), [])) Try.underlying23 (by kernel_rfl) cells_cell
    ⟨1, by simp [DataW.trod, Try.underlying3, wk]⟩ ⟨1, by simp [DataW.trod, Try.underlying2, wn]⟩ ⟨1, by simp [DataW.trod, Try.underlying9, ws]⟩

theorem spot_none {w : World} {a : Addr} {v : Value} (h : w.cell? a = some v) : a.spot = none := by
  unfold World.cell? at h
  split at h
  · split at h
    · exact absurd h (by simp)
    · rename_i hs
      simpa using hs
  · exact absurd h (by simp)
theorem add_flat (a : Addr) (h : a.spot = none) (n : Nat) : a.add n = ⟨a.block, a.off + n, none⟩ := by
  obtain ⟨b, o, s⟩ := a
  simp only at h
  subst h
  unfold Addr.add
  split
  · rename_i e; rw [e]; rfl
  · rfl

theorem cells_int : Try.prog.cellsOf 3 = 1 := by kernel_rfl
theorem cells_int64 : Try.prog.cellsOf 2 = 1 := by kernel_rfl
theorem cells_string : Try.prog.cellsOf 9 = 1 := by kernel_rfl
section
variable {H : Type} {enc : TypeId × Value → H} {W : World} {base : Nat} {sp : Nat → Bool} {hd : Bool}
set_option maxRecDepth 100000 in
theorem open_cell_at {n : Nat} {cs : List Value} {x : DataW H × List MemPlace} (h : DataW.trod enc Try.prog W base sp hd n 23 cs = some x) :
    ∃ c : Cel, cs = [.int .i64 c.k, .int .i64 c.n, .string c.s] ∧ T3.Fits c.n := by
  obtain ⟨xs, m, rfl, _, hlen, hxl, hf⟩ := DataW.trod_struct Try.underlying23 h
  rw [cells_cell] at hlen
  match cs, hlen with
  | [v0, v1, v2], _ =>
    have hxl' : xs.length = 3 := hxl
    match xs, hxl' with
    | [y0, y1, y2], _ =>
      have g0 := hf 0 _ rfl
      have g1 := hf 1 _ rfl
      have g2 := hf 2 _ rfl
      have h0 : DataW.trod enc Try.prog W base sp hd m 3 (([v0, v1, v2].drop 0).take (Try.prog.cellsOf 3)) = some y0 := g0
      have h1 : DataW.trod enc Try.prog W base sp hd m 2 (([v0, v1, v2].drop 1).take (Try.prog.cellsOf 2)) = some y1 := g1
      have h2 : DataW.trod enc Try.prog W base sp hd m 9 (([v0, v1, v2].drop 2).take (Try.prog.cellsOf 9)) = some y2 := g2
      rw [cells_int] at h0
      rw [cells_int64] at h1
      rw [cells_string] at h2
      obtain ⟨k, e0, _, _⟩ := DataW.trod_int Try.underlying3 h0
      obtain ⟨n, e1, _, w1⟩ := DataW.trod_int Try.underlying2 h1
      obtain ⟨s, e2, _, _⟩ := DataW.trod_string Try.underlying9 h2
      simp at e0 e1 e2
      subst e0 e1 e2
      exact ⟨⟨k, n, s⟩, rfl, wf_fits w1⟩

set_option maxRecDepth 100000 in
theorem open_cells {v : Value} {d : DataW H} {p : List MemPlace} {b0 : Nat} (hv : Value.okWide Try.prog W .any b0 32 v) (h : DataW.Trod enc Try.prog W base sp hd 32 v d p) :
    ∃ (q : Option Addr) (n cap : Nat) (l : List Cel), v = .slice q n cap ∧ ArgC W q n l := by
  obtain ⟨a0, n0, c0, rfl⟩ := okWide_slice Try.underlying32 hv
  obtain ⟨fuel, hf⟩ := h
  have hf' : DataW.trod enc Try.prog W base sp hd fuel 32 [.slice a0 n0 c0] = some (d, p) := by simpa [Value.cells] using hf
  rcases DataW.trod_slice Try.underlying32 hf' with ⟨e7, _⟩ | ⟨a, len, cap, elems, rest, m', hm, e7, _, _, hl, hc, hel, hat, _⟩
  · injection e7 with e7
    injection e7 with e1 e2 e3
    subst e1 e2 e3
    exact ⟨none, 0, 0, [], rfl, ⟨by omega, rfl, Or.inl rfl, fun c hc => absurd hc (by simp)⟩⟩
  · injection e7 with e7
    injection e7 with e1 e2 e3
    subst e1 e2 e3
    have each : ∀ i, ∃ c : Cel, i < n0 → (∀ j, j < 3 → W.cell? ((a.add (i * 3)).add j) = #[Value.int .i64 c.k, Value.int .i64 c.n, Value.string c.s][j]?) ∧ T3.Fits c.n := by
      intro i
      by_cases hi : i < n0
      · have h5 := hat i hi
        rw [cells_cell, List.getElem?_eq_getElem (by omega)] at h5
        obtain ⟨cs', hcs, ht⟩ := Option.bind_eq_some_iff.1 h5
        obtain ⟨c, rfl, hfit⟩ := open_cell_at ht
        obtain ⟨_, _, hget⟩ := World.cells?_some hcs
        exact ⟨c, fun _ => ⟨fun j hj => by rw [hget j hj]; simp, hfit⟩⟩
      · exact ⟨⟨0, 0, ⟨#[]⟩⟩, fun h => absurd h hi⟩
    obtain ⟨q, hq⟩ := Classical.axiomOfChoice each
    have hbig : n0 ≤ 9223372036854775807 := by simp only [maxLen] at hc; omega
    obtain ⟨l, hl'⟩ : ∃ l : List Cel, l = (List.range n0).map q := ⟨_, rfl⟩
    have hll : l.length = n0 := by rw [hl']; simp
    refine ⟨some a, n0, c0, l, rfl, ⟨hbig, hll.symm, ?_, ?_⟩⟩
    · by_cases h0 : n0 = 0
      · exact Or.inl (List.eq_nil_of_length_eq_zero (by omega))
      · have hsp : a.spot = none := by
          obtain ⟨h6, _⟩ := hq 0 (by omega)
          have h10 := spot_none (h6 0 (by omega))
          simpa [Addr.add] using h10
        refine Or.inr ⟨a.block, a.off, ?_, fun i c hi => ?_⟩
        · have h := add_flat a hsp 0
          have e : a.add 0 = a := by simp [Addr.add]
          rw [e] at h
          exact congrArg some h
        · have hin : i < n0 := by rw [← hll]; exact (List.getElem?_eq_some_iff.1 hi).1
          have ec : c = q i := by
            rw [hl', List.getElem?_map, List.getElem?_range hin] at hi
            injection hi with hi
            exact hi.symm
          subst ec
          obtain ⟨h6, _⟩ := hq i hin
          have k : ∀ j, j < 3 → W.cell? ⟨a.block, a.off + i * 3 + j, none⟩ = #[Value.int .i64 (q i).k, Value.int .i64 (q i).n, Value.string (q i).s][j]? := fun j hj => by
            have h := h6 j hj
            rw [add_flat a hsp, add_flat _ rfl] at h
            exact h
          exact ⟨k 0 (by omega), k 1 (by omega), k 2 (by omega)⟩
    · intro c hc'
      rw [hl'] at hc'
      obtain ⟨i, hi, rfl⟩ := List.mem_map.1 hc'
      exact (hq i (by simpa using hi)).2
end

theorem cells_two2 : Try.prog.cellsOf 31 = 6 := by kernel_rfl
set_option maxRecDepth 100000 in
theorem open_two2 {H : Type} {enc : TypeId × Value → H} {W : World} {base b0 : Nat} {sp : Nat → Bool} {hd : Bool} {v : Value} {d : DataW H} {p : List MemPlace} (hv : Value.okWide Try.prog W .any b0 31 v) (h : DataW.Trod enc Try.prog W base sp hd 31 v d p) :
    ∃ a b : Cel, v = .agg #[.int .i64 a.k, .int .i64 a.n, .string a.s, .int .i64 b.k, .int .i64 b.n, .string b.s] ∧ T3.Fits a.n ∧ T3.Fits b.n := by
  obtain ⟨cs, rfl, hsz, _⟩ : ∃ cs, v = .agg cs ∧ cs.size = Try.prog.cellsOf 31 ∧ Row.okWide Try.prog W .any b0 31 cs := by
    simpa [Value.okWide, Try.underlying31] using hv
  rw [cells_two2] at hsz
  obtain ⟨l⟩ := cs
  obtain ⟨fuel, hf⟩ := h
  obtain ⟨xs, m, _, hx, _, hl, hg⟩ := DataW.trod_array Try.underlying31 hf
  have hsz' : l.length = 6 := by simpa using hsz
  match l, hsz' with
  | [c0, c1, c2, c3, c4, c5], _ =>
    have hl' : xs.length = 2 := hl
    match xs, hl' with
    | [y0, y1], _ =>
      have h0 := hg 0 (by omega)
      have h1 := hg 1 (by omega)
      rw [cells_cell] at h0 h1
      have g0 : DataW.trod enc Try.prog W base sp hd m 23 [c0, c1, c2] = some y0 := h0
      have g1 : DataW.trod enc Try.prog W base sp hd m 23 [c3, c4, c5] = some y1 := h1
      obtain ⟨a, ha, fa⟩ := open_cell_at g0
      obtain ⟨b, hb, fb⟩ := open_cell_at g1
      simp only [List.cons.injEq, and_true] at ha hb
      obtain ⟨rfl, rfl, rfl⟩ := ha
      obtain ⟨rfl, rfl, rfl⟩ := hb
      exact ⟨a, b, rfl, fa, fb⟩
theorem nat_u16 {a : Int} (h : (Lit.int .u16 a).wf = true) : ∃ n : Nat, a = n ∧ n ≤ 65535 := by
  have e1 : IntKind.u16.min = 0 := by decide
  have e2 : IntKind.u16.max = 65535 := by decide
  simp [Lit.wf, e1, e2] at h
  exact ⟨a.toNat, by omega, by omega⟩
/-- What a row asks behind a call whose arguments lead to memory. -/
theorem post_reads {H : Type} {enc : TypeId × Value → H} {f : Func} {s : ChangeSpec} {fresh handsOn : Bool} {W W' : World} {args : Array Value} {v : Value} {ds gs : List (DataW H)} {before : List MemPlace}
    (hW : DataW.Whole enc Try.prog f.params.toList s.vars false W args.toList ds gs before)
    (hres : ∀ (b : Nat) (sp : Nat → Bool) (hd : Bool), DataW.TrodAll enc Try.prog W' b sp hd f.resultTypes.toList (v.resultList f.resultTypes.size) (s.fn H (ds ++ gs)).results [])
    (hargs : ∀ sp : Nat → Bool, (∀ p ∈ before, sp p.block = true) → DataW.TrodAll enc Try.prog W' 0 sp true f.params.toList args.toList (s.fn H (ds ++ gs)).args before)
    (hvars : ∀ sp : Nat → Bool, DataW.TrodVars enc Try.prog W' sp s.vars (s.fn H (ds ++ gs)).vars [])
    (hb : Below W.heap.size W W') :
    s.post enc Try.prog f false fresh handsOn false W args v W' := by
  have hold : ∀ p ∈ before, (fun b => decide (b < W.heap.size)) p.block = true := fun p hp => by simpa using hW.lt p hp
  refine ⟨ds, gs, before, [], before, [], hW, hres _ _ _, hargs _ hold, hvars _, World.keptBut_mono (fun p hp => ⟨hp, Or.inr (by simpa using hp)⟩) (hb.frame (· ∈ before)), fun h => ?_⟩
  exact absurd h (by simp)
end Go.Proofs.Ytbbhcbpfffabpaa
