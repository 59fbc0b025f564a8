/- Merged by program: P15, C15I. -/
import Derived.ProofKit
import Derived.OpenShut
import Derived.HandedShaped
import Derived.SizedLaws
import Derived.Deep.DeepHandedRow
import Derived.Lib.SmallJoins
import Derived.Test.YtbbhcbpfffabpaaGal
import Derived.Test.YtbbhcbpfffabpaaGaz
/- Cells as arguments of plain rows: a cell, a slice of cells, two cells. -/
namespace Go.Proofs.Ytbbhcbpfffabpaa
open Go.ChangeShapes Go.WideShapes Go.ChangeAt Go.RowKit Go.ChangeMaps

theorem wf_fits {a : Int} (h : (Lit.int .i64 a).wf = true) : T3.Fits a := by
  have e1 : IntKind.i64.min = -9223372036854775808 := by decide
  have e2 : IntKind.i64.max = 9223372036854775807 := by decide
  simp [Lit.wf, e1, e2] at h
  unfold T3.Fits
  omega
structure ArgC (w : World) (p : Option Addr) (n : Nat) (l : List Cel) : Prop where
  big : n ≤ 9223372036854775807
  len : n = l.length
  cells : l = [] ∨ ∃ b off, p = some ⟨b, off, none⟩ ∧ ∀ i c, l[i]? = some c → w.cell? ⟨b, off + i * 3, none⟩ = some (.int .i64 c.k) ∧ w.cell? ⟨b, off + i * 3 + 1, none⟩ = some (.int .i64 c.n) ∧ w.cell? ⟨b, off + i * 3 + 2, none⟩ = some (.string c.s)
  fits : ∀ c ∈ l, T3.Fits c.n
theorem laid_out : laidOutB Try.prog = true := by kernel_rfl
theorem cells_cell : Try.prog.cellsOf 23 = 3 := by kernel_rfl

set_option maxRecDepth 100000 in
theorem open_cell {H : Type} {enc : TypeId × Value → H} {W : World} {base b0 : Nat} {sp : Nat → Bool} {hd : Bool} {v : Value} {d : DataW H} {p : List MemPlace} (hv : Value.okWide Try.prog W .any b0 23 v) (h : DataW.Trod enc Try.prog W base sp hd 23 v d p) :
    ∃ (k n : Int) (s : ByteArray), v = .agg #[.int .i64 k, .int .i64 n, .string s] ∧ d = .agg [.lit (.int .i64 k), .lit (.int .i64 n), .lit (.string s.data.toList)] ∧ p = [] ∧ (Lit.int .i64 k).wf = true ∧ (Lit.int .i64 n).wf = true ∧ s.size ≤ maxLen := by
  obtain ⟨c0, c1, c2, y0, y1, y2, m, rfl, rfl, rfl, hy0, hy1, hy2⟩ := Joins.open_agg3 Try.underlying23 (by kernel_rfl) cells_cell hv h
  obtain ⟨k, e0, rfl, w0⟩ := DataW.trod_int Try.underlying3 hy0
  obtain ⟨n, e1, rfl, w1⟩ := DataW.trod_int Try.underlying2 hy1
  obtain ⟨s, e2, rfl, w2⟩ := DataW.trod_string Try.underlying9 hy2
  simp at e0 e1 e2
  subst e0 e1 e2
  exact ⟨k, n, s, rfl, rfl, rfl, w0, w1, w2⟩

theorem shut_cell {H : Type} {enc : TypeId × Value → H} {W : World} {base : Nat} {sp : Nat → Bool} {hd : Bool} {k n : Int} {s : ByteArray} (wk : (Lit.int .i64 k).wf = true) (wn : (Lit.int .i64 n).wf = true) (ws : s.size ≤ maxLen) :
    DataW.Trod enc Try.prog W base sp hd 23 (.agg #[.int .i64 k, .int .i64 n, .string s]) (.agg [.lit (.int .i64 k), .lit (.int .i64 n), .lit (.string s.data.toList)]) [] := by
  simpa using Joins.shut_agg3 (enc := enc) (w := W) (base := base) (spare := sp) (held := hd) (y0 := (.lit (.int .i64 k), [])) (y1 := (.lit (.int .i64 n), [])) (y2 := (.lit (.string s.data.toList), [])) Try.underlying23 (by kernel_rfl) cells_cell
    ⟨1, by simp [DataW.trod, Try.underlying3, wk]⟩ ⟨1, by simp [DataW.trod, Try.underlying2, wn]⟩ ⟨1, by simp [DataW.trod, Try.underlying9, ws]⟩

theorem spot_none {w : World} {a : Addr} {v : Value} (h : w.cell? a = some v) : a.spot = none := by
  unfold World.cell? at h
  split at h
  · split at h
    · exact absurd h (by simp)
    · rename_i hs
      simpa using hs
  · exact absurd h (by simp)
theorem add_flat (a : Addr) (h : a.spot = none) (n : Nat) : a.add n = ⟨a.block, a.off + n, none⟩ := by
  obtain ⟨b, o, s⟩ := a
  simp only at h
  subst h
  unfold Addr.add
  split
  · rename_i e; rw [e]; rfl
  · rfl

theorem cells_int : Try.prog.cellsOf 3 = 1 := by kernel_rfl
theorem cells_int64 : Try.prog.cellsOf 2 = 1 := by kernel_rfl
theorem cells_string : Try.prog.cellsOf 9 = 1 := by kernel_rfl
section
variable {H : Type} {enc : TypeId × Value → H} {W : World} {base : Nat} {sp : Nat → Bool} {hd : Bool}
set_option maxRecDepth 100000 in
theorem open_cell_at {n : Nat} {cs : List Value} {x : DataW H × List MemPlace} (h : DataW.trod enc Try.prog W base sp hd n 23 cs = some x) :
    ∃ c : Cel, cs = [.int .i64 c.k, .int .i64 c.n, .string c.s] ∧ T3.Fits c.n := by
  obtain ⟨xs, m, rfl, _, hlen, hxl, hf⟩ := DataW.trod_struct Try.underlying23 h
  rw [cells_cell] at hlen
  match cs, hlen with
  | [v0, v1, v2], _ =>
    have hxl' : xs.length = 3 := hxl
    match xs, hxl' with
    | [y0, y1, y2], _ =>
      have g0 := hf 0 _ rfl
      have g1 := hf 1 _ rfl
      have g2 := hf 2 _ rfl
      have h0 : DataW.trod enc Try.prog W base sp hd m 3 (([v0, v1, v2].drop 0).take (Try.prog.cellsOf 3)) = some y0 := g0
      have h1 : DataW.trod enc Try.prog W base sp hd m 2 (([v0, v1, v2].drop 1).take (Try.prog.cellsOf 2)) = some y1 := g1
      have h2 : DataW.trod enc Try.prog W base sp hd m 9 (([v0, v1, v2].drop 2).take (Try.prog.cellsOf 9)) = some y2 := g2
      rw [cells_int] at h0
      rw [cells_int64] at h1
      rw [cells_string] at h2
      obtain ⟨k, e0, _, _⟩ := DataW.trod_int Try.underlying3 h0
      obtain ⟨n, e1, _, w1⟩ := DataW.trod_int Try.underlying2 h1
      obtain ⟨s, e2, _, _⟩ := DataW.trod_string Try.underlying9 h2
      simp at e0 e1 e2
      subst e0 e1 e2
      exact ⟨⟨k, n, s⟩, rfl, wf_fits w1⟩

set_option maxRecDepth 100000 in
theorem open_cells {v : Value} {d : DataW H} {p : List MemPlace} {b0 : Nat} (hv : Value.okWide Try.prog W .any b0 32 v) (h : DataW.Trod enc Try.prog W base sp hd 32 v d p) :
    ∃ (q : Option Addr) (n cap : Nat) (l : List Cel), v = .slice q n cap ∧ ArgC W q n l := by
  obtain ⟨a0, n0, c0, rfl⟩ := okWide_slice Try.underlying32 hv
  obtain ⟨fuel, hf⟩ := h
  have hf' : DataW.trod enc Try.prog W base sp hd fuel 32 [.slice a0 n0 c0] = some (d, p) := by simpa [Value.cells] using hf
  rcases DataW.trod_slice Try.underlying32 hf' with ⟨e7, _⟩ | ⟨a, len, cap, elems, rest, m', hm, e7, _, _, hl, hc, hel, hat, _⟩
  · injection e7 with e7
    injection e7 with e1 e2 e3
    subst e1 e2 e3
    exact ⟨none, 0, 0, [], rfl, ⟨by omega, rfl, Or.inl rfl, fun c hc => absurd hc (by simp)⟩⟩
  · injection e7 with e7
    injection e7 with e1 e2 e3
    subst e1 e2 e3
    have each : ∀ i, ∃ c : Cel, i < n0 → (∀ j, j < 3 → W.cell? ((a.add (i * 3)).add j) = #[Value.int .i64 c.k, Value.int .i64 c.n, Value.string c.s][j]?) ∧ T3.Fits c.n := by
      intro i
      by_cases hi : i < n0
      · have h5 := hat i hi
        rw [cells_cell, List.getElem?_eq_getElem (by omega)] at h5
        obtain ⟨cs', hcs, ht⟩ := Option.bind_eq_some_iff.1 h5
        obtain ⟨c, rfl, hfit⟩ := open_cell_at ht
        obtain ⟨_, _, hget⟩ := World.cells?_some hcs
        exact ⟨c, fun _ => ⟨fun j hj => by rw [hget j hj]; simp, hfit⟩⟩
      · exact ⟨⟨0, 0, ⟨#[]⟩⟩, fun h => absurd h hi⟩
    obtain ⟨q, hq⟩ := Classical.axiomOfChoice each
    have hbig : n0 ≤ 9223372036854775807 := by simp only [maxLen] at hc; omega
    obtain ⟨l, hl'⟩ : ∃ l : List Cel, l = (List.range n0).map q := ⟨_, rfl⟩
    have hll : l.length = n0 := by rw [hl']; simp
    refine ⟨some a, n0, c0, l, rfl, ⟨hbig, hll.symm, ?_, ?_⟩⟩
    · by_cases h0 : n0 = 0
      · exact Or.inl (List.eq_nil_of_length_eq_zero (by omega))
      · have hsp : a.spot = none := by
          obtain ⟨h6, _⟩ := hq 0 (by omega)
          have h10 := spot_none (h6 0 (by omega))
          simpa [Addr.add] using h10
        refine Or.inr ⟨a.block, a.off, ?_, fun i c hi => ?_⟩
        · have h := add_flat a hsp 0
          have e : a.add 0 = a := by simp [Addr.add]
          rw [e] at h
          exact congrArg some h
        · have hin : i < n0 := by rw [← hll]; exact (List.getElem?_eq_some_iff.1 hi).1
          have ec : c = q i := by
            rw [hl', List.getElem?_map, List.getElem?_range hin] at hi
            injection hi with hi
            exact hi.symm
          subst ec
          obtain ⟨h6, _⟩ := hq i hin
          have k : ∀ j, j < 3 → W.cell? ⟨a.block, a.off + i * 3 + j, none⟩ = #[Value.int .i64 (q i).k, Value.int .i64 (q i).n, Value.string (q i).s][j]? := fun j hj => by
            have h := h6 j hj
            rw [add_flat a hsp, add_flat _ rfl] at h
            exact h
          exact ⟨k 0 (by omega), k 1 (by omega), k 2 (by omega)⟩
    · intro c hc'
      rw [hl'] at hc'
      obtain ⟨i, hi, rfl⟩ := List.mem_map.1 hc'
      exact (hq i (by simpa using hi)).2
end

theorem cells_two2 : Try.prog.cellsOf 31 = 6 := by kernel_rfl
set_option maxRecDepth 100000 in
theorem open_two2 {H : Type} {enc : TypeId × Value → H} {W : World} {base b0 : Nat} {sp : Nat → Bool} {hd : Bool} {v : Value} {d : DataW H} {p : List MemPlace} (hv : Value.okWide Try.prog W .any b0 31 v) (h : DataW.Trod enc Try.prog W base sp hd 31 v d p) :
    ∃ a b : Cel, v = .agg #[.int .i64 a.k, .int .i64 a.n, .string a.s, .int .i64 b.k, .int .i64 b.n, .string b.s] ∧ T3.Fits a.n ∧ T3.Fits b.n := by
  obtain ⟨cs, rfl, hsz, _⟩ : ∃ cs, v = .agg cs ∧ cs.size = Try.prog.cellsOf 31 ∧ Row.okWide Try.prog W .any b0 31 cs := by
    simpa [Value.okWide, Try.underlying31] using hv
  rw [cells_two2] at hsz
  obtain ⟨l⟩ := cs
  obtain ⟨fuel, hf⟩ := h
  obtain ⟨xs, m, _, hx, _, hl, hg⟩ := DataW.trod_array Try.underlying31 hf
  have hsz' : l.length = 6 := by simpa using hsz
  match l, hsz' with
  | [c0, c1, c2, c3, c4, c5], _ =>
    have hl' : xs.length = 2 := hl
    match xs, hl' with
    | [y0, y1], _ =>
      have h0 := hg 0 (by omega)
      have h1 := hg 1 (by omega)
      rw [cells_cell] at h0 h1
      have g0 : DataW.trod enc Try.prog W base sp hd m 23 [c0, c1, c2] = some y0 := h0
      have g1 : DataW.trod enc Try.prog W base sp hd m 23 [c3, c4, c5] = some y1 := h1
      obtain ⟨a, ha, fa⟩ := open_cell_at g0
      obtain ⟨b, hb, fb⟩ := open_cell_at g1
      simp only [List.cons.injEq, and_true] at ha hb
      obtain ⟨rfl, rfl, rfl⟩ := ha
      obtain ⟨rfl, rfl, rfl⟩ := hb
      exact ⟨a, b, rfl, fa, fb⟩
theorem nat_u16 {a : Int} (h : (Lit.int .u16 a).wf = true) : ∃ n : Nat, a = n ∧ n ≤ 65535 := by
  have e1 : IntKind.u16.min = 0 := by decide
  have e2 : IntKind.u16.max = 65535 := by decide
  simp [Lit.wf, e1, e2] at h
  exact ⟨a.toNat, by omega, by omega⟩
/-- What a row asks behind a call whose arguments lead to memory. -/
theorem post_reads {H : Type} {enc : TypeId × Value → H} {f : Func} {s : ChangeSpec} {fresh handsOn : Bool} {W W' : World} {args : Array Value} {v : Value} {ds gs : List (DataW H)} {before : List MemPlace}
    (hW : DataW.Whole enc Try.prog f.params.toList s.vars false W args.toList ds gs before)
    (hres : ∀ (b : Nat) (sp : Nat → Bool) (hd : Bool), DataW.TrodAll enc Try.prog W' b sp hd f.resultTypes.toList (v.resultList f.resultTypes.size) (s.fn H (ds ++ gs)).results [])
    (hargs : ∀ sp : Nat → Bool, (∀ p ∈ before, sp p.block = true) → DataW.TrodAll enc Try.prog W' 0 sp true f.params.toList args.toList (s.fn H (ds ++ gs)).args before)
    (hvars : ∀ sp : Nat → Bool, DataW.TrodVars enc Try.prog W' sp s.vars (s.fn H (ds ++ gs)).vars [])
    (hb : Below W.heap.size W W') :
    s.post enc Try.prog f false fresh handsOn false W args v W' := by
  have hold : ∀ p ∈ before, (fun b => decide (b < W.heap.size)) p.block = true := fun p hp => by simpa using hW.lt p hp
  refine ⟨ds, gs, before, [], before, [], hW, hres _ _ _, hargs _ hold, hvars _, World.keptBut_mono (fun p hp => ⟨hp, Or.inr (by simpa using hp)⟩) (hb.frame (· ∈ before)), fun h => ?_⟩
  exact absurd h (by simp)
end Go.Proofs.Ytbbhcbpfffabpaa

/- The law's is (gen_c15i.py). -/
namespace Go.Proofs.Ytbbhcbpfffabpaa
open Go.RowKit T3

theorem keepC4 {w w1 w2 : World} {a0 a1 a2 : Addr} {v0 v1 v2 : Value} (h : Hid (Below w.heap.size w w1) ∧ w1.cell? a0 = some v0 ∧ w1.cell? a1 = some v1 ∧ w1.cell? a2 = some v2) (hb : Below w1.heap.size w1 w2) :
    Hid (Below w.heap.size w w2) ∧ w2.cell? a0 = some v0 ∧ w2.cell? a1 = some v1 ∧ w2.cell? a2 = some v2 := by
  obtain ⟨h0, e0, e1, e2⟩ := h
  have keep : ∀ {a : Addr} {v : Value}, w1.cell? a = some v → w2.cell? a = some v := fun {a v} e => by rw [hb.cell (p := a) (cell_lt e)]; exact e
  exact ⟨Lib.hid (Below.step h0.out hb), keep e0, keep e1, keep e2⟩
theorem two_new (w : World) (cs ds : Array Value) : ∃ W, W = (w.alloc (.cells cs 23)).alloc (.cells ds 23) ∧ Hid (On w W cs ds) := on_new w cs ds

set_option maxRecDepth 100000 in
set_option maxHeartbeats 1000000 in
theorem is_true (H : CodeOk) (g : ByteArray) (k n : Int) (s : ByteArray) (k2 n2 : Int) (s2 : ByteArray) (hn : Fits n) (hn2 : Fits n2) (ha : fitB k n s = true) (hb : fitB k2 n2 s2 = true)
    (ht : twoF g (refCmpC k n s k2 n2 s2) (numL k n s) (numL k2 n2 s2) = boolA true) (w : World) :
    Calls Try.prog 21 #[.string g, .agg (cellC k n s), .agg (cellC k2 n2 s2)] w fun e w' => e = .returned (.bool true) ∧ Below w.heap.size w w' := by
  have HI := info_cell
  have HT := Lib.hid (fun w => by have h := H.two g k n s k2 n2 s2 w hn hn2 ha hb; rw [ht, show boolA true = twoC 1 1000000 ⟨#[]⟩ 0 from rfl] at h; exact h)
  clear H hn hn2 ha hb ht
  obtain ⟨W, hW, HR⟩ := two_new w (cellC k n s) (cellC k2 n2 s2)
  go_enter Try.func21, Try.ntmps21
  go_upto_region 1 with (fail)
  change Code.wp _ _ _ _ ((w.alloc (.cells (cellC k n s) 23)).alloc (.cells (cellC k2 n2 s2) 23))
  rw [← hW]
  clear hW
  obtain ⟨a0, a1, a2⟩ := three_of HR.out.a
  obtain ⟨b0, b1, b2⟩ := three_of HR.out.r
  go_wp2_with fail
  refine (HT.out _).mono ?_
  rintro e w1 ⟨rfl, bb⟩
  have B1 := Lib.hid (Below.step HR.out.below bb)
  unfold twoC
  clear bb a0 a1 a2 b0 b1 b2 HR HT
  go_upto_region 2 with (refine wpList_store_row rfl 23 (.tmp 7) (.tmp 14) rfl w1.heap.size (cellC 1 1000000 ⟨#[]⟩) rfl rfl 23 zeroC (heap_alloc_last _ _) HI rfl (cell_one3 _ _ _) ?_)
  obtain ⟨w2, hW2, X2, B2⟩ : ∃ w2, w2 = (w1.alloc (.cells zeroC 23)).setRow w1.heap.size (cellC 1 1000000 ⟨#[]⟩) ∧ Hid (Cx w2 w1.heap.size (cellC 1 1000000 ⟨#[]⟩)) ∧ Hid (Below w1.heap.size w1 w2) :=
    ⟨_, rfl, Lib.hid (Cx.setRow (cs := zeroC) ⟨heap_alloc_last _ _⟩ _), Lib.hid (below_row (below_new w1 _) (Nat.le_refl _) _)⟩
  change Code.wp _ _ _ _ ((w1.alloc (.cells zeroC 23)).setRow w1.heap.size (cellC 1 1000000 ⟨#[]⟩))
  rw [← hW2]
  have B3 := Lib.hid (Below.step B1.out B2.out)
  obtain ⟨xb, hxb⟩ : ∃ xb, xb = w1.heap.size := ⟨_, rfl⟩
  rw [← hxb] at X2 ⊢
  clear hW2 hxb B1 B2
  try simp only [Act.put]
  obtain ⟨a0, a1, a2⟩ := three_of X2.out
  have H0 : Hid (Hid (Below w2.heap.size w2 w2) ∧ w2.cell? ⟨xb, 0, none⟩ = some (.int .i64 1) ∧ w2.cell? ⟨xb, 1, none⟩ = some (.int .i64 1000000) ∧ w2.cell? ⟨xb, 2, none⟩ = some (.string ⟨#[]⟩)) := Lib.hid ⟨Lib.hid (Below.refl _ _), by simpa using a0, by simpa using a1, by simpa using a2⟩
  clear a0 a1 a2
  refine wp_region_held_drew (S := fun W' => Hid (Below w2.heap.size w2 W') ∧ W'.cell? ⟨xb, 0, none⟩ = some (.int .i64 1) ∧ W'.cell? ⟨xb, 1, none⟩ = some (.int .i64 1000000) ∧ W'.cell? ⟨xb, 2, none⟩ = some (.string ⟨#[]⟩)) (by kernel_rfl) ?_ (fun hS => ?_)
  · exact keepC4 H0.out (below_drew _)
  clear H0
  refine takeW (i := 0) (d := 16) (v := .int .i64 0) rfl rfl (by kernel_rfl) (by kernel_rfl) (by kernel_rfl) (fun _ _ _ h => h) (by rfl) (fun w' hSw => by obtain ⟨x_, x0, x1, x2⟩ := hSw; go_simp) hS ?_
  simp only [List.setIfInBounds_toArray, List.set_cons_zero, List.set_cons_succ]
  refine takeW (i := 1) (d := 17) (v := .bool true) rfl rfl (by kernel_rfl) (by kernel_rfl) (by kernel_rfl) (fun _ _ _ h => h) (by rfl) (fun w' hSw => by obtain ⟨x_, x0, x1, x2⟩ := hSw; go_simp) hS ?_
  simp only [List.setIfInBounds_toArray, List.set_cons_zero, List.set_cons_succ]
  refine takeW (i := 2) (d := 18) (v := .bool true) rfl rfl (by kernel_rfl) (by kernel_rfl) (by kernel_rfl) (fun _ _ _ h => h) (by rfl) (fun w' hSw => by obtain ⟨x_, x0, x1, x2⟩ := hSw; go_simp) hS ?_
  simp only [List.setIfInBounds_toArray, List.set_cons_zero, List.set_cons_succ]
  refine takeW (i := 3) (d := 19) (v := .agg #[.int .i64 1, .int .i64 1000000, .string ⟨#[]⟩]) rfl rfl (by kernel_rfl) (by kernel_rfl) (by kernel_rfl) (fun _ _ _ h => h) (by rfl) (fun w' hSw => by obtain ⟨x_, x0, x1, x2⟩ := hSw; go_simp) hS ?_
  simp only [List.setIfInBounds_toArray, List.set_cons_zero, List.set_cons_succ]
  refine wpAnyH_ready (rs := [4]) (by kernel_rfl) (by simp) ?_
  refine AllReadyH.cons rfl (fun X hX => ?_) (AllReadyH.nil)
  rw [if_pos (by rfl)]
  go_simp
  refine (refBool_any _ _).mono ?_; rintro e w1 ⟨rfl, b1⟩; rw [show cellC 1 (boolN true) ⟨#[]⟩ = #[.int .i64 1, .int .i64 1000000, .string ⟨#[]⟩] from rfl]
  go_wp2_with fail
  refine hX.out _ _ (keepC4 hS b1) (fun hS4_4 => ?_)
  clear hX X hS b1
  refine takeW (i := 5) (d := 21) (v := .bool true) rfl rfl (by kernel_rfl) (by kernel_rfl) (by kernel_rfl) (fun _ _ _ h => h) (by rfl) (fun w' hSw => by obtain ⟨x_, x0, x1, x2⟩ := hSw; go_simp) hS4_4 ?_
  simp only [List.setIfInBounds_toArray, List.set_cons_zero, List.set_cons_succ]
  refine takeW (i := 6) (d := 22) (v := .bool true) rfl rfl (by kernel_rfl) (by kernel_rfl) (by kernel_rfl) (fun _ _ _ h => h) (by rfl) (fun w' hSw => by obtain ⟨x_, x0, x1, x2⟩ := hSw; go_simp) hS4_4 ?_
  simp only [List.setIfInBounds_toArray, List.set_cons_zero, List.set_cons_succ]
  refine takeW (i := 7) (d := 6) (v := .bool true) rfl rfl (by kernel_rfl) (by kernel_rfl) (by kernel_rfl) (fun _ _ _ h => h) (by rfl) (fun w' hSw => by obtain ⟨x_, x0, x1, x2⟩ := hSw; go_simp) hS4_4 ?_
  simp only [List.setIfInBounds_toArray, List.set_cons_zero, List.set_cons_succ]
  refine wpAnyH_done (by kernel_rfl) ?_ _
  have HEE := hS4_4.1
  clear hS4_4
  go_wp2_with fail
  go_ret
  exact ⟨rfl, Below.step B3.out HEE.out⟩

set_option maxRecDepth 100000 in
set_option maxHeartbeats 1000000 in
theorem is_false (H : CodeOk) (g : ByteArray) (k n : Int) (s : ByteArray) (k2 n2 : Int) (s2 : ByteArray) (hn : Fits n) (hn2 : Fits n2) (ha : fitB k n s = true) (hb : fitB k2 n2 s2 = true)
    (ht : twoF g (refCmpC k n s k2 n2 s2) (numL k n s) (numL k2 n2 s2) = boolA false) (w : World) :
    Calls Try.prog 21 #[.string g, .agg (cellC k n s), .agg (cellC k2 n2 s2)] w fun e w' => e = .returned (.bool false) ∧ Below w.heap.size w w' := by
  have HI := info_cell
  have HT := Lib.hid (fun w => by have h := H.two g k n s k2 n2 s2 w hn hn2 ha hb; rw [ht, show boolA false = twoC 1 0 ⟨#[]⟩ 0 from rfl] at h; exact h)
  clear H hn hn2 ha hb ht
  obtain ⟨W, hW, HR⟩ := two_new w (cellC k n s) (cellC k2 n2 s2)
  go_enter Try.func21, Try.ntmps21
  go_upto_region 1 with (fail)
  change Code.wp _ _ _ _ ((w.alloc (.cells (cellC k n s) 23)).alloc (.cells (cellC k2 n2 s2) 23))
  rw [← hW]
  clear hW
  obtain ⟨a0, a1, a2⟩ := three_of HR.out.a
  obtain ⟨b0, b1, b2⟩ := three_of HR.out.r
  go_wp2_with fail
  refine (HT.out _).mono ?_
  rintro e w1 ⟨rfl, bb⟩
  have B1 := Lib.hid (Below.step HR.out.below bb)
  unfold twoC
  clear bb a0 a1 a2 b0 b1 b2 HR HT
  go_upto_region 2 with (refine wpList_store_row rfl 23 (.tmp 7) (.tmp 14) rfl w1.heap.size (cellC 1 0 ⟨#[]⟩) rfl rfl 23 zeroC (heap_alloc_last _ _) HI rfl (cell_one3 _ _ _) ?_)
  obtain ⟨w2, hW2, X2, B2⟩ : ∃ w2, w2 = (w1.alloc (.cells zeroC 23)).setRow w1.heap.size (cellC 1 0 ⟨#[]⟩) ∧ Hid (Cx w2 w1.heap.size (cellC 1 0 ⟨#[]⟩)) ∧ Hid (Below w1.heap.size w1 w2) :=
    ⟨_, rfl, Lib.hid (Cx.setRow (cs := zeroC) ⟨heap_alloc_last _ _⟩ _), Lib.hid (below_row (below_new w1 _) (Nat.le_refl _) _)⟩
  change Code.wp _ _ _ _ ((w1.alloc (.cells zeroC 23)).setRow w1.heap.size (cellC 1 0 ⟨#[]⟩))
  rw [← hW2]
  have B3 := Lib.hid (Below.step B1.out B2.out)
  obtain ⟨xb, hxb⟩ : ∃ xb, xb = w1.heap.size := ⟨_, rfl⟩
  rw [← hxb] at X2 ⊢
  clear hW2 hxb B1 B2
  try simp only [Act.put]
  obtain ⟨a0, a1, a2⟩ := three_of X2.out
  have H0 : Hid (Hid (Below w2.heap.size w2 w2) ∧ w2.cell? ⟨xb, 0, none⟩ = some (.int .i64 1) ∧ w2.cell? ⟨xb, 1, none⟩ = some (.int .i64 0) ∧ w2.cell? ⟨xb, 2, none⟩ = some (.string ⟨#[]⟩)) := Lib.hid ⟨Lib.hid (Below.refl _ _), by simpa using a0, by simpa using a1, by simpa using a2⟩
  clear a0 a1 a2
  refine wp_region_held_drew (S := fun W' => Hid (Below w2.heap.size w2 W') ∧ W'.cell? ⟨xb, 0, none⟩ = some (.int .i64 1) ∧ W'.cell? ⟨xb, 1, none⟩ = some (.int .i64 0) ∧ W'.cell? ⟨xb, 2, none⟩ = some (.string ⟨#[]⟩)) (by kernel_rfl) ?_ (fun hS => ?_)
  · exact keepC4 H0.out (below_drew _)
  clear H0
  refine takeW (i := 0) (d := 16) (v := .int .i64 0) rfl rfl (by kernel_rfl) (by kernel_rfl) (by kernel_rfl) (fun _ _ _ h => h) (by rfl) (fun w' hSw => by obtain ⟨x_, x0, x1, x2⟩ := hSw; go_simp) hS ?_
  simp only [List.setIfInBounds_toArray, List.set_cons_zero, List.set_cons_succ]
  refine takeW (i := 1) (d := 17) (v := .bool true) rfl rfl (by kernel_rfl) (by kernel_rfl) (by kernel_rfl) (fun _ _ _ h => h) (by rfl) (fun w' hSw => by obtain ⟨x_, x0, x1, x2⟩ := hSw; go_simp) hS ?_
  simp only [List.setIfInBounds_toArray, List.set_cons_zero, List.set_cons_succ]
  refine takeW (i := 2) (d := 18) (v := .bool true) rfl rfl (by kernel_rfl) (by kernel_rfl) (by kernel_rfl) (fun _ _ _ h => h) (by rfl) (fun w' hSw => by obtain ⟨x_, x0, x1, x2⟩ := hSw; go_simp) hS ?_
  simp only [List.setIfInBounds_toArray, List.set_cons_zero, List.set_cons_succ]
  refine takeW (i := 3) (d := 19) (v := .agg #[.int .i64 1, .int .i64 0, .string ⟨#[]⟩]) rfl rfl (by kernel_rfl) (by kernel_rfl) (by kernel_rfl) (fun _ _ _ h => h) (by rfl) (fun w' hSw => by obtain ⟨x_, x0, x1, x2⟩ := hSw; go_simp) hS ?_
  simp only [List.setIfInBounds_toArray, List.set_cons_zero, List.set_cons_succ]
  refine wpAnyH_ready (rs := [4]) (by kernel_rfl) (by simp) ?_
  refine AllReadyH.cons rfl (fun X hX => ?_) (AllReadyH.nil)
  rw [if_pos (by rfl)]
  go_simp
  refine (refBool_any _ _).mono ?_; rintro e w1 ⟨rfl, b1⟩; rw [show cellC 1 (boolN true) ⟨#[]⟩ = #[.int .i64 1, .int .i64 1000000, .string ⟨#[]⟩] from rfl]
  go_wp2_with fail
  refine hX.out _ _ (keepC4 hS b1) (fun hS4_4 => ?_)
  clear hX X hS b1
  refine takeW (i := 5) (d := 21) (v := .bool false) rfl rfl (by kernel_rfl) (by kernel_rfl) (by kernel_rfl) (fun _ _ _ h => h) (by rfl) (fun w' hSw => by obtain ⟨x_, x0, x1, x2⟩ := hSw; go_simp) hS4_4 ?_
  simp only [List.setIfInBounds_toArray, List.set_cons_zero, List.set_cons_succ]
  refine takeW (i := 6) (d := 22) (v := .bool false) rfl rfl (by kernel_rfl) (by kernel_rfl) (by kernel_rfl) (fun _ _ _ h => h) (by rfl) (fun w' hSw => by obtain ⟨x_, x0, x1, x2⟩ := hSw; go_simp) hS4_4 ?_
  simp only [List.setIfInBounds_toArray, List.set_cons_zero, List.set_cons_succ]
  refine takeW (i := 7) (d := 6) (v := .bool false) rfl rfl (by kernel_rfl) (by kernel_rfl) (by kernel_rfl) (fun _ _ _ h => h) (by rfl) (fun w' hSw => by obtain ⟨x_, x0, x1, x2⟩ := hSw; go_simp) hS4_4 ?_
  simp only [List.setIfInBounds_toArray, List.set_cons_zero, List.set_cons_succ]
  refine wpAnyH_done (by kernel_rfl) ?_ _
  have HEE := hS4_4.1
  clear hS4_4
  go_wp2_with fail
  go_ret
  exact ⟨rfl, Below.step B3.out HEE.out⟩

theorem is_any (H : CodeOk) (g : ByteArray) (k n : Int) (s : ByteArray) (k2 n2 : Int) (s2 : ByteArray) (hn : Fits n) (hn2 : Fits n2) (ha : fitB k n s = true) (hb : fitB k2 n2 s2 = true) (b : Bool)
    (ht : twoF g (refCmpC k n s k2 n2 s2) (numL k n s) (numL k2 n2 s2) = boolA b) (w : World) :
    Calls Try.prog 21 #[.string g, .agg (cellC k n s), .agg (cellC k2 n2 s2)] w fun e w' => e = .returned (.bool b) ∧ Below w.heap.size w w' := by
  cases b with
  | true => exact is_true H g k n s k2 n2 s2 hn hn2 ha hb ht w
  | false => exact is_false H g k n s k2 n2 s2 hn hn2 ha hb ht w
end Go.Proofs.Ytbbhcbpfffabpaa
