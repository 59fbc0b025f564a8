/- FormatDoes: for every format and all cells the law returns true: the program's Do and the document's make the same text of the same cells, or tell the same error. Conditions: none beyond the row's own (the three tables of the library that its calls read are laid as their initialisers lay them). -/
import Derived.Lib.SmallJoins
import Derived.Test.YtfhnbpilbbbckaaGreatDoorHac
import Derived.Test.YtfhnbpilbbbckaaGreatDoorHbh
/- Cells as an argument: a cell, and a slice of cells. -/
namespace Go.Proofs.YtfhnbpilbbbckaaGreatDoor
open Go.ChangeShapes Go.WideShapes Go.ChangeAt Go.RowKit Go.ChangeMaps

theorem laid_out : laidOutB Tryz.prog = true := by kernel_rfl
theorem cells_cell : Tryz.prog.cellsOf 30 = 3 := by kernel_rfl

set_option maxRecDepth 100000 in
theorem open_cell {H : Type} {enc : TypeId × Value → H} {W : World} {base b0 : Nat} {sp : Nat → Bool} {hd : Bool} {v : Value} {d : DataW H} {p : List MemPlace} (hv : Value.okWide Tryz.prog W .any b0 30 v) (h : DataW.Trod enc Tryz.prog W base sp hd 30 v d p) :
    ∃ (k n : Int) (s : ByteArray), v = .agg #[.int .i64 k, .int .i64 n, .string s] ∧ d = .agg [.lit (.int .i64 k), .lit (.int .i64 n), .lit (.string s.data.toList)] ∧ p = [] ∧ (Lit.int .i64 k).wf = true ∧ (Lit.int .i64 n).wf = true ∧ s.size ≤ maxLen := by
  obtain ⟨c0, c1, c2, y0, y1, y2, m, rfl, rfl, rfl, hy0, hy1, hy2⟩ := Joins.open_agg3 Tryz.underlying30 (by kernel_rfl) cells_cell hv h
  obtain ⟨k, e0, rfl, w0⟩ := DataW.trod_int Tryz.underlying3 hy0
  obtain ⟨n, e1, rfl, w1⟩ := DataW.trod_int Tryz.underlying2 hy1
  obtain ⟨s, e2, rfl, w2⟩ := DataW.trod_string Tryz.underlying9 hy2
  simp at e0 e1 e2
  subst e0 e1 e2
  exact ⟨k, n, s, rfl, rfl, rfl, w0, w1, w2⟩

theorem shut_cell {H : Type} {enc : TypeId × Value → H} {W : World} {base : Nat} {sp : Nat → Bool} {hd : Bool} {k n : Int} {s : ByteArray} (wk : (Lit.int .i64 k).wf = true) (wn : (Lit.int .i64 n).wf = true) (ws : s.size ≤ maxLen) :
    DataW.Trod enc Tryz.prog W base sp hd 30 (.agg #[.int .i64 k, .int .i64 n, .string s]) (.agg [.lit (.int .i64 k), .lit (.int .i64 n), .lit (.string s.data.toList)]) [] := by
  simpa using Joins.shut_agg3 (enc := enc) (w := W) (base := base) (spare := sp) (held := hd) (y0 := (.lit (.int .i64 k), [])) (y1 := (.lit (.int .i64 n), [])) (y2 := (.lit (.string s.data.toList), [])) Tryz.underlying30 (by kernel_rfl) cells_cell
    ⟨1, by simp [DataW.trod, Tryz.underlying3, wk]⟩ ⟨1, by simp [DataW.trod, Tryz.underlying2, wn]⟩ ⟨1, by simp [DataW.trod, Tryz.underlying9, ws]⟩

theorem spot_none {w : World} {a : Addr} {v : Value} (h : w.cell? a = some v) : a.spot = none := by
  unfold World.cell? at h
  split at h
  · split at h
    · exact absurd h (by simp)
    · rename_i hs
      simpa using hs
  · exact absurd h (by simp)
theorem add_flat (a : Addr) (h : a.spot = none) (n : Nat) : a.add n = ⟨a.block, a.off + n, none⟩ := by
  obtain ⟨b, o, s⟩ := a
  simp only at h
  subst h
  unfold Addr.add
  split
  · rename_i e; rw [e]; rfl
  · rfl

theorem cells_int : Tryz.prog.cellsOf 3 = 1 := by kernel_rfl
theorem cells_int64 : Tryz.prog.cellsOf 2 = 1 := by kernel_rfl
theorem cells_string : Tryz.prog.cellsOf 9 = 1 := by kernel_rfl
section
variable {H : Type} {enc : TypeId × Value → H} {W : World} {base : Nat} {sp : Nat → Bool} {hd : Bool}
set_option maxRecDepth 100000 in
theorem open_cell_at {n : Nat} {cs : List Value} {x : DataW H × List MemPlace} (h : DataW.trod enc Tryz.prog W base sp hd n 30 cs = some x) :
    ∃ c : Cel, cs = [.int .i64 c.k, .int .i64 c.n, .string c.s] ∧ T3.Fits c.n := by
  obtain ⟨xs, m, rfl, _, hlen, hxl, hf⟩ := DataW.trod_struct Tryz.underlying30 h
  rw [cells_cell] at hlen
  match cs, hlen with
  | [v0, v1, v2], _ =>
    have hxl' : xs.length = 3 := hxl
    match xs, hxl' with
    | [y0, y1, y2], _ =>
      have g0 := hf 0 _ rfl
      have g1 := hf 1 _ rfl
      have g2 := hf 2 _ rfl
      have h0 : DataW.trod enc Tryz.prog W base sp hd m 3 (([v0, v1, v2].drop 0).take (Tryz.prog.cellsOf 3)) = some y0 := g0
      have h1 : DataW.trod enc Tryz.prog W base sp hd m 2 (([v0, v1, v2].drop 1).take (Tryz.prog.cellsOf 2)) = some y1 := g1
      have h2 : DataW.trod enc Tryz.prog W base sp hd m 9 (([v0, v1, v2].drop 2).take (Tryz.prog.cellsOf 9)) = some y2 := g2
      rw [cells_int] at h0
      rw [cells_int64] at h1
      rw [cells_string] at h2
      obtain ⟨k, e0, _, _⟩ := DataW.trod_int Tryz.underlying3 h0
      obtain ⟨n, e1, _, w1⟩ := DataW.trod_int Tryz.underlying2 h1
      obtain ⟨s, e2, _, _⟩ := DataW.trod_string Tryz.underlying9 h2
      simp at e0 e1 e2
      subst e0 e1 e2
      exact ⟨⟨k, n, s⟩, rfl, wf_fits w1⟩

set_option maxRecDepth 100000 in
theorem open_cells {v : Value} {d : DataW H} {p : List MemPlace} {b0 : Nat} (hv : Value.okWide Tryz.prog W .any b0 22 v) (h : DataW.Trod enc Tryz.prog W base sp hd 22 v d p) :
    ∃ (q : Option Addr) (n cap : Nat) (l : List Cel), v = .slice q n cap ∧ ArgC W q n l := by
  obtain ⟨a0, n0, c0, rfl⟩ := okWide_slice Tryz.underlying22 hv
  obtain ⟨fuel, hf⟩ := h
  have hf' : DataW.trod enc Tryz.prog W base sp hd fuel 22 [.slice a0 n0 c0] = some (d, p) := by simpa [Value.cells] using hf
  rcases DataW.trod_slice Tryz.underlying22 hf' with ⟨e7, _⟩ | ⟨a, len, cap, elems, rest, m', hm, e7, _, _, hl, hc, hel, hat, _⟩
  · injection e7 with e7
    injection e7 with e1 e2 e3
    subst e1 e2 e3
    exact ⟨none, 0, 0, [], rfl, ⟨by omega, rfl, Or.inl rfl, fun c hc => absurd hc (by simp)⟩⟩
  · injection e7 with e7
    injection e7 with e1 e2 e3
    subst e1 e2 e3
    have each : ∀ i, ∃ c : Cel, i < n0 → (∀ j, j < 3 → W.cell? ((a.add (i * 3)).add j) = #[Value.int .i64 c.k, Value.int .i64 c.n, Value.string c.s][j]?) ∧ T3.Fits c.n := by
      intro i
      by_cases hi : i < n0
      · have h5 := hat i hi
        rw [cells_cell, List.getElem?_eq_getElem (by omega)] at h5
        obtain ⟨cs', hcs, ht⟩ := Option.bind_eq_some_iff.1 h5
        obtain ⟨c, rfl, hfit⟩ := open_cell_at ht
        obtain ⟨_, _, hget⟩ := World.cells?_some hcs
        exact ⟨c, fun _ => ⟨fun j hj => by rw [hget j hj]; simp, hfit⟩⟩
      · exact ⟨noCel, fun h => absurd h hi⟩
    obtain ⟨q, hq⟩ := Classical.axiomOfChoice each
    have hbig : n0 ≤ 9223372036854775807 := by simp only [maxLen] at hc; omega
    obtain ⟨l, hl'⟩ : ∃ l : List Cel, l = (List.range n0).map q := ⟨_, rfl⟩
    have hll : l.length = n0 := by rw [hl']; simp
    refine ⟨some a, n0, c0, l, rfl, ⟨hbig, hll.symm, ?_, ?_⟩⟩
    · by_cases h0 : n0 = 0
      · exact Or.inl (List.eq_nil_of_length_eq_zero (by omega))
      · have hsp : a.spot = none := by
          obtain ⟨h6, _⟩ := hq 0 (by omega)
          have h10 := spot_none (h6 0 (by omega))
          simpa [Addr.add] using h10
        refine Or.inr ⟨a.block, a.off, ?_, fun i c hi => ?_⟩
        · have h := add_flat a hsp 0
          have e : a.add 0 = a := by simp [Addr.add]
          rw [e] at h
          exact congrArg some h
        · have hin : i < n0 := by rw [← hll]; exact (List.getElem?_eq_some_iff.1 hi).1
          have ec : c = q i := by
            rw [hl', List.getElem?_map, List.getElem?_range hin] at hi
            injection hi with hi
            exact hi.symm
          subst ec
          obtain ⟨h6, _⟩ := hq i hin
          have k : ∀ j, j < 3 → W.cell? ⟨a.block, a.off + i * 3 + j, none⟩ = #[Value.int .i64 (q i).k, Value.int .i64 (q i).n, Value.string (q i).s][j]? := fun j hj => by
            have h := h6 j hj
            rw [add_flat a hsp, add_flat _ rfl] at h
            exact h
          exact ⟨k 0 (by omega), k 1 (by omega), k 2 (by omega)⟩
    · intro c hc'
      rw [hl'] at hc'
      obtain ⟨i, hi, rfl⟩ := List.mem_map.1 hc'
      exact (hq i (by simpa using hi)).2
end
end Go.Proofs.YtfhnbpilbbbckaaGreatDoor

/- FormatDoes: a walk. -/
namespace Go.Proofs.YtfhnbpilbbbckaaGreatDoor
open Go.RowKit

set_option maxRecDepth 100000 in
set_option maxHeartbeats 2000000 in
theorem walkDoes (f : ByteArray) (l : List Cel) (p : Option Addr) (n cap : Nat) (w : World) (hA : ArgC w p n l) (hE : Env w) :
    Calls Tryz.prog 3 #[.string f, .slice p n cap] w fun e w' => e = .returned (.bool true) ∧ Below w.heap.size w w' := by
  have HL := Lib.hid (fun (W : World) (hb : Below w.heap.size w W) => lives_any W (hE.after hb))
  have HE := Lib.hid (fun (W : World) (hb : Below w.heap.size w W) => hE.after hb)
  by_cases h100 : 100 < f.size
  · have d1 : decide ((100 : Int) < (f.size : Int)) = true := decide_eq_true (by omega)
    go_enter Tryz.func3, Tryz.ntmps3
    go_wp2_with fail
    refine (HL.out _ (Below.refl _ _)).mono ?_
    rintro e w1 ⟨rfl, b1⟩
    have B1 := Lib.hid b1
    clear b1
    go_wp2_with fail
    go_ret
    exact ⟨rfl, B1.out⟩
  have d1 : decide ((100 : Int) < (f.size : Int)) = false := decide_eq_false (by omega)
  have hf : f.size ≤ 1000 := by omega
  have HC := Lib.hid (lawCells_any l p n cap w hA.big hA.len hA.cells)
  have hok := pick_ok hA.fits
  have hpl := pick_len l
  unfold CellsOut at HC
  obtain ⟨L, hL⟩ : ∃ L, L = pickC l := ⟨_, rfl⟩
  rw [← hL] at HC hok hpl
  obtain ⟨N, hN⟩ : ∃ N, N = L.length := ⟨_, rfl⟩
  rw [← hN] at HC hpl
  obtain ⟨R, hR⟩ : ∃ R, R = doL f.data.toList L := ⟨_, rfl⟩
  have HDo : Hid (∀ (q : Option Addr) (c : Nat) (W : World), Below w.heap.size w W → CellsAt W q N c L → (∀ a, q = some a → a.block < W.heap.size) → Calls Tryz.prog 8 #[.string f, .slice q N c] W (StrErr R W)) := Lib.hid (fun q c W hb hC hlow => by
    rw [hR]; exact doP_text f hf L q N c W (HE.out W hb) hC hlow (Fed.all hok _))
  have HRe : Hid (∀ (q : Option Addr) (c : Nat) (W : World), CellsAt W q N c L → Calls Tryz.prog 9 #[.string f, .slice q N c] W (StrErr R W)) := Lib.hid (fun q c W hC => by
    rw [hR]; exact refDo_any f hf L q N c W hC hok)
  have HN := Lib.hid hN
  clear hok hL hN hR hA h100 hE
  obtain ⟨s, x⟩ := R
  go_enter Tryz.func3, Tryz.ntmps3
  go_wp2_with fail
  refine HC.out.mono ?_
  rintro e w1 ⟨q, c, rfl, ho, b1⟩
  have C1 := Lib.hid (own_read ho.out HN.out)
  have B1 := Lib.hid b1
  clear ho b1
  go_wp2_with (at_builtin; (refine wp_copy_cells rfl _ _ rfl w1 q N c L rfl rfl C1.out (by omega) ?_; intro p' c' w3 h3))
  have C3 := Lib.hid h3.out.1
  have L3 := Lib.hid h3.out.2.1
  have B13 := Lib.hid h3.out.2.2.1
  have B3 := Lib.hid (Below.step B1.out h3.out.2.2.1)
  clear h3
  go_wp2_with fail
  refine (HDo.out _ _ _ B3.out C3.out L3.out).mono ?_
  rintro e w4 ⟨rfl, b4⟩
  have B4 := Lib.hid (Below.step B3.out b4)
  have C4 := Lib.hid (C1.out.below (Below.step B13.out b4))
  clear b4 B13
  go_wp2_with fail
  refine (HRe.out _ _ _ C4.out).mono ?_
  rintro e w5 ⟨rfl, b5⟩
  have B5 := Lib.hid (Below.step B4.out b5)
  clear b5
  go_wp2_with fail
  refine (HL.out _ B5.out).mono ?_
  rintro e w6 ⟨rfl, b6⟩
  have B6 := Lib.hid (Below.step B5.out b6)
  clear b6
  go_wp2_with fail
  go_ret
  exact ⟨rfl, B6.out⟩
end Go.Proofs.YtfhnbpilbbbckaaGreatDoor

namespace Go.Proofs.YtfhnbpilbbbckaaGreatDoor.formatDoes
open Go.ChangeShapes Go.WideShapes Go.ChangeAt Go.RowKit Go.ChangeMaps

theorem laid_met (os : Os) : laidMet Tryz.prog Rows.formatDoesRow.laid ((laidWorld os).forCall (fun _ _ => 0) ⟨#[], #[.string ⟨#[]⟩, .slice none 0 0], []⟩).memory :=
  laidMet_of_run' 8 (by kernel_rfl) (by kernel_rfl)
theorem reads (os : Os) {H : Type} (enc : TypeId × Value → H) : ∃ places, DataW.whole enc Tryz.prog ((laidWorld os).forCall (fun _ _ => 0) ⟨#[], #[.string ⟨#[]⟩, .slice none 0 0], []⟩).memory Tryz.f3.params.toList Rows.formatDoesSpec.vars false #[.string ⟨#[]⟩, .slice none 0 0].toList 8 = some ([.lit (.string []), .nil], [], places) :=
  ⟨[], by kernel_rfl⟩

set_option maxRecDepth 100000 in
theorem lifted (os : Os) (started : os.Started) (H : Type) (enc : TypeId × Value → H) (F : Stop.Interp) :
    ReturnsInHanded {} Tryz.checked os 3 .any ((OpenSpec.ofChange Rows.formatDoesSpec).preRow enc Tryz.prog Tryz.f3 Rows.formatDoesRow.domain false Rows.formatDoesRow.laid) (((OpenSpec.ofChange Rows.formatDoesSpec).at F).post enc Tryz.prog Tryz.f3 false true false false) := by
  obtain ⟨places, hx⟩ := reads os enc
  refine returnsInHanded_of_row (C := Tryz.checked) (s := (OpenSpec.ofChange Rows.formatDoesSpec)) own started (by kernel_rfl) Tryz.func3
    (witness_row_at (enc := enc) (C := Tryz.checked) false (laidWorld os) #[.string ⟨#[]⟩, .slice none 0 0] rfl (by kernel_rfl) (by kernel_rfl) (by kernel_rfl)
      (OpenSpec.preRow_of_cond 8 hx (by kernel_rfl) (fun k hk => by cases hk) (by kernel_rfl) (laid_met os))) ?_
  intro W base args ds gs before hval0 hW _ _ _ hlaid hsh _
  have hE : Env W := env_of hlaid hsh
  have hval : ∀ (j : Nat) t v, Tryz.f3.params[j]? = some t → args[j]? = some v → Value.okWide Tryz.prog W .any base t v := hval0
  have hW' := hW
  obtain ⟨p, q, hA0, hV, rfl, hfz, hnd⟩ := hW
  have hA : DataW.TrodAll enc Tryz.prog W 0 (fun _ => true) true Tryz.f3.params.toList args.toList ds p := hA0
  rw [Tryz.params3] at hA hval
  obtain ⟨v0, vs0, d0, ds0, p0, q0, hargs, rfl, rfl, h0, r0⟩ := trodAll_cons hA
  obtain ⟨v1, vs1, d1, ds1, p1, q1, rfl, rfl, rfl, h1, r1⟩ := trodAll_cons r0
  obtain ⟨rfl, rfl, rfl⟩ := trodAll_nil r1
  obtain rfl : args = #[v0, v1] := by cases args; simp_all
  obtain ⟨rfl, rfl⟩ := trodVars_none hV
  obtain ⟨a0, rfl, rfl, rfl, w0⟩ := open_string Tryz.underlying9 (hval 0 9 v0 rfl rfl) h0
  have hk1 := h1
  obtain ⟨a1, n1, c1, l1, rfl, w1⟩ := open_cells (hval 1 22 v1 rfl rfl) h1
  clear hA0 hval0
  simp only [List.append_nil, List.nil_append] at hW'
  refine (walkDoes a0 l1 a1 n1 c1 W w1 hE).mono fun e W' ⟨he, hg⟩ => ?_
  subst he
  have hlt : ∀ x ∈ p1, x.block < W.heap.size := fun x hx => hW'.lt x hx
  exact ⟨_, rfl, post_reads hW' (fun _ _ _ => (trodAll_cons_mk (shut_bool Tryz.underlying4 _) trodAll_mk0)) (fun sp hsp => by
    have h := (trodAll_cons_mk (shut_string Tryz.underlying9 w0) (trodAll_cons_mk (Go.WideElems.Trod_stays laid_out (by kernel_rfl) (of_decide_eq_true (by kernel_rfl)) hk1 (fun x hx => hg.same (hlt x hx)) hsp) (trodAll_mk0 (enc := enc) (P := Tryz.prog) (w := W') (base := 0) (spare := sp) (held := true))))
    simp only [List.append_nil, List.nil_append] at h
    exact h) (fun _ => rfl) hg⟩

theorem said : Rows.FormatDoesSaid :=
  OpenClaim.holds_of_cond 3 Tryz.f3 rfl rfl rfl rfl rfl rfl rfl ⟨rfl, rfl, rfl, rfl, rfl⟩ rfl rfl rfl rfl rfl (by kernel_rfl) Tryz.func3 (by kernel_rfl)
    (of_decide_eq_true (by kernel_rfl)) (by unfold Func.isWrapper; first | (rw [if_pos (by decide +kernel)]; kernel_rfl) | (rw [if_neg (by decide +kernel)]; exact ⟨rfl, rfl⟩))
    (fun os started H enc _ F => by rw [OpenClaim.pre_eq_preRow]; exact lifted os started H enc F)

theorem plain (f : FuncId) (fn : Func) (hf : Tryz.pinned.checked.prog.funcNamed "auklet/aukletlaw10.FormatDoes" = some f) (hfn : Tryz.pinned.checked.prog.funcs[f]? = some fn) :
    false = Tryz.pinned.checked.prog.looks [] ∧ ∀ (j : Nat) t, fn.params[j]? = some t → Tryz.pinned.checked.prog.wantsStandIn t = false := by
  obtain rfl : f = 3 := Option.some.inj ((show Tryz.prog.funcNamed "auklet/aukletlaw10.FormatDoes" = some 3 by kernel_rfl).symm.trans hf) |>.symm
  obtain rfl : fn = Tryz.f3 := (Option.some.inj (Tryz.func3.symm.trans hfn)).symm
  refine ⟨by kernel_rfl, fun j t ht => ?_⟩
  rw [Tryz.params3] at ht
  have hm := Array.mem_of_getElem? ht
  simp only [List.mem_toArray, List.mem_cons, List.mem_nil_iff, or_false] at hm
  rcases hm with rfl | rfl
  · exact (show Tryz.prog.wantsStandIn 9 = false by kernel_rfl)
  · exact (show Tryz.prog.wantsStandIn 22 = false by kernel_rfl)

theorem proved : Rows.FormatDoesCardSaid :=
  Claim7.holds_tied_plain_at .later [] _ _ _ _ said (fun _ h => by cases h) (by kernel_rfl) (fun _ h => by cases h) formatDoes_row_tie rfl ⟨rfl, rfl⟩ (by kernel_rfl) rfl plain (by kernel_rfl)
#print axioms proved
end Go.Proofs.YtfhnbpilbbbckaaGreatDoor.formatDoes
