/- Files, acts, texts as arguments of plain rows (gen_p17.py). -/
import Derived.Test.YtpifpokbkjddjaaS17G
import Derived.ProofKit
import Derived.OpenShut
import Derived.HandedShaped
import Derived.SizedLaws
import Derived.Deep.DeepHandedRow
import Derived.Lib.SmallJoins
namespace Go.Proofs.Ytpifpokbkjddjaa
open Go.ChangeShapes Go.WideShapes Go.ChangeAt Go.RowKit Go.ChangeMaps

theorem laid_out : laidOutB Try.prog = true := by kernel_rfl
theorem spot_none {w : World} {a : Addr} {v : Value} (h : w.cell? a = some v) : a.spot = none := by
  unfold World.cell? at h
  split at h
  · split at h
    · exact absurd h (by simp)
    · rename_i hs
      simpa using hs
  · exact absurd h (by simp)
theorem add_flat (a : Addr) (h : a.spot = none) (n : Nat) : a.add n = ⟨a.block, a.off + n, none⟩ := by
  obtain ⟨b, o, s⟩ := a
  simp only at h
  subst h
  unfold Addr.add
  split
  · rename_i e; rw [e]; rfl
  · rfl
theorem cells_int : Try.prog.cellsOf 3 = 1 := by kernel_rfl
theorem cells_string : Try.prog.cellsOf 9 = 1 := by kernel_rfl
theorem cells_bool : Try.prog.cellsOf 4 = 1 := by kernel_rfl
theorem cells_u8 : Try.prog.cellsOf 5 = 1 := by kernel_rfl
theorem cells_file : Try.prog.cellsOf 42 = 2 := by kernel_rfl
theorem cells_act : Try.prog.cellsOf 28 = 5 := by kernel_rfl
theorem wf_i64 {a : Int} (h : (Lit.int .i64 a).wf = true) : -9223372036854775808 ≤ a ∧ a ≤ 9223372036854775807 := by
  have e1 : IntKind.i64.min = -9223372036854775808 := by decide
  have e2 : IntKind.i64.max = 9223372036854775807 := by decide
  simp [Lit.wf, e1, e2] at h
  omega
theorem wf_u8 {a : Int} (h : (Lit.int .u8 a).wf = true) : 0 ≤ a ∧ a ≤ 255 := by
  have e1 : IntKind.u8.min = 0 := by decide
  have e2 : IntKind.u8.max = 255 := by decide
  simp [Lit.wf, e1, e2] at h
  omega
section
variable {H : Type} {enc : TypeId × Value → H} {W : World} {base : Nat} {sp : Nat → Bool} {hd : Bool}
set_option maxRecDepth 100000 in
theorem open_file_at {n : Nat} {cs : List Value} {x : DataW H × List MemPlace} (h : DataW.trod enc Try.prog W base sp hd n 42 cs = some x) :
    ∃ c : ByteArray × ByteArray, cs = [.string c.1, .string c.2] := by
  obtain ⟨xs, m, rfl, _, hlen, hxl, hf⟩ := DataW.trod_struct Try.underlying42 h
  rw [cells_file] at hlen
  match cs, hlen with
  | [v0, v1], _ =>
    have hxl' : xs.length = 2 := hxl
    match xs, hxl' with
    | [y0, y1], _ =>
      have g0 := hf 0 _ rfl
      have g1 := hf 1 _ rfl
      have h0 : DataW.trod enc Try.prog W base sp hd m 9 (([v0, v1].drop 0).take (Try.prog.cellsOf 9)) = some y0 := g0
      have h1 : DataW.trod enc Try.prog W base sp hd m 9 (([v0, v1].drop 1).take (Try.prog.cellsOf 9)) = some y1 := g1
      rw [cells_string] at h0
      rw [cells_string] at h1
      obtain ⟨a0, e0, _, _⟩ := DataW.trod_string Try.underlying9 h0
      obtain ⟨a1, e1, _, _⟩ := DataW.trod_string Try.underlying9 h1
      simp at e0 e1
      subst e0 e1
      exact ⟨(a0, a1), rfl⟩

set_option maxRecDepth 100000 in
theorem open_act_at {n : Nat} {cs : List Value} {x : DataW H × List MemPlace} (h : DataW.trod enc Try.prog W base sp hd n 28 cs = some x) :
    ∃ c : Ac, cs = [.int .i64 c.k, .string c.name, .string c.s, .bool c.more, .int .u8 c.many] ∧ AcOk c := by
  obtain ⟨xs, m, rfl, _, hlen, hxl, hf⟩ := DataW.trod_struct Try.underlying28 h
  rw [cells_act] at hlen
  match cs, hlen with
  | [v0, v1, v2, v3, v4], _ =>
    have hxl' : xs.length = 5 := hxl
    match xs, hxl' with
    | [y0, y1, y2, y3, y4], _ =>
      have g0 := hf 0 _ rfl
      have g1 := hf 1 _ rfl
      have g2 := hf 2 _ rfl
      have g3 := hf 3 _ rfl
      have g4 := hf 4 _ rfl
      have h0 : DataW.trod enc Try.prog W base sp hd m 3 (([v0, v1, v2, v3, v4].drop 0).take (Try.prog.cellsOf 3)) = some y0 := g0
      have h1 : DataW.trod enc Try.prog W base sp hd m 9 (([v0, v1, v2, v3, v4].drop 1).take (Try.prog.cellsOf 9)) = some y1 := g1
      have h2 : DataW.trod enc Try.prog W base sp hd m 9 (([v0, v1, v2, v3, v4].drop 2).take (Try.prog.cellsOf 9)) = some y2 := g2
      have h3 : DataW.trod enc Try.prog W base sp hd m 4 (([v0, v1, v2, v3, v4].drop 3).take (Try.prog.cellsOf 4)) = some y3 := g3
      have h4 : DataW.trod enc Try.prog W base sp hd m 5 (([v0, v1, v2, v3, v4].drop 4).take (Try.prog.cellsOf 5)) = some y4 := g4
      rw [cells_int] at h0
      rw [cells_string] at h1
      rw [cells_string] at h2
      rw [cells_bool] at h3
      rw [cells_u8] at h4
      obtain ⟨a0, e0, _, w0⟩ := DataW.trod_int Try.underlying3 h0
      obtain ⟨a1, e1, _, _⟩ := DataW.trod_string Try.underlying9 h1
      obtain ⟨a2, e2, _, _⟩ := DataW.trod_string Try.underlying9 h2
      obtain ⟨a3, e3, _⟩ := DataW.trod_bool Try.underlying4 h3
      obtain ⟨a4, e4, _, w4⟩ := DataW.trod_int Try.underlying5 h4
      simp at e0 e1 e2 e3 e4
      subst e0 e1 e2 e3 e4
      exact ⟨⟨a0, a1, a2, a3, a4⟩, rfl, wf_i64 w0, wf_u8 w4⟩

theorem open_txt_at {n : Nat} {cs : List Value} {x : DataW H × List MemPlace} (h : DataW.trod enc Try.prog W base sp hd n 9 cs = some x) :
    ∃ c : ByteArray, cs = [.string c] := by
  obtain ⟨a0, e0, _, _⟩ := DataW.trod_string Try.underlying9 h
  exact ⟨a0, e0⟩

set_option maxRecDepth 100000 in
theorem open_files {v : Value} {d : DataW H} {p : List MemPlace} {b0 : Nat} (hv : Value.okWide Try.prog W .any b0 22 v) (h : DataW.Trod enc Try.prog W base sp hd 22 v d p) :
    ∃ (q : Option Addr) (n cap : Nat) (l : List (ByteArray × ByteArray)), v = .slice q n cap ∧ FilesAt W q n cap l := by
  obtain ⟨a0, n0, c0, rfl⟩ := okWide_slice Try.underlying22 hv
  obtain ⟨fuel, hf⟩ := h
  have hf' : DataW.trod enc Try.prog W base sp hd fuel 22 [.slice a0 n0 c0] = some (d, p) := by simpa [Value.cells] using hf
  rcases DataW.trod_slice Try.underlying22 hf' with ⟨e7, _⟩ | ⟨a, len, cap, elems, rest, m', hm, e7, _, _, hl, hc, hel, hat, _⟩
  · injection e7 with e7
    injection e7 with e1 e2 e3
    subst e1 e2 e3
    exact ⟨none, 0, 0, [], rfl, ⟨rfl, Nat.le_refl _, by omega, fun _ => rfl, Or.inl rfl⟩⟩
  · injection e7 with e7
    injection e7 with e1 e2 e3
    subst e1 e2 e3
    have each : ∀ i, ∃ c : ByteArray × ByteArray, i < n0 → (∀ j, j < 2 → W.cell? ((a.add (i * 2)).add j) = #[Value.string c.1, Value.string c.2][j]?) := by
      intro i
      by_cases hi : i < n0
      · have h5 := hat i hi
        rw [cells_file, List.getElem?_eq_getElem (by omega)] at h5
        obtain ⟨cs', hcs, ht⟩ := Option.bind_eq_some_iff.1 h5
        obtain ⟨c, rfl⟩ := open_file_at ht
        obtain ⟨_, _, hget⟩ := World.cells?_some hcs
        exact ⟨c, fun _ => fun j hj => by rw [hget j hj]; simp⟩
      · exact ⟨(⟨#[]⟩, ⟨#[]⟩), fun h => absurd h hi⟩
    obtain ⟨q, hq⟩ := Classical.axiomOfChoice each
    have hbig : n0 ≤ 9223372036854775807 := by simp only [maxLen] at hc; omega
    obtain ⟨l, hl'⟩ : ∃ l : List (ByteArray × ByteArray), l = (List.range n0).map q := ⟨_, rfl⟩
    have hll : l.length = n0 := by rw [hl']; simp
    have hcells : l = [] ∨ ∃ b off, some a = some (⟨b, off, none⟩ : Addr) ∧ ∀ i c, l[i]? = some c → W.cell? ⟨b, off + i * 2, none⟩ = some (.string c.1) ∧ W.cell? ⟨b, off + i * 2 + 1, none⟩ = some (.string c.2) := by
      by_cases h0 : n0 = 0
      · exact Or.inl (List.eq_nil_of_length_eq_zero (by omega))
      · have hsp : a.spot = none := by
          have h6 := hq 0 (by omega)
          have h10 := spot_none ((h6 0 (by omega)).trans rfl)
          simpa [Addr.add] using h10
        refine Or.inr ⟨a.block, a.off, ?_, fun i c hi => ?_⟩
        · have h := add_flat a hsp 0
          have e : a.add 0 = a := by simp [Addr.add]
          rw [e] at h
          exact congrArg some h
        · have hin : i < n0 := by rw [← hll]; exact (List.getElem?_eq_some_iff.1 hi).1
          have ec : c = q i := by
            rw [hl', List.getElem?_map, List.getElem?_range hin] at hi
            injection hi with hi
            exact hi.symm
          subst ec
          have h6 := hq i hin
          have k : ∀ j, j < 2 → W.cell? ⟨a.block, a.off + i * 2 + j, none⟩ = #[Value.string (q i).1, Value.string (q i).2][j]? := fun j hj => by
            have h := h6 j hj
            rw [add_flat a hsp, add_flat _ rfl] at h
            exact h
          exact ⟨k 0 (by omega), k 1 (by omega)⟩
    exact ⟨some a, n0, c0, l, rfl, ⟨hll.symm, hl, by simp only [maxLen] at hc; omega, fun e => absurd e (by simp), hcells⟩⟩

set_option maxRecDepth 100000 in
theorem open_acts {v : Value} {d : DataW H} {p : List MemPlace} {b0 : Nat} (hv : Value.okWide Try.prog W .any b0 23 v) (h : DataW.Trod enc Try.prog W base sp hd 23 v d p) :
    ∃ (q : Option Addr) (n cap : Nat) (l : List (Ac)), v = .slice q n cap ∧ ActsAt W q n cap l := by
  obtain ⟨a0, n0, c0, rfl⟩ := okWide_slice Try.underlying23 hv
  obtain ⟨fuel, hf⟩ := h
  have hf' : DataW.trod enc Try.prog W base sp hd fuel 23 [.slice a0 n0 c0] = some (d, p) := by simpa [Value.cells] using hf
  rcases DataW.trod_slice Try.underlying23 hf' with ⟨e7, _⟩ | ⟨a, len, cap, elems, rest, m', hm, e7, _, _, hl, hc, hel, hat, _⟩
  · injection e7 with e7
    injection e7 with e1 e2 e3
    subst e1 e2 e3
    exact ⟨none, 0, 0, [], rfl, ⟨rfl, Nat.le_refl _, by omega, Or.inl rfl, fun c hc => absurd hc (by simp)⟩⟩
  · injection e7 with e7
    injection e7 with e1 e2 e3
    subst e1 e2 e3
    have each : ∀ i, ∃ c : Ac, i < n0 → (∀ j, j < 5 → W.cell? ((a.add (i * 5)).add j) = #[Value.int .i64 c.k, Value.string c.name, Value.string c.s, Value.bool c.more, Value.int .u8 c.many][j]?) ∧ AcOk c := by
      intro i
      by_cases hi : i < n0
      · have h5 := hat i hi
        rw [cells_act, List.getElem?_eq_getElem (by omega)] at h5
        obtain ⟨cs', hcs, ht⟩ := Option.bind_eq_some_iff.1 h5
        obtain ⟨c, rfl, hok⟩ := open_act_at ht
        obtain ⟨_, _, hget⟩ := World.cells?_some hcs
        exact ⟨c, fun _ => ⟨fun j hj => by rw [hget j hj]; simp, hok⟩⟩
      · exact ⟨⟨0, ⟨#[]⟩, ⟨#[]⟩, false, 0⟩, fun h => absurd h hi⟩
    obtain ⟨q, hq⟩ := Classical.axiomOfChoice each
    have hbig : n0 ≤ 9223372036854775807 := by simp only [maxLen] at hc; omega
    obtain ⟨l, hl'⟩ : ∃ l : List (Ac), l = (List.range n0).map q := ⟨_, rfl⟩
    have hll : l.length = n0 := by rw [hl']; simp
    have hcells : l = [] ∨ ∃ b off, some a = some (⟨b, off, none⟩ : Addr) ∧ ∀ i c, l[i]? = some c → W.cell? ⟨b, off + i * 5, none⟩ = some (.int .i64 c.k) ∧ W.cell? ⟨b, off + i * 5 + 1, none⟩ = some (.string c.name) ∧ W.cell? ⟨b, off + i * 5 + 2, none⟩ = some (.string c.s) ∧ W.cell? ⟨b, off + i * 5 + 3, none⟩ = some (.bool c.more) ∧ W.cell? ⟨b, off + i * 5 + 4, none⟩ = some (.int .u8 c.many) := by
      by_cases h0 : n0 = 0
      · exact Or.inl (List.eq_nil_of_length_eq_zero (by omega))
      · have hsp : a.spot = none := by
          have h6 := (hq 0 (by omega)).1
          have h10 := spot_none ((h6 0 (by omega)).trans rfl)
          simpa [Addr.add] using h10
        refine Or.inr ⟨a.block, a.off, ?_, fun i c hi => ?_⟩
        · have h := add_flat a hsp 0
          have e : a.add 0 = a := by simp [Addr.add]
          rw [e] at h
          exact congrArg some h
        · have hin : i < n0 := by rw [← hll]; exact (List.getElem?_eq_some_iff.1 hi).1
          have ec : c = q i := by
            rw [hl', List.getElem?_map, List.getElem?_range hin] at hi
            injection hi with hi
            exact hi.symm
          subst ec
          have h6 := (hq i hin).1
          have k : ∀ j, j < 5 → W.cell? ⟨a.block, a.off + i * 5 + j, none⟩ = #[Value.int .i64 (q i).k, Value.string (q i).name, Value.string (q i).s, Value.bool (q i).more, Value.int .u8 (q i).many][j]? := fun j hj => by
            have h := h6 j hj
            rw [add_flat a hsp, add_flat _ rfl] at h
            exact h
          exact ⟨k 0 (by omega), k 1 (by omega), k 2 (by omega), k 3 (by omega), k 4 (by omega)⟩
    exact ⟨some a, n0, c0, l, rfl, ⟨hll.symm, hl, by simp only [maxLen] at hc; omega, hcells, fun c hc' => by
      rw [hl'] at hc'
      obtain ⟨i, hi, rfl⟩ := List.mem_map.1 hc'
      exact (hq i (by simpa using hi)).2⟩⟩

set_option maxRecDepth 100000 in
theorem open_txts {v : Value} {d : DataW H} {p : List MemPlace} {b0 : Nat} (hv : Value.okWide Try.prog W .any b0 40 v) (h : DataW.Trod enc Try.prog W base sp hd 40 v d p) :
    ∃ (q : Option Addr) (n cap : Nat) (l : List (ByteArray)), v = .slice q n cap ∧ TxtsAt W q n cap l := by
  obtain ⟨a0, n0, c0, rfl⟩ := okWide_slice Try.underlying40 hv
  obtain ⟨fuel, hf⟩ := h
  have hf' : DataW.trod enc Try.prog W base sp hd fuel 40 [.slice a0 n0 c0] = some (d, p) := by simpa [Value.cells] using hf
  rcases DataW.trod_slice Try.underlying40 hf' with ⟨e7, _⟩ | ⟨a, len, cap, elems, rest, m', hm, e7, _, _, hl, hc, hel, hat, _⟩
  · injection e7 with e7
    injection e7 with e1 e2 e3
    subst e1 e2 e3
    exact ⟨none, 0, 0, [], rfl, ⟨rfl, Nat.le_refl _, by omega, Or.inl rfl⟩⟩
  · injection e7 with e7
    injection e7 with e1 e2 e3
    subst e1 e2 e3
    have each : ∀ i, ∃ c : ByteArray, i < n0 → (∀ j, j < 1 → W.cell? ((a.add (i * 1)).add j) = #[Value.string c][j]?) := by
      intro i
      by_cases hi : i < n0
      · have h5 := hat i hi
        rw [cells_string, List.getElem?_eq_getElem (by omega)] at h5
        obtain ⟨cs', hcs, ht⟩ := Option.bind_eq_some_iff.1 h5
        obtain ⟨c, rfl⟩ := open_txt_at ht
        obtain ⟨_, _, hget⟩ := World.cells?_some hcs
        exact ⟨c, fun _ => fun j hj => by rw [hget j hj]; simp⟩
      · exact ⟨⟨#[]⟩, fun h => absurd h hi⟩
    obtain ⟨q, hq⟩ := Classical.axiomOfChoice each
    have hbig : n0 ≤ 9223372036854775807 := by simp only [maxLen] at hc; omega
    obtain ⟨l, hl'⟩ : ∃ l : List (ByteArray), l = (List.range n0).map q := ⟨_, rfl⟩
    have hll : l.length = n0 := by rw [hl']; simp
    have hcells : l = [] ∨ ∃ b off, some a = some (⟨b, off, none⟩ : Addr) ∧ ∀ i c, l[i]? = some c → W.cell? ⟨b, off + i, none⟩ = some (.string c) := by
      by_cases h0 : n0 = 0
      · exact Or.inl (List.eq_nil_of_length_eq_zero (by omega))
      · have hsp : a.spot = none := by
          have h6 := hq 0 (by omega)
          have h10 := spot_none ((h6 0 (by omega)).trans rfl)
          simpa [Addr.add] using h10
        refine Or.inr ⟨a.block, a.off, ?_, fun i c hi => ?_⟩
        · have h := add_flat a hsp 0
          have e : a.add 0 = a := by simp [Addr.add]
          rw [e] at h
          exact congrArg some h
        · have hin : i < n0 := by rw [← hll]; exact (List.getElem?_eq_some_iff.1 hi).1
          have ec : c = q i := by
            rw [hl', List.getElem?_map, List.getElem?_range hin] at hi
            injection hi with hi
            exact hi.symm
          subst ec
          have h6 := hq i hin
          have k : ∀ j, j < 1 → W.cell? ⟨a.block, a.off + i * 1 + j, none⟩ = #[Value.string (q i)][j]? := fun j hj => by
            have h := h6 j hj
            rw [add_flat a hsp, add_flat _ rfl] at h
            exact h
          exact by have h := k 0 (by omega); rw [Nat.mul_one, Nat.add_zero] at h; exact h
    exact ⟨some a, n0, c0, l, rfl, ⟨hll.symm, hl, by simp only [maxLen] at hc; omega, hcells⟩⟩
end
/-- What a row asks behind a call whose arguments lead to memory. -/
theorem post_reads {H : Type} {enc : TypeId × Value → H} {f : Func} {s : ChangeSpec} {fresh handsOn : Bool} {W W' : World} {args : Array Value} {v : Value} {ds gs : List (DataW H)} {before : List MemPlace}
    (hW : DataW.Whole enc Try.prog f.params.toList s.vars false W args.toList ds gs before)
    (hres : ∀ (b : Nat) (sp : Nat → Bool) (hd : Bool), DataW.TrodAll enc Try.prog W' b sp hd f.resultTypes.toList (v.resultList f.resultTypes.size) (s.fn H (ds ++ gs)).results [])
    (hargs : ∀ sp : Nat → Bool, (∀ p ∈ before, sp p.block = true) → DataW.TrodAll enc Try.prog W' 0 sp true f.params.toList args.toList (s.fn H (ds ++ gs)).args before)
    (hvars : ∀ sp : Nat → Bool, DataW.TrodVars enc Try.prog W' sp s.vars (s.fn H (ds ++ gs)).vars [])
    (hb : Below W.heap.size W W') :
    s.post enc Try.prog f false fresh handsOn false W args v W' := by
  have hold : ∀ p ∈ before, (fun b => decide (b < W.heap.size)) p.block = true := fun p hp => by simpa using hW.lt p hp
  refine ⟨ds, gs, before, [], before, [], hW, hres _ _ _, hargs _ hold, hvars _, World.keptBut_mono (fun p hp => ⟨hp, Or.inr (by simpa using hp)⟩) (hb.frame (· ∈ before)), fun h => ?_⟩
  exact absurd h (by simp)
end Go.Proofs.Ytpifpokbkjddjaa
