/- A tree as an argument: it is opened into memory's tree. -/
import Derived.Test.YtdhndfmblmcapaaDoorRefCan
import Derived.Test.YtdhndfmblmcapaaDoorPost
namespace Go.Proofs.YtdhndfmblmcapaaDoor
open Go.ChangeShapes Go.WideShapes Go.ChangeAt Go.RowKit

theorem cells_re : Tryd.prog.cellsOf 27 = 8 := by kernel_rfl
theorem cells_set : Tryd.prog.cellsOf 24 = 4 := by kernel_rfl
theorem cells_word : Tryd.prog.cellsOf 22 = 1 := by kernel_rfl
theorem cells_int : Tryd.prog.cellsOf 3 = 1 := by kernel_rfl
theorem cells_parts : Tryd.prog.cellsOf 25 = 1 := by kernel_rfl
theorem word_of {a : Int} (h : (Lit.int .u64 a).wf = true) : ∃ n : Nat, a = n ∧ n < 18446744073709551616 := by
  have e1 : IntKind.u64.min = 0 := by decide
  have e2 : IntKind.u64.max = 18446744073709551615 := by decide
  simp [Lit.wf, e1, e2] at h
  exact ⟨a.toNat, by omega, by omega⟩
theorem some_at {α : Type} {l : List α} {n : Nat} (h : l.length = n) (i : Nat) (hi : i < n) : ∃ y, l[i]? = some y := ⟨l[i], List.getElem?_eq_getElem (by omega)⟩
theorem spot_of {w : World} {a : Addr} {v : Value} (h : w.cell? a = some v) : a.spot = none := by
  unfold World.cell? at h
  split at h
  · split at h
    · exact absurd h (by simp)
    · rename_i hs
      simpa using hs
  · exact absurd h (by simp)
theorem add_plain (a : Addr) (h : a.spot = none) (n : Nat) : a.add n = ⟨a.block, a.off + n, none⟩ := by
  obtain ⟨b, o, s⟩ := a
  simp only at h
  subst h
  unfold Addr.add
  split
  · rename_i e; rw [e]; rfl
  · rfl

/-- Four words as a set's. -/
def four (a b c d : Nat) : Nat → Nat := fun i => if i = 0 then a else if i = 1 then b else if i = 2 then c else if i = 3 then d else 0
theorem four_fits {a b c d : Nat} (ha : a < 18446744073709551616) (hb : b < 18446744073709551616) (hc : c < 18446744073709551616) (hd : d < 18446744073709551616) : Fits (four a b c d) := by
  intro k _
  unfold four
  split
  · exact ha
  split
  · exact hb
  split
  · exact hc
  split
  · exact hd
  · omega
theorem four_far (a b c d : Nat) (i : Nat) (h : 4 ≤ i) : four a b c d i = 0 := by
  unfold four
  rw [if_neg (by omega), if_neg (by omega), if_neg (by omega), if_neg (by omega)]

section
variable {H : Type} {enc : TypeId × Value → H} {W : World} {base : Nat} {sp : Nat → Bool} {hd : Bool}
theorem open_int_cell {n : Nat} {v : Value} {y : DataW H × List MemPlace} (h : DataW.trod enc Tryd.prog W base sp hd n 3 [v] = some y) : ∃ a : Int, v = .int .i64 a := by
  obtain ⟨a, e, _⟩ := DataW.trod_int Tryd.underlying3 h
  exact ⟨a, by simpa using e⟩
theorem open_words {n : Nat} {v0 v1 v2 v3 : Value} {y : DataW H × List MemPlace} (h : DataW.trod enc Tryd.prog W base sp hd n 24 [v0, v1, v2, v3] = some y) :
    ∃ f : Nat → Nat, v0 = .int .u64 (f 0) ∧ v1 = .int .u64 (f 1) ∧ v2 = .int .u64 (f 2) ∧ v3 = .int .u64 (f 3) ∧ Fits f ∧ ∀ i, 4 ≤ i → f i = 0 := by
  obtain ⟨zs, m, _, _, _, hzl, hz⟩ := DataW.trod_array Tryd.underlying24 h
  have each : ∀ (i : Nat) (v : Value), i < 4 → [v0, v1, v2, v3][i]? = some v → ∃ n : Nat, v = .int .u64 n ∧ n < 18446744073709551616 := by
    intro i v hi hv
    obtain ⟨y, hy⟩ := some_at hzl i hi
    have h1 := hz i hi
    rw [cells_word, hy, Nat.mul_one] at h1
    have h2 : ([v0, v1, v2, v3].drop i).take 1 = [v] := by
      have : i = 0 ∨ i = 1 ∨ i = 2 ∨ i = 3 := by omega
      rcases this with rfl | rfl | rfl | rfl <;> simp at hv <;> subst hv <;> rfl
    rw [h2] at h1
    obtain ⟨a, e, _, hw⟩ := DataW.trod_int Tryd.underlying22 h1
    obtain ⟨n, rfl, hn⟩ := word_of hw
    exact ⟨n, by simpa using e, hn⟩
  obtain ⟨n0, rfl, k0⟩ := each 0 v0 (by omega) rfl
  obtain ⟨n1, rfl, k1⟩ := each 1 v1 (by omega) rfl
  obtain ⟨n2, rfl, k2⟩ := each 2 v2 (by omega) rfl
  obtain ⟨n3, rfl, k3⟩ := each 3 v3 (by omega) rfl
  exact ⟨four n0 n1 n2 n3, rfl, rfl, rfl, rfl, four_fits k0 k1 k2 k3, four_far n0 n1 n2 n3⟩

set_option maxRecDepth 100000 in
theorem open_re_at (n : Nat) : ∀ (cs : List Value) (x : DataW H × List MemPlace), DataW.trod enc Tryd.prog W base sp hd n 27 cs = some x → ∃ t, At W (fun _ => True) t cs.toArray ∧ Wf t := by
  induction n using Nat.strongRecOn with
  | ind n ih =>
    intro cs x h
    obtain ⟨xs, m, rfl, _, hlen, hxl, hf⟩ := DataW.trod_struct Tryd.underlying27 h
    rw [cells_re] at hlen
    match cs, hlen with
    | [v0, v1, v2, v3, v4, v5, v6, v7], _ =>
      have hxl' : xs.length = 5 := hxl
      obtain ⟨y0, e0⟩ := some_at hxl' 0 (by omega)
      obtain ⟨y1, e1⟩ := some_at hxl' 1 (by omega)
      obtain ⟨y2, e2⟩ := some_at hxl' 2 (by omega)
      obtain ⟨y3, e3⟩ := some_at hxl' 3 (by omega)
      obtain ⟨y4, e4⟩ := some_at hxl' 4 (by omega)
      have g0 := hf 0 _ rfl
      have g1 := hf 1 _ rfl
      have g2 := hf 2 _ rfl
      have g3 := hf 3 _ rfl
      have g4 := hf 4 _ rfl
      have h0 : DataW.trod enc Tryd.prog W base sp hd m 3 (([v0, v1, v2, v3, v4, v5, v6, v7].drop 0).take (Tryd.prog.cellsOf 3)) = xs[0]? := g0
      have h1 : DataW.trod enc Tryd.prog W base sp hd m 24 (([v0, v1, v2, v3, v4, v5, v6, v7].drop 1).take (Tryd.prog.cellsOf 24)) = xs[1]? := g1
      have h2 : DataW.trod enc Tryd.prog W base sp hd m 3 (([v0, v1, v2, v3, v4, v5, v6, v7].drop 5).take (Tryd.prog.cellsOf 3)) = xs[2]? := g2
      have h3 : DataW.trod enc Tryd.prog W base sp hd m 3 (([v0, v1, v2, v3, v4, v5, v6, v7].drop 6).take (Tryd.prog.cellsOf 3)) = xs[3]? := g3
      have h4 : DataW.trod enc Tryd.prog W base sp hd m 25 (([v0, v1, v2, v3, v4, v5, v6, v7].drop 7).take (Tryd.prog.cellsOf 25)) = xs[4]? := g4
      clear g0 g1 g2 g3 g4
      rw [cells_int, e0] at h0
      rw [cells_set, e1] at h1
      rw [cells_int, e2] at h2
      rw [cells_int, e3] at h3
      rw [cells_parts, e4] at h4
      obtain ⟨k, rfl⟩ := open_int_cell h0
      obtain ⟨f, rfl, rfl, rfl, rfl, hF, hC⟩ := open_words h1
      obtain ⟨lo, rfl⟩ := open_int_cell h2
      obtain ⟨hi, rfl⟩ := open_int_cell h3
      rcases DataW.trod_slice Tryd.underlying25 h4 with ⟨e7, _⟩ | ⟨a, len, cap, elems, rest, m', hm, e7, _, _, hl, _, hel, hat, _⟩
      · have e7' : v7 = .slice none 0 0 := by simpa using e7
        subst e7'
        exact ⟨.mk k f lo hi [], .leaf k f lo hi none 0, .mk k f lo hi [] hF hC (fun c hc => absurd hc (by simp))⟩
      · have e7' : v7 = .slice (some a) len cap := by simpa using e7
        subst e7'
        have each : ∀ i, ∃ q : Tree × Array Value, i < len → (∀ j, j < 8 → W.cell? ((a.add (i * 8)).add j) = q.2[j]?) ∧ At W (fun _ => True) q.1 q.2 ∧ Wf q.1 := by
          intro i
          by_cases hi : i < len
          · have h5 := hat i hi
            rw [cells_re, List.getElem?_eq_getElem (by omega)] at h5
            obtain ⟨cs', hc, ht⟩ := Option.bind_eq_some_iff.1 h5
            obtain ⟨t, hA, hW⟩ := ih m' (by omega) cs' _ ht
            obtain ⟨_, _, hget⟩ := World.cells?_some hc
            exact ⟨(t, cs'.toArray), fun _ => ⟨fun j hj => by rw [hget j hj]; simp, hA, hW⟩⟩
          · exact ⟨(Tree.mk 0 zero4 0 0 [], #[]), fun h => absurd h hi⟩
        obtain ⟨q, hq⟩ := Classical.axiomOfChoice each
        clear each hat ih
        by_cases h0 : len = 0
        · subst h0
          exact ⟨.mk k f lo hi [], .leaf k f lo hi (some a) cap, .mk k f lo hi [] hF hC (fun c hc => absurd hc (by simp))⟩
        · have hsp : a.spot = none := by
            obtain ⟨h6, h7, _⟩ := hq 0 (by omega)
            have h8 := h6 0 (by omega)
            obtain ⟨sl, h9, _⟩ := h7.open
            rw [h9] at h8
            have h10 := spot_of h8
            simpa [Addr.add] using h10
          obtain ⟨l, hl'⟩ : ∃ l : List Tree, l = (List.range len).map fun i => (q i).1 := ⟨_, rfl⟩
          have hll : l.length = len := by rw [hl']; simp
          have hget : ∀ i (h : i < l.length), l[i] = (q i).1 := fun i h => by simp [hl']
          have hne : l ≠ [] := fun e => by rw [e] at hll; exact h0 hll.symm
          refine ⟨.mk k f lo hi l, ?_, .mk k f lo hi l hF hC (fun c hc => ?_)⟩
          · have hn := At.node (w := W) (S := fun _ => True) k f lo hi l a.block a.off cap (fun i => (q i).2) hne (by omega) trivial (fun i h j hj => by
              have h6 := (hq i (by omega)).1 j hj
              rw [add_plain a hsp, add_plain _ rfl] at h6
              exact h6) (fun i h => by rw [hget i h]; exact (hq i (by omega)).2.1)
            rw [hll] at hn
            have ea : a = ⟨a.block, a.off, none⟩ := by
              have h := add_plain a hsp 0
              simpa [Addr.add] using h
            rw [← ea] at hn
            exact hn
          · rw [hl'] at hc
            obtain ⟨i, hi, rfl⟩ := List.mem_map.1 hc
            exact (hq i (by simpa using hi)).2.2
end

theorem post_reads {H : Type} {enc : TypeId × Value → H} {f : Func} {s : ChangeSpec} {fresh handsOn : Bool} {W W' : World} {args : Array Value} {v : Value} {ds gs : List (DataW H)} {before : List MemPlace}
    (hW : DataW.Whole enc Tryd.prog f.params.toList s.vars false W args.toList ds gs before)
    (hres : ∀ (b : Nat) (sp : Nat → Bool) (hd : Bool), DataW.TrodAll enc Tryd.prog W' b sp hd f.resultTypes.toList (v.resultList f.resultTypes.size) (s.fn H (ds ++ gs)).results [])
    (hargs : ∀ sp : Nat → Bool, (∀ p ∈ before, sp p.block = true) → DataW.TrodAll enc Tryd.prog W' 0 sp true f.params.toList args.toList (s.fn H (ds ++ gs)).args before)
    (hvars : ∀ sp : Nat → Bool, DataW.TrodVars enc Tryd.prog W' sp s.vars (s.fn H (ds ++ gs)).vars [])
    (hb : Below W.heap.size W W') :
    s.post enc Tryd.prog f false fresh handsOn false W args v W' := by
  have hold : ∀ p ∈ before, (fun b => decide (b < W.heap.size)) p.block = true := fun p hp => by simpa using hW.lt p hp
  refine ⟨ds, gs, before, [], before, [], hW, hres _ _ _, hargs _ hold, hvars _, World.keptBut_mono (fun p hp => ⟨hp, Or.inr (by simpa using hp)⟩) (hb.frame (· ∈ before)), fun h => ?_⟩
  exact absurd h (by simp)
end Go.Proofs.YtdhndfmblmcapaaDoor
