/- Merged by program: NdFull, ShN, PostN. -/
import Derived.SizedLaws
import Derived.ProofKit
import Derived.OpenShut
import Derived.Deep.DeepHandedRow
import Derived.Lib.LaidTab
import GoSem.PinnedTables
import Derived.Test.YtgdlpldngpoadaaGreatDoorSbn
import Derived.Test.YtgdlpldngpoadaaGreatDoorSbf
/- A program's tree as an argument, opened into memory's tree: none of its parts has more names than a slice holds. -/
namespace Go.Proofs.YtgdlpldngpoadaaGreatDoor
open Go.ChangeShapes Go.WideShapes Go.ChangeAt Go.RowKit

theorem bytes_string : Tryz.prog.bytesOf 9 = 16 := by kernel_rfl
theorem weights_all {H : Type} {P : Program} {e : TypeId} : ∀ {l : List (DataW H)} {d : DataW H}, d ∈ l → ∀ n ∈ d.weights P e, n ∈ DataW.weightsAll P e l
  | [], _, h, _, _ => absurd h (by simp)
  | a :: l, d, h, n, hn => by
    simp only [DataW.weightsAll, List.mem_append]
    rcases List.mem_cons.1 h with rfl | h
    · exact Or.inl hn
    · exact Or.inr (weights_all h n hn)
section
variable {H : Type} {enc : TypeId × Value → H} {W : World} {base : Nat} {sp : Nat → Bool} {hd : Bool}
theorem open_namesF {n : Nat} {v : Value} {y : DataW H × List MemPlace} (h : DataW.trod enc Tryz.prog W base sp hd n 23 [v] = some y) :
    ∃ l : List ByteArray, PAt W (fun _ => True) l v ∧ ((∀ n ∈ y.1.weights Tryz.prog 23, n ≤ reachBytes) → l.length ≤ 8796093022207) := by
  rcases DataW.trod_slice Tryz.underlying23 h with ⟨e7, _⟩ | ⟨a, len, cap, elems, rest, m', hm, e7, hy, _, hlc, _, hel, hat, _⟩
  · have e7' : v = .slice none 0 0 := by simpa using e7
    subst e7'
    exact ⟨[], .zero _ _, fun _ => Nat.zero_le _⟩
  · have e7' : v = .slice (some a) len cap := by simpa using e7
    subst e7'
    have hwt : (∀ n ∈ y.1.weights Tryz.prog 23, n ≤ reachBytes) → len ≤ 8796093022207 := fun hn => by
      have h1 := hn ((elems.length + rest.length) * 16) (by rw [hy]; simp [DataW.weights, Tryz.underlying23, bytes_string])
      have h2 : reachBytes = 140737488351232 := rfl
      omega
    have each : ∀ i, ∃ s : ByteArray, i < len → W.cell? (a.add i) = some (.string s) := by
      intro i
      by_cases hi : i < len
      · have h5 := hat i hi
        rw [cells_string, List.getElem?_eq_getElem (by omega), Nat.mul_one] at h5
        obtain ⟨cs', hc, ht⟩ := Option.bind_eq_some_iff.1 h5
        obtain ⟨hlen, _, hget⟩ := World.cells?_some hc
        match cs', hlen with
        | [u], _ =>
          obtain ⟨s, rfl, hs⟩ := open_str ht
          refine ⟨s, fun _ => ?_⟩
          have := hget 0 (by omega)
          simpa [Addr.add] using this
      · exact ⟨⟨#[]⟩, fun h => absurd h hi⟩
    obtain ⟨q, hq⟩ := Classical.axiomOfChoice each
    clear each hat
    by_cases h0 : len = 0
    · subst h0
      exact ⟨[], .nil _ _ _ _ (fun e => by simp at e), fun _ => Nat.zero_le _⟩
    · have hsp : a.spot = none := by
        have h8 := hq 0 (by omega)
        have h10 := spot_of h8
        simpa [Addr.add] using h10
      obtain ⟨l, hl'⟩ : ∃ l : List ByteArray, l = (List.range len).map q := ⟨_, rfl⟩
      have hll : l.length = len := by rw [hl']; simp
      refine ⟨l, Or.inr ⟨fun e => by rw [e] at hll; exact h0 hll.symm, a.block, a.off, cap, ?_, by omega, trivial, fun i hi => ?_⟩, fun hn => ?_⟩
      · have h := add_plain a hsp 0
        have ea : a = ⟨a.block, a.off, none⟩ := by simpa [Addr.add] using h
        rw [hll, ← ea]
      · have h6 := hq i (by omega)
        rw [add_plain a hsp] at h6
        rw [h6]
        simp [hl']
      · have := hwt hn
        omega

set_option maxRecDepth 100000 in
theorem open_ndF (n : Nat) : ∀ (cs : List Value) (x : DataW H × List MemPlace), DataW.trod enc Tryz.prog W base sp hd n 25 cs = some x → ∃ t, At W (fun _ => True) t cs.toArray ∧ ((∀ n ∈ x.1.weights Tryz.prog 25, n ≤ reachBytes) → PFew 8796093022207 t) := by
  induction n using Nat.strongRecOn with
  | ind n ih =>
    intro cs x h
    obtain ⟨xs, m, rfl, hx, hlen, hxl, hf⟩ := DataW.trod_struct Tryz.underlying25 h
    rw [cells_node] at hlen
    match cs, hlen with
    | [v0, v1, v2, v3, v4, v5], _ =>
      have hxl' : xs.length = 6 := hxl
      match xs, hxl' with
      | [y0, y1, y2, y3, y4, y5], _ =>
      have g0 := hf 0 _ rfl
      have g1 := hf 1 _ rfl
      have g2 := hf 2 _ rfl
      have g3 := hf 3 _ rfl
      have g4 := hf 4 _ rfl
      have g5 := hf 5 _ rfl
      have h0 : DataW.trod enc Tryz.prog W base sp hd m 3 (([v0, v1, v2, v3, v4, v5].drop 0).take (Tryz.prog.cellsOf 3)) = some y0 := g0
      have h1 : DataW.trod enc Tryz.prog W base sp hd m 9 (([v0, v1, v2, v3, v4, v5].drop 1).take (Tryz.prog.cellsOf 9)) = some y1 := g1
      have h2 : DataW.trod enc Tryz.prog W base sp hd m 2 (([v0, v1, v2, v3, v4, v5].drop 2).take (Tryz.prog.cellsOf 2)) = some y2 := g2
      have h3 : DataW.trod enc Tryz.prog W base sp hd m 3 (([v0, v1, v2, v3, v4, v5].drop 3).take (Tryz.prog.cellsOf 3)) = some y3 := g3
      have h4 : DataW.trod enc Tryz.prog W base sp hd m 22 (([v0, v1, v2, v3, v4, v5].drop 4).take (Tryz.prog.cellsOf 22)) = some y4 := g4
      have h5 : DataW.trod enc Tryz.prog W base sp hd m 23 (([v0, v1, v2, v3, v4, v5].drop 5).take (Tryz.prog.cellsOf 23)) = some y5 := g5
      clear g0 g1 g2 g3 g4 g5 hf
      rw [cells_int] at h0 h3
      rw [cells_string] at h1
      rw [cells_int64] at h2
      rw [cells_nodes] at h4
      rw [cells_strings] at h5
      obtain ⟨k, rfl, ik⟩ := open_i64 h0
      obtain ⟨s, rfl, is⟩ := open_str h1
      obtain ⟨nn, rfl, inn⟩ := open_int64 h2
      obtain ⟨a, rfl, ia⟩ := open_i64 h3
      obtain ⟨p, hp, hpl⟩ := open_namesF h5
      have hw4 : ∀ n ∈ y4.1.weights Tryz.prog 22, n ∈ x.1.weights Tryz.prog 25 := fun n hn => by rw [hx]; simp [DataW.weights, DataW.weightsEach, Tryz.underlying25, hn]
      have hw5 : ∀ n ∈ y5.1.weights Tryz.prog 23, n ∈ x.1.weights Tryz.prog 25 := fun n hn => by rw [hx]; simp [DataW.weights, DataW.weightsEach, Tryz.underlying25, hn]
      have fin : ∀ (l : List Nd), ((∀ n ∈ x.1.weights Tryz.prog 25, n ≤ reachBytes) → ∀ c, c ∈ l → PFew 8796093022207 c) → (∀ n ∈ x.1.weights Tryz.prog 25, n ≤ reachBytes) → PFew 8796093022207 (.mk k s nn a l p) := fun l hc hn =>
        .mk k s nn a l p (hpl fun n h => hn n (hw5 n h)) (hc hn)
      clear h0 h1 h2 h3 h5 hx hpl is ik inn ia hw5
      rcases DataW.trod_slice Tryz.underlying22 h4 with ⟨e7, _⟩ | ⟨ad, len, cap, elems, rest, m', hm, e7, hy, _, hl, _, hel, hat, _⟩
      · have e7' : v4 = .slice none 0 0 := by simpa using e7
        subst e7'
        exact ⟨_, .leaf k s nn a p none 0 _ hp, fin [] (fun _ c hc => absurd hc (by simp))⟩
      · have e7' : v4 = .slice (some ad) len cap := by simpa using e7
        subst e7'
        have hwe : ∀ i (hi : i < elems.length), ∀ n ∈ elems[i].1.weights Tryz.prog 25, n ∈ x.1.weights Tryz.prog 25 := fun i hi n hn => by
          refine hw4 n ?_
          rw [hy]
          have := weights_all (P := Tryz.prog) (e := 25) (List.mem_map.2 ⟨elems[i], List.getElem_mem hi, rfl⟩ : elems[i].1 ∈ elems.map (·.1)) n hn
          simp [DataW.weights, Tryz.underlying22, this]
        have each : ∀ i, ∃ q : Nd × Array Value, i < len → (∀ j, j < 6 → W.cell? ((ad.add (i * 6)).add j) = q.2[j]?) ∧ At W (fun _ => True) q.1 q.2 ∧ ((∀ n ∈ x.1.weights Tryz.prog 25, n ≤ reachBytes) → PFew 8796093022207 q.1) := by
          intro i
          by_cases hi : i < len
          · have h5 := hat i hi
            rw [cells_node, List.getElem?_eq_getElem (by omega)] at h5
            obtain ⟨cs', hc, ht⟩ := Option.bind_eq_some_iff.1 h5
            obtain ⟨t, hA, hW⟩ := ih m' (by omega) cs' _ ht
            obtain ⟨_, _, hget⟩ := World.cells?_some hc
            exact ⟨(t, cs'.toArray), fun _ => ⟨fun j hj => by rw [hget j hj]; simp, hA, fun hn => hW fun n h => hn n (hwe i (by omega) n h)⟩⟩
          · exact ⟨(Nd.mk 0 ⟨#[]⟩ 0 0 [] [], #[]), fun h => absurd h hi⟩
        obtain ⟨q, hq⟩ := Classical.axiomOfChoice each
        clear each hat ih
        by_cases h0 : len = 0
        · subst h0
          exact ⟨_, .leaf k s nn a p (some ad) cap _ hp, fin [] (fun _ c hc => absurd hc (by simp))⟩
        · have hsp : ad.spot = none := by
            obtain ⟨h6, h7, _⟩ := hq 0 (by omega)
            have h8 := h6 0 (by omega)
            obtain ⟨sl, sp', h9, _⟩ := h7.open
            rw [h9] at h8
            have h10 := spot_of h8
            simpa [Addr.add] using h10
          obtain ⟨l, hl'⟩ : ∃ l : List Nd, l = (List.range len).map fun i => (q i).1 := ⟨_, rfl⟩
          have hll : l.length = len := by rw [hl']; simp
          have hget : ∀ i (h : i < l.length), l[i] = (q i).1 := fun i h => by simp [hl']
          have hne : l ≠ [] := fun e => by rw [e] at hll; exact h0 hll.symm
          refine ⟨.mk k s nn a l p, ?_, fin l (fun hn c hc => ?_)⟩
          · have hn := At.node (w := W) (S := fun _ => True) k s nn a l p ad.block ad.off cap v5 (fun i => (q i).2) hne (by omega) trivial hp (fun i h j hj => by
              have h6 := (hq i (by omega)).1 j hj
              rw [add_plain ad hsp, add_plain _ rfl] at h6
              exact h6) (fun i h => by rw [hget i h]; exact (hq i (by omega)).2.1)
            rw [hll] at hn
            have ea : ad = ⟨ad.block, ad.off, none⟩ := by
              have h := add_plain ad hsp 0
              simpa [Addr.add] using h
            rw [← ea] at hn
            exact hn
          · rw [hl'] at hc
            obtain ⟨i, hi, rfl⟩ := List.mem_map.1 hc
            exact (hq i (by simpa using hi)).2.2 hn
end


end Go.Proofs.YtgdlpldngpoadaaGreatDoor

/- The law ShowSame: the walk (gen_shn.py). -/
namespace Go.Proofs.YtgdlpldngpoadaaGreatDoor
open Go.RowKit

theorem keep12 {w0 w1 w2 : World} {a0 a1 a2 a3 a4 a5 a6 a7 a8 a9 a10 a11 : Addr} {v0 v1 v2 v3 v4 v5 v6 v7 v8 v9 v10 v11 : Value} (h : Hid (Below w0.heap.size w0 w1) ∧ w1.cell? a0 = some v0 ∧ w1.cell? a1 = some v1 ∧ w1.cell? a2 = some v2 ∧ w1.cell? a3 = some v3 ∧ w1.cell? a4 = some v4 ∧ w1.cell? a5 = some v5 ∧ w1.cell? a6 = some v6 ∧ w1.cell? a7 = some v7 ∧ w1.cell? a8 = some v8 ∧ w1.cell? a9 = some v9 ∧ w1.cell? a10 = some v10 ∧ w1.cell? a11 = some v11) (hb : Below w1.heap.size w1 w2) : Hid (Below w0.heap.size w0 w2) ∧ w2.cell? a0 = some v0 ∧ w2.cell? a1 = some v1 ∧ w2.cell? a2 = some v2 ∧ w2.cell? a3 = some v3 ∧ w2.cell? a4 = some v4 ∧ w2.cell? a5 = some v5 ∧ w2.cell? a6 = some v6 ∧ w2.cell? a7 = some v7 ∧ w2.cell? a8 = some v8 ∧ w2.cell? a9 = some v9 ∧ w2.cell? a10 = some v10 ∧ w2.cell? a11 = some v11 := by
  obtain ⟨h0, e0, e1, e2, e3, e4, e5, e6, e7, e8, e9, e10, e11⟩ := h
  have keep : ∀ {a : Addr} {v : Value}, w1.cell? a = some v → w2.cell? a = some v := fun {a v} e => by rw [hb.cell (p := a) (cell_lt e)]; exact e
  exact ⟨Lib.hid (Below.step h0.out hb), keep e0, keep e1, keep e2, keep e3, keep e4, keep e5, keep e6, keep e7, keep e8, keep e9, keep e10, keep e11⟩
theorem low_strip : ∀ (n : Nat) (t : Nd), Low n t → Low n (stripF n t)
  | 0, _, h => h.elim
  | n + 1, t, h => by
    refine ⟨by show (t.kids.map (stripF n)).length ≤ 1000000; rw [List.length_map]; exact h.1, h.2.1, fun c hc => ?_⟩
    have hc2 : c ∈ t.kids.map (stripF n) := hc
    obtain ⟨q, hq, rfl⟩ := List.mem_map.1 hc2
    exact low_strip n q (h.2.2 q hq)

set_option maxRecDepth 100000 in
set_option maxHeartbeats 2000000 in
theorem zwalk (t u : Nd) (cs es : Array Value) (w : World) (hA : At w (fun _ => True) t cs) (hU : At w (fun _ => True) u es) (hf : PFew 8796093022207 t) :
    Calls Tryz.prog 4 #[.agg cs, .agg es] w fun e w' => e = .returned (.bool true) ∧ Below w.heap.size w w' := by
  have HSa := Lib.hid (fun V (hb : Below w.heap.size w V) => small_spec t cs _ V (hA.after hb))
  have HSb := Lib.hid (fun V (hb : Below w.heap.size w V) => small_spec u es _ V (hU.after hb))
  have HP0 := Lib.hid (fun V (hb : Below w.heap.size w V) (hl : Low 600 t) => zsame 600 t u cs es _ _ V (hA.after hb) (hU.after hb) hl)
  have HR0 := Lib.hid (fun V (hb : Below w.heap.size w V) (hl : Low 600 t) => same_false 600 t u cs es _ _ V (hA.after hb) (hU.after hb) hl)
  have HST0 := Lib.hid (fun V (hb : Below w.heap.size w V) (hl : Low 600 t) => zstrip 600 t cs _ V (hA.after hb) hl hf)
  have HOW0 := Lib.hid (fun V (hb : Below w.heap.size w V) (hl : Low 600 t) => own_spec 600 t cs _ V (hA.after hb) hl hf)
  have HLW := Lib.hid (fun (h : Deep 600 t ∧ nodesN 600 t ≤ 3000) => low_of 600 t _ h.1 h.2 hf (by decide))
  obtain ⟨x, c, y, d, hcs, _, _⟩ := hA.opens
  obtain ⟨x2, c2, y2, d2, hes, _, _⟩ := hU.opens
  rw [hcs] at HSa HP0 HR0 HST0 HOW0 ⊢
  rw [hes] at HSb HP0 HR0 ⊢
  clear hA hU hf hcs hes
  go_enter Tryz.func4, Tryz.ntmps4
  go_upto_region 1 with (fail)
  obtain ⟨W, hW, hX, hB, hsz⟩ := nd_box w (ndC t.k t.s t.n t.a (.slice x t.kids.length c) (.slice y t.p.length d))
  obtain ⟨V, hV, hY, hBV, _⟩ := nd_box W (ndC u.k u.s u.n u.a (.slice x2 u.kids.length c2) (.slice y2 u.p.length d2))
  rw [hsz.out] at hY
  change Code.wp _ _ _ _ ((w.alloc (Obj.cells (ndC t.k t.s t.n t.a (.slice x t.kids.length c) (.slice y t.p.length d)) 25)).alloc (Obj.cells (ndC u.k u.s u.n u.a (.slice x2 u.kids.length c2) (.slice y2 u.p.length d2)) 25))
  rw [← hW, ← hV]
  have HB := Lib.hid (Below.step hB.out hBV.out)
  have HX := Lib.hid (hX.out.after hBV.out)
  have HY := Lib.hid hY.out
  clear hW hV hX hBV hsz hB hY
  obtain ⟨c0, c1, c2', c3, c4, c5⟩ := six_nd HX.out.six
  obtain ⟨d0, d1, d2', d3, d4, d5⟩ := six_nd HY.out.six
  go_wp2_with fail
  refine (HSa.out _ HB.out).mono ?_
  rintro e w2 ⟨b, rfl, hsm, bb⟩
  have HB2 := Lib.hid (Below.step HB.out bb)
  have HX2 := Lib.hid (HX.out.after bb)
  have HY2 := Lib.hid (HY.out.after bb)
  clear bb c0 c1 c2' c3 c4 c5 d0 d1 d2' d3 d4 d5 HX HY HB HSa
  cases b with
  | false =>
    go_wp2_with fail
    refine (zlives _).mono ?_
    rintro e w5 ⟨rfl, b5⟩
    go_wp2_with fail
    go_ret
    exact ⟨rfl, Below.step HB2.out b5⟩
  | true =>
    obtain ⟨c0, c1, c2', c3, c4, c5⟩ := six_nd HX2.out.six
    obtain ⟨d0, d1, d2', d3, d4, d5⟩ := six_nd HY2.out.six
    go_wp2_with fail
    refine (HSb.out _ HB2.out).mono ?_
    rintro e w3 ⟨b, rfl, _, bb⟩
    have HB3 := Lib.hid (Below.step HB2.out bb)
    have HX3 := Lib.hid (HX2.out.after bb)
    have HY3 := Lib.hid (HY2.out.after bb)
    clear bb c0 c1 c2' c3 c4 c5 d0 d1 d2' d3 d4 d5 HX2 HY2 HB2 HSb
    cases b with
    | false =>
      go_wp2_with fail
      refine (zlives _).mono ?_
      rintro e w5 ⟨rfl, b5⟩
      go_wp2_with fail
      go_ret
      exact ⟨rfl, Below.step HB3.out b5⟩
    | true =>
      have HL := Lib.hid (HLW.out (hsm.out (by trivial)))
      obtain ⟨bq, hbq⟩ : ∃ bq, bq = sameF 600 false t u := ⟨_, rfl⟩
      rw [← hbq] at HP0 HR0
      have HP := Lib.hid (fun V (hb : Below w3.heap.size w3 V) => HP0.out V (Below.step HB3.out hb) HL.out)
      have HR := Lib.hid (fun V (hb : Below w3.heap.size w3 V) => HR0.out V (Below.step HB3.out hb) HL.out)
      have HST := Lib.hid (fun V (hb : Below w3.heap.size w3 V) => HST0.out V (Below.step HB3.out hb) HL.out)
      have HOW := Lib.hid (fun V (hb : Below w3.heap.size w3 V) => HOW0.out V (Below.step HB3.out hb) HL.out)
      have HTR := Lib.hid (fun V B C ds es (h : At V (Up B) (stripF 600 t) ds) (g : At V (Up C) (stripF 600 t) es) => by have h := same_true 600 (stripF 600 t) (stripF 600 t) ds es (Up B) (Up C) V h g (low_strip 600 t HL.out); rw [sameF_refl] at h; exact h)
      clear HP0 HR0 HST0 HOW0 HLW hsm hbq HL
      obtain ⟨c0, c1, c2', c3, c4, c5⟩ := six_nd HX3.out.six
      obtain ⟨d0, d1, d2', d3, d4, d5⟩ := six_nd HY3.out.six
      have H0 : Hid (Hid (Below w3.heap.size w3 w3) ∧ w3.cell? ⟨w.heap.size, 0, none⟩ = some (.int .i64 t.k) ∧ w3.cell? ⟨w.heap.size, 1, none⟩ = some (.string t.s) ∧ w3.cell? ⟨w.heap.size, 2, none⟩ = some (.int .i64 t.n) ∧ w3.cell? ⟨w.heap.size, 3, none⟩ = some (.int .i64 t.a) ∧ w3.cell? ⟨w.heap.size, 4, none⟩ = some (.slice x t.kids.length c) ∧ w3.cell? ⟨w.heap.size, 5, none⟩ = some (.slice y t.p.length d) ∧ w3.cell? ⟨w.heap.size + 1, 0, none⟩ = some (.int .i64 u.k) ∧ w3.cell? ⟨w.heap.size + 1, 1, none⟩ = some (.string u.s) ∧ w3.cell? ⟨w.heap.size + 1, 2, none⟩ = some (.int .i64 u.n) ∧ w3.cell? ⟨w.heap.size + 1, 3, none⟩ = some (.int .i64 u.a) ∧ w3.cell? ⟨w.heap.size + 1, 4, none⟩ = some (.slice x2 u.kids.length c2) ∧ w3.cell? ⟨w.heap.size + 1, 5, none⟩ = some (.slice y2 u.p.length d2)) :=
        Lib.hid ⟨Lib.hid (Below.refl _ _), by simpa using c0, by simpa using c1, by simpa using c2', by simpa using c3, by simpa using c4, by simpa using c5, by simpa using d0, by simpa using d1, by simpa using d2', by simpa using d3, by simpa using d4, by simpa using d5⟩
      clear c0 c1 c2' c3 c4 c5 d0 d1 d2' d3 d4 d5 HX3 HY3
      go_upto_region 3 with (fail)
      try simp only [Act.put]
      refine wp_region_held_drew (S := fun W' => Hid (Below w3.heap.size w3 W') ∧ W'.cell? ⟨w.heap.size, 0, none⟩ = some (.int .i64 t.k) ∧ W'.cell? ⟨w.heap.size, 1, none⟩ = some (.string t.s) ∧ W'.cell? ⟨w.heap.size, 2, none⟩ = some (.int .i64 t.n) ∧ W'.cell? ⟨w.heap.size, 3, none⟩ = some (.int .i64 t.a) ∧ W'.cell? ⟨w.heap.size, 4, none⟩ = some (.slice x t.kids.length c) ∧ W'.cell? ⟨w.heap.size, 5, none⟩ = some (.slice y t.p.length d) ∧ W'.cell? ⟨w.heap.size + 1, 0, none⟩ = some (.int .i64 u.k) ∧ W'.cell? ⟨w.heap.size + 1, 1, none⟩ = some (.string u.s) ∧ W'.cell? ⟨w.heap.size + 1, 2, none⟩ = some (.int .i64 u.n) ∧ W'.cell? ⟨w.heap.size + 1, 3, none⟩ = some (.int .i64 u.a) ∧ W'.cell? ⟨w.heap.size + 1, 4, none⟩ = some (.slice x2 u.kids.length c2) ∧ W'.cell? ⟨w.heap.size + 1, 5, none⟩ = some (.slice y2 u.p.length d2)) (by kernel_rfl) ?_ (fun hS => ?_)
      · exact keep12 H0.out (below_drew _)
      clear H0
      refine takeW (i := 0) (d := 14) (v := .agg #[.int .i64 t.k, .string t.s, .int .i64 t.n, .int .i64 t.a, .slice x t.kids.length c, .slice y t.p.length d]) rfl rfl (by kernel_rfl) (by kernel_rfl) (by kernel_rfl) (fun _ _ _ h => h) (by rfl) (fun w' hSw => by obtain ⟨x_, x0, x1, x2_, x3, x4, x5, z0, z1, z2, z3, z4, z5⟩ := hSw; go_simp) hS ?_
      simp only [List.setIfInBounds_toArray, List.set_cons_zero, List.set_cons_succ]
      refine takeW (i := 1) (d := 15) (v := .agg #[.int .i64 u.k, .string u.s, .int .i64 u.n, .int .i64 u.a, .slice x2 u.kids.length c2, .slice y2 u.p.length d2]) rfl rfl (by kernel_rfl) (by kernel_rfl) (by kernel_rfl) (fun _ _ _ h => h) (by rfl) (fun w' hSw => by obtain ⟨x_, x0, x1, x2_, x3, x4, x5, z0, z1, z2, z3, z4, z5⟩ := hSw; go_simp) hS ?_
      simp only [List.setIfInBounds_toArray, List.set_cons_zero, List.set_cons_succ]
      refine takeW (i := 3) (d := 17) (v := .agg #[.int .i64 t.k, .string t.s, .int .i64 t.n, .int .i64 t.a, .slice x t.kids.length c, .slice y t.p.length d]) rfl rfl (by kernel_rfl) (by kernel_rfl) (by kernel_rfl) (fun _ _ _ h => h) (by rfl) (fun w' hSw => by obtain ⟨x_, x0, x1, x2_, x3, x4, x5, z0, z1, z2, z3, z4, z5⟩ := hSw; go_simp) hS ?_
      simp only [List.setIfInBounds_toArray, List.set_cons_zero, List.set_cons_succ]
      refine takeW (i := 4) (d := 18) (v := .agg #[.int .i64 u.k, .string u.s, .int .i64 u.n, .int .i64 u.a, .slice x2 u.kids.length c2, .slice y2 u.p.length d2]) rfl rfl (by kernel_rfl) (by kernel_rfl) (by kernel_rfl) (fun _ _ _ h => h) (by rfl) (fun w' hSw => by obtain ⟨x_, x0, x1, x2_, x3, x4, x5, z0, z1, z2, z3, z4, z5⟩ := hSw; go_simp) hS ?_
      simp only [List.setIfInBounds_toArray, List.set_cons_zero, List.set_cons_succ]
      refine wpAnyH_ready (rs := [2]) (by kernel_rfl) (by simp) ?_
      refine AllReadyH.cons rfl (fun X hX => ?_) (AllReadyH.nil)
      rw [if_pos (by rfl)]
      go_simp
      refine (HP.out _ hS.1.out).mono ?_; rintro e w1 ⟨rfl, b1⟩
      go_wp2_with fail
      refine hX.out _ _ (keep12 hS b1) (fun hS4_2 => ?_)
      clear hX X hS b1
      refine wpAnyH_ready (rs := [5]) (by kernel_rfl) (by simp) ?_
      refine AllReadyH.cons rfl (fun X hX => ?_) (AllReadyH.nil)
      rw [if_pos (by rfl)]
      go_simp
      refine (HR.out _ hS4_2.1.out).mono ?_; rintro e w1 ⟨rfl, b1⟩
      go_wp2_with fail
      refine hX.out _ _ (keep12 hS4_2 b1) (fun hS5_5 => ?_)
      clear hX X hS4_2 b1
      refine takeW (i := 6) (d := 20) (v := .bool true) rfl rfl (by kernel_rfl) (by kernel_rfl) (by kernel_rfl) (fun _ _ _ h => h) (by rfl) (fun w' hSw => by obtain ⟨x_, x0, x1, x2_, x3, x4, x5, z0, z1, z2, z3, z4, z5⟩ := hSw; go_simp) hS5_5 ?_
      simp only [List.setIfInBounds_toArray, List.set_cons_zero, List.set_cons_succ]
      refine takeW (i := 7) (d := 21) (v := .bool true) rfl rfl (by kernel_rfl) (by kernel_rfl) (by kernel_rfl) (fun _ _ _ h => h) (by rfl) (fun w' hSw => by obtain ⟨x_, x0, x1, x2_, x3, x4, x5, z0, z1, z2, z3, z4, z5⟩ := hSw; go_simp) hS5_5 ?_
      simp only [List.setIfInBounds_toArray, List.set_cons_zero, List.set_cons_succ]
      refine takeW (i := 8) (d := 22) (v := .agg #[.int .i64 t.k, .string t.s, .int .i64 t.n, .int .i64 t.a, .slice x t.kids.length c, .slice y t.p.length d]) rfl rfl (by kernel_rfl) (by kernel_rfl) (by kernel_rfl) (fun _ _ _ h => h) (by rfl) (fun w' hSw => by obtain ⟨x_, x0, x1, x2_, x3, x4, x5, z0, z1, z2, z3, z4, z5⟩ := hSw; go_simp) hS5_5 ?_
      simp only [List.setIfInBounds_toArray, List.set_cons_zero, List.set_cons_succ]
      refine takeW (i := 10) (d := 24) (v := .agg #[.int .i64 t.k, .string t.s, .int .i64 t.n, .int .i64 t.a, .slice x t.kids.length c, .slice y t.p.length d]) rfl rfl (by kernel_rfl) (by kernel_rfl) (by kernel_rfl) (fun _ _ _ h => h) (by rfl) (fun w' hSw => by obtain ⟨x_, x0, x1, x2_, x3, x4, x5, z0, z1, z2, z3, z4, z5⟩ := hSw; go_simp) hS5_5 ?_
      simp only [List.setIfInBounds_toArray, List.set_cons_zero, List.set_cons_succ]
      refine wpAnyH_ready (rs := [9]) (by kernel_rfl) (by simp) ?_
      refine AllReadyH.cons rfl (fun X hX => ?_) (AllReadyH.nil)
      rw [if_pos (by rfl)]
      go_simp
      refine (HST.out _ hS5_5.1.out).mono ?_; rintro e w1 ⟨ds, rfl, hA1, b1⟩
      go_wp2_with fail
      refine hX.out _ _ (keep12 hS5_5 b1) (fun hS10_9 => ?_)
      clear hX X hS5_5 b1
      refine wpAnyH_ready (rs := [11]) (by kernel_rfl) (by simp) ?_
      refine AllReadyH.cons rfl (fun X hX => ?_) (AllReadyH.nil)
      rw [if_pos (by rfl)]
      go_simp
      refine (HOW.out _ hS10_9.1.out).mono ?_; rintro e w1 ⟨es, rfl, hA2, b1⟩; have hA1 := hA1.after b1
      go_wp2_with fail
      refine hX.out _ _ (keep12 hS10_9 b1) (fun hS11_11 => ?_)
      clear hX X hS10_9 b1
      refine wpAnyH_ready (rs := [12]) (by kernel_rfl) (by simp) ?_
      refine AllReadyH.cons rfl (fun X hX => ?_) (AllReadyH.nil)
      rw [if_pos (by rfl)]
      go_simp
      refine (HTR.out _ _ _ _ _ hA1 hA2).mono ?_; rintro e w1 ⟨rfl, b1⟩
      go_wp2_with fail
      refine hX.out _ _ (keep12 hS11_11 b1) (fun hS12_12 => ?_)
      clear hX X hS11_11 b1
      refine takeW (i := 13) (d := 27) (v := .bool true) rfl rfl (by kernel_rfl) (by kernel_rfl) (by kernel_rfl) (fun _ _ _ h => h) (by rfl) (fun w' hSw => by obtain ⟨x_, x0, x1, x2_, x3, x4, x5, z0, z1, z2, z3, z4, z5⟩ := hSw; go_simp) hS12_12 ?_
      simp only [List.setIfInBounds_toArray, List.set_cons_zero, List.set_cons_succ]
      refine takeW (i := 14) (d := 28) (v := .bool true) rfl rfl (by kernel_rfl) (by kernel_rfl) (by kernel_rfl) (fun _ _ _ h => h) (by rfl) (fun w' hSw => by obtain ⟨x_, x0, x1, x2_, x3, x4, x5, z0, z1, z2, z3, z4, z5⟩ := hSw; go_simp) hS12_12 ?_
      simp only [List.setIfInBounds_toArray, List.set_cons_zero, List.set_cons_succ]
      refine wpAnyH_ready (rs := [15]) (by kernel_rfl) (by simp) ?_
      refine AllReadyH.cons rfl (fun X hX => ?_) (AllReadyH.nil)
      rw [if_pos (by rfl)]
      go_simp
      refine (zlives _).mono ?_; rintro e w1 ⟨rfl, b1⟩
      go_wp2_with fail
      refine hX.out _ _ (keep12 hS12_12 b1) (fun hS15_15 => ?_)
      clear hX X hS12_12 b1
      refine takeW (i := 16) (d := 30) (v := .bool true) rfl rfl (by kernel_rfl) (by kernel_rfl) (by kernel_rfl) (fun _ _ _ h => h) (by rfl) (fun w' hSw => by obtain ⟨x_, x0, x1, x2_, x3, x4, x5, z0, z1, z2, z3, z4, z5⟩ := hSw; go_simp) hS15_15 ?_
      simp only [List.setIfInBounds_toArray, List.set_cons_zero, List.set_cons_succ]
      refine takeW (i := 17) (d := 4) (v := .bool true) rfl rfl (by kernel_rfl) (by kernel_rfl) (by kernel_rfl) (fun _ _ _ h => h) (by rfl) (fun w' hSw => by obtain ⟨x_, x0, x1, x2_, x3, x4, x5, z0, z1, z2, z3, z4, z5⟩ := hSw; go_simp) hS15_15 ?_
      simp only [List.setIfInBounds_toArray, List.set_cons_zero, List.set_cons_succ]
      refine wpAnyH_done (by kernel_rfl) ?_ _
      have HEE := hS15_15.1
      clear hS15_15
      go_wp2_with fail
      go_ret
      exact ⟨rfl, Below.step HB3.out HEE.out⟩
end Go.Proofs.YtgdlpldngpoadaaGreatDoor

/- utf8's two tables as the program's text lays them. -/
namespace Go.Proofs.YtgdlpldngpoadaaGreatDoor
open Go.RowKit

def layFirst : Obj → Obj
  | .cells _ t frozen => .cells (Go.Pinned.utf8FirstZ.map fun (n : Nat) => Value.int .u8 (n : Int)).toArray t frozen
  | o => o
def layRanges : Obj → Obj
  | .cells _ t frozen => .cells #[.int .u8 128, .int .u8 191, .int .u8 160, .int .u8 191, .int .u8 128, .int .u8 159, .int .u8 144, .int .u8 191, .int .u8 128, .int .u8 143, .int .u8 0, .int .u8 0, .int .u8 0, .int .u8 0, .int .u8 0, .int .u8 0, .int .u8 0, .int .u8 0, .int .u8 0, .int .u8 0, .int .u8 0, .int .u8 0, .int .u8 0, .int .u8 0, .int .u8 0, .int .u8 0, .int .u8 0, .int .u8 0, .int .u8 0, .int .u8 0, .int .u8 0, .int .u8 0] t frozen
  | o => o
/-- The settled world, unicode/utf8's two tables laid as their initialisers lay them. -/
noncomputable def laidWorld (os : Os) : World :=
  { World.holding Tryz.prog os ⟨#[], #[], []⟩ with heap := ((World.holding Tryz.prog os ⟨#[], #[], []⟩).heap.modify 1 layFirst).modify 2 layRanges }
end Go.Proofs.YtgdlpldngpoadaaGreatDoor
