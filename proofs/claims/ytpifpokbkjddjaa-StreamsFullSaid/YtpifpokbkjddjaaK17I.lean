/- The program's Files: a walk. -/
import Derived.Test.YtpifpokbkjddjaaK17E
import Derived.Test.YtpifpokbkjddjaaTake17
import Derived.Deep.MidRow
import Derived.Laws.MakeOwn
namespace Go.Proofs.Ytpifpokbkjddjaa
open Go.RowKit

theorem keepR {p q : Prop} (_ : p) (h : q) : q := h
theorem info_file : (Try.prog.info? 42).map (fun i => (i.zero, i.size, i.bytes)) = some (some (.agg #[.string ⟨#[]⟩, .string ⟨#[]⟩]), 2, 32) := by kernel_rfl
theorem size_file : (Try.prog.info? 42).map (·.size) = some 2 := by kernel_rfl
theorem setCells_other (b : Nat) : ∀ (vs : List Value) (o : Nat) (w : World) (k : Nat), k ≠ b → (w.setCells b o vs).heap[k]? = w.heap[k]?
  | [], _, _, _, _ => rfl
  | v :: vs, o, w, k, hk => by
    rw [World.setCells, setCells_other b vs (o + 1) _ k hk]
    exact Below.heap_setCell _ _ _ _ hk
theorem setCells_size (b : Nat) : ∀ (vs : List Value) (o : Nat) (w : World), (w.setCells b o vs).heap.size = w.heap.size
  | [], _, _ => rfl
  | v :: vs, o, w => by rw [World.setCells, setCells_size b vs (o + 1) _, World.size_setCell]
theorem setCells_rest (b : Nat) : ∀ (vs : List Value) (o : Nat) (w : World), (w.setCells b o vs).os = w.os ∧ (w.setCells b o vs).tape = w.tape ∧ (w.setCells b o vs).output = w.output
  | [], _, _ => ⟨rfl, rfl, rfl⟩
  | v :: vs, o, w => by rw [World.setCells]; exact setCells_rest b vs (o + 1) _

/-- The first i of n files lie in block g. -/
structure RowF (V : World) (g n i : Nat) (made : List (ByteArray × ByteArray)) : Prop where
  there : V.there g 0 (n * 2)
  cells : ∀ j f, j < i → made[j]? = some f → V.rangeAt g (j * 2) [.string f.1, .string f.2]
theorem RowF.at_ {V : World} {g n i : Nat} {made : List (ByteArray × ByteArray)} (h : RowF V g n i made) (j : Nat) (hj : j < n) : V.there g (j * 2) 2 := fun o ho => by
  have := h.there (j * 2 + o) (by omega)
  rwa [Nat.zero_add] at this
theorem RowF.keep {V V' : World} {g n i : Nat} {made : List (ByteArray × ByteArray)} (h : RowF V g n i made) (hb : V'.heap[g]? = V.heap[g]?) : RowF V' g n i made := by
  have hc : ∀ o, V'.cell? ⟨g, o, none⟩ = V.cell? ⟨g, o, none⟩ := fun o => World.cell?_of_block (a := ⟨g, o, none⟩) hb
  have hz : ∀ o, V'.frozen? ⟨g, o, none⟩ = V.frozen? ⟨g, o, none⟩ := fun o => by
    unfold World.frozen?
    show (match V'.heap[g]? with | some (.cells _ _ (lo, hi)) => decide (lo ≤ o) && decide (o < hi) | _ => false) = (match V.heap[g]? with | some (.cells _ _ (lo, hi)) => decide (lo ≤ o) && decide (o < hi) | _ => false)
    rw [hb]
  exact ⟨fun j hj => by rw [hc, hz]; exact h.there j hj, fun j f hj hf o v hv => by rw [hc]; exact h.cells j f hj hf o v hv⟩
theorem fileK_one (a b : ByteArray) : (#[Value.string a, Value.string b]).all (·.oneCell') = true := by simp [Value.oneCell']
/-- What holds behind i rounds. -/
structure FInv (w : World) (b : Nat) (ρ : Rol) (s : Sst) (d : StD) (g n i : Nat) (V : World) : Prop where
  stv : StV V b ρ s d
  but : ButS (fun k => ∃ q, ρ k = some q) w V
  row : RowF V g n i s.made
theorem FInv.step {w : World} {b : Nat} {ρ : Rol} {s : Sst} {d : StD} {g n i : Nat} {V : World} (h : FInv w b ρ s d g n i V) (hρ : ∀ k q, ρ k = some q → k < w.heap.size) (hg : w.heap.size ≤ g) (hi : i < n) (f : ByteArray × ByteArray) (hf : s.made[i]? = some f) :
    FInv w b ρ s d g n (i + 1) (V.setCells g (i * 2) [.string f.1, .string f.2]) := by
  obtain ⟨e1, e2, e3⟩ := setCells_rest g [.string f.1, .string f.2] (i * 2) V
  refine ⟨h.stv.keep (by rw [setCells_size]; exact Nat.le_refl _) (fun k r hr => setCells_other g _ _ V k (by have := hρ k r hr; omega)), ⟨e1.trans h.but.os, e2.trans h.but.tape, e3.trans h.but.output, by rw [setCells_size]; exact h.but.size, fun k hk hn => ?_⟩, ⟨World.there_setCells h.row.there _ _ _, fun j x hj hx => ?_⟩⟩
  · rw [setCells_other g _ _ V k (by omega)]
    exact h.but.block k hk hn
  · by_cases hji : j = i
    · subst hji
      rw [hf] at hx
      cases hx
      exact World.rangeAt_setCells_same V g (j * 2) _ (h.row.at_ j hi)
    · exact World.rangeAt_setCells_apart (h.row.cells j x (by omega) hx) g (i * 2) _ (Or.inr (Or.inl (by show j * 2 + 2 ≤ i * 2; omega)))
theorem FInv.less {w : World} {b : Nat} {ρ : Rol} {s : Sst} {d : StD} {g n i : Nat} {V : World} (h : FInv w b ρ s d g n (i + 1) V) : FInv w b ρ s d g n i V := ⟨h.stv, h.but, ⟨h.row.there, fun j f hj hf => h.row.cells j f (by omega) hf⟩⟩
/-- What Files tells. -/
def FilesOut (w : World) (b : Nat) (O : Nat → Prop) (s : Sst) (e : Ending) (w' : World) : Prop :=
  ∃ p n cap O', e = .returned (.slice p n cap) ∧ FilesAt w' p n cap s.made ∧ (∀ a, p = some a → w.heap.size ≤ a.block ∧ ¬ O' a.block) ∧ StP w' b O' s ∧ (∀ k, O' k → O k ∨ w.heap.size ≤ k) ∧ ButS O w w'
theorem FInv.out {w : World} {b : Nat} {ρ : Rol} {s : Sst} {d : StD} {g n : Nat} {V : World} {O : Nat → Prop} (h : FInv w b ρ s d g n n V) (hO : ∀ k, O k ↔ (ρ k).isSome = true) (hρ : ∀ k q, ρ k = some q → k < w.heap.size) (hg : w.heap.size ≤ g) (hn : n = s.made.length) (h8 : n ≤ 8) :
    FilesOut w b O s (.returned (.slice (some ⟨g, 0, none⟩) n n)) V := by
  refine ⟨_, _, _, O, rfl, ⟨hn, Nat.le_refl _, by omega, (fun e => by cases e), ?_⟩, ?_, ⟨ρ, d, hO, h.stv⟩, fun k hk => Or.inl hk, h.but.mono fun k ⟨q, hq⟩ => (hO k).2 (by rw [hq]; rfl)⟩
  · refine Or.inr ⟨g, 0, rfl, fun i f hf => ?_⟩
    have hr := h.row.cells i f (by rw [hn]; exact (List.getElem?_eq_some_iff.1 hf).1) hf
    refine ⟨?_, ?_⟩
    · have := hr 0 (.string f.1) rfl
      rw [Nat.zero_add]
      exact this
    · have := hr 1 (.string f.2) rfl
      rw [Nat.zero_add]
      exact this
  · intro a ha
    cases ha
    refine ⟨hg, fun ho => ?_⟩
    obtain ⟨q, hq⟩ := Option.isSome_iff_exists.1 ((hO g).1 ho)
    have := hρ g q hq
    omega

set_option maxRecDepth 100000 in
set_option maxHeartbeats 4000000 in
theorem files_spec (w : World) (b : Nat) (O : Nat → Prop) (s : Sst) (hP : StP w b O s) : Calls Try.prog 13 #[pt b] w (FilesOut w b O s) := by
  obtain ⟨ρ, d, hO, h⟩ := hP
  have H := Lib.hid h
  have HO := Lib.hid hO
  have HI := size_file
  have hlow : Hid (∀ k q, ρ k = some q → k < w.heap.size) := Lib.hid h.low
  have c6 : w.cell? ⟨b, 6, none⟩ = some (.slice d.wp s.made.length d.wc) := (h.top.cell 6).trans rfl
  have hfew := h.few
  obtain ⟨wp, hwp⟩ : ∃ wp, wp = d.wp := ⟨_, rfl⟩
  obtain ⟨wc, hwc⟩ : ∃ wc, wc = d.wc := ⟨_, rfl⟩
  rw [← hwp, ← hwc] at c6
  have HWP := Lib.hid hwp
  have HWC := Lib.hid hwc
  obtain ⟨n, hn⟩ : ∃ n, n = s.made.length := ⟨_, rfl⟩
  rw [← hn] at c6 hfew
  have HN := Lib.hid hn
  obtain ⟨i0, hi0, hz0, hz1, hz2⟩ := info_parts info_file
  obtain ⟨W0, hW0⟩ : ∃ W0, W0 = w.alloc (.cells (madeCells (Value.agg #[.string ⟨#[]⟩, .string ⟨#[]⟩]).cells (n * 2)) 42) := ⟨_, rfl⟩
  have hmk : (Instr.makeSlice 22 (.int .i64 (n : Int)) (.int .i64 (n : Int))).run Try.prog w = .ok (.slice (some ⟨w.heap.size, 0, none⟩) n n) W0 := by
    rw [run_make (P := Try.prog) w _ _ i0 _ Try.underlying22 hi0 hz0 .i64 .i64 (n : Int) (n : Int) (by omega) (Int.le_refl _) (by rw [hz2]; omega) (by omega), hW0, hz1]
    simp
  have HINV : Hid (FInv w b ρ s d w.heap.size n 0 W0) := Lib.hid (by
    have hbel : Below w.heap.size w W0 := by rw [hW0]; exact below_new w _
    refine ⟨h.keep hbel.size (fun k r hr => hbel.block k (h.low k r hr)), ButS.mono (ButS.of hbel) (fun k hk => False.elim (by simpa using hk)), ⟨fun j hj => ?_, fun j f hj => by omega⟩⟩
    have hrow : W0.heap[w.heap.size]? = some (.cells (madeCells (Value.agg #[.string ⟨#[]⟩, .string ⟨#[]⟩]).cells (n * 2)) 42 (0, 0)) := by rw [hW0]; exact heap_alloc_last _ _
    rw [cell_of_row _ _ _ _ _ _ hrow, frozen_of_row _ _ _ _ _ hrow]
    refine ⟨?_, rfl⟩
    rw [Array.getElem?_eq_getElem (by rw [size_madeCells]; omega)]
    rfl)
  have c60 : W0.cell? ⟨b, 6, none⟩ = some (.slice wp n wc) := by
    have := (HINV.out.stv.top.cell 6).trans rfl
    rw [hwp, hn, hwc]; exact this
  obtain ⟨g, hg⟩ : ∃ g, g = w.heap.size := ⟨_, rfl⟩
  rw [← hg] at hmk HINV
  have HG := Lib.hid (Nat.le_of_eq hg.symm)
  clear hwp hwc hn h hO hW0 hg i0 hi0 hz0 hz1 hz2
  show Calls Try.prog _ #[.pointer (some ⟨b, 0, none⟩)] w _
  go_enter Try.func13, Try.ntmps13
  go_wp2_with fail
  clear c6 hmk
  go_loopw [17] (fun y17 wr => ∃ (i : Nat), y17 = .int .i64 i ∧ i ≤ n ∧ Hid (FInv w b ρ s d g n i wr)) (fun y17 _ => n - (intOf y17).toNat)
  case atStart => exact ⟨0, rfl, by omega, HINV⟩
  case round =>
    obtain ⟨i, rfl, hi, HV⟩ := hrel
    clear HINV c60
    by_cases hlt : i < n
    · obtain ⟨gr, x, f, hwp2, hcap, hx, hf, hc, hs, hrl⟩ := HV.out.stv.snk.at_ i (by rw [← HN.out]; exact hlt)
      obtain ⟨k, hk⟩ : ∃ k, k = x.blk := ⟨_, rfl⟩
      have hn2 : n ≤ wc := by have := HN.out; have := HWC.out; omega
      have hwp3 : wp = some ⟨gr, 0, none⟩ := HWP.out.trans hwp2
      subst hwp3
      have HLT : Hid (i < n) := Lib.hid hlt
      have hS0 : wr.cell? ⟨k, 2, none⟩ = some (.string f.1) ∧ Hid (FInv w b ρ s d g n i wr) := ⟨by rw [hk]; exact (hs.cell 2).trans rfl, HV⟩
      have HS : Hid (∀ W, W.cell? ⟨k, 2, none⟩ = some (.string f.1) ∧ Hid (FInv w b ρ s d g n i W) → Calls Try.prog 22 #[.pointer (some ⟨k, 0, none⟩)] W fun e W' => e = .returned (.string f.2) ∧ (W'.cell? ⟨k, 2, none⟩ = some (.string f.1) ∧ Hid (FInv w b ρ s d g n i W'))) := Lib.hid fun W hW => by
        have hv := hW.2.out
        obtain ⟨hs1, hs2, hs3⟩ := hv.stv.snk.sink i x f hx hf
        rw [hk]
        refine (bd_string 53 3 0 x.blk (x.cells f.1) x.v f.2.data.toList W hs1).mono ?_
        rintro e W' ⟨rfl, h1, h2, h3⟩
        refine ⟨rfl, (h1.cell 2).trans rfl, Lib.hid ⟨hv.stv.told_sink i x f hx hf h1 h2, ?_, ?_⟩⟩
        · exact hv.but.trans_ h2 (fun k hk => hk) (fun k _ hk => ⟨_, hs3 k hk⟩)
        · exact hv.row.keep (by
            by_cases hgs : g < W.heap.size
            · exact h2.block g hgs (fun e => by have := hlow.out g _ (hs3 g e); have := HG.out; omega)
            · rw [Array.getElem?_eq_none (by omega), Array.getElem?_eq_none (by omega)])
      have HST : Hid (∀ W, W.cell? ⟨k, 2, none⟩ = some (.string f.1) ∧ Hid (FInv w b ρ s d g n i W) → ((W.setCells g (i * 2) [.string f.1, .string f.2]).cell? ⟨k, 2, none⟩ = some (.string f.1) ∧ Hid (FInv w b ρ s d g n i (W.setCells g (i * 2) [.string f.1, .string f.2]))) ∧ Hid (FInv w b ρ s d g n (i + 1) (W.setCells g (i * 2) [.string f.1, .string f.2]))) := Lib.hid fun W hW => by
        have h1 := hW.2.out.step hlow.out HG.out hlt f hf
        obtain ⟨hs1, _, _⟩ := h1.stv.snk.sink i x f hx hf
        exact ⟨⟨by rw [hk]; exact (hs1.cell 2).trans rfl, Lib.hid h1.less⟩, Lib.hid h1⟩
      have c6 : wr.cell? ⟨b, 6, none⟩ = some (.slice (some ⟨gr, 0, none⟩) n wc) := by
        have h6 : wr.cell? ⟨b, 6, none⟩ = some (.slice d.wp s.made.length d.wc) := (HV.out.stv.top.cell 6).trans rfl
        rw [HN.out, HWC.out, ← hwp2]
        exact h6
      rw [← hk] at hc
      have d1 : decide ((i : Int) < n) = true := decide_eq_true (by omega)
      have d2 : decide (i < n) = true := decide_eq_true hlt
      obtain ⟨f1, f2⟩ := f
      dsimp only at hS0 HS HST
      clear hx hf hs hrl hk hwp2 hcap
      go_upto_region 5 with (fail)
      try simp only [Act.put]
      refine wp_region_held_drew (S := fun W' => W'.cell? ⟨k, 2, none⟩ = some (.string f1) ∧ Hid (FInv w b ρ s d g n i W')) (by kernel_rfl) ?_ (fun hS => ?_)
      · exact ⟨hS0.1, Lib.hid ⟨hS0.2.out.stv.keep (Nat.le_refl _) (fun _ _ _ => rfl), ⟨hS0.2.out.but.os, hS0.2.out.but.tape, hS0.2.out.but.output, hS0.2.out.but.size, hS0.2.out.but.block⟩, ⟨hS0.2.out.row.there, hS0.2.out.row.cells⟩⟩⟩
      clear hS0 HV
      refine takeW (i := 0) (d := 22) (v := .slice (some ⟨g, 0, none⟩) n n) rfl rfl (by kernel_rfl) (by kernel_rfl) (by kernel_rfl) (fun _ _ _ h => h) (by rfl) (fun w' hSw => by obtain ⟨x0, x1⟩ := hSw; go_simp) hS ?_
      simp only [List.setIfInBounds_toArray, List.set_cons_zero, List.set_cons_succ]
      refine takeW (i := 1) (d := 23) (v := .int .i64 i) rfl rfl (by kernel_rfl) (by kernel_rfl) (by kernel_rfl) (fun _ _ _ h => h) (by rfl) (fun w' hSw => by obtain ⟨x0, x1⟩ := hSw; go_simp) hS ?_
      simp only [List.setIfInBounds_toArray, List.set_cons_zero, List.set_cons_succ]
      refine takeW (i := 2) (d := 24) (v := .pointer (some ⟨k, 0, none⟩)) rfl rfl (by kernel_rfl) (by kernel_rfl) (by kernel_rfl) (fun _ _ _ h => h) (by rfl) (fun w' hSw => by obtain ⟨x0, x1⟩ := hSw; go_simp) hS ?_
      simp only [List.setIfInBounds_toArray, List.set_cons_zero, List.set_cons_succ]
      refine takeW (i := 6) (d := 28) (v := .pointer (some ⟨k, 0, none⟩)) rfl rfl (by kernel_rfl) (by kernel_rfl) (by kernel_rfl) (fun _ _ _ h => h) (by rfl) (fun w' hSw => by obtain ⟨x0, x1⟩ := hSw; go_simp) hS ?_
      simp only [List.setIfInBounds_toArray, List.set_cons_zero, List.set_cons_succ]
      refine takeW (i := 3) (d := 25) (v := .pointer (some ⟨k, 0, none⟩)) rfl rfl (by kernel_rfl) (by kernel_rfl) (by kernel_rfl) (fun _ _ _ h => h) (by rfl) (fun w' hSw => by obtain ⟨x0, x1⟩ := hSw; go_simp) hS ?_
      simp only [List.setIfInBounds_toArray, List.set_cons_zero, List.set_cons_succ]
      refine takeW (i := 7) (d := 29) (v := .pointer (some ⟨k, 0, none⟩)) rfl rfl (by kernel_rfl) (by kernel_rfl) (by kernel_rfl) (fun _ _ _ h => h) (by rfl) (fun w' hSw => by obtain ⟨x0, x1⟩ := hSw; go_simp) hS ?_
      simp only [List.setIfInBounds_toArray, List.set_cons_zero, List.set_cons_succ]
      refine takeW (i := 4) (d := 26) (v := .pointer (some ⟨k, 2, none⟩)) rfl rfl (by kernel_rfl) (by kernel_rfl) (by kernel_rfl) (fun _ _ _ h => h) (by rfl) (fun w' hSw => by obtain ⟨x0, x1⟩ := hSw; go_simp) hS ?_
      simp only [List.setIfInBounds_toArray, List.set_cons_zero, List.set_cons_succ]
      refine takeW (i := 8) (d := 30) (v := .pointer (some ⟨k, 0, none⟩)) rfl rfl (by kernel_rfl) (by kernel_rfl) (by kernel_rfl) (fun _ _ _ h => h) (by rfl) (fun w' hSw => by obtain ⟨x0, x1⟩ := hSw; go_simp) hS ?_
      simp only [List.setIfInBounds_toArray, List.set_cons_zero, List.set_cons_succ]
      refine takeW (i := 5) (d := 27) (v := .string f1) rfl rfl (by kernel_rfl) (by kernel_rfl) (by kernel_rfl) (fun _ _ _ h => h) (by rfl) (fun w' hSw => by obtain ⟨x0, x1⟩ := hSw; go_simp) hS ?_
      simp only [List.setIfInBounds_toArray, List.set_cons_zero, List.set_cons_succ]
      refine wpAnyH_ready (rs := [9]) (by kernel_rfl) (by simp) ?_
      refine AllReadyH.cons rfl (fun X hX => ?_) (AllReadyH.nil)
      rw [if_pos (by rfl)]
      go_simp
      refine (HS.out _ hS).mono ?_; rintro e w1 ⟨rfl, b1⟩
      go_wp2_with fail
      refine hX.out _ _ (keepR hS b1) (fun hS9_9 => ?_)
      clear hX X hS b1
      refine takeW (i := 10) (d := 32) (v := .agg #[.string f1, .string f2]) rfl rfl (by kernel_rfl) (by kernel_rfl) (by kernel_rfl) (fun _ _ _ h => h) (by rfl) (fun w' hSw => by obtain ⟨x0, x1⟩ := hSw; go_simp) hS9_9 ?_
      simp only [List.setIfInBounds_toArray, List.set_cons_zero, List.set_cons_succ]
      refine takeW (i := 11) (d := 33) (v := .pointer (some ⟨g, i * 2, none⟩)) rfl rfl (by kernel_rfl) (by kernel_rfl) (by kernel_rfl) (fun _ _ _ h => h) (by rfl) (fun w' hSw => by obtain ⟨x0, x1⟩ := hSw; go_simp) hS9_9 ?_
      simp only [List.setIfInBounds_toArray, List.set_cons_zero, List.set_cons_succ]
      refine wpAnyH_ready (rs := [12]) (by kernel_rfl) (by simp) ?_
      refine AllReadyH.cons rfl (fun X hX => ?_) (AllReadyH.nil)
      rw [if_pos (by rfl)]
      have HN2 := (HST.out _ hS9_9).2; refine wp_store_mid 42 (.tmp 33) (.tmp 32) rfl g (i * 2) #[.string f1, .string f2] rfl rfl (hS9_9.2.out.row.at_ i HLT.out) HI (fileK_one _ _) ?_
      refine hX.out _ _ ((HST.out _ hS9_9).1) (fun hS12_12 => ?_)
      clear hX X hS9_9
      simp only [Act.put]
      refine wpAnyH_done (by kernel_rfl) ?_ _
      clear hS12_12
      go_wp2_with fail
      go_roundw
      case rel => exact ⟨i + 1, by go_num, by omega, HN2⟩
      case measure => simp [intOf]; omega
    · have d1 : decide ((i : Int) < n) = false := decide_eq_false (by omega)
      have d2 : decide (i < n) = false := decide_eq_false hlt
      have hin : i = n := by omega
      subst hin
      have HF := Lib.hid (HV.out.out HO.out hlow.out HG.out HN.out hfew)
      go_wp2_with fail
      go_ret
      exact HF.out
end Go.Proofs.Ytpifpokbkjddjaa

