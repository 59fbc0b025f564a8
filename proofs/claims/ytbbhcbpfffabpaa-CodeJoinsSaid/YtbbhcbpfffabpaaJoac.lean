/- CodeJoins: for every two cells, all cells and every separator the law returns true: joined, as a subscript, as a count they are as the document says (the full form). No condition besides the row's own. -/
import Derived.Test.YtbbhcbpfffabpaaRows
import Derived.Test.YtbbhcbpfffabpaaJoaa
import Derived.Test.YtbbhcbpfffabpaaJoab
import Derived.Test.YtbbhcbpfffabpaaGbe
/- The law CodeJoins over the program's contracts: the walk (gen_c15m.py). -/
namespace Go.Proofs.Ytbbhcbpfffabpaa
open Go.RowKit T3

theorem key_form (sep : ByteArray) (l : List Cel) : ∃ z e, keyF sep l = .tuple #[.string z, .int .i64 e] := by
  have h : ∀ (l : List Cel) (f : Bool) (acc : ByteArray), ∃ z e, keyGo sep f acc l = .tuple #[.string z, .int .i64 e] := by
    intro l
    induction l with
    | nil => intro f acc; exact ⟨acc, 0, rfl⟩
    | cons c l ih =>
      intro f acc
      unfold keyGo
      repeat' split
      all_goals first | exact ⟨_, _, rfl⟩ | exact ih _ _
  exact h l true _
theorem count_form (p : Int × Int) : ∃ i e, countF p = .tuple #[.int .i64 i, .int .i64 e] := by
  unfold countF
  split
  · exact ⟨_, _, rfl⟩
  · exact ⟨_, _, rfl⟩
theorem pick_ok {l : List Cel} (hf : ∀ c, c ∈ l → Fits c.n) : okL (pickC l) := fun c hc => by
  have h := List.mem_filter.1 hc
  exact ⟨hf c (List.mem_of_mem_take h.1), fit_size h.2⟩
theorem pick_fit {l : List Cel} : ∀ c, c ∈ pickC l → fitB c.k c.n c.s = true := fun _ hc => (List.mem_filter.1 hc).2
theorem pick_len (l : List Cel) : (pickC l).length ≤ 6 := by
  have h := List.length_filter_le okC (l.take 6)
  have h2 : (l.take 6).length ≤ 6 := by rw [List.length_take]; omega
  show ((l.take 6).filter okC).length ≤ 6
  omega
/-- The two cells in blocks. -/
structure Jn (w V : World) (b1 b2 : Nat) (cs ds : Array Value) : Prop where
  a : Cx V b1 cs
  r : Cx V b2 ds
  below : Below w.heap.size w V
theorem Jn.after {w V W : World} {b1 b2 : Nat} {cs ds : Array Value} (h : Jn w V b1 b2 cs ds) (hb : Below V.heap.size V W) : Jn w W b1 b2 cs ds := ⟨h.a.after hb, h.r.after hb, Below.step h.below hb⟩
theorem keep6c {w1 w2 : World} {a0 a1 a2 a3 a4 a5 : Addr} {v0 v1 v2 v3 v4 v5 : Value} (h : w1.cell? a0 = some v0 ∧ w1.cell? a1 = some v1 ∧ w1.cell? a2 = some v2 ∧ w1.cell? a3 = some v3 ∧ w1.cell? a4 = some v4 ∧ w1.cell? a5 = some v5) (hb : ∀ a : Addr, (∃ v, w1.cell? a = some v) → (a = a0 ∨ a = a1 ∨ a = a2 ∨ a = a3 ∨ a = a4 ∨ a = a5) → w2.cell? a = w1.cell? a) :
    w2.cell? a0 = some v0 ∧ w2.cell? a1 = some v1 ∧ w2.cell? a2 = some v2 ∧ w2.cell? a3 = some v3 ∧ w2.cell? a4 = some v4 ∧ w2.cell? a5 = some v5 := by
  obtain ⟨e0, e1, e2, e3, e4, e5⟩ := h
  exact ⟨(hb _ ⟨_, e0⟩ (by simp)).trans e0, (hb _ ⟨_, e1⟩ (by simp)).trans e1, (hb _ ⟨_, e2⟩ (by simp)).trans e2, (hb _ ⟨_, e3⟩ (by simp)).trans e3, (hb _ ⟨_, e4⟩ (by simp)).trans e4, (hb _ ⟨_, e5⟩ (by simp)).trans e5⟩

set_option maxRecDepth 100000 in
set_option maxHeartbeats 4000000 in
theorem joins_walk (H : CodeOk) (w : World) (k n : Int) (s : ByteArray) (k2 n2 : Int) (s2 : ByteArray) (p : Option Addr) (ln cap : Nat) (l : List Cel) (sep : ByteArray) (hn : Fits n) (hn2 : Fits n2) (hln : ln ≤ 9223372036854775807) (hlen : ln = l.length)
    (hcells : l = [] ∨ ∃ b off, p = some ⟨b, off, none⟩ ∧ ∀ i c, l[i]? = some c → w.cell? ⟨b, off + i * 3, none⟩ = some (.int .i64 c.k) ∧ w.cell? ⟨b, off + i * 3 + 1, none⟩ = some (.int .i64 c.n) ∧ w.cell? ⟨b, off + i * 3 + 2, none⟩ = some (.string c.s)) (hfit : ∀ c, c ∈ l → Fits c.n) :
    Calls Try.prog 4 #[.agg #[.int .i64 k, .int .i64 n, .string s, .int .i64 k2, .int .i64 n2, .string s2], .slice p ln cap, .string sep] w fun e w' => e = .returned (.bool true) ∧ Below w.heap.size w w' := by
  have HI := info_cell
  have HLV := Lib.hid (fun w => lives15 H w)
  have HF1 := Lib.hid (fun w => fits_any k n s w)
  have HF2 := Lib.hid (fun w => fits_any k2 n2 s2 w)
  have HLC := Lib.hid (fun V (hb : Below w.heap.size w V) => lawCells_any l p ln cap V hln hlen (by
    rcases hcells with h0 | ⟨b, off, hp, hc⟩
    · exact Or.inl h0
    · refine Or.inr ⟨b, off, hp, fun i c hi => ?_⟩
      obtain ⟨h1, h2, h3⟩ := hc i c hi
      have key : ∀ (o : Nat) (v : Value), w.cell? ⟨b, o, none⟩ = some v → V.cell? ⟨b, o, none⟩ = some v := fun o v hv => by rw [hb.cell (p := ⟨b, o, none⟩) (cell_lt hv)]; exact hv
      exact ⟨key _ _ h1, key _ _ h2, key _ _ h3⟩))
  have HOK := Lib.hid (pick_ok hfit)
  have HH := Lib.hid H
  have HNN := Lib.hid (And.intro hn hn2)
  clear H hn hn2 hln hlen hcells hfit
  obtain ⟨W, hW, hX, hB⟩ : ∃ W, W = w.alloc (.cells #[.int .i64 k, .int .i64 n, .string s, .int .i64 k2, .int .i64 n2, .string s2] 31) ∧ Hid (W.heap[w.heap.size]? = some (.cells #[.int .i64 k, .int .i64 n, .string s, .int .i64 k2, .int .i64 n2, .string s2] 31 (0, 0))) ∧ Hid (Below w.heap.size w W) := ⟨_, rfl, Lib.hid (heap_alloc_last w _), Lib.hid (below_new w _)⟩
  go_enter Try.func4, Try.ntmps4
  go_upto_region 1 with (fail)
  change Code.wp _ _ _ _ (w.alloc (.cells #[.int .i64 k, .int .i64 n, .string s, .int .i64 k2, .int .i64 n2, .string s2] 31))
  rw [← hW]
  clear hW
  have H0 : Hid (W.cell? ⟨w.heap.size, 0, none⟩ = some (.int .i64 k) ∧ W.cell? ⟨w.heap.size, 1, none⟩ = some (.int .i64 n) ∧ W.cell? ⟨w.heap.size, 2, none⟩ = some (.string s) ∧ W.cell? ⟨w.heap.size, 3, none⟩ = some (.int .i64 k2) ∧ W.cell? ⟨w.heap.size, 4, none⟩ = some (.int .i64 n2) ∧ W.cell? ⟨w.heap.size, 5, none⟩ = some (.string s2)) := Lib.hid ⟨cell_of_row _ _ 0 _ _ _ hX.out, cell_of_row _ _ 1 _ _ _ hX.out, cell_of_row _ _ 2 _ _ _ hX.out, cell_of_row _ _ 3 _ _ _ hX.out, cell_of_row _ _ 4 _ _ _ hX.out, cell_of_row _ _ 5 _ _ _ hX.out⟩
  have HWl : Hid (w.heap.size < W.heap.size) := Lib.hid (Array.getElem?_eq_some_iff.1 hX.out).1
  clear hX
  go_cut [7, 8] from 21 to 25 (fun x y wx => ∃ b1 b2 : Nat, x = .pointer (some ⟨b1, 0, none⟩) ∧ y = .pointer (some ⟨b2, 0, none⟩) ∧ Hid (Jn w wx b1 b2 (cellC k n s) (cellC k2 n2 s2)))
  case first =>
    refine wp_region_held_drew (S := fun W' => W'.cell? ⟨w.heap.size, 0, none⟩ = some (.int .i64 k) ∧ W'.cell? ⟨w.heap.size, 1, none⟩ = some (.int .i64 n) ∧ W'.cell? ⟨w.heap.size, 2, none⟩ = some (.string s) ∧ W'.cell? ⟨w.heap.size, 3, none⟩ = some (.int .i64 k2) ∧ W'.cell? ⟨w.heap.size, 4, none⟩ = some (.int .i64 n2) ∧ W'.cell? ⟨w.heap.size, 5, none⟩ = some (.string s2)) (by kernel_rfl) ?_ (fun hS => ?_)
    · exact keep6c H0.out fun a ⟨v, hv⟩ _ => (below_drew W).cell (p := a) (cell_lt hv)
    obtain ⟨U, hU, BU⟩ : ∃ U, U = W.drew ∧ Hid (Below W.heap.size W U) := ⟨_, rfl, Lib.hid (below_drew W)⟩
    rw [← hU] at hS ⊢
    have HUl : Hid (w.heap.size < U.heap.size) := Lib.hid (Nat.lt_of_lt_of_le HWl.out BU.out.size)
    clear hU H0
    refine takeW (i := 0) (d := 21) (v := .pointer (some ⟨w.heap.size, 0, none⟩)) rfl rfl (by kernel_rfl) (by kernel_rfl) (by kernel_rfl) (fun _ _ _ h => h) (by rfl) (fun w' hSw => by obtain ⟨x0, x1, x2, x3, x4, x5⟩ := hSw; go_simp) hS ?_
    simp only [List.setIfInBounds_toArray, List.set_cons_zero, List.set_cons_succ]
    refine takeW (i := 1) (d := 22) (v := .agg #[.int .i64 k, .int .i64 n, .string s]) rfl rfl (by kernel_rfl) (by kernel_rfl) (by kernel_rfl) (fun _ _ _ h => h) (by rfl) (fun w' hSw => by obtain ⟨x0, x1, x2, x3, x4, x5⟩ := hSw; go_simp) hS ?_
    simp only [List.setIfInBounds_toArray, List.set_cons_zero, List.set_cons_succ]
    refine takeW (i := 2) (d := 23) (v := .pointer (some ⟨w.heap.size, 3, none⟩)) rfl rfl (by kernel_rfl) (by kernel_rfl) (by kernel_rfl) (fun _ _ _ h => h) (by rfl) (fun w' hSw => by obtain ⟨x0, x1, x2, x3, x4, x5⟩ := hSw; go_simp) hS ?_
    simp only [List.setIfInBounds_toArray, List.set_cons_zero, List.set_cons_succ]
    refine takeW (i := 3) (d := 24) (v := .agg #[.int .i64 k2, .int .i64 n2, .string s2]) rfl rfl (by kernel_rfl) (by kernel_rfl) (by kernel_rfl) (fun _ _ _ h => h) (by rfl) (fun w' hSw => by obtain ⟨x0, x1, x2, x3, x4, x5⟩ := hSw; go_simp) hS ?_
    simp only [List.setIfInBounds_toArray, List.set_cons_zero, List.set_cons_succ]
    refine wpAnyH_ready (rs := [4, 5]) (by kernel_rfl) (by simp) ?_
    refine AllReadyH.cons rfl (fun X hX => ?_) (AllReadyH.cons rfl (fun X hX => ?_) AllReadyH.nil)
    · rw [if_pos (by rfl)]
      try go_simp
      obtain ⟨P1, hP1⟩ : ∃ P1, P1 = U.alloc (.cells zeroC 23) := ⟨_, rfl⟩
      change X _ (U.alloc (.cells zeroC 23))
      rw [← hP1]
      have BP1 : Hid (Below U.heap.size U P1) := Lib.hid (by rw [hP1]; exact below_new _ _)
      have CP1 : Hid (Cx P1 U.heap.size zeroC) := Lib.hid (by rw [hP1]; exact ⟨heap_alloc_last _ _⟩)
      have ZP1 : Hid (P1.heap.size = U.heap.size + 1) := Lib.hid (by rw [hP1]; exact World.size_alloc _ _)
      refine hX.out _ _ (keep6c hS fun a ⟨v, hv⟩ _ => BP1.out.cell (p := a) (cell_lt hv)) (fun hSP1 => ?_)
      clear hX X hS hP1
      try simp only [Act.put]
      try simp only [List.setIfInBounds_toArray, List.set_cons_zero, List.set_cons_succ]
      refine wpAnyH_ready (rs := [5]) (by kernel_rfl) (by simp) ?_
      refine AllReadyH.cons rfl (fun X hX => ?_) AllReadyH.nil
      rw [if_pos (by rfl)]
      try go_simp
      obtain ⟨P2, hP2⟩ : ∃ P2, P2 = P1.alloc (.cells zeroC 23) := ⟨_, rfl⟩
      change X _ (P1.alloc (.cells zeroC 23))
      rw [← hP2]
      have BP2 : Hid (Below P1.heap.size P1 P2) := Lib.hid (by rw [hP2]; exact below_new _ _)
      have CP2 : Hid (Cx P2 P1.heap.size zeroC) := Lib.hid (by rw [hP2]; exact ⟨heap_alloc_last _ _⟩)
      have ZP2 : Hid (P2.heap.size = P1.heap.size + 1) := Lib.hid (by rw [hP2]; exact World.size_alloc _ _)
      refine hX.out _ _ (keep6c hSP1 fun a ⟨v, hv⟩ _ => BP2.out.cell (p := a) (cell_lt hv)) (fun hSP2 => ?_)
      clear hX X hSP1 hP2
      try simp only [Act.put]
      try simp only [List.setIfInBounds_toArray, List.set_cons_zero, List.set_cons_succ]
      refine wpAnyH_ready (rs := [6]) (by kernel_rfl) (by simp) ?_
      refine AllReadyH.cons rfl (fun X hX => ?_) AllReadyH.nil
      rw [if_pos (by rfl)]
      refine wp_store_row 23 (.tmp 7) (.tmp 22) rfl U.heap.size (cellC k n s) rfl rfl 23 zeroC (CP1.out.after BP2.out).row HI rfl (cell_one3 _ _ _) ?_
      obtain ⟨P3, hP3⟩ : ∃ P3, P3 = P2.setRow U.heap.size (cellC k n s) := ⟨_, rfl⟩
      rw [← hP3]
      have OP3 : Hid (∀ j, j ≠ U.heap.size → P3.heap[j]? = P2.heap[j]?) := Lib.hid (fun j hj => by rw [hP3]; exact Go.setRow_other _ _ _ _ hj)
      have NP3 : Hid (Cx P3 U.heap.size (cellC k n s)) := Lib.hid (by rw [hP3]; exact Cx.setRow (cs := zeroC) ⟨(CP1.out.after BP2.out).row⟩ _)
      have QP3 : Hid (∀ B, B ≤ U.heap.size → ∀ w0 : World, Below B w0 P2 → Below B w0 P3) := Lib.hid (fun B hB w0 h0 => by rw [hP3]; exact below_row h0 hB _)
      refine hX.out _ _ (keep6c hSP2 fun a ⟨v, hv⟩ ha => World.cell?_of_block (a := a) (OP3.out a.block (by have h1 : a.block = w.heap.size := (by rcases ha with rfl | rfl | rfl | rfl | rfl | rfl <;> rfl); have := HUl.out; have := ZP1.out; omega))) (fun hSP3 => ?_)
      clear hX X hSP2 hP3
      try simp only [Act.put]
      have hne : P1.heap.size ≠ U.heap.size := by have := ZP1.out; omega
      have hr8 := (OP3.out _ hne).trans CP2.out.row
      refine wpAnyH_ready (rs := [7]) (by kernel_rfl) (by simp) ?_
      refine AllReadyH.cons rfl (fun X hX => ?_) AllReadyH.nil
      rw [if_pos (by rfl)]
      refine wp_store_row 23 (.tmp 8) (.tmp 24) rfl P1.heap.size (cellC k2 n2 s2) rfl rfl 23 zeroC hr8 HI rfl (cell_one3 _ _ _) ?_
      obtain ⟨P4, hP4⟩ : ∃ P4, P4 = P3.setRow P1.heap.size (cellC k2 n2 s2) := ⟨_, rfl⟩
      rw [← hP4]
      have OP4 : Hid (∀ j, j ≠ P1.heap.size → P4.heap[j]? = P3.heap[j]?) := Lib.hid (fun j hj => by rw [hP4]; exact Go.setRow_other _ _ _ _ hj)
      have NP4 : Hid (Cx P4 P1.heap.size (cellC k2 n2 s2)) := Lib.hid (by rw [hP4]; exact Cx.setRow (cs := zeroC) ⟨hr8⟩ _)
      have QP4 : Hid (∀ B, B ≤ P1.heap.size → ∀ w0 : World, Below B w0 P3 → Below B w0 P4) := Lib.hid (fun B hB w0 h0 => by rw [hP4]; exact below_row h0 hB _)
      refine hX.out _ _ (keep6c hSP3 fun a ⟨v, hv⟩ ha => World.cell?_of_block (a := a) (OP4.out a.block (by have h1 : a.block = w.heap.size := (by rcases ha with rfl | rfl | rfl | rfl | rfl | rfl <;> rfl); have := HUl.out; have := ZP1.out; omega))) (fun hSP4 => ?_)
      clear hX X hSP3 hP4
      try simp only [Act.put]
      refine wpAnyH_done (by kernel_rfl) ?_ _
      clear hSP4
      go_wp2_with fail
      go_meet
      refine ⟨U.heap.size, P1.heap.size, rfl, rfl, Lib.hid ⟨⟨(OP4.out _ (Ne.symm hne)).trans NP3.out.row⟩, NP4.out, ?_⟩⟩
      have h1 : Below w.heap.size w P2 := Below.step (Below.step (Below.step hB.out BU.out) BP1.out) BP2.out
      exact QP4.out _ (by have := HUl.out; have := ZP1.out; omega) _ (QP3.out _ (by have := HUl.out; have := ZP1.out; omega) _ h1)
    · rw [if_pos (by rfl)]
      try go_simp
      obtain ⟨P1, hP1⟩ : ∃ P1, P1 = U.alloc (.cells zeroC 23) := ⟨_, rfl⟩
      change X _ (U.alloc (.cells zeroC 23))
      rw [← hP1]
      have BP1 : Hid (Below U.heap.size U P1) := Lib.hid (by rw [hP1]; exact below_new _ _)
      have CP1 : Hid (Cx P1 U.heap.size zeroC) := Lib.hid (by rw [hP1]; exact ⟨heap_alloc_last _ _⟩)
      have ZP1 : Hid (P1.heap.size = U.heap.size + 1) := Lib.hid (by rw [hP1]; exact World.size_alloc _ _)
      refine hX.out _ _ (keep6c hS fun a ⟨v, hv⟩ _ => BP1.out.cell (p := a) (cell_lt hv)) (fun hSP1 => ?_)
      clear hX X hS hP1
      try simp only [Act.put]
      try simp only [List.setIfInBounds_toArray, List.set_cons_zero, List.set_cons_succ]
      refine wpAnyH_ready (rs := [4]) (by kernel_rfl) (by simp) ?_
      refine AllReadyH.cons rfl (fun X hX => ?_) AllReadyH.nil
      rw [if_pos (by rfl)]
      try go_simp
      obtain ⟨P2, hP2⟩ : ∃ P2, P2 = P1.alloc (.cells zeroC 23) := ⟨_, rfl⟩
      change X _ (P1.alloc (.cells zeroC 23))
      rw [← hP2]
      have BP2 : Hid (Below P1.heap.size P1 P2) := Lib.hid (by rw [hP2]; exact below_new _ _)
      have CP2 : Hid (Cx P2 P1.heap.size zeroC) := Lib.hid (by rw [hP2]; exact ⟨heap_alloc_last _ _⟩)
      have ZP2 : Hid (P2.heap.size = P1.heap.size + 1) := Lib.hid (by rw [hP2]; exact World.size_alloc _ _)
      refine hX.out _ _ (keep6c hSP1 fun a ⟨v, hv⟩ _ => BP2.out.cell (p := a) (cell_lt hv)) (fun hSP2 => ?_)
      clear hX X hSP1 hP2
      try simp only [Act.put]
      try simp only [List.setIfInBounds_toArray, List.set_cons_zero, List.set_cons_succ]
      refine wpAnyH_ready (rs := [6]) (by kernel_rfl) (by simp) ?_
      refine AllReadyH.cons rfl (fun X hX => ?_) AllReadyH.nil
      rw [if_pos (by rfl)]
      refine wp_store_row 23 (.tmp 7) (.tmp 22) rfl P1.heap.size (cellC k n s) rfl rfl 23 zeroC CP2.out.row HI rfl (cell_one3 _ _ _) ?_
      obtain ⟨P3, hP3⟩ : ∃ P3, P3 = P2.setRow P1.heap.size (cellC k n s) := ⟨_, rfl⟩
      rw [← hP3]
      have OP3 : Hid (∀ j, j ≠ P1.heap.size → P3.heap[j]? = P2.heap[j]?) := Lib.hid (fun j hj => by rw [hP3]; exact Go.setRow_other _ _ _ _ hj)
      have NP3 : Hid (Cx P3 P1.heap.size (cellC k n s)) := Lib.hid (by rw [hP3]; exact Cx.setRow (cs := zeroC) ⟨CP2.out.row⟩ _)
      have QP3 : Hid (∀ B, B ≤ P1.heap.size → ∀ w0 : World, Below B w0 P2 → Below B w0 P3) := Lib.hid (fun B hB w0 h0 => by rw [hP3]; exact below_row h0 hB _)
      refine hX.out _ _ (keep6c hSP2 fun a ⟨v, hv⟩ ha => World.cell?_of_block (a := a) (OP3.out a.block (by have h1 : a.block = w.heap.size := (by rcases ha with rfl | rfl | rfl | rfl | rfl | rfl <;> rfl); have := HUl.out; have := ZP1.out; omega))) (fun hSP3 => ?_)
      clear hX X hSP2 hP3
      try simp only [Act.put]
      have hne : U.heap.size ≠ P1.heap.size := by have := ZP1.out; omega
      have hr8 := (OP3.out _ hne).trans (CP1.out.after BP2.out).row
      refine wpAnyH_ready (rs := [7]) (by kernel_rfl) (by simp) ?_
      refine AllReadyH.cons rfl (fun X hX => ?_) AllReadyH.nil
      rw [if_pos (by rfl)]
      refine wp_store_row 23 (.tmp 8) (.tmp 24) rfl U.heap.size (cellC k2 n2 s2) rfl rfl 23 zeroC hr8 HI rfl (cell_one3 _ _ _) ?_
      obtain ⟨P4, hP4⟩ : ∃ P4, P4 = P3.setRow U.heap.size (cellC k2 n2 s2) := ⟨_, rfl⟩
      rw [← hP4]
      have OP4 : Hid (∀ j, j ≠ U.heap.size → P4.heap[j]? = P3.heap[j]?) := Lib.hid (fun j hj => by rw [hP4]; exact Go.setRow_other _ _ _ _ hj)
      have NP4 : Hid (Cx P4 U.heap.size (cellC k2 n2 s2)) := Lib.hid (by rw [hP4]; exact Cx.setRow (cs := zeroC) ⟨hr8⟩ _)
      have QP4 : Hid (∀ B, B ≤ U.heap.size → ∀ w0 : World, Below B w0 P3 → Below B w0 P4) := Lib.hid (fun B hB w0 h0 => by rw [hP4]; exact below_row h0 hB _)
      refine hX.out _ _ (keep6c hSP3 fun a ⟨v, hv⟩ ha => World.cell?_of_block (a := a) (OP4.out a.block (by have h1 : a.block = w.heap.size := (by rcases ha with rfl | rfl | rfl | rfl | rfl | rfl <;> rfl); have := HUl.out; have := ZP1.out; omega))) (fun hSP4 => ?_)
      clear hX X hSP3 hP4
      try simp only [Act.put]
      refine wpAnyH_done (by kernel_rfl) ?_ _
      clear hSP4
      go_wp2_with fail
      go_meet
      refine ⟨P1.heap.size, U.heap.size, rfl, rfl, Lib.hid ⟨⟨(OP4.out _ (Ne.symm hne)).trans NP3.out.row⟩, NP4.out, ?_⟩⟩
      have h1 : Below w.heap.size w P2 := Below.step (Below.step (Below.step hB.out BU.out) BP1.out) BP2.out
      exact QP4.out _ (by have := HUl.out; have := ZP1.out; omega) _ (QP3.out _ (by have := HUl.out; have := ZP1.out; omega) _ h1)
  case rest =>
    obtain ⟨b1, b2, rfl, rfl, HR⟩ := hcut
    clear hB H0 HWl W
    obtain ⟨fa, hfa⟩ : ∃ fa, fa = fitB k n s := ⟨_, rfl⟩
    obtain ⟨fb, hfb⟩ : ∃ fb, fb = fitB k2 n2 s2 := ⟨_, rfl⟩
    rw [← hfa] at HF1
    rw [← hfb] at HF2
    have HFA := Lib.hid hfa
    have HFB := Lib.hid hfb
    clear hfa hfb
    obtain ⟨a0, a1, a2⟩ := three_of HR.out.a
    obtain ⟨c0, c1, c2⟩ := three_of HR.out.r
    go_wp2_with fail
    refine (HF1.out _).mono ?_
    rintro e u0 ⟨rfl, bb⟩
    have R1 := Lib.hid (HR.out.after bb)
    clear bb a0 a1 a2 c0 c1 c2 HR
    cases fa with
    | false =>
      obtain ⟨a0, a1, a2⟩ := three_of R1.out.a
      obtain ⟨c0, c1, c2⟩ := three_of R1.out.r
      go_wp2_with fail
      refine (HLV.out _).mono ?_
      rintro e u1 ⟨rfl, bb⟩
      have R2 := Lib.hid (R1.out.after bb)
      clear bb a0 a1 a2 c0 c1 c2 R1
      go_wp2_with fail
      go_ret
      exact ⟨rfl, R2.out.below⟩
    | true =>
      obtain ⟨a0, a1, a2⟩ := three_of R1.out.a
      obtain ⟨c0, c1, c2⟩ := three_of R1.out.r
      go_wp2_with fail
      refine (HF2.out _).mono ?_
      rintro e u1 ⟨rfl, bb⟩
      have R2 := Lib.hid (R1.out.after bb)
      clear bb a0 a1 a2 c0 c1 c2 R1
      cases fb with
      | false =>
        obtain ⟨a0, a1, a2⟩ := three_of R2.out.a
        obtain ⟨c0, c1, c2⟩ := three_of R2.out.r
        go_wp2_with fail
        refine (HLV.out _).mono ?_
        rintro e u2 ⟨rfl, bb⟩
        have R3 := Lib.hid (R2.out.after bb)
        clear bb a0 a1 a2 c0 c1 c2 R2
        go_wp2_with fail
        go_ret
        exact ⟨rfl, R3.out.below⟩
      | true =>
        by_cases hsep : sep.size ≤ 300
        case neg =>
          have d1 : decide ((300 : Int) < (sep.size : Int)) = true := decide_eq_true (by omega)
          clear hsep
          obtain ⟨a0, a1, a2⟩ := three_of R2.out.a
          obtain ⟨c0, c1, c2⟩ := three_of R2.out.r
          go_wp2_with fail
          refine (HLV.out _).mono ?_
          rintro e u2 ⟨rfl, bb⟩
          have R3 := Lib.hid (R2.out.after bb)
          clear bb a0 a1 a2 c0 c1 c2 R2
          go_wp2_with fail
          go_ret
          exact ⟨rfl, R3.out.below⟩
        have d1 : decide ((300 : Int) < (sep.size : Int)) = false := decide_eq_false (by omega)
        obtain ⟨k3, n3, s3, e3, hJ⟩ := strA_form (strC k n s ++ strC k2 n2 s2)
        obtain ⟨z4, e4, hK⟩ := key_form sep (pickC l)
        obtain ⟨i5, e5, hC⟩ := count_form (numL k n s)
        have HJ := Lib.hid (fun w => by have h := HH.out.join k n s k2 n2 s2 w HNN.out.1 HNN.out.2 (fit_can HFA.out.symm) (fit_can HFB.out.symm) (Nat.le_trans (fit_size HFA.out.symm) (by decide)) (Nat.le_trans (fit_size HFB.out.symm) (by decide)); rw [hJ] at h; exact h)
        have HRJ := Lib.hid (fun w => by have h := refJoin_any k n s k2 n2 s2 HNN.out.1 HNN.out.2 (Nat.le_trans (fit_size HFA.out.symm) (by decide)) (Nat.le_trans (fit_size HFB.out.symm) (by decide)) w; rw [hJ] at h; exact h)
        have HK := Lib.hid (fun w q m c (hc : CellsAt w q m c (pickC l)) => by have h := HH.out.key (pickC l) q m c sep w hsep HOK.out pick_fit hc; rw [hK] at h; exact h)
        have HRK := Lib.hid (fun w q m c (hc : CellsAt w q m c (pickC l)) => by have h := refKey_any (pickC l) q m c sep hsep HOK.out w hc; rw [hK] at h; exact h)
        have HC := Lib.hid (fun w => by have h := HH.out.count k n s w HNN.out.1 HFA.out.symm; rw [hC] at h; exact h)
        have HRC := Lib.hid (fun w => by have h := refCount_any k n s HNN.out.1 (fit_size HFA.out.symm) w; rw [hC] at h; exact h)
        clear hsep hJ hK hC
        obtain ⟨a0, a1, a2⟩ := three_of R2.out.a
        obtain ⟨c0, c1, c2⟩ := three_of R2.out.r
        go_wp2_with fail
        refine (HLC.out _ R2.out.below).mono ?_
        rintro e u2 ⟨q, c, rfl, hO, bb⟩
        have R3 := Lib.hid (R2.out.after bb)
        clear bb a0 a1 a2 c0 c1 c2 R2
        have HPL : Hid ((pickC l).length ≤ 6) := Lib.hid (pick_len l)
        obtain ⟨ml, hml⟩ : ∃ ml, ml = (pickC l).length := ⟨_, rfl⟩
        rw [← hml] at hO HPL ⊢
        have HML := Lib.hid hml
        clear hml
        obtain ⟨a0, a1, a2⟩ := three_of R3.out.a
        obtain ⟨c0, c1, c2⟩ := three_of R3.out.r
        go_wp2_with fail
        refine (HJ.out _).mono ?_
        rintro e u3 ⟨rfl, bb⟩
        have R4 := Lib.hid (R3.out.after bb)
        have O4 := Lib.hid (own_below hO.out bb)
        unfold twoC
        clear bb a0 a1 a2 c0 c1 c2 R3 hO
        go_upto_region 6 with (refine wpList_store_row rfl 23 (.tmp 9) (.tmp 45) rfl u3.heap.size (cellC k3 n3 s3) rfl rfl 23 zeroC (heap_alloc_last _ _) HI rfl (cell_one3 _ _ _) ?_)
        obtain ⟨z4, hz, X4, BZ⟩ : ∃ Z, Z = (u3.alloc (.cells zeroC 23)).setRow u3.heap.size (cellC k3 n3 s3) ∧ Hid (Cx Z u3.heap.size (cellC k3 n3 s3)) ∧ Hid (Below u3.heap.size u3 Z) :=
          ⟨_, rfl, Lib.hid (Cx.setRow (cs := zeroC) ⟨heap_alloc_last _ _⟩ _), Lib.hid (below_row (below_new u3 _) (Nat.le_refl _) _)⟩
        change Code.wp _ _ _ _ ((u3.alloc (.cells zeroC 23)).setRow u3.heap.size (cellC k3 n3 s3))
        rw [← hz]
        try simp only [Act.put]
        have R5 := Lib.hid (R4.out.after BZ.out)
        have O5 := Lib.hid (own_below O4.out BZ.out)
        clear hz BZ R4 O4
        obtain ⟨a0, a1, a2⟩ := three_of R5.out.a
        obtain ⟨c0, c1, c2⟩ := three_of R5.out.r
        obtain ⟨x00, x01, x02⟩ := three_of X4.out
        go_wp2_with fail
        refine (HRJ.out _).mono ?_
        rintro e u5 ⟨rfl, bb⟩
        have R6 := Lib.hid (R5.out.after bb)
        have Y6_0 := Lib.hid (X4.out.after bb)
        have O6 := Lib.hid (own_below O5.out bb)
        unfold twoC
        clear bb a0 a1 a2 c0 c1 c2 x00 x01 x02 R5 X4 O5
        go_upto_region 7 with (refine wpList_store_row rfl 23 (.tmp 11) (.tmp 51) rfl u5.heap.size (cellC k3 n3 s3) rfl rfl 23 zeroC (heap_alloc_last _ _) HI rfl (cell_one3 _ _ _) ?_)
        obtain ⟨z6, hz, X6, BZ⟩ : ∃ Z, Z = (u5.alloc (.cells zeroC 23)).setRow u5.heap.size (cellC k3 n3 s3) ∧ Hid (Cx Z u5.heap.size (cellC k3 n3 s3)) ∧ Hid (Below u5.heap.size u5 Z) :=
          ⟨_, rfl, Lib.hid (Cx.setRow (cs := zeroC) ⟨heap_alloc_last _ _⟩ _), Lib.hid (below_row (below_new u5 _) (Nat.le_refl _) _)⟩
        change Code.wp _ _ _ _ ((u5.alloc (.cells zeroC 23)).setRow u5.heap.size (cellC k3 n3 s3))
        rw [← hz]
        try simp only [Act.put]
        have R7 := Lib.hid (R6.out.after BZ.out)
        have Y7_0 := Lib.hid (Y6_0.out.after BZ.out)
        have O7 := Lib.hid (own_below O6.out BZ.out)
        clear hz BZ R6 Y6_0 O6
        obtain ⟨a0, a1, a2⟩ := three_of R7.out.a
        obtain ⟨c0, c1, c2⟩ := three_of R7.out.r
        obtain ⟨x00, x01, x02⟩ := three_of Y7_0.out
        obtain ⟨x10, x11, x12⟩ := three_of X6.out
        have hmle : ml ≤ 1000000 := Nat.le_trans HPL.out (by decide)
        have hCL : CellsAt z6 q ml c (pickC l) := own_read O7.out HML.out
        go_wp2_with (at_builtin; (refine wp_copy_cells rfl _ _ rfl z6 q ml c (pickC l) rfl rfl hCL hmle ?_; intro p7 c7 u7 h7))
        have bb := h7.out.2.2.1
        have R9 := Lib.hid (R7.out.after bb)
        have Y9_0 := Lib.hid (Y7_0.out.after bb)
        have Y9_1 := Lib.hid (X6.out.after bb)
        have O9 := Lib.hid (own_below O7.out bb)
        have HC7 := Lib.hid h7.out.1
        clear bb h7 hCL a0 a1 a2 c0 c1 c2 x00 x01 x02 x10 x11 x12 R7 Y7_0 X6 O7
        obtain ⟨a0, a1, a2⟩ := three_of R9.out.a
        obtain ⟨c0, c1, c2⟩ := three_of R9.out.r
        obtain ⟨x00, x01, x02⟩ := three_of Y9_0.out
        obtain ⟨x10, x11, x12⟩ := three_of Y9_1.out
        go_wp2_with fail
        refine (HK.out _ _ _ _ HC7.out).mono ?_
        rintro e u9 ⟨rfl, bb⟩
        have R10 := Lib.hid (R9.out.after bb)
        have Y10_0 := Lib.hid (Y9_0.out.after bb)
        have Y10_1 := Lib.hid (Y9_1.out.after bb)
        have O10 := Lib.hid (own_below O9.out bb)
        clear bb HC7 a0 a1 a2 c0 c1 c2 x00 x01 x02 x10 x11 x12 R9 Y9_0 Y9_1 O9
        obtain ⟨a0, a1, a2⟩ := three_of R10.out.a
        obtain ⟨c0, c1, c2⟩ := three_of R10.out.r
        obtain ⟨x00, x01, x02⟩ := three_of Y10_0.out
        obtain ⟨x10, x11, x12⟩ := three_of Y10_1.out
        have hCL : CellsAt u9 q ml c (pickC l) := own_read O10.out HML.out
        go_wp2_with fail
        refine (HRK.out _ _ _ _ hCL).mono ?_
        rintro e u10 ⟨rfl, bb⟩
        have R11 := Lib.hid (R10.out.after bb)
        have Y11_0 := Lib.hid (Y10_0.out.after bb)
        have Y11_1 := Lib.hid (Y10_1.out.after bb)
        have O11 := Lib.hid (own_below O10.out bb)
        clear bb hCL a0 a1 a2 c0 c1 c2 x00 x01 x02 x10 x11 x12 R10 Y10_0 Y10_1 O10
        obtain ⟨a0, a1, a2⟩ := three_of R11.out.a
        obtain ⟨c0, c1, c2⟩ := three_of R11.out.r
        obtain ⟨x00, x01, x02⟩ := three_of Y11_0.out
        obtain ⟨x10, x11, x12⟩ := three_of Y11_1.out
        go_wp2_with fail
        refine (HC.out _).mono ?_
        rintro e u11 ⟨rfl, bb⟩
        have R12 := Lib.hid (R11.out.after bb)
        have Y12_0 := Lib.hid (Y11_0.out.after bb)
        have Y12_1 := Lib.hid (Y11_1.out.after bb)
        have O12 := Lib.hid (own_below O11.out bb)
        clear bb a0 a1 a2 c0 c1 c2 x00 x01 x02 x10 x11 x12 R11 Y11_0 Y11_1 O11
        obtain ⟨a0, a1, a2⟩ := three_of R12.out.a
        obtain ⟨c0, c1, c2⟩ := three_of R12.out.r
        obtain ⟨x00, x01, x02⟩ := three_of Y12_0.out
        obtain ⟨x10, x11, x12⟩ := three_of Y12_1.out
        go_wp2_with fail
        refine (HRC.out _).mono ?_
        rintro e u12 ⟨rfl, bb⟩
        have R13 := Lib.hid (R12.out.after bb)
        have Y13_0 := Lib.hid (Y12_0.out.after bb)
        have Y13_1 := Lib.hid (Y12_1.out.after bb)
        have O13 := Lib.hid (own_below O12.out bb)
        clear bb a0 a1 a2 c0 c1 c2 x00 x01 x02 x10 x11 x12 R12 Y12_0 Y12_1 O12
        obtain ⟨a0, a1, a2⟩ := three_of R13.out.a
        obtain ⟨c0, c1, c2⟩ := three_of R13.out.r
        obtain ⟨x00, x01, x02⟩ := three_of Y13_0.out
        obtain ⟨x10, x11, x12⟩ := three_of Y13_1.out
        go_wp2_with fail
        refine (HLV.out _).mono ?_
        rintro e u13 ⟨rfl, bb⟩
        have R14 := Lib.hid (R13.out.after bb)
        have Y14_0 := Lib.hid (Y13_0.out.after bb)
        have Y14_1 := Lib.hid (Y13_1.out.after bb)
        have O14 := Lib.hid (own_below O13.out bb)
        clear bb a0 a1 a2 c0 c1 c2 x00 x01 x02 x10 x11 x12 R13 Y13_0 Y13_1 O13
        go_wp2_with fail
        go_ret
        exact ⟨rfl, R14.out.below⟩
end Go.Proofs.Ytbbhcbpfffabpaa

namespace Go.Proofs.Ytbbhcbpfffabpaa.codeJoins
open Go.ChangeShapes Go.WideShapes Go.ChangeAt Go.RowKit Go.ChangeMaps

set_option maxRecDepth 100000 in
theorem lifted (os : Os) (started : os.Started) (H : Type) (enc : TypeId × Value → H) :
    ReturnsInHanded {} Try.checked os 4 .any (Rows.codeJoinsSpec.pre6 enc Try.prog Try.f4 Rows.codeJoinsRow.domain false) (Rows.codeJoinsSpec.post enc Try.prog Try.f4 false true false false) := by
  refine returnsInHanded_of_change_shaped (C := Try.checked) T3.own started (by kernel_rfl) Try.func4
    (ChangeSpec.witness6 (enc := enc) (C := Try.checked) false ⟨#[], #[.agg #[.int .i64 0, .int .i64 0, .string ⟨#[]⟩, .int .i64 0, .int .i64 0, .string ⟨#[]⟩], .slice none 0 0, .string ⟨#[]⟩], []⟩ 8 (by kernel_rfl) (by kernel_rfl) (by kernel_rfl) (by kernel_rfl)) ?_
  intro W base args ds gs before hval0 hW _ _ hsh _
  have hval : ∀ (j : Nat) t v, Try.f4.params[j]? = some t → args[j]? = some v → Value.okWide Try.prog W .any base t v := hval0
  have hW' := hW
  obtain ⟨p, q, hA0, hV, rfl, hfz, hnd⟩ := hW
  have hA : DataW.TrodAll enc Try.prog W 0 (fun _ => true) true Try.f4.params.toList args.toList ds p := hA0
  rw [Try.params4] at hA hval
  obtain ⟨v0, vs0, d0, ds0, p0, q_0, hargs, rfl, rfl, h0, r0⟩ := trodAll_cons hA
  obtain ⟨v1, vs1, d1, ds1, p1, q_1, rfl, rfl, rfl, h1, r1⟩ := trodAll_cons r0
  obtain ⟨v2, vs2, d2, ds2, p2, q_2, rfl, rfl, rfl, h2, r2⟩ := trodAll_cons r1
  obtain ⟨rfl, rfl, rfl⟩ := trodAll_nil r2
  obtain rfl : args = #[v0, v1, v2] := by cases args; simp_all
  obtain ⟨rfl, rfl⟩ := trodVars_none hV
  have hk0 := h0
  obtain ⟨a0, b0, rfl, fa0, fb0⟩ := open_two2 (hval 0 31 v0 rfl rfl) h0
  have hk1 := h1
  obtain ⟨q1, n1, c1, l1, rfl, w1⟩ := open_cells (hval 1 32 v1 rfl rfl) h1
  have hk2 := h2
  obtain ⟨a2, rfl, rfl, rfl, w2⟩ := open_string Try.underlying9 (hval 2 9 v2 rfl rfl) h2
  clear hA0 hval0
  simp only [List.append_nil] at hW'
  refine (joins_walk codeOk W a0.k a0.n a0.s b0.k b0.n b0.s q1 n1 c1 l1 a2 fa0 fb0 w1.big w1.len w1.cells w1.fits).mono fun e W' ⟨he, hg⟩ => ?_
  subst he
  have hlt : ∀ x ∈ p0 ++ p1, x.block < W.heap.size := fun x hx => hW'.lt x (by simpa using hx)
  exact ⟨_, rfl, post_reads hW' (fun _ _ _ => (trodAll_cons_mk (shut_bool Try.underlying4 _) trodAll_mk0)) (fun sp hsp => by
    have h := (trodAll_cons_mk (Go.WideElems.Trod_stays laid_out (by kernel_rfl) (of_decide_eq_true (by kernel_rfl)) hk0 (fun x hx => hg.same (hlt x (by simp [hx]))) (fun x hx => hsp x (by simp [hx]))) (trodAll_cons_mk (Go.WideElems.Trod_stays laid_out (by kernel_rfl) (of_decide_eq_true (by kernel_rfl)) hk1 (fun x hx => hg.same (hlt x (by simp [hx]))) (fun x hx => hsp x (by simp [hx]))) (trodAll_cons_mk (Go.WideElems.Trod_stays laid_out (by kernel_rfl) (of_decide_eq_true (by kernel_rfl)) hk2 (fun x hx => absurd hx (by simp)) (fun x hx => absurd hx (by simp))) (trodAll_mk0 (enc := enc) (P := Try.prog) (w := W') (base := 0) (spare := sp) (held := true)))))
    simp only [List.append_nil] at h
    exact h) (fun _ => rfl) hg⟩

theorem proved : Rows.CodeJoinsSaid :=
  OpenClaim.holds_of_wide 4 Try.f4 rfl rfl rfl rfl rfl rfl rfl ⟨rfl, rfl, rfl, rfl, rfl⟩ rfl rfl rfl rfl rfl (by kernel_rfl) Try.func4 (by kernel_rfl)
    (of_decide_eq_true (by kernel_rfl)) (by unfold Func.isWrapper; first | (rw [if_pos (by decide +kernel)]; kernel_rfl) | (rw [if_neg (by decide +kernel)]; exact ⟨rfl, rfl⟩))
    (fun os started H enc _ => lifted os started H enc)
#print axioms proved
end Go.Proofs.Ytbbhcbpfffabpaa.codeJoins
