/- A strings.Builder within a struct on the heap, at any offset: copyCheck, WriteString, String, Len: walks, with what they leave as it was. -/
import Derived.Test.YtpifpokbkjddjaaS17A
import Derived.Test.YtpifpokbkjddjaaK17S
import Derived.Laws.Externs
import Derived.Lib.FrozenHead2
import Derived.ChangeAlike
namespace Go.Proofs.Ytpifpokbkjddjaa
open Go.RowKit

theorem info_builder : (Try.prog.info? 51).map (·.size) = some 2 := by kernel_rfl
theorem info_byte : (Try.prog.info? 5).map (fun i => (i.zero, i.size, i.bytes)) = some (some (.int .u8 0), 1, 1) := by kernel_rfl
theorem cells_byte : Try.prog.cellsOf 5 = 1 := by kernel_rfl

/-- A block of N cells whose type is T, with a builder at cell o. -/
structure Bd (T : TypeId) (N o : Nat) (g : Nat) (arr : Array Value) (v : Value) (l : List UInt8) (w : World) : Prop where
  row : w.heap[g]? = some (.cells arr T (0, 0))
  size : arr.size = N
  fit : o + 1 < N
  ptr : arr[o]? = some (.pointer none) ∨ arr[o]? = some (.pointer (some ⟨g, o, none⟩))
  buf : arr[o + 1]? = some v
  own : w.ownsRowF 0 5 1 v l.length (Lib.byteCells l)
  nil : l = [] → v = .slice none 0 0
  ty : T ≠ 5
/-- The blocks that a builder's own. -/
def BdO (g : Nat) (v : Value) (k : Nat) : Prop := k = g ∨ v.ownBlock = some k
section
variable {T : TypeId} {N o g : Nat} {arr : Array Value} {v : Value} {l : List UInt8} {w w' : World}
theorem Bd.lt (h : Bd T N o g arr v l w) : g < w.heap.size := (Array.getElem?_eq_some_iff.1 h.row).1
theorem Bd.ne (h : Bd T N o g arr v l w) : v.ownBlock ≠ some g := Lib.ownBlock_neF h.own h.row h.ty
theorem Bd.cell (h : Bd T N o g arr v l w) (j : Nat) : w.cell? ⟨g, j, none⟩ = arr[j]? := cell_of_row _ _ j _ _ _ h.row
theorem Bd.z (h : Bd T N o g arr v l w) (j : Nat) : w.frozen? ⟨g, j, none⟩ = false := frozen_of_row _ _ j _ _ h.row
theorem Bd.shape (h : Bd T N o g arr v l w) : w.shape? g = some (T, N) := by simp [World.shape?, h.row, h.size]
theorem Bd.keep (h : Bd T N o g arr v l w) (hb : ∀ k, BdO g v k → w'.heap[k]? = w.heap[k]?) : Bd T N o g arr v l w' := by
  refine ⟨(hb g (Or.inl rfl)).trans h.row, h.size, h.fit, h.ptr, h.buf, ⟨h.own.1, ?_⟩, h.nil, h.ty⟩
  rcases h.own.2 with h0 | ⟨g', cap, cur, fz, hv, hb', hh, r⟩
  · exact Or.inl h0
  · exact Or.inr ⟨g', cap, cur, fz, hv, hb', (hb g' (Or.inr (by rw [hv]; rfl))).trans hh, r⟩
theorem Bd.low (h : Bd T N o g arr v l w) : ∀ k, BdO g v k → k < w.heap.size := by
  rintro k (rfl | hk)
  · exact h.lt
  · exact (h.own.lt k hk).2
theorem set_heap (h : w.heap[g]? = some (.cells arr T (0, 0))) (j : Nat) (x : Value) : (w.setCell ⟨g, j, none⟩ x).heap[g]? = some (.cells (arr.setIfInBounds j x) T (0, 0)) := by
  simp [World.setCell, Array.getElem?_modify, h]
theorem set_other (j k : Nat) (x : Value) (hk : k ≠ g) : (w.setCell ⟨g, j, none⟩ x).heap[k]? = w.heap[k]? := Below.heap_setCell _ _ _ _ hk
end

/-- What a builder's call leaves: the struct but for the builder, and the builder. -/
structure BdOut (T : TypeId) (N o g : Nat) (arr : Array Value) (v : Value) (l : List UInt8) (w : World) (v' : Value) (w' : World) : Prop where
  bd : Bd T N o g ((arr.setIfInBounds o (.pointer (some ⟨g, o, none⟩))).setIfInBounds (o + 1) v') v' l w'
  but : ButS (BdO g v) w w'
  loc : ∀ k, v'.ownBlock = some k → v.ownBlock = some k ∨ w.heap.size ≤ k

set_option maxHeartbeats 1000000 in
set_option maxRecDepth 100000 in
theorem qcopy_used (g o : Nat) (w : World) (h0 : w.cell? ⟨g, o, none⟩ = some (.pointer (some ⟨g, o, none⟩))) :
    Calls Try.prog 24 #[.pointer (some ⟨g, o, none⟩)] w fun e w' => e = .returned (.tuple #[]) ∧ w' = w := by
  obtain ⟨j, hj, _⟩ := Option.map_eq_some_iff.1 info_builder
  go_enter Try.func24, Try.ntmps24
  go_wp2
  rw [Lib.run_neq_ptr_same w _ Try.underlying48 hj]
  go_wp2
  go_end0
  exact ⟨rfl, rfl⟩

set_option maxHeartbeats 1000000 in
set_option maxRecDepth 100000 in
theorem qcopy_fresh (T : TypeId) (N g o : Nat) (hlies : liesAt Try.prog Try.prog.depth T (N / Try.prog.cellsOf T) o 51 1 = true) (hN : o + 1 < N) (w : World) (h0 : w.cell? ⟨g, o, none⟩ = some (.pointer none)) (hsh : w.shape? g = some (T, N)) (hfz : w.frozen? ⟨g, o, none⟩ = false) :
    Calls Try.prog 24 #[.pointer (some ⟨g, o, none⟩)] w fun e w' => e = .returned (.tuple #[]) ∧ w' = w.setCell ⟨g, o, none⟩ (.pointer (some ⟨g, o, none⟩)) := by
  obtain ⟨j, hj, hjs⟩ := Option.map_eq_some_iff.1 info_builder
  have HL := Lib.hid hlies
  clear hlies
  go_enter Try.func24, Try.ntmps24
  go_wp2
  rw [Lib.run_to_unsafe w ⟨g, o, none⟩ Try.underlying48 Try.underlying71 hj (by rw [hjs]; decide) hsh (by show o < N; omega)]
  simp only [Result.andThen]
  rw [Oper.upon_value]
  go_wp2
  rw [run_callFunc_extern Try.func26 (by kernel_rfl) (by kernel_rfl) (by kernel_rfl) (e := Extern.AbiNoEscape.same) (by kernel_rfl)]
  rw [Lib.run_noEscape]
  simp only [Result.andThen]
  rw [Oper.upon_value]
  go_wp2
  rw [Lib.run_from_unsafe w ⟨g, o, none⟩ Try.underlying71 Try.underlying48 hj hsh HL.out]
  simp only [Result.andThen]
  rw [Oper.upon_value]
  go_wp2
  go_end0
  exact ⟨rfl, rfl⟩

/-- Behind copyCheck the builder's own pointer is set. -/
def Copied (T : TypeId) (N o g : Nat) (arr : Array Value) (v : Value) (l : List UInt8) (w w' : World) : Prop :=
  Bd T N o g (arr.setIfInBounds o (.pointer (some ⟨g, o, none⟩))) v l w' ∧ w'.heap.size = w.heap.size ∧ ButS (fun k => k = g) w w'
theorem qcopy (T : TypeId) (N o g : Nat) (hlies : liesAt Try.prog Try.prog.depth T (N / Try.prog.cellsOf T) o 51 1 = true) (arr : Array Value) (v : Value) (l : List UInt8) (w : World) (h : Bd T N o g arr v l w) :
    Calls Try.prog 24 #[.pointer (some ⟨g, o, none⟩)] w fun e w' => e = .returned (.tuple #[]) ∧ Copied T N o g arr v l w w' := by
  have hf := h.fit
  have hs := h.size
  rcases h.ptr with hp | hp
  · refine (qcopy_fresh T N g o hlies h.fit w ((h.cell o).trans hp) h.shape (h.z o)).mono ?_
    rintro e w' ⟨rfl, rfl⟩
    refine ⟨rfl, ⟨set_heap h.row o _, by simp [hs], hf, Or.inr ?_, ?_, ⟨h.own.1, ?_⟩, h.nil, h.ty⟩, World.size_setCell _ _ _, ⟨rfl, rfl, rfl, by rw [World.size_setCell]; exact Nat.le_refl _, fun k _ hk => set_other o k _ hk⟩⟩
    · rw [Array.getElem?_setIfInBounds_self_of_lt (by omega)]
    · rw [Array.getElem?_setIfInBounds_ne (by omega)]; exact h.buf
    · rcases h.own.2 with h0 | ⟨g', cap, cur, fz, hv, hb', hh, r⟩
      · exact Or.inl h0
      · exact Or.inr ⟨g', cap, cur, fz, hv, hb', (set_other o g' _ (fun e => h.ne (by rw [hv, e]; rfl))).trans hh, r⟩
  · refine (qcopy_used g o w ((h.cell o).trans hp)).mono ?_
    rintro e w' ⟨rfl, rfl⟩
    have hself : arr.setIfInBounds o (.pointer (some ⟨g, o, none⟩)) = arr := by
      apply Array.ext_getElem?
      intro i
      by_cases hi : i = o
      · subst hi
        rw [Array.getElem?_setIfInBounds_self_of_lt (by omega), hp]
      · rw [Array.getElem?_setIfInBounds_ne (fun e => hi e.symm)]
    refine ⟨rfl, by rw [hself]; exact h, rfl, ⟨rfl, rfl, rfl, Nat.le_refl _, fun _ _ _ => rfl⟩⟩

set_option maxHeartbeats 2000000 in
set_option maxRecDepth 100000 in
theorem bd_write (T : TypeId) (N o g : Nat) (hlies : liesAt Try.prog Try.prog.depth T (N / Try.prog.cellsOf T) o 51 1 = true) (arr : Array Value) (v : Value) (l : List UInt8) (s : ByteArray) (w : World) (h : Bd T N o g arr v l w) (hlen : l.length + s.size ≤ 1000000) :
    Calls Try.prog 17 #[.pointer (some ⟨g, o, none⟩), .string s] w fun e w' => e = .returned (.tuple #[.int .i64 s.size, .nilIface]) ∧ ∃ v', BdOut T N o g arr v (l ++ s.data.toList) w v' w' := by
  obtain ⟨i0, hi, hz0, hz1, hz2⟩ := info_parts info_byte
  have HC := Lib.hid (qcopy T N o g hlies arr v l w h)
  clear hlies
  go_enter Try.func17, Try.ntmps17
  go_wp2_with (go_at_call 24; refine HC.out.mono ?_)
  rintro e w1 ⟨rfl, h1, hsz1, hb1⟩
  have hf := h1.fit
  have hs := h1.size
  obtain ⟨arr1, ha1⟩ : ∃ arr1, arr1 = arr.setIfInBounds o (.pointer (some ⟨g, o, none⟩)) := ⟨_, rfl⟩
  rw [← ha1] at h1 hs
  have HA := Lib.hid ha1
  clear ha1
  have c1 : w1.cell? ⟨g, o + 1, none⟩ = some v := (h1.cell (o + 1)).trans h1.buf
  have hown := h1.own
  have HS := Lib.hid hs
  have HZ := Lib.hid hsz1
  clear hs hsz1
  go_wp2_with (at_builtin; refine wpList_append_str_at _ rfl _ _ 49 9 rfl 0 5 i0 Try.underlying49 Try.underlying9 hi hz0 hz1 hz2 _ _ _ rfl hown s rfl ?c1 ?c2 ?c3 ?_)
  case c1 => unfold maxLen; omega
  case c2 => omega
  case c3 => omega
  intro v' w2 hown' hgrow hnil hloc
  have hlt := h1.lt
  have hb2 : w2.heap[g]? = some (.cells arr1 T (0, 0)) := by
    rw [hgrow.block g hlt (fun e => h1.ne e.symm)]
    exact h1.row
  have hfz : w2.frozen? ⟨g, o + 1, none⟩ = false := frozen_of_row _ _ _ _ _ hb2
  have d1 : w2.cell? ⟨g, o + 1, none⟩ = some v := (cell_of_row _ _ _ _ _ _ hb2).trans h1.buf
  obtain ⟨ad, n', cap, rfl⟩ : ∃ ad n' cap, v' = .slice ad n' cap := by
    rcases hown'.2 with ⟨hv, h0⟩ | ⟨g, cap, cur, fz, hv, _⟩
    · exact ⟨_, _, _, hv⟩
    · exact ⟨_, _, _, hv⟩
  have hne' := Lib.ownBlock_neF hown' hb2 h1.ty
  have HQ : Hid (BdOut T N o g arr v (l ++ s.data.toList) w (.slice ad n' cap) (w2.setCell ⟨g, o + 1, none⟩ (.slice ad n' cap))) := by
    refine Lib.hid ⟨⟨?_, ?_, hf, ?_, ?_, ⟨?_, ?_⟩, ?_, h1.ty⟩, ?_, ?_⟩
    · rw [← HA.out]; exact set_heap hb2 _ _
    · rw [← HA.out]; simp [HS.out]
    · right
      rw [← HA.out, Array.getElem?_setIfInBounds_ne (by omega), HA.out, Array.getElem?_setIfInBounds_self_of_lt]
      have := h.size
      omega
    · rw [← HA.out, Array.getElem?_setIfInBounds_self_of_lt (by have := HS.out; omega)]
    · simp [Lib.byteCells]
    · have hl : Lib.byteCells (l ++ s.data.toList) = Lib.byteCells l ++ Lib.strCells s := by simp [Lib.byteCells, Lib.strCells]
      have hn : (l ++ s.data.toList).length = l.length + s.size := by simp
      rw [hl, hn]
      rcases hown'.2 with h0 | ⟨g', cap, cur, fz, hv, hb', hh, r⟩
      · exact Or.inl h0
      · exact Or.inr ⟨g', cap, cur, fz, hv, hb', (set_other (o + 1) g' _ (fun e => hne' (by rw [hv, e]; rfl))).trans hh, r⟩
    · intro he
      have h1' : l = [] := (List.append_eq_nil_iff.1 he).1
      have h2' : s.data.toList = [] := (List.append_eq_nil_iff.1 he).2
      exact hnil.2 ⟨h1.nil h1', by have : s.data.toList.length = 0 := by rw [h2']; rfl
                                   simpa using this⟩
    · refine ⟨by show w2.os = w.os; rw [hgrow.os, hb1.os], by show w2.tape = w.tape; rw [hgrow.tape, hb1.tape], by show w2.output = w.output; rw [hgrow.output, hb1.output], ?_, fun k hk hO => ?_⟩
      · rw [World.size_setCell]
        exact Nat.le_trans (Nat.le_of_eq HZ.out.symm) hgrow.size
      · have k1 : k ≠ g := fun e => hO (Or.inl e)
        rw [set_other (o + 1) k _ k1, hgrow.block k (by rw [HZ.out]; exact hk) (fun e => hO (Or.inr e.symm)), hb1.block k hk k1]
    · intro k hk
      rcases hloc k hk with h | h
      · exact Or.inl h
      · exact Or.inr (by rw [← HZ.out]; exact h)
  clear hnil hgrow hb1 hloc
  go_wp2
  go_ret2
  exact ⟨rfl, _, HQ.out⟩

theorem freeze_rest (w : World) (g n : Nat) : (w.freeze ⟨g, 0, none⟩ n).os = w.os ∧ (w.freeze ⟨g, 0, none⟩ n).tape = w.tape ∧ (w.freeze ⟨g, 0, none⟩ n).output = w.output := by
  unfold World.freeze
  split
  · exact ⟨rfl, rfl, rfl⟩
  · exact ⟨rfl, rfl, rfl⟩
theorem freeze_size (w : World) (g n : Nat) : (w.freeze ⟨g, 0, none⟩ n).heap.size = w.heap.size := by
  unfold World.freeze
  split
  · rfl
  · simp
theorem freeze_other (w : World) (g n k : Nat) (hk : k ≠ g) : (w.freeze ⟨g, 0, none⟩ n).heap[k]? = w.heap[k]? := by
  unfold World.freeze
  split
  · rfl
  · simp only [Array.getElem?_modify]
    rw [if_neg (fun e => hk e.symm)]
theorem freeze_at (w : World) (g n : Nat) (cur : Array Value) (T : TypeId) (fz : Nat × Nat) (h : w.heap[g]? = some (.cells cur T fz)) (m : Nat) (hn : n ≤ m) (hf : fz.2 ≤ m) :
    ∃ fz' : Nat × Nat, fz'.2 ≤ m ∧ (w.freeze ⟨g, 0, none⟩ n).heap[g]? = some (.cells cur T fz') := by
  obtain ⟨lo, hi⟩ := fz
  unfold World.freeze
  split
  · exact ⟨_, hf, h⟩
  · refine ⟨if (lo == hi) = true then (0, 0 + n) else (min lo 0, max hi (0 + n)), ?_, by simp [Array.getElem?_modify, h]⟩
    simp only at hf ⊢
    split
    · simp only; omega
    · simp only; omega
/-- What String tells, and leaves. -/
def SaidB (T : TypeId) (N o g : Nat) (arr : Array Value) (v : Value) (l : List UInt8) (w : World) (e : Ending) (w' : World) : Prop :=
  e = .returned (.string ⟨l.toArray⟩) ∧ Bd T N o g arr v l w' ∧ ButS (fun k => v.ownBlock = some k) w w' ∧ w'.heap.size = w.heap.size
set_option maxHeartbeats 1000000 in
set_option maxRecDepth 100000 in
theorem bd_string (T : TypeId) (N o g : Nat) (arr : Array Value) (v : Value) (l : List UInt8) (w : World) (h : Bd T N o g arr v l w) :
    Calls Try.prog 22 #[.pointer (some ⟨g, o, none⟩)] w (SaidB T N o g arr v l w) := by
  have hb1 : w.drew.cell? ⟨g, o + 1, none⟩ = some v := (h.cell (o + 1)).trans h.buf
  have H := Lib.hid h
  by_cases h0 : l = []
  · have hv := h.nil h0
    subst hv
    subst h0
    have hUS := fun (W : World) (q : Option Addr) => Lib.run_unsafeString_none (P := Try.prog) W 70 3 9 q
    have hSD : (Builtin.unsafeSliceData_ #[49] 70 #[.slice none 0 0]).run Try.prog w.drew = .ok (.pointer none) w.drew := rfl
    clear h
    go_enter Try.func22, Try.ntmps22
    go_wp2
    go_region
    all_goals (go_wp2; go_ret; exact ⟨rfl, H.out.keep fun k _ => rfl, ⟨rfl, rfl, rfl, Nat.le_refl _, fun _ _ _ => rfl⟩, rfl⟩)
  · have hl0 : l.length ≠ 0 := by simpa using h0
    have hown := h.own
    obtain ⟨g', cap, cur, fz, rfl, hbg, hg, hfz, hnc, hcm, hcs, htake⟩ : ∃ g' cap cur fz, v = .slice (some ⟨g', 0, none⟩) l.length cap ∧ 0 ≤ g' ∧ w.heap[g']? = some (.cells cur 5 fz) ∧ fz.2 ≤ l.length * 1 ∧ l.length ≤ cap ∧ cap ≤ maxLen ∧ cur.size = cap * 1 ∧ cur.toList.take (l.length * 1) = Lib.byteCells l := by
      rcases hown.2 with ⟨_, hz⟩ | ⟨g, cap, cur, fz, hv, r⟩
      · exact absurd hz hl0
      · exact ⟨g, cap, cur, fz, hv, r⟩
    have hSD : (Builtin.unsafeSliceData_ #[49] 70 #[.slice (some ⟨g', 0, none⟩) l.length cap]).run Try.prog w.drew = .ok (.pointer (some ⟨g', 0, none⟩)) w.drew :=
      Lib.run_unsafeSliceData_row _ _ _ _ _ _ (by omega)
    have hUS : (Builtin.unsafeString_ #[70, 3] 9 #[.pointer (some ⟨g', 0, none⟩), .int .i64 l.length]).run Try.prog w.drew = .ok (.string ⟨l.toArray⟩) (w.drew.freeze ⟨g', 0, none⟩ l.length) := by
      refine Lib.run_unsafeString_row w.drew 70 3 9 5 Try.underlying70 cells_byte g' cur.size (by have hg' : w.drew.heap[g']? = some (.cells cur 5 fz) := hg; simp [World.shape?, hg']) l h0 (by omega) (by unfold maxLen at hcm; omega) ?_
      intro j x hx
      exact hown.cells (g := g') rfl j (.int .u8 x.toNat) (by simp [Lib.byteCells, hx])
    have HF : Hid (SaidB T N o g arr (.slice (some ⟨g', 0, none⟩) l.length cap) l w (.returned (.string ⟨l.toArray⟩)) (w.drew.freeze ⟨g', 0, none⟩ l.length)) := by
      have hgne : g' ≠ g := fun e => h.ne (by rw [e]; rfl)
      have hfo := freeze_other w.drew g' l.length
      have hfs : (w.drew.freeze ⟨g', 0, none⟩ l.length).heap.size = w.heap.size := freeze_size w.drew g' l.length
      have hfg := freeze_at w.drew g' l.length cur 5 fz hg (l.length * 1) (by omega) hfz
      obtain ⟨he1, he2, he3⟩ := freeze_rest w.drew g' l.length
      obtain ⟨fz', hfz', hg2⟩ := hfg
      refine Lib.hid ⟨rfl, ⟨(hfo g (fun e => hgne e.symm)).trans h.row, h.size, h.fit, h.ptr, h.buf, ⟨hown.1, Or.inr ⟨g', cap, cur, fz', rfl, hbg, hg2, hfz', hnc, hcm, hcs, htake⟩⟩, h.nil, h.ty⟩, ⟨he1, he2, he3, by rw [hfs]; exact Nat.le_refl _, fun k _ hk => hfo k (fun e => hk (by rw [e]; rfl))⟩, hfs⟩
    clear h hown hg hfz htake hcs
    go_enter Try.func22, Try.ntmps22
    go_wp2
    go_region
    all_goals (go_wp2; go_ret; exact HF.out)

theorem bd_len (T : TypeId) (N o g : Nat) (arr : Array Value) (v : Value) (l : List UInt8) (w : World) (h : Bd T N o g arr v l w) :
    Calls Try.prog 23 #[.pointer (some ⟨g, o, none⟩)] w fun e w' => e = .returned (.int .i64 l.length) ∧ w' = w := by
  obtain ⟨ad, cap, hv⟩ : ∃ ad cap, v = .slice ad l.length cap := by
    rcases h.own.2 with ⟨hv, h0⟩ | ⟨g, cap, cur, fz, hv, _⟩
    · rw [h0]; exact ⟨_, _, hv⟩
    · exact ⟨_, _, hv⟩
  have c1 : w.cell? ⟨g, o + 1, none⟩ = some (.slice ad l.length cap) := by rw [← hv]; exact (h.cell (o + 1)).trans h.buf
  clear h hv
  go_enter Try.func23, Try.ntmps23
  go_wp2
  go_ret
  exact ⟨rfl, rfl⟩
end Go.Proofs.Ytpifpokbkjddjaa
