/- A strings.Builder that is a local variable: copyCheck, WriteByte, WriteString: walks; what they keep. -/
import Derived.Test.YtejofdhpegcmjaaLexQ
import Derived.Lib.ConvBytes
import Derived.Lib.AppendStr
namespace Go.Proofs.Ytejofdhpegcmjaa
open Go.RowKit

theorem lies_builder : liesAt Try.prog Try.prog.depth 38 (2 / Try.prog.cellsOf 38) 0 38 1 = true := by kernel_rfl

/-- A builder in a block of its own: its buffer, its bytes. -/
structure BdV (b : Nat) (pv v : Value) (l : List UInt8) (w : World) : Prop where
  row : w.heap[b]? = some (.cells #[pv, v] 38 (0, 0))
  own : w.ownsRow b 5 1 v l.length (Lib.byteCells l)
def Bd (b : Nat) (v : Value) (l : List UInt8) (w : World) : Prop := ∃ pv, (pv = .pointer none ∨ pv = .pointer (some ⟨b, 0, none⟩)) ∧ BdV b pv v l w
theorem BdV.lt {b : Nat} {pv v : Value} {l : List UInt8} {w : World} (h : BdV b pv v l w) : b < w.heap.size := (Array.getElem?_eq_some_iff.1 h.row).1
theorem BdV.ne {b : Nat} {pv v : Value} {l : List UInt8} {w : World} (h : BdV b pv v l w) : v.ownBlock ≠ some b := Lib.ownBlock_neF (World.ownsRowF_of h.own) h.row (by decide)
theorem BdV.c0 {b : Nat} {pv v : Value} {l : List UInt8} {w : World} (h : BdV b pv v l w) : w.cell? ⟨b, 0, none⟩ = some pv := cell_of_row _ _ 0 _ _ _ h.row
theorem BdV.c1 {b : Nat} {pv v : Value} {l : List UInt8} {w : World} (h : BdV b pv v l w) : w.cell? ⟨b, 1, none⟩ = some v := cell_of_row _ _ 1 _ _ _ h.row
theorem BdV.z {b : Nat} {pv v : Value} {l : List UInt8} {w : World} (h : BdV b pv v l w) (j : Nat) : w.frozen? ⟨b, j, none⟩ = false := frozen_of_row _ _ j _ _ h.row
theorem BdV.shape {b : Nat} {pv v : Value} {l : List UInt8} {w : World} (h : BdV b pv v l w) : w.shape? b = some (38, 2) := by simp [World.shape?, h.row]
theorem BdV.used {b : Nat} {pv v : Value} {l : List UInt8} {w : World} (h : BdV b pv v l w) (q : Value) : BdV b q v l (w.setCell ⟨b, 0, none⟩ q) := by
  refine ⟨?_, ?_⟩
  · simp [World.setCell, Array.getElem?_modify, h.row]
  · refine h.own.kept (row := some b) ⟨rfl, rfl, rfl, by simp [World.setCell], fun k _ hk => Below.heap_setCell _ _ _ _ (fun e => hk (by simp [e]))⟩ ?_
    exact Or.inr h.ne
theorem BdV.put {b : Nat} {pv v v' : Value} {l' : List UInt8} {w : World} (hb : w.heap[b]? = some (.cells #[pv, v] 38 (0, 0))) (hown : w.ownsRow b 5 1 v' l'.length (Lib.byteCells l')) :
    BdV b pv v' l' (w.setCell ⟨b, 1, none⟩ v') := by
  have hne := Lib.ownBlock_neF (World.ownsRowF_of hown) hb (by decide)
  refine ⟨?_, ?_⟩
  · simp [World.setCell, Array.getElem?_modify, hb]
  · exact hown.kept (row := some b) ⟨rfl, rfl, rfl, by simp [World.setCell], fun k _ hk => Below.heap_setCell _ _ _ _ (fun e => hk (by simp [e]))⟩ (Or.inr hne)
/-- A row that is marked is no buffer. -/
theorem BdV.other {b g : Nat} {pv v : Value} {l : List UInt8} {w : World} {c : Array Value} {n : Nat} (h : BdV b pv v l w) (hg : w.heap[g]? = some (.cells c 5 (n, n + 1))) : some g ≠ v.ownBlock := by
  intro e
  rcases h.own.2 with ⟨rfl, _⟩ | ⟨g', cap, cur, rfl, _, hrow, _⟩
  · exact absurd e (by simp [Value.ownBlock])
  · have : g' = g := by simpa [Value.ownBlock] using e.symm
    subst this
    rw [hg] at hrow
    simp at hrow

/-- What writing keeps. -/
structure BKeep (b : Nat) (v : Value) (w w' : World) : Prop where
  os : w'.os = w.os
  tape : w'.tape = w.tape
  output : w'.output = w.output
  size : w.heap.size ≤ w'.heap.size
  block : ∀ k, k < w.heap.size → k ≠ b → some k ≠ v.ownBlock → w'.heap[k]? = w.heap[k]?
theorem BKeep.below {b B : Nat} {pv v : Value} {l : List UInt8} {w w' : World} (h : BKeep b v w w') (hV : BdV b pv v l w) (hB : B ≤ b) : Below B w w' :=
  ⟨h.os, h.tape, h.output, h.size, fun k hk => h.block k (by have := hV.lt; omega) (by omega) (fun e => by
    rcases hV.own.2 with ⟨rfl, _⟩ | ⟨g', cap, cur, rfl, hb, _⟩
    · exact absurd e (by simp [Value.ownBlock])
    · have : g' = k := by simpa [Value.ownBlock] using e.symm
      omega)⟩

set_option maxHeartbeats 1000000 in
set_option maxRecDepth 100000 in
theorem bcopy_used (b : Nat) (w : World) (h0 : w.cell? ⟨b, 0, none⟩ = some (.pointer (some ⟨b, 0, none⟩))) :
    Calls Try.prog 28 #[.pointer (some ⟨b, 0, none⟩)] w fun e w' => e = .returned (.tuple #[]) ∧ w' = w := by
  obtain ⟨j, hj, _⟩ := Option.map_eq_some_iff.1 info_builder
  go_enter Try.func28, Try.ntmps28
  go_wp2
  rw [Lib.run_neq_ptr_same w _ Try.underlying35 hj]
  go_wp2
  go_end0
  exact ⟨rfl, rfl⟩

set_option maxHeartbeats 1000000 in
set_option maxRecDepth 100000 in
theorem bcopy_fresh (b : Nat) (w : World) (h0 : w.cell? ⟨b, 0, none⟩ = some (.pointer none)) (hsh : w.shape? b = some (38, 2)) (hfz : w.frozen? ⟨b, 0, none⟩ = false) :
    Calls Try.prog 28 #[.pointer (some ⟨b, 0, none⟩)] w fun e w' => e = .returned (.tuple #[]) ∧ w' = w.setCell ⟨b, 0, none⟩ (.pointer (some ⟨b, 0, none⟩)) := by
  obtain ⟨j, hj, hjs⟩ := Option.map_eq_some_iff.1 info_builder
  go_enter Try.func28, Try.ntmps28
  go_wp2
  rw [Lib.run_to_unsafe w ⟨b, 0, none⟩ Try.underlying35 Try.underlying54 hj (by rw [hjs]; decide) hsh (Nat.zero_lt_succ 1)]
  simp only [Result.andThen]
  rw [Oper.upon_value]
  go_wp2
  rw [run_callFunc_extern Try.func31 (by kernel_rfl) (by kernel_rfl) (by kernel_rfl) (e := Extern.AbiNoEscape.same) (by kernel_rfl)]
  rw [Lib.run_noEscape]
  simp only [Result.andThen]
  rw [Oper.upon_value]
  go_wp2
  rw [Lib.run_from_unsafe w ⟨b, 0, none⟩ Try.underlying54 Try.underlying35 hj hsh lies_builder]
  simp only [Result.andThen]
  rw [Oper.upon_value]
  go_wp2
  go_end0
  exact ⟨rfl, rfl⟩

theorem bcopy (b : Nat) (v : Value) (l : List UInt8) (w : World) (h : Bd b v l w) :
    Calls Try.prog 28 #[.pointer (some ⟨b, 0, none⟩)] w fun e w' => e = .returned (.tuple #[]) ∧ BdV b (.pointer (some ⟨b, 0, none⟩)) v l w' ∧ BKeep b v w w' := by
  obtain ⟨pv, rfl | rfl, h⟩ := h
  · refine (bcopy_fresh b w h.c0 h.shape (h.z 0)).mono ?_
    rintro e w' ⟨rfl, rfl⟩
    exact ⟨rfl, h.used _, rfl, rfl, rfl, by rw [World.size_setCell]; exact Nat.le_refl _, fun k _ hk _ => heap_setCell_other w ⟨b, 0, none⟩ k _ hk⟩
  · refine (bcopy_used b w h.c0).mono ?_
    rintro e w' ⟨rfl, rfl⟩
    exact ⟨rfl, h, rfl, rfl, rfl, Nat.le_refl _, fun _ _ _ _ => rfl⟩
theorem BKeep.grow {b : Nat} {v v' : Value} {w w1 w2 : World} {o : Obj} (h : BKeep b v w w1) (hg : (w1.alloc o).grownBy w2 v.ownBlock) : BKeep b v w (w2.setCell ⟨b, 1, none⟩ v') := by
  have hs := hg.size
  rw [World.size_alloc] at hs
  exact ⟨hg.os.trans h.os, hg.tape.trans h.tape, hg.output.trans h.output, by rw [World.size_setCell]; have := h.size; omega, fun k hk h1 h2 => by
    have hk1 : k < w1.heap.size := Nat.lt_of_lt_of_le hk h.size
    rw [heap_setCell_other _ _ _ _ (by show k ≠ b; exact h1), hg.block k (by rw [World.size_alloc]; omega) h2, Lib.alloc_old w1 _ k hk1]
    exact h.block k hk h1 h2⟩
theorem BKeep.grow0 {b : Nat} {v v' : Value} {w w1 w2 : World} (h : BKeep b v w w1) (hg : w1.grownBy w2 v.ownBlock) : BKeep b v w (w2.setCell ⟨b, 1, none⟩ v') := by
  have hs := hg.size
  exact ⟨hg.os.trans h.os, hg.tape.trans h.tape, hg.output.trans h.output, by rw [World.size_setCell]; have := h.size; omega, fun k hk h1 h2 => by
    have hk1 : k < w1.heap.size := Nat.lt_of_lt_of_le hk h.size
    rw [heap_setCell_other _ _ _ _ (by show k ≠ b; exact h1), hg.block k hk1 h2]
    exact h.block k hk h1 h2⟩

set_option maxHeartbeats 2000000 in
set_option maxRecDepth 100000 in
theorem bbyte (b : Nat) (v : Value) (l : List UInt8) (c : UInt8) (w : World) (h : Bd b v l w) (hlen : l.length ≤ 100000) :
    Calls Try.prog 22 #[.pointer (some ⟨b, 0, none⟩), .int .u8 c.toNat] w fun e w' => e = .returned .nilIface ∧ (∃ v', Bd b v' (l ++ [c]) w') ∧ BKeep b v w w' := by
  obtain ⟨i0, hi, hz0, hz1, hz2⟩ := info_parts info_byte
  go_enter Try.func22, Try.ntmps22
  go_wp2_with (go_at_call 28; refine (bcopy b v l _ h).mono ?_)
  rintro e w1 ⟨rfl, h1, k1⟩
  have c0 := h1.c0
  have c1 := h1.c1
  have hlt := h1.lt
  have hown := h1.own
  go_wp2_with (at_builtin; refine wpList_append_own _ rfl _ _ 36 rfl b 5 i0 (.int .u8 0) 1 1 Try.underlying36 hi hz0 hz1 hz2 rfl (by decide) _ _ _ rfl (hown.alloc _) ⟨w1.heap.size, 0, none⟩ 1 1 [.int .u8 c.toNat] rfl rfl ?c1 ?c2 ?c3 ?c4 ?c5 ?_)
  case c1 =>
    intro j u hj
    match j, hj with
    | 0, hj => simp at hj; subst hj; simp [Addr.add]
  case c2 => intro u hu; simp at hu; subst hu; rfl
  case c3 => unfold maxLen; omega
  case c4 => omega
  case c5 => simp; omega
  intro v' w2 hown' hgrow _
  have hb2 : w2.heap[b]? = some (.cells #[.pointer (some ⟨b, 0, none⟩), v] 38 (0, 0)) := by
    rw [hgrow.block b (by simp; omega) (fun e => h1.ne e.symm), Lib.alloc_old w1 _ b hlt]
    exact h1.row
  have d0 : w2.cell? ⟨b, 0, none⟩ = some (.pointer (some ⟨b, 0, none⟩)) := cell_of_row _ _ 0 _ _ _ hb2
  have d1 : w2.cell? ⟨b, 1, none⟩ = some v := cell_of_row _ _ 1 _ _ _ hb2
  have f1 : w2.frozen? ⟨b, 1, none⟩ = false := frozen_of_row _ _ 1 _ _ hb2
  obtain ⟨g', cap, rfl⟩ : ∃ g' cap, v' = .slice (some ⟨g', 0, none⟩) (l.length + 1) cap := by
    rcases hown'.2 with ⟨_, h0⟩ | ⟨g', cap, cur, hv, _⟩
    · omega
    · exact ⟨g', cap, hv⟩
  have HQ := Lib.hid (BdV.put (v' := .slice (some ⟨g', 0, none⟩) (l.length + 1) cap) (l' := l ++ [c]) hb2 (by rw [byteCells_snoc, List.length_append]; exact hown'))
  have HK := Lib.hid (k1.grow (v' := .slice (some ⟨g', 0, none⟩) (l.length + 1) cap) hgrow)
  go_wp2
  go_ret
  exact ⟨rfl, ⟨_, _, Or.inr rfl, HQ.out⟩, HK.out⟩

set_option maxHeartbeats 2000000 in
set_option maxRecDepth 100000 in
theorem btext (b : Nat) (v : Value) (l : List UInt8) (s : ByteArray) (w : World) (h : Bd b v l w) (hlen : l.length + s.size ≤ 100000) :
    Calls Try.prog 23 #[.pointer (some ⟨b, 0, none⟩), .string s] w fun e w' => e = .returned (.tuple #[.int .i64 s.size, .nilIface]) ∧ (∃ v', Bd b v' (l ++ s.data.toList) w') ∧ BKeep b v w w' := by
  obtain ⟨i0, hi, hz0, hz1, hz2⟩ := info_parts info_byte
  go_enter Try.func23, Try.ntmps23
  go_wp2_with (go_at_call 28; refine (bcopy b v l _ h).mono ?_)
  rintro e w1 ⟨rfl, h1, k1⟩
  have c0 := h1.c0
  have c1 := h1.c1
  have hlt := h1.lt
  have hown := h1.own
  go_wp2_with (at_builtin; refine Lib.wpList_append_own_string _ rfl _ _ 36 9 rfl b 5 i0 Try.underlying36 Try.underlying9 hi hz0 hz1 hz2 _ _ _ rfl hown s rfl ?c1 ?c2 ?c3 ?_)
  case c1 => unfold maxLen; omega
  case c2 => omega
  case c3 => omega
  intro v' w2 hown' hgrow hnil
  have hb2 : w2.heap[b]? = some (.cells #[.pointer (some ⟨b, 0, none⟩), v] 38 (0, 0)) := by
    rw [hgrow.block b hlt (fun e => h1.ne e.symm)]
    exact h1.row
  have d0 : w2.cell? ⟨b, 0, none⟩ = some (.pointer (some ⟨b, 0, none⟩)) := cell_of_row _ _ 0 _ _ _ hb2
  have d1 : w2.cell? ⟨b, 1, none⟩ = some v := cell_of_row _ _ 1 _ _ _ hb2
  have f1 : w2.frozen? ⟨b, 1, none⟩ = false := frozen_of_row _ _ 1 _ _ hb2
  obtain ⟨ad, n', cap, rfl⟩ : ∃ ad n' cap, v' = .slice ad n' cap := by
    rcases hown'.2 with ⟨hv, h0⟩ | ⟨g, cap, cur, hv, _⟩
    · exact ⟨_, _, _, hv⟩
    · exact ⟨_, _, _, hv⟩
  have hl : Lib.byteCells (l ++ s.data.toList) = Lib.byteCells l ++ Lib.strCells s := by simp [Lib.byteCells, Lib.strCells]
  have hn : (l ++ s.data.toList).length = l.length + s.size := by simp
  have HQ := Lib.hid (BdV.put (v' := .slice ad n' cap) (l' := l ++ s.data.toList) hb2 (by rw [hl, hn]; exact hown'))
  have HK := Lib.hid (k1.grow0 (v' := .slice ad n' cap) hgrow)
  clear hl hn hnil
  go_wp2
  go_ret2
  exact ⟨rfl, ⟨_, _, Or.inr rfl, HQ.out⟩, HK.out⟩

theorem bstring (b : Nat) (v : Value) (l : List UInt8) (w : World) (h : Bd b v l w) :
    Calls Try.prog 24 #[.pointer (some ⟨b, 0, none⟩)] w fun e w' => e = .returned (.string ⟨l.toArray⟩) ∧ Below b w w' := by
  obtain ⟨pv, hpv, h⟩ := h
  have hb : Lib.BuilderAt 38 5 b b pv (Lib.byteCells l) w := ⟨Nat.le_refl _, v, h.row, by rw [Lib.byteCells_length]; exact h.own, h.ne⟩
  refine Try.Builder_String_any b b l w ?_ (by have := h.lt; omega)
  rcases hpv with rfl | rfl
  · exact Or.inl hb
  · exact Or.inr hb
end Go.Proofs.Ytejofdhpegcmjaa
