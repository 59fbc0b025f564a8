/- Merged by program: Base, Build, Writer, K15E. -/
import Derived.Test.YtbbhcbpfffabpaaRows
import Derived.WalkKit
import Derived.WalkSpells
import Derived.WalkLawsBesides
import Derived.Lib.Hide
import Derived.LoopTactic
import Derived.Laws.RangeAny
import Derived.Laws.OwnMore
import Derived.OwnWalk
import Derived.WalkSmall
import Derived.Lib.OthersKept
import Derived.Deep.QuietTactic
import Derived.BigQuiet
import Derived.Deep.DeepCutAuto
import Derived.Deep.CutBlock
import Derived.Deep.RegionHeld3
import Derived.Deep.WholeRow
import Derived.Laws.StructEq
import Derived.RegionTactic
import Derived.Laws.Bits64
import Derived.Laws.Bits64b
import Derived.KernelRfl
import Derived.Laws.Externs
import Derived.Lib.FrozenHead2
import Derived.Test.YtbbhcbpfffabpaaGac
import Derived.Test.YtbbhcbpfffabpaaGaz
/- What every text here stands on: the imports of the walk, plain lemmas. -/
namespace Go.Proofs.Ytbbhcbpfffabpaa
open Go.RowKit

theorem own : ownKnob Try.prog.godebug = none := by kernel_rfl

theorem Below.drewN' {B : Nat} {a w : World} (h : Below B a w) (n : Nat) : Below B a (w.drewN n) := by
  induction n with
  | zero => exact h
  | succ n ih => exact ⟨ih.os, ih.tape, ih.output, ih.size, ih.block⟩

theorem Below.step {w w1 w2 : World} (h : Below w.heap.size w w1) (h2 : Below w1.heap.size w1 w2) : Below w.heap.size w w2 :=
  h.trans (h2.mono h.size)
theorem below_new (w : World) (o : Obj) : Below w.heap.size w (w.alloc o) := (Below.refl _ _).alloc (Nat.le_refl _) o
theorem below_drew (w : World) : Below w.heap.size w w.drew := (Below.refl _ _).drew

theorem cell_lt {W : World} {a : Addr} {v : Value} (h : W.cell? a = some v) : a.block < W.heap.size := by
  rcases Nat.lt_or_ge a.block W.heap.size with h' | h'
  · exact h'
  · exfalso
    have e : W.heap[a.block]? = none := Array.getElem?_eq_none h'
    simp [World.cell?, e] at h

theorem cell_other {w : World} {a b : Addr} {v : Value} (h : a ≠ b) : (w.setCell a v).cell? b = w.cell? b := World.cell?_setCell_other w a b v h
theorem cell_same {w : World} {a : Addr} {v u : Value} (h : w.cell? a = some u) : (w.setCell a v).cell? a = some v := World.cell?_setCell_same w a v h

theorem ret_i64 {a b : Int} (h : a = b) : Ending.returned (.int .i64 a) = .returned (.int .i64 b) := by rw [h]
theorem ret_str {a b : ByteArray} (h : a = b) : Ending.returned (.string a) = .returned (.string b) := by rw [h]
theorem ret_bool {a b : Bool} (h : a = b) : Ending.returned (.bool a) = .returned (.bool b) := by rw [h]
end Go.Proofs.Ytbbhcbpfffabpaa

/- strings.Builder's copyCheck and WriteByte: walks (the dump's copyCheck has no panic's text: the shelf's laying does not fit). -/
namespace Go.Proofs.Ytbbhcbpfffabpaa
open Go.RowKit

theorem info_builder : (Try.prog.info? 58).map (·.size) = some 2 := by kernel_rfl
theorem lies_builder : liesAt Try.prog Try.prog.depth 58 (2 / Try.prog.cellsOf 58) 0 58 1 = true := by kernel_rfl
theorem info_byte : (Try.prog.info? 5).map (fun i => (i.zero, i.size, i.bytes)) = some (some (.int .u8 0), 1, 1) := by kernel_rfl

set_option maxHeartbeats 1000000 in
set_option maxRecDepth 100000 in
theorem copy_used (b : Nat) (w : World) (h0 : w.cell? ⟨b, 0, none⟩ = some (.pointer (some ⟨b, 0, none⟩))) :
    Calls Try.prog 71 #[.pointer (some ⟨b, 0, none⟩)] w fun e w' => e = .returned (.tuple #[]) ∧ w' = w := by
  obtain ⟨j, hj, _⟩ := Option.map_eq_some_iff.1 info_builder
  go_enter Try.func71, Try.ntmps71
  go_wp2
  rw [Lib.run_neq_ptr_same w _ Try.underlying56 hj]
  go_wp2
  go_end0
  exact ⟨rfl, rfl⟩

set_option maxHeartbeats 1000000 in
set_option maxRecDepth 100000 in
theorem copy_fresh (b : Nat) (w : World) (h0 : w.cell? ⟨b, 0, none⟩ = some (.pointer none)) (hsh : w.shape? b = some (58, 2)) (hfz : w.frozen? ⟨b, 0, none⟩ = false) :
    Calls Try.prog 71 #[.pointer (some ⟨b, 0, none⟩)] w fun e w' => e = .returned (.tuple #[]) ∧ w' = w.setCell ⟨b, 0, none⟩ (.pointer (some ⟨b, 0, none⟩)) := by
  obtain ⟨j, hj, hjs⟩ := Option.map_eq_some_iff.1 info_builder
  go_enter Try.func71, Try.ntmps71
  go_wp2
  rw [Lib.run_to_unsafe w ⟨b, 0, none⟩ Try.underlying56 Try.underlying96 hj (by rw [hjs]; decide) hsh (Nat.zero_lt_succ 1)]
  simp only [Result.andThen]
  rw [Oper.upon_value]
  go_wp2
  rw [run_callFunc_extern Try.func86 (by kernel_rfl) (by kernel_rfl) (by kernel_rfl) (e := Extern.AbiNoEscape.same) (by kernel_rfl)]
  rw [Lib.run_noEscape]
  simp only [Result.andThen]
  rw [Oper.upon_value]
  go_wp2
  rw [Lib.run_from_unsafe w ⟨b, 0, none⟩ Try.underlying96 Try.underlying56 hj hsh lies_builder]
  simp only [Result.andThen]
  rw [Oper.upon_value]
  go_wp2
  go_end0
  exact ⟨rfl, rfl⟩

theorem copyCheck_k (B b : Nat) (bs : List Value) (w : World) (h : Lib.IsBuilderF 58 5 B b bs w) :
    Calls Try.prog 71 #[.pointer (some ⟨b, 0, none⟩)] w fun e w' => e = .returned (.tuple #[]) ∧ (Lib.BuilderAtF 58 5 B b (.pointer (some ⟨b, 0, none⟩)) bs w' ∧ Below B w w' ∧ Lib.OthersKept 5 (some b) w w') := by
  rcases h with h | h
  · refine (copy_fresh b w h.cell0 h.shape h.frozen0).mono ?_
    rintro e w' ⟨rfl, rfl⟩
    exact ⟨rfl, h.used _, (Below.refl B w).setCell (p := ⟨b, 0, none⟩) h.1 _, (Lib.OthersKept.refl _ _ w).setCell ⟨b, 0, none⟩ rfl _⟩
  · refine (copy_used b w h.cell0).mono ?_
    rintro e w' ⟨rfl, rfl⟩
    exact ⟨rfl, h, Below.refl B _, Lib.OthersKept.refl _ _ _⟩

end Go.Proofs.Ytbbhcbpfffabpaa

/- strings.Builder's WriteString, Reset: walks; a builder that holds bytes. -/
namespace Go.Proofs.Ytbbhcbpfffabpaa
open Go.RowKit

theorem byteCells_snoc (l : List UInt8) (c : UInt8) : Lib.byteCells (l ++ [c]) = Lib.byteCells l ++ [.int .u8 (c.toNat : Int)] := by simp [Lib.byteCells]
set_option maxHeartbeats 2000000 in
set_option maxRecDepth 100000 in
theorem writeString_k (B b : Nat) (bs : List Value) (s : ByteArray) (w : World) (h : Lib.IsBuilderF 58 5 B b bs w) (hlen : bs.length + s.size ≤ 140737488355328) (hBw : B ≤ w.heap.size) :
    Calls Try.prog 51 #[.pointer (some ⟨b, 0, none⟩), .string s] w fun e w' => e = .returned (.tuple #[.int .i64 s.size, .nilIface]) ∧ (Lib.BuilderAtF 58 5 B b (.pointer (some ⟨b, 0, none⟩)) (bs ++ Lib.strCells s) w' ∧ Below B w w' ∧ Lib.OthersKept 5 (some b) w w') := by
  obtain ⟨i0, hi, hz0, hz1, hz2⟩ := info_parts info_byte
  go_enter Try.func51, Try.ntmps51
  go_wp2_with (go_at_call 71; refine (copyCheck_k B b bs _ h).mono ?_)
  rintro e w1 ⟨rfl, h1, hb1, hk1⟩
  obtain ⟨hB, v, hbk, hown, hne⟩ := h1
  have c0 : w1.cell? ⟨b, 0, none⟩ = some (.pointer (some ⟨b, 0, none⟩)) := by rw [Lib.cell_of_heap hbk]; rfl
  have c1 : w1.cell? ⟨b, 1, none⟩ = some v := by rw [Lib.cell_of_heap hbk]; rfl
  have hs1 := hb1.size
  go_wp2_with (at_builtin; refine Lib.wpList_append_own_stringF _ rfl _ _ 42 9 rfl B 5 i0 Try.underlying42 Try.underlying9 hi hz0 hz1 hz2 _ _ _ rfl hown s rfl ?c1 hlen ?c2 ?_)
  case c1 => unfold maxLen; omega
  case c2 => omega
  intro v' w2 hown' hgrow hnil
  have hlt : b < w1.heap.size := by
    rcases Nat.lt_or_ge b w1.heap.size with h' | h'
    · exact h'
    · simp [Array.getElem?_eq_none h'] at hbk
  have hb2 : w2.heap[b]? = some (.cells #[.pointer (some ⟨b, 0, none⟩), v] 58 (0, 0)) := by
    rw [hgrow.block b hlt (fun e => hne e.symm)]
    exact hbk
  have d0 : w2.cell? ⟨b, 0, none⟩ = some (.pointer (some ⟨b, 0, none⟩)) := by rw [Lib.cell_of_heap hb2]; rfl
  have d1 : w2.cell? ⟨b, 1, none⟩ = some v := by rw [Lib.cell_of_heap hb2]; rfl
  have f1 : w2.frozen? ⟨b, 1, none⟩ = false := Lib.frozen_of_heap hb2 1
  obtain ⟨ad, n', cap, rfl⟩ : ∃ ad n' cap, v' = .slice ad n' cap := by
    rcases hown'.2 with ⟨hv, h0⟩ | ⟨g, cap, cur, fz, hv, _⟩
    · exact ⟨_, _, _, hv⟩
    · exact ⟨_, _, _, hv⟩
  go_wp2
  go_ret2
  have hl : (Lib.strCells s).length = s.size := by simp [Lib.strCells]
  refine ⟨rfl, ?_, ?_, (hk1.grown hgrow (Lib.ownsRowF_kind hown)).setCell ⟨b, 1, none⟩ rfl _⟩
  · exact Lib.BuilderAtF.put (T := 58) (e := 5) hB hb2 (bs' := bs ++ Lib.strCells s) (by rw [List.length_append, hl]; exact hown') (by decide)
  · exact (hb1.grown hgrow (by omega) (fun k hk => (hown.lt k hk).1)).setCell (p := ⟨b, 1, none⟩) hB _

/-- A builder that holds those bytes. -/
structure BOk (B b : Nat) (l : List UInt8) (w : World) : Prop where
  is : Lib.IsBuilderF 58 5 B b (Lib.byteCells l) w
  le : B ≤ w.heap.size
/-- What writing leaves. -/
structure Wrote (B b : Nat) (l : List UInt8) (w w' : World) : Prop where
  ok : BOk B b l w'
  below : Below B w w'
  others : Lib.OthersKept 5 (some b) w w'
theorem Wrote.trans {B b : Nat} {l m : List UInt8} {w w1 w2 : World} (h : Wrote B b l w w1) (g : Wrote B b m w1 w2) : Wrote B b m w w2 := ⟨g.ok, h.below.trans g.below, h.others.trans g.others⟩
theorem Wrote.refl {B b : Nat} {l : List UInt8} {w : World} (h : BOk B b l w) : Wrote B b l w w := ⟨h, Below.refl _ _, Lib.OthersKept.refl _ _ _⟩
theorem BOk.alloc {B b : Nat} {l : List UInt8} {w : World} (h : BOk B b l w) (o : Obj) : BOk B b l (w.alloc o) := ⟨h.is.alloc o, by have := h.le; rw [World.size_alloc]; omega⟩
theorem Wrote.alloc {B b : Nat} {l : List UInt8} {w w1 : World} (h : Wrote B b l w w1) (o : Obj) : Wrote B b l w (w1.alloc o) := ⟨h.ok.alloc o, h.below.alloc h.ok.le o, h.others.alloc o⟩
theorem BOk.row {B b : Nat} {l : List UInt8} {w : World} (h : BOk B b l w) : B ≤ b ∧ ∃ c, w.heap[b]? = some (.cells c 58 (0, 0)) := by
  rcases h.is with ⟨h1, v, h2, _⟩ | ⟨h1, v, h2, _⟩
  · exact ⟨h1, _, h2⟩
  · exact ⟨h1, _, h2⟩
theorem text_spec (B b : Nat) (l : List UInt8) (s : ByteArray) (w : World) (h : BOk B b l w) (hlen : l.length + s.size ≤ 140737488355328) :
    Calls Try.prog 51 #[.pointer (some ⟨b, 0, none⟩), .string s] w fun e w' => e = .returned (.tuple #[.int .i64 s.size, .nilIface]) ∧ Wrote B b (l ++ s.data.toList) w w' := by
  refine (writeString_k B b (Lib.byteCells l) s w h.is (by rw [Lib.byteCells_length]; exact hlen) h.le).mono ?_
  rintro e w' ⟨rfl, h1, h2, h3⟩
  refine ⟨rfl, ⟨Or.inr ?_, by have := h2.size; have := h.le; omega⟩, h2, h3⟩
  have e : Lib.byteCells (l ++ s.data.toList) = Lib.byteCells l ++ Lib.strCells s := by simp [Lib.byteCells, Lib.strCells]
  rw [e]
  exact h1

end Go.Proofs.Ytbbhcbpfffabpaa

/- The program's Key. -/
namespace Go.Proofs.Ytbbhcbpfffabpaa
open Go.RowKit T3

theorem BOk.after {B b : Nat} {l : List UInt8} {w w' : World} (h : BOk B b l w) (hb : Below w.heap.size w w') : BOk B b l w' := by
  have key : ∀ p, Lib.BuilderAtF 58 5 B b p (Lib.byteCells l) w → Lib.BuilderAtF 58 5 B b p (Lib.byteCells l) w' := by
    rintro p ⟨hB, v, hrow, hown, hne⟩
    refine ⟨hB, v, ?_, ⟨hown.1, ?_⟩, hne⟩
    · rw [hb.block b (Array.getElem?_eq_some_iff.1 hrow).1]
      exact hrow
    · rcases hown.2 with h0 | ⟨g, cap, cur, fz, hv, hg, hgg, rest⟩
      · exact Or.inl h0
      · refine Or.inr ⟨g, cap, cur, fz, hv, hg, ?_, rest⟩
        rw [hb.block g (Array.getElem?_eq_some_iff.1 hgg).1]
        exact hgg
  refine ⟨?_, Nat.le_trans h.le hb.size⟩
  rcases h.is with h3 | h3
  · exact Or.inl (key _ h3)
  · exact Or.inr (key _ h3)
theorem len_spec (B b : Nat) (l : List UInt8) (w : World) (h : BOk B b l w) :
    Calls Try.prog 50 #[.pointer (some ⟨b, 0, none⟩)] w fun e w' => e = .returned (.int .i64 (l.length : Nat)) ∧ w' = w := by
  refine (Try.Builder_Len_f B b (Lib.byteCells l) w h.is).mono ?_
  rintro e w' ⟨rfl, rfl⟩
  exact ⟨by rw [Lib.byteCells_length], rfl⟩
theorem bstring_spec (B b : Nat) (l : List UInt8) (w : World) (h : BOk B b l w) :
    Calls Try.prog 52 #[.pointer (some ⟨b, 0, none⟩)] w fun e w' => e = .returned (.string ⟨l.toArray⟩) ∧ Below B w w' := by
  refine (Try.Builder_String_any_k B b l w h.is h.le).mono ?_
  rintro e w' ⟨rfl, h1, h2, h3⟩
  exact ⟨rfl, h2⟩
/-- What is written ahead of the cell i. -/
def aheadB (sep : ByteArray) (i : Nat) : ByteArray := if i = 0 then ⟨#[]⟩ else sep
theorem aheadB_succ (sep : ByteArray) (i : Nat) : aheadB sep (i + 1) = sep := rfl
theorem aheadB_size (sep : ByteArray) (i : Nat) (h : sep.size ≤ 300) : (aheadB sep i).size ≤ 300 := by
  unfold aheadB
  split
  · exact Nat.zero_le _
  · exact h
theorem app_bytes (l : List UInt8) (s : ByteArray) : (⟨l.toArray⟩ : ByteArray) ++ s = ⟨(l ++ s.data.toList).toArray⟩ := by
  apply ByteArray.ext
  rw [ByteArray.data_append]
  simp
theorem key_step (sep : ByteArray) (i : Nat) (acc : List UInt8) (c : Cel) (l : List Cel) :
    keyGo sep (decide (i = 0)) ⟨acc.toArray⟩ (c :: l) = if 200 < acc.length + (aheadB sep i).size + (strC c.k c.n c.s).size then .tuple #[.string ⟨#[]⟩, .int .i64 150] else keyGo sep (decide (i + 1 = 0)) ⟨(acc ++ (aheadB sep i).data.toList ++ (strC c.k c.n c.s).data.toList).toArray⟩ l := by
  have e : ((if decide (i = 0) = true then (⟨acc.toArray⟩ : ByteArray) else ⟨acc.toArray⟩ ++ sep) ++ strC c.k c.n c.s) = ⟨(acc ++ (aheadB sep i).data.toList ++ (strC c.k c.n c.s).data.toList).toArray⟩ := by
    rw [← app_bytes, ← app_bytes]
    unfold aheadB
    by_cases h : i = 0
    · rw [if_pos (decide_eq_true h), if_pos h, app_bytes]
      exact congrArg (fun m => (⟨(m ++ (strC c.k c.n c.s).data.toList).toArray⟩ : ByteArray)) (List.append_nil acc).symm
    · rw [if_neg (by simpa using h), if_neg h]
  have z : (⟨(acc ++ (aheadB sep i).data.toList ++ (strC c.k c.n c.s).data.toList).toArray⟩ : ByteArray).size = acc.length + (aheadB sep i).size + (strC c.k c.n c.s).size := by
    show ((acc ++ (aheadB sep i).data.toList ++ (strC c.k c.n c.s).data.toList).toArray).size = _
    rw [List.size_toArray, List.length_append, List.length_append]
    rfl
  show (if 200 < ((if decide (i = 0) = true then (⟨acc.toArray⟩ : ByteArray) else ⟨acc.toArray⟩ ++ sep) ++ strC c.k c.n c.s).size then _ else keyGo sep false ((if decide (i = 0) = true then (⟨acc.toArray⟩ : ByteArray) else ⟨acc.toArray⟩ ++ sep) ++ strC c.k c.n c.s) l) = _
  rw [e, z]
  rfl

set_option maxRecDepth 100000 in
set_option maxHeartbeats 2000000 in
theorem key_any (l : List Cel) (p : Option Addr) (n cap : Nat) (sep : ByteArray) (hsep : sep.size ≤ 300) (hl : okL l) (w : World) (hc : CellsAt w p n cap l) :
    Calls Try.prog 17 #[.slice p n cap, .string sep] w fun e w' => e = .returned (keyF sep l) ∧ Below w.heap.size w w' := by
  have HI := info_cell
  have HL := Lib.hid hl
  have HCA := Lib.hid hc
  have hn : n ≤ 9223372036854775807 := Nat.le_trans hc.room hc.bound
  have HN : Hid (n = l.length) := Lib.hid hc.len
  obtain ⟨R, hR⟩ : ∃ R, R = keyF sep l := ⟨_, rfl⟩
  rw [← hR]
  have HR := Lib.hid hR
  have HSZ := Lib.hid hsep
  have HB0 : Hid (BOk w.heap.size w.heap.size [] (w.alloc (.cells #[.pointer none, .slice none 0 0] 58))) := Lib.hid ⟨Lib.IsBuilderF.of (Lib.fresh_isBuilder 58 5 w), by rw [World.size_alloc]; omega⟩
  have HW0 := Lib.hid (below_new w (.cells #[.pointer none, .slice none 0 0] 58))
  clear hl hc hR hsep
  go_enter Try.func17, Try.ntmps17
  go_wp2_with fail
  go_loopw [7, 9, 10, 13] (fun y7 y9 y10 y13 wr => y9 = y9 ∧ y10 = y10 ∧ ∃ (acc : List UInt8) (i : Nat), y7 = .string (aheadB sep i) ∧ y13 = .int .i64 i ∧ i ≤ n ∧ acc.length ≤ 200 ∧ Hid (R = keyGo sep (decide (i = 0)) ⟨acc.toArray⟩ (l.drop i)) ∧ Hid (BOk w.heap.size w.heap.size acc wr) ∧ Hid (Below w.heap.size w wr)) (fun _ _ _ y13 _ => n - (intOf y13).toNat)
  case atStart => exact ⟨rfl, rfl, [], 0, rfl, rfl, by omega, by simp, Lib.hid (by rw [HR.out]; rfl), HB0, HW0⟩
  case round =>
    obtain ⟨_, _, acc, i, rfl, rfl, hi, hacc, HE, HK, hb⟩ := hrel
    by_cases hlt : i < n
    · have hil : i < l.length := by rw [← HN.out]; exact hlt
      have hx := List.getElem?_eq_getElem hil
      have hd : l.drop i = l[i] :: l.drop (i + 1) := List.drop_eq_getElem_cons hil
      have hok := HL.out l[i] (List.getElem_mem hil)
      obtain ⟨x, hxe⟩ : ∃ x, x = l[i] := ⟨_, rfl⟩
      rw [← hxe] at hx hd hok
      obtain ⟨b, off, rfl, hcc⟩ : ∃ b off, p = some ⟨b, off, none⟩ ∧ ∀ i c, l[i]? = some c → w.cell? ⟨b, off + i * 3, none⟩ = some (.int .i64 c.k) ∧ w.cell? ⟨b, off + i * 3 + 1, none⟩ = some (.int .i64 c.n) ∧ w.cell? ⟨b, off + i * 3 + 2, none⟩ = some (.string c.s) := by
        rcases HCA.out.cells with h0 | h0
        · rw [h0] at hil; simp at hil
        · exact h0
      obtain ⟨e0, e1, e2⟩ := hcc i x hx
      have key : ∀ (o : Nat) (v : Value), w.cell? ⟨b, o, none⟩ = some v → wr.cell? ⟨b, o, none⟩ = some v := fun o v hv => by
        rw [hb.out.cell (p := ⟨b, o, none⟩) (cell_lt hv)]; exact hv
      have c0 := key _ _ e0
      have c1 := key _ _ e1
      have c2 := key _ _ e2
      have hroom := HCA.out.room
      have HS := Lib.hid (fun w => str_any x.k x.n x.s hok.1 w)
      have zs := strC_size x.k x.n x.s hok.2
      have za := aheadB_size sep i HSZ.out
      have HST : Hid (R = if 200 < acc.length + (aheadB sep i).size + (strC x.k x.n x.s).size then .tuple #[.string ⟨#[]⟩, .int .i64 150] else keyGo sep (decide (i + 1 = 0)) ⟨(acc ++ (aheadB sep i).data.toList ++ (strC x.k x.n x.s).data.toList).toArray⟩ (l.drop (i + 1))) := Lib.hid (by rw [HE.out, hd]; exact key_step sep i acc x _)
      obtain ⟨u, hu⟩ : ∃ u, u = strC x.k x.n x.s := ⟨_, rfl⟩
      rw [← hu] at HS zs HST
      obtain ⟨ah, hah⟩ : ∃ ah, ah = aheadB sep i := ⟨_, rfl⟩
      rw [← hah] at HST za ⊢
      clear hcc e0 e1 e2 key hx hok hil hxe hd hu hah HE
      go_upto_region 6 with (refine wpList_store_row rfl 23 (.tmp 9) (.tmp 16) rfl wr.heap.size (cellC x.k x.n x.s) rfl rfl 23 zeroC (heap_alloc_last _ _) HI rfl (cell_one3 _ _ _) ?_)
      obtain ⟨W2, hW2, X2, B2⟩ : ∃ W2, W2 = (wr.alloc (.cells zeroC 23)).setRow wr.heap.size (cellC x.k x.n x.s) ∧ Hid (Cx W2 wr.heap.size (cellC x.k x.n x.s)) ∧ Hid (Below wr.heap.size wr W2) :=
        ⟨_, rfl, Lib.hid (Cx.setRow (cs := zeroC) ⟨heap_alloc_last _ _⟩ _), Lib.hid (below_row (below_new wr _) (Nat.le_refl _) _)⟩
      change Code.wp _ _ _ _ ((wr.alloc (.cells zeroC 23)).setRow wr.heap.size (cellC x.k x.n x.s))
      rw [← hW2]
      clear hW2 c0 c1 c2
      have HK2 := Lib.hid (HK.out.after B2.out)
      have HB2 := Lib.hid (Below.step hb.out B2.out)
      clear HK hb B2
      obtain ⟨a0, a1, a2⟩ := three_of X2.out
      go_wp2_with fail
      refine (HS.out _).mono ?_
      rintro e w3 ⟨rfl, bb⟩
      have HK3 := Lib.hid (HK2.out.after bb)
      have HB3 := Lib.hid (Below.step HB2.out bb)
      clear bb a0 a1 a2 HK2 HB2 X2
      by_cases hg : 200 < acc.length + ah.size + u.size
      · have d1 : decide ((200 : Int) < (acc.length : Int) + ah.size + u.size) = true := decide_eq_true (by omega)
        have HF : Hid (R = .tuple #[.string ⟨#[]⟩, .int .i64 150]) := Lib.hid (by rw [HST.out, if_pos hg])
        clear HST hg
        go_wp2_with fail
        refine (len_spec _ _ _ _ HK3.out).mono ?_
        rintro e w4 ⟨rfl, hw4⟩
        rw [hw4]
        clear hw4
        go_wp2_with fail
        go_ret2
        exact ⟨by rw [HF.out]; rfl, HB3.out⟩
      · have d1 : decide ((200 : Int) < (acc.length : Int) + ah.size + u.size) = false := decide_eq_false (by omega)
        have HF : Hid (R = keyGo sep (decide (i + 1 = 0)) ⟨(acc ++ ah.data.toList ++ u.data.toList).toArray⟩ (l.drop (i + 1))) := Lib.hid (by rw [HST.out, if_neg hg])
        have HZ : Hid ((acc ++ ah.data.toList ++ u.data.toList).length ≤ 200) := Lib.hid (by
          have e1 : ah.data.toList.length = ah.size := rfl
          have e2 : u.data.toList.length = u.size := rfl
          rw [List.length_append, List.length_append, e1, e2]
          omega)
        clear HST hg
        have HT1 := Lib.hid (text_spec w.heap.size w.heap.size acc ah w3 HK3.out (by omega))
        have HT2 := Lib.hid (fun V h => text_spec w.heap.size w.heap.size (acc ++ ah.data.toList) u V h (by
          have e1 : ah.data.toList.length = ah.size := rfl
          rw [List.length_append, e1]
          omega))
        go_wp2_with fail
        refine (len_spec _ _ _ _ HK3.out).mono ?_
        rintro e w4 ⟨rfl, hw4⟩
        rw [hw4]
        clear hw4
        go_wp2_with fail
        refine HT1.out.mono ?_
        rintro e w5 ⟨rfl, hw5⟩
        have HK5 := Lib.hid hw5.ok
        have HB5 := Lib.hid (HB3.out.trans hw5.below)
        clear hw5 HT1
        go_wp2_with fail
        refine (HT2.out _ HK5.out).mono ?_
        rintro e w6 ⟨rfl, hw6⟩
        have HK6 := Lib.hid hw6.ok
        have HB6 := Lib.hid (HB5.out.trans hw6.below)
        clear hw6 HT2
        go_wp2_with fail
        go_roundw
        case rel => exact ⟨trivial, trivial, acc ++ ah.data.toList ++ u.data.toList, i + 1, by rw [aheadB_succ], by go_num, by omega, HZ.out, HF, HK6, HB6⟩
        case measure => simp [intOf]; omega
    · have hin : l.drop i = [] := List.drop_eq_nil_of_le (by rw [← HN.out]; omega)
      have HF : Hid (R = .tuple #[.string ⟨acc.toArray⟩, .int .i64 0]) := Lib.hid (by rw [HE.out, hin]; cases (decide (i = 0)) <;> rfl)
      have HST := Lib.hid (bstring_spec _ _ _ _ HK.out)
      clear hin HE
      go_wp2_with fail
      refine HST.out.mono ?_
      rintro e w3 ⟨rfl, bb⟩
      have HB3 := Lib.hid (hb.out.trans bb)
      clear bb HST
      go_wp2_with fail
      go_ret2
      exact ⟨by rw [HF.out]; rfl, HB3.out⟩
end Go.Proofs.Ytbbhcbpfffabpaa
