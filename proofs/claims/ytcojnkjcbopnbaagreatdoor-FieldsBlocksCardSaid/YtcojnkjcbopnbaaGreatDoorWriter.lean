/- strings.Builder's WriteString, Reset: walks; a builder that holds bytes. -/
import Derived.Test.YtcojnkjcbopnbaaGreatDoorBuild
namespace Go.Proofs.YtcojnkjcbopnbaaGreatDoor
open Go.RowKit

theorem byteCells_snoc (l : List UInt8) (c : UInt8) : Lib.byteCells (l ++ [c]) = Lib.byteCells l ++ [.int .u8 (c.toNat : Int)] := by simp [Lib.byteCells]
set_option maxHeartbeats 2000000 in
set_option maxRecDepth 100000 in
theorem writeString_k (B b : Nat) (bs : List Value) (s : ByteArray) (w : World) (h : Lib.IsBuilderF 80 5 B b bs w) (hlen : bs.length + s.size ≤ 140737488355328) (hBw : B ≤ w.heap.size) :
    Calls Tryz.prog 58 #[.pointer (some ⟨b, 0, none⟩), .string s] w fun e w' => e = .returned (.tuple #[.int .i64 s.size, .nilIface]) ∧ (Lib.BuilderAtF 80 5 B b (.pointer (some ⟨b, 0, none⟩)) (bs ++ Lib.strCells s) w' ∧ Below B w w' ∧ Lib.OthersKept 5 (some b) w w') := by
  obtain ⟨i0, hi, hz0, hz1, hz2⟩ := info_parts info_byte
  go_enter Tryz.func58, Tryz.ntmps58
  go_wp2_with (go_at_call 89; refine (copyCheck_k B b bs _ h).mono ?_)
  rintro e w1 ⟨rfl, h1, hb1, hk1⟩
  obtain ⟨hB, v, hbk, hown, hne⟩ := h1
  have c0 : w1.cell? ⟨b, 0, none⟩ = some (.pointer (some ⟨b, 0, none⟩)) := by rw [Lib.cell_of_heap hbk]; rfl
  have c1 : w1.cell? ⟨b, 1, none⟩ = some v := by rw [Lib.cell_of_heap hbk]; rfl
  have hs1 := hb1.size
  go_wp2_with (at_builtin; refine Lib.wpList_append_own_stringF _ rfl _ _ 23 9 rfl B 5 i0 Tryz.underlying23 Tryz.underlying9 hi hz0 hz1 hz2 _ _ _ rfl hown s rfl ?c1 hlen ?c2 ?_)
  case c1 => unfold maxLen; omega
  case c2 => omega
  intro v' w2 hown' hgrow hnil
  have hlt : b < w1.heap.size := by
    rcases Nat.lt_or_ge b w1.heap.size with h' | h'
    · exact h'
    · simp [Array.getElem?_eq_none h'] at hbk
  have hb2 : w2.heap[b]? = some (.cells #[.pointer (some ⟨b, 0, none⟩), v] 80 (0, 0)) := by
    rw [hgrow.block b hlt (fun e => hne e.symm)]
    exact hbk
  have d0 : w2.cell? ⟨b, 0, none⟩ = some (.pointer (some ⟨b, 0, none⟩)) := by rw [Lib.cell_of_heap hb2]; rfl
  have d1 : w2.cell? ⟨b, 1, none⟩ = some v := by rw [Lib.cell_of_heap hb2]; rfl
  have f1 : w2.frozen? ⟨b, 1, none⟩ = false := Lib.frozen_of_heap hb2 1
  obtain ⟨ad, n', cap, rfl⟩ : ∃ ad n' cap, v' = .slice ad n' cap := by
    rcases hown'.2 with ⟨hv, h0⟩ | ⟨g, cap, cur, fz, hv, _⟩
    · exact ⟨_, _, _, hv⟩
    · exact ⟨_, _, _, hv⟩
  go_wp2
  go_ret2
  have hl : (Lib.strCells s).length = s.size := by simp [Lib.strCells]
  refine ⟨rfl, ?_, ?_, (hk1.grown hgrow (Lib.ownsRowF_kind hown)).setCell ⟨b, 1, none⟩ rfl _⟩
  · exact Lib.BuilderAtF.put (T := 80) (e := 5) hB hb2 (bs' := bs ++ Lib.strCells s) (by rw [List.length_append, hl]; exact hown') (by decide)
  · exact (hb1.grown hgrow (by omega) (fun k hk => (hown.lt k hk).1)).setCell (p := ⟨b, 1, none⟩) hB _

/-- A builder that holds those bytes. -/
structure BOk (B b : Nat) (l : List UInt8) (w : World) : Prop where
  is : Lib.IsBuilderF 80 5 B b (Lib.byteCells l) w
  le : B ≤ w.heap.size
/-- What writing leaves. -/
structure Wrote (B b : Nat) (l : List UInt8) (w w' : World) : Prop where
  ok : BOk B b l w'
  below : Below B w w'
  others : Lib.OthersKept 5 (some b) w w'
theorem Wrote.trans {B b : Nat} {l m : List UInt8} {w w1 w2 : World} (h : Wrote B b l w w1) (g : Wrote B b m w1 w2) : Wrote B b m w w2 := ⟨g.ok, h.below.trans g.below, h.others.trans g.others⟩
theorem Wrote.refl {B b : Nat} {l : List UInt8} {w : World} (h : BOk B b l w) : Wrote B b l w w := ⟨h, Below.refl _ _, Lib.OthersKept.refl _ _ _⟩
theorem BOk.alloc {B b : Nat} {l : List UInt8} {w : World} (h : BOk B b l w) (o : Obj) : BOk B b l (w.alloc o) := ⟨h.is.alloc o, by have := h.le; rw [World.size_alloc]; omega⟩
theorem Wrote.alloc {B b : Nat} {l : List UInt8} {w w1 : World} (h : Wrote B b l w w1) (o : Obj) : Wrote B b l w (w1.alloc o) := ⟨h.ok.alloc o, h.below.alloc h.ok.le o, h.others.alloc o⟩
theorem BOk.row {B b : Nat} {l : List UInt8} {w : World} (h : BOk B b l w) : B ≤ b ∧ ∃ c, w.heap[b]? = some (.cells c 80 (0, 0)) := by
  rcases h.is with ⟨h1, v, h2, _⟩ | ⟨h1, v, h2, _⟩
  · exact ⟨h1, _, h2⟩
  · exact ⟨h1, _, h2⟩
theorem text_spec (B b : Nat) (l : List UInt8) (s : ByteArray) (w : World) (h : BOk B b l w) (hlen : l.length + s.size ≤ 140737488355328) :
    Calls Tryz.prog 58 #[.pointer (some ⟨b, 0, none⟩), .string s] w fun e w' => e = .returned (.tuple #[.int .i64 s.size, .nilIface]) ∧ Wrote B b (l ++ s.data.toList) w w' := by
  refine (writeString_k B b (Lib.byteCells l) s w h.is (by rw [Lib.byteCells_length]; exact hlen) h.le).mono ?_
  rintro e w' ⟨rfl, h1, h2, h3⟩
  refine ⟨rfl, ⟨Or.inr ?_, by have := h2.size; have := h.le; omega⟩, h2, h3⟩
  have e : Lib.byteCells (l ++ s.data.toList) = Lib.byteCells l ++ Lib.strCells s := by simp [Lib.byteCells, Lib.strCells]
  rw [e]
  exact h1

end Go.Proofs.YtcojnkjcbopnbaaGreatDoor
