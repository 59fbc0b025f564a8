/- Merged by program: Rdr, FTextB, SPieces, SPieces2, SAt, Flat. -/
import Derived.Laws.Externs
import Derived.Lib.IndexMore
import Derived.Lib.SplitLaws
import Derived.Shelf.Strings.PiecesUse
import Derived.Maps.AppendAt
import Derived.Test.YtcojnkjcbopnbaaGreatDoorQjac
import Derived.Test.YtcojnkjcbopnbaaGreatDoorQjab
import Derived.Test.YtcojnkjcbopnbaaGreatDoorQjag
/- The reader in memory; ere.reader.comes: a walk. -/
namespace Go.Proofs.YtcojnkjcbopnbaaGreatDoor
open Go.RowKit

/-- The reader's block: its text, its place, how many brackets are open. -/
structure Rdr (w : World) (p : Nat) (s : ByteArray) (k d : Nat) : Prop where
  row : w.heap[p]? = some (.cells #[.string s, .int .i64 k, .int .i64 d] 115 (0, 0))
theorem Rdr.lt {w : World} {p : Nat} {s : ByteArray} {k d : Nat} (h : Rdr w p s k d) : p < w.heap.size := (Array.getElem?_eq_some_iff.1 h.row).1
theorem Rdr.c0 {w : World} {p : Nat} {s : ByteArray} {k d : Nat} (h : Rdr w p s k d) : w.cell? ⟨p, 0, none⟩ = some (.string s) := cell_of_row _ _ 0 _ _ _ h.row
theorem Rdr.c1 {w : World} {p : Nat} {s : ByteArray} {k d : Nat} (h : Rdr w p s k d) : w.cell? ⟨p, 1, none⟩ = some (.int .i64 k) := cell_of_row _ _ 1 _ _ _ h.row
theorem Rdr.c2 {w : World} {p : Nat} {s : ByteArray} {k d : Nat} (h : Rdr w p s k d) : w.cell? ⟨p, 2, none⟩ = some (.int .i64 d) := cell_of_row _ _ 2 _ _ _ h.row
theorem Rdr.z {w : World} {p : Nat} {s : ByteArray} {k d : Nat} (h : Rdr w p s k d) (j : Nat) : w.frozen? ⟨p, j, none⟩ = false := frozen_of_row _ _ j _ _ h.row
theorem Rdr.after {w w' : World} {p : Nat} {s : ByteArray} {k d : Nat} (h : Rdr w p s k d) (hb : Below w.heap.size w w') : Rdr w' p s k d := ⟨by rw [hb.block p h.lt]; exact h.row⟩
theorem Rdr.put1 {w : World} {p : Nat} {s : ByteArray} {k d : Nat} (h : Rdr w p s k d) (j : Nat) : Rdr (w.setCell ⟨p, 1, none⟩ (.int .i64 j)) p s j d :=
  ⟨by rw [heap_setCell_same _ _ 1 _ _ _ h.row]; rfl⟩
theorem Rdr.put2 {w : World} {p : Nat} {s : ByteArray} {k d : Nat} (h : Rdr w p s k d) (j : Nat) : Rdr (w.setCell ⟨p, 2, none⟩ (.int .i64 j)) p s k j :=
  ⟨by rw [heap_setCell_same _ _ 2 _ _ _ h.row]; rfl⟩
theorem but_put (w : World) (p j : Nat) (v : Value) : But p w (w.setCell ⟨p, j, none⟩ v) :=
  ⟨rfl, rfl, rfl, by rw [World.size_setCell]; exact Nat.le_refl _, fun k _ hp => heap_setCell_other w ⟨p, j, none⟩ k v hp⟩
theorem But.put {p : Nat} {w w1 : World} (h : But p w w1) (j : Nat) (v : Value) : But p w (w1.setCell ⟨p, j, none⟩ v) := h.trans (but_put w1 p j v)
theorem drewN_below (w : World) (n : Nat) : Below w.heap.size w (w.drewN n) := Below.drewN' (Below.refl _ w) n

theorem indexByte_iff (l : List UInt8) (c : UInt8) : 0 ≤ Lib.indexByte l c ↔ c ∈ l := by
  induction l with
  | nil => simp [Lib.indexByte]
  | cons b l ih =>
    unfold Lib.indexByte
    by_cases h : b = c
    · subst h; simp
    · have hb : (b == c) = false := by simpa using h
      rw [hb]
      simp only [Bool.false_eq_true, if_false]
      have hne : c ≠ b := Ne.symm h
      by_cases h1 : Lib.indexByte l c = -1
      · have hb1 : (Lib.indexByte l c == -1) = true := by simpa using h1
        rw [hb1]
        rw [h1] at ih
        simp [hne]
        intro hm
        have := ih.2 hm
        omega
      · have hb1 : (Lib.indexByte l c == -1) = false := by simpa using h1
        rw [hb1]
        have hge := Lib.indexByte_ge l c
        simp [hne]
        rw [← ih]
        omega

/-- Whether one of the bytes comes next. -/
def comesB (s : ByteArray) (k : Nat) (l : List UInt8) : Bool := match s.data.toList[k]? with | some c => decide (c ∈ l) | none => false

set_option maxRecDepth 100000 in
theorem comes_spec (p : Nat) (s g : ByteArray) (k d : Nat) (w : World) (h : Rdr w p s k d) (hk : k ≤ s.size) :
    Calls Tryz.prog 93 #[.pointer (some ⟨p, 0, none⟩), .string g] w fun e w' => e = .returned (.bool (comesB s k g.data.toList)) ∧ ∃ n, w' = w.drewN n := by
  have c0 := h.c0
  have c1 := h.c1
  by_cases hlt : k < s.size
  · have hd : decide ((k : Int) < s.size) = true := decide_eq_true (by omega)
    have hget : s.data.toList[k]? = some s[k] := by rw [List.getElem?_eq_getElem (by simpa using hlt)]; rfl
    have HI := Lib.hid (fun w => Tryz.strings_IndexByte g (s[k].toNat : Int) w)
    have hR : decide (0 ≤ Lib.indexByte g.data.toList s[k]) = comesB s k g.data.toList := by
      unfold comesB
      rw [hget]
      exact decide_eq_decide.2 (indexByte_iff _ _)
    have hu : ((s[k].toNat : Int).toNat.toUInt8) = s[k] := by simp
    rw [hu] at HI
    obtain ⟨I, hi⟩ : ∃ I, I = Lib.indexByte g.data.toList s[k] := ⟨_, rfl⟩
    rw [← hi] at HI hR
    clear hi hu hget
    have HR := Lib.hid hR; clear hR
    go_enter Tryz.func93, Tryz.ntmps93
    go_wp2_with fail
    go_quiet ((go_at_call 105; exact Calls.quiet_of_same (HI.out _)))
    go_wp2_with fail
    rw [HR.out]
    go_ret
    exact ⟨rfl, _, rfl⟩
  · have hd : decide ((k : Int) < s.size) = false := decide_eq_false (by omega)
    have hget : comesB s k g.data.toList = false := by
      unfold comesB
      rw [List.getElem?_eq_none (by simp; omega)]
    rw [hget]
    clear hget
    go_enter Tryz.func93, Tryz.ntmps93
    go_wp2_with fail
    go_quiet (fail)
    go_wp2_with fail
    go_ret
    exact ⟨rfl, _, rfl⟩
end Go.Proofs.YtcojnkjcbopnbaaGreatDoor

/- fields.Rec.Text: a walk; what else stands is kept. -/
namespace Go.Proofs.YtcojnkjcbopnbaaGreatDoor
open Go.RowKit

set_option maxRecDepth 100000 in
theorem rtext_but (p : Nat) (v : Value) (l : List ByteArray) (t : ByteArray) (st : Bool) (o : ByteArray) (w : World) (h : RecF w p v l t st o) (hn : l.length ≤ 1000) (hlen : (sJoin o.data.toList (bytesL l)).length ≤ 140737488355328) :
    Calls Tryz.prog 15 #[.pointer (some ⟨p, 0, none⟩)] w fun e w' => e = .returned (.string (recT l t st o)) ∧ RecF w' p v l (recT l t st o) false (if st then emptyB else o) ∧ But p w w' := by
  have H := Lib.hid h
  have c1 := h.mem.c1
  have c2 := h.mem.c2
  cases st with
  | false =>
    clear h
    go_enter Tryz.func15, Tryz.ntmps15
    go_wp2_with fail
    go_ret
    exact ⟨rfl, H.out, But.refl _ _⟩
  | true =>
    have HS := Lib.hid h.strs
    have HJ := Lib.hid (fun w1 (hb : Below w.heap.size w w1) => sjoin_spec l v o w1 (HS.out.after hb) (by omega) hlen)
    obtain ⟨a, c, rfl⟩ := h.shape
    clear h
    go_enter Tryz.func15, Tryz.ntmps15
    go_upto_region 2 with (fail)
    refine wp_region_held_drew (S := fun w' => (∃ x, Hid (RecF w' p (.slice a l.length c) l x true o)) ∧ Hid (But p w w')) (by kernel_rfl) ⟨⟨t, Lib.hid (H.out.after (below_drew _))⟩, Lib.hid (But.of (below_drew _))⟩ (fun hS => ?_)
    obtain ⟨V, hV⟩ : ∃ V, V = w.drew := ⟨_, rfl⟩
    have HV : Hid (Below w.heap.size w V) := Lib.hid (by rw [hV]; exact below_drew _)
    rw [← hV] at hS ⊢
    clear hV
    refine takeF (i := 0) (d := 7) (v := .pointer (some ⟨p, 0, none⟩)) rfl rfl (by kernel_rfl) (by kernel_rfl) (by kernel_rfl) (fun _ _ _ h => h) (by rfl) (fun w' hSw => by obtain ⟨⟨_, h1⟩, _⟩ := hSw; have c0 := h1.out.mem.c0; have c3 := h1.out.mem.c3; clear h1; go_simp) (by assumption) ?_
    simp only [List.setIfInBounds_toArray, List.set_cons_zero, List.set_cons_succ]
    refine takeF (i := 1) (d := 8) (v := .pointer (some ⟨p, 0, none⟩)) rfl rfl (by kernel_rfl) (by kernel_rfl) (by kernel_rfl) (fun _ _ _ h => h) (by rfl) (fun w' hSw => by obtain ⟨⟨_, h1⟩, _⟩ := hSw; have c0 := h1.out.mem.c0; have c3 := h1.out.mem.c3; clear h1; go_simp) (by assumption) ?_
    simp only [List.setIfInBounds_toArray, List.set_cons_zero, List.set_cons_succ]
    refine takeF (i := 2) (d := 9) (v := .pointer (some ⟨p, 0, none⟩)) rfl rfl (by kernel_rfl) (by kernel_rfl) (by kernel_rfl) (fun _ _ _ h => h) (by rfl) (fun w' hSw => by obtain ⟨⟨_, h1⟩, _⟩ := hSw; have c0 := h1.out.mem.c0; have c3 := h1.out.mem.c3; clear h1; go_simp) (by assumption) ?_
    simp only [List.setIfInBounds_toArray, List.set_cons_zero, List.set_cons_succ]
    refine takeF (i := 3) (d := 10) (v := .pointer (some ⟨p, 0, none⟩)) rfl rfl (by kernel_rfl) (by kernel_rfl) (by kernel_rfl) (fun _ _ _ h => h) (by rfl) (fun w' hSw => by obtain ⟨⟨_, h1⟩, _⟩ := hSw; have c0 := h1.out.mem.c0; have c3 := h1.out.mem.c3; clear h1; go_simp) (by assumption) ?_
    simp only [List.setIfInBounds_toArray, List.set_cons_zero, List.set_cons_succ]
    refine takeF (i := 4) (d := 11) (v := .slice a l.length c) rfl rfl (by kernel_rfl) (by kernel_rfl) (by kernel_rfl) (fun _ _ _ h => h) (by rfl) (fun w' hSw => by obtain ⟨⟨_, h1⟩, _⟩ := hSw; have c0 := h1.out.mem.c0; have c3 := h1.out.mem.c3; clear h1; go_simp) (by assumption) ?_
    simp only [List.setIfInBounds_toArray, List.set_cons_zero, List.set_cons_succ]
    refine takeF (i := 5) (d := 12) (v := .pointer (some ⟨p, 0, none⟩)) rfl rfl (by kernel_rfl) (by kernel_rfl) (by kernel_rfl) (fun _ _ _ h => h) (by rfl) (fun w' hSw => by obtain ⟨⟨_, h1⟩, _⟩ := hSw; have c0 := h1.out.mem.c0; have c3 := h1.out.mem.c3; clear h1; go_simp) (by assumption) ?_
    simp only [List.setIfInBounds_toArray, List.set_cons_zero, List.set_cons_succ]
    refine takeF (i := 6) (d := 13) (v := .pointer (some ⟨p, 0, none⟩)) rfl rfl (by kernel_rfl) (by kernel_rfl) (by kernel_rfl) (fun _ _ _ h => h) (by rfl) (fun w' hSw => by obtain ⟨⟨_, h1⟩, _⟩ := hSw; have c0 := h1.out.mem.c0; have c3 := h1.out.mem.c3; clear h1; go_simp) (by assumption) ?_
    simp only [List.setIfInBounds_toArray, List.set_cons_zero, List.set_cons_succ]
    refine takeF (i := 7) (d := 14) (v := .pointer (some ⟨p, 3, none⟩)) rfl rfl (by kernel_rfl) (by kernel_rfl) (by kernel_rfl) (fun _ _ _ h => h) (by rfl) (fun w' hSw => by obtain ⟨⟨_, h1⟩, _⟩ := hSw; have c0 := h1.out.mem.c0; have c3 := h1.out.mem.c3; clear h1; go_simp) (by assumption) ?_
    simp only [List.setIfInBounds_toArray, List.set_cons_zero, List.set_cons_succ]
    refine takeF (i := 8) (d := 15) (v := .string o) rfl rfl (by kernel_rfl) (by kernel_rfl) (by kernel_rfl) (fun _ _ _ h => h) (by rfl) (fun w' hSw => by obtain ⟨⟨_, h1⟩, _⟩ := hSw; have c0 := h1.out.mem.c0; have c3 := h1.out.mem.c3; clear h1; go_simp) (by assumption) ?_
    simp only [List.setIfInBounds_toArray, List.set_cons_zero, List.set_cons_succ]
    refine wpAnyH_ready (rs := [9]) (by kernel_rfl) (by simp) ?_
    refine AllReadyH.cons rfl (fun X hX => ?_) AllReadyH.nil
    rw [if_pos (by rfl)]
    go_simp
    refine (HJ.out V HV.out).mono ?_
    rintro e w1 ⟨rfl, b1⟩
    have B1 := Lib.hid (Below.step HV.out b1)
    have H1 := Lib.hid (H.out.after B1.out)
    go_wp2_with fail
    refine hX.out _ _ ⟨⟨t, H1⟩, Lib.hid (But.of B1.out)⟩ (fun hS1 => ?_)
    clear hX X hS b1
    refine takeF (i := 10) (d := 17) (v := .pointer (some ⟨p, 0, none⟩)) rfl rfl (by kernel_rfl) (by kernel_rfl) (by kernel_rfl) (fun _ _ _ h => h) (by rfl) (fun w' hSw => by obtain ⟨⟨_, h1⟩, _⟩ := hSw; have c0 := h1.out.mem.c0; have c3 := h1.out.mem.c3; clear h1; go_simp) (by assumption) ?_
    simp only [List.setIfInBounds_toArray, List.set_cons_zero, List.set_cons_succ]
    refine takeF (i := 11) (d := 18) (v := .pointer (some ⟨p, 1, none⟩)) rfl rfl (by kernel_rfl) (by kernel_rfl) (by kernel_rfl) (fun _ _ _ h => h) (by rfl) (fun w' hSw => by obtain ⟨⟨_, h1⟩, _⟩ := hSw; have c0 := h1.out.mem.c0; have c3 := h1.out.mem.c3; clear h1; go_simp) (by assumption) ?_
    simp only [List.setIfInBounds_toArray, List.set_cons_zero, List.set_cons_succ]
    have c1 := H1.out.mem.c1
    have z1 := H1.out.mem.z 1
    refine wpAnyH_ready (rs := [12]) (by kernel_rfl) (by simp) ?_
    refine AllReadyH.cons rfl (fun X hX => ?_) AllReadyH.nil
    rw [if_pos (by rfl)]
    go_simp
    obtain ⟨T, hT⟩ : ∃ T : ByteArray, T = ⟨(sJoin o.data.toList (bytesL l)).toArray⟩ := ⟨_, rfl⟩
    rw [← hT]
    have B2 : Hid (But p w (w1.setCell ⟨p, 1, none⟩ (.string T))) := Lib.hid ((But.of B1.out).put 1 _)
    have H2 : Hid (RecF (w1.setCell ⟨p, 1, none⟩ (.string T)) p (.slice a l.length c) l T true o) := Lib.hid (H1.out.put1 T)
    refine hX.out _ _ ⟨⟨T, H2⟩, B2⟩ (fun hS2 => ?_)
    clear hX X hS1 hS2 c1 z1
    refine wpAnyH_done (by kernel_rfl) ?_ _
    obtain ⟨U, hU⟩ : ∃ U, U = w1.setCell ⟨p, 1, none⟩ (.string T) := ⟨_, rfl⟩
    rw [← hU] at B2 H2 ⊢
    clear hU B1 H1
    have c1 := H2.out.mem.c1
    have c2' := H2.out.mem.c2
    have c3 := H2.out.mem.c3
    have z2 := H2.out.mem.z 2
    have z3 := H2.out.mem.z 3
    have HT := Lib.hid hT
    clear hT
    go_wp2_with fail
    go_ret
    have e : recT l t true o = T := HT.out.symm
    rw [e]
    exact ⟨rfl, (H2.out.put2 false).put3 emptyB, (B2.out.put 2 _).put 3 _⟩
end Go.Proofs.YtcojnkjcbopnbaaGreatDoor

/- subst.isEscape, pieces, Put: walks. -/
namespace Go.Proofs.YtcojnkjcbopnbaaGreatDoor
open Go.RowKit

theorem info_string : (Tryz.prog.info? 9).map (fun i => (i.zero, i.size, i.bytes)) = some (some (.string ByteArray.empty), 1, 16) := by kernel_rfl

/-- Whether a \ lets the byte behind it stand for itself. -/
def sEsc (l : List UInt8) : Bool := Lib.hasPrefix l [92, 38] || Lib.hasPrefix l [92, 92]
theorem sEsc_cons (c : UInt8) (r : List UInt8) : sEsc (c :: r) = true ↔ c = 92 ∧ (r.head? = some 38 ∨ r.head? = some 92) := by
  cases r with
  | nil => simp [sEsc, Lib.hasPrefix]
  | cons d r =>
    simp only [sEsc, Lib.hasPrefix, List.isPrefixOf, Bool.and_true, Bool.or_eq_true, Bool.and_eq_true, beq_iff_eq, List.head?_cons, Option.some.injEq]
    constructor
    · rintro (⟨h1, h2⟩ | ⟨h1, h2⟩)
      · exact ⟨h1.symm, Or.inl h2.symm⟩
      · exact ⟨h1.symm, Or.inr h2.symm⟩
    · rintro ⟨h1, h2 | h2⟩
      · exact Or.inl ⟨h1.symm, h2.symm⟩
      · exact Or.inr ⟨h1.symm, h2.symm⟩

theorem prefix_spec (s p : ByteArray) (b : Bool) (h : Lib.hasPrefix s.data.toList p.data.toList = b) (w : World) :
    Calls Tryz.prog 157 #[.string s, .string p] w fun e w' => e = .returned (.bool b) ∧ w' = w := by
  rw [← h]; exact Tryz.strings_HasPrefix s p w

/-- What the call has made so far: the builder, the slice of texts. -/
structure Pcs (w wr : World) (v : Value) (l : List ByteArray) (cur : List UInt8) : Prop where
  ok : BOk w.heap.size w.heap.size cur wr
  row : wr.ownsRow w.heap.size 9 1 v l.length (l.map Value.string)
  below : Below w.heap.size w wr
theorem Pcs.wrote {w wr w2 : World} {v : Value} {l : List ByteArray} {cur m : List UInt8} (h : Pcs w wr v l cur) (hw : Wrote w.heap.size w.heap.size m wr w2) : Pcs w w2 v l m := by
  obtain ⟨_, c, hb⟩ := h.ok.row
  refine ⟨hw.ok, ⟨h.row.1, ?_⟩, h.below.trans hw.below⟩
  rcases h.row.2 with h0 | ⟨g', cap', cur', rfl, hbg, hg, rest⟩
  · exact Or.inl h0
  · refine Or.inr ⟨g', cap', cur', rfl, hbg, ?_, rest⟩
    rw [hw.others g' _ hg (fun e => ?_) (fun c fz e => ?_)]
    · have e' : g' = w.heap.size := by simpa using e
      subst e'
      rw [hg] at hb
      simp at hb
    · simp at e
theorem BOk.grown {B b : Nat} {l : List UInt8} {w w' : World} {row : Option Nat} (h : BOk B b l w) (hg : w.grownBy w' row) (hr : ∀ g, row = some g → ∃ c, w.heap[g]? = some (.cells c 9 (0, 0))) : BOk B b l w' := by
  have key : ∀ p, Lib.BuilderAtF 80 5 B b p (Lib.byteCells l) w → Lib.BuilderAtF 80 5 B b p (Lib.byteCells l) w' := by
    rintro p ⟨hB, v, hb, hown, hne⟩
    refine ⟨hB, v, ?_, hown.kept hg ?_, hne⟩
    · rw [hg.block b (Array.getElem?_eq_some_iff.1 hb).1 (fun e => ?_)]
      · exact hb
      · obtain ⟨c, hc⟩ := hr b e.symm
        rw [hb] at hc
        simp at hc
    · rcases hown.2 with ⟨rfl, _⟩ | ⟨g, cap, cur, fz, rfl, _, hgg, _⟩
      · exact Or.inl rfl
      · refine Or.inr (fun e => ?_)
        obtain ⟨c, hc⟩ := hr g e.symm
        rw [hgg] at hc
        simp at hc
  refine ⟨?_, Nat.le_trans h.le hg.size⟩
  rcases h.is with h1 | h1
  · exact Or.inl (key _ h1)
  · exact Or.inr (key _ h1)
theorem own_kind {B : Nat} {w : World} {v : Value} {l : List ByteArray} (h : w.ownsRow B 9 1 v l.length (l.map Value.string)) : ∀ g, v.ownBlock = some g → ∃ c, w.heap[g]? = some (.cells c 9 (0, 0)) := by
  intro g e
  rcases h.2 with ⟨rfl, _⟩ | ⟨g', cap', cur', rfl, hbg, hg, rest⟩
  · simp [Value.ownBlock] at e
  · simp only [Value.ownBlock, Option.some.injEq] at e
    subst e
    exact ⟨_, hg⟩
theorem Pcs.snoc {w wr w4 : World} {v v' : Value} {l : List ByteArray} {cur : List UInt8} {s : ByteArray} (h : Pcs w wr v l cur) (o : Obj) (hown : w4.ownsRow w.heap.size 9 1 v' (l.length + 1) (l.map Value.string ++ [.string s])) (hg : (wr.alloc o).grownBy w4 v.ownBlock) : Pcs w w4 v' (l ++ [s]) cur := by
  have hle := h.below.size
  have hrow := own_kind (h.row.kept (World.grownBy_alloc wr o none) (by cases v.ownBlock <;> simp))
  refine ⟨(h.ok.alloc o).grown hg hrow, by rw [List.length_append, List.map_append]; exact hown, ?_⟩
  exact (h.below.alloc hle o).grown hg (by rw [World.size_alloc]; omega) (fun k hk => (h.row.lt k hk).1)

/-- The slice of what 'by' puts. -/
def PiecesOut (by_ : ByteArray) (w : World) (e : Ending) (w' : World) : Prop :=
  ∃ v l, e = .returned v ∧ bytesL l = sPiece by_.data.toList false [] ∧ StrsAt w' v l ∧ Below w.heap.size w w'

theorem string_k (B b : Nat) (l : List UInt8) (w : World) (h : BOk B b l w) :
    Calls Tryz.prog 40 #[.pointer (some ⟨b, 0, none⟩)] w fun e w' => e = .returned (.string ⟨l.toArray⟩) ∧ Wrote B b l w w' := by
  refine (Tryz.Builder_String_any_k B b l w h.is h.le).mono ?_
  rintro e w' ⟨rfl, h1, h2, h3⟩
  exact ⟨rfl, ⟨h1, Nat.le_trans h.le (Nat.le_of_not_lt fun hlt => by have := h2.size; have := h.le; omega)⟩, h2, h3⟩
end Go.Proofs.YtcojnkjcbopnbaaGreatDoor

/- subst.pieces: a walk. -/
namespace Go.Proofs.YtcojnkjcbopnbaaGreatDoor
open Go.RowKit

theorem sPiece_split {s : ByteArray} {i : Nat} (hi : i < s.size) : s.data.toList.drop i = s[i] :: s.data.toList.drop (i + 1) := by
  rw [List.drop_eq_getElem_cons (by simpa using hi)]; rfl

theorem sPiece_amp (c : UInt8) (r cur : List UInt8) (h : c = 38) : sPiece (c :: r) false cur = cur :: sPiece r false [] := by
  show (if c = 38 then _ else _) = _
  rw [if_pos h]
theorem sPiece_esc (c : UInt8) (r cur : List UInt8) (h : c ≠ 38) (h2 : c = 92 ∧ (r.head? = some 38 ∨ r.head? = some 92)) : sPiece (c :: r) false cur = sPiece r true cur := by
  show (if c = 38 then _ else if _ then _ else _) = _
  rw [if_neg h, if_pos h2]
theorem sPiece_one (c : UInt8) (r cur : List UInt8) (h : c ≠ 38) (h2 : ¬ (c = 92 ∧ (r.head? = some 38 ∨ r.head? = some 92))) : sPiece (c :: r) false cur = sPiece r false (cur ++ [c]) := by
  show (if c = 38 then _ else if _ then _ else _) = _
  rw [if_neg h, if_neg h2]
theorem sowns_after {w w' : World} {base : Nat} {e : TypeId} {size : Nat} {v : Value} {n : Nat} {xs : List Value} (h : w.ownsRow base e size v n xs) (hb : Below w.heap.size w w') : w'.ownsRow base e size v n xs :=
  h.kept (row := none) ⟨hb.os, hb.tape, hb.output, hb.size, fun k hk _ => hb.block k hk⟩ (by cases v.ownBlock <;> simp)

theorem bytesL_len (l : List ByteArray) : (bytesL l).length = l.length := by simp [bytesL]
end Go.Proofs.YtcojnkjcbopnbaaGreatDoor

/- subst.byByte, At by a byte: walks. -/
namespace Go.Proofs.YtcojnkjcbopnbaaGreatDoor
open Go.RowKit

theorem splitK_ne (sep s : List UInt8) (k : Nat) : Lib.splitK sep 0 k s ≠ [] := by
  cases k with
  | zero => simp [Lib.splitK]
  | succ k => unfold Lib.splitK; split <;> simp
/-- What a separator parts is joined by it again. -/
theorem join_split (sep : List UInt8) (k : Nat) : ∀ s : List UInt8, sJoin sep (Lib.splitK sep 0 k s) = s := by
  induction k with
  | zero => intro s; simp [Lib.splitK, sJoin]
  | succ k ih =>
    intro s
    unfold Lib.splitK
    rcases Lib.index_spec s sep with ⟨h, _⟩ | ⟨i, h, hi, ho, _⟩
    · rw [if_pos (by rw [h]; rfl)]
      simp [sJoin]
    · have hn : ¬ (Lib.index s sep == -1) = true := fun e => by have := beq_iff_eq.1 e; omega
      rw [if_neg hn, sJoin_cons _ _ _ (splitK_ne _ _ _), ih, h]
      unfold Lib.occAt at ho
      obtain ⟨r, hr⟩ := List.isPrefixOf_iff_prefix.1 ho
      have e1 : ((i : Int).toNat + 0) = i := by omega
      have e2 : s.drop ((i : Int).toNat + sep.length) = r := by
        rw [show (i : Int).toNat + sep.length = i + sep.length by omega, ← List.drop_drop, ← hr, List.drop_left']
        rfl
      rw [e1, e2, hr, List.take_append_drop]

/-- The parts of a text by a byte. -/
def PartsOut (s sep : ByteArray) (w : World) (v : Value) (w' : World) : Prop :=
  ∃ l, NewStrs w w' v l ∧ sJoin sep.data.toList (bytesL l) = s.data.toList ∧ l.length ≤ s.size + 1 ∧ Below w.heap.size w w'

set_option maxRecDepth 100000 in
theorem byByte_spec (s sep : ByteArray) (h1 : sep.size = 1) (hs : s.size ≤ 100000) (w : World) (hm : ∃ m : Int, w.cell? ⟨0, 0, none⟩ = some (.int .i64 m)) :
    Calls Tryz.prog 34 #[.string s, .string sep] w fun e w' => ∃ v, e = .returned v ∧ PartsOut s sep w v w' := by
  obtain ⟨m, hm⟩ := hm
  by_cases h0 : s.size = 0
  · have hsl : s.data.toList = [] := List.eq_nil_of_length_eq_zero (by rw [Array.length_toList]; exact h0)
    have hs0 : s.toList = [] := by rw [Lib.toList_data, hsl]
    have hse : s.toList.isEmpty = true := by rw [hs0]; rfl
    have HS := Lib.hid hsl
    clear hsl hm
    go_enter Tryz.func34, Tryz.ntmps34
    go_wp2_with fail
    go_ret
    exact ⟨_, rfl, [], World.ownsRow_nil _ _ _ _, by rw [HS.out]; rfl, by simp, Below.refl _ _⟩
  · have hne : s.data.toList ≠ [] := fun e => h0 (by have := congrArg List.length e; simpa using this)
    have hs0 : ¬ s.toList = [] := by rw [Lib.toList_data]; exact hne
    have hse : s.toList.isEmpty = false := by cases h : s.toList with
                                            | nil => exact absurd h hs0
                                            | cons a b => rfl
    have HC := Lib.hid (Tryz.strings_Split s sep m w (by omega) hm (by omega))
    have hln := Lib.hid (Lib.splitB_all sep (by omega) 0 _ s rfl)
    have hle := Lib.countB_le sep (by omega) s.size s (Nat.le_refl _)
    have hd := Lib.hid (Lib.splitB_data sep 0 (Lib.countB s sep) s)
    obtain ⟨n, hn⟩ : ∃ n, n = Lib.countB s sep := ⟨_, rfl⟩
    obtain ⟨l, hl⟩ : ∃ l, l = Lib.splitB sep 0 (Lib.countB s sep) s := ⟨_, rfl⟩
    rw [← hl, ← hn] at HC hln
    rw [← hl, ← hn] at hd
    rw [← hn] at hle
    clear hl hn hm hne
    go_enter Tryz.func34, Tryz.ntmps34
    go_wp2_with fail
    refine HC.out.mono ?_
    rintro e w1 ⟨rfl, hw1⟩
    have hO : NewStrs w w1 (.slice (some ⟨w.heap.size, 0, none⟩) (n + 1) (n + 1)) l := by
      have := World.ownsRow_lit (base := w.heap.size) (e := 9) (size := 1) w (l.map Value.string).toArray (n + 1) (Nat.le_refl _) (by unfold maxLen; omega) (by simp [hln.out])
      unfold NewStrs
      rw [hw1, hln.out]
      exact this
    have HO := Lib.hid hO
    have B1 : Hid (Below w.heap.size w w1) := Lib.hid (by rw [hw1]; exact below_new _ _)
    clear hw1 hO
    go_wp2_with fail
    go_ret
    refine ⟨_, rfl, l, HO.out, ?_, by rw [hln.out]; omega, B1.out⟩
    show sJoin sep.data.toList (l.map (·.data.toList)) = _
    rw [hd.out, join_split]

set_option maxRecDepth 100000 in
theorem at_byte (s sep : ByteArray) (c : UInt8) (hsep : sep.data.toList = [c]) (h32 : c ≠ 32) (h92 : c ≠ 92) (hs : s.size ≤ 100000) (w : World) (hm : ∃ m : Int, w.cell? ⟨0, 0, none⟩ = some (.int .i64 m)) :
    Calls Tryz.prog 20 #[.string s, .string sep] w fun e w' => ∃ v, e = .returned (.tuple #[v, .int .i64 0, .int .i64 0]) ∧ PartsOut s sep w v w' := by
  have h1 : sep.size = 1 := by have := congrArg List.length hsep; simpa using this
  have ht : sep.toList = [c] := by rw [Lib.toList_data]; exact hsep
  have a32 : ¬ sep.toList = [32] := by rw [ht]; intro h; exact h32 (List.cons.inj h).1
  have b32 : (sep.toList == [32]) = false := beq_eq_false_iff_ne.2 a32
  have a92 : ¬ sep.toList = [92] := by rw [ht]; intro h; exact h92 (List.cons.inj h).1
  have b92 : (sep.toList == [92]) = false := beq_eq_false_iff_ne.2 a92
  have c92 : (sep.toList != [92]) = true := by simp [bne, b92]
  have a0 : ¬ sep.toList = [] := by rw [ht]; simp
  have b0 : sep.toList.isEmpty = false := by rw [ht]; rfl
  have HB := Lib.hid (byByte_spec s sep h1 hs w hm)
  clear ht hsep hm
  go_enter Tryz.func20, Tryz.ntmps20
  go_wp2_with fail
  refine HB.out.mono ?_
  rintro e w1 ⟨v, rfl, l, h2, h3, h4, h5⟩
  obtain ⟨a, k, rfl⟩ := h2.shape
  have HP : Hid (PartsOut s sep w (.slice a l.length k) w1) := Lib.hid ⟨l, h2, h3, h4, h5⟩
  clear h2 h3 h4 h5
  go_wp2_with fail
  go_ret3
  exact ⟨_, rfl, HP.out⟩
end Go.Proofs.YtcojnkjcbopnbaaGreatDoor

/- Rows of a slice's elements' cells, a slice that a call owns; plain lemmas. -/
namespace Go.Proofs.YtcojnkjcbopnbaaGreatDoor
open Go.RowKit

theorem owns_after {w w' : World} {base : Nat} {e : TypeId} {size : Nat} {v : Value} {n : Nat} {xs : List Value} (h : w.ownsRow base e size v n xs) (hb : Below w.heap.size w w') : w'.ownsRow base e size v n xs :=
  h.kept (row := none) ⟨hb.os, hb.tape, hb.output, hb.size, fun k hk _ => hb.block k hk⟩ (by cases v.ownBlock <;> simp)
theorem owns_but {p : Nat} {w w' : World} {base : Nat} {e : TypeId} {size : Nat} {v : Value} {n : Nat} {xs : List Value} (h : w.ownsRow base e size v n xs) (hb : But p w w') (hp : v.ownBlock ≠ some p) : w'.ownsRow base e size v n xs :=
  h.kept (row := some p) ⟨hb.os, hb.tape, hb.output, hb.size, fun k hk e => hb.block k hk (fun e' => e (by rw [e']))⟩ (Or.inr hp)

/-- The cells of the first so many parts. -/
def flatC (cs : Nat → Array Value) (n : Nat) : List Value := (List.range n).flatMap fun j => (cs j).toList
theorem flatC_succ (cs : Nat → Array Value) (n : Nat) : flatC cs (n + 1) = flatC cs n ++ (cs n).toList := by
  unfold flatC
  rw [List.range_succ, List.flatMap_append]
  simp
theorem flatC_len (m : Nat) (cs : Nat → Array Value) (n : Nat) (h : ∀ j, j < n → (cs j).size = m) : (flatC cs n).length = n * m := by
  induction n with
  | zero => simp [flatC]
  | succ n ih =>
    rw [flatC_succ, List.length_append, ih fun j hj => h j (by omega)]
    have := h n (by omega)
    simp only [Array.length_toList, this]
    rw [Nat.add_mul, Nat.one_mul]
theorem flatC_get (m : Nat) (cs : Nat → Array Value) (n : Nat) (h : ∀ j, j < n → (cs j).size = m) (i : Nat) (hi : i < n) (j : Nat) (hj : j < m) : (flatC cs n)[i * m + j]? = (cs i)[j]? := by
  induction n with
  | zero => omega
  | succ n ih =>
    rw [flatC_succ]
    have hl := flatC_len m cs n fun j hj => h j (by omega)
    by_cases e : i < n
    · have h1 : i * m + j < n * m := by
        have : (i + 1) * m ≤ n * m := Nat.mul_le_mul_right m e
        rw [Nat.add_mul, Nat.one_mul] at this
        omega
      rw [List.getElem?_append_left (by omega)]
      exact ih (fun j hj => h j (by omega)) e
    · obtain rfl : i = n := by omega
      rw [List.getElem?_append_right (by omega), hl]
      simp
theorem flatC_congr {cs ds : Nat → Array Value} {n : Nat} (h : ∀ j, j < n → cs j = ds j) : flatC cs n = flatC ds n := by
  induction n with
  | zero => rfl
  | succ n ih => rw [flatC_succ, flatC_succ, ih fun j hj => h j (by omega), h n (by omega)]
theorem info_re : (Tryz.prog.info? 68).map (·.size) = some 8 := by kernel_rfl
theorem info_re3 : (Tryz.prog.info? 68).map (fun i => (i.zero, i.size, i.bytes)) = some (some (.agg #[.int .i64 0, .int .u64 0, .int .u64 0, .int .u64 0, .int .u64 0, .int .i64 0, .int .i64 0, .slice none 0 0]), 8, 80) := by kernel_rfl
theorem re_one (k : Int) (f : Nat → Nat) (lo hi : Int) (a : Option Addr) (n c : Nat) : (reC k f lo hi (.slice a n c)).all (·.oneCell') = true := by
  unfold reC
  simp [Value.oneCell']
end Go.Proofs.YtcojnkjcbopnbaaGreatDoor
