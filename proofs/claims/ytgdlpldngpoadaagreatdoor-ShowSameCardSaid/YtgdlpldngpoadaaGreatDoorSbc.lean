/- Merged by program: SyM. -/
import Derived.Maps.AppendAt
import Derived.Deep.OwnRows
import Derived.Test.YtgdlpldngpoadaaGreatDoorSaw
import Derived.Test.YtgdlpldngpoadaaGreatDoorSab
/- syntax.reader reads an expression, where nothing is wrong: newReader (gen_sy.py). -/
namespace Go.Proofs.YtgdlpldngpoadaaGreatDoor
open Go.RowKit

/-- Where each bracket is closed, from the token i on, with those open that st holds. -/
def scanC : Nat → List Tp → List Nat → List Nat → List Nat
  | _, [], _, C => C
  | i, T :: L, st, C => if sgB [⟨#[40]⟩, ⟨#[91]⟩] T then scanC (i + 1) L (st ++ [i]) C else if st = [] then scanC (i + 1) L st C else if sgB [⟨#[41]⟩, ⟨#[93]⟩] T then scanC (i + 1) L st.dropLast (C.set (st.getLast?.getD 0) i) else scanC (i + 1) L st C
def intsV (l : List Nat) : List Value := l.map fun n => Value.int .i64 (n : Nat)
theorem intsV_snoc (l : List Nat) (n : Nat) : intsV (l ++ [n]) = intsV l ++ [Value.int .i64 (n : Nat)] := by simp [intsV]
theorem info_int3q : (Tryz.prog.info? 3).map (fun i => (i.zero, i.size, i.bytes)) = some (some (.int .i64 0), 1, 8) := by kernel_rfl
theorem info_bool3q : (Tryz.prog.info? 4).map (fun i => (i.zero, i.size, i.bytes)) = some (some (.bool false), 1, 1) := by kernel_rfl
theorem owns_form {w : World} {base : Nat} {e : TypeId} {s : Nat} {v : Value} {n : Nat} {xs : List Value} (h : w.ownsRow base e s v n xs) : ∃ a c, v = .slice a n c := by
  rcases h.2 with ⟨rfl, rfl⟩ | ⟨g, cap, cur, rfl, _⟩
  · exact ⟨_, _, rfl⟩
  · exact ⟨_, _, rfl⟩
/-- A row that is cut by its last one. -/
theorem owns_cut {w : World} {base g cap k : Nat} {s : List Nat} {n : Nat} (h : w.ownsRow base 3 1 (.slice (some ⟨g, 0, none⟩) (k + 1) cap) (k + 1) (intsV (s ++ [n]))) : w.ownsRow base 3 1 (.slice (some ⟨g, 0, none⟩) k cap) k (intsV s) := by
  obtain ⟨hl, h0 | ⟨g', cap', cur, e, hb, hh, hc, hm, hs, ht⟩⟩ := h
  · simp at h0
  · simp only [Value.slice.injEq, Option.some.injEq, Addr.mk.injEq] at e
    obtain ⟨⟨rfl, _, _⟩, _, rfl⟩ := e
    have hlen : s.length = k := by simp [intsV] at hl; omega
    refine ⟨by simp [intsV]; omega, Or.inr ⟨g, cap, cur, rfl, hb, hh, by omega, hm, hs, ?_⟩⟩
    have e2 : cur.toList.take (k * 1) = (cur.toList.take ((k + 1) * 1)).take k := by rw [List.take_take]; congr 1; omega
    rw [e2, ht, intsV_snoc]
    exact List.take_left' (by simp [intsV]; omega)
theorem QS.close {w : World} {B : Bk} {L : List Tp} {C : List Nat} {M : List Bool} {k : Nat} {d : Int} (h : QS w B ⟨L, C, M⟩ k d) (h1 : B.gc ≠ B.g) (h2 : B.gc ≠ B.gm) (o i : Nat) (ho : o < C.length) : QS (w.setCell ⟨B.gc, o, none⟩ (.int .i64 (i : Nat))) B ⟨L, C.set o i, M⟩ k d := by
  have hb := bt_set w B.gc o (.int .i64 (i : Nat))
  have eg := hb.block B.g h.toks.lt (Ne.symm h1)
  have em := hb.block B.gm h.mlt (Ne.symm h2)
  refine ⟨by rw [hb.block B.p h.plt h.ne.2.1]; exact h.row, ⟨fun j u hj => by rw [World.cell?_of_block (a := ⟨B.g, j, none⟩) eg]; exact h.toks.cell j u hj, Nat.lt_of_lt_of_le h.toks.lt hb.size, h.toks.cap⟩, fun a ha => ?_,
    fun a ha => by rw [World.cell?_of_block (a := ⟨B.gm, a, none⟩) em]; exact h.com a ha, Nat.lt_of_lt_of_le h.clt hb.size, Nat.lt_of_lt_of_le h.mlt hb.size, by simp only [List.length_set]; exact h.lens, h.lt, h.few, h.ne⟩
  simp only [List.length_set] at ha
  by_cases e : a = o
  · subst e
    rw [cell_same (h.clo a ho)]
    simp
  · rw [cell_other (addr_ne (Or.inr (Ne.symm e))), h.clo a ha]
    simp [Ne.symm e]
structure NR (w wr : World) (B : Bk) (L : List Tp) (i : Nat) (st C : List Nat) (d : Int) : Prop where
  qs : QS wr B ⟨L, C, List.replicate L.length false⟩ 0 d
  row : ∃ cs, wr.heap[B.gc]? = some (.cells cs 3 (0, 0))
  below : Below w.heap.size w wr
  few : ∀ o ∈ st, o < L.length
  g : B.g < w.heap.size
  n1 : w.heap.size ≤ B.p
  n2 : w.heap.size ≤ B.gc
  n3 : w.heap.size ≤ B.gm
  ne : B.gc ≠ B.gm
  lt : i ≤ L.length
theorem NR.after {w wr w2 : World} {B : Bk} {L : List Tp} {i : Nat} {st C : List Nat} {d : Int} (h : NR w wr B L i st C d) (hb : Below wr.heap.size wr w2) : NR w w2 B L i st C d :=
  ⟨h.qs.after hb, by obtain ⟨cs, e⟩ := h.row; exact ⟨cs, by rw [hb.block _ (Array.getElem?_eq_some_iff.1 e).1]; exact e⟩, Below.step h.below hb, h.few, h.g, h.n1, h.n2, h.n3, h.ne, h.lt⟩
theorem NR.z {w wr : World} {B : Bk} {L : List Tp} {i : Nat} {st C : List Nat} {d : Int} (h : NR w wr B L i st C d) (o : Nat) : wr.frozen? ⟨B.gc, o, none⟩ = false := by
  obtain ⟨cs, e⟩ := h.row
  exact frozen_of_row _ _ o _ _ e
theorem three (w : World) (a b c : Array Value) (A B C : TypeId) : let V := (((w.alloc (.cells a A)).alloc (.cells b B)).alloc (.cells c C)).drew
    V.heap[w.heap.size]? = some (.cells a A (0, 0)) ∧ V.heap[w.heap.size + 1]? = some (.cells b B (0, 0)) ∧ V.heap[w.heap.size + 1 + 1]? = some (.cells c C (0, 0)) ∧ Below w.heap.size w V := by
  have s1 : (w.alloc (.cells a A)).heap.size = w.heap.size + 1 := World.size_alloc _ _
  have s2 : ((w.alloc (.cells a A)).alloc (.cells b B)).heap.size = w.heap.size + 1 + 1 := by rw [World.size_alloc, s1]
  have b1 := below_new w (.cells a A)
  have b2 := below_new (w.alloc (.cells a A)) (.cells b B)
  have b3 := below_new ((w.alloc (.cells a A)).alloc (.cells b B)) (.cells c C)
  have h1 := heap_alloc_last w (.cells a A)
  have h2 := heap_alloc_last (w.alloc (.cells a A)) (.cells b B)
  have h3 := heap_alloc_last ((w.alloc (.cells a A)).alloc (.cells b B)) (.cells c C)
  rw [s1] at h2
  rw [s2] at h3
  refine ⟨?_, ?_, h3, Below.step (Below.step (Below.step b1 b2) b3) (below_drew _)⟩
  · exact (b3.block w.heap.size (by omega)).trans ((b2.block w.heap.size (by omega)).trans h1)
  · exact (b3.block (w.heap.size + 1) (by omega)).trans h2
theorem nr_new {w V : World} {L : List Tp} {g c gc gm p : Nat} (ht : ToksAt w g c L) (hL : 0 < L.length) (hL2 : L.length ≤ 3001) (hc : V.heap[gc]? = some (.cells (madeCells #[Value.int .i64 0] L.length) 3 (0, 0))) (hm : V.heap[gm]? = some (.cells (madeCells #[Value.bool false] L.length) 4 (0, 0)))
    (hp : V.heap[p]? = some (.cells (qsC ⟨p, g, gc, gm, c, L.length, L.length⟩ ⟨L, (List.replicate L.length 0), (List.replicate L.length false)⟩ 0 0) 127 (0, 0))) (hb : Below w.heap.size w V) (h1 : w.heap.size ≤ gc) (h2 : w.heap.size ≤ gm) (h3 : w.heap.size ≤ p) (h4 : gc ≠ gm) (h5 : gc ≠ p) (h6 : gm ≠ p) : NR w V ⟨p, g, gc, gm, c, L.length, L.length⟩ L 0 [] (List.replicate L.length 0) 0 := by
  have hg := ht.lt
  refine ⟨⟨hp, ht.after hb, fun i hi => ?_, fun i hi => ?_, (Array.getElem?_eq_some_iff.1 hc).1, (Array.getElem?_eq_some_iff.1 hm).1, by simp, hL, hL2, ⟨?_, ?_, ?_⟩⟩, ⟨_, hc⟩, hb, by simp, hg, h3, h1, h2, h4, by omega⟩
  · simp only [List.length_replicate] at hi
    rw [cell_of_row _ _ i _ _ _ hc, ← Array.getElem?_toList, toList_madeCells_one]
    simp [hi]
  · simp only [List.length_replicate] at hi
    rw [cell_of_row _ _ i _ _ _ hm, ← Array.getElem?_toList, toList_madeCells_one]
    simp [hi]
  · show p ≠ g; omega
  · show p ≠ gc; omega
  · show p ≠ gm; omega
theorem NR.kept {w u u2 : World} {B : Bk} {L : List Tp} {i : Nat} {st C : List Nat} {d : Int} (h : NR w u B L i st C d) (N : Nat) (hp : B.p < N) (hg : B.g < N) (hc : B.gc < N) (hm : B.gm < N) (hw : w.heap.size ≤ N) (e1 : u2.os = u.os) (e2 : u2.tape = u.tape) (e3 : u2.output = u.output) (e4 : u.heap.size ≤ u2.heap.size) (hk : ∀ k, k < N → u2.heap[k]? = u.heap[k]?) (j : Nat) (s : List Nat) (hs : ∀ o ∈ s, o < L.length) (hj : j ≤ L.length) : NR w u2 B L j s C d := by
  obtain ⟨cs, er⟩ := h.row
  have eg := hk B.g hg
  have ec := hk B.gc hc
  have em := hk B.gm hm
  exact ⟨⟨by rw [hk _ hp]; exact h.qs.row, ⟨fun j u hj => by rw [World.cell?_of_block (a := ⟨B.g, j, none⟩) eg]; exact h.qs.toks.cell j u hj, Nat.lt_of_lt_of_le h.qs.toks.lt e4, h.qs.toks.cap⟩,
    fun i hi => by rw [World.cell?_of_block (a := ⟨B.gc, i, none⟩) ec]; exact h.qs.clo i hi, fun i hi => by rw [World.cell?_of_block (a := ⟨B.gm, i, none⟩) em]; exact h.qs.com i hi,
    Nat.lt_of_lt_of_le h.qs.clt e4, Nat.lt_of_lt_of_le h.qs.mlt e4, h.qs.lens, h.qs.lt, h.qs.few, h.qs.ne⟩, ⟨cs, by rw [ec]; exact er⟩, ⟨e1.trans h.below.os, e2.trans h.below.tape, e3.trans h.below.output, Nat.le_trans h.below.size e4, fun k hk2 => (hk k (by omega)).trans (h.below.block k hk2)⟩, hs, h.g, h.n1, h.n2, h.n3, h.ne, hj⟩
theorem NR.step {w u : World} {B : Bk} {L : List Tp} {i : Nat} {st C : List Nat} {d : Int} (h : NR w u B L i st C d) (j : Nat) (s : List Nat) (hs : ∀ o ∈ s, o < L.length) (hj : j ≤ L.length) : NR w u B L j s C d := ⟨h.qs, h.row, h.below, hs, h.g, h.n1, h.n2, h.n3, h.ne, hj⟩
theorem NR.close {w u : World} {B : Bk} {L : List Tp} {i : Nat} {st C : List Nat} {d : Int} (h : NR w u B L i st C d) (o i2 : Nat) (ho : o < L.length) : NR w (u.setCell ⟨B.gc, o, none⟩ (.int .i64 (i2 : Nat))) B L i st (C.set o i2) d := by
  have hb := bt_set u B.gc o (.int .i64 (i2 : Nat))
  obtain ⟨cs, e⟩ := h.row
  have hg := h.g
  have h2 := h.n2
  exact ⟨h.qs.close (by omega) h.ne o i2 (by have := h.qs.lens.1; simp only at this; omega), ⟨_, heap_setCell_same _ _ o _ _ _ e⟩, ⟨hb.os.trans h.below.os, hb.tape.trans h.below.tape, hb.output.trans h.below.output, Nat.le_trans h.below.size hb.size, fun k hk => (hb.block k (Nat.lt_of_lt_of_le hk h.below.size) (by omega)).trans (h.below.block k hk)⟩, h.few, hg, h.n1, h2, h.n3, h.ne, h.lt⟩
set_option maxRecDepth 100000 in
set_option maxHeartbeats 4000000 in
theorem newReader_spec (L : List Tp) (hL : 0 < L.length) (hL2 : L.length ≤ 3001) (hno : ∀ (i : Nat) (T : Tp), L[i]? = some T → sgB [⟨#[44]⟩] T = false) (w : World) (g c : Nat) (ht : ToksAt w g c L) :
    Calls Tryz.prog 76 #[.slice (some ⟨g, 0, none⟩) L.length c] w fun e w' => ∃ B, e = .returned (.pointer (some ⟨B.p, 0, none⟩)) ∧ Hid (QS w' B ⟨L, scanC 0 L [] (List.replicate L.length 0), List.replicate L.length false⟩ 0 (-1)) ∧ Hid (Below w.heap.size w w') ∧ Hid (w.heap.size ≤ B.p ∧ w.heap.size ≤ B.gc ∧ w.heap.size ≤ B.gm) := by
  have hmk := run_make_row' (P := Tryz.prog) 103 3 (.int .i64 0) 8 Tryz.underlying103 info_int3q rfl .i64 .i64 L.length (by omega) (by omega)
  have hmb := run_make_row' (P := Tryz.prog) 125 4 (.bool false) 1 Tryz.underlying125 info_bool3q rfl .i64 .i64 L.length (by omega) (by omega)
  have HT := Lib.hid ht
  have HL := Lib.hid (And.intro hL hL2)
  have HNO := Lib.hid hno
  clear ht hno
  go_enter Tryz.func76, Tryz.ntmps76
  go_upto_region 1 with (fail)
  go_cut [3] from 7 to 15 (fun z wx => ∃ B, z = .pointer (some ⟨B.p, 0, none⟩) ∧ Hid (B.g = g ∧ B.c = c) ∧ Hid (NR w wx B L 0 [] (List.replicate L.length 0) 0))
  case first =>
    go_region
    · go_wp2_with fail
      go_meet
      obtain ⟨h1, h2, h3, hb⟩ := three w (madeCells #[Value.int .i64 0] L.length) (madeCells #[Value.bool false] L.length) (qsC ⟨w.heap.size + 1 + 1, g, w.heap.size, w.heap.size + 1, c, L.length, L.length⟩ ⟨L, (List.replicate L.length 0), List.replicate L.length false⟩ 0 0) 3 4 127
      exact ⟨⟨w.heap.size + 1 + 1, g, w.heap.size, w.heap.size + 1, c, L.length, L.length⟩, rfl, Lib.hid ⟨rfl, rfl⟩, Lib.hid (nr_new HT.out HL.out.1 HL.out.2 h1 h2 h3 hb (by omega) (by omega) (by omega) (by omega) (by omega) (by omega))⟩
    · go_wp2_with fail
      go_meet
      obtain ⟨h1, h2, h3, hb⟩ := three w (madeCells #[Value.bool false] L.length) (madeCells #[Value.int .i64 0] L.length) (qsC ⟨w.heap.size + 1 + 1, g, w.heap.size + 1, w.heap.size, c, L.length, L.length⟩ ⟨L, (List.replicate L.length 0), List.replicate L.length false⟩ 0 0) 4 3 127
      exact ⟨⟨w.heap.size + 1 + 1, g, w.heap.size + 1, w.heap.size, c, L.length, L.length⟩, rfl, Lib.hid ⟨rfl, rfl⟩, Lib.hid (nr_new HT.out HL.out.1 HL.out.2 h2 h1 h3 hb (by omega) (by omega) (by omega) (by omega) (by omega) (by omega))⟩
  case rest =>
    obtain ⟨B, rfl, HBg, HN⟩ := hcut
    have c4 := HN.out.qs.c4
    have z4 := HN.out.qs.z 4
    go_upto_region 3 with (fail)
    obtain ⟨V, hV, HNV⟩ : ∃ V, V = wc.setCell ⟨B.p, 4, none⟩ (.int .i64 (-1)) ∧ Hid (NR w V B L 0 [] (List.replicate L.length 0) (-1)) := ⟨_, rfl, Lib.hid (by
      have hb := bt_set wc B.p 4 (.int .i64 (-1))
      have hn := HN.out
      obtain ⟨cs, e⟩ := hn.row
      exact ⟨hn.qs.to (-1), ⟨cs, by rw [hb.block _ (Array.getElem?_eq_some_iff.1 e).1 (Ne.symm hn.qs.ne.2.1)]; exact e⟩, ⟨hb.os.trans hn.below.os, hb.tape.trans hn.below.tape, hb.output.trans hn.below.output, Nat.le_trans hn.below.size hb.size, fun i hi => (hb.block i (Nat.lt_of_lt_of_le hi hn.below.size) (by have := hn.n1; omega)).trans (hn.below.block i hi)⟩, hn.few, hn.g, hn.n1, hn.n2, hn.n3, hn.ne, hn.lt⟩)⟩
    rw [← hV]
    clear hV c4 z4 HN
    have hLf := HL.out.2
    obtain ⟨R, hR⟩ : ∃ R, R = scanC 0 L [] (List.replicate L.length 0) := ⟨_, rfl⟩
    have HRR := Lib.hid hR
    clear hR
    go_wp2_with fail
    go_loopw [4, 5, 6, 21] (fun v i5 l6 z wr => i5 = i5 ∧ l6 = l6 ∧ ∃ (i : Nat) (st C : List Nat), z = .int .i64 i ∧ i ≤ L.length ∧ Hid (st.length ≤ i) ∧ Hid (scanC i (L.drop i) st C = R) ∧ Hid (NR w wr B L i st C (-1)) ∧ Hid (wr.ownsRow V.heap.size 3 1 v st.length (intsV st)) ∧ Hid (V.heap.size ≤ wr.heap.size)) (fun _ _ _ z _ => L.length - (intOf z).toNat)
    case atStart => exact ⟨rfl, rfl, 0, [], (List.replicate L.length 0), rfl, Nat.zero_le _, Lib.hid (by simp), Lib.hid (by rw [List.drop_zero, HRR.out]), HNV, Lib.hid (World.ownsRow_nil _ _ _ _), Lib.hid (Nat.le_refl _)⟩
    case round =>
      obtain ⟨_, _, i, st, C, rfl, hi, HST, HSc, HNR, HOw, HBV⟩ := hrel
      obtain ⟨av, cv, hv⟩ := owns_form HOw.out
      subst hv
      by_cases hgo : i < L.length
      · obtain ⟨T, hT⟩ : ∃ T, L[i]? = some T := ⟨_, List.getElem?_eq_getElem hgo⟩
        have hdr : L.drop i = T :: L.drop (i + 1) := by
          rw [List.drop_eq_getElem_cons hgo]
          have e := List.getElem?_eq_getElem hgo
          rw [e] at hT
          rw [Option.some.inj hT]
        have HS1 := Lib.hid (fun (w : World) C (h : QS w B ⟨L, C, List.replicate L.length false⟩ 0 (-1)) r hr => (show Calls Tryz.prog 109 #[.pointer (some ⟨B.p, 0, none⟩), .int .i64 (i : Nat), .slice (some ⟨w.heap.size, 0, none⟩) 2 2] (w.alloc (.cells #[.string ⟨#[40]⟩, .string ⟨#[91]⟩] 9)) (fun e w' => e = .returned (.bool r) ∧ Below w.heap.size w w') from qsignAt_row w B ⟨L, C, List.replicate L.length false⟩ 0 (-1) h i T hT [⟨#[40]⟩, ⟨#[91]⟩] 2 rfl r hr))
        have HS2 := Lib.hid (fun (w : World) C (h : QS w B ⟨L, C, List.replicate L.length false⟩ 0 (-1)) => (show Calls Tryz.prog 109 #[.pointer (some ⟨B.p, 0, none⟩), .int .i64 (i : Nat), .slice (some ⟨w.heap.size, 0, none⟩) 1 1] (w.alloc (.cells #[.string ⟨#[44]⟩] 9)) (fun e w' => e = .returned (.bool false) ∧ Below w.heap.size w w') from qsignAt_row w B ⟨L, C, List.replicate L.length false⟩ 0 (-1) h i T hT [⟨#[44]⟩] 1 rfl false (HNO.out i T hT)))
        have HS3 := Lib.hid (fun (w : World) C (h : QS w B ⟨L, C, List.replicate L.length false⟩ 0 (-1)) r hr => (show Calls Tryz.prog 109 #[.pointer (some ⟨B.p, 0, none⟩), .int .i64 (i : Nat), .slice (some ⟨w.heap.size, 0, none⟩) 2 2] (w.alloc (.cells #[.string ⟨#[41]⟩, .string ⟨#[93]⟩] 9)) (fun e w' => e = .returned (.bool r) ∧ Below w.heap.size w w') from qsignAt_row w B ⟨L, C, List.replicate L.length false⟩ 0 (-1) h i T hT [⟨#[41]⟩, ⟨#[93]⟩] 2 rfl r hr))
        rw [hdr] at HSc
        have HLI := Lib.hid (And.intro hi hgo)
        have hgo2 : decide ((i : Int) < L.length) = true := decide_eq_true (by omega)
        have hgo3 : decide (i < L.length) = true := decide_eq_true hgo
        clear hdr hT
        cases hs1 : sgB [⟨#[40]⟩, ⟨#[91]⟩] T with
        | true =>
          unfold scanC at HSc
          rw [if_pos hs1] at HSc
          have HS1' := Lib.hid (fun w C h => HS1.out w C h true hs1)
          clear HS1 HS2 HS3 hs1
          go_wp2_with fail
          refine (HS1'.out _ C HNR.out.qs).mono ?_
          rintro e w2 ⟨rfl, b2⟩
          have HN2 := Lib.hid (HNR.out.after b2)
          have HB2 := Lib.hid (Nat.le_trans HBV.out b2.size)
          have HO1 := Lib.hid (owns_after HOw.out b2)
          have HO2 := Lib.hid (owns_after HO1.out (below_new w2 (.cells #[.int .i64 (i : Nat)] 3)))
          have row5 := Lib.hid (heap_alloc_last w2 (.cells #[.int .i64 (i : Nat)] 3))
          obtain ⟨i0, hi0', hz0, hz1, hz2⟩ := info_parts info_int3q
          clear b2
          go_wp2_with (at_builtin; refine wpList_append_own_at _ rfl _ _ 103 rfl V.heap.size 3 i0 (.int .i64 0) 1 8 Tryz.underlying103 hi0' hz0 hz1 hz2 rfl (by decide) _ _ _ rfl HO2.out ⟨w2.heap.size, 0, none⟩ 1 1 [.int .i64 (i : Nat)] rfl rfl ?c1 ?c2 ?c3 ?c4 ?c5 ?_)
          case c1 =>
            intro j u hj
            have e : (⟨w2.heap.size, 0, none⟩ : Addr).add j = ⟨w2.heap.size, j, none⟩ := by unfold Addr.add; split <;> simp_all
            rw [e]
            exact (cell_of_row _ _ j _ _ _ row5.out).trans (by simpa using hj)
          case c2 => intro u hu; simp at hu; subst hu; rfl
          case c3 => unfold maxLen; have := HST.out; omega
          case c4 => have := HST.out; omega
          case c5 => rw [World.size_alloc]; have := HB2.out; omega
          intro v' w4 hown' hgrow _ hwhere
          obtain ⟨a1, c1, hv'⟩ := owns_form hown'
          subst hv'
          have hlow : ∀ k, k < V.heap.size → w4.heap[k]? = w2.heap[k]? := fun k hk => by
            have h2 := HB2.out
            rw [hgrow.block k (by rw [World.size_alloc]; omega) (fun e => by have := (HO2.out.lt k e.symm).1; omega)]
            exact (below_new w2 _).block k (by omega)
          have HW4 : Hid (NR w w4 B L (i + 1) (st ++ [i]) C (-1)) := Lib.hid (by
            have hv := HNV.out
            have h2 := HB2.out
            refine HN2.out.kept V.heap.size hv.qs.plt hv.qs.toks.lt hv.qs.clt hv.qs.mlt hv.below.size hgrow.os hgrow.tape hgrow.output ?_ hlow (i + 1) (st ++ [i]) ?_ HLI.out.2
            · have h3 := hgrow.size; rw [World.size_alloc] at h3; omega
            · intro o ho
              rcases List.mem_append.1 ho with h | h
              · exact HN2.out.few o h
              · simp at h; subst h; exact HLI.out.2)
          have HB4 : Hid (V.heap.size ≤ w4.heap.size) := Lib.hid (by have h3 := hgrow.size; rw [World.size_alloc] at h3; have := HB2.out; omega)
          have HO4 : Hid (w4.ownsRow V.heap.size 3 1 (.slice a1 (st ++ [i]).length c1) (st ++ [i]).length (intsV (st ++ [i]))) := Lib.hid (by
            have e : (st ++ [i]).length = st.length + 1 := by simp
            rw [e, intsV_snoc]
            exact hown')
          clear hown' hgrow hwhere hlow hi0' hz0 hz1 hz2 HO2 HO1
          go_wp2_with fail
          go_roundw
          case rel => exact ⟨trivial, trivial, i + 1, st ++ [i], C, by go_num, HLI.out.2, Lib.hid (by have := HST.out; simp; omega), HSc, HW4, by simpa using HO4, HB4⟩
          case measure => simp [intOf]; omega
        | false =>
          unfold scanC at HSc
          rw [if_neg (by rw [hs1]; decide)] at HSc
          have HS1' := Lib.hid (fun w C h => HS1.out w C h false hs1)
          clear HS1 hs1
          rcases List.eq_nil_or_concat st with hst | ⟨s, o, hst⟩
          · subst hst
            rw [if_pos rfl] at HSc
            simp only [List.length_nil]
            go_wp2_with fail
            refine (HS1'.out _ C HNR.out.qs).mono ?_
            rintro e w2 ⟨rfl, b2⟩
            have HN2 := Lib.hid (HNR.out.after b2)
            have HB2 := Lib.hid (Nat.le_trans HBV.out b2.size)
            have HO1 := Lib.hid (owns_after HOw.out b2)
            clear b2
            go_wp2_with fail
            go_roundw
            case rel => exact ⟨trivial, trivial, i + 1, [], C, by go_num, HLI.out.2, Lib.hid (by simp), HSc, Lib.hid (HN2.out.step (i + 1) [] (by simp) HLI.out.2), HO1, HB2⟩
            case measure => simp [intOf]; omega
          · rw [List.concat_eq_append] at hst
            have hne : st ≠ [] := by rw [hst]; simp
            rw [if_neg hne] at HSc
            have hlen : st.length = s.length + 1 := by rw [hst]; simp
            obtain ⟨n, hn⟩ : ∃ n, n = s.length := ⟨_, rfl⟩
            rw [← hn] at hlen
            have hstl := HST.out
            rw [hlen] at HOw hstl ⊢
            obtain ⟨sg, rfl⟩ : ∃ sg, av = some ⟨sg, 0, none⟩ := by
              rcases HOw.out.2 with ⟨e, h0⟩ | ⟨g2, cap, cur, e, _⟩
              · omega
              · simp only [Value.slice.injEq] at e; exact ⟨g2, e.1⟩
            have hnc : n ≤ cv := by
              rcases HOw.out.2 with ⟨e, h0⟩ | ⟨g2, cap, cur, e, _, _, hcap, _⟩
              · omega
              · simp only [Value.slice.injEq] at e; omega
            have hol : o < L.length := HNR.out.few o (by rw [hst]; simp)
            have hneg : decide ((n : Int) < 0) = false := decide_eq_false (by omega)
            have HSN := Lib.hid (And.intro hst hn)
            have HFS : Hid (∀ x ∈ s, x < L.length) := Lib.hid (fun x hx => HNR.out.few x (by rw [hst]; exact List.mem_append_left _ hx))
            have hget : (intsV st)[n]? = some (Value.int .i64 (o : Nat)) := by rw [hst, hn]; simp [intsV]
            have HGet := Lib.hid hget
            have hla : st.getLast?.getD 0 = o := by rw [hst]; simp
            have hdl : st.dropLast = s := by rw [hst]; simp
            rw [hla, hdl] at HSc
            have HOL := Lib.hid hol
            have hn3 : n ≤ 3001 := by omega
            clear hne hst hlen hn hget hla hdl hstl
            go_wp2_with fail
            refine (HS1'.out _ C HNR.out.qs).mono ?_
            rintro e w2 ⟨rfl, b2⟩
            have HN2 := Lib.hid (HNR.out.after b2)
            have HB2 := Lib.hid (Nat.le_trans HBV.out b2.size)
            have HO2 := Lib.hid (owns_after HOw.out b2)
            clear b2
            go_wp2_with fail
            refine (HS2.out _ C HN2.out.qs).mono ?_
            rintro e w3 ⟨rfl, b3⟩
            have HN3 := Lib.hid (HN2.out.after b3)
            have HB3 := Lib.hid (Nat.le_trans HB2.out b3.size)
            have HO3 := Lib.hid (owns_after HO2.out b3)
            clear b3
            cases hs3 : sgB [⟨#[41]⟩, ⟨#[93]⟩] T with
            | true =>
              rw [if_pos hs3] at HSc
              have HS3' := Lib.hid (fun w C h => HS3.out w C h true hs3)
              clear HS2 HS3 hs3
              go_wp2_with fail
              refine (HS3'.out _ C HN3.out.qs).mono ?_
              rintro e w4 ⟨rfl, b4⟩
              have HN4 := Lib.hid (HN3.out.after b4)
              have HB4 := Lib.hid (Nat.le_trans HB3.out b4.size)
              have HO4 := Lib.hid (owns_after HO3.out b4)
              clear b4
              have c1 := HN4.out.qs.c1
              have co : w4.cell? ⟨sg, n, none⟩ = some (.int .i64 (o : Nat)) := by rw [HO4.out.cellAt n (by omega)]; exact HGet.out
              have cz := HN4.out.z o
              have hCl : C.length = L.length := HN4.out.qs.lens.1
              have hoC : o < C.length := by omega
              have cc : w4.cell? ⟨B.gc, o, none⟩ = some (.int .i64 (C[o]'hoC : Nat)) := HN4.out.qs.clo o hoC
              clear hCl
              go_upto_region 14 with (fail)
              go_region
              obtain ⟨Z, hZ, HNZ, HBZ, HOZ⟩ : ∃ Z, Z = (w4.setCell ⟨B.gc, o, none⟩ (.int .i64 (i : Nat))).drew ∧ Hid (NR w Z B L (i + 1) s (C.set o i) (-1)) ∧ Hid (V.heap.size ≤ Z.heap.size) ∧ Hid (Z.ownsRow V.heap.size 3 1 (.slice (some ⟨sg, 0, none⟩) n cv) n (intsV s)) := ⟨_, rfl, Lib.hid (((HN4.out.close o i HOL.out).after (below_drew _)).step (i + 1) s HFS.out HLI.out.2), Lib.hid (by show _ ≤ (w4.setCell ⟨B.gc, o, none⟩ (.int .i64 (i : Nat))).heap.size; rw [World.size_setCell]; exact HB4.out), Lib.hid (by
                have h1 := owns_cut (s := s) (n := o) (by have h2 := HO4.out; rw [HSN.out.1] at h2; exact h2)
                exact owns_after (ownsRow_setCell_other h1 (a := ⟨B.gc, o, none⟩) (by intro e; have := (HO4.out.lt B.gc e).1; have := HNV.out.qs.clt; omega) _) (below_drew _))⟩
              rw [← hZ]
              clear hZ c1 co cz cc hoC
              go_wp2_with fail
              go_roundw
              case rel => exact ⟨trivial, trivial, i + 1, s, C.set o i, by go_num, HLI.out.2, Lib.hid (by have h1 := HST.out; rw [HSN.out.1] at h1; simp at h1; omega), HSc, HNZ, by rw [← HSN.out.2]; exact HOZ, HBZ⟩
              case measure => simp [intOf]; omega
            | false =>
              rw [if_neg (by rw [hs3]; decide)] at HSc
              have HS3' := Lib.hid (fun w C h => HS3.out w C h false hs3)
              clear HS2 HS3 hs3
              go_wp2_with fail
              refine (HS3'.out _ C HN3.out.qs).mono ?_
              rintro e w4 ⟨rfl, b4⟩
              have HN4 := Lib.hid (HN3.out.after b4)
              have HB4 := Lib.hid (Nat.le_trans HB3.out b4.size)
              have HO4 := Lib.hid (owns_after HO3.out b4)
              clear b4
              have hlen : n + 1 = st.length := by rw [HSN.out.1, HSN.out.2]; simp
              go_wp2_with fail
              go_roundw
              case rel => exact ⟨trivial, trivial, i + 1, st, C, by go_num, HLI.out.2, Lib.hid (by have := HST.out; omega), HSc, Lib.hid (HN4.out.step (i + 1) st HNR.out.few HLI.out.2), by rw [← hlen]; exact HO4, HB4⟩
              case measure => simp [intOf]; omega
      · have hin : i = L.length := by omega
        subst hin
        rw [List.drop_length] at HSc
        unfold scanC at HSc
        go_wp2_with fail
        go_ret
        have hr := HSc.out
        exact ⟨B, rfl, Lib.hid (by rw [← HRR.out, ← hr]; exact HNR.out.qs), Lib.hid HNR.out.below, Lib.hid ⟨HNR.out.n1, HNR.out.n2, HNR.out.n3⟩⟩
end Go.Proofs.YtgdlpldngpoadaaGreatDoor
