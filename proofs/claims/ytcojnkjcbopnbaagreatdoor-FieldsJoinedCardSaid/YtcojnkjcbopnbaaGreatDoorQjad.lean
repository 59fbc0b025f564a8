/- Merged by program: FRec, T2Cut. -/
import Derived.Laws.CopyOwn
import Derived.Lib.RuneCountTail
import Derived.Lib.IndexMore
import Derived.Test.YtcojnkjcbopnbaaGreatDoorQjac
/- A record in memory; fields.New, Many, room, join, Set: walks. -/
namespace Go.Proofs.YtcojnkjcbopnbaaGreatDoor
open Go.RowKit

/-- A record's block: its fields' slice, its text, whether that is to be made, with what between. -/
structure RecM (w : World) (p : Nat) (v : Value) (t : ByteArray) (st : Bool) (o : ByteArray) : Prop where
  row : w.heap[p]? = some (.cells #[v, .string t, .bool st, .string o] 49 (0, 0))
section
variable {w w' : World} {p : Nat} {v : Value} {t : ByteArray} {st : Bool} {o : ByteArray}
theorem RecM.lt (h : RecM w p v t st o) : p < w.heap.size := (Array.getElem?_eq_some_iff.1 h.row).1
theorem RecM.c0 (h : RecM w p v t st o) : w.cell? ⟨p, 0, none⟩ = some v := cell_of_row _ _ 0 _ _ _ h.row
theorem RecM.c1 (h : RecM w p v t st o) : w.cell? ⟨p, 1, none⟩ = some (.string t) := cell_of_row _ _ 1 _ _ _ h.row
theorem RecM.c2 (h : RecM w p v t st o) : w.cell? ⟨p, 2, none⟩ = some (.bool st) := cell_of_row _ _ 2 _ _ _ h.row
theorem RecM.c3 (h : RecM w p v t st o) : w.cell? ⟨p, 3, none⟩ = some (.string o) := cell_of_row _ _ 3 _ _ _ h.row
theorem RecM.z (h : RecM w p v t st o) (j : Nat) : w.frozen? ⟨p, j, none⟩ = false := frozen_of_row _ _ j _ _ h.row
theorem RecM.after (h : RecM w p v t st o) (hb : Below w.heap.size w w') : RecM w' p v t st o := ⟨by rw [hb.block p h.lt]; exact h.row⟩
theorem RecM.put0 (h : RecM w p v t st o) (x : Value) : RecM (w.setCell ⟨p, 0, none⟩ x) p x t st o := ⟨by rw [heap_setCell_same _ _ 0 _ _ _ h.row]; rfl⟩
theorem RecM.put1 (h : RecM w p v t st o) (x : ByteArray) : RecM (w.setCell ⟨p, 1, none⟩ (.string x)) p v x st o := ⟨by rw [heap_setCell_same _ _ 1 _ _ _ h.row]; rfl⟩
theorem RecM.put2 (h : RecM w p v t st o) (x : Bool) : RecM (w.setCell ⟨p, 2, none⟩ (.bool x)) p v t x o := ⟨by rw [heap_setCell_same _ _ 2 _ _ _ h.row]; rfl⟩
theorem RecM.put3 (h : RecM w p v t st o) (x : ByteArray) : RecM (w.setCell ⟨p, 3, none⟩ (.string x)) p v t st x := ⟨by rw [heap_setCell_same _ _ 3 _ _ _ h.row]; rfl⟩
theorem RecM.other (h : RecM w p v t st o) {g : Nat} (hg : p ≠ g) (j : Nat) (x : Value) : RecM (w.setCell ⟨g, j, none⟩ x) p v t st o := ⟨by rw [heap_setCell_other w ⟨g, j, none⟩ p x hg]; exact h.row⟩
end

theorem below_put {B : Nat} {w0 w : World} (hb : Below B w0 w) {g : Nat} (hg : B ≤ g) (j : Nat) (x : Value) : Below B w0 (w.setCell ⟨g, j, none⟩ x) :=
  hb.trans ⟨rfl, rfl, rfl, by rw [World.size_setCell]; exact Nat.le_refl _, fun k hk => heap_setCell_other w ⟨g, j, none⟩ k x (show k ≠ g by omega)⟩
theorem below_then {B : Nat} {w w1 w2 : World} (h : Below B w w1) (h2 : Below w1.heap.size w1 w2) (hB : B ≤ w1.heap.size) : Below B w w2 := h.trans (h2.mono hB)

theorem own_after {w w' : World} {B : Nat} {e : TypeId} {size n : Nat} {v : Value} {xs : List Value} (h : w.ownsRow B e size v n xs) (hb : Below w.heap.size w w') : w'.ownsRow B e size v n xs := by
  refine ⟨h.1, ?_⟩
  rcases h.2 with h0 | ⟨g', cap', cur', e1, hbg, hg, rest⟩
  · exact Or.inl h0
  · exact Or.inr ⟨g', cap', cur', e1, hbg, by rw [hb.block g' (Array.getElem?_eq_some_iff.1 hg).1]; exact hg, rest⟩
theorem own_put {w : World} {B : Nat} {e : TypeId} {size n : Nat} {v : Value} {xs : List Value} (h : w.ownsRow B e size v n xs) {p : Nat} (hp : p < B) (j : Nat) (x : Value) : (w.setCell ⟨p, j, none⟩ x).ownsRow B e size v n xs := by
  refine ⟨h.1, ?_⟩
  rcases h.2 with h0 | ⟨g', cap', cur', e1, hbg, hg, rest⟩
  · exact Or.inl h0
  · exact Or.inr ⟨g', cap', cur', e1, hbg, by rw [heap_setCell_other w ⟨p, j, none⟩ g' x (show g' ≠ p by omega)]; exact hg, rest⟩
theorem own_set {w : World} {B : Nat} {e : TypeId} {n : Nat} {v : Value} {xs : List Value} (h : w.ownsRow B e 1 v n xs) {i : Nat} (hi : i < n) (x : Value) :
    ∃ g cap, v = .slice (some ⟨g, 0, none⟩) n cap ∧ B ≤ g ∧ g < w.heap.size ∧ (∃ y, w.cell? ⟨g, i, none⟩ = some y) ∧ w.frozen? ⟨g, i, none⟩ = false ∧ (w.setCell ⟨g, i, none⟩ x).ownsRow B e 1 v n (xs.set i x) := by
  obtain ⟨h1, ⟨_, h0⟩ | ⟨g, cap, cur, e1, hbg, hg, hnc, hm, hsz, hx⟩⟩ := h
  · omega
  · refine ⟨g, cap, e1, hbg, (Array.getElem?_eq_some_iff.1 hg).1, ⟨cur[i]'(by omega), cell_of_row _ _ i _ _ _ hg |>.trans (Array.getElem?_eq_getElem _)⟩, frozen_of_row _ _ i _ _ hg, by rw [List.length_set]; exact h1, Or.inr ⟨g, cap, cur.setIfInBounds i x, e1, hbg, heap_setCell_same _ _ i _ _ _ hg, hnc, hm, by rw [Array.size_setIfInBounds]; exact hsz, ?_⟩⟩
    rw [Array.toList_setIfInBounds, List.take_set, hx]

/-- A record, its fields, its text. -/
structure RecF (w : World) (p : Nat) (v : Value) (l : List ByteArray) (t : ByteArray) (st : Bool) (o : ByteArray) : Prop where
  mem : RecM w p v t st o
  row : w.ownsRow (p + 1) 9 1 v l.length (l.map Value.string)
section
variable {w w' : World} {p : Nat} {v : Value} {l : List ByteArray} {t : ByteArray} {st : Bool} {o : ByteArray}
theorem RecF.after (h : RecF w p v l t st o) (hb : Below w.heap.size w w') : RecF w' p v l t st o := ⟨h.mem.after hb, own_after h.row hb⟩
theorem RecF.put1 (h : RecF w p v l t st o) (x : ByteArray) : RecF (w.setCell ⟨p, 1, none⟩ (.string x)) p v l x st o := ⟨h.mem.put1 x, own_put h.row (Nat.lt_succ_self p) _ _⟩
theorem RecF.put2 (h : RecF w p v l t st o) (x : Bool) : RecF (w.setCell ⟨p, 2, none⟩ (.bool x)) p v l t x o := ⟨h.mem.put2 x, own_put h.row (Nat.lt_succ_self p) _ _⟩
theorem RecF.put3 (h : RecF w p v l t st o) (x : ByteArray) : RecF (w.setCell ⟨p, 3, none⟩ (.string x)) p v l t st x := ⟨h.mem.put3 x, own_put h.row (Nat.lt_succ_self p) _ _⟩
theorem RecF.shape (h : RecF w p v l t st o) : ∃ a c, v = .slice a l.length c := by
  rcases h.row.2 with ⟨e, h0⟩ | ⟨g', cap', cur, e, _⟩
  · exact ⟨none, 0, by rw [e, h0]⟩
  · exact ⟨_, _, e⟩
theorem RecF.big (h : RecF w p v l t st o) : l.length ≤ maxLen := by
  rcases h.row.2 with ⟨e, h0⟩ | ⟨g', cap', cur, e, _, _, h1, h2, _⟩
  · rw [h0]; exact Nat.zero_le _
  · omega
end

def emptyB : ByteArray := ⟨#[]⟩

set_option maxRecDepth 100000 in
theorem new_spec (w : World) :
    Calls Tryz.prog 8 #[] w fun e w' => e = .returned (.pointer (some ⟨w.heap.size, 0, none⟩)) ∧ RecF w' w.heap.size (.slice none 0 0) [] emptyB false emptyB ∧ Below w.heap.size w w' := by
  go_enter Tryz.func8, Tryz.ntmps8
  go_wp2_with fail
  go_ret
  exact ⟨rfl, ⟨⟨heap_alloc_last _ _⟩, World.ownsRow_nil _ _ _ _⟩, below_new _ _⟩

set_option maxRecDepth 100000 in
theorem many_spec (p : Nat) (v : Value) (l : List ByteArray) (t : ByteArray) (st : Bool) (o : ByteArray) (w : World) (h : RecF w p v l t st o) :
    Calls Tryz.prog 13 #[.pointer (some ⟨p, 0, none⟩)] w fun e w' => e = .returned (.int .i64 l.length) ∧ w' = w := by
  obtain ⟨a, c, rfl⟩ := h.shape
  have c0 := h.mem.c0
  clear h
  go_enter Tryz.func13, Tryz.ntmps13
  go_wp2_with fail
  go_ret
  exact ⟨rfl, rfl⟩

set_option maxRecDepth 100000 in
theorem rjoin_spec (p : Nat) (v : Value) (l : List ByteArray) (t : ByteArray) (st : Bool) (o ofs : ByteArray) (w : World) (h : RecF w p v l t st o) :
    Calls Tryz.prog 22 #[.pointer (some ⟨p, 0, none⟩), .string ofs] w fun e w' => e = .returned (.tuple #[]) ∧ RecF w' p v l emptyB true ofs ∧ Below p w w' := by
  have c1 := h.mem.c1
  have c2 := h.mem.c2
  have c3 := h.mem.c3
  have z1 := h.mem.z 1
  have z2 := h.mem.z 2
  have z3 := h.mem.z 3
  have H := Lib.hid h
  clear h
  go_enter Tryz.func22, Tryz.ntmps22
  go_wp2_with fail
  go_end0
  exact ⟨rfl, ((H.out.put1 emptyB).put2 true).put3 ofs, below_put (below_put (below_put (Below.refl _ _) (Nat.le_refl _) _ _) (Nat.le_refl _) _ _) (Nat.le_refl _) _ _⟩

theorem info_string9 : (Tryz.prog.info? 9).map (fun i => (i.zero, i.size, i.bytes)) = some (some (.string ⟨#[]⟩), 1, 16) := by kernel_rfl

/-- So many of the texts, and empty ones. -/
def fitL (l : List ByteArray) (n : Nat) : List ByteArray := l.take n ++ List.replicate (n - l.length) emptyB
theorem fitL_len (l : List ByteArray) (n : Nat) : (fitL l n).length = n := by simp [fitL]; omega

theorem splice_fit (l : List ByteArray) (n : Nat) : splice (List.replicate n (Value.string emptyB)) 0 ((l.take n).map Value.string) = (fitL l n).map Value.string := by
  unfold splice fitL
  rw [List.take_zero, List.nil_append, List.map_append, List.map_replicate, List.drop_replicate, List.length_map, List.length_take]
  congr 2
  omega

set_option maxRecDepth 100000 in
theorem room_spec (n : Nat) (hn : n ≤ 1000) (p : Nat) (v : Value) (l : List ByteArray) (t : ByteArray) (st : Bool) (o : ByteArray) (w : World) (h : RecF w p v l t st o) :
    Calls Tryz.prog 21 #[.pointer (some ⟨p, 0, none⟩), .int .i64 n] w fun e w' => e = .returned (.tuple #[]) ∧ (∃ v', RecF w' p v' (fitL l n) t st o) ∧ Below p w w' := by
  obtain ⟨i0, hi0, hz0, hz1, hz2⟩ := info_parts info_string9
  obtain ⟨a, c, rfl⟩ := h.shape
  have H := Lib.hid h
  have hp := h.mem.lt
  clear h
  go_enter Tryz.func21, Tryz.ntmps21
  go_upto_region 1 with (at_make; refine wpList_make_full w rfl _ _ _ rfl (p + 1) 9 i0 _ 1 Tryz.underlying35 hi0 hz0 hz1 .i64 .i64 _ _ n rfl rfl rfl rfl (by rw [hz2]; omega) (by unfold maxLen; omega) (by omega) ?_; intro w1 hown hgr)
  have B1 : Hid (Below w.heap.size w w1) := Lib.hid ((Below.refl _ _).grown hgr (Nat.le_refl _) (fun g hg => by cases hg))
  have hrow : w1.heap[w.heap.size]? = some (.cells (List.replicate n (Value.string emptyB)).toArray 9 (0, 0)) := by
    obtain ⟨h1, ⟨e, _⟩ | ⟨g, cap, cur, e1, _, hg, h2, _, h3, h4⟩⟩ := hown
    · cases e
    · simp only [Value.slice.injEq, Option.some.injEq, Addr.mk.injEq] at e1
      obtain ⟨⟨rfl, _⟩, _, rfl⟩ := e1
      rw [hg]
      congr 2
      have h5 : cur.toList = (madeCells (Value.string ⟨#[]⟩).cells (n * 1)).toList := by
        rw [← h4, List.take_of_length_le (by rw [Array.length_toList, h3]; exact Nat.le_refl _)]
      have h6 : (madeCells (Value.string ⟨#[]⟩).cells (n * 1)).toList = List.replicate n (Value.string emptyB) := by
        rw [Nat.mul_one]
        exact toList_madeCells_one _ _
      rw [← Array.toArray_toList (xs := cur), h5, h6]
  have HR := Lib.hid hrow
  have H1 := Lib.hid (H.out.after B1.out)
  have c0 := H1.out.mem.c0
  have z0 := H1.out.mem.z 0
  have hz1' := Lib.hid B1.out.size
  have hsrc : ∃ L : List Value, L = (l.take n).map Value.string := ⟨_, rfl⟩
  obtain ⟨L, hL⟩ := hsrc
  have hLn : L.length = min l.length n := by rw [hL, List.length_map, List.length_take, Nat.min_comm]
  have hpos : 0 < L.length → some (⟨w.heap.size, 0, none⟩ : Addr) = some ⟨w.heap.size, 0, none⟩ ∧ ∃ ad, a = some ad ∧ ∀ j v, L[j]? = some v → w1.cell? (ad.add j) = some v := by
    intro h0
    obtain ⟨g, cap, e1, _, _, _⟩ := own_set H1.out.row (i := 0) (by omega) (.bool true)
    simp only [Value.slice.injEq] at e1
    obtain ⟨rfl, _, rfl⟩ := e1
    refine ⟨rfl, _, rfl, fun j x hj => ?_⟩
    have ej : (⟨g, 0, none⟩ : Addr).add j = ⟨g, j, none⟩ := by unfold Addr.add; split <;> simp_all
    have hjl : j < L.length := (List.getElem?_eq_some_iff.1 hj).1
    rw [ej, H1.out.row.cellAt j (by omega)]
    rw [hL, List.getElem?_map, List.getElem?_take, if_pos (by omega), ← List.getElem?_map] at hj
    exact hj
  have HP := Lib.hid hpos
  have HL1 : Hid (∀ v ∈ L, v.oneCell' = true) := Lib.hid (by rw [hL]; intro v hv; obtain ⟨x, _, rfl⟩ := List.mem_map.1 hv; rfl)
  have HLn := Lib.hid hLn
  have HLe := Lib.hid hL
  have HF : Hid (0 + L.length ≤ (List.replicate n (Value.string emptyB)).length) := Lib.hid (by rw [List.length_replicate]; omega)
  clear hown hgr hrow hpos hLn hL
  go_upto_region 2 with ((with_reducible show wpList _ _ _ _ _ _); refine wpList_copy_splice rfl (.tmp 7) (.tmp 11) 35 35 rfl 9 Tryz.underlying35 (by kernel_rfl) _ _ _ _ _ _ rfl rfl w.heap.size 0 (List.replicate n (Value.string emptyB)) 9 HR.out L HLn.out HP.out HF.out HL1.out w.heap.size w B1.out (Nat.le_refl _) ?_; intro w2 HG2 hB2)
  have B2 := Lib.hid hB2
  have H2 : Hid (RecM w2 p (.slice a l.length c) t st o) := Lib.hid (H.out.mem.after B2.out)
  have d0 := H2.out.c0
  have y0 := H2.out.z 0
  have hG : w2.heap[w.heap.size]? = some (.cells ((fitL l n).map Value.string).toArray 9 (0, 0)) := by
    rw [← splice_fit, ← HLe.out]
    exact HG2.out
  have HG3 := Lib.hid hG
  clear c0 z0 hB2 hG
  go_wp2_with fail
  go_end0
  have hne : w.heap.size ≠ p := by omega
  refine ⟨rfl, ⟨_, H2.out.put0 _, ?_⟩, below_put (B2.out.mono (by omega)) (Nat.le_refl _) _ _⟩
  have hlen := fitL_len l n
  refine ⟨by simp, Or.inr ⟨w.heap.size, n, ((fitL l n).map Value.string).toArray, by rw [hlen], by omega, ?_, by omega, by unfold maxLen; omega, ?_, ?_⟩⟩
  · exact (heap_setCell_other w2 ⟨p, 0, none⟩ w.heap.size _ hne).trans HG3.out
  · simp [hlen]
  · rw [hlen, Nat.mul_one]
    exact List.take_of_length_le (by simp [hlen])

/-- The fields behind a Set. -/
def setL (l : List ByteArray) (k : Nat) (s : ByteArray) : List ByteArray := (fitL l (max (k + 1) l.length)).set k s
theorem fitL_same (l : List ByteArray) : fitL l l.length = l := by simp [fitL]
theorem setL_len (l : List ByteArray) (k : Nat) (s : ByteArray) : (setL l k s).length = max (k + 1) l.length := by unfold setL; rw [List.length_set, fitL_len]

/-- What Set does. -/
def FldSetOut (p k : Nat) (l : List ByteArray) (s ofs : ByteArray) (w : World) (e : Ending) (w' : World) : Prop :=
  e = .returned (.int .i64 0) ∧ (∃ v', RecF w' p v' (setL l k s) emptyB true ofs) ∧ Below p w w'

set_option maxRecDepth 100000 in
theorem set_none (i : Int) (hi : i < 1 ∨ 100 < i) (p : Nat) (s ofs : ByteArray) (w : World) :
    Calls Tryz.prog 12 #[.pointer (some ⟨p, 0, none⟩), .int .i64 i, .string s, .string ofs] w fun e w' => e = .returned (.int .i64 90) ∧ w' = w := by
  by_cases h1 : i < 1
  · have d1 : decide (i < 1) = true := decide_eq_true h1
    clear hi
    go_enter Tryz.func12, Tryz.ntmps12
    go_wp2_with fail
    go_ret
    exact ⟨rfl, rfl⟩
  · have h2 : 100 < i := hi.resolve_left h1
    have d1 : decide (i < 1) = false := decide_eq_false h1
    have d2 : decide (100 < i) = true := decide_eq_true h2
    clear hi
    go_enter Tryz.func12, Tryz.ntmps12
    go_wp2_with fail
    go_ret
    exact ⟨rfl, rfl⟩

set_option maxRecDepth 100000 in
theorem set_spec (k : Nat) (hk : k < 100) (p : Nat) (v : Value) (l : List ByteArray) (t : ByteArray) (st : Bool) (o s ofs : ByteArray) (w : World) (h : RecF w p v l t st o) :
    Calls Tryz.prog 12 #[.pointer (some ⟨p, 0, none⟩), .int .i64 ((k : Int) + 1), .string s, .string ofs] w (FldSetOut p k l s ofs w) := by
  have hbig := h.big
  have d1 : decide ((k : Int) + 1 < 1) = false := decide_eq_false (by omega)
  have d2 : decide ((100 : Int) < (k : Int) + 1) = false := decide_eq_false (by omega)
  have hp := h.mem.lt
  by_cases hgt : l.length < k + 1
  · have H := Lib.hid h
    obtain ⟨a, c, rfl⟩ := h.shape
    have c0 := h.mem.c0
    have d3 : decide ((l.length : Int) < (k : Int) + 1) = true := decide_eq_true (by omega)
    have HR : Hid (Calls Tryz.prog 21 #[.pointer (some ⟨p, 0, none⟩), .int .i64 ((k : Int) + 1)] w fun e w' => e = .returned (.tuple #[]) ∧ (∃ v', RecF w' p v' (fitL l (k + 1)) t st o) ∧ Below p w w') := Lib.hid (room_spec (k + 1) (by omega) p _ l t st o w h)
    have HE : Hid (setL l k s = (fitL l (k + 1)).set k s) := Lib.hid (by unfold setL; rw [Nat.max_eq_left (by omega)])
    clear h
    go_enter Tryz.func12, Tryz.ntmps12
    go_wp2_with fail
    refine HR.out.mono ?_
    rintro e w1 ⟨rfl, ⟨v', h1⟩, b1⟩
    have B1 := Lib.hid b1
    obtain ⟨g, cap, rfl, hg1, hg2, ⟨y, hy⟩, hz, hset⟩ := own_set h1.row (i := k) (by rw [fitL_len]; omega) (.string s)
    have hsl : (((fitL l (k + 1)).map Value.string).set k (.string s)) = (setL l k s).map Value.string := by rw [HE.out, List.map_set]
    have hln : (fitL l (k + 1)).length = (setL l k s).length := by rw [HE.out, List.length_set]
    rw [hsl] at hset
    have H1 := Lib.hid h1.mem
    have C0 : w1.cell? ⟨p, 0, none⟩ = some (.slice (some ⟨g, 0, none⟩) (k + 1) cap) := by have := h1.mem.c0; rw [fitL_len] at this; exact this
    have HS : Hid (RecF (w1.setCell ⟨g, k, none⟩ (.string s)) p (.slice (some ⟨g, 0, none⟩) (fitL l (k + 1)).length cap) (setL l k s) t st o) := Lib.hid ⟨h1.mem.other (by omega) _ _, by rw [← hln]; exact hset⟩
    have HB : Hid (Below p w (w1.setCell ⟨g, k, none⟩ (.string s))) := Lib.hid (below_put B1.out (by omega) _ _)
    have HJ := Lib.hid (rjoin_spec p _ _ t st o ofs _ HS.out)
    have hkm : k < k + 1 := by omega
    have ek : ((k : Int) + 1 - 1).toNat = k := by omega
    clear h1 b1 hset hsl hln c0 hgt
    go_wp2_with fail
    refine HJ.out.mono ?_
    rintro e w3 ⟨rfl, h3, b3⟩
    have H3 := Lib.hid h3
    have B3 := Lib.hid (HB.out.trans b3)
    clear h3 b3
    go_wp2_with fail
    go_ret
    exact ⟨rfl, ⟨_, H3.out⟩, B3.out⟩
  · have d3 : decide ((l.length : Int) < (k : Int) + 1) = false := decide_eq_false (by omega)
    obtain ⟨g, cap, rfl, hg1, hg2, ⟨y, hy⟩, hz, hset⟩ := own_set h.row (i := k) (by omega) (.string s)
    have HE : setL l k s = l.set k s := by unfold setL; rw [Nat.max_eq_right (by omega), fitL_same]
    have hsl : ((l.map Value.string).set k (.string s)) = (setL l k s).map Value.string := by rw [HE, List.map_set]
    have hln : l.length = (setL l k s).length := by rw [HE, List.length_set]
    rw [hsl] at hset
    have c0 := h.mem.c0
    have HS : Hid (RecF (w.setCell ⟨g, k, none⟩ (.string s)) p (.slice (some ⟨g, 0, none⟩) l.length cap) (setL l k s) t st o) := Lib.hid ⟨h.mem.other (by omega) _ _, by rw [← hln]; exact hset⟩
    have HB : Hid (Below p w (w.setCell ⟨g, k, none⟩ (.string s))) := Lib.hid (below_put (Below.refl _ _) (by omega) _ _)
    have HJ := Lib.hid (rjoin_spec p _ _ t st o ofs _ HS.out)
    have hkm : k < l.length := by omega
    have ek : ((k : Int) + 1 - 1).toNat = k := by omega
    clear h hset hsl hln HE hgt
    go_enter Tryz.func12, Tryz.ntmps12
    go_wp2_with fail
    refine HJ.out.mono ?_
    rintro e w3 ⟨rfl, h3, b3⟩
    have H3 := Lib.hid h3
    have B3 := Lib.hid (HB.out.trans b3)
    clear h3 b3
    go_wp2_with fail
    go_ret
    exact ⟨rfl, ⟨_, H3.out⟩, B3.out⟩
end Go.Proofs.YtcojnkjcbopnbaaGreatDoor

/- Characters of a text as places: the widths that a range over a string goes by. Plain: no program. -/
namespace Go.Proofs.YtcojnkjcbopnbaaGreatDoor.T2
open Go.Proofs.YtcojnkjcbopnbaaGreatDoor Go.Proofs
open Go.Lib

/-! ### One character's width -/
theorem dN_pos (n a b c d : Nat) : 1 ≤ (decodeN n a b c d).2 := by
  unfold decodeN
  repeat' split
  all_goals simp

theorem dN_le (n a b c d : Nat) (hn : 1 ≤ n) : (decodeN n a b c d).2 ≤ n ∧ (decodeN n a b c d).2 ≤ 4 := by
  unfold decodeN
  repeat' split
  all_goals simp
  all_goals omega

theorem dN_lead (n a b c d : Nat) (h : 1 < (decodeN n a b c d).2) : 192 ≤ a := by
  unfold decodeN at h
  repeat' split at h
  all_goals simp at h
  all_goals omega

theorem dN_cont1 (n a b c d : Nat) (h : 1 < (decodeN n a b c d).2) : b / 64 = 2 := by
  unfold decodeN at h
  repeat' split at h
  all_goals simp at h
  all_goals omega

theorem dN_cont2 (n a b c d : Nat) (h : 2 < (decodeN n a b c d).2) : c / 64 = 2 := by
  unfold decodeN at h
  repeat' split at h
  all_goals simp at h
  all_goals omega

theorem dN_cont3 (n a b c d : Nat) (h : 3 < (decodeN n a b c d).2) : d / 64 = 2 := by
  unfold decodeN at h
  repeat' split at h
  all_goals simp at h
  all_goals omega

set_option maxHeartbeats 2000000 in
/-- What is cut off at its end: the same width, if there is room for it, else one byte. -/
theorem dN_cut (n m a b c d b' c' d' : Nat) (hm : m ≤ n) (h1 : 1 < m → b' = b) (h2 : 2 < m → c' = c) (h3 : 3 < m → d' = d) :
    (decodeN m a b' c' d').2 = if (decodeN n a b c d).2 ≤ m then (decodeN n a b c d).2 else 1 := by
  by_cases m1 : 1 < m
  · obtain rfl := h1 m1
    by_cases m2 : 2 < m
    · obtain rfl := h2 m2
      by_cases m3 : 3 < m
      · obtain rfl := h3 m3
        have n1 : 1 < n := by omega
        have n2 : 2 < n := by omega
        have n3 : 3 < n := by omega
        have e : decodeN m a b' c' d' = decodeN n a b' c' d' := by
          unfold decodeN
          simp only [m1, m2, m3, n1, n2, n3]
        rw [e, if_pos (by have := (dN_le n a b' c' d' (by omega)).2; omega)]
      · have n1 : 1 < n := by omega
        have n2 : 2 < n := by omega
        unfold decodeN
        simp only [m1, m2, m3, n1, n2, true_and, false_and, and_false, if_false]
        repeat' split
        all_goals first | rfl | (exfalso; omega) | (simp_all; done) | (simp_all; omega)
    · have n1 : 1 < n := by omega
      unfold decodeN
      simp only [m1, m2, n1, true_and, false_and, and_false, if_false]
      repeat' split
      all_goals first | rfl | (exfalso; omega) | (simp_all; done) | (simp_all; omega)
  · unfold decodeN
    simp only [m1, false_and, and_false, if_false]
    repeat' split
    all_goals first | rfl | (exfalso; omega) | (simp_all; done) | (simp_all; omega)

/-! ### Widths in a text -/
def cw (s : ByteArray) (p : Nat) : Nat := (Utf8.decode s p).2

theorem cw_eq (s : ByteArray) (p : Nat) : cw s p = (decodeN (s.size - p) (s.get! p).toNat (s.get! (p + 1)).toNat (s.get! (p + 2)).toNat (s.get! (p + 3)).toNat).2 := by
  unfold cw; rw [decode_at]

theorem cw_pos (s : ByteArray) (p : Nat) : 1 ≤ cw s p := by rw [cw_eq]; exact dN_pos _ _ _ _ _
theorem cw_le {s : ByteArray} {p : Nat} (h : p < s.size) : p + cw s p ≤ s.size := by
  rw [cw_eq]; have := (dN_le (s.size - p) (s.get! p).toNat (s.get! (p + 1)).toNat (s.get! (p + 2)).toNat (s.get! (p + 3)).toNat (by omega)).1; omega
theorem cw_four {s : ByteArray} {p : Nat} (h : p < s.size) : cw s p ≤ 4 := by
  rw [cw_eq]; exact (dN_le _ _ _ _ _ (by omega)).2
theorem cw_lead {s : ByteArray} {p : Nat} (h : 1 < cw s p) : 192 ≤ (s.get! p).toNat := by
  rw [cw_eq] at h; exact dN_lead _ _ _ _ _ h
theorem cw_cont {s : ByteArray} {p j : Nat} (hp : p < s.size) (h0 : 0 < j) (h : j < cw s p) : (s.get! (p + j)).toNat / 64 = 2 := by
  have h4 := cw_four hp
  rw [cw_eq] at h
  have hj : j = 1 ∨ j = 2 ∨ j = 3 := by rw [cw_eq] at h4; omega
  rcases hj with rfl | rfl | rfl
  · exact dN_cont1 _ _ _ _ _ h
  · exact dN_cont2 _ _ _ _ _ h
  · exact dN_cont3 _ _ _ _ _ h

theorem tail_cw (s : ByteArray) (n p : Nat) : cw (s.extract n s.size) p = cw s (n + p) := by
  unfold cw; rw [tail_decode]

theorem head_size (s : ByteArray) (e : Nat) (he : e ≤ s.size) : (s.extract 0 e).size = e := by
  rw [ByteArray.size_extract]; omega

theorem head_get! (s : ByteArray) (e j : Nat) (he : e ≤ s.size) (hj : j < e) : (s.extract 0 e).get! j = s.get! j := by
  rw [← getD_get!', ← getD_get!', extract_data]
  simp only [List.drop_zero, Nat.sub_zero]
  have hl : j < s.data.toList.length := by rw [← size_eq]; omega
  simp [List.getD, hj]

theorem head_cw (s : ByteArray) (e p : Nat) (he : e ≤ s.size) (hp : p < e) : cw (s.extract 0 e) p = if p + cw s p ≤ e then cw s p else 1 := by
  rw [cw_eq, cw_eq, head_size s e he, head_get! s e p he hp]
  rw [dN_cut (s.size - p) (e - p) (s.get! p).toNat (s.get! (p + 1)).toNat (s.get! (p + 2)).toNat (s.get! (p + 3)).toNat _ _ _ (by omega)
    (fun h => by rw [head_get! s e _ he (by omega)]) (fun h => by rw [head_get! s e _ he (by omega)]) (fun h => by rw [head_get! s e _ he (by omega)])]
  have hc : ((decodeN (s.size - p) (s.get! p).toNat (s.get! (p + 1)).toNat (s.get! (p + 2)).toNat (s.get! (p + 3)).toNat).2 ≤ e - p) = (p + (decodeN (s.size - p) (s.get! p).toNat (s.get! (p + 1)).toNat (s.get! (p + 2)).toNat (s.get! (p + 3)).toNat).2 ≤ e) := propext ⟨fun h => by omega, fun h => by omega⟩
  simp only [hc]

/-! ### So many characters on -/
def adv (s : ByteArray) : Nat → Nat → Nat
  | p, 0 => p
  | p, k + 1 => if p < s.size then adv s (p + cw s p) k else p

theorem adv_zero (s : ByteArray) (p : Nat) : adv s p 0 = p := rfl
theorem adv_step {s : ByteArray} {p : Nat} (h : p < s.size) (k : Nat) : adv s p (k + 1) = adv s (p + cw s p) k := by
  show (if p < s.size then adv s (p + cw s p) k else p) = _
  rw [if_pos h]
theorem adv_end {s : ByteArray} {p : Nat} (h : ¬ p < s.size) (k : Nat) : adv s p k = p := by
  cases k with
  | zero => rfl
  | succ k =>
    show (if p < s.size then adv s (p + cw s p) k else p) = _
    rw [if_neg h]
theorem adv_one {s : ByteArray} {p : Nat} (h : p < s.size) : adv s p 1 = p + cw s p := by rw [adv_step h]; rfl

theorem adv_add (s : ByteArray) : ∀ (i j p : Nat), adv s p (i + j) = adv s (adv s p i) j
  | 0, j, p => by rw [Nat.zero_add]; rfl
  | i + 1, j, p => by
    by_cases h : p < s.size
    · rw [show i + 1 + j = (i + j) + 1 from by omega, adv_step h, adv_step h, adv_add s i j]
    · rw [adv_end h, adv_end h, adv_end h]

theorem adv_succ (s : ByteArray) (k p : Nat) : adv s p (k + 1) = adv s (adv s p k) 1 := adv_add s k 1 p

theorem adv_ge (s : ByteArray) : ∀ (k p : Nat), p ≤ adv s p k
  | 0, p => Nat.le_refl _
  | k + 1, p => by
    by_cases h : p < s.size
    · rw [adv_step h]; have := adv_ge s k (p + cw s p); omega
    · rw [adv_end h]; exact Nat.le_refl _

theorem adv_le (s : ByteArray) : ∀ (k p : Nat), p ≤ s.size → adv s p k ≤ s.size
  | 0, p, h => h
  | k + 1, p, h => by
    by_cases hp : p < s.size
    · rw [adv_step hp]; exact adv_le s k _ (cw_le hp)
    · rw [adv_end hp]; exact h

theorem adv_mono (s : ByteArray) (p : Nat) {i j : Nat} (h : i ≤ j) : adv s p i ≤ adv s p j := by
  obtain ⟨d, rfl⟩ : ∃ d, j = i + d := ⟨j - i, by omega⟩
  rw [adv_add]; exact adv_ge s d _

theorem adv_lt (s : ByteArray) (p i : Nat) (h : adv s p i < s.size) : adv s p i < adv s p (i + 1) := by
  rw [adv_succ, adv_one h]; have := cw_pos s (adv s p i); omega

/-- Each step goes on by one byte at least. -/
theorem adv_far (s : ByteArray) : ∀ (k p : Nat), adv s p k < s.size → p + k ≤ adv s p k
  | 0, p, _ => Nat.le_refl _
  | k + 1, p, h => by
    by_cases hp : p < s.size
    · rw [adv_step hp] at h ⊢; have := adv_far s k _ h; have := cw_pos s p; omega
    · rw [adv_end hp] at h; exact absurd h hp

theorem adv_full (s : ByteArray) (p k : Nat) (hp : p ≤ s.size) (hk : s.size ≤ p + k) : adv s p k = s.size := by
  have h1 := adv_le s k p hp
  by_cases h : adv s p k < s.size
  · have := adv_far s k p h; omega
  · omega

/-- Each place lies in one character. -/
theorem adv_locate (s : ByteArray) : ∀ (n p r : Nat), r - p ≤ n → p ≤ r → r < s.size → ∃ k, adv s p k ≤ r ∧ r < adv s p (k + 1)
  | n, p, r, hn, hpr, hr => by
    have hp : p < s.size := by omega
    by_cases h : r < p + cw s p
    · exact ⟨0, hpr, by rw [adv_one hp]; exact h⟩
    · cases n with
      | zero => have := cw_pos s p; omega
      | succ n =>
        have := cw_pos s p
        obtain ⟨k, h1, h2⟩ := adv_locate s n (p + cw s p) r (by omega) (by omega) hr
        exact ⟨k + 1, by rw [adv_step hp]; exact h1, by rw [adv_step hp]; exact h2⟩

theorem tail_adv (s : ByteArray) (a : Nat) : ∀ (k p : Nat), a + adv (s.extract a s.size) p k = adv s (a + p) k
  | 0, p => rfl
  | k + 1, p => by
    by_cases h : a + p < s.size
    · rw [adv_step h, adv_step (by rw [tail_size]; omega), tail_adv s a k, tail_cw, Nat.add_assoc]
    · rw [adv_end h, adv_end (by rw [tail_size]; omega)]

/-- Characters ahead of an edge are those of what is cut there. -/
theorem head_adv (s : ByteArray) (e : Nat) (he : e ≤ s.size) : ∀ (k p : Nat), p ≤ e → adv s p k ≤ e → adv (s.extract 0 e) p k = adv s p k
  | 0, p, _, _ => rfl
  | k + 1, p, hp, hk => by
    by_cases h : p < e
    · have hs : p < s.size := by omega
      rw [adv_step hs] at hk ⊢
      have h1 := adv_ge s k (p + cw s p)
      rw [adv_step (by rw [head_size s e he]; exact h), head_cw s e p he h, if_pos (by omega)]
      exact head_adv s e he k _ (by omega) hk
    · have : p = e := by omega
      subst this
      rw [adv_end (s := s.extract 0 p) (by rw [head_size s p he]; omega)]
      have := adv_ge s (k + 1) p
      omega

/-! ### The characters -/
def chF (s : ByteArray) : Nat → Nat → List ByteArray
  | 0, _ => []
  | f + 1, p => if p < s.size then s.extract p (p + cw s p) :: chF s f (p + cw s p) else []

theorem chF_end (s : ByteArray) (f p : Nat) (h : ¬ p < s.size) : chF s f p = [] := by
  cases f with
  | zero => rfl
  | succ f => show (if _ then _ else _) = _; rw [if_neg h]

theorem chF_fuel (s : ByteArray) : ∀ (f g p : Nat), s.size - p ≤ f → s.size - p ≤ g → chF s f p = chF s g p
  | 0, g, p, hf, _ => by rw [chF_end s g p (by omega)]; rfl
  | f + 1, 0, p, _, hg => by rw [chF_end s (f + 1) p (by omega)]; rfl
  | f + 1, g + 1, p, hf, hg => by
    unfold chF
    by_cases h : p < s.size
    · have hw := cw_pos s p
      rw [if_pos h, if_pos h, chF_fuel s f g _ (by omega) (by omega)]
    · rw [if_neg h, if_neg h]

/-- The characters of a text from a place on. -/
def chs (s : ByteArray) (p : Nat) : List ByteArray := chF s (s.size - p) p
/-- How many there are. -/
def cnt (s : ByteArray) (p : Nat) : Nat := (chs s p).length

theorem chs_end {s : ByteArray} {p : Nat} (h : ¬ p < s.size) : chs s p = [] := chF_end s _ _ h
theorem chs_step {s : ByteArray} {p : Nat} (h : p < s.size) : chs s p = s.extract p (p + cw s p) :: chs s (p + cw s p) := by
  unfold chs
  obtain ⟨f, hf⟩ : ∃ f, s.size - p = f + 1 := ⟨s.size - p - 1, by omega⟩
  have hw := cw_pos s p
  rw [hf]
  show (if _ then _ else _) = _
  rw [if_pos h, chF_fuel s f (s.size - (p + cw s p)) _ (by omega) (Nat.le_refl _)]

theorem cnt_end {s : ByteArray} {p : Nat} (h : ¬ p < s.size) : cnt s p = 0 := by unfold cnt; rw [chs_end h]; rfl
theorem cnt_step {s : ByteArray} {p : Nat} (h : p < s.size) : cnt s p = cnt s (p + cw s p) + 1 := by unfold cnt; rw [chs_step h]; rfl

theorem cnt_le (s : ByteArray) : ∀ (n p : Nat), s.size - p ≤ n → cnt s p ≤ s.size - p
  | n, p, hn => by
    by_cases h : p < s.size
    · cases n with
      | zero => omega
      | succ n =>
        have hw := cw_pos s p
        have hl := cw_le h
        have := cnt_le s n (p + cw s p) (by omega)
        rw [cnt_step h]; omega
    · rw [cnt_end h]; omega

theorem chs_drop (s : ByteArray) : ∀ (k p : Nat), (chs s p).drop k = chs s (adv s p k)
  | 0, p => rfl
  | k + 1, p => by
    by_cases h : p < s.size
    · rw [chs_step h, List.drop_succ_cons, chs_drop s k, adv_step h]
    · rw [adv_end h, chs_end h]; rfl

theorem cnt_adv (s : ByteArray) (p k : Nat) : cnt s (adv s p k) = cnt s p - k := by
  unfold cnt; rw [← chs_drop, List.length_drop]

theorem adv_cnt (s : ByteArray) (p k : Nat) (hp : p ≤ s.size) (hk : cnt s p ≤ k) : adv s p k = s.size := by
  have h1 := adv_le s k p hp
  by_cases h : adv s p k < s.size
  · have h2 := cnt_adv s p k
    rw [cnt_step h] at h2
    omega
  · omega

theorem adv_lt_cnt (s : ByteArray) (p k : Nat) (hk : k < cnt s p) : adv s p k < s.size := by
  by_cases h : adv s p k < s.size
  · exact h
  · have h2 := cnt_adv s p k
    rw [cnt_end h] at h2
    omega

theorem chs_get (s : ByteArray) (p k : Nat) (hk : k < cnt s p) : (chs s p)[k]? = some (s.extract (adv s p k) (adv s p (k + 1))) := by
  have h := adv_lt_cnt s p k hk
  have h1 : ((chs s p).drop k)[0]? = (chs s p)[k]? := by simp
  rw [← h1, chs_drop, chs_step h, adv_succ, adv_one h]
  rfl

/-! ### Parts of a text -/
theorem bytes_ext {t u : ByteArray} (h : t.data.toList = u.data.toList) : t = u := by
  apply ByteArray.ext
  exact Array.toList_inj.1 h

theorem part_part (s : ByteArray) (a b c d : Nat) (hd : a + d ≤ b) : (s.extract a b).extract c d = s.extract (a + c) (a + d) := by
  apply bytes_ext
  rw [extract_data, extract_data, extract_data, List.drop_take, List.take_take, List.drop_drop]
  congr 1
  omega

theorem part_join (s : ByteArray) (a b c : Nat) (h1 : a ≤ b) (h2 : b ≤ c) : s.extract a b ++ s.extract b c = s.extract a c := by
  apply bytes_ext
  rw [ByteArray.data_append, Array.toList_append, extract_data, extract_data, extract_data]
  have e : c - a = (b - a) + (c - b) := by omega
  rw [e, List.take_add, List.drop_drop, show a + (b - a) = b from by omega]

theorem part_none (s : ByteArray) (a b : Nat) (h : b ≤ a) : s.extract a b = ⟨#[]⟩ := by
  apply bytes_ext
  rw [extract_data, show b - a = 0 from by omega]
  simp

theorem part_all (s : ByteArray) : s.extract 0 s.size = s := by
  apply bytes_ext
  rw [extract_data, List.drop_zero, Nat.sub_zero, size_eq]
  exact List.take_length

theorem part_size (s : ByteArray) (a b : Nat) (h : b ≤ s.size) : (s.extract a b).size = b - a := by
  rw [ByteArray.size_extract]; omega

end Go.Proofs.YtcojnkjcbopnbaaGreatDoor.T2
