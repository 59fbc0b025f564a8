/- Merged by program: New7, Writer, SPlain. -/
import Derived.Test.YtimipfdknfdbdaaGreatDoorQjay
import Derived.Test.YtimipfdknfdbdaaGreatDoorQjbb
import Derived.Test.YtimipfdknfdbdaaGreatDoorQjai
import Derived.Test.YtimipfdknfdbdaaGreatDoorQjaa
/- match.New: a walk. -/
namespace Go.Proofs.YtimipfdknfdbdaaGreatDoor
open Go.RowKit

/-- What New tells. -/
def NewOut (w : World) (s : ByteArray) (Q : Tree → Int → Prop) (R : Bool → Prop) (e : Ending) (w' : World) : Prop :=
  ∃ t x, Q t x ∧ Below w.heap.size w w' ∧ ((x ≠ 0 ∧ ∃ a : Int, e = .returned (.tuple #[.pointer none, .int .i64 a, .int .i64 x])) ∨
    (x = 0 ∧ (R false ∨ 500 ≤ (planN 101 t).n) ∧ ∃ y : Int, y ≠ 0 ∧ e = .returned (.tuple #[.pointer none, .int .i64 0, .int .i64 y])) ∨
    (x = 0 ∧ R true ∧ (planN 101 t).n < 500 ∧ Good 101 (-1) t ∧ ∃ pp sv, e = .returned (.tuple #[.pointer (some ⟨pp, 0, none⟩), .int .i64 0, .int .i64 0]) ∧ w.heap.size ≤ pp ∧ PatM w' pp s (machN t).2 sv (machN t).1))

set_option maxRecDepth 100000 in
set_option maxHeartbeats 1000000 in
theorem new_gen (s : ByteArray) (Q : Tree → Int → Prop) (R : Bool → Prop) (w : World)
    (hP : Calls Tryz.prog 15 #[.string s] w fun e w' => ∃ t ds, ∃ a x : Int, e = .returned (.tuple #[.agg ds, .int .i64 a, .int .i64 x]) ∧ At w' (Up w.heap.size) t ds ∧ Hid (Q t x) ∧ Below w.heap.size w w')
    (hB : ∀ t x, Q t x → x = 0 → ∀ rs B W, At W B t rs → Calls Tryz.prog 16 #[.agg rs] W (BuildOut W t R)) :
    Calls Tryz.prog 7 #[.string s] w (NewOut w s Q R) := by
  have HP := Lib.hid hP
  have HB := Lib.hid hB
  have HI := info_re
  clear hP hB
  go_enter Tryz.func7, Tryz.ntmps7
  go_wp2_with fail
  refine HP.out.mono ?_
  rintro e w1 ⟨t, ds, pa, px, rfl, hat, hq, b1⟩
  obtain ⟨a, c, e, _⟩ := hat.opens
  subst e
  have HAT := Lib.hid hat
  have B1 := Lib.hid b1
  clear hat b1
  unfold reC
  go_upto_region 2 with (fail)
  obtain ⟨W, hW, hX, hB1, _⟩ := re_box w1 (reC t.k t.f t.lo t.hi (.slice a t.kids.length c))
  change Code.wp _ _ _ _ (w1.alloc (Obj.cells (reC t.k t.f t.lo t.hi (.slice a t.kids.length c)) 48))
  rw [← hW]
  clear hW
  have A2 := Lib.hid (HAT.out.after hB1.out)
  have B2 := Lib.hid (Below.step B1.out hB1.out)
  by_cases hx : px = 0
  rotate_left
  · have hx2 : (px == 0) = false := beq_eq_false_iff_ne.2 hx
    have HX := Lib.hid hx; clear hx
    go_wp2_with fail
    go_ret3
    exact ⟨t, px, hq.out, B2.out, Or.inl ⟨HX.out, pa, rfl⟩⟩
  · subst hx
    have HC := Lib.hid (HB.out t 0 hq.out rfl _ _ W A2.out)
    clear HB
    obtain ⟨c0, c1, c2, c3, c4, c5, c6, c7⟩ := eight_re hX.out.eight
    unfold reC at HC
    go_wp2_with fail
    refine HC.out.mono ?_
    rintro e w2 ⟨b, hb, ⟨rfl, rfl, b2⟩ | ⟨rfl, hn, rfl, b2⟩ | ⟨rfl, hn, hg, p, sv, rfl, hp, hm, b2⟩⟩
    · have HR := Lib.hid hb
      have B3 := Lib.hid (Below.step B2.out b2)
      clear hb b2 c0 c1 c2 c3 c4 c5 c6 c7
      go_wp2_with fail
      go_ret3
      exact ⟨t, 0, hq.out, B3.out, Or.inr (Or.inl ⟨rfl, Or.inl HR.out, 1, by decide, rfl⟩)⟩
    · have HN := Lib.hid hn
      have B3 := Lib.hid (Below.step B2.out b2)
      clear hb hn b2 c0 c1 c2 c3 c4 c5 c6 c7
      go_wp2_with fail
      go_ret3
      exact ⟨t, 0, hq.out, B3.out, Or.inr (Or.inl ⟨rfl, Or.inr HN.out, 2, by decide, rfl⟩)⟩
    · have HR := Lib.hid hb
      have HN := Lib.hid hn
      have HG := Lib.hid hg
      have HM := Lib.hid hm
      have B3 := Lib.hid (Below.step B2.out b2)
      obtain ⟨st, hst⟩ : ∃ st, st = (machN t).1 := ⟨_, rfl⟩
      obtain ⟨ss, hss⟩ : ∃ ss, ss = (machN t).2 := ⟨_, rfl⟩
      rw [← hst, ← hss] at HM
      have m0 := HM.out.c0; have m1 := HM.out.c1
      obtain ⟨ga, gc, rfl⟩ := HM.out.shape
      have hww := B3.out.size
      have HSt := Lib.hid hst
      have HSs := Lib.hid hss
      clear hb hn hg hm b2 c0 c1 c2 c3 c4 c5 c6 c7 hst hss
      go_wp2_with fail
      go_ret3
      have hbn := below_new w2 (.cells #[.string s, .slice ga ss.length gc, .int .i64 st] 58)
      refine ⟨t, 0, hq.out, Below.step B3.out hbn, Or.inr (Or.inr ⟨rfl, HR.out, HN.out, HG.out, w2.heap.size, .slice ga ss.length gc, rfl, hww, ?_⟩)⟩
      rw [← HSt.out, ← HSs.out]
      refine ⟨heap_alloc_last w2 _, ?_⟩
      have ho := owns_after HM.out.own hbn
      refine ⟨ho.1, ?_⟩
      rcases ho.2 with h0 | ⟨g', cap', cur, e, _, rest⟩
      · exact Or.inl h0
      · exact Or.inr ⟨g', cap', cur, e, Nat.zero_le _, rest⟩
end Go.Proofs.YtimipfdknfdbdaaGreatDoor

/- strings.Builder's WriteString, Reset: walks; a builder that holds bytes. -/
namespace Go.Proofs.YtimipfdknfdbdaaGreatDoor
open Go.RowKit

theorem byteCells_snoc (l : List UInt8) (c : UInt8) : Lib.byteCells (l ++ [c]) = Lib.byteCells l ++ [.int .u8 (c.toNat : Int)] := by simp [Lib.byteCells]
set_option maxHeartbeats 2000000 in
set_option maxRecDepth 100000 in
theorem writeString_k (B b : Nat) (bs : List Value) (s : ByteArray) (w : World) (h : Lib.IsBuilderF 40 5 B b bs w) (hlen : bs.length + s.size ≤ 140737488355328) (hBw : B ≤ w.heap.size) :
    Calls Tryz.prog 25 #[.pointer (some ⟨b, 0, none⟩), .string s] w fun e w' => e = .returned (.tuple #[.int .i64 s.size, .nilIface]) ∧ (Lib.BuilderAtF 40 5 B b (.pointer (some ⟨b, 0, none⟩)) (bs ++ Lib.strCells s) w' ∧ Below B w w' ∧ Lib.OthersKept 5 (some b) w w') := by
  obtain ⟨i0, hi, hz0, hz1, hz2⟩ := info_parts info_byte
  go_enter Tryz.func25, Tryz.ntmps25
  go_wp2_with (go_at_call 36; refine (copyCheck_k B b bs _ h).mono ?_)
  rintro e w1 ⟨rfl, h1, hb1, hk1⟩
  obtain ⟨hB, v, hbk, hown, hne⟩ := h1
  have c0 : w1.cell? ⟨b, 0, none⟩ = some (.pointer (some ⟨b, 0, none⟩)) := by rw [Lib.cell_of_heap hbk]; rfl
  have c1 : w1.cell? ⟨b, 1, none⟩ = some v := by rw [Lib.cell_of_heap hbk]; rfl
  have hs1 := hb1.size
  go_wp2_with (at_builtin; refine Lib.wpList_append_own_stringF _ rfl _ _ 23 9 rfl B 5 i0 Tryz.underlying23 Tryz.underlying9 hi hz0 hz1 hz2 _ _ _ rfl hown s rfl ?c1 hlen ?c2 ?_)
  case c1 => unfold maxLen; omega
  case c2 => omega
  intro v' w2 hown' hgrow hnil
  have hlt : b < w1.heap.size := by
    rcases Nat.lt_or_ge b w1.heap.size with h' | h'
    · exact h'
    · simp [Array.getElem?_eq_none h'] at hbk
  have hb2 : w2.heap[b]? = some (.cells #[.pointer (some ⟨b, 0, none⟩), v] 40 (0, 0)) := by
    rw [hgrow.block b hlt (fun e => hne e.symm)]
    exact hbk
  have d0 : w2.cell? ⟨b, 0, none⟩ = some (.pointer (some ⟨b, 0, none⟩)) := by rw [Lib.cell_of_heap hb2]; rfl
  have d1 : w2.cell? ⟨b, 1, none⟩ = some v := by rw [Lib.cell_of_heap hb2]; rfl
  have f1 : w2.frozen? ⟨b, 1, none⟩ = false := Lib.frozen_of_heap hb2 1
  obtain ⟨ad, n', cap, rfl⟩ : ∃ ad n' cap, v' = .slice ad n' cap := by
    rcases hown'.2 with ⟨hv, h0⟩ | ⟨g, cap, cur, fz, hv, _⟩
    · exact ⟨_, _, _, hv⟩
    · exact ⟨_, _, _, hv⟩
  go_wp2
  go_ret2
  have hl : (Lib.strCells s).length = s.size := by simp [Lib.strCells]
  refine ⟨rfl, ?_, ?_, (hk1.grown hgrow (Lib.ownsRowF_kind hown)).setCell ⟨b, 1, none⟩ rfl _⟩
  · exact Lib.BuilderAtF.put (T := 40) (e := 5) hB hb2 (bs' := bs ++ Lib.strCells s) (by rw [List.length_append, hl]; exact hown') (by decide)
  · exact (hb1.grown hgrow (by omega) (fun k hk => (hown.lt k hk).1)).setCell (p := ⟨b, 1, none⟩) hB _

/-- A builder that holds those bytes. -/
structure BOk (B b : Nat) (l : List UInt8) (w : World) : Prop where
  is : Lib.IsBuilderF 40 5 B b (Lib.byteCells l) w
  le : B ≤ w.heap.size
/-- What writing leaves. -/
structure Wrote (B b : Nat) (l : List UInt8) (w w' : World) : Prop where
  ok : BOk B b l w'
  below : Below B w w'
  others : Lib.OthersKept 5 (some b) w w'
theorem Wrote.trans {B b : Nat} {l m : List UInt8} {w w1 w2 : World} (h : Wrote B b l w w1) (g : Wrote B b m w1 w2) : Wrote B b m w w2 := ⟨g.ok, h.below.trans g.below, h.others.trans g.others⟩
theorem Wrote.refl {B b : Nat} {l : List UInt8} {w : World} (h : BOk B b l w) : Wrote B b l w w := ⟨h, Below.refl _ _, Lib.OthersKept.refl _ _ _⟩
theorem BOk.alloc {B b : Nat} {l : List UInt8} {w : World} (h : BOk B b l w) (o : Obj) : BOk B b l (w.alloc o) := ⟨h.is.alloc o, by have := h.le; rw [World.size_alloc]; omega⟩
theorem Wrote.alloc {B b : Nat} {l : List UInt8} {w w1 : World} (h : Wrote B b l w w1) (o : Obj) : Wrote B b l w (w1.alloc o) := ⟨h.ok.alloc o, h.below.alloc h.ok.le o, h.others.alloc o⟩
theorem BOk.row {B b : Nat} {l : List UInt8} {w : World} (h : BOk B b l w) : B ≤ b ∧ ∃ c, w.heap[b]? = some (.cells c 40 (0, 0)) := by
  rcases h.is with ⟨h1, v, h2, _⟩ | ⟨h1, v, h2, _⟩
  · exact ⟨h1, _, h2⟩
  · exact ⟨h1, _, h2⟩
theorem byte_spec (B b : Nat) (l : List UInt8) (c : UInt8) (w : World) (h : BOk B b l w) (hlen : l.length + 1 ≤ 140737488355328) :
    Calls Tryz.prog 48 #[.pointer (some ⟨b, 0, none⟩), .int .u8 c.toNat] w fun e w' => e = .returned .nilIface ∧ Wrote B b (l ++ [c]) w w' := by
  refine (writeByte_k B b (Lib.byteCells l) c.toNat w h.is (by rw [Lib.byteCells_length]; exact hlen) h.le).mono ?_
  rintro e w' ⟨rfl, h1, h2, h3⟩
  exact ⟨rfl, ⟨Or.inr (by rw [byteCells_snoc]; exact h1), by have := h2.size; have := h.le; omega⟩, h2, h3⟩
theorem text_spec (B b : Nat) (l : List UInt8) (s : ByteArray) (w : World) (h : BOk B b l w) (hlen : l.length + s.size ≤ 140737488355328) :
    Calls Tryz.prog 25 #[.pointer (some ⟨b, 0, none⟩), .string s] w fun e w' => e = .returned (.tuple #[.int .i64 s.size, .nilIface]) ∧ Wrote B b (l ++ s.data.toList) w w' := by
  refine (writeString_k B b (Lib.byteCells l) s w h.is (by rw [Lib.byteCells_length]; exact hlen) h.le).mono ?_
  rintro e w' ⟨rfl, h1, h2, h3⟩
  refine ⟨rfl, ⟨Or.inr ?_, by have := h2.size; have := h.le; omega⟩, h2, h3⟩
  have e : Lib.byteCells (l ++ s.data.toList) = Lib.byteCells l ++ Lib.strCells s := by simp [Lib.byteCells, Lib.strCells]
  rw [e]
  exact h1

set_option maxRecDepth 100000 in
theorem reset_spec (B b : Nat) (l : List UInt8) (w : World) (h : BOk B b l w) :
    Calls Tryz.prog 46 #[.pointer (some ⟨b, 0, none⟩)] w fun e w' => e = .returned (.tuple #[]) ∧ Wrote B b [] w w' := by
  have ⟨hB, p, v, hb⟩ : B ≤ b ∧ ∃ p v, w.heap[b]? = some (.cells #[p, v] 40 (0, 0)) := by
    rcases h.is with ⟨h1, v, h2, _⟩ | ⟨h1, v, h2, _⟩
    · exact ⟨h1, _, v, h2⟩
    · exact ⟨h1, _, v, h2⟩
  have d0 : w.cell? ⟨b, 0, none⟩ = some p := by rw [Lib.cell_of_heap hb]; rfl
  have d1 : w.cell? ⟨b, 1, none⟩ = some v := by rw [Lib.cell_of_heap hb]; rfl
  have f0 : w.frozen? ⟨b, 0, none⟩ = false := Lib.frozen_of_heap hb 0
  have f1 : w.frozen? ⟨b, 1, none⟩ = false := Lib.frozen_of_heap hb 1
  have hle := h.le
  clear h
  go_enter Tryz.func46, Tryz.ntmps46
  go_wp2
  go_end0
  have e1 : ((w.setCell ⟨b, 0, none⟩ (.pointer none)).setCell ⟨b, 1, none⟩ (.slice none 0 0)).heap[b]? = some (.cells #[.pointer none, .slice none 0 0] 40 (0, 0)) := by
    simp [World.setCell, Array.getElem?_modify, hb]
  refine ⟨rfl, ⟨Or.inl ⟨hB, _, e1, World.ownsRowF_nil _ _ _ _, ?_⟩, by simpa using hle⟩, ((Below.refl B w).setCell (p := ⟨b, 0, none⟩) hB _).setCell (p := ⟨b, 1, none⟩) hB _, ((Lib.OthersKept.refl _ _ w).setCell ⟨b, 0, none⟩ rfl _).setCell ⟨b, 1, none⟩ rfl _⟩
  simp [Value.ownBlock]
end Go.Proofs.YtimipfdknfdbdaaGreatDoor

/- What takes a part's place: plain. -/
namespace Go.Proofs.YtimipfdknfdbdaaGreatDoor

/-- The texts that 'by' puts ahead of, between and behind the parts; whether the first byte stands for itself; what was read of the text that is under way. -/
def sPiece : List UInt8 → Bool → List UInt8 → List (List UInt8)
  | [], _, cur => [cur]
  | c :: r, true, cur => sPiece r false (cur ++ [c])
  | c :: r, false, cur => if c = 38 then cur :: sPiece r false [] else if c = 92 ∧ (r.head? = some 38 ∨ r.head? = some 92) then sPiece r true cur else sPiece r false (cur ++ [c])
/-- By, with the part in its place. -/
def sPut (part : List UInt8) : List UInt8 → Bool → List UInt8
  | [], _ => []
  | c :: r, true => c :: sPut part r false
  | c :: r, false => if c = 38 then part ++ sPut part r false else if c = 92 ∧ (r.head? = some 38 ∨ r.head? = some 92) then sPut part r true else c :: sPut part r false
/-- Texts, joined. -/
def sJoin (sep : List UInt8) : List (List UInt8) → List UInt8
  | [] => []
  | x :: r => x ++ r.flatMap fun y => sep ++ y
theorem sJoin_snoc (sep : List UInt8) (l : List (List UInt8)) (x : List UInt8) : sJoin sep (l ++ [x]) = sJoin sep l ++ (if l = [] then x else sep ++ x) := by
  cases l with
  | nil => simp [sJoin]
  | cons y r => simp [sJoin, List.flatMap_append]
theorem sJoin_cons (sep x : List UInt8) (l : List (List UInt8)) (h : l ≠ []) : sJoin sep (x :: l) = x ++ (sep ++ sJoin sep l) := by
  cases l with
  | nil => exact absurd rfl h
  | cons y r => simp [sJoin]
theorem sPiece_ne (l : List UInt8) : ∀ b cur, sPiece l b cur ≠ [] := by
  induction l with
  | nil => intro b cur; simp [sPiece]
  | cons c r ih =>
    intro b cur
    cases b with
    | true => exact ih _ _
    | false =>
      unfold sPiece
      split
      · simp
      · split
        · exact ih _ _
        · exact ih _ _
theorem sJoin_piece (part : List UInt8) (l : List UInt8) : ∀ b cur, sJoin part (sPiece l b cur) = cur ++ sPut part l b := by
  induction l with
  | nil => intro b cur; simp [sPiece, sPut, sJoin]
  | cons c r ih =>
    intro b cur
    cases b with
    | true =>
      show sJoin part (sPiece r false (cur ++ [c])) = cur ++ (c :: sPut part r false)
      rw [ih]
      simp
    | false =>
      unfold sPiece sPut
      by_cases h1 : c = 38
      · rw [if_pos h1, if_pos h1, sJoin_cons _ _ _ (sPiece_ne _ _ _), ih]
        simp
      · rw [if_neg h1, if_neg h1]
        by_cases h2 : c = 92 ∧ (r.head? = some 38 ∨ r.head? = some 92)
        · rw [if_pos h2, if_pos h2, ih]
        · rw [if_neg h2, if_neg h2, ih]
          simp
/-- How long what is put can be. -/
theorem sPut_len (part : List UInt8) (l : List UInt8) : ∀ b, (sPut part l b).length ≤ l.length * (part.length + 1) := by
  have hm : ∀ k : Nat, (k + 1) * (part.length + 1) = k * (part.length + 1) + (part.length + 1) := fun k => Nat.succ_mul _ _
  induction l with
  | nil => intro b; simp [sPut]
  | cons c r ih =>
    intro b
    rw [List.length_cons, hm]
    cases b with
    | true => have := ih false; simp only [sPut, List.length_cons]; omega
    | false =>
      unfold sPut
      split
      · have := ih false; rw [List.length_append]; omega
      · split
        · have := ih true; omega
        · have := ih false; rw [List.length_cons]; omega
/-- What the pieces have, all in all, and how many they are. -/
theorem sPiece_len (l : List UInt8) : ∀ b cur, (sPiece l b cur).length ≤ l.length + 1 := by
  induction l with
  | nil => intro b cur; simp [sPiece]
  | cons c r ih =>
    intro b cur
    cases b with
    | true => have := ih false (cur ++ [c]); simp only [sPiece, List.length_cons]; omega
    | false =>
      unfold sPiece
      split
      · have := ih false []; simp only [List.length_cons]; omega
      · split
        · have := ih true cur; simp only [List.length_cons]; omega
        · have := ih false (cur ++ [c]); simp only [List.length_cons]; omega
theorem sPiece_all (l : List UInt8) : ∀ b cur, (sPiece l b cur).flatten.length ≤ cur.length + l.length := by
  induction l with
  | nil => intro b cur; simp [sPiece]
  | cons c r ih =>
    intro b cur
    cases b with
    | true => have := ih false (cur ++ [c]); rw [List.length_append, List.length_singleton] at this; simp only [sPiece, List.length_cons]; omega
    | false =>
      unfold sPiece
      split
      · have := ih false []; rw [List.flatten_cons, List.length_append]; simp only [List.length_cons, List.length_nil] at *; omega
      · split
        · have := ih true cur; simp only [List.length_cons]; omega
        · have := ih false (cur ++ [c]); rw [List.length_append, List.length_singleton] at this; simp only [List.length_cons]; omega
end Go.Proofs.YtimipfdknfdbdaaGreatDoor
