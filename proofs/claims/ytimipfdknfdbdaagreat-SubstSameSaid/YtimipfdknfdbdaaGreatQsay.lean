/- Merged by program: SPlain, SStrs, SPieces. -/
import Derived.Test.YtimipfdknfdbdaaGreatQsaa
import Derived.Test.YtimipfdknfdbdaaGreatQsax
/- What takes a part's place: plain. -/
namespace Go.Proofs.YtimipfdknfdbdaaGreat

/-- The texts that 'by' puts ahead of, between and behind the parts; whether the first byte stands for itself; what was read of the text that is under way. -/
def sPiece : List UInt8 → Bool → List UInt8 → List (List UInt8)
  | [], _, cur => [cur]
  | c :: r, true, cur => sPiece r false (cur ++ [c])
  | c :: r, false, cur => if c = 38 then cur :: sPiece r false [] else if c = 92 ∧ (r.head? = some 38 ∨ r.head? = some 92) then sPiece r true cur else sPiece r false (cur ++ [c])
/-- By, with the part in its place. -/
def sPut (part : List UInt8) : List UInt8 → Bool → List UInt8
  | [], _ => []
  | c :: r, true => c :: sPut part r false
  | c :: r, false => if c = 38 then part ++ sPut part r false else if c = 92 ∧ (r.head? = some 38 ∨ r.head? = some 92) then sPut part r true else c :: sPut part r false
/-- Texts, joined. -/
def sJoin (sep : List UInt8) : List (List UInt8) → List UInt8
  | [] => []
  | x :: r => x ++ r.flatMap fun y => sep ++ y
theorem sJoin_snoc (sep : List UInt8) (l : List (List UInt8)) (x : List UInt8) : sJoin sep (l ++ [x]) = sJoin sep l ++ (if l = [] then x else sep ++ x) := by
  cases l with
  | nil => simp [sJoin]
  | cons y r => simp [sJoin, List.flatMap_append]
theorem sJoin_cons (sep x : List UInt8) (l : List (List UInt8)) (h : l ≠ []) : sJoin sep (x :: l) = x ++ (sep ++ sJoin sep l) := by
  cases l with
  | nil => exact absurd rfl h
  | cons y r => simp [sJoin]
theorem sPiece_ne (l : List UInt8) : ∀ b cur, sPiece l b cur ≠ [] := by
  induction l with
  | nil => intro b cur; simp [sPiece]
  | cons c r ih =>
    intro b cur
    cases b with
    | true => exact ih _ _
    | false =>
      unfold sPiece
      split
      · simp
      · split
        · exact ih _ _
        · exact ih _ _
theorem sJoin_piece (part : List UInt8) (l : List UInt8) : ∀ b cur, sJoin part (sPiece l b cur) = cur ++ sPut part l b := by
  induction l with
  | nil => intro b cur; simp [sPiece, sPut, sJoin]
  | cons c r ih =>
    intro b cur
    cases b with
    | true =>
      show sJoin part (sPiece r false (cur ++ [c])) = cur ++ (c :: sPut part r false)
      rw [ih]
      simp
    | false =>
      unfold sPiece sPut
      by_cases h1 : c = 38
      · rw [if_pos h1, if_pos h1, sJoin_cons _ _ _ (sPiece_ne _ _ _), ih]
        simp
      · rw [if_neg h1, if_neg h1]
        by_cases h2 : c = 92 ∧ (r.head? = some 38 ∨ r.head? = some 92)
        · rw [if_pos h2, if_pos h2, ih]
        · rw [if_neg h2, if_neg h2, ih]
          simp
/-- How long what is put can be. -/
theorem sPut_len (part : List UInt8) (l : List UInt8) : ∀ b, (sPut part l b).length ≤ l.length * (part.length + 1) := by
  have hm : ∀ k : Nat, (k + 1) * (part.length + 1) = k * (part.length + 1) + (part.length + 1) := fun k => Nat.succ_mul _ _
  induction l with
  | nil => intro b; simp [sPut]
  | cons c r ih =>
    intro b
    rw [List.length_cons, hm]
    cases b with
    | true => have := ih false; simp only [sPut, List.length_cons]; omega
    | false =>
      unfold sPut
      split
      · have := ih false; rw [List.length_append]; omega
      · split
        · have := ih true; omega
        · have := ih false; rw [List.length_cons]; omega
/-- What the pieces have, all in all, and how many they are. -/
theorem sPiece_len (l : List UInt8) : ∀ b cur, (sPiece l b cur).length ≤ l.length + 1 := by
  induction l with
  | nil => intro b cur; simp [sPiece]
  | cons c r ih =>
    intro b cur
    cases b with
    | true => have := ih false (cur ++ [c]); simp only [sPiece, List.length_cons]; omega
    | false =>
      unfold sPiece
      split
      · have := ih false []; simp only [List.length_cons]; omega
      · split
        · have := ih true cur; simp only [List.length_cons]; omega
        · have := ih false (cur ++ [c]); simp only [List.length_cons]; omega
theorem sPiece_all (l : List UInt8) : ∀ b cur, (sPiece l b cur).flatten.length ≤ cur.length + l.length := by
  induction l with
  | nil => intro b cur; simp [sPiece]
  | cons c r ih =>
    intro b cur
    cases b with
    | true => have := ih false (cur ++ [c]); rw [List.length_append, List.length_singleton] at this; simp only [sPiece, List.length_cons]; omega
    | false =>
      unfold sPiece
      split
      · have := ih false []; rw [List.flatten_cons, List.length_append]; simp only [List.length_cons, List.length_nil] at *; omega
      · split
        · have := ih true cur; simp only [List.length_cons]; omega
        · have := ih false (cur ++ [c]); rw [List.length_append, List.length_singleton] at this; simp only [List.length_cons]; omega
end Go.Proofs.YtimipfdknfdbdaaGreat

/- A slice of texts in memory; subst.write: a walk. -/
namespace Go.Proofs.YtimipfdknfdbdaaGreat
open Go.RowKit

/-- A slice of texts. -/
def StrsAt (w : World) (v : Value) (l : List ByteArray) : Prop := w.ownsRow 0 9 1 v l.length (l.map Value.string)
theorem StrsAt.keep {w w' : World} {v : Value} {l : List ByteArray} (h : StrsAt w v l) (e : ∀ (k : Nat) (c : Array Value), v.ownBlock = some k → w.heap[k]? = some (.cells c 9 (0, 0)) → w'.heap[k]? = w.heap[k]?) : StrsAt w' v l := by
  refine ⟨h.1, ?_⟩
  rcases h.2 with h0 | ⟨g', cap', cur, rfl, hb, hg, rest⟩
  · exact Or.inl h0
  · exact Or.inr ⟨g', cap', cur, rfl, hb, by rw [e g' _ rfl hg]; exact hg, rest⟩
theorem StrsAt.after {w w' : World} {v : Value} {l : List ByteArray} (h : StrsAt w v l) (hb : Below w.heap.size w w') : StrsAt w' v l := h.keep fun k _ _ hk => hb.block k (Array.getElem?_eq_some_iff.1 hk).1
theorem StrsAt.wrote {B b : Nat} {l0 m : List UInt8} {w w' : World} {v : Value} {l : List ByteArray} (h : StrsAt w v l) (h0 : BOk B b l0 w) (hw : Wrote B b m w w') : StrsAt w' v l := by
  obtain ⟨_, c, hb⟩ := h0.row
  refine h.keep fun k cs _ hk => ?_
  rw [hk]
  refine hw.others k _ hk (fun e => ?_) (fun c fz e => ?_)
  · have e' : k = b := by simpa using e
    subst e'
    rw [hk] at hb
    simp at hb
  · simp at e
theorem StrsAt.shape {w : World} {v : Value} {l : List ByteArray} (h : StrsAt w v l) : ∃ a c, v = .slice a l.length c := by
  rcases h.2 with ⟨e, h0⟩ | ⟨g', cap', cur, e, _⟩
  · exact ⟨none, 0, by rw [e, h0]⟩
  · exact ⟨_, _, e⟩
theorem StrsAt.cell {w : World} {a : Option Addr} {c : Nat} {l : List ByteArray} (h : StrsAt w (.slice a l.length c) l) (i : Nat) (hi : i < l.length) : ∃ g, a = some ⟨g, 0, none⟩ ∧ w.cell? ⟨g, i, none⟩ = some (.string l[i]) := by
  have h' : w.ownsRow 0 9 1 (.slice a l.length c) l.length (l.map Value.string) := h
  rcases h.2 with ⟨e, h0⟩ | ⟨g', cap', cur, e, _⟩
  · omega
  · simp only [Value.slice.injEq] at e
    obtain ⟨rfl, _, rfl⟩ := e
    refine ⟨g', rfl, ?_⟩
    rw [h'.cellAt i (by omega)]
    simp [hi]

/-- The texts' bytes. -/
def bytesL (l : List ByteArray) : List (List UInt8) := l.map (·.data.toList)
theorem bytesL_snoc (l : List ByteArray) (s : ByteArray) : bytesL (l ++ [s]) = bytesL l ++ [s.data.toList] := by simp [bytesL]
theorem bytesL_nil (l : List ByteArray) : bytesL l = [] ↔ l = [] := by simp [bytesL]
theorem sJoin_le (sep : List UInt8) (a b : List (List UInt8)) : (sJoin sep a).length ≤ (sJoin sep (a ++ b)).length := by
  cases a with
  | nil => simp [sJoin]
  | cons x r => simp only [sJoin, List.cons_append, List.flatMap_append, List.length_append]; omega

set_option maxRecDepth 100000 in
set_option maxHeartbeats 1000000 in
theorem swrite_spec (B b : Nat) (pre : List UInt8) (l : List ByteArray) (v : Value) (sep : ByteArray) (w : World) (h : BOk B b pre w) (hl : StrsAt w v l) (hn : l.length ≤ 1000000000) (hlen : pre.length + (sJoin sep.data.toList (bytesL l)).length ≤ 140737488355328) :
    Calls Tryz.prog 25 #[.pointer (some ⟨b, 0, none⟩), v, .string sep] w fun e w' => e = .returned (.tuple #[]) ∧ Wrote B b (pre ++ sJoin sep.data.toList (bytesL l)) w w' := by
  have H0 := Lib.hid h
  have HL := Lib.hid hl
  have HLEN := Lib.hid hlen
  obtain ⟨a, c, rfl⟩ := hl.shape
  clear h hl hlen
  go_enter Tryz.func25, Tryz.ntmps25
  go_wp2_with fail
  go_loopw [10] (fun y wr => ∃ i : Nat, y = .int .i64 i ∧ i ≤ l.length ∧ Hid (Wrote B b (pre ++ sJoin sep.data.toList (bytesL (l.take i))) w wr)) (fun y _ => l.length - (intOf y).toNat)
  case atStart => exact ⟨0, rfl, by omega, Lib.hid (by simp only [List.take_zero, bytesL, List.map_nil, sJoin, List.append_nil]; exact .refl H0.out)⟩
  case round =>
    obtain ⟨i, rfl, hi, hw⟩ := hrel
    by_cases hgo : i < l.length
    · have hbd : Hid (pre.length + (sJoin sep.data.toList (bytesL (l.take (i + 1)))).length ≤ 140737488355328) := Lib.hid (by
        have h1 := sJoin_le sep.data.toList (bytesL (l.take (i + 1))) (bytesL (l.drop (i + 1)))
        have h3 : bytesL (l.take (i + 1)) ++ bytesL (l.drop (i + 1)) = bytesL l := by unfold bytesL; rw [← List.map_append, List.take_append_drop]
        rw [h3] at h1
        have h2 := HLEN.out
        omega)
      have hsn : Hid (sJoin sep.data.toList (bytesL (l.take (i + 1))) = sJoin sep.data.toList (bytesL (l.take i)) ++ (if i = 0 then l[i].data.toList else sep.data.toList ++ l[i].data.toList)) := Lib.hid (by
        rw [List.take_succ_eq_append_getElem hgo, bytesL_snoc, sJoin_snoc]
        congr 1
        have : bytesL (l.take i) = [] ↔ i = 0 := by rw [bytesL_nil]; constructor
                                                    · intro h; rcases List.take_eq_nil_iff.1 h with h | h
                                                      · exact h
                                                      · rw [h] at hgo; simp at hgo
                                                    · rintro rfl; rfl
        by_cases h0 : i = 0
        · rw [if_pos h0, if_pos (this.2 h0)]
        · rw [if_neg h0, if_neg (fun h => h0 (this.1 h))])
      obtain ⟨g, e, hcl⟩ := (HL.out.wrote H0.out hw.out).cell i hgo
      subst e
      have hsz : l[i].data.toList.length = l[i].size := by simp
      have hsp : sep.data.toList.length = sep.size := by simp
      have HZ := Lib.hid hsz; have HP := Lib.hid hsp
      clear hsz hsp
      by_cases h0 : i = 0
      · subst h0
        have HQ := Lib.hid (fun w' (hw' : Wrote B b (pre ++ sJoin sep.data.toList (bytesL (l.take 0))) w w') => text_spec B b _ l[0] w' hw'.ok (by
          have h1 := hbd.out
          rw [hsn.out, if_pos rfl] at h1
          have h2 := HZ.out
          simp only [List.length_append] at h1 ⊢
          omega))
        go_wp2_with fail
        refine (HQ.out _ hw.out).mono ?_
        rintro e w2 ⟨rfl, hw2⟩
        have W2 := Lib.hid (hw.out.trans hw2)
        clear hw2
        go_wp2_with fail
        go_roundw
        case rel => exact ⟨0 + 1, by go_num, by omega, Lib.hid (by have h := W2.out; rw [hsn.out, if_pos (by trivial), ← List.append_assoc]; exact h)⟩
        case measure => simp [intOf]; omega
      · have hi0 : decide ((0 : Int) < i) = true := decide_eq_true (by omega)
        have HT := Lib.hid (text_spec B b _ sep wr hw.out.ok (by
          have h1 := hbd.out
          rw [hsn.out, if_neg h0] at h1
          have h2 := HP.out
          simp only [List.length_append] at h1 ⊢
          omega))
        go_wp2_with fail
        refine HT.out.mono ?_
        rintro e w2 ⟨rfl, hw2⟩
        have W2 := Lib.hid (hw.out.trans hw2)
        clear hw2
        have HQ := Lib.hid (text_spec B b _ l[i] w2 W2.out.ok (by
          have h1 := hbd.out
          rw [hsn.out, if_neg h0] at h1
          have h2 := HP.out
          have h3 := HZ.out
          simp only [List.length_append] at h1 ⊢
          omega))
        go_wp2_with fail
        refine HQ.out.mono ?_
        rintro e w3 ⟨rfl, hw3⟩
        have W3 := Lib.hid (W2.out.trans hw3)
        clear hw3
        go_wp2_with fail
        go_roundw
        case rel => exact ⟨i + 1, by go_num, by omega, Lib.hid (by have h := W3.out; rw [hsn.out, if_neg h0]; simpa only [List.append_assoc] using h)⟩
        case measure => simp [intOf]; omega
    · obtain rfl : i = l.length := by omega
      have hw' := hw.out
      rw [List.take_length] at hw'
      have W1 := Lib.hid hw'
      clear hw'
      go_wp2_with fail
      go_end0
      exact ⟨rfl, W1.out⟩

/-- A new builder. -/
theorem builder_new (w : World) : ∃ W, W = w.alloc (.cells #[.pointer none, .slice none 0 0] 75) ∧ Hid (BOk w.heap.size w.heap.size [] W) ∧ Hid (Below w.heap.size w W) :=
  ⟨_, rfl, Lib.hid ⟨Lib.IsBuilderF.of (Lib.fresh_isBuilder 75 5 w), by rw [World.size_alloc]; omega⟩, Lib.hid (below_new _ _)⟩

end Go.Proofs.YtimipfdknfdbdaaGreat

/- subst.isEscape, pieces, Put: walks. -/
namespace Go.Proofs.YtimipfdknfdbdaaGreat
open Go.RowKit

theorem info_string : (Tryz.prog.info? 9).map (fun i => (i.zero, i.size, i.bytes)) = some (some (.string ByteArray.empty), 1, 16) := by kernel_rfl

/-- Whether a \ lets the byte behind it stand for itself. -/
def sEsc (l : List UInt8) : Bool := Lib.hasPrefix l [92, 38] || Lib.hasPrefix l [92, 92]
theorem sEsc_cons (c : UInt8) (r : List UInt8) : sEsc (c :: r) = true ↔ c = 92 ∧ (r.head? = some 38 ∨ r.head? = some 92) := by
  cases r with
  | nil => simp [sEsc, Lib.hasPrefix]
  | cons d r =>
    simp only [sEsc, Lib.hasPrefix, List.isPrefixOf, Bool.and_true, Bool.or_eq_true, Bool.and_eq_true, beq_iff_eq, List.head?_cons, Option.some.injEq]
    constructor
    · rintro (⟨h1, h2⟩ | ⟨h1, h2⟩)
      · exact ⟨h1.symm, Or.inl h2.symm⟩
      · exact ⟨h1.symm, Or.inr h2.symm⟩
    · rintro ⟨h1, h2 | h2⟩
      · exact Or.inl ⟨h1.symm, h2.symm⟩
      · exact Or.inr ⟨h1.symm, h2.symm⟩

theorem prefix_spec (s p : ByteArray) (b : Bool) (h : Lib.hasPrefix s.data.toList p.data.toList = b) (w : World) :
    Calls Tryz.prog 54 #[.string s, .string p] w fun e w' => e = .returned (.bool b) ∧ w' = w := by
  rw [← h]; exact Tryz.strings_HasPrefix s p w

set_option maxRecDepth 100000 in
theorem isEscape_spec (s : ByteArray) (b : Bool) (hb : sEsc s.data.toList = b) (w : World) :
    Calls Tryz.prog 41 #[.string s] w fun e w' => e = .returned (.bool b) ∧ w' = w := by
  subst hb
  obtain ⟨x, hx⟩ : ∃ x, Lib.hasPrefix s.data.toList [92, 38] = x := ⟨_, rfl⟩
  obtain ⟨y, hy⟩ : ∃ y, Lib.hasPrefix s.data.toList [92, 92] = y := ⟨_, rfl⟩
  have e : sEsc s.data.toList = (x || y) := by unfold sEsc; rw [hx, hy]
  rw [e]
  have C := Lib.hid (fun w => prefix_spec s ⟨#[92, 38]⟩ x hx w)
  have D := Lib.hid (fun w => prefix_spec s ⟨#[92, 92]⟩ y hy w)
  clear hx hy e
  cases x with
  | true =>
    go_enter Tryz.func41, Tryz.ntmps41
    go_wp2_with fail
    refine (C.out _).mono ?_
    rintro e w1 ⟨rfl, rfl⟩
    go_wp2_with fail
    go_ret
    exact ⟨rfl, rfl⟩
  | false =>
    cases y with
    | true =>
      go_enter Tryz.func41, Tryz.ntmps41
      go_wp2_with fail
      refine (C.out _).mono ?_
      rintro e w1 ⟨rfl, rfl⟩
      go_wp2_with fail
      refine (D.out _).mono ?_
      rintro e w1 ⟨rfl, rfl⟩
      go_wp2_with fail
      go_ret
      exact ⟨rfl, rfl⟩
    | false =>
      go_enter Tryz.func41, Tryz.ntmps41
      go_wp2_with fail
      refine (C.out _).mono ?_
      rintro e w1 ⟨rfl, rfl⟩
      go_wp2_with fail
      refine (D.out _).mono ?_
      rintro e w1 ⟨rfl, rfl⟩
      go_wp2_with fail
      go_ret
      exact ⟨rfl, rfl⟩

/-- What the call has made so far: the builder, the slice of texts. -/
structure Pcs (w wr : World) (v : Value) (l : List ByteArray) (cur : List UInt8) : Prop where
  ok : BOk w.heap.size w.heap.size cur wr
  row : wr.ownsRow w.heap.size 9 1 v l.length (l.map Value.string)
  below : Below w.heap.size w wr
theorem Pcs.wrote {w wr w2 : World} {v : Value} {l : List ByteArray} {cur m : List UInt8} (h : Pcs w wr v l cur) (hw : Wrote w.heap.size w.heap.size m wr w2) : Pcs w w2 v l m := by
  obtain ⟨_, c, hb⟩ := h.ok.row
  refine ⟨hw.ok, ⟨h.row.1, ?_⟩, h.below.trans hw.below⟩
  rcases h.row.2 with h0 | ⟨g', cap', cur', rfl, hbg, hg, rest⟩
  · exact Or.inl h0
  · refine Or.inr ⟨g', cap', cur', rfl, hbg, ?_, rest⟩
    rw [hw.others g' _ hg (fun e => ?_) (fun c fz e => ?_)]
    · have e' : g' = w.heap.size := by simpa using e
      subst e'
      rw [hg] at hb
      simp at hb
    · simp at e
theorem BOk.grown {B b : Nat} {l : List UInt8} {w w' : World} {row : Option Nat} (h : BOk B b l w) (hg : w.grownBy w' row) (hr : ∀ g, row = some g → ∃ c, w.heap[g]? = some (.cells c 9 (0, 0))) : BOk B b l w' := by
  have key : ∀ p, Lib.BuilderAtF 75 5 B b p (Lib.byteCells l) w → Lib.BuilderAtF 75 5 B b p (Lib.byteCells l) w' := by
    rintro p ⟨hB, v, hb, hown, hne⟩
    refine ⟨hB, v, ?_, hown.kept hg ?_, hne⟩
    · rw [hg.block b (Array.getElem?_eq_some_iff.1 hb).1 (fun e => ?_)]
      · exact hb
      · obtain ⟨c, hc⟩ := hr b e.symm
        rw [hb] at hc
        simp at hc
    · rcases hown.2 with ⟨rfl, _⟩ | ⟨g, cap, cur, fz, rfl, _, hgg, _⟩
      · exact Or.inl rfl
      · refine Or.inr (fun e => ?_)
        obtain ⟨c, hc⟩ := hr g e.symm
        rw [hgg] at hc
        simp at hc
  refine ⟨?_, Nat.le_trans h.le hg.size⟩
  rcases h.is with h1 | h1
  · exact Or.inl (key _ h1)
  · exact Or.inr (key _ h1)
theorem own_kind {B : Nat} {w : World} {v : Value} {l : List ByteArray} (h : w.ownsRow B 9 1 v l.length (l.map Value.string)) : ∀ g, v.ownBlock = some g → ∃ c, w.heap[g]? = some (.cells c 9 (0, 0)) := by
  intro g e
  rcases h.2 with ⟨rfl, _⟩ | ⟨g', cap', cur', rfl, hbg, hg, rest⟩
  · simp [Value.ownBlock] at e
  · simp only [Value.ownBlock, Option.some.injEq] at e
    subst e
    exact ⟨_, hg⟩
theorem Pcs.snoc {w wr w4 : World} {v v' : Value} {l : List ByteArray} {cur : List UInt8} {s : ByteArray} (h : Pcs w wr v l cur) (o : Obj) (hown : w4.ownsRow w.heap.size 9 1 v' (l.length + 1) (l.map Value.string ++ [.string s])) (hg : (wr.alloc o).grownBy w4 v.ownBlock) : Pcs w w4 v' (l ++ [s]) cur := by
  have hle := h.below.size
  have hrow := own_kind (h.row.kept (World.grownBy_alloc wr o none) (by cases v.ownBlock <;> simp))
  refine ⟨(h.ok.alloc o).grown hg hrow, by rw [List.length_append, List.map_append]; exact hown, ?_⟩
  exact (h.below.alloc hle o).grown hg (by rw [World.size_alloc]; omega) (fun k hk => (h.row.lt k hk).1)

/-- The slice of what 'by' puts. -/
def PiecesOut (by_ : ByteArray) (w : World) (e : Ending) (w' : World) : Prop :=
  ∃ v l, e = .returned v ∧ bytesL l = sPiece by_.data.toList false [] ∧ StrsAt w' v l ∧ Below w.heap.size w w'

theorem string_k (B b : Nat) (l : List UInt8) (w : World) (h : BOk B b l w) :
    Calls Tryz.prog 26 #[.pointer (some ⟨b, 0, none⟩)] w fun e w' => e = .returned (.string ⟨l.toArray⟩) ∧ Wrote B b l w w' := by
  refine (Tryz.Builder_String_any_k B b l w h.is h.le).mono ?_
  rintro e w' ⟨rfl, h1, h2, h3⟩
  exact ⟨rfl, ⟨h1, Nat.le_trans h.le (Nat.le_of_not_lt fun hlt => by have := h2.size; have := h.le; omega)⟩, h2, h3⟩
end Go.Proofs.YtimipfdknfdbdaaGreat
