/- Merged by program: SPlain, SStrs, SJoinW, FTakeW, FText, FLives. -/
import Derived.Test.YtcojnkjcbopnbaaGreatDoorQjaa
import Derived.Test.YtcojnkjcbopnbaaGreatDoorQjaf
import Derived.Test.YtcojnkjcbopnbaaGreatDoorQjad
/- What takes a part's place: plain. -/
namespace Go.Proofs.YtcojnkjcbopnbaaGreatDoor

/-- The texts that 'by' puts ahead of, between and behind the parts; whether the first byte stands for itself; what was read of the text that is under way. -/
def sPiece : List UInt8 → Bool → List UInt8 → List (List UInt8)
  | [], _, cur => [cur]
  | c :: r, true, cur => sPiece r false (cur ++ [c])
  | c :: r, false, cur => if c = 38 then cur :: sPiece r false [] else if c = 92 ∧ (r.head? = some 38 ∨ r.head? = some 92) then sPiece r true cur else sPiece r false (cur ++ [c])
/-- By, with the part in its place. -/
def sPut (part : List UInt8) : List UInt8 → Bool → List UInt8
  | [], _ => []
  | c :: r, true => c :: sPut part r false
  | c :: r, false => if c = 38 then part ++ sPut part r false else if c = 92 ∧ (r.head? = some 38 ∨ r.head? = some 92) then sPut part r true else c :: sPut part r false
/-- Texts, joined. -/
def sJoin (sep : List UInt8) : List (List UInt8) → List UInt8
  | [] => []
  | x :: r => x ++ r.flatMap fun y => sep ++ y
theorem sJoin_snoc (sep : List UInt8) (l : List (List UInt8)) (x : List UInt8) : sJoin sep (l ++ [x]) = sJoin sep l ++ (if l = [] then x else sep ++ x) := by
  cases l with
  | nil => simp [sJoin]
  | cons y r => simp [sJoin, List.flatMap_append]
theorem sJoin_cons (sep x : List UInt8) (l : List (List UInt8)) (h : l ≠ []) : sJoin sep (x :: l) = x ++ (sep ++ sJoin sep l) := by
  cases l with
  | nil => exact absurd rfl h
  | cons y r => simp [sJoin]
theorem sPiece_ne (l : List UInt8) : ∀ b cur, sPiece l b cur ≠ [] := by
  induction l with
  | nil => intro b cur; simp [sPiece]
  | cons c r ih =>
    intro b cur
    cases b with
    | true => exact ih _ _
    | false =>
      unfold sPiece
      split
      · simp
      · split
        · exact ih _ _
        · exact ih _ _
theorem sJoin_piece (part : List UInt8) (l : List UInt8) : ∀ b cur, sJoin part (sPiece l b cur) = cur ++ sPut part l b := by
  induction l with
  | nil => intro b cur; simp [sPiece, sPut, sJoin]
  | cons c r ih =>
    intro b cur
    cases b with
    | true =>
      show sJoin part (sPiece r false (cur ++ [c])) = cur ++ (c :: sPut part r false)
      rw [ih]
      simp
    | false =>
      unfold sPiece sPut
      by_cases h1 : c = 38
      · rw [if_pos h1, if_pos h1, sJoin_cons _ _ _ (sPiece_ne _ _ _), ih]
        simp
      · rw [if_neg h1, if_neg h1]
        by_cases h2 : c = 92 ∧ (r.head? = some 38 ∨ r.head? = some 92)
        · rw [if_pos h2, if_pos h2, ih]
        · rw [if_neg h2, if_neg h2, ih]
          simp
/-- How long what is put can be. -/
theorem sPut_len (part : List UInt8) (l : List UInt8) : ∀ b, (sPut part l b).length ≤ l.length * (part.length + 1) := by
  have hm : ∀ k : Nat, (k + 1) * (part.length + 1) = k * (part.length + 1) + (part.length + 1) := fun k => Nat.succ_mul _ _
  induction l with
  | nil => intro b; simp [sPut]
  | cons c r ih =>
    intro b
    rw [List.length_cons, hm]
    cases b with
    | true => have := ih false; simp only [sPut, List.length_cons]; omega
    | false =>
      unfold sPut
      split
      · have := ih false; rw [List.length_append]; omega
      · split
        · have := ih true; omega
        · have := ih false; rw [List.length_cons]; omega
/-- What the pieces have, all in all, and how many they are. -/
theorem sPiece_len (l : List UInt8) : ∀ b cur, (sPiece l b cur).length ≤ l.length + 1 := by
  induction l with
  | nil => intro b cur; simp [sPiece]
  | cons c r ih =>
    intro b cur
    cases b with
    | true => have := ih false (cur ++ [c]); simp only [sPiece, List.length_cons]; omega
    | false =>
      unfold sPiece
      split
      · have := ih false []; simp only [List.length_cons]; omega
      · split
        · have := ih true cur; simp only [List.length_cons]; omega
        · have := ih false (cur ++ [c]); simp only [List.length_cons]; omega
theorem sPiece_all (l : List UInt8) : ∀ b cur, (sPiece l b cur).flatten.length ≤ cur.length + l.length := by
  induction l with
  | nil => intro b cur; simp [sPiece]
  | cons c r ih =>
    intro b cur
    cases b with
    | true => have := ih false (cur ++ [c]); rw [List.length_append, List.length_singleton] at this; simp only [sPiece, List.length_cons]; omega
    | false =>
      unfold sPiece
      split
      · have := ih false []; rw [List.flatten_cons, List.length_append]; simp only [List.length_cons, List.length_nil] at *; omega
      · split
        · have := ih true cur; simp only [List.length_cons]; omega
        · have := ih false (cur ++ [c]); rw [List.length_append, List.length_singleton] at this; simp only [List.length_cons]; omega
end Go.Proofs.YtcojnkjcbopnbaaGreatDoor

/- A slice of texts in memory; subst.write: a walk. -/
namespace Go.Proofs.YtcojnkjcbopnbaaGreatDoor
open Go.RowKit

/-- A slice of texts. -/
def StrsAt (w : World) (v : Value) (l : List ByteArray) : Prop := w.ownsRow 0 9 1 v l.length (l.map Value.string)
theorem StrsAt.keep {w w' : World} {v : Value} {l : List ByteArray} (h : StrsAt w v l) (e : ∀ (k : Nat) (c : Array Value), v.ownBlock = some k → w.heap[k]? = some (.cells c 9 (0, 0)) → w'.heap[k]? = w.heap[k]?) : StrsAt w' v l := by
  refine ⟨h.1, ?_⟩
  rcases h.2 with h0 | ⟨g', cap', cur, rfl, hb, hg, rest⟩
  · exact Or.inl h0
  · exact Or.inr ⟨g', cap', cur, rfl, hb, by rw [e g' _ rfl hg]; exact hg, rest⟩
theorem StrsAt.after {w w' : World} {v : Value} {l : List ByteArray} (h : StrsAt w v l) (hb : Below w.heap.size w w') : StrsAt w' v l := h.keep fun k _ _ hk => hb.block k (Array.getElem?_eq_some_iff.1 hk).1
theorem StrsAt.wrote {B b : Nat} {l0 m : List UInt8} {w w' : World} {v : Value} {l : List ByteArray} (h : StrsAt w v l) (h0 : BOk B b l0 w) (hw : Wrote B b m w w') : StrsAt w' v l := by
  obtain ⟨_, c, hb⟩ := h0.row
  refine h.keep fun k cs _ hk => ?_
  rw [hk]
  refine hw.others k _ hk (fun e => ?_) (fun c fz e => ?_)
  · have e' : k = b := by simpa using e
    subst e'
    rw [hk] at hb
    simp at hb
  · simp at e
theorem StrsAt.shape {w : World} {v : Value} {l : List ByteArray} (h : StrsAt w v l) : ∃ a c, v = .slice a l.length c := by
  rcases h.2 with ⟨e, h0⟩ | ⟨g', cap', cur, e, _⟩
  · exact ⟨none, 0, by rw [e, h0]⟩
  · exact ⟨_, _, e⟩
theorem StrsAt.cell {w : World} {a : Option Addr} {c : Nat} {l : List ByteArray} (h : StrsAt w (.slice a l.length c) l) (i : Nat) (hi : i < l.length) : ∃ g, a = some ⟨g, 0, none⟩ ∧ w.cell? ⟨g, i, none⟩ = some (.string l[i]) := by
  have h' : w.ownsRow 0 9 1 (.slice a l.length c) l.length (l.map Value.string) := h
  rcases h.2 with ⟨e, h0⟩ | ⟨g', cap', cur, e, _⟩
  · omega
  · simp only [Value.slice.injEq] at e
    obtain ⟨rfl, _, rfl⟩ := e
    refine ⟨g', rfl, ?_⟩
    rw [h'.cellAt i (by omega)]
    simp [hi]

/-- The texts' bytes. -/
def bytesL (l : List ByteArray) : List (List UInt8) := l.map (·.data.toList)
theorem bytesL_snoc (l : List ByteArray) (s : ByteArray) : bytesL (l ++ [s]) = bytesL l ++ [s.data.toList] := by simp [bytesL]
theorem bytesL_nil (l : List ByteArray) : bytesL l = [] ↔ l = [] := by simp [bytesL]
theorem sJoin_le (sep : List UInt8) (a b : List (List UInt8)) : (sJoin sep a).length ≤ (sJoin sep (a ++ b)).length := by
  cases a with
  | nil => simp [sJoin]
  | cons x r => simp only [sJoin, List.cons_append, List.flatMap_append, List.length_append]; omega

set_option maxRecDepth 100000 in
set_option maxHeartbeats 1000000 in
theorem swrite_spec (B b : Nat) (pre : List UInt8) (l : List ByteArray) (v : Value) (sep : ByteArray) (w : World) (h : BOk B b pre w) (hl : StrsAt w v l) (hn : l.length ≤ 1000000000) (hlen : pre.length + (sJoin sep.data.toList (bytesL l)).length ≤ 140737488355328) :
    Calls Tryz.prog 39 #[.pointer (some ⟨b, 0, none⟩), v, .string sep] w fun e w' => e = .returned (.tuple #[]) ∧ Wrote B b (pre ++ sJoin sep.data.toList (bytesL l)) w w' := by
  have H0 := Lib.hid h
  have HL := Lib.hid hl
  have HLEN := Lib.hid hlen
  obtain ⟨a, c, rfl⟩ := hl.shape
  clear h hl hlen
  go_enter Tryz.func39, Tryz.ntmps39
  go_wp2_with fail
  go_loopw [10] (fun y wr => ∃ i : Nat, y = .int .i64 i ∧ i ≤ l.length ∧ Hid (Wrote B b (pre ++ sJoin sep.data.toList (bytesL (l.take i))) w wr)) (fun y _ => l.length - (intOf y).toNat)
  case atStart => exact ⟨0, rfl, by omega, Lib.hid (by simp only [List.take_zero, bytesL, List.map_nil, sJoin, List.append_nil]; exact .refl H0.out)⟩
  case round =>
    obtain ⟨i, rfl, hi, hw⟩ := hrel
    by_cases hgo : i < l.length
    · have hbd : Hid (pre.length + (sJoin sep.data.toList (bytesL (l.take (i + 1)))).length ≤ 140737488355328) := Lib.hid (by
        have h1 := sJoin_le sep.data.toList (bytesL (l.take (i + 1))) (bytesL (l.drop (i + 1)))
        have h3 : bytesL (l.take (i + 1)) ++ bytesL (l.drop (i + 1)) = bytesL l := by unfold bytesL; rw [← List.map_append, List.take_append_drop]
        rw [h3] at h1
        have h2 := HLEN.out
        omega)
      have hsn : Hid (sJoin sep.data.toList (bytesL (l.take (i + 1))) = sJoin sep.data.toList (bytesL (l.take i)) ++ (if i = 0 then l[i].data.toList else sep.data.toList ++ l[i].data.toList)) := Lib.hid (by
        rw [List.take_succ_eq_append_getElem hgo, bytesL_snoc, sJoin_snoc]
        congr 1
        have : bytesL (l.take i) = [] ↔ i = 0 := by rw [bytesL_nil]; constructor
                                                    · intro h; rcases List.take_eq_nil_iff.1 h with h | h
                                                      · exact h
                                                      · rw [h] at hgo; simp at hgo
                                                    · rintro rfl; rfl
        by_cases h0 : i = 0
        · rw [if_pos h0, if_pos (this.2 h0)]
        · rw [if_neg h0, if_neg (fun h => h0 (this.1 h))])
      obtain ⟨g, e, hcl⟩ := (HL.out.wrote H0.out hw.out).cell i hgo
      subst e
      have hsz : l[i].data.toList.length = l[i].size := by simp
      have hsp : sep.data.toList.length = sep.size := by simp
      have HZ := Lib.hid hsz; have HP := Lib.hid hsp
      clear hsz hsp
      by_cases h0 : i = 0
      · subst h0
        have HQ := Lib.hid (fun w' (hw' : Wrote B b (pre ++ sJoin sep.data.toList (bytesL (l.take 0))) w w') => text_spec B b _ l[0] w' hw'.ok (by
          have h1 := hbd.out
          rw [hsn.out, if_pos rfl] at h1
          have h2 := HZ.out
          simp only [List.length_append] at h1 ⊢
          omega))
        go_wp2_with fail
        refine (HQ.out _ hw.out).mono ?_
        rintro e w2 ⟨rfl, hw2⟩
        have W2 := Lib.hid (hw.out.trans hw2)
        clear hw2
        go_wp2_with fail
        go_roundw
        case rel => exact ⟨0 + 1, by go_num, by omega, Lib.hid (by have h := W2.out; rw [hsn.out, if_pos (by trivial), ← List.append_assoc]; exact h)⟩
        case measure => simp [intOf]; omega
      · have hi0 : decide ((0 : Int) < i) = true := decide_eq_true (by omega)
        have HT := Lib.hid (text_spec B b _ sep wr hw.out.ok (by
          have h1 := hbd.out
          rw [hsn.out, if_neg h0] at h1
          have h2 := HP.out
          simp only [List.length_append] at h1 ⊢
          omega))
        go_wp2_with fail
        refine HT.out.mono ?_
        rintro e w2 ⟨rfl, hw2⟩
        have W2 := Lib.hid (hw.out.trans hw2)
        clear hw2
        have HQ := Lib.hid (text_spec B b _ l[i] w2 W2.out.ok (by
          have h1 := hbd.out
          rw [hsn.out, if_neg h0] at h1
          have h2 := HP.out
          have h3 := HZ.out
          simp only [List.length_append] at h1 ⊢
          omega))
        go_wp2_with fail
        refine HQ.out.mono ?_
        rintro e w3 ⟨rfl, hw3⟩
        have W3 := Lib.hid (W2.out.trans hw3)
        clear hw3
        go_wp2_with fail
        go_roundw
        case rel => exact ⟨i + 1, by go_num, by omega, Lib.hid (by have h := W3.out; rw [hsn.out, if_neg h0]; simpa only [List.append_assoc] using h)⟩
        case measure => simp [intOf]; omega
    · obtain rfl : i = l.length := by omega
      have hw' := hw.out
      rw [List.take_length] at hw'
      have W1 := Lib.hid hw'
      clear hw'
      go_wp2_with fail
      go_end0
      exact ⟨rfl, W1.out⟩

/-- A new builder. -/
theorem builder_new (w : World) : ∃ W, W = w.alloc (.cells #[.pointer none, .slice none 0 0] 80) ∧ Hid (BOk w.heap.size w.heap.size [] W) ∧ Hid (Below w.heap.size w W) :=
  ⟨_, rfl, Lib.hid ⟨Lib.IsBuilderF.of (Lib.fresh_isBuilder 80 5 w), by rw [World.size_alloc]; omega⟩, Lib.hid (below_new _ _)⟩

end Go.Proofs.YtcojnkjcbopnbaaGreatDoor

/- subst.Join: a walk. -/
namespace Go.Proofs.YtcojnkjcbopnbaaGreatDoor
open Go.RowKit

set_option maxRecDepth 100000 in
set_option maxHeartbeats 1000000 in
theorem sjoin_spec (l : List ByteArray) (v : Value) (sep : ByteArray) (w : World) (hl : StrsAt w v l) (hn : l.length ≤ 1000000000) (hlen : (sJoin sep.data.toList (bytesL l)).length ≤ 140737488355328) :
    Calls Tryz.prog 24 #[v, .string sep] w fun e w' => e = .returned (.string ⟨(sJoin sep.data.toList (bytesL l)).toArray⟩) ∧ Below w.heap.size w w' := by
  have HL := Lib.hid hl
  have HLEN := Lib.hid hlen
  obtain ⟨a, c, rfl⟩ := hl.shape
  clear hl hlen
  go_enter Tryz.func24, Tryz.ntmps24
  go_upto_region 2 with (fail)
  obtain ⟨W, hW, HW, HB⟩ := builder_new w
  rw [← hW]
  clear hW
  have HQ := Lib.hid (swrite_spec w.heap.size w.heap.size [] l _ sep W HW.out (HL.out.after HB.out) hn (by simpa using HLEN.out))
  go_wp2_with fail
  refine HQ.out.mono ?_
  rintro e w2 ⟨rfl, hw2⟩
  rw [List.nil_append] at hw2
  have W2 := Lib.hid hw2
  clear hw2
  have HS := Lib.hid (Tryz.Builder_String_any_f w.heap.size w.heap.size (sJoin sep.data.toList (bytesL l)) w2 W2.out.ok.is W2.out.ok.le)
  go_wp2_with fail
  refine HS.out.mono ?_
  rintro e w3 ⟨rfl, _, b3⟩
  have B3 := Lib.hid b3
  clear b3
  go_wp2_with fail
  go_ret
  exact ⟨rfl, HB.out.trans (W2.out.below.trans B3.out)⟩
end Go.Proofs.YtcojnkjcbopnbaaGreatDoor

/- An operation of a drawn region taken first. -/
namespace Go.Proofs.YtcojnkjcbopnbaaGreatDoor
open Go.RowKit

section
variable {P : Program} {ops : Array Oper} {Q : Exit → Act → World → Prop} {md : Region.Mode} {S : World → Prop}
/-- An operation of a drawn region that its guard wants, taken first. -/
theorem takeF {i d : Nat} {oi : Oper} {v : Value} {fuel : Nat} {listed : Array Bool} {a : Act} {w : World} (hi : ops[i]? = some oi) (hd : oi.dst = some d)
    (hs : Region.noSelect ops = true) (hf : Region.free md ops listed i = true) (hr : (Region.ready md ops listed).contains i = true)
    (hQ : ∀ c a w, Q (.panic c) (a.put (some d) v) w → Q (.panic c) a w) (hw : Region.wanted oi (yielded ops a.tmps) = true) (hx : ∀ w, S w → (execOp a.eval oi).run P w = .ok (.value v) w) (hS : S w)
    (h : wpAnyH P md ops Q S fuel (listed.setIfInBounds i true) ⟨a.tmps.setIfInBounds d v, a.defers⟩ w) : wpAnyH P md ops Q S (fuel + 1) listed a w :=
  wpAnyH_take hi hs hf hr (by rw [hd]; exact hQ) (Or.inl ⟨hw, hx⟩) hS (by rw [hd]; exact h)
end
end Go.Proofs.YtcojnkjcbopnbaaGreatDoor

/- fields.Rec.Text: a walk. -/
namespace Go.Proofs.YtcojnkjcbopnbaaGreatDoor
open Go.RowKit

theorem RecF.strs {w : World} {p : Nat} {v : Value} {l : List ByteArray} {t : ByteArray} {st : Bool} {o : ByteArray} (h : RecF w p v l t st o) : StrsAt w v l := own_low h.row (Nat.zero_le _)

/-- The text of a record. -/
def recT (l : List ByteArray) (t : ByteArray) (st : Bool) (o : ByteArray) : ByteArray := if st then ⟨(sJoin o.data.toList (bytesL l)).toArray⟩ else t

set_option maxRecDepth 100000 in
theorem rtext_spec (p : Nat) (v : Value) (l : List ByteArray) (t : ByteArray) (st : Bool) (o : ByteArray) (w : World) (h : RecF w p v l t st o) (hn : l.length ≤ 1000) (hlen : (sJoin o.data.toList (bytesL l)).length ≤ 140737488355328) :
    Calls Tryz.prog 15 #[.pointer (some ⟨p, 0, none⟩)] w fun e w' => e = .returned (.string (recT l t st o)) ∧ RecF w' p v l (recT l t st o) false (if st then emptyB else o) ∧ Below p w w' := by
  have H := Lib.hid h
  have HLT : p ≤ w.heap.size := Nat.le_of_lt h.mem.lt
  have c1 := h.mem.c1
  have c2 := h.mem.c2
  cases st with
  | false =>
    clear h
    go_enter Tryz.func15, Tryz.ntmps15
    go_wp2_with fail
    go_ret
    exact ⟨rfl, H.out, Below.refl _ _⟩
  | true =>
    have HS := Lib.hid h.strs
    have HJ := Lib.hid (fun w1 (hb : Below w.heap.size w w1) => sjoin_spec l v o w1 (HS.out.after hb) (by omega) hlen)
    obtain ⟨a, c, rfl⟩ := h.shape
    clear h
    go_enter Tryz.func15, Tryz.ntmps15
    go_upto_region 2 with (fail)
    refine wp_region_held_drew (S := fun w' => (∃ x, Hid (RecF w' p (.slice a l.length c) l x true o)) ∧ Hid (Below p w w')) (by kernel_rfl) ⟨⟨t, Lib.hid (H.out.after (below_drew _))⟩, Lib.hid (Below.mono (below_drew _) HLT)⟩ (fun hS => ?_)
    obtain ⟨V, hV⟩ : ∃ V, V = w.drew := ⟨_, rfl⟩
    have HV : Hid (Below w.heap.size w V) := Lib.hid (by rw [hV]; exact below_drew _)
    rw [← hV] at hS ⊢
    clear hV
    refine takeF (i := 0) (d := 7) (v := .pointer (some ⟨p, 0, none⟩)) rfl rfl (by kernel_rfl) (by kernel_rfl) (by kernel_rfl) (fun _ _ _ h => h) (by rfl) (fun w' hSw => by obtain ⟨⟨_, h1⟩, _⟩ := hSw; have c0 := h1.out.mem.c0; have c3 := h1.out.mem.c3; clear h1; go_simp) (by assumption) ?_
    simp only [List.setIfInBounds_toArray, List.set_cons_zero, List.set_cons_succ]
    refine takeF (i := 1) (d := 8) (v := .pointer (some ⟨p, 0, none⟩)) rfl rfl (by kernel_rfl) (by kernel_rfl) (by kernel_rfl) (fun _ _ _ h => h) (by rfl) (fun w' hSw => by obtain ⟨⟨_, h1⟩, _⟩ := hSw; have c0 := h1.out.mem.c0; have c3 := h1.out.mem.c3; clear h1; go_simp) (by assumption) ?_
    simp only [List.setIfInBounds_toArray, List.set_cons_zero, List.set_cons_succ]
    refine takeF (i := 2) (d := 9) (v := .pointer (some ⟨p, 0, none⟩)) rfl rfl (by kernel_rfl) (by kernel_rfl) (by kernel_rfl) (fun _ _ _ h => h) (by rfl) (fun w' hSw => by obtain ⟨⟨_, h1⟩, _⟩ := hSw; have c0 := h1.out.mem.c0; have c3 := h1.out.mem.c3; clear h1; go_simp) (by assumption) ?_
    simp only [List.setIfInBounds_toArray, List.set_cons_zero, List.set_cons_succ]
    refine takeF (i := 3) (d := 10) (v := .pointer (some ⟨p, 0, none⟩)) rfl rfl (by kernel_rfl) (by kernel_rfl) (by kernel_rfl) (fun _ _ _ h => h) (by rfl) (fun w' hSw => by obtain ⟨⟨_, h1⟩, _⟩ := hSw; have c0 := h1.out.mem.c0; have c3 := h1.out.mem.c3; clear h1; go_simp) (by assumption) ?_
    simp only [List.setIfInBounds_toArray, List.set_cons_zero, List.set_cons_succ]
    refine takeF (i := 4) (d := 11) (v := .slice a l.length c) rfl rfl (by kernel_rfl) (by kernel_rfl) (by kernel_rfl) (fun _ _ _ h => h) (by rfl) (fun w' hSw => by obtain ⟨⟨_, h1⟩, _⟩ := hSw; have c0 := h1.out.mem.c0; have c3 := h1.out.mem.c3; clear h1; go_simp) (by assumption) ?_
    simp only [List.setIfInBounds_toArray, List.set_cons_zero, List.set_cons_succ]
    refine takeF (i := 5) (d := 12) (v := .pointer (some ⟨p, 0, none⟩)) rfl rfl (by kernel_rfl) (by kernel_rfl) (by kernel_rfl) (fun _ _ _ h => h) (by rfl) (fun w' hSw => by obtain ⟨⟨_, h1⟩, _⟩ := hSw; have c0 := h1.out.mem.c0; have c3 := h1.out.mem.c3; clear h1; go_simp) (by assumption) ?_
    simp only [List.setIfInBounds_toArray, List.set_cons_zero, List.set_cons_succ]
    refine takeF (i := 6) (d := 13) (v := .pointer (some ⟨p, 0, none⟩)) rfl rfl (by kernel_rfl) (by kernel_rfl) (by kernel_rfl) (fun _ _ _ h => h) (by rfl) (fun w' hSw => by obtain ⟨⟨_, h1⟩, _⟩ := hSw; have c0 := h1.out.mem.c0; have c3 := h1.out.mem.c3; clear h1; go_simp) (by assumption) ?_
    simp only [List.setIfInBounds_toArray, List.set_cons_zero, List.set_cons_succ]
    refine takeF (i := 7) (d := 14) (v := .pointer (some ⟨p, 3, none⟩)) rfl rfl (by kernel_rfl) (by kernel_rfl) (by kernel_rfl) (fun _ _ _ h => h) (by rfl) (fun w' hSw => by obtain ⟨⟨_, h1⟩, _⟩ := hSw; have c0 := h1.out.mem.c0; have c3 := h1.out.mem.c3; clear h1; go_simp) (by assumption) ?_
    simp only [List.setIfInBounds_toArray, List.set_cons_zero, List.set_cons_succ]
    refine takeF (i := 8) (d := 15) (v := .string o) rfl rfl (by kernel_rfl) (by kernel_rfl) (by kernel_rfl) (fun _ _ _ h => h) (by rfl) (fun w' hSw => by obtain ⟨⟨_, h1⟩, _⟩ := hSw; have c0 := h1.out.mem.c0; have c3 := h1.out.mem.c3; clear h1; go_simp) (by assumption) ?_
    simp only [List.setIfInBounds_toArray, List.set_cons_zero, List.set_cons_succ]
    refine wpAnyH_ready (rs := [9]) (by kernel_rfl) (by simp) ?_
    refine AllReadyH.cons rfl (fun X hX => ?_) AllReadyH.nil
    rw [if_pos (by rfl)]
    go_simp
    refine (HJ.out V HV.out).mono ?_
    rintro e w1 ⟨rfl, b1⟩
    have B1 := Lib.hid (Below.step HV.out b1)
    have H1 := Lib.hid (H.out.after B1.out)
    go_wp2_with fail
    refine hX.out _ _ ⟨⟨t, H1⟩, Lib.hid (Below.mono B1.out HLT)⟩ (fun hS1 => ?_)
    clear hX X hS b1
    refine takeF (i := 10) (d := 17) (v := .pointer (some ⟨p, 0, none⟩)) rfl rfl (by kernel_rfl) (by kernel_rfl) (by kernel_rfl) (fun _ _ _ h => h) (by rfl) (fun w' hSw => by obtain ⟨⟨_, h1⟩, _⟩ := hSw; have c0 := h1.out.mem.c0; have c3 := h1.out.mem.c3; clear h1; go_simp) (by assumption) ?_
    simp only [List.setIfInBounds_toArray, List.set_cons_zero, List.set_cons_succ]
    refine takeF (i := 11) (d := 18) (v := .pointer (some ⟨p, 1, none⟩)) rfl rfl (by kernel_rfl) (by kernel_rfl) (by kernel_rfl) (fun _ _ _ h => h) (by rfl) (fun w' hSw => by obtain ⟨⟨_, h1⟩, _⟩ := hSw; have c0 := h1.out.mem.c0; have c3 := h1.out.mem.c3; clear h1; go_simp) (by assumption) ?_
    simp only [List.setIfInBounds_toArray, List.set_cons_zero, List.set_cons_succ]
    have c1 := H1.out.mem.c1
    have z1 := H1.out.mem.z 1
    refine wpAnyH_ready (rs := [12]) (by kernel_rfl) (by simp) ?_
    refine AllReadyH.cons rfl (fun X hX => ?_) AllReadyH.nil
    rw [if_pos (by rfl)]
    go_simp
    obtain ⟨T, hT⟩ : ∃ T : ByteArray, T = ⟨(sJoin o.data.toList (bytesL l)).toArray⟩ := ⟨_, rfl⟩
    rw [← hT]
    have B2 : Hid (Below p w (w1.setCell ⟨p, 1, none⟩ (.string T))) := Lib.hid (below_put (Below.mono B1.out HLT) (Nat.le_refl _) _ _)
    have H2 : Hid (RecF (w1.setCell ⟨p, 1, none⟩ (.string T)) p (.slice a l.length c) l T true o) := Lib.hid (H1.out.put1 T)
    refine hX.out _ _ ⟨⟨T, H2⟩, B2⟩ (fun hS2 => ?_)
    clear hX X hS1 hS2 c1 z1
    refine wpAnyH_done (by kernel_rfl) ?_ _
    obtain ⟨U, hU⟩ : ∃ U, U = w1.setCell ⟨p, 1, none⟩ (.string T) := ⟨_, rfl⟩
    rw [← hU] at B2 H2 ⊢
    clear hU B1 H1
    have c1 := H2.out.mem.c1
    have c2' := H2.out.mem.c2
    have c3 := H2.out.mem.c3
    have z2 := H2.out.mem.z 2
    have z3 := H2.out.mem.z 3
    have HT := Lib.hid hT
    clear hT
    go_wp2_with fail
    go_ret
    have e : recT l t true o = T := HT.out.symm
    rw [e]
    exact ⟨rfl, (H2.out.put2 false).put3 emptyB, below_put (below_put B2.out (Nat.le_refl _) _ _) (Nat.le_refl _) _ _⟩
end Go.Proofs.YtcojnkjcbopnbaaGreatDoor

/- aukletlaw09.lives: a walk. -/
namespace Go.Proofs.YtcojnkjcbopnbaaGreatDoor
open Go.RowKit

theorem words_ab : Lib.goFieldsP T2.blankR ⟨#[32, 97, 32, 98, 32]⟩ = [⟨#[97]⟩, ⟨#[98]⟩] := by decide +kernel
theorem set_ab : setL [⟨#[97]⟩, ⟨#[98]⟩] 3 ⟨#[100]⟩ = [⟨#[97]⟩, ⟨#[98]⟩, ⟨#[]⟩, ⟨#[100]⟩] := by rfl
theorem join_ab : recT [⟨#[97]⟩, ⟨#[98]⟩, ⟨#[]⟩, ⟨#[100]⟩] emptyB true ⟨#[45]⟩ = ⟨#[97, 45, 98, 45, 45, 100]⟩ := by rfl

set_option maxRecDepth 100000 in
theorem lives9 (w : World) : Calls Tryz.prog 6 #[] w fun e w' => e = .returned (.bool true) ∧ Below w.heap.size w w' := by
  have HN := Lib.hid (new_spec w)
  go_enter Tryz.func6, Tryz.ntmps6
  go_wp2_with fail
  refine HN.out.mono ?_
  rintro e w1 ⟨rfl, h1, b1⟩
  have B1 := Lib.hid b1
  have HT := Lib.hid (take_spec False (fun l => l = Lib.goFieldsP T2.blankR ⟨#[32, 97, 32, 98, 32]⟩) w.heap.size _ _ _ _ _ ⟨#[32, 97, 32, 98, 32]⟩ ⟨#[32]⟩ w1 h1 (at_words _ _ (by rw [Lib.toList_data]) (by decide) w1))
  obtain ⟨p, hp⟩ : ∃ p, p = w.heap.size := ⟨_, rfl⟩
  rw [← hp] at HT
  have HP := Lib.hid hp
  clear b1 h1 HN
  rw [← hp]
  clear hp
  go_wp2_with fail
  refine HT.out.mono ?_
  rintro e w2 ⟨b2, ⟨y, _, rfl, hy⟩ | ⟨rfl, v, l, h2, _, hl⟩⟩
  · exfalso
    rcases hy with h | ⟨l, rfl, h⟩
    · exact h
    · rw [words_ab] at h
      simp at h
  · rw [words_ab] at hl
    subst hl
    have B2 := Lib.hid ((B1.out.mono (by rw [HP.out]; exact Nat.le_refl _) : Below p w w1).trans b2)
    have HM := Lib.hid (many_spec p v _ _ _ _ w2 h2)
    have HS := Lib.hid (set_spec 3 (by decide) p v _ _ _ _ ⟨#[100]⟩ ⟨#[45]⟩ w2 h2)
    clear b2 h2
    go_wp2_with fail
    refine HM.out.mono ?_
    rintro e w2' ⟨rfl, e2⟩
    subst e2
    go_wp2_with fail
    refine HS.out.mono ?_
    rintro e w3 ⟨rfl, ⟨v3, h3⟩, b3⟩
    rw [set_ab] at h3
    have B3 := Lib.hid (B2.out.trans b3)
    have HX := Lib.hid (rtext_spec p v3 _ _ _ _ w3 h3 (by decide) (by decide))
    rw [join_ab] at HX
    clear h3 b3
    go_wp2_with fail
    refine HX.out.mono ?_
    rintro e w4 ⟨rfl, _, b4⟩
    have B4 := Lib.hid (B3.out.trans b4)
    clear b4
    go_wp2_with fail
    go_ret
    rw [← HP.out]
    exact ⟨rfl, B4.out⟩
end Go.Proofs.YtcojnkjcbopnbaaGreatDoor
