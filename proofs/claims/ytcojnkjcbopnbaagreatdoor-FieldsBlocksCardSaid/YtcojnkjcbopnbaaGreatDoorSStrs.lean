/- A slice of texts in memory; subst.write: a walk. -/
import Derived.Test.YtcojnkjcbopnbaaGreatDoorWriter
import Derived.Test.YtcojnkjcbopnbaaGreatDoorSPlain
namespace Go.Proofs.YtcojnkjcbopnbaaGreatDoor
open Go.RowKit

/-- A slice of texts. -/
def StrsAt (w : World) (v : Value) (l : List ByteArray) : Prop := w.ownsRow 0 9 1 v l.length (l.map Value.string)
theorem StrsAt.keep {w w' : World} {v : Value} {l : List ByteArray} (h : StrsAt w v l) (e : ∀ (k : Nat) (c : Array Value), v.ownBlock = some k → w.heap[k]? = some (.cells c 9 (0, 0)) → w'.heap[k]? = w.heap[k]?) : StrsAt w' v l := by
  refine ⟨h.1, ?_⟩
  rcases h.2 with h0 | ⟨g', cap', cur, rfl, hb, hg, rest⟩
  · exact Or.inl h0
  · exact Or.inr ⟨g', cap', cur, rfl, hb, by rw [e g' _ rfl hg]; exact hg, rest⟩
theorem StrsAt.after {w w' : World} {v : Value} {l : List ByteArray} (h : StrsAt w v l) (hb : Below w.heap.size w w') : StrsAt w' v l := h.keep fun k _ _ hk => hb.block k (Array.getElem?_eq_some_iff.1 hk).1
theorem StrsAt.wrote {B b : Nat} {l0 m : List UInt8} {w w' : World} {v : Value} {l : List ByteArray} (h : StrsAt w v l) (h0 : BOk B b l0 w) (hw : Wrote B b m w w') : StrsAt w' v l := by
  obtain ⟨_, c, hb⟩ := h0.row
  refine h.keep fun k cs _ hk => ?_
  rw [hk]
  refine hw.others k _ hk (fun e => ?_) (fun c fz e => ?_)
  · have e' : k = b := by simpa using e
    subst e'
    rw [hk] at hb
    simp at hb
  · simp at e
theorem StrsAt.shape {w : World} {v : Value} {l : List ByteArray} (h : StrsAt w v l) : ∃ a c, v = .slice a l.length c := by
  rcases h.2 with ⟨e, h0⟩ | ⟨g', cap', cur, e, _⟩
  · exact ⟨none, 0, by rw [e, h0]⟩
  · exact ⟨_, _, e⟩
theorem StrsAt.cell {w : World} {a : Option Addr} {c : Nat} {l : List ByteArray} (h : StrsAt w (.slice a l.length c) l) (i : Nat) (hi : i < l.length) : ∃ g, a = some ⟨g, 0, none⟩ ∧ w.cell? ⟨g, i, none⟩ = some (.string l[i]) := by
  have h' : w.ownsRow 0 9 1 (.slice a l.length c) l.length (l.map Value.string) := h
  rcases h.2 with ⟨e, h0⟩ | ⟨g', cap', cur, e, _⟩
  · omega
  · simp only [Value.slice.injEq] at e
    obtain ⟨rfl, _, rfl⟩ := e
    refine ⟨g', rfl, ?_⟩
    rw [h'.cellAt i (by omega)]
    simp [hi]

/-- The texts' bytes. -/
def bytesL (l : List ByteArray) : List (List UInt8) := l.map (·.data.toList)
theorem bytesL_snoc (l : List ByteArray) (s : ByteArray) : bytesL (l ++ [s]) = bytesL l ++ [s.data.toList] := by simp [bytesL]
theorem bytesL_nil (l : List ByteArray) : bytesL l = [] ↔ l = [] := by simp [bytesL]
theorem sJoin_le (sep : List UInt8) (a b : List (List UInt8)) : (sJoin sep a).length ≤ (sJoin sep (a ++ b)).length := by
  cases a with
  | nil => simp [sJoin]
  | cons x r => simp only [sJoin, List.cons_append, List.flatMap_append, List.length_append]; omega

set_option maxRecDepth 100000 in
set_option maxHeartbeats 1000000 in
theorem swrite_spec (B b : Nat) (pre : List UInt8) (l : List ByteArray) (v : Value) (sep : ByteArray) (w : World) (h : BOk B b pre w) (hl : StrsAt w v l) (hn : l.length ≤ 1000000000) (hlen : pre.length + (sJoin sep.data.toList (bytesL l)).length ≤ 140737488355328) :
    Calls Tryz.prog 39 #[.pointer (some ⟨b, 0, none⟩), v, .string sep] w fun e w' => e = .returned (.tuple #[]) ∧ Wrote B b (pre ++ sJoin sep.data.toList (bytesL l)) w w' := by
  have H0 := Lib.hid h
  have HL := Lib.hid hl
  have HLEN := Lib.hid hlen
  obtain ⟨a, c, rfl⟩ := hl.shape
  clear h hl hlen
  go_enter Tryz.func39, Tryz.ntmps39
  go_wp2_with fail
  go_loopw [10] (fun y wr => ∃ i : Nat, y = .int .i64 i ∧ i ≤ l.length ∧ Hid (Wrote B b (pre ++ sJoin sep.data.toList (bytesL (l.take i))) w wr)) (fun y _ => l.length - (intOf y).toNat)
  case atStart => exact ⟨0, rfl, by omega, Lib.hid (by simp only [List.take_zero, bytesL, List.map_nil, sJoin, List.append_nil]; exact .refl H0.out)⟩
  case round =>
    obtain ⟨i, rfl, hi, hw⟩ := hrel
    by_cases hgo : i < l.length
    · have hbd : Hid (pre.length + (sJoin sep.data.toList (bytesL (l.take (i + 1)))).length ≤ 140737488355328) := Lib.hid (by
        have h1 := sJoin_le sep.data.toList (bytesL (l.take (i + 1))) (bytesL (l.drop (i + 1)))
        have h3 : bytesL (l.take (i + 1)) ++ bytesL (l.drop (i + 1)) = bytesL l := by unfold bytesL; rw [← List.map_append, List.take_append_drop]
        rw [h3] at h1
        have h2 := HLEN.out
        omega)
      have hsn : Hid (sJoin sep.data.toList (bytesL (l.take (i + 1))) = sJoin sep.data.toList (bytesL (l.take i)) ++ (if i = 0 then l[i].data.toList else sep.data.toList ++ l[i].data.toList)) := Lib.hid (by
        rw [List.take_succ_eq_append_getElem hgo, bytesL_snoc, sJoin_snoc]
        congr 1
        have : bytesL (l.take i) = [] ↔ i = 0 := by rw [bytesL_nil]; constructor
                                                    · intro h; rcases List.take_eq_nil_iff.1 h with h | h
                                                      · exact h
                                                      · rw [h] at hgo; simp at hgo
                                                    · rintro rfl; rfl
        by_cases h0 : i = 0
        · rw [if_pos h0, if_pos (this.2 h0)]
        · rw [if_neg h0, if_neg (fun h => h0 (this.1 h))])
      obtain ⟨g, e, hcl⟩ := (HL.out.wrote H0.out hw.out).cell i hgo
      subst e
      have hsz : l[i].data.toList.length = l[i].size := by simp
      have hsp : sep.data.toList.length = sep.size := by simp
      have HZ := Lib.hid hsz; have HP := Lib.hid hsp
      clear hsz hsp
      by_cases h0 : i = 0
      · subst h0
        have HQ := Lib.hid (fun w' (hw' : Wrote B b (pre ++ sJoin sep.data.toList (bytesL (l.take 0))) w w') => text_spec B b _ l[0] w' hw'.ok (by
          have h1 := hbd.out
          rw [hsn.out, if_pos rfl] at h1
          have h2 := HZ.out
          simp only [List.length_append] at h1 ⊢
          omega))
        go_wp2_with fail
        refine (HQ.out _ hw.out).mono ?_
        rintro e w2 ⟨rfl, hw2⟩
        have W2 := Lib.hid (hw.out.trans hw2)
        clear hw2
        go_wp2_with fail
        go_roundw
        case rel => exact ⟨0 + 1, by go_num, by omega, Lib.hid (by have h := W2.out; rw [hsn.out, if_pos (by trivial), ← List.append_assoc]; exact h)⟩
        case measure => simp [intOf]; omega
      · have hi0 : decide ((0 : Int) < i) = true := decide_eq_true (by omega)
        have HT := Lib.hid (text_spec B b _ sep wr hw.out.ok (by
          have h1 := hbd.out
          rw [hsn.out, if_neg h0] at h1
          have h2 := HP.out
          simp only [List.length_append] at h1 ⊢
          omega))
        go_wp2_with fail
        refine HT.out.mono ?_
        rintro e w2 ⟨rfl, hw2⟩
        have W2 := Lib.hid (hw.out.trans hw2)
        clear hw2
        have HQ := Lib.hid (text_spec B b _ l[i] w2 W2.out.ok (by
          have h1 := hbd.out
          rw [hsn.out, if_neg h0] at h1
          have h2 := HP.out
          have h3 := HZ.out
          simp only [List.length_append] at h1 ⊢
          omega))
        go_wp2_with fail
        refine HQ.out.mono ?_
        rintro e w3 ⟨rfl, hw3⟩
        have W3 := Lib.hid (W2.out.trans hw3)
        clear hw3
        go_wp2_with fail
        go_roundw
        case rel => exact ⟨i + 1, by go_num, by omega, Lib.hid (by have h := W3.out; rw [hsn.out, if_neg h0]; simpa only [List.append_assoc] using h)⟩
        case measure => simp [intOf]; omega
    · obtain rfl : i = l.length := by omega
      have hw' := hw.out
      rw [List.take_length] at hw'
      have W1 := Lib.hid hw'
      clear hw'
      go_wp2_with fail
      go_end0
      exact ⟨rfl, W1.out⟩

/-- A new builder. -/
theorem builder_new (w : World) : ∃ W, W = w.alloc (.cells #[.pointer none, .slice none 0 0] 80) ∧ Hid (BOk w.heap.size w.heap.size [] W) ∧ Hid (Below w.heap.size w W) :=
  ⟨_, rfl, Lib.hid ⟨Lib.IsBuilderF.of (Lib.fresh_isBuilder 80 5 w), by rw [World.size_alloc]; omega⟩, Lib.hid (below_new _ _)⟩

end Go.Proofs.YtcojnkjcbopnbaaGreatDoor
