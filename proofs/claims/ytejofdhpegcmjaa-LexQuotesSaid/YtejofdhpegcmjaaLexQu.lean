/- Quote, the program's and the document's: walks. -/
import Derived.Test.YtejofdhpegcmjaaLexQb
namespace Go.Proofs.Ytejofdhpegcmjaa
open Go.RowKit

def quoteB (c : UInt8) : List UInt8 := if c.toNat = 92 ∨ c.toNat = 34 then [92, c] else if c.toNat = 10 then [92, 110] else if c.toNat = 9 then [92, 116] else [c]
def quoteTo (l : List UInt8) : List UInt8 := [34] ++ l.flatMap quoteB
def quoteL (l : List UInt8) : List UInt8 := quoteTo l ++ [34]
theorem quoteB_len (c : UInt8) : (quoteB c).length ≤ 2 := by unfold quoteB; split <;> (try split) <;> (try split) <;> simp
theorem quoteTo_len : ∀ l : List UInt8, (quoteTo l).length ≤ 2 * l.length + 1 := by
  intro l
  have h : ∀ l : List UInt8, (l.flatMap quoteB).length ≤ 2 * l.length := by
    intro l
    induction l with
    | nil => simp
    | cons c t ih =>
      have := quoteB_len c
      simp only [List.flatMap_cons, List.length_append, List.length_cons]
      omega
  have := h l
  unfold quoteTo
  simp only [List.length_append, List.length_cons, List.length_nil]
  omega
theorem quoteTo_snoc (l : List UInt8) (c : UInt8) : quoteTo (l ++ [c]) = quoteTo l ++ quoteB c := by
  unfold quoteTo
  simp
theorem bytes_below (w : World) (s : ByteArray) : Below w.heap.size w (Lib.bytesWorld w 5 s) := by
  refine ⟨?_, ?_, ?_, by rw [Lib.bytesWorld_size]; omega, fun i hi => Lib.bytesWorld_at_old w 5 s i hi⟩
  · unfold Lib.bytesWorld World.freeze; split <;> rfl
  · unfold Lib.bytesWorld World.freeze; split <;> rfl
  · unfold Lib.bytesWorld World.freeze; split <;> rfl
theorem take_snoc (s : ByteArray) (k : Nat) (h : k < s.size) : s.data.toList.take (k + 1) = s.data.toList.take k ++ [s[k]] := by
  rw [List.take_succ_eq_append_getElem (by simpa using h)]; rfl

/-- Where writing a text stands. -/
structure QuI (b b2 : Nat) (w W wr : World) (v : Value) (l : List UInt8) : Prop where
  bd : Bd b v l wr
  keep : wr.heap[b2]? = W.heap[b2]?
  below : Below w.heap.size w wr
theorem QuI.step {b b2 : Nat} {w W wr w' : World} {v v' : Value} {l l' : List UInt8} {c : Array Value} {n : Nat} (h : QuI b b2 w W wr v l) (hb : w.heap.size ≤ b) (hb2 : b < b2) (hW : W.heap[b2]? = some (.cells c 5 (n, n + 1))) (hBd : Bd b v' l' w') (hk : BKeep b v wr w') : QuI b b2 w W w' v' l' := by
  obtain ⟨pv, hpv, hV⟩ := h.bd
  have h2 : wr.heap[b2]? = some (.cells c 5 (n, n + 1)) := h.keep.trans hW
  have hlt : b2 < wr.heap.size := (Array.getElem?_eq_some_iff.1 h2).1
  exact ⟨hBd, (hk.block b2 hlt (by omega) (hV.other h2)).trans h.keep, h.below.trans (hk.below hV hb)⟩

def QuoteSaid (l : List UInt8) (w : World) (e : Ending) (w' : World) : Prop := e = .returned (.string ⟨(quoteL l).toArray⟩) ∧ Below w.heap.size w w'
set_option maxRecDepth 100000 in
set_option maxHeartbeats 1000000 in
theorem quote_spec (s : ByteArray) (hs : s.size ≤ 3000) (w : World) :
    Calls Try.prog 13 #[.string s] w (QuoteSaid s.data.toList w) := by
  have hcv : ∀ w, (convert 9 36 (.string s)).run Try.prog w = .ok (.slice (some ⟨w.heap.size, 0, none⟩) s.size (grownCap w s.size 0 5)) (Lib.bytesWorld w 5 s) :=
    fun w => Lib.run_convert_string_bytes w _ _ _ s Try.underlying9 Try.underlying36 Try.underlying5
  have HBy := Lib.hid (fun b v l c w h (hl : l.length ≤ 100000) => bbyte b v l c w h hl)
  have HTx := Lib.hid (fun b v l s w h (hl : l.length + s.size ≤ 100000) => btext b v l s w h hl)
  have HSt := Lib.hid (fun b v l w h => bstring b v l w h)
  go_enter Try.func13, Try.ntmps13
  go_wp2_with fail
  obtain ⟨b, hb⟩ : ∃ b, b = w.heap.size := ⟨_, rfl⟩
  have Q0 : Hid (Bd b (.slice none 0 0) [] (w.alloc (.cells #[.pointer none, .slice none 0 0] 38))) := Lib.hid ⟨_, Or.inl rfl, by rw [hb]; exact heap_alloc_last w _, World.ownsRow_nil _ _ _ _⟩
  have B0 := Lib.hid (below_new w (.cells #[.pointer none, .slice none 0 0] 38))
  rw [← hb]
  have HB := Lib.hid hb
  clear hb
  refine (HBy.out b _ [] 34 _ Q0.out (by simp)).mono ?_
  rintro e w1 ⟨rfl, ⟨v1, Q1⟩, k1⟩
  have HQ1 := Lib.hid Q1
  have HB1 : Hid (Below w.heap.size w w1) := Lib.hid (by obtain ⟨pv, _, hV⟩ := Q0.out; exact B0.out.trans (k1.below hV (by rw [HB.out]; exact Nat.le_refl _)))
  clear Q1 k1
  go_wp2_with fail
  clear hcv
  obtain ⟨W, hW⟩ : ∃ W, W = Lib.bytesWorld w1 5 s := ⟨_, rfl⟩
  obtain ⟨b2, hb2⟩ : ∃ b2, b2 = w1.heap.size := ⟨_, rfl⟩
  have HWr : Hid (W.heap[b2]? = some (.cells (Lib.bytesCells w1 5 s) 5 ((Lib.bytesCells w1 5 s).size, (Lib.bytesCells w1 5 s).size + 1))) := Lib.hid (by rw [hW, hb2]; exact Lib.bytesWorld_at_new w1 _ s)
  have HWc : Hid (∀ j (h : j < s.size), W.cell? ⟨b2, j, none⟩ = some (.int .u8 s[j].toNat)) := Lib.hid (fun j h => by
    rw [hW, hb2, Lib.bytesWorld_cell w1 _ s j h]
    have hj : j < s.data.toList.length := by rw [← Lib.size_eq]; exact h
    rw [List.getD_eq_getElem?_getD, List.getElem?_eq_getElem hj]
    rfl)
  have hbb : b < b2 := by obtain ⟨_, _, hV⟩ := HQ1.out; rw [hb2]; exact hV.lt
  have I0 : Hid (QuI b b2 w W W v1 (quoteTo [])) := Lib.hid (by
    obtain ⟨pv, hpv, hV⟩ := HQ1.out
    have hbw : Below w1.heap.size w1 W := by rw [hW]; exact bytes_below w1 s
    refine ⟨⟨pv, hpv, by rw [hbw.block b hV.lt]; exact hV.row, hV.own.kept (row := none) ⟨hbw.os, hbw.tape, hbw.output, hbw.size, fun k hk _ => hbw.block k hk⟩ (by cases hv : v1.ownBlock <;> simp)⟩, rfl, Below.step HB1.out hbw⟩)
  have hbw0 : w.heap.size ≤ b := by have := HB.out; omega
  rw [← hW, ← hb2]
  clear hW hb2 HB HB1 HQ1 Q0 B0
  go_loopw [10] (fun y wr => ∃ (k : Nat) (v : Value), y = .int .i64 k ∧ k ≤ s.size ∧ Hid (QuI b b2 w W wr v (quoteTo (s.data.toList.take k)))) (fun y _ => s.size - (intOf y).toNat)
  case atStart => exact ⟨0, v1, rfl, Nat.zero_le _, I0⟩
  case round =>
    clear I0
    obtain ⟨k, v, rfl, hk, hI⟩ := hrel
    have hlen := quoteTo_len (s.data.toList.take k)
    have htl : (s.data.toList.take k).length ≤ k := List.length_take_le _ _
    by_cases hlt : k < s.size
    · have c0 : wr.cell? ⟨b2, k, none⟩ = some (.int .u8 s[k].toNat) := by rw [World.cell?_of_block (a := ⟨b2, k, none⟩) hI.out.keep]; exact HWc.out k hlt
      have HTs := Lib.hid (take_snoc s k hlt)
      have HSn := Lib.hid (quoteTo_snoc (s.data.toList.take k) s[k])
      obtain ⟨c, hc⟩ : ∃ c, c = s[k] := ⟨_, rfl⟩
      rw [← hc] at c0 HTs HSn
      clear hc
      by_cases h1 : c.toNat = 92 ∨ c.toNat = 34
      · have HQb : Hid (quoteB c = [92, c]) := Lib.hid (by unfold quoteB; rw [if_pos h1])
        have hd : ((c.toNat : Int) == 92) = true ∨ (((c.toNat : Int) == 92) = false ∧ ((c.toNat : Int) == 34) = true) := by
          rcases h1 with h | h
          · exact Or.inl (by rw [h]; rfl)
          · exact Or.inr ⟨by rw [h]; rfl, by rw [h]; rfl⟩
        clear h1
        rcases hd with d1 | ⟨d1, d2⟩
        all_goals
          go_wp2_with fail
          refine (HBy.out b v _ 92 _ hI.out.bd (by omega)).mono ?_
          rintro e w2 ⟨rfl, ⟨v2, Q2⟩, k2⟩
          have I2 := Lib.hid (hI.out.step hbw0 hbb HWr.out Q2 k2)
          clear Q2 k2
          go_wp2_with fail
          refine (HBy.out b v2 _ c _ I2.out.bd (by simp; omega)).mono ?_
          rintro e w3 ⟨rfl, ⟨v3, Q3⟩, k3⟩
          have I3 := Lib.hid (I2.out.step hbw0 hbb HWr.out Q3 k3)
          clear Q3 k3
          go_wp2_with fail
          go_roundw
          case rel => exact ⟨k + 1, v3, by go_num, by omega, Lib.hid (by rw [HTs.out, HSn.out, HQb.out]; have := I3.out; rw [List.append_assoc] at this; exact this)⟩
          case measure => simp [intOf]; omega
      · have d1 : ((c.toNat : Int) == 92) = false := by simp; omega
        have d2 : ((c.toNat : Int) == 34) = false := by simp; omega
        by_cases h2 : c.toNat = 10
        · have HQb : Hid (quoteB c = [92, 110]) := Lib.hid (by unfold quoteB; rw [if_neg h1, if_pos h2])
          have d3 : ((c.toNat : Int) == 10) = true := by rw [h2]; rfl
          clear h1 h2
          go_wp2_with fail
          refine (HTx.out b v _ ⟨#[92, 110]⟩ _ hI.out.bd (by show _ + 2 ≤ _; omega)).mono ?_
          rintro e w2 ⟨rfl, ⟨v2, Q2⟩, k2⟩
          have I2 := Lib.hid (hI.out.step hbw0 hbb HWr.out Q2 k2)
          clear Q2 k2
          go_wp2_with fail
          go_roundw
          case rel => exact ⟨k + 1, v2, by go_num, by omega, Lib.hid (by rw [HTs.out, HSn.out, HQb.out]; exact I2.out)⟩
          case measure => simp [intOf]; omega
        · have d3 : ((c.toNat : Int) == 10) = false := by simp; omega
          by_cases h3 : c.toNat = 9
          · have HQb : Hid (quoteB c = [92, 116]) := Lib.hid (by unfold quoteB; rw [if_neg h1, if_neg h2, if_pos h3])
            have d4 : ((c.toNat : Int) == 9) = true := by rw [h3]; rfl
            clear h1 h2 h3
            go_wp2_with fail
            refine (HTx.out b v _ ⟨#[92, 116]⟩ _ hI.out.bd (by show _ + 2 ≤ _; omega)).mono ?_
            rintro e w2 ⟨rfl, ⟨v2, Q2⟩, k2⟩
            have I2 := Lib.hid (hI.out.step hbw0 hbb HWr.out Q2 k2)
            clear Q2 k2
            go_wp2_with fail
            go_roundw
            case rel => exact ⟨k + 1, v2, by go_num, by omega, Lib.hid (by rw [HTs.out, HSn.out, HQb.out]; exact I2.out)⟩
            case measure => simp [intOf]; omega
          · have HQb : Hid (quoteB c = [c]) := Lib.hid (by unfold quoteB; rw [if_neg h1, if_neg h2, if_neg h3])
            have d4 : ((c.toNat : Int) == 9) = false := by simp; omega
            clear h1 h2 h3
            go_wp2_with fail
            refine (HBy.out b v _ c _ hI.out.bd (by omega)).mono ?_
            rintro e w2 ⟨rfl, ⟨v2, Q2⟩, k2⟩
            have I2 := Lib.hid (hI.out.step hbw0 hbb HWr.out Q2 k2)
            clear Q2 k2
            go_wp2_with fail
            go_roundw
            case rel => exact ⟨k + 1, v2, by go_num, by omega, Lib.hid (by rw [HTs.out, HSn.out, HQb.out]; exact I2.out)⟩
            case measure => simp [intOf]; omega
    · have hke : k = s.size := by omega
      subst hke
      have HTk : Hid (s.data.toList.take s.size = s.data.toList) := Lib.hid (List.take_of_length_le (by simp))
      go_wp2_with fail
      refine (HBy.out b v _ 34 _ hI.out.bd (by omega)).mono ?_
      rintro e w2 ⟨rfl, ⟨v2, Q2⟩, k2⟩
      have I2 := Lib.hid (hI.out.step hbw0 hbb HWr.out Q2 k2)
      clear Q2 k2
      go_wp2_with fail
      refine (HSt.out b v2 _ _ I2.out.bd).mono ?_
      rintro e w3 ⟨rfl, b3⟩
      have HB3 := Lib.hid (I2.out.below.trans (b3.mono hbw0))
      clear b3
      go_wp2_with fail
      go_ret
      exact ⟨by unfold quoteL; rw [HTk.out]; rfl, HB3.out⟩

theorem app_list (a b : ByteArray) : (a ++ b).data.toList = a.data.toList ++ b.data.toList := by rw [ByteArray.data_append]; simp
theorem text_eq {a b : ByteArray} (h : a.data.toList = b.data.toList) : a = b := by
  cases a; cases b
  congr 1
  exact Array.toList_inj.1 h
theorem one_at (s : ByteArray) (k : Nat) (h : k < s.size) : (s.extract k (k + 1)).data.toList = [s[k]] := by
  rw [extract_list, drop_at (by simpa using h)]
  have e : k + 1 - k = 1 := by omega
  rw [e]
  rfl
set_option maxRecDepth 100000 in
set_option maxHeartbeats 1000000 in
theorem rquote_spec (s : ByteArray) (hs : s.size ≤ 3000) (w : World) :
    Calls Try.prog 15 #[.string s] w fun e w' => e = .returned (.string ⟨(quoteL s.data.toList).toArray⟩) ∧ w' = w := by
  go_enter Try.func15, Try.ntmps15
  go_wp2_with fail
  go_loop [3, 4] (fun x y => ∃ (k : Nat) (t : ByteArray), x = .string t ∧ y = .int .i64 k ∧ k ≤ s.size ∧ t.size ≤ 7000 ∧ Hid (t.data.toList = quoteTo (s.data.toList.take k))) (fun _ y => s.size - (intOf y).toNat)
  case atStart => exact ⟨0, ⟨#[34]⟩, rfl, rfl, Nat.zero_le _, by show 1 ≤ 7000; omega, Lib.hid rfl⟩
  case round =>
    obtain ⟨k, t, rfl, rfl, hk, hts, hT⟩ := hrel
    have hlen := quoteTo_len (s.data.toList.take k)
    have htl : (s.data.toList.take k).length ≤ k := List.length_take_le _ _
    have htz : t.size ≤ 2 * k + 1 := by rw [Lib.size_eq, hT.out]; omega
    by_cases hlt : k < s.size
    · have HTs := Lib.hid (take_snoc s k hlt)
      have HSn := Lib.hid (quoteTo_snoc (s.data.toList.take k) s[k])
      have HOne := Lib.hid (one_at s k hlt)
      have hx1 : (s.extract k (k + 1)).size = 1 := by rw [ByteArray.size_extract]; omega
      clear hlen htl
      by_cases h2 : s[k].toNat = 10
      · have HQb : Hid (quoteB s[k] = [92, 110]) := Lib.hid (by unfold quoteB; rw [if_neg (by omega), if_pos h2])
        have d3 : ((s[k].toNat : Int) == 10) = true := by rw [h2]; rfl
        clear h2
        go_wp2_with fail
        go_round
        case rel => exact ⟨k + 1, _, rfl, by go_num, by omega, by rw [ByteArray.size_append]; show _ + 2 ≤ _; omega, Lib.hid (by rw [HTs.out, HSn.out, HQb.out, app_list, hT.out])⟩
        case measure => simp [intOf]; omega
      have d3 : ((s[k].toNat : Int) == 10) = false := by simp; omega
      by_cases h3 : s[k].toNat = 9
      · have HQb : Hid (quoteB s[k] = [92, 116]) := Lib.hid (by unfold quoteB; rw [if_neg (by omega), if_neg h2, if_pos h3])
        have d4 : ((s[k].toNat : Int) == 9) = true := by rw [h3]; rfl
        clear h2 h3
        go_wp2_with fail
        go_round
        case rel => exact ⟨k + 1, _, rfl, by go_num, by omega, by rw [ByteArray.size_append]; show _ + 2 ≤ _; omega, Lib.hid (by rw [HTs.out, HSn.out, HQb.out, app_list, hT.out])⟩
        case measure => simp [intOf]; omega
      have d4 : ((s[k].toNat : Int) == 9) = false := by simp; omega
      by_cases h1 : s[k].toNat = 92 ∨ s[k].toNat = 34
      · have HQb : Hid (quoteB s[k] = [92, s[k]]) := Lib.hid (by unfold quoteB; rw [if_pos h1])
        have hd : ((s[k].toNat : Int) == 92) = true ∨ (((s[k].toNat : Int) == 92) = false ∧ ((s[k].toNat : Int) == 34) = true) := by
          rcases h1 with h | h
          · exact Or.inl (by rw [h]; rfl)
          · exact Or.inr ⟨by rw [h]; rfl, by rw [h]; rfl⟩
        clear h1 h2 h3
        rcases hd with d1 | ⟨d1, d2⟩
        all_goals
          go_wp2_with fail
          go_round
          case rel => exact ⟨k + 1, _, rfl, by go_num, by omega, by rw [ByteArray.size_append, ByteArray.size_append, hx1]; show _ + 1 + 1 ≤ _; omega, Lib.hid (by rw [HTs.out, HSn.out, HQb.out, app_list, app_list, hT.out, HOne.out]; simp)⟩
          case measure => simp [intOf]; omega
      · have HQb : Hid (quoteB s[k] = [s[k]]) := Lib.hid (by unfold quoteB; rw [if_neg h1, if_neg h2, if_neg h3])
        have d1 : ((s[k].toNat : Int) == 92) = false := by simp; omega
        have d2 : ((s[k].toNat : Int) == 34) = false := by simp; omega
        clear h1 h2 h3
        go_wp2_with fail
        go_round
        case rel => exact ⟨k + 1, _, rfl, by go_num, by omega, by rw [ByteArray.size_append, hx1]; omega, Lib.hid (by rw [HTs.out, HSn.out, HQb.out, app_list, hT.out, HOne.out])⟩
        case measure => simp [intOf]; omega
    · have hke : k = s.size := by omega
      subst hke
      have HTk : Hid (s.data.toList.take s.size = s.data.toList) := Lib.hid (List.take_of_length_le (by simp))
      clear hlen htl
      go_wp2_with fail
      go_ret
      exact ⟨ret_str (text_eq (by rw [app_list, hT.out, HTk.out]; rfl)), rfl⟩
end Go.Proofs.Ytejofdhpegcmjaa
