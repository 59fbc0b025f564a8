/- ere.put, putParts: walks. -/
import Derived.Test.YtdhndfmblmcapaaDoorTT
import Derived.Test.YtdhndfmblmcapaaDoorCan
namespace Go.Proofs.YtdhndfmblmcapaaDoor
open Go.RowKit

def parL (b : Bool) (l : List UInt8) : List UInt8 := if b = true then 40 :: l ++ [41] else l
def partsL (g : Tree → List UInt8) (sep : List UInt8) (ks : List Int) : List Tree → List UInt8
  | [] => []
  | t :: r => parL (among ks t.k) (g t) ++ r.flatMap fun u => sep ++ parL (among ks u.k) (g u)
theorem partsL_snoc (g : Tree → List UInt8) (sep : List UInt8) (ks : List Int) (l : List Tree) (t : Tree) :
    partsL g sep ks (l ++ [t]) = partsL g sep ks l ++ (if l.length = 0 then [] else sep) ++ parL (among ks t.k) (g t) := by
  cases l with
  | nil => simp [partsL]
  | cons a r => simp [partsL]
theorem partsL_le (g : Tree → List UInt8) (sep : List UInt8) (ks : List Int) (l r : List Tree) : (partsL g sep ks l).length ≤ (partsL g sep ks (l ++ r)).length := by
  cases l with
  | nil => simp [partsL]
  | cons a l => simp [partsL]
/-- A tree's text. -/
def showN : Nat → Tree → List UInt8
  | 0, _ => []
  | n + 1, t =>
    if t.k = 1 then setL t.f else if t.k = 2 then [94] else if t.k = 3 then [36]
    else if t.k = 4 then partsL (showN n) [] [5] t.kids else if t.k = 5 then partsL (showN n) [124] [] t.kids
    else if t.k = 6 then partsL (showN n) [] [5, 4, 0] t.kids ++ timesL t.lo t.hi else []

/-- A builder that holds those bytes. -/
structure BOk (B b : Nat) (l : List UInt8) (w : World) : Prop where
  is : Lib.IsBuilderF 43 5 B b (Lib.byteCells l) w
  le : B ≤ w.heap.size
/-- What writing leaves. -/
structure Wrote (B b : Nat) (l : List UInt8) (w w' : World) : Prop where
  ok : BOk B b l w'
  below : Below B w w'
  others : Lib.OthersKept 5 (some b) w w'
theorem Wrote.trans {B b : Nat} {l m : List UInt8} {w w1 w2 : World} (h : Wrote B b l w w1) (g : Wrote B b m w1 w2) : Wrote B b m w w2 := ⟨g.ok, h.below.trans g.below, h.others.trans g.others⟩
theorem Wrote.refl {B b : Nat} {l : List UInt8} {w : World} (h : BOk B b l w) : Wrote B b l w w := ⟨h, Below.refl _ _, Lib.OthersKept.refl _ _ _⟩
theorem BOk.alloc {B b : Nat} {l : List UInt8} {w : World} (h : BOk B b l w) (o : Obj) : BOk B b l (w.alloc o) := ⟨h.is.alloc o, by have := h.le; rw [World.size_alloc]; omega⟩
theorem Wrote.alloc {B b : Nat} {l : List UInt8} {w w1 : World} (h : Wrote B b l w w1) (o : Obj) : Wrote B b l w (w1.alloc o) := ⟨h.ok.alloc o, h.below.alloc h.ok.le o, h.others.alloc o⟩
theorem BOk.row {B b : Nat} {l : List UInt8} {w : World} (h : BOk B b l w) : B ≤ b ∧ ∃ c, w.heap[b]? = some (.cells c 43 (0, 0)) := by
  rcases h.is with ⟨h1, v, h2, _⟩ | ⟨h1, v, h2, _⟩
  · exact ⟨h1, _, h2⟩
  · exact ⟨h1, _, h2⟩
theorem Box.wrote {B b g : Nat} {l0 l : List UInt8} {w w' : World} {cs : Array Value} (h : Box w g cs) (h0 : BOk B b l0 w) (hw : Wrote B b l w w') : Box w' g cs := by
  obtain ⟨_, c, hb⟩ := h0.row
  refine ⟨hw.others g _ h.row (fun e => ?_) (fun c fz e => ?_)⟩
  · have e' : g = b := by simpa using e
    subst e'
    rw [h.row] at hb
    simp at hb
  · simp at e
theorem IntsAt.wrote {B b : Nat} {l0 l : List UInt8} {w w' : World} {v : Value} {ks : List Int} (h : IntsAt w v ks) (h0 : BOk B b l0 w) (hw : Wrote B b l w w') : IntsAt w' v ks := by
  obtain ⟨_, c, hb⟩ := h0.row
  refine h.keep fun k cs hk => ?_
  rw [hk]
  refine hw.others k _ hk (fun e => ?_) (fun c fz e => ?_)
  · have e' : k = b := by simpa using e
    subst e'
    rw [hk] at hb
    simp at hb
  · simp at e
theorem At.wrote {B b : Nat} {l : List UInt8} {w w' : World} {t : Tree} {cs : Array Value} (h : At w (fun k => k < B) t cs) (hw : Wrote B b l w w') : At w' (fun k => k < B) t cs := h.keep fun k hk _ => hw.below.block k hk
theorem SlAt.wrote {B b : Nat} {l : List UInt8} {w w' : World} {ts : List Tree} {v : Value} (h : SlAt w (fun k => k < B) ts v) (hw : Wrote B b l w w') : SlAt w' (fun k => k < B) ts v := h.keep fun k hk _ => hw.below.block k hk

theorem byte_spec (B b : Nat) (l : List UInt8) (c : UInt8) (w : World) (h : BOk B b l w) (hlen : l.length + 1 ≤ 140737488355328) :
    Calls Tryd.prog 29 #[.pointer (some ⟨b, 0, none⟩), .int .u8 c.toNat] w fun e w' => e = .returned .nilIface ∧ Wrote B b (l ++ [c]) w w' := by
  refine (writeByte_k B b (Lib.byteCells l) c.toNat w h.is (by rw [Lib.byteCells_length]; exact hlen) h.le).mono ?_
  rintro e w' ⟨rfl, h1, h2, h3⟩
  exact ⟨rfl, ⟨Or.inr (by rw [byteCells_snoc]; exact h1), by have := h2.size; have := h.le; omega⟩, h2, h3⟩
theorem text_spec (B b : Nat) (l : List UInt8) (s : ByteArray) (w : World) (h : BOk B b l w) (hlen : l.length + s.size ≤ 140737488355328) :
    Calls Tryd.prog 31 #[.pointer (some ⟨b, 0, none⟩), .string s] w fun e w' => e = .returned (.tuple #[.int .i64 s.size, .nilIface]) ∧ Wrote B b (l ++ s.data.toList) w w' := by
  refine (writeString_k B b (Lib.byteCells l) s w h.is (by rw [Lib.byteCells_length]; exact hlen) h.le).mono ?_
  rintro e w' ⟨rfl, h1, h2, h3⟩
  refine ⟨rfl, ⟨Or.inr ?_, by have := h2.size; have := h.le; omega⟩, h2, h3⟩
  have e : Lib.byteCells (l ++ s.data.toList) = Lib.byteCells l ++ Lib.strCells s := by simp [Lib.byteCells, Lib.strCells]
  rw [e]
  exact h1

/-- What put does at trees of so many storeys. -/
def PutsAt (n : Nat) : Prop :=
  ∀ (B b : Nat) (within : Int) (t : Tree) (cs : Array Value) (ks : List Int) (kv : Value) (l : List UInt8) (w : World), Good n within t → At w (fun k => k < B) t cs → IntsAt w kv ks → BOk B b l w → l.length + (parL (among ks t.k) (showN n t)).length ≤ 140737488355328 →
    Calls Tryd.prog 19 #[.pointer (some ⟨b, 0, none⟩), .agg cs, kv] w fun e w' => e = .returned (.tuple #[]) ∧ Wrote B b (l ++ parL (among ks t.k) (showN n t)) w w'

set_option maxRecDepth 100000 in
set_option maxHeartbeats 1000000 in
theorem putParts_spec (n : Nat) (hP : PutsAt n) (B b : Nat) (within : Int) (ts : List Tree) (sl : Value) (sep : ByteArray) (ks : List Int) (kv : Value) (l : List UInt8) (w : World) (hg : ∀ t, t ∈ ts → Good n within t) (hat : SlAt w (fun k => k < B) ts sl) (hk : IntsAt w kv ks)
    (h : BOk B b l w) (hlen : l.length + (partsL (showN n) sep.data.toList ks ts).length ≤ 140737488355328) (hts : ts.length ≤ 1000000) :
    Calls Tryd.prog 33 #[.pointer (some ⟨b, 0, none⟩), sl, .string sep, kv] w fun e w' => e = .returned (.tuple #[]) ∧ Wrote B b (l ++ partsL (showN n) sep.data.toList ks ts) w w' := by
  have HP := Lib.hid hP
  have HG := Lib.hid hg
  have HK := Lib.hid hk
  have HLEN := Lib.hid hlen
  have H0 := Lib.hid h
  have HS := Lib.hid hat
  obtain ⟨a, c, rfl⟩ := hat.shape
  clear hP hg hk hlen h hat
  go_enter Tryd.func33, Tryd.ntmps33
  go_wp2_with fail
  go_loopw [12] (fun y wr => ∃ i : Nat, y = .int .i64 i ∧ i ≤ ts.length ∧ Hid (Wrote B b (l ++ partsL (showN n) sep.data.toList ks (ts.take i)) w wr)) (fun y _ => ts.length - (intOf y).toNat)
  case atStart => exact ⟨0, rfl, by omega, Lib.hid (by rw [List.take_zero]; simp only [partsL, List.append_nil]; exact .refl H0.out)⟩
  case round =>
    obtain ⟨i, rfl, hi, hw⟩ := hrel
    by_cases hgo : i < ts.length
    · rcases HS.out with ⟨e, _⟩ | ⟨hl, b', off, c', cs, e, hc, hBb, h8, hat⟩
      · rw [e] at hgo; exact absurd hgo (by simp)
      · simp only [Value.slice.injEq] at e
        obtain ⟨rfl, _, rfl⟩ := e
        have hT := hat i hgo
        have hT' := hT.wrote hw.out
        obtain ⟨ai, ci, e, _⟩ := hT.opens
        have h8i := (h8 i hgo).keep (hw.out.below.block b' hBb)
        rw [e] at h8i hT'
        have hsn := partsL_snoc (showN n) sep.data.toList ks (ts.take i) ts[i]
        have htk : ts.take (i + 1) = ts.take i ++ [ts[i]] := by rw [List.take_succ_eq_append_getElem hgo]
        have hli : (ts.take i).length = i := by rw [List.length_take]; omega
        rw [hli, ← htk] at hsn
        have hbd : Hid (l.length + (partsL (showN n) sep.data.toList ks (ts.take (i + 1))).length ≤ 140737488355328) := Lib.hid (by
          have h1 := partsL_le (showN n) sep.data.toList ks (ts.take (i + 1)) (ts.drop (i + 1))
          rw [List.take_append_drop] at h1
          have h2 := HLEN.out
          omega)
        have hsn := Lib.hid hsn
        obtain ⟨c0, c1, c2, c3, c4, c5, c6, c7⟩ := eight_re h8i
        have A1 := Lib.hid hT'
        clear h8i e hT hT' h8 hat htk hli
        go_upto_region 3 with (fail)
        obtain ⟨V, hV, hY, hBV, hszV⟩ := re_box wr (reC ts[i].k ts[i].f ts[i].lo ts[i].hi (.slice ai ts[i].kids.length ci))
        have hwV := hw.out.alloc (.cells (reC ts[i].k ts[i].f ts[i].lo ts[i].hi (.slice ai ts[i].kids.length ci)) 27)
        change Code.wp _ _ _ _ (wr.alloc (Obj.cells (reC ts[i].k ts[i].f ts[i].lo ts[i].hi (.slice ai ts[i].kids.length ci)) 27))
        rw [← hV] at hwV ⊢
        clear hV c0 c1 c2 c3 c4 c5 c6 c7
        have W1 := Lib.hid hwV
        have A2 := Lib.hid (A1.out.after hBV.out)
        clear hwV
        by_cases h0 : i = 0
        · subst h0
          obtain ⟨c0, c1, c2, c3, c4, c5, c6, c7⟩ := eight_re hY.out.eight
          have HQ := Lib.hid (HP.out B b within ts[0] _ ks kv _ V (HG.out _ (List.getElem_mem hgo)) A2.out (HK.out.wrote H0.out W1.out) W1.out.ok (by
            have h1 := hbd.out
            rw [hsn.out] at h1
            simp only [List.length_append] at h1 ⊢
            omega))
          go_wp2_with fail
          refine HQ.out.mono ?_
          rintro e w2 ⟨rfl, hw2⟩
          have W2 := Lib.hid (W1.out.trans hw2)
          clear hw2
          go_wp2_with fail
          go_roundw
          case rel => exact ⟨0 + 1, by go_num, by omega, Lib.hid (by have h := W2.out; rw [hsn.out]; simpa [List.append_assoc] using h)⟩
          case measure => simp [intOf]; omega
        · have hi0 : decide ((0 : Int) < i) = true := decide_eq_true (by omega)
          have HT := Lib.hid (text_spec B b _ sep V W1.out.ok (by
            have h1 := hbd.out
            rw [hsn.out, if_neg h0] at h1
            have h2 : sep.data.toList.length = sep.size := by simp
            simp only [List.length_append, h2] at h1 ⊢
            omega))
          go_wp2_with fail
          refine HT.out.mono ?_
          rintro e w2 ⟨rfl, hw2⟩
          have W2 := Lib.hid (W1.out.trans hw2)
          have Y2 := Lib.hid (hY.out.wrote W1.out.ok hw2)
          have A3 := Lib.hid (A2.out.wrote hw2)
          clear hw2
          obtain ⟨c0, c1, c2, c3, c4, c5, c6, c7⟩ := eight_re Y2.out.eight
          have HQ := Lib.hid (HP.out B b within ts[i] _ ks kv _ w2 (HG.out _ (List.getElem_mem hgo)) A3.out (HK.out.wrote H0.out W2.out) W2.out.ok (by
            have h1 := hbd.out
            rw [hsn.out, if_neg h0] at h1
            simp only [List.length_append] at h1 ⊢
            omega))
          have hn0 := Lib.hid h0
          clear h0
          go_wp2_with fail
          refine HQ.out.mono ?_
          rintro e w3 ⟨rfl, hw3⟩
          have W3 := Lib.hid (W2.out.trans hw3)
          clear hw3
          go_wp2_with fail
          go_roundw
          case rel => exact ⟨i + 1, by go_num, by omega, Lib.hid (by have h := W3.out; rw [hsn.out, if_neg hn0.out]; simpa [List.append_assoc] using h)⟩
          case measure => simp [intOf]; omega
    · obtain rfl : i = ts.length := by omega
      go_wp2_with fail
      go_end0
      exact ⟨rfl, by have h := hw.out; rwa [List.take_length] at h⟩
/-- Making memory keeps a builder. -/
theorem BOk.after {B b : Nat} {l : List UInt8} {w w' : World} (h : BOk B b l w) (hb : Below w.heap.size w w') : Wrote B b l w w' := by
  have keep : ∀ {k : Nat} {o : Obj}, w.heap[k]? = some o → w'.heap[k]? = some o := fun hk => (hb.block _ (Array.getElem?_eq_some_iff.1 hk).1).trans hk
  have own : ∀ {v : Value} {n : Nat} {xs : List Value}, w.ownsRowF B 5 1 v n xs → w'.ownsRowF B 5 1 v n xs := by
    intro v n xs ⟨h1, h2⟩
    refine ⟨h1, ?_⟩
    rcases h2 with h2 | ⟨g, cap, cur, fz, e, hB, hc, h3⟩
    · exact Or.inl h2
    · exact Or.inr ⟨g, cap, cur, fz, e, hB, keep hc, h3⟩
  refine ⟨⟨?_, by have := h.le; have := hb.size; omega⟩, hb.mono h.le, fun k o hk _ _ => keep hk⟩
  rcases h.is with ⟨h1, v, h2, h3, h4⟩ | ⟨h1, v, h2, h3, h4⟩
  · exact Or.inl ⟨h1, v, keep h2, own h3, h4⟩
  · exact Or.inr ⟨h1, v, keep h2, own h3, h4⟩

/-- Behind the look at the kinds: no brackets. -/
def PlainAt (n : Nat) : Prop :=
  ∀ (B b : Nat) (within : Int) (t : Tree) (cs : Array Value) (ks : List Int) (kv : Value) (l : List UInt8) (w : World), Good n within t → At w (fun k => k < B) t cs → IntsAt w kv ks → BOk B b l w → among ks t.k = false → l.length + (showN n t).length ≤ 140737488355328 →
    Calls Tryd.prog 19 #[.pointer (some ⟨b, 0, none⟩), .agg cs, kv] w fun e w' => e = .returned (.tuple #[]) ∧ Wrote B b (l ++ showN n t) w w'

set_option maxRecDepth 100000 in
set_option maxHeartbeats 1000000 in
theorem put_any (n : Nat) (hp : PlainAt n) : PutsAt n := by
  intro B b within t cs ks kv l w hg hat hk h hlen
  cases hka : among ks t.k with
  | false =>
    rw [hka] at hlen
    exact hp B b within t cs ks kv l w hg hat hk h hka hlen
  | true =>
    rw [hka] at hlen
    have e1 : parL true (showN n t) = 40 :: showN n t ++ [41] := rfl
    have hlen' : l.length + (showN n t).length + 2 ≤ 140737488355328 := by rw [e1] at hlen; simp at hlen; omega
    have HP := Lib.hid hp
    have HG := Lib.hid hg
    have A0 := Lib.hid hat
    have HKA := Lib.hid hka
    have HK := Lib.hid hk
    obtain ⟨a, c, rfl, _⟩ := hat.opens
    clear hp hg hat hka hk hlen e1
    go_enter Tryd.func19, Tryd.ntmps19
    go_upto_region 1 with (fail)
    obtain ⟨W, hW, hX, hB, _⟩ := re_box w (reC t.k t.f t.lo t.hi (.slice a t.kids.length c))
    rw [← hW]
    clear hW
    have W0 := Lib.hid (h.after hB.out)
    have A1 := Lib.hid (A0.out.after hB.out)
    have HI := Lib.hid (isOf_spec t.k t.f t.lo t.hi (.slice a t.kids.length c) kv ks W (HK.out.after hB.out))
    rw [HKA.out] at HI
    obtain ⟨c0, c1, c2, c3, c4, c5, c6, c7⟩ := eight_re hX.out.eight
    go_wp2_with fail
    refine HI.out.mono ?_
    rintro e w1 ⟨rfl, b1⟩
    have W1 := Lib.hid (W0.out.trans (W0.out.ok.after b1))
    have X1 := Lib.hid (hX.out.after b1)
    have A2 := Lib.hid (A1.out.after b1)
    clear b1 c0 c1 c2 c3 c4 c5 c6 c7
    have HB1 := Lib.hid (byte_spec B b l 40 w1 W1.out.ok (by omega))
    go_wp2_with fail
    refine HB1.out.mono ?_
    rintro e w2 ⟨rfl, hw2⟩
    have W2 := Lib.hid (W1.out.trans hw2)
    have X2 := Lib.hid (X1.out.wrote W1.out.ok hw2)
    have A3 := Lib.hid (A2.out.wrote hw2)
    clear hw2
    have HQ := Lib.hid (HP.out B b within t _ [] (.slice none 0 0) _ w2 HG.out A3.out (ints_none _) W2.out.ok rfl (by rw [List.length_append]; simp only [List.length_singleton]; omega))
    obtain ⟨c0, c1, c2, c3, c4, c5, c6, c7⟩ := eight_re X2.out.eight
    go_wp2_with fail
    refine HQ.out.mono ?_
    rintro e w3 ⟨rfl, hw3⟩
    have W3 := Lib.hid (W2.out.trans hw3)
    clear hw3
    have HB2 := Lib.hid (byte_spec B b _ 41 w3 W3.out.ok (by simp only [List.length_append, List.length_singleton]; omega))
    go_wp2_with fail
    refine HB2.out.mono ?_
    rintro e w4 ⟨rfl, hw4⟩
    have W4 := Lib.hid (W3.out.trans hw4)
    clear hw4
    go_wp2_with fail
    refine bodyPost_ret (results_none rfl _ _ _) rfl ?_
    exact ⟨rfl, by have h := W4.out; simpa [parL, List.append_assoc] using h⟩

set_option maxRecDepth 100000 in
theorem put_none (B b : Nat) (ks : List Int) (kv : Value) (l : List UInt8) (w : World) (a : Option Addr) (c : Nat) (hk : IntsAt w kv ks) (h : BOk B b l w) (hka : among ks 0 = false) :
    Calls Tryd.prog 19 #[.pointer (some ⟨b, 0, none⟩), .agg (reC 0 zero4 0 0 (.slice a 0 c)), kv] w fun e w' => e = .returned (.tuple #[]) ∧ Wrote B b (l ++ []) w w' := by
  go_enter Tryd.func19, Tryd.ntmps19
  go_upto_region 1 with (fail)
  obtain ⟨W, hW, hX, hB, _⟩ := re_box w (reC 0 zero4 0 0 (.slice a 0 c))
  rw [← hW]
  clear hW
  have W0 := Lib.hid (h.after hB.out)
  have HI := Lib.hid (isOf_spec 0 zero4 0 0 (.slice a 0 c) kv ks W (hk.after hB.out))
  rw [hka] at HI
  obtain ⟨c0, c1, c2, c3, c4, c5, c6, c7⟩ := eight_re hX.out.eight
  clear hka
  go_wp2_with fail
  refine HI.out.mono ?_
  rintro e w1 ⟨rfl, b1⟩
  have W1 := Lib.hid (W0.out.trans (W0.out.ok.after b1))
  have X1 := Lib.hid (hX.out.after b1)
  have B1 := Lib.hid (Below.step hB.out b1)
  clear b1 c0 c1 c2 c3 c4 c5 c6 c7
  obtain ⟨c0, c1, c2, c3, c4, c5, c6, c7⟩ := eight_re X1.out.eight
  go_wp2_with fail
  go_end0
  exact ⟨rfl, by rw [List.append_nil]; exact W1.out⟩

set_option maxRecDepth 100000 in
theorem put_beg (B b : Nat) (ks : List Int) (kv : Value) (l : List UInt8) (w : World) (a : Option Addr) (c : Nat) (hk : IntsAt w kv ks) (h : BOk B b l w) (hka : among ks 2 = false) (hlen : l.length + 1 ≤ 140737488355328) :
    Calls Tryd.prog 19 #[.pointer (some ⟨b, 0, none⟩), .agg (reC 2 zero4 0 0 (.slice a 0 c)), kv] w fun e w' => e = .returned (.tuple #[]) ∧ Wrote B b (l ++ [94]) w w' := by
  go_enter Tryd.func19, Tryd.ntmps19
  go_upto_region 1 with (fail)
  obtain ⟨W, hW, hX, hB, _⟩ := re_box w (reC 2 zero4 0 0 (.slice a 0 c))
  rw [← hW]
  clear hW
  have W0 := Lib.hid (h.after hB.out)
  have HI := Lib.hid (isOf_spec 2 zero4 0 0 (.slice a 0 c) kv ks W (hk.after hB.out))
  rw [hka] at HI
  obtain ⟨c0, c1, c2, c3, c4, c5, c6, c7⟩ := eight_re hX.out.eight
  clear hka
  go_wp2_with fail
  refine HI.out.mono ?_
  rintro e w1 ⟨rfl, b1⟩
  have W1 := Lib.hid (W0.out.trans (W0.out.ok.after b1))
  have X1 := Lib.hid (hX.out.after b1)
  have B1 := Lib.hid (Below.step hB.out b1)
  clear b1 c0 c1 c2 c3 c4 c5 c6 c7
  obtain ⟨c0, c1, c2, c3, c4, c5, c6, c7⟩ := eight_re X1.out.eight
  have HB1 := Lib.hid (byte_spec B b l 94 w1 W1.out.ok hlen)
  go_wp2_with fail
  refine HB1.out.mono ?_
  rintro e w2 ⟨rfl, hw2⟩
  have W2 := Lib.hid (W1.out.trans hw2)
  clear hw2
  go_wp2_with fail
  go_end0
  exact ⟨rfl, W2.out⟩

set_option maxRecDepth 100000 in
theorem put_end (B b : Nat) (ks : List Int) (kv : Value) (l : List UInt8) (w : World) (a : Option Addr) (c : Nat) (hk : IntsAt w kv ks) (h : BOk B b l w) (hka : among ks 3 = false) (hlen : l.length + 1 ≤ 140737488355328) :
    Calls Tryd.prog 19 #[.pointer (some ⟨b, 0, none⟩), .agg (reC 3 zero4 0 0 (.slice a 0 c)), kv] w fun e w' => e = .returned (.tuple #[]) ∧ Wrote B b (l ++ [36]) w w' := by
  go_enter Tryd.func19, Tryd.ntmps19
  go_upto_region 1 with (fail)
  obtain ⟨W, hW, hX, hB, _⟩ := re_box w (reC 3 zero4 0 0 (.slice a 0 c))
  rw [← hW]
  clear hW
  have W0 := Lib.hid (h.after hB.out)
  have HI := Lib.hid (isOf_spec 3 zero4 0 0 (.slice a 0 c) kv ks W (hk.after hB.out))
  rw [hka] at HI
  obtain ⟨c0, c1, c2, c3, c4, c5, c6, c7⟩ := eight_re hX.out.eight
  clear hka
  go_wp2_with fail
  refine HI.out.mono ?_
  rintro e w1 ⟨rfl, b1⟩
  have W1 := Lib.hid (W0.out.trans (W0.out.ok.after b1))
  have X1 := Lib.hid (hX.out.after b1)
  have B1 := Lib.hid (Below.step hB.out b1)
  clear b1 c0 c1 c2 c3 c4 c5 c6 c7
  obtain ⟨c0, c1, c2, c3, c4, c5, c6, c7⟩ := eight_re X1.out.eight
  have HB1 := Lib.hid (byte_spec B b l 36 w1 W1.out.ok hlen)
  go_wp2_with fail
  refine HB1.out.mono ?_
  rintro e w2 ⟨rfl, hw2⟩
  have W2 := Lib.hid (W1.out.trans hw2)
  clear hw2
  go_wp2_with fail
  go_end0
  exact ⟨rfl, W2.out⟩

set_option maxRecDepth 100000 in
theorem put_set (f : Nat → Nat) (hf : Fits f) (B b : Nat) (ks : List Int) (kv : Value) (l : List UInt8) (w : World) (a : Option Addr) (c : Nat) (hk : IntsAt w kv ks) (h : BOk B b l w) (hka : among ks 1 = false) (hlen : l.length + (setL f).length ≤ 140737488355328) :
    Calls Tryd.prog 19 #[.pointer (some ⟨b, 0, none⟩), .agg (reC 1 f 0 0 (.slice a 0 c)), kv] w fun e w' => e = .returned (.tuple #[]) ∧ Wrote B b (l ++ setL f) w w' := by
  have HS := Lib.hid (fun w => setText_spec f hf w)
  go_enter Tryd.func19, Tryd.ntmps19
  go_upto_region 1 with (fail)
  obtain ⟨W, hW, hX, hB, _⟩ := re_box w (reC 1 f 0 0 (.slice a 0 c))
  rw [← hW]
  clear hW
  have W0 := Lib.hid (h.after hB.out)
  have HI := Lib.hid (isOf_spec 1 f 0 0 (.slice a 0 c) kv ks W (hk.after hB.out))
  rw [hka] at HI
  obtain ⟨c0, c1, c2, c3, c4, c5, c6, c7⟩ := eight_re hX.out.eight
  clear hka
  go_wp2_with fail
  refine HI.out.mono ?_
  rintro e w1 ⟨rfl, b1⟩
  have W1 := Lib.hid (W0.out.trans (W0.out.ok.after b1))
  have X1 := Lib.hid (hX.out.after b1)
  have B1 := Lib.hid (Below.step hB.out b1)
  clear b1 c0 c1 c2 c3 c4 c5 c6 c7
  obtain ⟨c0, c1, c2, c3, c4, c5, c6, c7⟩ := eight_re X1.out.eight
  go_wp2_with fail
  refine (HS.out _).mono ?_
  rintro e w2 ⟨t, rfl, ht, hsz, b2⟩
  have W2 := Lib.hid (W1.out.trans (W1.out.ok.after b2))
  clear b2
  have HT := Lib.hid (text_spec B b l t w2 W2.out.ok (by rw [← ht.out] at hlen; have : t.data.toList.length = t.size := by simp
                                                         omega))
  go_wp2_with fail
  refine HT.out.mono ?_
  rintro e w3 ⟨rfl, hw3⟩
  have W3 := Lib.hid (W2.out.trans hw3)
  clear hw3
  go_wp2_with fail
  go_end0
  exact ⟨rfl, by have h := W3.out; rw [ht.out] at h; exact h⟩

set_option maxRecDepth 100000 in
theorem put_cat (n : Nat) (hP : PutsAt n) (within : Int) (ts : List Tree) (sl : Value) (B b : Nat) (ks : List Int) (kv : Value) (l : List UInt8) (w : World) (hg : ∀ t, t ∈ ts → Good n within t) (hat : SlAt w (fun k => k < B) ts sl) (hts : ts.length ≤ 1000000) (hk : IntsAt w kv ks) (h : BOk B b l w) (hka : among ks 4 = false) (hlen : l.length + (partsL (showN n) [] [5] ts).length ≤ 140737488355328) :
    Calls Tryd.prog 19 #[.pointer (some ⟨b, 0, none⟩), .agg (reC 4 zero4 0 0 sl), kv] w fun e w' => e = .returned (.tuple #[]) ∧ Wrote B b (l ++ partsL (showN n) [] [5] ts) w w' := by
  have HP := Lib.hid hP
  have HG := Lib.hid hg
  have A0 := Lib.hid hat
  obtain ⟨a, c, rfl⟩ := hat.shape
  clear hP hg hat
  go_enter Tryd.func19, Tryd.ntmps19
  go_upto_region 1 with (fail)
  obtain ⟨W, hW, hX, hB, _⟩ := re_box w (reC 4 zero4 0 0 (.slice a ts.length c))
  rw [← hW]
  clear hW
  have W0 := Lib.hid (h.after hB.out)
  have HI := Lib.hid (isOf_spec 4 zero4 0 0 (.slice a ts.length c) kv ks W (hk.after hB.out))
  rw [hka] at HI
  obtain ⟨c0, c1, c2, c3, c4, c5, c6, c7⟩ := eight_re hX.out.eight
  clear hka
  go_wp2_with fail
  refine HI.out.mono ?_
  rintro e w1 ⟨rfl, b1⟩
  have W1 := Lib.hid (W0.out.trans (W0.out.ok.after b1))
  have X1 := Lib.hid (hX.out.after b1)
  have B1 := Lib.hid (Below.step hB.out b1)
  clear b1 c0 c1 c2 c3 c4 c5 c6 c7
  obtain ⟨c0, c1, c2, c3, c4, c5, c6, c7⟩ := eight_re X1.out.eight
  have bK := below_new w1 (.cells #[.int .i64 5] 3)
  have W2 := Lib.hid (W1.out.trans (W1.out.ok.after bK))
  have HQ := Lib.hid (putParts_spec n HP.out B b within ts _ ⟨#[]⟩ [5] (.slice (some ⟨w1.heap.size, 0, none⟩) 1 1) l _ HG.out ((A0.out.after B1.out).after bK) (Or.inr ⟨_, _, rfl, by decide, heap_alloc_last w1 _⟩) W2.out.ok hlen hts)
  clear bK
  go_wp2_with fail
  refine HQ.out.mono ?_
  rintro e w3 ⟨rfl, hw3⟩
  have W3 := Lib.hid (W2.out.trans hw3)
  clear hw3
  go_wp2_with fail
  go_end0
  exact ⟨rfl, W3.out⟩

set_option maxRecDepth 100000 in
theorem put_alt (n : Nat) (hP : PutsAt n) (within : Int) (ts : List Tree) (sl : Value) (B b : Nat) (ks : List Int) (kv : Value) (l : List UInt8) (w : World) (hg : ∀ t, t ∈ ts → Good n within t) (hat : SlAt w (fun k => k < B) ts sl) (hts : ts.length ≤ 1000000) (hk : IntsAt w kv ks) (h : BOk B b l w) (hka : among ks 5 = false) (hlen : l.length + (partsL (showN n) [124] [] ts).length ≤ 140737488355328) :
    Calls Tryd.prog 19 #[.pointer (some ⟨b, 0, none⟩), .agg (reC 5 zero4 0 0 sl), kv] w fun e w' => e = .returned (.tuple #[]) ∧ Wrote B b (l ++ partsL (showN n) [124] [] ts) w w' := by
  have HP := Lib.hid hP
  have HG := Lib.hid hg
  have A0 := Lib.hid hat
  obtain ⟨a, c, rfl⟩ := hat.shape
  clear hP hg hat
  go_enter Tryd.func19, Tryd.ntmps19
  go_upto_region 1 with (fail)
  obtain ⟨W, hW, hX, hB, _⟩ := re_box w (reC 5 zero4 0 0 (.slice a ts.length c))
  rw [← hW]
  clear hW
  have W0 := Lib.hid (h.after hB.out)
  have HI := Lib.hid (isOf_spec 5 zero4 0 0 (.slice a ts.length c) kv ks W (hk.after hB.out))
  rw [hka] at HI
  obtain ⟨c0, c1, c2, c3, c4, c5, c6, c7⟩ := eight_re hX.out.eight
  clear hka
  go_wp2_with fail
  refine HI.out.mono ?_
  rintro e w1 ⟨rfl, b1⟩
  have W1 := Lib.hid (W0.out.trans (W0.out.ok.after b1))
  have X1 := Lib.hid (hX.out.after b1)
  have B1 := Lib.hid (Below.step hB.out b1)
  clear b1 c0 c1 c2 c3 c4 c5 c6 c7
  obtain ⟨c0, c1, c2, c3, c4, c5, c6, c7⟩ := eight_re X1.out.eight
  have W2 := W1
  have HQ := Lib.hid (putParts_spec n HP.out B b within ts _ ⟨#[124]⟩ [] (.slice none 0 0) l w1 HG.out (A0.out.after B1.out) (ints_none _) W2.out.ok hlen hts)
  go_wp2_with fail
  refine HQ.out.mono ?_
  rintro e w3 ⟨rfl, hw3⟩
  have W3 := Lib.hid (W2.out.trans hw3)
  clear hw3
  go_wp2_with fail
  go_end0
  exact ⟨rfl, W3.out⟩

set_option maxRecDepth 100000 in
theorem put_rep (n : Nat) (hP : PutsAt n) (within : Int) (ts : List Tree) (sl : Value) (x : Int × Int) (hx : OkTimes x) (B b : Nat) (ks : List Int) (kv : Value) (l : List UInt8) (w : World) (hg : ∀ t, t ∈ ts → Good n within t) (hat : SlAt w (fun k => k < B) ts sl) (hts : ts.length ≤ 1000000) (hk : IntsAt w kv ks) (h : BOk B b l w) (hka : among ks 6 = false) (hlen : l.length + (partsL (showN n) [] [5, 4, 0] ts ++ timesL x.1 x.2).length ≤ 140737488355328) :
    Calls Tryd.prog 19 #[.pointer (some ⟨b, 0, none⟩), .agg (reC 6 zero4 x.1 x.2 sl), kv] w fun e w' => e = .returned (.tuple #[]) ∧ Wrote B b (l ++ (partsL (showN n) [] [5, 4, 0] ts ++ timesL x.1 x.2)) w w' := by
  rw [List.length_append] at hlen
  have HP := Lib.hid hP
  have HG := Lib.hid hg
  have A0 := Lib.hid hat
  have HTT := Lib.hid (fun w => timesText_spec x hx w)
  obtain ⟨a, c, rfl⟩ := hat.shape
  obtain ⟨lo, hi⟩ := x
  simp only at *
  clear hP hg hat hx
  go_enter Tryd.func19, Tryd.ntmps19
  go_upto_region 1 with (fail)
  obtain ⟨W, hW, hX, hB, _⟩ := re_box w (reC 6 zero4 lo hi (.slice a ts.length c))
  rw [← hW]
  clear hW
  have W0 := Lib.hid (h.after hB.out)
  have HI := Lib.hid (isOf_spec 6 zero4 lo hi (.slice a ts.length c) kv ks W (hk.after hB.out))
  rw [hka] at HI
  obtain ⟨c0, c1, c2, c3, c4, c5, c6, c7⟩ := eight_re hX.out.eight
  clear hka
  go_wp2_with fail
  refine HI.out.mono ?_
  rintro e w1 ⟨rfl, b1⟩
  have W1 := Lib.hid (W0.out.trans (W0.out.ok.after b1))
  have X1 := Lib.hid (hX.out.after b1)
  have B1 := Lib.hid (Below.step hB.out b1)
  clear b1 c0 c1 c2 c3 c4 c5 c6 c7
  obtain ⟨c0, c1, c2, c3, c4, c5, c6, c7⟩ := eight_re X1.out.eight
  have bK := below_new w1 (.cells #[.int .i64 5, .int .i64 4, .int .i64 0] 3)
  have W2 := Lib.hid (W1.out.trans (W1.out.ok.after bK))
  have X2 := Lib.hid (X1.out.after bK)
  have HQ := Lib.hid (putParts_spec n HP.out B b within ts _ ⟨#[]⟩ [5, 4, 0] (.slice (some ⟨w1.heap.size, 0, none⟩) 3 3) l _ HG.out ((A0.out.after B1.out).after bK) (Or.inr ⟨_, _, rfl, by decide, heap_alloc_last w1 _⟩) W2.out.ok (by
    have e : (⟨#[]⟩ : ByteArray).data.toList = [] := rfl
    rw [e]
    omega) hts)
  clear bK
  go_wp2_with fail
  refine HQ.out.mono ?_
  rintro e w3 ⟨rfl, hw3⟩
  have W3 := Lib.hid (W2.out.trans hw3)
  have X3 := Lib.hid (X2.out.wrote W2.out.ok hw3)
  clear hw3 c0 c1 c2 c3 c4 c5 c6 c7
  obtain ⟨c0, c1, c2, c3, c4, c5, c6, c7⟩ := eight_re X3.out.eight
  go_wp2_with fail
  refine (HTT.out _).mono ?_
  rintro e w4 ⟨t, rfl, ht, hsz, rfl⟩
  have HT := Lib.hid (text_spec B b _ t w4 W3.out.ok (by
    have h1 : t.data.toList.length = t.size := by simp
    rw [← ht.out, h1] at hlen
    rw [List.length_append]
    omega))
  go_wp2_with fail
  refine HT.out.mono ?_
  rintro e w5 ⟨rfl, hw5⟩
  have W5 := Lib.hid (W3.out.trans hw5)
  clear hw5
  go_wp2_with fail
  go_end0
  exact ⟨rfl, by have h := W5.out; rw [ht.out, List.append_assoc] at h; exact h⟩

theorem put_plain (n : Nat) (hP : PutsAt n) : PlainAt (n + 1) := by
  intro B b within t cs ks kv l w hg hat hk h hka hlen
  have hf := hg.1
  obtain ⟨sl, rfl, hsl⟩ := hat.open
  by_cases h1 : t.k = 1
  · have hs := hf.alone (by omega)
    obtain ⟨e1, e2⟩ := hf.times (by omega)
    have es : showN (n + 1) t = setL t.f := by simp [showN, h1]
    rw [hs] at hsl
    rw [es] at hlen ⊢
    rcases hsl with ⟨_, a, c, rfl⟩ | ⟨hl, _⟩
    · rw [h1] at hka ⊢; rw [e1, e2]; exact put_set t.f hf.fits B b ks kv l w a c hk h hka hlen
    · exact absurd rfl hl
  · rw [reC_congr t.k t.lo t.hi sl (g := zero4) (hf.set h1)]
    by_cases h6 : t.k = 6
    · obtain ⟨e1, e2, e3, e4⟩ := hf.rep h6
      have es : showN (n + 1) t = partsL (showN n) [] [5, 4, 0] t.kids ++ timesL t.lo t.hi := by simp [showN, h6]
      rw [es] at hlen ⊢
      have hgk := hg.2
      rw [h6] at hka hgk ⊢
      exact put_rep n hP 6 t.kids sl (t.lo, t.hi) ⟨e2, e3, e4⟩ B b ks kv l w hgk hsl hf.few hk h hka hlen
    · obtain ⟨e1, e2⟩ := hf.times h6
      rw [e1, e2]
      by_cases h4 : t.k = 4
      · have es : showN (n + 1) t = partsL (showN n) [] [5] t.kids := by simp [showN, h4]
        rw [es] at hlen ⊢
        have hgk := hg.2
        rw [h4] at hka hgk ⊢
        exact put_cat n hP 4 t.kids sl B b ks kv l w hgk hsl hf.few hk h hka hlen
      · by_cases h5 : t.k = 5
        · have es : showN (n + 1) t = partsL (showN n) [124] [] t.kids := by simp [showN, h5]
          rw [es] at hlen ⊢
          have hgk := hg.2
          rw [h5] at hka hgk ⊢
          exact put_alt n hP 5 t.kids sl B b ks kv l w hgk hsl hf.few hk h hka hlen
        · have hk0 := hf.k0
          have hk6 := hf.k6
          have hs := hf.alone (by omega)
          rw [hs] at hsl
          rcases hsl with ⟨_, a, c, rfl⟩ | ⟨hl, _⟩
          · have h3 : t.k = 0 ∨ t.k = 2 ∨ t.k = 3 := by omega
            rcases h3 with h3 | h3 | h3
            · have es : showN (n + 1) t = [] := by simp [showN, h3]
              rw [es]; rw [h3] at hka ⊢
              exact put_none B b ks kv l w a c hk h hka
            · have es : showN (n + 1) t = [94] := by simp [showN, h3]
              rw [es] at hlen ⊢; rw [h3] at hka ⊢
              exact put_beg B b ks kv l w a c hk h hka hlen
            · have es : showN (n + 1) t = [36] := by simp [showN, h3]
              rw [es] at hlen ⊢; rw [h3] at hka ⊢
              exact put_end B b ks kv l w a c hk h hka hlen
          · exact absurd rfl hl

theorem puts_all : ∀ n, PutsAt n
  | 0 => fun _ _ _ _ _ _ _ _ _ hg => hg.elim
  | n + 1 => put_any (n + 1) (put_plain n (puts_all n))
end Go.Proofs.YtdhndfmblmcapaaDoor
