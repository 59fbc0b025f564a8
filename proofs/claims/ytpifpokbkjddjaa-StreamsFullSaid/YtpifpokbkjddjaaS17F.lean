/- The law's short of layer 17: files that are cut. -/
import Derived.Test.YtpifpokbkjddjaaFilB
import Derived.Test.YtpifpokbkjddjaaS17B
namespace Go.Proofs.Ytpifpokbkjddjaa
open Go.RowKit

def cutF (f : ByteArray × ByteArray) : ByteArray × ByteArray := if 60 < f.2.size then (f.1, f.2.extract 0 60) else f
def shortL (l : List (ByteArray × ByteArray)) : List (ByteArray × ByteArray) := (l.take 6).map cutF
theorem cut_size (f : ByteArray × ByteArray) : (cutF f).2.size ≤ 60 := by
  unfold cutF
  split
  · show (f.2.extract 0 60).size ≤ 60
    rw [ByteArray.size_extract]
    omega
  · omega
theorem short_len (l : List (ByteArray × ByteArray)) : (shortL l).length ≤ 6 := by
  unfold shortL
  rw [List.length_map, List.length_take]
  omega
theorem short_size (l : List (ByteArray × ByteArray)) : ∀ f ∈ shortL l, f.2.size ≤ 1000 := fun f hf => by
  obtain ⟨g, _, rfl⟩ := List.mem_map.1 hf
  have := cut_size g
  omega
theorem take_map {l : List (ByteArray × ByteArray)} {i : Nat} (h : i < l.length) : (l.take (i + 1)).map cutF = (l.take i).map cutF ++ [cutF l[i]] := by
  rw [List.take_succ_eq_append_getElem h, List.map_append]
  rfl
def zeroF : Array Value := #[.string ⟨#[]⟩, .string ⟨#[]⟩]
theorem file_one (x y : ByteArray) : (#[.string x, .string y] : Array Value).all (·.oneCell') = true := by
  simp
  exact ⟨rfl, rfl⟩
/-- What short tells. -/
def ShortOut (l : List (ByteArray × ByteArray)) (w : World) (e : Ending) (w' : World) : Prop := ∃ p c, e = .returned (.slice p (shortL l).length c) ∧ Hid (w'.ownsRow w.heap.size 42 2 (.slice p (shortL l).length c) (shortL l).length (fvals (shortL l))) ∧ Below w.heap.size w w'
theorem below_rowF {B : Nat} {w w' : World} (h : Below B w w') {b : Nat} (hb : B ≤ b) (q : Array Value) : Below B w (w'.setRow b q) :=
  ⟨h.os, h.tape, h.output, by have := h.size; simpa [World.setRow] using this, fun k hk => by rw [Go.setRow_other _ _ _ _ (by omega)]; exact h.block k hk⟩

set_option maxRecDepth 100000 in
set_option maxHeartbeats 2000000 in
theorem short_any (l : List (ByteArray × ByteArray)) (p : Option Addr) (n cap : Nat) (w : World) (hf : FilesAt w p n cap l) :
    Calls Try.prog 6 #[.slice p n cap] w (ShortOut l w) := by
  have HI := info_parts17
  have H := Lib.hid hf.cells
  have HN : Hid (n = l.length) := Lib.hid hf.len
  have hroom := hf.room
  have hn : n ≤ 9223372036854775807 := Nat.le_trans hf.room hf.bound
  clear hf
  go_enter Try.func6, Try.ntmps6
  go_wp2_with fail
  have B0 := Lib.hid (below_new w (.cells #[] 42))
  have O0 := Lib.hid (new_own w)
  go_loopw [3, 4, 5] (fun x y z wr => z = z ∧ ∃ (i : Nat) (q : Option Addr) (c : Nat), x = .slice q i c ∧ y = .int .i64 i ∧ i ≤ 6 ∧ i ≤ n ∧ Hid (wr.ownsRow w.heap.size 42 2 (.slice q i c) i (fvals ((l.take i).map cutF)) ∧ Below w.heap.size w wr)) (fun _ y _ _ => 6 - (intOf y).toNat)
  case atStart => exact ⟨rfl, 0, _, 0, rfl, rfl, by omega, by omega, Lib.hid ⟨O0.out, B0.out⟩⟩
  case round =>
    obtain ⟨_, i, q, c, rfl, rfl, hi6, hin, HA⟩ := hrel
    by_cases hlt : i < n ∧ i < 6
    · have hil : i < l.length := by rw [← HN.out]; exact hlt.1
      have HT := Lib.hid (take_map hil)
      have hx := List.getElem?_eq_getElem hil
      obtain ⟨x, hxe⟩ : ∃ x, x = l[i] := ⟨_, rfl⟩
      rw [← hxe] at hx HT
      obtain ⟨b, off, rfl, hc⟩ : ∃ b off, p = some ⟨b, off, none⟩ ∧ ∀ i f, l[i]? = some f → w.cell? ⟨b, off + i * 2, none⟩ = some (.string f.1) ∧ w.cell? ⟨b, off + i * 2 + 1, none⟩ = some (.string f.2) := by
        rcases H.out with h0 | h0
        · rw [h0] at hil; simp at hil
        · exact h0
      obtain ⟨e0, e1⟩ := hc i x hx
      have key : ∀ (o : Nat) (v : Value), w.cell? ⟨b, o, none⟩ = some v → wr.cell? ⟨b, o, none⟩ = some v := fun o v hv => by
        rw [HA.out.2.cell (p := ⟨b, o, none⟩) (cell_lt hv)]; exact hv
      have c0 := key _ _ e0
      have c1 := key _ _ e1
      obtain ⟨x1, x2⟩ := x
      dsimp only at c0 c1
      have dt1 : decide ((i : Int) < (n : Int)) = true := decide_eq_true (by omega)
      have dt2 : decide ((i : Int) < 6) = true := decide_eq_true (by omega)
      have hlt1 := hlt.1
      have hlt2 := hlt.2
      clear hc hx hxe e0 e1 key hlt hil
      go_upto_region 6 with (refine wpList_store_row rfl 42 (.tmp 5) (.tmp 20) rfl wr.heap.size #[.string x1, .string x2] rfl rfl 42 zeroF (heap_alloc_last _ _) HI rfl (file_one _ _) ?_)
      obtain ⟨W2, hW2, hrow, B2⟩ : ∃ W2, W2 = (wr.alloc (.cells zeroF 42)).setRow wr.heap.size #[.string x1, .string x2] ∧ Hid (W2.heap[wr.heap.size]? = some (.cells #[.string x1, .string x2] 42 (0, 0))) ∧ Hid (Below wr.heap.size wr W2) :=
        ⟨_, rfl, Lib.hid (setRow_heap _ _ _ _ _ _ (heap_alloc_last wr _)), Lib.hid (below_rowF (below_new wr _) (Nat.le_refl _) _)⟩
      change Code.wp _ _ _ _ ((wr.alloc (.cells zeroF 42)).setRow wr.heap.size #[.string x1, .string x2])
      rw [← hW2]
      clear hW2 c0 c1
      have OW2 := Lib.hid (own_below HA.out.1 B2.out)
      have BW2 := Lib.hid (Below.step HA.out.2 B2.out)
      have a0 : W2.cell? ⟨wr.heap.size, 0, none⟩ = some (.string x1) := by rw [cell_of_row _ _ 0 _ _ (0, 0) hrow.out]; rfl
      have a1 : W2.cell? ⟨wr.heap.size, 1, none⟩ = some (.string x2) := by rw [cell_of_row _ _ 1 _ _ (0, 0) hrow.out]; rfl
      have f1 : W2.frozen? ⟨wr.heap.size, 1, none⟩ = false := frozen_of_row _ _ 1 _ _ hrow.out
      have hbase : w.heap.size ≤ wr.heap.size := HA.out.2.size
      by_cases hbig : 60 < x2.size
      · have d3 : decide ((60 : Int) < (x2.size : Int)) = true := decide_eq_true (by omega)
        have HT2 : Hid ((l.take (i + 1)).map cutF = (l.take i).map cutF ++ [(x1, x2.extract 0 60)]) := Lib.hid (by rw [HT.out]; unfold cutF; rw [if_pos hbig])
        have s1 : (60 : Nat) ≤ x2.size := by omega
        have B3 : Hid (Below wr.heap.size W2 (W2.setCell ⟨wr.heap.size, 1, none⟩ (.string (x2.extract 0 60)))) := Lib.hid ((Below.refl _ _).setCell (p := ⟨wr.heap.size, 1, none⟩) (Nat.le_refl _) _)
        have g0 : (W2.setCell ⟨wr.heap.size, 1, none⟩ (.string (x2.extract 0 60))).cell? ⟨wr.heap.size, 0, none⟩ = some (.string x1) := by rw [cell_other (by simp)]; exact a0
        have g1 : (W2.setCell ⟨wr.heap.size, 1, none⟩ (.string (x2.extract 0 60))).cell? ⟨wr.heap.size, 1, none⟩ = some (.string (x2.extract 0 60)) := cell_same a1
        have OW3 : Hid ((W2.setCell ⟨wr.heap.size, 1, none⟩ (.string (x2.extract 0 60))).ownsRow w.heap.size 42 2 (.slice q i c) i (fvals ((l.take i).map cutF))) := Lib.hid (by
          have h := own_low HA.out.1
          refine ⟨OW2.out.1, ?_⟩
          rcases OW2.out.2 with h0 | ⟨g, cp, cur, hv, hg, hh, rest⟩
          · exact Or.inl h0
          · refine Or.inr ⟨g, cp, cur, hv, hg, ?_, rest⟩
            injection hv with hv1
            have := (h _ hv1).1
            rw [heap_setCell_other _ _ _ _ (by show g ≠ wr.heap.size; simp only at this; omega)]
            exact hh)
        have BW3 := Lib.hid (BW2.out.trans (B3.out.mono hbase))
        have HONE : Hid (FilesAt ((W2.setCell ⟨wr.heap.size, 1, none⟩ (.string (x2.extract 0 60))).alloc (.cells #[.string x1, .string (x2.extract 0 60)] 42)) (some ⟨W2.heap.size, 0, none⟩) 1 1 [(x1, x2.extract 0 60)]) := Lib.hid (by
          have h := files_one (W2.setCell ⟨wr.heap.size, 1, none⟩ (.string (x2.extract 0 60))) (x1, x2.extract 0 60)
          rw [World.size_setCell] at h
          exact h)
        have OW4 := Lib.hid (OW3.out.alloc (.cells #[.string x1, .string (x2.extract 0 60)] 42))
        have BW4 := Lib.hid (BW3.out.alloc (by have := BW3.out.size; omega) (.cells #[.string x1, .string (x2.extract 0 60)] 42))
        have hbs : w.heap.size ≤ ((W2.setCell ⟨wr.heap.size, 1, none⟩ (.string (x2.extract 0 60))).alloc (.cells #[.string x1, .string (x2.extract 0 60)] 42)).heap.size := BW4.out.size
        have hk1 : i + 1 ≤ 1000000 := by omega
        clear hbig HT OW2 BW2 B2 hrow OW3 BW3 B3
        go_wp2_with (at_builtin; (refine wp_append_files rfl _ _ rfl w.heap.size _ (.slice q i c) i ((l.take i).map cutF) _ 1 1 [(x1, x2.extract 0 60)] rfl OW4.out rfl HONE.out hk1 hbs ?_; intro p' c' w3 ho hg))
        have OW5 := Lib.hid ho.out
        have B5 := Lib.hid (BW4.out.grown hg.out BW4.out.size (fun j hj => (OW4.out.lt j hj).1))
        clear ho hg
        go_wp2_with fail
        go_roundw
        case rel => exact ⟨trivial, i + 1, p', c', rfl, by go_num, by omega, by omega, Lib.hid ⟨by rw [HT2.out]; exact OW5.out, B5.out⟩⟩
        case measure => simp [intOf]; omega
      · have d3 : decide ((60 : Int) < (x2.size : Int)) = false := decide_eq_false (by omega)
        have HT2 : Hid ((l.take (i + 1)).map cutF = (l.take i).map cutF ++ [(x1, x2)]) := Lib.hid (by rw [HT.out]; unfold cutF; rw [if_neg hbig])
        have HONE := Lib.hid (files_one W2 (x1, x2))
        have OW4 := Lib.hid (OW2.out.alloc (.cells #[.string x1, .string x2] 42))
        have BW4 := Lib.hid (BW2.out.alloc (by have := BW2.out.size; omega) (.cells #[.string x1, .string x2] 42))
        have hbs : w.heap.size ≤ (W2.alloc (.cells #[.string x1, .string x2] 42)).heap.size := BW4.out.size
        have hk1 : i + 1 ≤ 1000000 := by omega
        clear hbig HT f1
        go_wp2_with (at_builtin; (refine wp_append_files rfl _ _ rfl w.heap.size _ (.slice q i c) i ((l.take i).map cutF) _ 1 1 [(x1, x2)] rfl OW4.out rfl HONE.out hk1 hbs ?_; intro p' c' w3 ho hg))
        have OW5 := Lib.hid ho.out
        have B5 := Lib.hid (BW4.out.grown hg.out BW4.out.size (fun j hj => (OW4.out.lt j hj).1))
        clear ho hg
        go_wp2_with fail
        go_roundw
        case rel => exact ⟨trivial, i + 1, p', c', rfl, by go_num, by omega, by omega, Lib.hid ⟨by rw [HT2.out]; exact OW5.out, B5.out⟩⟩
        case measure => simp [intOf]; omega
    · have HP : Hid (shortL l = (l.take i).map cutF ∧ i = (shortL l).length) := Lib.hid (by
        unfold shortL
        have h := HN.out
        have e : l.take 6 = l.take i := by
          rcases Nat.lt_or_ge i 6 with h6 | h6
          · have hin2 : n ≤ i := Nat.le_of_not_lt fun h => hlt ⟨h, h6⟩
            rw [List.take_of_length_le (by omega), List.take_of_length_le (by omega)]
          · rw [show i = 6 from by omega]
        rw [e]
        exact ⟨rfl, by rw [List.length_map, List.length_take]; omega⟩)
      have fin : ShortOut l w (.returned (.slice q i c)) wr := ⟨q, c, by rw [← HP.out.2], Lib.hid (by rw [← HP.out.2, HP.out.1]; exact HA.out.1), HA.out.2⟩
      have FIN := Lib.hid fin
      clear fin
      have hstop : (¬ i < n ∧ decide ((i : Int) < n) = false ∧ decide (i < n) = false) ∨ (decide ((i : Int) < n) = true ∧ decide (i < n) = true ∧ ¬ i < 6 ∧ decide ((i : Int) < 6) = false ∧ decide (i < 6) = false) := by
        by_cases h1 : i < n
        · exact Or.inr ⟨decide_eq_true (by omega), decide_eq_true h1, by omega, decide_eq_false (by omega), decide_eq_false (by omega)⟩
        · exact Or.inl ⟨h1, decide_eq_false (by omega), decide_eq_false h1⟩
      clear hlt
      rcases hstop with ⟨g1, d1, d2⟩ | ⟨d1, d2, g1, d3, d4⟩
      all_goals
        go_wp2_with fail
        go_ret
        exact FIN.out
end Go.Proofs.Ytpifpokbkjddjaa
