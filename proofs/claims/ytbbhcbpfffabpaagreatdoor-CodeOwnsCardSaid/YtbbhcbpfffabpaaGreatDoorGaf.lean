/- Merged by program: T2Text, T2Strs, T2Cases. -/
import Derived.Test.YtbbhcbpfffabpaaGreatDoorRows
import Derived.WalkKit
import Derived.WalkSpells
import Derived.WalkLawsBesides
import Derived.Lib.Hide
import Derived.LoopTactic
import Derived.Laws.RangeAny
import Derived.Laws.OwnMore
import Derived.OwnWalk
import Derived.WalkSmall
import Derived.Lib.OthersKept
import Derived.Deep.QuietTactic
import Derived.BigQuiet
import Derived.Deep.DeepCutAuto
import Derived.Deep.CutBlock
import Derived.Lib.ConvBytes
import Derived.Laws.IdiomStrings
import Derived.Test.YtbbhcbpfffabpaaGreatDoorGae
/- Contracts of package text: behind, Len, Sub. -/
namespace Go.Proofs.YtbbhcbpfffabpaaGreatDoor.T2
open Go.Proofs.YtbbhcbpfffabpaaGreatDoor Go.Proofs
open Go.RowKit

theorem Below.drewN' {B : Nat} {a w : World} (h : Below B a w) (n : Nat) : Below B a (w.drewN n) := by
  induction n with
  | zero => exact h
  | succ n ih => exact ⟨ih.os, ih.tape, ih.output, ih.size, ih.block⟩

theorem Below.step {w w1 w2 : World} (h : Below w.heap.size w w1) (h2 : Below w1.heap.size w1 w2) : Below w.heap.size w w2 :=
  h.trans (h2.mono h.size)

theorem below_iter (w : World) (s : ByteArray) (pos : Nat) : Below w.heap.size w (w.iter s pos) := (Below.refl _ _).alloc (Nat.le_refl _) _

theorem ret_i64 {a b : Int} (h : a = b) : Ending.returned (.int .i64 a) = .returned (.int .i64 b) := by rw [h]
theorem ret_str {a b : ByteArray} (h : a = b) : Ending.returned (.string a) = .returned (.string b) := by rw [h]

set_option maxRecDepth 100000 in
set_option maxHeartbeats 400000 in
theorem behind_any (s : ByteArray) (m : Nat) (hs : s.size ≤ maxLen) (hm : m ≤ 9223372036854775807) (w : World) :
    Calls Tryz.prog 71 #[.string s, .int .i64 m] w fun e w' => e = .returned (.int .i64 (adv s 0 m)) ∧ Below w.heap.size w w' := by
  unfold maxLen at hs
  go_enter Tryz.func71, Tryz.ntmps71
  go_wp2
  go_loopw [1] (fun n w' => ∃ pos k : Nat, w' = w.iter s pos ∧ n = .int .i64 k ∧ Hid (adv s pos k = adv s 0 m) ∧ pos ≤ s.size ∧ k ≤ m) (fun _ w' => s.size - w'.iterPos w.heap.size)
  case atStart => exact ⟨0, m, rfl, rfl, Lib.hid rfl, by omega, by omega⟩
  case round =>
    obtain ⟨pos, k, rfl, rfl, hadv, hp, hk⟩ := hrel
    by_cases hlt : pos < s.size
    · have hnx : ∀ ty, (Instr.next (.pointer (some ⟨w.heap.size, 0, none⟩)) true ty).run Tryz.prog (w.iter s pos) = _ := fun ty => run_next_any w s pos ty hlt
      have hw1 := cw_le hlt
      have hw2 := cw_pos s pos
      by_cases hk0 : k = 0
      · subst hk0
        go_wp2
        go_ret
        exact ⟨ret_i64 (by rw [← hadv.out]; rfl), below_iter _ _ _⟩
      · have hb : ((k : Int) == 0) = false := by rw [beq_eq_false_iff_ne]; omega
        go_wp2
        go_roundw
        case rel =>
          refine ⟨pos + cw s pos, k - 1, rfl, by go_num, Lib.hid ?_, hw1, by omega⟩
          rw [← hadv.out]
          obtain ⟨j, rfl⟩ : ∃ j, k = j + 1 := ⟨k - 1, by omega⟩
          rw [adv_step hlt]; rfl
        case measure =>
          simp only [World.iterPos_iter]
          unfold cw at hw1 hw2
          omega
    · have hnx : ∀ ty, (Instr.next (.pointer (some ⟨w.heap.size, 0, none⟩)) true ty).run Tryz.prog (w.iter s pos) = _ := fun ty => run_next_end w s pos ty hlt
      go_wp2
      go_ret
      exact ⟨ret_i64 (by rw [← hadv.out, adv_end hlt]; omega), below_iter _ _ _⟩

theorem behind_int (s : ByteArray) (z : Int) (hs : s.size ≤ maxLen) (h0 : 0 ≤ z) (hz : z ≤ 9223372036854775807) (w : World) :
    Calls Tryz.prog 71 #[.string s, .int .i64 z] w fun e w' => e = .returned (.int .i64 (adv s 0 z.toNat)) ∧ Below w.heap.size w w' := by
  obtain ⟨m, rfl⟩ := Int.eq_ofNat_of_zero_le h0
  rw [Int.toNat_natCast]
  exact behind_any s m hs (by omega) w

set_option maxRecDepth 100000 in
set_option maxHeartbeats 400000 in
theorem len_any (s : ByteArray) (hs : s.size ≤ maxLen) (w : World) :
    Calls Tryz.prog 13 #[.string s] w fun e w' => e = .returned (.int .i64 (cnt s 0)) ∧ Below w.heap.size w w' := by
  unfold maxLen at hs
  have hc := cnt_le s s.size 0 (by omega)
  go_enter Tryz.func13, Tryz.ntmps13
  go_wp2
  go_loopw [3] (fun n w' => ∃ pos k : Nat, w' = w.iter s pos ∧ n = .int .i64 k ∧ Hid (k + cnt s pos = cnt s 0) ∧ pos ≤ s.size ∧ k ≤ pos) (fun _ w' => s.size - w'.iterPos w.heap.size)
  case atStart => exact ⟨0, 0, rfl, rfl, Lib.hid (by omega), by omega, by omega⟩
  case round =>
    obtain ⟨pos, k, rfl, rfl, hcnt, hp, hk⟩ := hrel
    by_cases hlt : pos < s.size
    · have hnx : ∀ ty, (Instr.next (.pointer (some ⟨w.heap.size, 0, none⟩)) true ty).run Tryz.prog (w.iter s pos) = _ := fun ty => run_next_any w s pos ty hlt
      have hw1 := cw_le hlt
      have hw2 := cw_pos s pos
      go_wp2
      go_roundw
      case rel => exact ⟨pos + cw s pos, k + 1, rfl, by go_num, Lib.hid (by rw [← hcnt.out, cnt_step hlt]; omega), hw1, by omega⟩
      case measure =>
        simp only [World.iterPos_iter]
        unfold cw at hw1 hw2
        omega
    · have hnx : ∀ ty, (Instr.next (.pointer (some ⟨w.heap.size, 0, none⟩)) true ty).run Tryz.prog (w.iter s pos) = _ := fun ty => run_next_end w s pos ty hlt
      go_wp2
      go_ret
      exact ⟨ret_i64 (by rw [← hcnt.out, cnt_end hlt]; omega), below_iter _ _ _⟩

/-- So many characters behind so many. -/
def subN (s : ByteArray) (a k : Nat) : ByteArray := s.extract (adv s 0 a) (adv s 0 (a + k))
/-- The characters at the places from .. from + many - 1. -/
def subB (s : ByteArray) (f m : Int) : ByteArray :=
  if m < 1 then ⟨#[]⟩ else if f < 1 then (if m - 1 + f < 1 then ⟨#[]⟩ else subN s 0 (m - 1 + f).toNat) else subN s (f - 1).toNat m.toNat

theorem sub_parts (s : ByteArray) (a k : Nat) : (s.extract (adv s 0 a) s.size).extract 0 (adv (s.extract (adv s 0 a) s.size) 0 k) = subN s a k := by
  have h := adv_le s a 0 (Nat.zero_le _)
  have h2 := tail_adv s (adv s 0 a) k 0
  rw [Nat.add_zero, ← adv_add] at h2
  have h3 := adv_le s (a + k) 0 (Nat.zero_le _)
  rw [part_part s (adv s 0 a) s.size 0 _ (by omega), h2]
  rfl

set_option maxRecDepth 100000 in
set_option maxHeartbeats 400000 in
theorem sub_any (s : ByteArray) (f m : Int) (hs : s.size ≤ maxLen) (hf : -9223372036854775808 ≤ f ∧ f ≤ 9223372036854775807) (hm : -9223372036854775808 ≤ m ∧ m ≤ 9223372036854775807) (w : World) :
    Calls Tryz.prog 46 #[.string s, .int .i64 f, .int .i64 m] w fun e w' => e = .returned (.string (subB s f m)) ∧ Below w.heap.size w w' := by
  obtain ⟨f1, f2⟩ := hf
  obtain ⟨m1, m2⟩ := hm
  have B := Lib.hid (fun z h0 hz w => behind_int s z hs h0 hz w)
  have B2 := Lib.hid (fun a z h0 hz w => behind_int (s.extract (adv s 0 a) s.size) z (by rw [Lib.tail_size]; omega) h0 hz w)
  have P := Lib.hid (sub_parts s)
  have HL := Lib.hid (fun a => adv_le s a 0 (Nat.zero_le _))
  have HL2 := Lib.hid (show ∀ a b, adv (s.extract a s.size) 0 b ≤ s.size - a from fun a b => by rw [← Lib.tail_size]; exact adv_le _ b 0 (Nat.zero_le _))
  unfold maxLen at hs
  by_cases h1 : m < 1
  · rw [show subB s f m = ⟨#[]⟩ from by unfold subB; rw [if_pos h1]]
    go_enter Tryz.func46, Tryz.ntmps46
    go_wp2_with fail
    go_ret
    exact ⟨rfl, Below.refl _ _⟩
  · by_cases h2 : f < 1
    · by_cases h3 : m - 1 + f < 1
      · rw [show subB s f m = ⟨#[]⟩ from by unfold subB; rw [if_neg h1, if_pos h2, if_pos h3]]
        go_enter Tryz.func46, Tryz.ntmps46
        go_wp2_with fail
        go_ret
        exact ⟨rfl, Below.refl _ _⟩
      · rw [show subB s f m = subN s 0 (m - 1 + f).toNat from by unfold subB; rw [if_neg h1, if_pos h2, if_neg h3]]
        go_enter Tryz.func46, Tryz.ntmps46
        go_wp2_with fail
        refine (B.out _ (by omega) (by omega) _).mono ?_
        rintro e w1 ⟨rfl, b1⟩
        have B1 := Lib.hid b1; clear b1
        have hl := HL.out (Int.toNat 0)
        go_wp2_with fail
        refine (B2.out _ _ (by omega) (by omega) _).mono ?_
        rintro e w2 ⟨rfl, b2⟩
        have BB := Lib.hid (Below.step B1.out b2); clear b2
        have hl2 := HL2.out (adv s 0 (Int.toNat 0)) (m - 1 + f).toNat
        go_wp2_with fail
        go_ret
        exact ⟨ret_str (P.out _ _), BB.out⟩
    · obtain ⟨a, rfl⟩ : ∃ a : Nat, f = (a : Int) + 1 := ⟨(f - 1).toNat, by omega⟩
      rw [show subB s ((a : Int) + 1) m = subN s a m.toNat from by unfold subB; rw [if_neg h1, if_neg h2, show ((a : Int) + 1 - 1).toNat = a from by omega]]
      go_enter Tryz.func46, Tryz.ntmps46
      go_wp2_with fail
      refine (B.out _ (by omega) (by omega) _).mono ?_
      rintro e w1 ⟨rfl, b1⟩
      have B1 := Lib.hid b1; clear b1
      rw [Int.toNat_natCast]
      have hl := HL.out a
      go_wp2_with fail
      refine (B2.out _ _ (by omega) (by omega) _).mono ?_
      rintro e w2 ⟨rfl, b2⟩
      have BB := Lib.hid (Below.step B1.out b2); clear b2
      have hl2 := HL2.out (adv s 0 a) m.toNat
      go_wp2_with fail
      go_ret
      exact ⟨ret_str (P.out _ _), BB.out⟩

end Go.Proofs.YtbbhcbpfffabpaaGreatDoor.T2

/- Slices of texts that read as lists; appends of texts and of numbers to rows of the call's own; Same of the document's answers. -/
namespace Go.Proofs.YtbbhcbpfffabpaaGreatDoor.T2
open Go.Proofs.YtbbhcbpfffabpaaGreatDoor Go.Proofs
open Go.RowKit

def strs (l : List ByteArray) : List Value := l.map Value.string
theorem info_str : (Tryz.prog.info? 9).map (fun i => (i.zero, i.size, i.bytes)) = some (some (.string ⟨#[]⟩), 1, 16) := by kernel_rfl

theorem strs_get {l : List ByteArray} {i : Nat} (h : i < l.length) : (strs l)[i]? = some (.string l[i]) := by
  unfold strs
  rw [List.getElem?_map, List.getElem?_eq_getElem h]
  rfl

/-- A slice of texts reads as a list. -/
structure RdS (w : World) (p : Option Addr) (n c : Nat) (l : List ByteArray) : Prop where
  len : n = l.length
  cap : n ≤ c
  big : c ≤ 9223372036854775807
  nil : p = none → c = 0
  cells : l = [] ∨ ∃ b off, p = some ⟨b, off, none⟩ ∧ b < w.heap.size ∧ ∀ i (h : i < l.length), w.cell? ⟨b, off + i, none⟩ = some (.string l[i])

theorem RdS.keep {w w' : World} {p n c l} (h : RdS w p n c l) (hz : w.heap.size ≤ w'.heap.size) (hb : ∀ b o, b < w.heap.size → w'.cell? ⟨b, o, none⟩ = w.cell? ⟨b, o, none⟩) : RdS w' p n c l := by
  refine ⟨h.len, h.cap, h.big, h.nil, ?_⟩
  rcases h.cells with hc | ⟨b, off, hp, hlt, hc⟩
  · exact Or.inl hc
  · exact Or.inr ⟨b, off, hp, Nat.lt_of_lt_of_le hlt hz, fun i hi => by rw [hb b _ hlt]; exact hc i hi⟩

theorem RdS.below {w w' : World} {p n c l} (h : RdS w p n c l) (hb : Below w.heap.size w w') : RdS w' p n c l :=
  h.keep hb.size fun b o hlt => hb.cell (p := ⟨b, o, none⟩) hlt

theorem RdS.drewN {w : World} {p n c l} (h : RdS w p n c l) (k : Nat) : RdS (w.drewN k) p n c l := h.below (Below.drewN' (Below.refl _ _) k)

/-- The cell at a place, as the walk comes to it. -/
theorem RdS.at_ {w : World} {p n c l} (h : RdS w p n c l) {i : Nat} (hi : i < n) : ∃ (b off : Nat) (x : ByteArray), p = some ⟨b, off, none⟩ ∧ l[i]? = some x ∧ w.cell? ⟨b, off + i, none⟩ = some (.string x) := by
  have hl := h.len
  rcases h.cells with hc | ⟨b, off, hp, _, hc⟩
  · rw [hc] at hl; simp at hl; omega
  · exact ⟨b, off, l[i], hp, List.getElem?_eq_getElem (by omega), hc i (by omega)⟩

/-- A row of the call's own reads as its texts. -/
theorem own_rds {w : World} {base : Nat} {v : Value} {l : List ByteArray} {k : Nat} (h : w.ownsRow base 9 1 v k (strs l)) (hl : k = l.length) :
    ∃ p c, v = .slice p k c ∧ RdS w p k c l := by
  obtain ⟨hlen, ⟨rfl, h0⟩ | ⟨g, cap, cur, rfl, hb, hg, hcap, hm, hsz, hx⟩⟩ := id h
  · subst h0
    have : l = [] := List.length_eq_zero_iff.1 hl.symm
    exact ⟨none, 0, rfl, hl, by omega, by omega, fun _ => rfl, Or.inl this⟩
  · refine ⟨_, cap, rfl, hl, hcap, by unfold maxLen at hm; omega, fun h => by simp at h, Or.inr ⟨g, 0, rfl, (h.lt g rfl).2, fun i hi => ?_⟩⟩
    rw [Nat.zero_add, h.cellAt i (by omega), strs_get hi]

set_option maxRecDepth 100000 in
theorem own_slice {w : World} {base : Nat} {p : Option Addr} {c : Nat} {l : List ByteArray} {k : Nat} (h : w.ownsRow base 9 1 (.slice p k c) k (strs l)) (hl : k = l.length) : RdS w p k c l := by
  obtain ⟨p', c', e, hr⟩ := own_rds h hl
  injection e with e1 _ e2
  subst e1; subst e2
  exact hr

theorem own_below {w w' : World} {base : Nat} {e : TypeId} {size n : Nat} {v : Value} {xs : List Value} (h : w.ownsRow base e size v n xs) (hb : Below w.heap.size w w') : w'.ownsRow base e size v n xs := by
  refine ⟨h.1, ?_⟩
  rcases id h.2 with ⟨rfl, h0⟩ | ⟨g, cap, cur, rfl, h1, h2, h3⟩
  · exact Or.inl ⟨rfl, h0⟩
  · exact Or.inr ⟨g, cap, cur, rfl, h1, by rw [hb.block g (h.lt g rfl).2]; exact h2, h3⟩

theorem own_grown {W w w' : World} {base : Nat} {e : TypeId} {size n : Nat} {v : Value} {xs : List Value} (h : w.ownsRow base e size v n xs) (hg : w.grownBy w' v.ownBlock) (hb : Below W.heap.size W w) (hB : W.heap.size ≤ base) : Below W.heap.size W w' :=
  hb.grown hg hb.size fun g hgr => Nat.le_trans hB (h.lt g hgr).1

set_option maxRecDepth 100000 in
/-- append of one text to a row whose block is base or behind. -/
theorem wp_append_str {ops : Array Oper} {rest : List Oper} {o : Oper} {a : Act} {Q : Exit → Act → World → Prop} (hgd : o.guard = none) (s x : Operand)
    (ho : o.op = .call { callee := .builtin .append, args := #[s, x], argTypes := #[43, 43] }) (base : Nat) (w : World) (v : Value) (k : Nat) (l : List ByteArray) (d : ByteArray)
    (hs : a.eval s = v) (hown : w.ownsRow base 9 1 v k (strs l)) (hx : a.eval x = .slice (some ⟨w.heap.size, 0, none⟩) 1 1) (hk : k ≤ 2000000) (hbase : base ≤ w.heap.size)
    (h : ∀ p c w', Hid (w'.ownsRow base 9 1 (.slice p (k + 1) c) (k + 1) (strs (l ++ [d]))) → Hid (w.grownBy w' v.ownBlock) → wpList Tryz.prog ops Q rest (a.put o.dst (.slice p (k + 1) c)) w') :
    wpList Tryz.prog ops Q (o :: rest) a (w.alloc (.cells #[.string d] 9)) := by
  obtain ⟨i0, hi, hz0, hz1, hz2⟩ := info_parts info_str
  refine wpList_append_own _ hgd s x 43 ho base 9 i0 (.string ⟨#[]⟩) 1 16 Tryz.underlying43 hi hz0 hz1 hz2 rfl (by decide) v k (strs l) hs (hown.alloc _) ⟨w.heap.size, 0, none⟩ 1 1 [.string d] hx rfl ?_ ?_ ?_ ?_ ?_ ?_
  · intro j u hj
    cases j with
    | zero => simp at hj; subst hj; simp [Addr.add, go_sem]
    | succ j => simp at hj
  · intro u hu; simp at hu; subst hu; rfl
  · simp only [maxLen]; omega
  · omega
  · simp; exact Nat.le_succ_of_le hbase
  · intro v' w' hown' hg _
    have e : strs (l ++ [d]) = strs l ++ [.string d] := by simp [strs]
    rw [← e] at hown'
    obtain ⟨p, c, rfl⟩ : ∃ p c, v' = .slice p (k + 1) c := by
      rcases hown'.2 with ⟨_, h0⟩ | ⟨g, cap, cur, hv, _⟩
      · omega
      · exact ⟨_, _, hv⟩
    refine h p c w' (Lib.hid hown') (Lib.hid ?_)
    exact ⟨hg.os, hg.tape, hg.output, Nat.le_trans (by simp) hg.size, fun i hi hne => (hg.block i (by simp; omega) hne).trans (Below.heap_alloc w _ i hi)⟩

/-- A row of cells stays, as an iterator moves on. -/
theorem own_iterAt {w : World} {base : Nat} {e : TypeId} {size : Nat} {v : Value} {n : Nat} {xs : List Value} (h : w.ownsRow base e size v n xs) {k : Nat} {s : ByteArray} {p0 : Nat} (hk : w.heap[k]? = some (.stringIter s p0)) (p : Nat) :
    (w.iterAt k s p).ownsRow base e size v n xs := by
  refine ⟨h.1, ?_⟩
  rcases id h.2 with ⟨rfl, h0⟩ | ⟨g, cap, cur, rfl, h1, h2, h3⟩
  · exact Or.inl ⟨rfl, h0⟩
  · refine Or.inr ⟨g, cap, cur, rfl, h1, ?_, h3⟩
    rw [Lib.iterAt_other _ _ _ _ _ (by rintro rfl; rw [hk] at h2; cases h2)]
    exact h2

/-- An iterator stays, as a row grows. -/
theorem iter_grown {w w' : World} {base : Nat} {e : TypeId} {size : Nat} {v : Value} {n : Nat} {xs : List Value} (h : w.ownsRow base e size v n xs) (hg : w.grownBy w' v.ownBlock) {k : Nat} {s : ByteArray} {p : Nat} (hk : w.heap[k]? = some (.stringIter s p)) :
    w'.heap[k]? = some (.stringIter s p) := by
  have hlt : k < w.heap.size := (Array.getElem?_eq_some_iff.1 hk).1
  rw [hg.block k hlt ?_]
  · exact hk
  · intro hkb
    rcases id h.2 with ⟨rfl, _⟩ | ⟨g, cap, cur, rfl, _, h2, _⟩
    · simp [Value.ownBlock] at hkb
    · have : k = g := by simpa [Value.ownBlock] using hkb
      subst this
      rw [hk] at h2; cases h2

/-- make of no texts, with room for n. -/
theorem wp_make_strs {ops : Array Oper} {rest : List Oper} {o : Oper} {a : Act} {Q : Exit → Act → World → Prop} (hgd : o.guard = none) (l c : Operand)
    (ho : o.op = Op.makeSlice 43 l c) (w : World) (n : Nat) (hl : a.eval l = .int .i64 0) (hc : a.eval c = .int .i64 (n : Int)) (hn : n ≤ 2000000)
    (h : ∀ w', Hid (w'.ownsRow w.heap.size 9 1 (.slice (some ⟨w.heap.size, 0, none⟩) 0 n) 0 (strs [])) → Hid (Below w.heap.size w w') → wpList Tryz.prog ops Q rest (a.put o.dst (.slice (some ⟨w.heap.size, 0, none⟩) 0 n)) w') :
    wpList Tryz.prog ops Q (o :: rest) a w := by
  obtain ⟨i0, hi, hz0, hz1, hz2⟩ := info_parts info_str
  exact wpList_make_own w hgd l c 43 ho w.heap.size 9 i0 (.string ⟨#[]⟩) 1 Tryz.underlying43 hi hz0 hz1 .i64 .i64 _ n hl hc rfl (by rw [hz2]; omega) (by simp only [maxLen]; omega) (Nat.le_refl _)
    fun w' h1 h2 => h w' (Lib.hid h1) (Lib.hid ((Below.refl _ _).grown h2 (Nat.le_refl _) (fun g hg => by cases hg)))

theorem rds_step {a b : List ByteArray} {k : Nat} {x y : ByteArray} (hx : a[k]? = some x) (hy : b[k]? = some y) (h : a.take k = b.take k) (he : x = y) : a.take (k + 1) = b.take (k + 1) := by
  rw [List.take_add_one, List.take_add_one, h, hx, hy, he]

theorem take_ne {a b : List ByteArray} {k : Nat} {x y : ByteArray} (hx : a[k]? = some x) (hy : b[k]? = some y) (hne : x ≠ y) : a ≠ b := by
  rintro rfl
  rw [hx] at hy
  injection hy with h
  exact hne h

theorem bytes_ne {x y : ByteArray} (h : x ≠ y) : (x.toList == y.toList) = false := by
  rw [beq_eq_false_iff_ne]
  intro e
  rw [ByteArray.toList_eq, ByteArray.toList_eq] at e
  exact h (bytes_ext e)

end Go.Proofs.YtbbhcbpfffabpaaGreatDoor.T2

/- Contracts of Lower, Upper, and of the document's Shift. -/
namespace Go.Proofs.YtbbhcbpfffabpaaGreatDoor.T2
open Go.Proofs.YtbbhcbpfffabpaaGreatDoor Go.Proofs
open Go.RowKit

/-- A byte of the 26 from f on as those from t on. -/
def shI (f t c : Int) : Int := if f ≤ c ∧ c < f + 26 then c - f + t else c
def shB (f t : Nat) (c : UInt8) : UInt8 := UInt8.ofNat (shI f t c.toNat).toNat
def shS (f t : Nat) (s : ByteArray) : ByteArray := ⟨(s.data.toList.map (shB f t)).toArray⟩

/-- The two that there are. -/
def Pair (f t : Nat) : Prop := (f = 65 ∧ t = 97) ∨ (f = 97 ∧ t = 65)

theorem shI_bd {f t : Nat} (h : Pair f t) (c : UInt8) : 0 ≤ shI f t c.toNat ∧ shI f t c.toNat ≤ 255 := by
  have := c.toNat_lt
  unfold shI
  rcases h with ⟨rfl, rfl⟩ | ⟨rfl, rfl⟩ <;> split <;> omega

theorem shB_nat {f t : Nat} (h : Pair f t) (c : UInt8) : ((shB f t c).toNat : Int) = shI f t c.toNat := by
  have hb := shI_bd h c
  unfold shB
  rw [UInt8.toNat_ofNat']
  omega

theorem shB_back {f t : Nat} (h : Pair f t) (c : UInt8) : shB f t (shB t f c) = shB f t c := by
  have h' : Pair t f := by unfold Pair at *; omega
  apply UInt8.toNat_inj.1
  have h1 := shB_nat h (shB t f c)
  have h2 := shB_nat h c
  have h3 := shB_nat h' c
  rw [h3] at h1
  have h4 : shI f t (shI t f c.toNat) = shI f t c.toNat := by
    unfold shI
    rcases h with ⟨rfl, rfl⟩ | ⟨rfl, rfl⟩ <;> repeat' split
    all_goals omega
  omega

theorem shS_back {f t : Nat} (h : Pair f t) (s : ByteArray) : shS f t (shS t f s) = shS f t s := by
  unfold shS
  congr 1
  congr 1
  simp only [List.map_map]
  apply List.map_congr_left
  intro c _
  exact shB_back h c

theorem shS_size (f t : Nat) (s : ByteArray) : (shS f t s).size = s.size := by
  rw [Lib.size_eq, Lib.size_eq]; simp [shS]

/-- The block behind k rounds. -/
def BInv (w : World) (g : Nat) (f t : Nat) (l : List UInt8) (k : Nat) : Prop :=
  ∀ j (h : j < l.length), w.cell? ⟨g, j, none⟩ = some (.int .u8 (if j < k then ((shB f t l[j]).toNat : Int) else (l[j].toNat : Int))) ∧ w.frozen? ⟨g, j, none⟩ = false

theorem BInv.same {w : World} {g f t : Nat} {l : List UInt8} {k : Nat} (h : BInv w g f t l k) (hk : k < l.length) (he : ((shB f t l[k]).toNat : Int) = l[k].toNat) : BInv w g f t l (k + 1) := by
  intro j hj
  obtain ⟨h1, h2⟩ := h j hj
  refine ⟨?_, h2⟩
  rw [h1]
  by_cases hjk : j = k
  · subst hjk
    rw [if_neg (by omega), if_pos (by omega), he]
  · by_cases hlt : j < k
    · rw [if_pos hlt, if_pos (by omega)]
    · rw [if_neg hlt, if_neg (by omega)]

theorem BInv.store {w : World} {g f t : Nat} {l : List UInt8} {k : Nat} (h : BInv w g f t l k) (hk : k < l.length) {x : Int} (hx : ((shB f t l[k]).toNat : Int) = x) : BInv (w.setCell ⟨g, k, none⟩ (.int .u8 x)) g f t l (k + 1) := by
  intro j hj
  obtain ⟨h1, h2⟩ := h j hj
  by_cases hjk : j = k
  · subst hjk
    rw [World.cell?_setCell_same _ _ _ h1, if_pos (by omega), hx]
    exact ⟨rfl, by simpa using h2⟩
  · rw [World.cell?_setCell_other _ _ _ _ (by intro e; injection e with _ e; exact hjk e.symm), h1]
    refine ⟨?_, by simpa using h2⟩
    by_cases hlt : j < k
    · rw [if_pos hlt, if_pos (by omega)]
    · rw [if_neg hlt, if_neg (by omega)]

theorem bytes_start (w : World) (f t : Nat) (s : ByteArray) : BInv (Lib.bytesWorld w 5 s) w.heap.size f t s.data.toList 0 := by
  intro j hj
  have hs : j < s.size := by rw [Lib.size_eq]; exact hj
  refine ⟨?_, ?_⟩
  · rw [Lib.bytesWorld_cell w 5 s j hs, if_neg (by omega)]
    rw [List.getD_eq_getElem?_getD, List.getElem?_eq_getElem hj]
    rfl
  · have hb : (Lib.bytesCells w 5 s).size ≥ s.size := by
      unfold Lib.bytesCells
      rw [Array.size_append, Array.size_map]
      exact Nat.le_add_right _ _
    simp only [World.frozen?, Lib.bytesWorld_at_new]
    simp
    omega

theorem bytes_below (w : World) (s : ByteArray) : Below w.heap.size w (Lib.bytesWorld w 5 s) := by
  refine ⟨?_, ?_, ?_, by rw [Lib.bytesWorld_size]; omega, fun i hi => Lib.bytesWorld_at_old w 5 s i hi⟩
  · unfold Lib.bytesWorld World.freeze; split <;> rfl
  · unfold Lib.bytesWorld World.freeze; split <;> rfl
  · unfold Lib.bytesWorld World.freeze; split <;> rfl

theorem bytes_back {w : World} {g f t : Nat} {s : ByteArray} {k : Nat} (h : BInv w g f t s.data.toList k) (hk : s.size ≤ k) (c : Nat) :
    (convert 66 9 (.slice (some ⟨g, 0, none⟩) s.size c)).run Tryz.prog w = .ok (.string (shS f t s)) w := by
  have hl : (s.data.toList.map (shB f t)).length = s.size := by rw [List.length_map, ← Lib.size_eq]
  rw [← hl]
  refine run_convert_bytes_back w 66 9 5 ⟨g, 0, none⟩ c (s.data.toList.map (shB f t)) Tryz.underlying66 Tryz.underlying5 Tryz.underlying9 ?_
  intro j hj
  have hj' : j < s.data.toList.length := by simpa using hj
  have h1 := (h j hj').1
  rw [if_pos (by rw [← Lib.size_eq] at hj'; omega)] at h1
  have ha : (⟨g, 0, none⟩ : Addr).add j = ⟨g, j, none⟩ := by
    unfold Addr.add; split <;> simp_all
  rw [ha, h1, List.getElem_map]

set_option maxRecDepth 100000 in
set_option maxHeartbeats 1000000 in
theorem shift_any (f t : Nat) (hft : Pair f t) (s : ByteArray) (hs : s.size ≤ maxLen) (w : World) :
    Calls Tryz.prog 41 #[.string s, .int .u8 f, .int .u8 t] w fun e w' => e = .returned (.string (shS f t s)) ∧ Below w.heap.size w w' := by
  unfold maxLen at hs
  have hcv : ∀ w, (convert 9 66 (.string s)).run Tryz.prog w = .ok (.slice (some ⟨w.heap.size, 0, none⟩) s.size (grownCap w s.size 0 5)) (Lib.bytesWorld w 5 s) :=
    fun w => Lib.run_convert_string_bytes w _ _ _ s Tryz.underlying9 Tryz.underlying66 Tryz.underlying5
  have hf : f ≤ 100 ∧ t ≤ 100 := by unfold Pair at hft; omega
  obtain ⟨hf1, hf2⟩ := hf
  have HP := Lib.hid hft; clear hft
  go_enter Tryz.func41, Tryz.ntmps41
  go_wp2_with fail
  clear hcv
  go_loopw [14] (fun x wr => ∃ k : Nat, x = .int .i64 k ∧ k ≤ s.size ∧ Hid (BInv wr w.heap.size f t s.data.toList k) ∧ Hid (Below w.heap.size w wr)) (fun x _ => s.size - (intOf x).toNat)
  case atStart => exact ⟨0, rfl, by omega, Lib.hid (bytes_start w f t s), Lib.hid (bytes_below w s)⟩
  case round =>
    obtain ⟨k, rfl, hk, hinv, hbel⟩ := hrel
    by_cases hlt : k < s.size
    · have hlt' : k < s.data.toList.length := by rw [← Lib.size_eq]; exact hlt
      obtain ⟨hc, hz⟩ := hinv.out k hlt'
      rw [if_neg (by omega)] at hc
      have hsh := shB_nat HP.out s.data.toList[k]
      have hx8 := (s.data.toList[k]).toNat_lt
      obtain ⟨x, hx⟩ : ∃ x : Nat, x = (s.data.toList[k]).toNat := ⟨_, rfl⟩
      rw [← hx] at hc hsh hx8
      unfold shI at hsh
      by_cases hin : f ≤ x ∧ x < f + 26
      · obtain ⟨h1, h2⟩ := hin
        rw [if_pos (by omega)] at hsh
        have HS := Lib.hid (hinv.out.store hlt' hsh)
        have HX := Lib.hid hx; clear hx hsh
        go_wp2_with fail
        go_roundw
        case rel => exact ⟨k + 1, by go_num, by omega, HS, Lib.hid (hbel.out.setCell (Nat.le_refl _) _)⟩
        case measure => simp [intOf]; omega
      · rw [if_neg (by omega)] at hsh
        have HS := Lib.hid (hinv.out.same hlt' (by rw [hsh, hx]))
        have HX := Lib.hid hx; clear hx hsh
        have hin' : ¬ f ≤ x ∨ (f ≤ x ∧ ¬ x < f + 26) := by omega
        clear hin
        rcases hin' with h1 | ⟨h1, h2⟩
        all_goals
          go_wp2_with fail
          go_roundw
          case rel => exact ⟨k + 1, by go_num, by omega, HS, hbel⟩
          case measure => simp [intOf]; omega
    · have hbk := fun c => bytes_back hinv.out (show s.size ≤ k by omega) c
      go_wp2_with fail
      go_ret
      exact ⟨rfl, hbel.out⟩

set_option maxRecDepth 100000 in
theorem lower_any (s : ByteArray) (hs : s.size ≤ maxLen) (w : World) :
    Calls Tryz.prog 16 #[.string s] w fun e w' => e = .returned (.string (shS 65 97 s)) ∧ Below w.heap.size w w' := by
  have H := Lib.hid (fun w => shift_any 65 97 (Or.inl ⟨rfl, rfl⟩) s hs w)
  clear hs
  go_enter Tryz.func16, Tryz.ntmps16
  go_wp2_with fail
  refine (H.out _).mono ?_
  rintro e w1 ⟨rfl, b1⟩
  have B1 := Lib.hid b1; clear b1
  go_wp2_with fail
  go_ret
  exact ⟨rfl, B1.out⟩

set_option maxRecDepth 100000 in
theorem upper_any (s : ByteArray) (hs : s.size ≤ maxLen) (w : World) :
    Calls Tryz.prog 17 #[.string s] w fun e w' => e = .returned (.string (shS 97 65 s)) ∧ Below w.heap.size w w' := by
  have H := Lib.hid (fun w => shift_any 97 65 (Or.inr ⟨rfl, rfl⟩) s hs w)
  clear hs
  go_enter Tryz.func17, Tryz.ntmps17
  go_wp2_with fail
  refine (H.out _).mono ?_
  rintro e w1 ⟨rfl, b1⟩
  have B1 := Lib.hid b1; clear b1
  go_wp2_with fail
  go_ret
  exact ⟨rfl, B1.out⟩

/-! ### The document's answer -/
def u8s (l : List UInt8) : List Value := l.map fun c => Value.int .u8 (c.toNat : Int)
theorem info_u8 : (Tryz.prog.info? 5).map (fun i => (i.zero, i.size, i.bytes)) = some (some (.int .u8 0), 1, 1) := by kernel_rfl

/-- append of one byte to a row whose block is base or behind. -/
theorem wp_append_u8 {ops : Array Oper} {rest : List Oper} {o : Oper} {a : Act} {Q : Exit → Act → World → Prop} (hgd : o.guard = none) (s x : Operand)
    (ho : o.op = .call { callee := .builtin .append, args := #[s, x], argTypes := #[66, 66] }) (base : Nat) (w : World) (v : Value) (k : Nat) (l : List UInt8) (D : Int) (d : UInt8)
    (hs : a.eval s = v) (hown : w.ownsRow base 5 1 v k (u8s l)) (hx : a.eval x = .slice (some ⟨w.heap.size, 0, none⟩) 1 1) (hd : (d.toNat : Int) = D) (hk : k + 1 ≤ 140737488355328) (hbase : base ≤ w.heap.size)
    (h : ∀ g c w', Hid (w'.ownsRow base 5 1 (.slice (some ⟨g, 0, none⟩) (k + 1) c) (k + 1) (u8s (l ++ [d]))) → Hid (w.grownBy w' v.ownBlock) → wpList Tryz.prog ops Q rest (a.put o.dst (.slice (some ⟨g, 0, none⟩) (k + 1) c)) w') :
    wpList Tryz.prog ops Q (o :: rest) a (w.alloc (.cells #[.int .u8 D] 5)) := by
  obtain ⟨i0, hi, hz0, hz1, hz2⟩ := info_parts info_u8
  subst hd
  refine wpList_append_own _ hgd s x 66 ho base 5 i0 (.int .u8 0) 1 1 Tryz.underlying66 hi hz0 hz1 hz2 rfl (by decide) v k (u8s l) hs (hown.alloc _) ⟨w.heap.size, 0, none⟩ 1 1 [.int .u8 (d.toNat : Int)] hx rfl ?_ ?_ ?_ ?_ ?_ ?_
  · intro j u hj
    cases j with
    | zero => simp at hj; subst hj; simp [Addr.add, go_sem]
    | succ j => simp at hj
  · intro u hu; simp at hu; subst hu; rfl
  · simp only [maxLen]; omega
  · omega
  · simp; exact Nat.le_succ_of_le hbase
  · intro v' w' hown' hg _
    have e : u8s (l ++ [d]) = u8s l ++ [.int .u8 (d.toNat : Int)] := by simp [u8s]
    rw [← e] at hown'
    obtain ⟨g, c, rfl⟩ : ∃ g c, v' = .slice (some ⟨g, 0, none⟩) (k + 1) c := by
      rcases hown'.2 with ⟨_, h0⟩ | ⟨g, cap, cur, hv, _⟩
      · omega
      · exact ⟨_, _, hv⟩
    refine h g c w' (Lib.hid hown') (Lib.hid ?_)
    exact ⟨hg.os, hg.tape, hg.output, Nat.le_trans (by simp) hg.size, fun i hi hne => (hg.block i (by simp; omega) hne).trans (Below.heap_alloc w _ i hi)⟩

/-- A row of bytes as a text. -/
theorem own_text {w : World} {base g c k : Nat} {l : List UInt8} (h : w.ownsRow base 5 1 (.slice (some ⟨g, 0, none⟩) k c) k (u8s l)) :
    (convert 66 9 (.slice (some ⟨g, 0, none⟩) k c)).run Tryz.prog w = .ok (.string ⟨l.toArray⟩) w := by
  have hl : l.length = k := by have := h.1; unfold u8s at this; rw [List.length_map] at this; omega
  have hc : ∀ j (hj : j < l.length), w.cell? ((⟨g, 0, none⟩ : Addr).add j) = some (.int .u8 (l[j].toNat : Int)) := by
    intro j hj
    have ha : (⟨g, 0, none⟩ : Addr).add j = ⟨g, j, none⟩ := by
      unfold Addr.add; split <;> simp_all
    rw [ha, h.cellAt j (by omega)]
    unfold u8s
    rw [List.getElem?_map, List.getElem?_eq_getElem hj]
    rfl
  have hb := run_convert_bytes_back w 66 9 5 ⟨g, 0, none⟩ c l Tryz.underlying66 Tryz.underlying5 Tryz.underlying9 hc
  rw [hl] at hb
  exact hb

theorem sh_take (f t : Nat) (s : ByteArray) (k : Nat) (h : k < s.size) : (s.data.toList.take (k + 1)).map (shB f t) = (s.data.toList.take k).map (shB f t) ++ [shB f t s[k]] := by
  rw [List.take_succ_eq_append_getElem (by rw [← Lib.size_eq]; exact h), List.map_append]
  rfl

theorem sh_whole (f t : Nat) (s : ByteArray) (k : Nat) (h : s.size ≤ k) : (⟨((s.data.toList.take k).map (shB f t)).toArray⟩ : ByteArray) = shS f t s := by
  rw [List.take_of_length_le (by rw [← Lib.size_eq]; exact h)]
  rfl

set_option maxRecDepth 100000 in
set_option maxHeartbeats 2000000 in
theorem refShift_low (s : ByteArray) (hs : s.size ≤ 140737488355328) (w : World) :
    Calls Tryz.prog 26 #[.string s, .int .u8 65, .int .u8 90, .bool false] w fun x w' => x = .returned (.string (shS 65 97 s)) ∧ Below w.heap.size w w' := by
  obtain ⟨F, hF⟩ : ∃ F, F = shB 65 97 := ⟨_, rfl⟩
  have EM : Hid (u8s ((s.data.toList.take 0).map F) = []) := Lib.hid rfl
  have ST := Lib.hid (fun k h => sh_take 65 97 s k h)
  have SN := Lib.hid (fun c => shB_nat (f := 65) (t := 97) (by unfold Pair; omega) c)
  have SW := Lib.hid (fun k h => sh_whole 65 97 s k h)
  rw [← hF] at ST SN SW
  clear hF
  unfold shI at SN
  go_enter Tryz.func26, Tryz.ntmps26
  go_wp2_with fail
  go_loopw [9, 10] (fun y x wr => ∃ (k g c : Nat), x = .int .i64 k ∧ k ≤ s.size ∧ y = .slice (some ⟨g, 0, none⟩) k c ∧ Hid (wr.ownsRow w.heap.size 5 1 (.slice (some ⟨g, 0, none⟩) k c) k (u8s ((s.data.toList.take k).map F))) ∧ Hid (Below w.heap.size w wr)) (fun _ x _ => s.size - (intOf x).toNat)
  case atStart =>
    refine ⟨0, _, _, rfl, by omega, rfl, Lib.hid ?_, Lib.hid ((Below.refl _ _).alloc (Nat.le_refl _) _)⟩
    have h := World.ownsRow_lit (base := w.heap.size) (e := 5) (size := 1) w #[] 0 (Nat.le_refl _) (by simp) (by simp)
    rw [EM.out]
    exact h
  case round =>
    obtain ⟨k, g, c, rfl, hk, rfl, hown, hbel⟩ := hrel
    by_cases hlt : k < s.size
    · have HT := Lib.hid (ST.out k hlt)
      have hn := SN.out s[k]
      have hx8 := s[k].toNat_lt
      have hcases : ((65 : Int) ≤ (s[k].toNat : Int) ∧ (s[k].toNat : Int) ≤ 90) ∨ (s[k].toNat : Int) < 65 ∨ (90 : Int) < (s[k].toNat : Int) := by omega
      rcases hcases with ⟨h1, h2⟩ | h1 | h1
      case' inl =>
        rw [if_pos (by omega)] at hn
        have HN := Lib.hid (hn.trans (show (s[k].toNat : Int) - (65 : Nat) + (97 : Nat) = s[k].toNat + 32 from by omega))
      case' inr.inl =>
        rw [if_neg (by omega)] at hn
        have HN := Lib.hid hn
      case' inr.inr =>
        rw [if_neg (by omega)] at hn
        have HN := Lib.hid hn
      all_goals
        clear hn
        go_wp2_with (at_builtin; refine wp_append_u8 rfl _ _ rfl w.heap.size wr (.slice (some ⟨g, 0, none⟩) k c) k ((s.data.toList.take k).map F) _ (F s[k]) rfl hown.out rfl HN.out (by omega) hbel.out.size ?_; intro vg vc w4 hown4 hg4)
        have HB4 := Lib.hid (own_grown hown.out hg4.out hbel.out (Nat.le_refl _))
        clear hg4
        go_roundw
        case rel => exact ⟨k + 1, vg, vc, by go_num, by omega, rfl, Lib.hid (by rw [HT.out]; exact hown4.out), HB4⟩
        case measure => simp [intOf]; omega
    · obtain rfl : k = s.size := by omega
      have hbk := own_text hown.out
      rw [SW.out _ (Nat.le_refl _)] at hbk
      go_wp2_with fail
      go_ret
      exact ⟨rfl, hbel.out⟩

set_option maxRecDepth 100000 in
set_option maxHeartbeats 2000000 in
theorem refShift_up (s : ByteArray) (hs : s.size ≤ 140737488355328) (w : World) :
    Calls Tryz.prog 26 #[.string s, .int .u8 97, .int .u8 122, .bool true] w fun x w' => x = .returned (.string (shS 97 65 s)) ∧ Below w.heap.size w w' := by
  obtain ⟨F, hF⟩ : ∃ F, F = shB 97 65 := ⟨_, rfl⟩
  have EM : Hid (u8s ((s.data.toList.take 0).map F) = []) := Lib.hid rfl
  have ST := Lib.hid (fun k h => sh_take 97 65 s k h)
  have SN := Lib.hid (fun c => shB_nat (f := 97) (t := 65) (by unfold Pair; omega) c)
  have SW := Lib.hid (fun k h => sh_whole 97 65 s k h)
  rw [← hF] at ST SN SW
  clear hF
  unfold shI at SN
  go_enter Tryz.func26, Tryz.ntmps26
  go_wp2_with fail
  go_loopw [9, 10] (fun y x wr => ∃ (k g c : Nat), x = .int .i64 k ∧ k ≤ s.size ∧ y = .slice (some ⟨g, 0, none⟩) k c ∧ Hid (wr.ownsRow w.heap.size 5 1 (.slice (some ⟨g, 0, none⟩) k c) k (u8s ((s.data.toList.take k).map F))) ∧ Hid (Below w.heap.size w wr)) (fun _ x _ => s.size - (intOf x).toNat)
  case atStart =>
    refine ⟨0, _, _, rfl, by omega, rfl, Lib.hid ?_, Lib.hid ((Below.refl _ _).alloc (Nat.le_refl _) _)⟩
    have h := World.ownsRow_lit (base := w.heap.size) (e := 5) (size := 1) w #[] 0 (Nat.le_refl _) (by simp) (by simp)
    rw [EM.out]
    exact h
  case round =>
    obtain ⟨k, g, c, rfl, hk, rfl, hown, hbel⟩ := hrel
    by_cases hlt : k < s.size
    · have HT := Lib.hid (ST.out k hlt)
      have hn := SN.out s[k]
      have hx8 := s[k].toNat_lt
      have hcases : ((97 : Int) ≤ (s[k].toNat : Int) ∧ (s[k].toNat : Int) ≤ 122) ∨ (s[k].toNat : Int) < 97 ∨ (122 : Int) < (s[k].toNat : Int) := by omega
      rcases hcases with ⟨h1, h2⟩ | h1 | h1
      case' inl =>
        rw [if_pos (by omega)] at hn
        have HN := Lib.hid (hn.trans (show (s[k].toNat : Int) - (97 : Nat) + (65 : Nat) = s[k].toNat - 32 from by omega))
      case' inr.inl =>
        rw [if_neg (by omega)] at hn
        have HN := Lib.hid hn
      case' inr.inr =>
        rw [if_neg (by omega)] at hn
        have HN := Lib.hid hn
      all_goals
        clear hn
        go_wp2_with (at_builtin; refine wp_append_u8 rfl _ _ rfl w.heap.size wr (.slice (some ⟨g, 0, none⟩) k c) k ((s.data.toList.take k).map F) _ (F s[k]) rfl hown.out rfl HN.out (by omega) hbel.out.size ?_; intro vg vc w4 hown4 hg4)
        have HB4 := Lib.hid (own_grown hown.out hg4.out hbel.out (Nat.le_refl _))
        clear hg4
        go_roundw
        case rel => exact ⟨k + 1, vg, vc, by go_num, by omega, rfl, Lib.hid (by rw [HT.out]; exact hown4.out), HB4⟩
        case measure => simp [intOf]; omega
    · obtain rfl : k = s.size := by omega
      have hbk := own_text hown.out
      rw [SW.out _ (Nat.le_refl _)] at hbk
      go_wp2_with fail
      go_ret
      exact ⟨rfl, hbel.out⟩

end Go.Proofs.YtbbhcbpfffabpaaGreatDoor.T2
