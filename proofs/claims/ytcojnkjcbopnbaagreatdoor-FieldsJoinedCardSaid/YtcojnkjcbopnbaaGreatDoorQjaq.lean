/- Merged by program: SRepl, SAll, SSplit, T2Ints, T2Chars. -/
import Derived.Test.YtcojnkjcbopnbaaGreatDoorQjah
import Derived.Test.YtcojnkjcbopnbaaGreatDoorQjap
import Derived.Test.YtcojnkjcbopnbaaGreatDoorQjac
import Derived.Test.YtcojnkjcbopnbaaGreatDoorQjae
/- subst.replaced, found, All: walks. -/
namespace Go.Proofs.YtcojnkjcbopnbaaGreatDoor
open Go.RowKit

/-- A text with parts replaced, from a place on. -/
def sRepl (by_ s : List UInt8) : List (Nat × Nat) → Nat → List UInt8
  | [], at_ => s.drop at_
  | x :: r, at_ => (s.drop at_).take (x.1 - at_) ++ (sPut ((s.drop x.1).take (x.2 - x.1)) by_ false ++ sRepl by_ s r x.2)
theorem Ordered.many {n a last : Nat} {l : List (Nat × Nat)} (h : Ordered n a last l) : l.length + last ≤ n + 1 ∨ l = [] := by
  induction h with
  | nil => exact Or.inr rfl
  | cons at_ last b e l h1 h2 h3 h4 h ih =>
    left
    rcases ih with ih | rfl
    · rw [List.length_cons]; omega
    · simp; omega
theorem Ordered.len {n : Nat} {l : List (Nat × Nat)} (h : Ordered n 0 0 l) : l.length ≤ n + 1 := by
  rcases h.many with h | rfl
  · omega
  · simp

theorem size_list (b : ByteArray) : b.data.toList.length = b.size := by rw [Array.length_toList]; rfl
/-- The rows of parts that a caller owns. -/
def PairsAt (w : World) (v : Value) (l : List (Nat × Nat)) : Prop := w.ownsRow 0 99 2 v l.length (pairs l)
theorem PairsAt.keep {w w' : World} {v : Value} {l : List (Nat × Nat)} (h : PairsAt w v l) (e : ∀ (k : Nat) (c : Array Value), v.ownBlock = some k → w.heap[k]? = some (.cells c 99 (0, 0)) → w'.heap[k]? = w.heap[k]?) : PairsAt w' v l := by
  refine ⟨h.1, ?_⟩
  rcases h.2 with h0 | ⟨g', cap', cur, rfl, hb, hg, rest⟩
  · exact Or.inl h0
  · exact Or.inr ⟨g', cap', cur, rfl, hb, by rw [e g' _ rfl hg]; exact hg, rest⟩
theorem PairsAt.after {w w' : World} {v : Value} {l : List (Nat × Nat)} (h : PairsAt w v l) (hb : Below w.heap.size w w') : PairsAt w' v l := h.keep fun k _ _ hk => hb.block k (Array.getElem?_eq_some_iff.1 hk).1
theorem PairsAt.shape {w : World} {v : Value} {l : List (Nat × Nat)} (h : PairsAt w v l) : ∃ a c, v = .slice a l.length c := by
  rcases h.2 with ⟨e, h0⟩ | ⟨g', cap', cur, e, _⟩
  · exact ⟨none, 0, by rw [e, h0]⟩
  · exact ⟨_, _, e⟩
theorem PairsAt.cell {w : World} {a : Option Addr} {c : Nat} {l : List (Nat × Nat)} (h : PairsAt w (.slice a l.length c) l) (i : Nat) (hi : i < l.length) : ∃ g, a = some ⟨g, 0, none⟩ ∧ w.cell? ⟨g, i * 2, none⟩ = some (.int .i64 (l[i].1 : Nat)) ∧ w.cell? ⟨g, i * 2 + 1, none⟩ = some (.int .i64 (l[i].2 : Nat)) := by
  have h' : w.ownsRow 0 99 2 (.slice a l.length c) l.length (pairs l) := h
  rcases h.2 with ⟨e, h0⟩ | ⟨g', cap', cur, e, _⟩
  · omega
  · simp only [Value.slice.injEq] at e
    obtain ⟨rfl, _, rfl⟩ := e
    have hg := pairs_get l i hi
    exact ⟨g', rfl, by rw [h'.cellAt (i * 2) (by omega)]; exact hg.1, by rw [h'.cellAt (i * 2 + 1) (by omega)]; exact hg.2⟩

end Go.Proofs.YtcojnkjcbopnbaaGreatDoor

/- subst.found, All: walks. -/
namespace Go.Proofs.YtcojnkjcbopnbaaGreatDoor
open Go.RowKit

theorem PairsAt.of {w : World} {B : Nat} {v : Value} {l : List (Nat × Nat)} (h : w.ownsRow B 99 2 v l.length (pairs l)) : PairsAt w v l := by
  refine ⟨h.1, ?_⟩
  rcases h.2 with h0 | ⟨g', cap', cur', e1, hbg, hg, rest⟩
  · exact Or.inl h0
  · exact Or.inr ⟨g', cap', cur', e1, Nat.zero_le _, hg, rest⟩

set_option maxRecDepth 100000 in
theorem found_spec (pp start : Nat) (t s : ByteArray) (ss : List St) (sv : Value) (hs : SsOk ss) (hst : start < ss.length) (hsz : s.size ≤ 1000000) (w : World) (hm : PatM w pp t ss sv start) (l : List (Nat × Nat)) (hl : l = allN (longN ss start s) s.size) (hlen : l.length ≤ 1000000) :
    Calls Tryz.prog 55 #[.pointer (some ⟨pp, 0, none⟩), .string s] w fun e w' => ∃ v, e = .returned v ∧ PairsAt w' v l ∧ Below w.heap.size w w' := by
  have HC := Lib.hid (all_spec pp start t s ss sv hs hst (by omega) w hm (by rw [← hl]; omega))
  rw [← hl] at HC
  clear hl hs hst hm
  go_enter Tryz.func55, Tryz.ntmps55
  go_wp2_with fail
  refine HC.out.mono ?_
  rintro e w1 ⟨v, rfl, h1, b1⟩
  have H1 := Lib.hid (PairsAt.of h1)
  have B1 := Lib.hid b1
  clear h1 b1
  go_wp2_with fail
  go_ret
  exact ⟨v, rfl, H1.out, B1.out⟩

end Go.Proofs.YtcojnkjcbopnbaaGreatDoor

/- subst.Split: a walk. -/
namespace Go.Proofs.YtcojnkjcbopnbaaGreatDoor
open Go.RowKit

/-- A text parted by the parts that are not empty, from a place on. -/
def sSplit (s : List UInt8) : List (Nat × Nat) → Nat → List (List UInt8)
  | [], at_ => [s.drop at_]
  | x :: r, at_ => if x.1 < x.2 then (s.drop at_).take (x.1 - at_) :: sSplit s r x.2 else sSplit s r at_
theorem sSplit_len (s : List UInt8) (l : List (Nat × Nat)) : ∀ at_, (sSplit s l at_).length ≤ l.length + 1 := by
  induction l with
  | nil => intro at_; exact Nat.le_refl _
  | cons x r ih =>
    intro at_
    unfold sSplit
    split
    · have := ih x.2; simp only [List.length_cons]; omega
    · have := ih at_; simp only [List.length_cons]; omega

/-- A row of texts that the call has made. -/
structure Lst (B : Nat) (w wr : World) (v : Value) (l : List ByteArray) : Prop where
  row : wr.ownsRow B 9 1 v l.length (l.map Value.string)
  below : Below B w wr
theorem Lst.alloc {B : Nat} {w wr : World} {v : Value} {l : List ByteArray} (h : Lst B w wr v l) (hB : B ≤ wr.heap.size) (o : Obj) : Lst B w (wr.alloc o) v l :=
  ⟨h.row.kept (World.grownBy_alloc wr o none) (by cases v.ownBlock <;> simp), h.below.alloc hB o⟩
theorem Lst.snoc {B : Nat} {w wr w4 : World} {v v' : Value} {l : List ByteArray} {s : ByteArray} (h : Lst B w wr v l) (hB : B ≤ wr.heap.size) (o : Obj) (hown : w4.ownsRow B 9 1 v' (l.length + 1) (l.map Value.string ++ [.string s])) (hg : (wr.alloc o).grownBy w4 v.ownBlock) : Lst B w w4 v' (l ++ [s]) :=
  ⟨by rw [List.length_append, List.map_append]; exact hown, (h.below.alloc hB o).grown hg (by rw [World.size_alloc]; omega) (fun k hk => (h.row.lt k hk).1)⟩
theorem Lst.at_ {B : Nat} {w wr : World} {v : Value} {l : List ByteArray} (h : Lst B w wr v l) : StrsAt wr v l := by
  refine ⟨h.row.1, ?_⟩
  rcases h.row.2 with h0 | ⟨g', cap', cur', e1, hbg, hg, rest⟩
  · exact Or.inl h0
  · exact Or.inr ⟨g', cap', cur', e1, Nat.zero_le _, hg, rest⟩

set_option maxRecDepth 100000 in
set_option maxHeartbeats 4000000 in
theorem split_spec (pp start : Nat) (t s : ByteArray) (ss : List St) (sv : Value) (hs : SsOk ss) (hst : start < ss.length) (hsz : s.size ≤ 100000) (h0 : s.size ≠ 0) (w : World) (hm : PatM w pp t ss sv start) (l : List (Nat × Nat)) (hl : l = allN (longN ss start s) s.size) :
    Calls Tryz.prog 35 #[.pointer (some ⟨pp, 0, none⟩), .string s] w fun e w' => ∃ v pl, e = .returned v ∧ NewStrs w w' v pl ∧ bytesL pl = sSplit s.data.toList l 0 ∧ Below w.heap.size w w' := by
  obtain ⟨i0, hi0', hz0, hz1, hz2⟩ := info_parts info_string
  have ho : Ordered s.size 0 0 l := by rw [hl]; exact foundN_ordered _ _ (longN_ok ss start s) _ 0 0 (by omega)
  have hln := ho.len
  have HF := Lib.hid (found_spec pp start t s ss sv hs hst (by omega) w hm l hl (by omega))
  have HO := Lib.hid ho
  obtain ⟨A, hA⟩ : ∃ A, A = sSplit s.data.toList l 0 := ⟨_, rfl⟩
  have HAl := Lib.hid (sSplit_len s.data.toList l 0)
  rw [← hA] at HAl ⊢
  have HA := Lib.hid hA
  have hs0 : ¬ s.toList = [] := by
    rw [Lib.toList_data]
    intro e
    exact h0 (by have := congrArg List.length e; simpa using this)
  have hse : s.toList.isEmpty = false := by cases h : s.toList with
                                          | nil => exact absurd h hs0
                                          | cons a b => rfl
  clear hs hst hm hl ho hA
  go_enter Tryz.func35, Tryz.ntmps35
  go_wp2_with fail
  refine HF.out.mono ?_
  rintro e w1 ⟨v, rfl, hv, b1⟩
  obtain ⟨va, vc, rfl⟩ := hv.shape
  have HV := Lib.hid hv
  have B1 := Lib.hid b1
  clear hv b1 HF hs0 hse
  go_wp2_with fail
  go_loopw [5, 6, 15] (fun z v y wr => ∃ (i at_ : Nat) (pl : List ByteArray) (a : Option Addr) (c : Nat), z = .slice a pl.length c ∧ v = .int .i64 at_ ∧ y = .int .i64 i ∧ i ≤ l.length ∧ at_ ≤ s.size ∧ pl.length ≤ i ∧ Hid (A = bytesL pl ++ sSplit s.data.toList (l.drop i) at_) ∧ Hid (∃ la, Ordered s.size at_ la (l.drop i)) ∧ Hid (Lst w1.heap.size w1 wr (.slice a pl.length c) pl)) (fun _ _ y _ => l.length - (intOf y).toNat)
  case atStart => exact ⟨0, 0, [], none, 0, rfl, rfl, rfl, by omega, by omega, by simp, Lib.hid (by simpa [bytesL] using HA.out), Lib.hid ⟨_, HO.out⟩, Lib.hid ⟨World.ownsRow_nil _ _ _ _, Below.refl _ _⟩⟩
  case round =>
    obtain ⟨i, at_, pl, a, c, rfl, rfl, rfl, hi, hat, hpl, hE, hO, hP⟩ := hrel
    have hwl := hP.out.below.size
    by_cases hgo : i < l.length
    · obtain ⟨g, e, g1, g2⟩ := (HV.out.after hP.out.below).cell i hgo
      subst e
      have hdr : l.drop i = l[i] :: l.drop (i + 1) := List.drop_eq_getElem_cons hgo
      obtain ⟨x, hx⟩ : ∃ x, x = l[i] := ⟨_, rfl⟩
      rw [← hx] at g1 g2 hdr
      have hord : at_ ≤ x.1 ∧ x.1 ≤ x.2 ∧ x.2 ≤ s.size ∧ ∃ la, Ordered s.size x.2 la (l.drop (i + 1)) := by
        obtain ⟨la, h⟩ := hO.out
        rw [hdr] at h
        cases h with
        | cons _ _ b e _ h1 h2 h3 h4 h => exact ⟨h1, h2, h3, _, h⟩
      obtain ⟨o1, o2, o3, o4⟩ := hord
      have O4 := Lib.hid o4
      obtain ⟨xa, hxa⟩ : ∃ n, n = x.1 := ⟨_, rfl⟩
      obtain ⟨xb, hxb⟩ : ∃ n, n = x.2 := ⟨_, rfl⟩
      rw [← hxa] at g1 o1 o2
      rw [← hxb] at g2 o2 o3 O4
      have hE1 : Hid (A = bytesL pl ++ (if xa < xb then (s.data.toList.drop at_).take (xa - at_) :: sSplit s.data.toList (l.drop (i + 1)) xb else sSplit s.data.toList (l.drop (i + 1)) at_)) := Lib.hid (by
        rw [hE.out, hdr, hxa, hxb]
        rfl)
      clear hdr hx hxa hxb hE hO o4
      go_upto_region 8 with (fail)
      change Code.wp _ _ _ _ (wr.alloc (Obj.cells #[.int .i64 (xa : Nat), .int .i64 (xb : Nat)] 99))
      obtain ⟨V, hV⟩ : ∃ V, V = wr.alloc (Obj.cells #[.int .i64 (xa : Nat), .int .i64 (xb : Nat)] 99) := ⟨_, rfl⟩
      have P1 : Hid (Lst w1.heap.size w1 V (.slice a pl.length c) pl) := Lib.hid (by rw [hV]; exact hP.out.alloc hwl _)
      have hrow : V.heap[wr.heap.size]? = some (.cells #[.int .i64 (xa : Nat), .int .i64 (xb : Nat)] 99 (0, 0)) := by rw [hV]; exact heap_alloc_last _ _
      have hVs : V.heap.size = wr.heap.size + 1 := by rw [hV, World.size_alloc]
      rw [← hV]
      have HRow := Lib.hid hrow
      have k0 := cell_of_row _ _ 0 _ _ _ hrow
      have k1 := cell_of_row _ _ 1 _ _ _ hrow
      have HVs := Lib.hid hVs
      clear hV hrow g1 g2 hP hVs
      by_cases hlt : xa < xb
      · have hd : decide ((xa : Int) < (xb : Int)) = true := decide_eq_true (by omega)
        have hE2 : Hid (A = bytesL (pl ++ [s.extract at_ xa]) ++ sSplit s.data.toList (l.drop (i + 1)) xb) := Lib.hid (by
          rw [hE1.out, if_pos hlt, bytesL_snoc, Lib.extract_data, List.append_assoc]
          rfl)
        have R5 := Lib.hid (heap_alloc_last V (.cells #[.string (s.extract at_ xa)] 9))
        have M5 := Lib.hid (P1.out.alloc (by have := HVs.out; omega) (.cells #[.string (s.extract at_ xa)] 9)).row
        clear hE1
        go_wp2_with (at_builtin; refine wpList_append_own _ rfl _ _ 35 rfl w1.heap.size 9 i0 (.string ByteArray.empty) 1 16 Tryz.underlying35 hi0' hz0 hz1 hz2 rfl (by decide) _ _ _ rfl M5.out ⟨V.heap.size, 0, none⟩ 1 1 [.string (s.extract at_ xa)] rfl rfl ?c1 ?c2 ?c3 ?c4 ?c5 ?_)
        case c1 =>
          intro j u hj
          have e : (⟨V.heap.size, 0, none⟩ : Addr).add j = ⟨V.heap.size, j, none⟩ := by unfold Addr.add; split <;> simp_all
          rw [e]
          exact (cell_of_row _ _ j _ _ _ R5.out).trans (by simpa using hj)
        case c2 => intro u hu; simp at hu; subst hu; rfl
        case c3 => unfold maxLen; omega
        case c4 => omega
        case c5 => have := HVs.out; rw [World.size_alloc]; omega
        intro v' w4 hown' hgrow _
        have P4 := Lib.hid (P1.out.snoc (s := s.extract at_ xa) (by have := HVs.out; omega) (.cells #[.string (s.extract at_ xa)] 9) hown' hgrow)
        have hrow4 : w4.heap[wr.heap.size]? = some (.cells #[.int .i64 (xa : Nat), .int .i64 (xb : Nat)] 99 (0, 0)) := by
          rw [hgrow.block wr.heap.size (by have := HVs.out; rw [World.size_alloc]; omega) (fun e => ?_)]
          · rw [Lib.alloc_old V _ wr.heap.size (by have := HVs.out; omega)]
            exact HRow.out
          · obtain ⟨cc, hcc⟩ := own_kind P1.out.row wr.heap.size e.symm
            rw [HRow.out] at hcc
            simp at hcc
        obtain ⟨av, cv, rfl⟩ : ∃ av cv, v' = .slice av (pl.length + 1) cv := by
          rcases hown'.2 with ⟨hv, h0⟩ | ⟨g, cap, cur, hv, _⟩
          · exact absurd h0 (by omega)
          · exact ⟨_, _, hv⟩
        have k2 := cell_of_row _ _ 1 _ _ _ hrow4
        clear hown' hgrow hrow4 k0 k1
        go_wp2_with fail
        go_roundw
        case rel => exact ⟨i + 1, xb, pl ++ [s.extract at_ xa], av, cv, by rw [List.length_append]; rfl, rfl, by go_num, by omega, by omega, by rw [List.length_append, List.length_singleton]; omega, hE2, O4, Lib.hid (by have h := P4.out; rw [List.length_append]; exact h)⟩
        case measure => simp [intOf]; omega
      · have hd : decide ((xa : Int) < (xb : Int)) = false := decide_eq_false (by omega)
        have hE2 : Hid (A = bytesL pl ++ sSplit s.data.toList (l.drop (i + 1)) at_) := Lib.hid (by rw [hE1.out, if_neg hlt])
        have O5 : Hid (∃ la, Ordered s.size at_ la (l.drop (i + 1))) := Lib.hid (by obtain ⟨la, h⟩ := O4.out; exact ⟨la, h.weak (by omega)⟩)
        clear hE1
        go_wp2_with fail
        go_roundw
        case rel => exact ⟨i + 1, at_, pl, a, c, rfl, rfl, by go_num, by omega, by omega, by omega, hE2, O5, P1⟩
        case measure => simp [intOf]; omega
    · obtain rfl : i = l.length := by omega
      have hE2 : Hid (A = bytesL (pl ++ [s.extract at_ s.size])) := Lib.hid (by
        rw [hE.out, List.drop_length, bytesL_snoc, Lib.extract_data, List.take_of_length_le (by simp)]
        rfl)
      have R5 := Lib.hid (heap_alloc_last wr (.cells #[.string (s.extract at_ s.size)] 9))
      have M5 := Lib.hid (hP.out.alloc hwl (.cells #[.string (s.extract at_ s.size)] 9)).row
      clear hE
      go_wp2_with (at_builtin; refine wpList_append_own _ rfl _ _ 35 rfl w1.heap.size 9 i0 (.string ByteArray.empty) 1 16 Tryz.underlying35 hi0' hz0 hz1 hz2 rfl (by decide) _ _ _ rfl M5.out ⟨wr.heap.size, 0, none⟩ 1 1 [.string (s.extract at_ s.size)] rfl rfl ?c1 ?c2 ?c3 ?c4 ?c5 ?_)
      case c1 =>
        intro j u hj
        have e : (⟨wr.heap.size, 0, none⟩ : Addr).add j = ⟨wr.heap.size, j, none⟩ := by unfold Addr.add; split <;> simp_all
        rw [e]
        exact (cell_of_row _ _ j _ _ _ R5.out).trans (by simpa using hj)
      case c2 => intro u hu; simp at hu; subst hu; rfl
      case c3 => unfold maxLen; omega
      case c4 => omega
      case c5 => rw [World.size_alloc]; omega
      intro v' w4 hown' hgrow _
      have P4 := Lib.hid (hP.out.snoc (s := s.extract at_ s.size) hwl (.cells #[.string (s.extract at_ s.size)] 9) hown' hgrow)
      obtain ⟨av, cv, rfl⟩ : ∃ av cv, v' = .slice av (pl.length + 1) cv := by
        rcases hown'.2 with ⟨hv, h0⟩ | ⟨g, cap, cur, hv, _⟩
        · exact absurd h0 (by omega)
        · exact ⟨_, _, hv⟩
      clear hown' hgrow
      go_wp2_with fail
      go_ret
      exact ⟨_, pl ++ [s.extract at_ s.size], rfl, own_low P4.out.row B1.out.size, hE2.out.symm, Below.step B1.out P4.out.below⟩
end Go.Proofs.YtcojnkjcbopnbaaGreatDoor

/- Rows of numbers: an append, a cell. -/
namespace Go.Proofs.YtcojnkjcbopnbaaGreatDoor.T2
open Go.Proofs.YtcojnkjcbopnbaaGreatDoor Go.Proofs
open Go.RowKit

def ints (l : List Nat) : List Value := l.map fun (d : Nat) => Value.int .i64 (d : Int)
theorem info_int : (Tryz.prog.info? 3).map (fun i => (i.zero, i.size, i.bytes)) = some (some (.int .i64 0), 1, 8) := by kernel_rfl

/-- append of one number to a row whose block is base or behind. -/
theorem wp_append_int {ops : Array Oper} {rest : List Oper} {o : Oper} {a : Act} {Q : Exit → Act → World → Prop} (hgd : o.guard = none) (s x : Operand)
    (ho : o.op = .call { callee := .builtin .append, args := #[s, x], argTypes := #[169, 169] }) (base : Nat) (w : World) (v : Value) (k : Nat) (l : List Nat) (d : Nat)
    (hs : a.eval s = v) (hown : w.ownsRow base 3 1 v k (ints l)) (hx : a.eval x = .slice (some ⟨w.heap.size, 0, none⟩) 1 1) (hk : k ≤ 2000000) (hbase : base ≤ w.heap.size)
    (h : ∀ p c w', Hid (w'.ownsRow base 3 1 (.slice p (k + 1) c) (k + 1) (ints (l ++ [d]))) → Hid (w.grownBy w' v.ownBlock) → wpList Tryz.prog ops Q rest (a.put o.dst (.slice p (k + 1) c)) w') :
    wpList Tryz.prog ops Q (o :: rest) a (w.alloc (.cells #[.int .i64 (d : Int)] 3)) := by
  obtain ⟨i0, hi, hz0, hz1, hz2⟩ := info_parts info_int
  refine wpList_append_own _ hgd s x 169 ho base 3 i0 (.int .i64 0) 1 8 Tryz.underlying169 hi hz0 hz1 hz2 rfl (by decide) v k (ints l) hs (hown.alloc _) ⟨w.heap.size, 0, none⟩ 1 1 [.int .i64 (d : Int)] hx rfl ?_ ?_ ?_ ?_ ?_ ?_
  · intro j u hj
    cases j with
    | zero => simp at hj; subst hj; simp [Addr.add, go_sem]
    | succ j => simp at hj
  · intro u hu; simp at hu; subst hu; rfl
  · simp only [maxLen]; omega
  · omega
  · simp; exact Nat.le_succ_of_le hbase
  · intro v' w' hown' hg _
    have e : ints (l ++ [d]) = ints l ++ [.int .i64 (d : Int)] := by simp [ints]
    rw [← e] at hown'
    obtain ⟨p, c, rfl⟩ : ∃ p c, v' = .slice p (k + 1) c := by
      rcases hown'.2 with ⟨_, h0⟩ | ⟨g, cap, cur, hv, _⟩
      · omega
      · exact ⟨_, _, hv⟩
    refine h p c w' (Lib.hid hown') (Lib.hid ?_)
    exact ⟨hg.os, hg.tape, hg.output, Nat.le_trans (by simp) hg.size, fun i hi hne => (hg.block i (by simp; omega) hne).trans (Below.heap_alloc w _ i hi)⟩

theorem own_int_at {w : World} {base : Nat} {p : Option Addr} {c k : Nat} {l : List Nat} (h : w.ownsRow base 3 1 (.slice p k c) k (ints l)) {i x : Nat} (hx : l[i]? = some x) :
    ∃ g, p = some ⟨g, 0, none⟩ ∧ g < w.heap.size ∧ w.cell? ⟨g, i, none⟩ = some (.int .i64 (x : Int)) := by
  have hl : i < l.length := by
    rcases Nat.lt_or_ge i l.length with h | h
    · exact h
    · rw [List.getElem?_eq_none h] at hx; cases hx
  have hlen := h.1
  unfold ints at hlen
  rw [List.length_map] at hlen
  rcases id h.2 with ⟨_, h0⟩ | ⟨g, cap, cur, hv, _⟩
  · omega
  injection hv with hp hn hc
  subst hp
  refine ⟨g, rfl, (h.lt g rfl).2, ?_⟩
  subst hc
  rw [h.cellAt i (by omega)]
  unfold ints
  rw [List.getElem?_map, hx]
  rfl

end Go.Proofs.YtcojnkjcbopnbaaGreatDoor.T2

/- Contracts of Chars: the program's, and the document's answer. -/
namespace Go.Proofs.YtcojnkjcbopnbaaGreatDoor.T2
open Go.Proofs.YtcojnkjcbopnbaaGreatDoor Go.Proofs
open Go.RowKit

/-- A new slice that reads as the text's characters. -/
def CharsPost (s : ByteArray) (w : World) (e : Ending) (w' : World) : Prop :=
  ∃ p n c, e = .returned (.slice p n c) ∧ NewStrs w w' (.slice p n c) (chs s 0) ∧ n = (chs s 0).length ∧ Below w.heap.size w w'

theorem lt_cnt {s : ByteArray} {k p : Nat} (hp : adv s 0 k = p) (hlt : p < s.size) : k < cnt s 0 := by
  rcases Nat.lt_or_ge k (cnt s 0) with h | h
  · exact h
  · have := adv_cnt s 0 k (Nat.zero_le _) h; omega

theorem chs_take_succ {s : ByteArray} {k p : Nat} (hp : adv s 0 k = p) (hlt : p < s.size) : (chs s 0).take (k + 1) = (chs s 0).take k ++ [s.extract p (p + cw s p)] := by
  have hk := lt_cnt hp hlt
  have h1 := chs_get s 0 k hk
  rw [hp, adv_succ, hp, adv_one hlt] at h1
  rw [List.take_add_one, h1]
  rfl

theorem chs_all {s : ByteArray} {k p : Nat} (hp : adv s 0 k = p) (hlt : ¬ p < s.size) : (chs s 0).take k = chs s 0 ∧ cnt s 0 ≤ k := by
  have hk : cnt s 0 ≤ k := by
    rcases Nat.lt_or_ge k (cnt s 0) with h | h
    · have := adv_lt_cnt s 0 k h; omega
    · exact h
  exact ⟨List.take_of_length_le hk, hk⟩

theorem tail_behind (s : ByteArray) (p : Nat) (h : p < s.size) : adv (s.extract p s.size) 0 1 = cw s p := by
  rw [adv_one (by rw [Lib.tail_size]; omega), tail_cw, Nat.zero_add, Nat.add_zero]

theorem str_ext {a b : ByteArray} (h : a = b) : Value.string a = Value.string b := by rw [h]

set_option maxRecDepth 100000 in
set_option maxHeartbeats 1000000 in
theorem chars_any (s : ByteArray) (hs : s.size ≤ 1048576) (w : World) :
    Calls Tryz.prog 33 #[.string s] w (CharsPost s w) := by
  have hs' : s.size ≤ maxLen := by simp only [maxLen]; omega
  have LN := Lib.hid (fun w => len_any s hs' w)
  have BT := Lib.hid (fun p w (h : p < s.size) => show Calls Tryz.prog 53 #[.string (s.extract p s.size), .int .i64 1] w fun e w' => e = .returned (.int .i64 (cw s p)) ∧ Below w.heap.size w w' from by
    rw [← tail_behind s p h]; exact behind_any (s.extract p s.size) 1 (by rw [Lib.tail_size]; omega) (by omega) w)
  have hn1 := cnt_le s _ 0 (Nat.le_refl _)
  have hn2 : cnt s 0 ≤ 1048576 := by omega
  have hA := Lib.hid (part_all s)
  clear hs'
  go_enter Tryz.func33, Tryz.ntmps33
  go_wp2_with fail
  refine (LN.out _).mono ?_
  rintro e w1 ⟨rfl, b1⟩
  have HW := Lib.hid b1.size
  have B1 := Lib.hid b1; clear b1
  go_wp2_with (at_make; refine wp_make_strs rfl _ _ rfl _ (cnt s 0) rfl rfl (by omega) ?_; intro w2 hown hb2)
  have HB2 := Lib.hid (Below.step B1.out hb2.out)
  have HZ2 := Lib.hid hb2.out.size; clear hb2
  go_loopw [0, 3] (fun x y wr => ∃ (pos k : Nat) (p : Option Addr) (c : Nat), x = .string (s.extract pos s.size) ∧ pos ≤ s.size ∧ k ≤ cnt s 0 ∧ Hid (adv s 0 k = pos) ∧ y = .slice p k c ∧ Hid (wr.ownsRow w1.heap.size 9 1 (.slice p k c) k (strs ((chs s 0).take k))) ∧ Hid (Below w.heap.size w wr ∧ w1.heap.size ≤ wr.heap.size)) (fun x _ _ => match x with | .string t => t.size | _ => 0)
  case atStart => exact ⟨0, 0, _, _, str_ext hA.out.symm, by omega, by omega, Lib.hid rfl, rfl, by rw [List.take_zero]; exact hown, Lib.hid ⟨HB2.out, HZ2.out⟩⟩
  case round =>
    obtain ⟨pos, k, p, c, rfl, hp, hk, hadv, rfl, hown, hbel⟩ := hrel
    by_cases hlt : pos < s.size
    · have hne : (!(s.extract pos s.size).toList.isEmpty) = true := by
        rw [Lib.extract_toList]
        have h1 : (s.data.toList.drop pos).take (s.size - pos) ≠ [] := by
          intro e
          have h2 := congrArg List.length e
          rw [List.length_take, List.length_drop, ← Lib.size_eq] at h2
          simp at h2; omega
        simpa using h1
      have hkc : k + 1 ≤ cnt s 0 := lt_cnt hadv.out hlt
      have hw1 := cw_le hlt
      have hw2 := cw_pos s pos
      have BP := Lib.hid (fun w => BT.out pos w hlt)
      go_wp2_with fail
      refine (BP.out _).mono ?_
      rintro e w3 ⟨rfl, b3⟩
      have HB3 := Lib.hid (Below.step hbel.out.1 b3)
      have HO3 := Lib.hid (own_below hown.out b3)
      have HZ3 := Lib.hid (Nat.le_trans hbel.out.2 b3.size)
      clear b3
      have hcw : cw s pos ≤ s.size - pos := by omega
      go_wp2_with (at_builtin; refine wp_append_str rfl _ _ rfl w1.heap.size w3 (.slice p k c) k ((chs s 0).take k) _ rfl HO3.out rfl (by omega) HZ3.out ?_; intro vp vc w4 hown4 hg4)
      have HB4 := Lib.hid (own_grown HO3.out hg4.out HB3.out (by exact HW.out))
      have HZ4 := Lib.hid (Nat.le_trans HZ3.out hg4.out.size)
      clear hg4
      have HT := Lib.hid (chs_take_succ hadv.out hlt)
      go_roundw
      case rel =>
        refine ⟨pos + cw s pos, k + 1, vp, vc, str_ext ?_, hw1, hkc, Lib.hid ?_, rfl, Lib.hid ?_, Lib.hid ⟨HB4.out, HZ4.out⟩⟩
        · rw [part_part s pos s.size _ _ (by omega), show pos + (s.size - pos) = s.size from by omega]
        · rw [adv_succ, hadv.out, adv_one hlt]
        · have h := hown4.out
          rw [part_part s pos s.size _ _ (by omega)] at h
          simp only [Nat.add_zero] at h
          rw [← HT.out] at h
          exact h
      case measure =>
        simp only [ByteArray.size_extract]
        omega
    · have hne : (!(s.extract pos s.size).toList.isEmpty) = false := by
        rw [part_none s pos s.size (by omega), Lib.toList_data]; rfl
      obtain ⟨h1, h2⟩ := chs_all hadv.out hlt
      obtain rfl : k = cnt s 0 := by omega
      rw [h1] at hown
      have HR : Hid (NewStrs w wr (.slice p (cnt s 0) c) (chs s 0)) := Lib.hid (own_low hown.out HW.out)
      clear h1 h2
      go_wp2_with fail
      go_ret
      exact ⟨_, _, _, rfl, HR.out, rfl, hbel.out.1⟩

/-! ### The document's answer -/
def starts (s : ByteArray) (k : Nat) : List Nat := (List.range k).map (adv s 0)
theorem starts_succ (s : ByteArray) (k : Nat) : starts s (k + 1) = starts s k ++ [adv s 0 k] := by
  unfold starts; rw [List.range_succ, List.map_append]; rfl
theorem starts_get (s : ByteArray) {k i : Nat} (h : i < k) : (starts s k)[i]? = some (adv s 0 i) := by
  unfold starts; rw [List.getElem?_map, List.getElem?_range h]; rfl

end Go.Proofs.YtcojnkjcbopnbaaGreatDoor.T2
