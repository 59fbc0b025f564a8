/- Merged by program: SPieces2, SRepl, SAll. -/
import Derived.Test.YtimipfdknfdbdaaGreatQsay
import Derived.Test.YtimipfdknfdbdaaGreatQsax
/- subst.pieces: a walk. -/
namespace Go.Proofs.YtimipfdknfdbdaaGreat
open Go.RowKit

theorem sPiece_split {s : ByteArray} {i : Nat} (hi : i < s.size) : s.data.toList.drop i = s[i] :: s.data.toList.drop (i + 1) := by
  rw [List.drop_eq_getElem_cons (by simpa using hi)]; rfl

theorem sPiece_amp (c : UInt8) (r cur : List UInt8) (h : c = 38) : sPiece (c :: r) false cur = cur :: sPiece r false [] := by
  show (if c = 38 then _ else _) = _
  rw [if_pos h]
theorem sPiece_esc (c : UInt8) (r cur : List UInt8) (h : c ≠ 38) (h2 : c = 92 ∧ (r.head? = some 38 ∨ r.head? = some 92)) : sPiece (c :: r) false cur = sPiece r true cur := by
  show (if c = 38 then _ else if _ then _ else _) = _
  rw [if_neg h, if_pos h2]
theorem sPiece_one (c : UInt8) (r cur : List UInt8) (h : c ≠ 38) (h2 : ¬ (c = 92 ∧ (r.head? = some 38 ∨ r.head? = some 92))) : sPiece (c :: r) false cur = sPiece r false (cur ++ [c]) := by
  show (if c = 38 then _ else if _ then _ else _) = _
  rw [if_neg h, if_neg h2]
theorem sowns_after {w w' : World} {base : Nat} {e : TypeId} {size : Nat} {v : Value} {n : Nat} {xs : List Value} (h : w.ownsRow base e size v n xs) (hb : Below w.heap.size w w') : w'.ownsRow base e size v n xs :=
  h.kept (row := none) ⟨hb.os, hb.tape, hb.output, hb.size, fun k hk _ => hb.block k hk⟩ (by cases v.ownBlock <;> simp)

set_option maxRecDepth 100000 in
set_option maxHeartbeats 4000000 in
theorem pieces_spec (s : ByteArray) (hs : s.size ≤ 1000000) (w : World) :
    Calls Tryz.prog 23 #[.string s] w (PiecesOut s w) := by
  obtain ⟨i0, hi0', hz0, hz1, hz2⟩ := info_parts info_string
  have hlenA := sPiece_len s.data.toList false []
  have hallA := sPiece_all s.data.toList false []
  obtain ⟨A, hA⟩ : ∃ A, A = sPiece s.data.toList false [] := ⟨_, rfl⟩
  rw [← hA] at hlenA hallA
  have hsl : s.data.toList.length = s.size := by simp
  rw [hsl] at hlenA hallA
  have HAl := Lib.hid hlenA
  have HAa := Lib.hid hallA
  have HA := Lib.hid hA
  clear hlenA hallA hA hsl
  go_enter Tryz.func23, Tryz.ntmps23
  go_upto_region 3 with (fail)
  obtain ⟨W, hW, HW, HB⟩ := builder_new w
  rw [← hW]
  clear hW
  go_wp2_with fail
  go_loopw [3, 5] (fun v y wr => ∃ (i : Nat) (l : List ByteArray) (cur : List UInt8) (a : Option Addr) (c : Nat), v = .slice a l.length c ∧ y = .int .i64 i ∧ i ≤ s.size ∧ l.length ≤ i ∧ Hid (cur.length ≤ i) ∧ Hid (A = bytesL l ++ sPiece (s.data.toList.drop i) false cur) ∧ Hid (Pcs w wr (.slice a l.length c) l cur)) (fun _ y _ => s.size - (intOf y).toNat)
  case atStart => exact ⟨0, [], [], none, 0, rfl, rfl, by omega, by simp, Lib.hid (by simp), Lib.hid (by simpa [bytesL] using HA.out), Lib.hid ⟨HW.out, World.ownsRow_nil _ _ _ _, HB.out⟩⟩
  case round =>
    obtain ⟨i, l, cur, a, c, rfl, rfl, hi, hll, hcl, hE, hP⟩ := hrel
    by_cases hgo : i < s.size
    · have hsp := Lib.hid (sPiece_split hgo)
      by_cases h38 : s[i] = 38
      · have hd : ((s[i].toNat : Int) == 38) = true := by rw [h38]; rfl
        have hE2 : Hid (A = bytesL (l ++ [⟨cur.toArray⟩]) ++ sPiece (s.data.toList.drop (i + 1)) false []) := Lib.hid (by
          rw [hE.out, hsp.out, bytesL_snoc]
          rw [sPiece_amp _ _ _ h38]
          simp)
        clear hE h38
        have HS := Lib.hid (string_k w.heap.size w.heap.size cur wr hP.out.ok)
        go_wp2_with fail
        refine HS.out.mono ?_
        rintro e w2 ⟨rfl, hw2⟩
        have P2 := Lib.hid (hP.out.wrote hw2)
        have R5 := Lib.hid (heap_alloc_last w2 (.cells #[.string ⟨cur.toArray⟩] 9))
        have M5 := Lib.hid (sowns_after P2.out.row (below_new w2 (.cells #[.string ⟨cur.toArray⟩] 9)))
        clear hw2
        go_wp2_with (at_builtin; refine wpList_append_own _ rfl _ _ 70 rfl w.heap.size 9 i0 (.string ByteArray.empty) 1 16 Tryz.underlying70 hi0' hz0 hz1 hz2 rfl (by decide) _ _ _ rfl M5.out ⟨w2.heap.size, 0, none⟩ 1 1 [.string ⟨cur.toArray⟩] rfl rfl ?c1 ?c2 ?c3 ?c4 ?c5 ?_)
        case c1 =>
          intro j u hj
          have e : (⟨w2.heap.size, 0, none⟩ : Addr).add j = ⟨w2.heap.size, j, none⟩ := by unfold Addr.add; split <;> simp_all
          rw [e]
          exact (cell_of_row _ _ j _ _ _ R5.out).trans (by simpa using hj)
        case c2 => intro u hu; simp at hu; subst hu; rfl
        case c3 => unfold maxLen; omega
        case c4 => omega
        case c5 => have := P2.out.below.size; rw [World.size_alloc]; omega
        intro v' w4 hown' hgrow _
        have P4 := Lib.hid (P2.out.snoc (s := ⟨cur.toArray⟩) (.cells #[.string ⟨cur.toArray⟩] 9) hown' hgrow)
        obtain ⟨av, cv, rfl⟩ : ∃ av cv, v' = .slice av (l.length + 1) cv := by
          rcases hown'.2 with ⟨hv, h0⟩ | ⟨g, cap, cur, hv, _⟩
          · exact absurd h0 (by omega)
          · exact ⟨_, _, hv⟩
        clear hown' hgrow
        have HRs := Lib.hid (reset_spec w.heap.size w.heap.size cur w4 P4.out.ok)
        go_wp2_with fail
        refine HRs.out.mono ?_
        rintro e w5 ⟨rfl, hw5⟩
        have P5 := Lib.hid (P4.out.wrote hw5)
        clear hw5
        go_wp2_with fail
        go_roundw
        case rel => exact ⟨i + 1, l ++ [⟨cur.toArray⟩], [], av, cv, by rw [List.length_append]; rfl, by go_num, by omega, by rw [List.length_append, List.length_singleton]; omega, Lib.hid (by simp), hE2, Lib.hid (by have h := P5.out; rw [List.length_append]; exact h)⟩
        case measure => simp [intOf]; omega
      · have hd : ((s[i].toNat : Int) == 38) = false := by
          apply beq_eq_false_iff_ne.2
          intro e
          apply h38
          have : s[i].toNat = (38 : UInt8).toNat := by have : s[i].toNat = 38 := by omega
                                                       rw [this]; rfl
          exact UInt8.toNat_inj.1 this
        have hex : (s.extract i s.size).data.toList = s[i] :: s.data.toList.drop (i + 1) := by
          rw [Lib.extract_data, ← hsp.out, List.take_of_length_le (by simp)]
        by_cases he : s[i] = 92 ∧ ((s.data.toList.drop (i + 1)).head? = some 38 ∨ (s.data.toList.drop (i + 1)).head? = some 92)
        · have hi1 : i + 1 < s.size := by
            rcases Nat.lt_or_ge (i + 1) s.size with h | h
            · exact h
            · have := he.2; rw [List.drop_eq_nil_of_le (by simpa using h)] at this; simp at this
          have HEs := Lib.hid (fun w => isEscape_spec (s.extract i s.size) true (by rw [hex]; exact (sEsc_cons _ _).2 he) w)
          have hE2 : Hid (A = bytesL l ++ sPiece (s.data.toList.drop (i + 2)) false (cur ++ [s[i + 1]])) := Lib.hid (by
            rw [hE.out, hsp.out]
            rw [sPiece_esc _ _ _ h38 he]
            rw [sPiece_split hi1]
            rfl)
          have HBy := Lib.hid (byte_spec w.heap.size w.heap.size cur s[i + 1] wr hP.out.ok (by have := hcl.out; omega))
          clear hE h38 hex he
          go_wp2_with fail
          refine (HEs.out _).mono ?_
          rintro e w2 ⟨rfl, rfl⟩
          go_wp2_with fail
          refine HBy.out.mono ?_
          rintro e w3 ⟨rfl, hw3⟩
          have P3 := Lib.hid (hP.out.wrote hw3)
          clear hw3
          go_wp2_with fail
          go_roundw
          case rel => exact ⟨i + 2, l, _, a, c, rfl, by go_num, by omega, by omega, Lib.hid (by have := hcl.out; rw [List.length_append, List.length_singleton]; omega), hE2, P3⟩
          case measure => simp [intOf]; omega
        · have HEs := Lib.hid (fun w => isEscape_spec (s.extract i s.size) false (by rw [hex]; exact Bool.eq_false_iff.2 (fun h => he ((sEsc_cons _ _).1 h))) w)
          have hE2 : Hid (A = bytesL l ++ sPiece (s.data.toList.drop (i + 1)) false (cur ++ [s[i]])) := Lib.hid (by
            rw [hE.out, hsp.out]
            rw [sPiece_one _ _ _ h38 he])
          have HBy := Lib.hid (byte_spec w.heap.size w.heap.size cur s[i] wr hP.out.ok (by have := hcl.out; omega))
          clear hE h38 hex he
          go_wp2_with fail
          refine (HEs.out _).mono ?_
          rintro e w2 ⟨rfl, rfl⟩
          go_wp2_with fail
          refine HBy.out.mono ?_
          rintro e w3 ⟨rfl, hw3⟩
          have P3 := Lib.hid (hP.out.wrote hw3)
          clear hw3
          go_wp2_with fail
          go_roundw
          case rel => exact ⟨i + 1, l, _, a, c, rfl, by go_num, by omega, by omega, Lib.hid (by have := hcl.out; rw [List.length_append, List.length_singleton]; omega), hE2, P3⟩
          case measure => simp [intOf]; omega
    · obtain rfl : i = s.size := by omega
      have hE2 : Hid (A = bytesL (l ++ [⟨cur.toArray⟩])) := Lib.hid (by
        rw [hE.out, List.drop_eq_nil_of_le (by simp), bytesL_snoc]
        rfl)
      clear hE
      have HS := Lib.hid (string_k w.heap.size w.heap.size cur wr hP.out.ok)
      go_wp2_with fail
      refine HS.out.mono ?_
      rintro e w2 ⟨rfl, hw2⟩
      have P2 := Lib.hid (hP.out.wrote hw2)
      have R5 := Lib.hid (heap_alloc_last w2 (.cells #[.string ⟨cur.toArray⟩] 9))
      have M5 := Lib.hid (sowns_after P2.out.row (below_new w2 (.cells #[.string ⟨cur.toArray⟩] 9)))
      clear hw2
      go_wp2_with (at_builtin; refine wpList_append_own _ rfl _ _ 70 rfl w.heap.size 9 i0 (.string ByteArray.empty) 1 16 Tryz.underlying70 hi0' hz0 hz1 hz2 rfl (by decide) _ _ _ rfl M5.out ⟨w2.heap.size, 0, none⟩ 1 1 [.string ⟨cur.toArray⟩] rfl rfl ?c1 ?c2 ?c3 ?c4 ?c5 ?_)
      case c1 =>
        intro j u hj
        have e : (⟨w2.heap.size, 0, none⟩ : Addr).add j = ⟨w2.heap.size, j, none⟩ := by unfold Addr.add; split <;> simp_all
        rw [e]
        exact (cell_of_row _ _ j _ _ _ R5.out).trans (by simpa using hj)
      case c2 => intro u hu; simp at hu; subst hu; rfl
      case c3 => unfold maxLen; omega
      case c4 => omega
      case c5 => have := P2.out.below.size; rw [World.size_alloc]; omega
      intro v' w4 hown' hgrow _
      have P4 := Lib.hid (P2.out.snoc (s := ⟨cur.toArray⟩) (.cells #[.string ⟨cur.toArray⟩] 9) hown' hgrow)
      obtain ⟨av, cv, rfl⟩ : ∃ av cv, v' = .slice av (l.length + 1) cv := by
        rcases hown'.2 with ⟨hv, h0⟩ | ⟨g, cap, cur, hv, _⟩
        · exact absurd h0 (by omega)
        · exact ⟨_, _, hv⟩
      clear hown' hgrow
      go_wp2_with fail
      go_ret
      have hr := P4.out.row
      refine ⟨_, l ++ [⟨cur.toArray⟩], rfl, by rw [← HA.out]; exact hE2.out.symm, ⟨hr.1, ?_⟩, P4.out.below⟩
      rcases hr.2 with ⟨h0, h1⟩ | ⟨g', cap', cur', e1, hbg, hg, rest⟩
      · exact absurd h1 (by simp)
      · exact Or.inr ⟨g', cap', cur', e1, Nat.zero_le _, hg, rest⟩

theorem bytesL_len (l : List ByteArray) : (bytesL l).length = l.length := by simp [bytesL]
end Go.Proofs.YtimipfdknfdbdaaGreat

/- subst.replaced, found, All: walks. -/
namespace Go.Proofs.YtimipfdknfdbdaaGreat
open Go.RowKit

/-- A text with parts replaced, from a place on. -/
def sRepl (by_ s : List UInt8) : List (Nat × Nat) → Nat → List UInt8
  | [], at_ => s.drop at_
  | x :: r, at_ => (s.drop at_).take (x.1 - at_) ++ (sPut ((s.drop x.1).take (x.2 - x.1)) by_ false ++ sRepl by_ s r x.2)
theorem Ordered.many {n a last : Nat} {l : List (Nat × Nat)} (h : Ordered n a last l) : l.length + last ≤ n + 1 ∨ l = [] := by
  induction h with
  | nil => exact Or.inr rfl
  | cons at_ last b e l h1 h2 h3 h4 h ih =>
    left
    rcases ih with ih | rfl
    · rw [List.length_cons]; omega
    · simp; omega
theorem Ordered.len {n : Nat} {l : List (Nat × Nat)} (h : Ordered n 0 0 l) : l.length ≤ n + 1 := by
  rcases h.many with h | rfl
  · omega
  · simp

theorem size_list (b : ByteArray) : b.data.toList.length = b.size := by rw [Array.length_toList]; rfl
/-- The rows of parts that a caller owns. -/
def PairsAt (w : World) (v : Value) (l : List (Nat × Nat)) : Prop := w.ownsRow 0 54 2 v l.length (pairs l)
theorem PairsAt.keep {w w' : World} {v : Value} {l : List (Nat × Nat)} (h : PairsAt w v l) (e : ∀ (k : Nat) (c : Array Value), v.ownBlock = some k → w.heap[k]? = some (.cells c 54 (0, 0)) → w'.heap[k]? = w.heap[k]?) : PairsAt w' v l := by
  refine ⟨h.1, ?_⟩
  rcases h.2 with h0 | ⟨g', cap', cur, rfl, hb, hg, rest⟩
  · exact Or.inl h0
  · exact Or.inr ⟨g', cap', cur, rfl, hb, by rw [e g' _ rfl hg]; exact hg, rest⟩
theorem PairsAt.after {w w' : World} {v : Value} {l : List (Nat × Nat)} (h : PairsAt w v l) (hb : Below w.heap.size w w') : PairsAt w' v l := h.keep fun k _ _ hk => hb.block k (Array.getElem?_eq_some_iff.1 hk).1
theorem PairsAt.shape {w : World} {v : Value} {l : List (Nat × Nat)} (h : PairsAt w v l) : ∃ a c, v = .slice a l.length c := by
  rcases h.2 with ⟨e, h0⟩ | ⟨g', cap', cur, e, _⟩
  · exact ⟨none, 0, by rw [e, h0]⟩
  · exact ⟨_, _, e⟩
theorem PairsAt.cell {w : World} {a : Option Addr} {c : Nat} {l : List (Nat × Nat)} (h : PairsAt w (.slice a l.length c) l) (i : Nat) (hi : i < l.length) : ∃ g, a = some ⟨g, 0, none⟩ ∧ w.cell? ⟨g, i * 2, none⟩ = some (.int .i64 (l[i].1 : Nat)) ∧ w.cell? ⟨g, i * 2 + 1, none⟩ = some (.int .i64 (l[i].2 : Nat)) := by
  have h' : w.ownsRow 0 54 2 (.slice a l.length c) l.length (pairs l) := h
  rcases h.2 with ⟨e, h0⟩ | ⟨g', cap', cur, e, _⟩
  · omega
  · simp only [Value.slice.injEq] at e
    obtain ⟨rfl, _, rfl⟩ := e
    have hg := pairs_get l i hi
    exact ⟨g', rfl, by rw [h'.cellAt (i * 2) (by omega)]; exact hg.1, by rw [h'.cellAt (i * 2 + 1) (by omega)]; exact hg.2⟩

set_option maxRecDepth 100000 in
set_option maxHeartbeats 4000000 in
theorem replaced_spec (l : List (Nat × Nat)) (v : Value) (by_ s : ByteArray) (w : World) (hv : PairsAt w v l) (last : Nat) (ho : Ordered s.size 0 last l) (hl : l.length ≤ 1000000) (hb : by_.size ≤ 10000) (hs : s.size ≤ 1000000) (hT : (sRepl by_.data.toList s.data.toList l 0).length ≤ 70368744177664) :
    Calls Tryz.prog 13 #[v, .string by_, .string s] w fun e w' => e = .returned (.string ⟨(sRepl by_.data.toList s.data.toList l 0).toArray⟩) ∧ Below w.heap.size w w' := by
  obtain ⟨T, hTe⟩ : ∃ T, T = sRepl by_.data.toList s.data.toList l 0 := ⟨_, rfl⟩
  rw [← hTe] at hT ⊢
  have HT := Lib.hid hTe
  have HO := Lib.hid ho
  have HV := Lib.hid hv
  have HP := Lib.hid (pieces_spec by_ (by omega) w)
  obtain ⟨a, c, rfl⟩ := hv.shape
  clear hTe ho hv
  go_enter Tryz.func13, Tryz.ntmps13
  go_wp2_with fail
  refine HP.out.mono ?_
  rintro e w1 ⟨pv, pl, rfl, hl1, hv1, b1⟩
  have HL1 := Lib.hid hl1
  obtain ⟨pa, pc, rfl⟩ := hv1.shape
  have hpl : pl.length ≤ 10001 := by
    have h1 := sPiece_len by_.data.toList false []
    rw [← hl1, bytesL_len] at h1
    have : by_.data.toList.length = by_.size := by simp
    omega
  have HV1 := Lib.hid (HV.out.after b1)
  have B1 := Lib.hid b1
  have HS1 := Lib.hid hv1
  clear hl1 hv1 b1
  go_upto_region 3 with (fail)
  obtain ⟨W, hW, HW, HB⟩ := builder_new w1
  rw [← hW]
  clear hW
  go_wp2_with fail
  go_loopw [9, 16] (fun v y wr => ∃ (i at_ : Nat) (C : List UInt8), v = .int .i64 at_ ∧ y = .int .i64 i ∧ i ≤ l.length ∧ at_ ≤ s.size ∧ Hid (T = C ++ sRepl by_.data.toList s.data.toList (l.drop i) at_) ∧ Hid (∃ la, Ordered s.size at_ la (l.drop i)) ∧ Hid (BOk w1.heap.size w1.heap.size C wr) ∧ Hid (Below w1.heap.size w1 wr)) (fun _ y _ => l.length - (intOf y).toNat)
  case atStart => exact ⟨0, 0, [], rfl, rfl, by omega, by omega, Lib.hid (by simpa using HT.out), Lib.hid ⟨_, HO.out⟩, HW, HB⟩
  case round =>
    obtain ⟨i, at_, C, rfl, rfl, hi, hat, hE, hO, hB, hBl⟩ := hrel
    have hCl : Hid (C.length ≤ T.length) := Lib.hid (by rw [hE.out, List.length_append]; omega)
    have hBlt : Hid (w1.heap.size < wr.heap.size) := Lib.hid (by obtain ⟨_, c, h⟩ := hB.out.row; exact (Array.getElem?_eq_some_iff.1 h).1)
    by_cases hgo : i < l.length
    · obtain ⟨g, e, g1, g2⟩ := ((HV1.out.after hBl.out)).cell i hgo
      subst e
      have hdr : l.drop i = l[i] :: l.drop (i + 1) := List.drop_eq_getElem_cons hgo
      obtain ⟨x, hx⟩ : ∃ x, x = l[i] := ⟨_, rfl⟩
      rw [← hx] at g1 g2 hdr
      have hord : at_ ≤ x.1 ∧ x.1 ≤ x.2 ∧ x.2 ≤ s.size ∧ ∃ la, Ordered s.size x.2 la (l.drop (i + 1)) := by
        obtain ⟨la, h⟩ := hO.out
        rw [hdr] at h
        cases h with
        | cons _ _ b e _ h1 h2 h3 h4 h => exact ⟨h1, h2, h3, _, h⟩
      obtain ⟨o1, o2, o3, o4⟩ := hord
      have O4 := Lib.hid o4
      obtain ⟨xa, hxa⟩ : ∃ n, n = x.1 := ⟨_, rfl⟩
      obtain ⟨xb, hxb⟩ : ∃ n, n = x.2 := ⟨_, rfl⟩
      rw [← hxa] at g1 o1 o2
      rw [← hxb] at g2 o2 o3 O4
      have hE2 : Hid (T = (C ++ (s.extract at_ xa).data.toList ++ sJoin (s.extract xa xb).data.toList (bytesL pl)) ++ sRepl by_.data.toList s.data.toList (l.drop (i + 1)) xb) := Lib.hid (by
        rw [hE.out, hdr, HL1.out, sJoin_piece, Lib.extract_data, Lib.extract_data]
        show C ++ ((s.data.toList.drop at_).take (x.1 - at_) ++ (sPut ((s.data.toList.drop x.1).take (x.2 - x.1)) by_.data.toList false ++ sRepl by_.data.toList s.data.toList (l.drop (i + 1)) x.2)) = _
        rw [← hxa, ← hxb]
        simp [List.append_assoc])
      clear hdr hx hxa hxb hE hO o4
      have hTl : Hid ((C ++ (s.extract at_ xa).data.toList ++ sJoin (s.extract xa xb).data.toList (bytesL pl)).length ≤ T.length) := Lib.hid (by rw [hE2.out]; simp only [List.length_append]; omega)
      go_upto_region 7 with (fail)
      change Code.wp _ _ _ _ (wr.alloc (Obj.cells #[.int .i64 (xa : Nat), .int .i64 (xb : Nat)] 54))
      obtain ⟨V, hV⟩ : ∃ V, V = wr.alloc (Obj.cells #[.int .i64 (xa : Nat), .int .i64 (xb : Nat)] 54) := ⟨_, rfl⟩
      rw [← hV]
      have hrow : V.heap[wr.heap.size]? = some (.cells #[.int .i64 (xa : Nat), .int .i64 (xb : Nat)] 54 (0, 0)) := by rw [hV]; exact heap_alloc_last _ _
      have W1 : Hid (Wrote w1.heap.size w1.heap.size C wr V) := Lib.hid (by rw [hV]; exact (Wrote.refl hB.out).alloc _)
      have HRow := Lib.hid hrow
      have k0 := cell_of_row _ _ 0 _ _ _ hrow
      have k1 := cell_of_row _ _ 1 _ _ _ hrow
      clear hV hrow g1 g2
      have HQ := Lib.hid (text_spec w1.heap.size w1.heap.size C (s.extract at_ xa) V W1.out.ok (by
        have h1 := hTl.out
        simp only [List.length_append] at h1
        have h2 := size_list (s.extract at_ xa)
        omega))
      go_wp2_with fail
      refine HQ.out.mono ?_
      rintro e w3 ⟨rfl, hw3⟩
      have W3 := Lib.hid hw3
      have hrow3 : w3.heap[wr.heap.size]? = some (.cells #[.int .i64 (xa : Nat), .int .i64 (xb : Nat)] 54 (0, 0)) := hw3.others _ _ HRow.out (by intro e; have e' : wr.heap.size = w1.heap.size := Option.some.inj e; have := hBlt.out; omega) (by intro c fz e; simp at e)
      have HRow3 := Lib.hid hrow3
      clear hw3 k0 k1
      have k0 := cell_of_row _ _ 0 _ _ _ hrow3
      have k1 := cell_of_row _ _ 1 _ _ _ hrow3
      clear hrow3
      have HQ2 := Lib.hid (swrite_spec w1.heap.size w1.heap.size (C ++ (s.extract at_ xa).data.toList) pl _ (s.extract xa xb) w3 W3.out.ok (HS1.out.after (hBl.out.trans (W1.out.below.trans W3.out.below))) (by omega) (by
        have h1 := hTl.out
        simp only [List.length_append] at h1 ⊢
        omega))
      go_wp2_with fail
      refine HQ2.out.mono ?_
      rintro e w4 ⟨rfl, hw4⟩
      have W4 := Lib.hid hw4
      have hrow4 : w4.heap[wr.heap.size]? = some (.cells #[.int .i64 (xa : Nat), .int .i64 (xb : Nat)] 54 (0, 0)) := hw4.others _ _ HRow3.out (by intro e; have e' : wr.heap.size = w1.heap.size := Option.some.inj e; have := hBlt.out; omega) (by intro c fz e; simp at e)
      clear hw4 k0 k1
      have k1 := cell_of_row _ _ 1 _ _ _ hrow4
      clear hrow4
      go_wp2_with fail
      go_roundw
      case rel => exact ⟨i + 1, xb, _, rfl, by go_num, by omega, by omega, hE2, O4, Lib.hid W4.out.ok, Lib.hid (hBl.out.trans (W1.out.below.trans (W3.out.below.trans W4.out.below)))⟩
      case measure => simp [intOf]; omega
    · obtain rfl : i = l.length := by omega
      have hE2 : Hid (T = C ++ (s.extract at_ s.size).data.toList) := Lib.hid (by
        rw [hE.out, List.drop_length, Lib.extract_data, List.take_of_length_le (by simp)]
        rfl)
      have HQ := Lib.hid (text_spec w1.heap.size w1.heap.size C (s.extract at_ s.size) wr hB.out (by
        have h1 := congrArg List.length hE2.out
        rw [List.length_append] at h1
        have h2 := size_list (s.extract at_ s.size)
        omega))
      clear hE
      go_wp2_with fail
      refine HQ.out.mono ?_
      rintro e w3 ⟨rfl, hw3⟩
      rw [← hE2.out] at hw3
      have W3 := Lib.hid hw3
      clear hw3
      have HS := Lib.hid (string_k w1.heap.size w1.heap.size T w3 W3.out.ok)
      go_wp2_with fail
      refine HS.out.mono ?_
      rintro e w4 ⟨rfl, hw4⟩
      have B4 := Lib.hid (Below.step B1.out (hBl.out.trans (W3.out.below.trans hw4.below)))
      clear hw4
      go_wp2_with fail
      go_ret
      exact ⟨rfl, B4.out⟩
end Go.Proofs.YtimipfdknfdbdaaGreat

/- subst.found, All: walks. -/
namespace Go.Proofs.YtimipfdknfdbdaaGreat
open Go.RowKit

theorem PairsAt.of {w : World} {B : Nat} {v : Value} {l : List (Nat × Nat)} (h : w.ownsRow B 54 2 v l.length (pairs l)) : PairsAt w v l := by
  refine ⟨h.1, ?_⟩
  rcases h.2 with h0 | ⟨g', cap', cur', e1, hbg, hg, rest⟩
  · exact Or.inl h0
  · exact Or.inr ⟨g', cap', cur', e1, Nat.zero_le _, hg, rest⟩

set_option maxRecDepth 100000 in
theorem found_spec (pp start : Nat) (t s : ByteArray) (ss : List St) (sv : Value) (hs : SsOk ss) (hst : start < ss.length) (hsz : s.size ≤ 1000000) (w : World) (hm : PatM w pp t ss sv start) (l : List (Nat × Nat)) (hl : l = allN (longN ss start s) s.size) (hlen : l.length ≤ 1000000) :
    Calls Tryz.prog 12 #[.pointer (some ⟨pp, 0, none⟩), .string s] w fun e w' => ∃ v, e = .returned v ∧ PairsAt w' v l ∧ Below w.heap.size w w' := by
  have HC := Lib.hid (all_spec pp start t s ss sv hs hst (by omega) w hm (by rw [← hl]; omega))
  rw [← hl] at HC
  clear hl hs hst hm
  go_enter Tryz.func12, Tryz.ntmps12
  go_wp2_with fail
  refine HC.out.mono ?_
  rintro e w1 ⟨v, rfl, h1, b1⟩
  have H1 := Lib.hid (PairsAt.of h1)
  have B1 := Lib.hid b1
  clear h1 b1
  go_wp2_with fail
  go_ret
  exact ⟨v, rfl, H1.out, B1.out⟩

set_option maxRecDepth 100000 in
theorem sall_spec (pp start : Nat) (t by_ s : ByteArray) (ss : List St) (sv : Value) (hs : SsOk ss) (hst : start < ss.length) (hb : by_.size ≤ 10000) (hsz : s.size ≤ 100000) (w : World) (hm : PatM w pp t ss sv start) (l : List (Nat × Nat)) (hl : l = allN (longN ss start s) s.size) (hT : (sRepl by_.data.toList s.data.toList l 0).length ≤ 70368744177664) :
    Calls Tryz.prog 7 #[.pointer (some ⟨pp, 0, none⟩), .string by_, .string s] w fun e w' => e = .returned (.tuple #[.string ⟨(sRepl by_.data.toList s.data.toList l 0).toArray⟩, .int .i64 l.length]) ∧ Below w.heap.size w w' := by
  have ho : Ordered s.size 0 0 l := by rw [hl]; exact foundN_ordered _ _ (longN_ok ss start s) _ 0 0 (by omega)
  have hln := ho.len
  have HF := Lib.hid (found_spec pp start t s ss sv hs hst (by omega) w hm l hl (by omega))
  have HR := Lib.hid (fun v w' (hv : PairsAt w' v l) => replaced_spec l v by_ s w' hv 0 ho (by omega) hb (by omega) hT)
  clear hs hst hm hl ho hT
  go_enter Tryz.func7, Tryz.ntmps7
  go_wp2_with fail
  refine HF.out.mono ?_
  rintro e w1 ⟨v, rfl, h1, b1⟩
  obtain ⟨a, c, rfl⟩ := h1.shape
  have HR1 := Lib.hid (HR.out _ w1 h1)
  have B1 := Lib.hid b1
  clear h1 b1
  by_cases h0 : l.length = 0
  · obtain rfl : l = [] := List.eq_nil_of_length_eq_zero h0
    clear HR1 HR
    simp only [List.length_nil]
    go_wp2_with fail
    go_ret2
    exact ⟨rfl, B1.out⟩
  · have n0 : ((l.length : Int) == 0) = false := beq_eq_false_iff_ne.2 (by omega)
    go_wp2_with fail
    refine HR1.out.mono ?_
    rintro e w2 ⟨rfl, b2⟩
    have B2 := Lib.hid (Below.step B1.out b2)
    clear b2
    go_wp2_with fail
    go_ret2
    exact ⟨rfl, B2.out⟩
end Go.Proofs.YtimipfdknfdbdaaGreat
