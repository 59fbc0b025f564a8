/- Merged by program: SAll, SLive, SRefPut. -/
import Derived.Test.YtimipfdknfdbdaaGbe
import Derived.Test.YtimipfdknfdbdaaGal
import Derived.Test.YtimipfdknfdbdaaGbc
/- subst.found, All: walks. -/
namespace Go.Proofs.Ytimipfdknfdbdaa
open Go.RowKit

theorem PairsAt.of {w : World} {B : Nat} {v : Value} {l : List (Nat × Nat)} (h : w.ownsRow B 30 2 v l.length (pairs l)) : PairsAt w v l := by
  refine ⟨h.1, ?_⟩
  rcases h.2 with h0 | ⟨g', cap', cur', e1, hbg, hg, rest⟩
  · exact Or.inl h0
  · exact Or.inr ⟨g', cap', cur', e1, Nat.zero_le _, hg, rest⟩

set_option maxRecDepth 100000 in
theorem found_spec (pp start : Nat) (t s : ByteArray) (ss : List St) (sv : Value) (hs : SsOk ss) (hst : start < ss.length) (hsz : s.size ≤ 1000000) (w : World) (hm : PatM w pp t ss sv start) (l : List (Nat × Nat)) (hl : l = allN (longN ss start s) s.size) (hlen : l.length ≤ 1000000) :
    Calls Try.prog 35 #[.pointer (some ⟨pp, 0, none⟩), .string s] w fun e w' => ∃ v, e = .returned v ∧ PairsAt w' v l ∧ Below w.heap.size w w' := by
  have HC := Lib.hid (all_spec pp start t s ss sv hs hst (by omega) w hm (by rw [← hl]; omega))
  rw [← hl] at HC
  clear hl hs hst hm
  go_enter Try.func35, Try.ntmps35
  go_wp2_with fail
  refine HC.out.mono ?_
  rintro e w1 ⟨v, rfl, h1, b1⟩
  have H1 := Lib.hid (PairsAt.of h1)
  have B1 := Lib.hid b1
  clear h1 b1
  go_wp2_with fail
  go_ret
  exact ⟨v, rfl, H1.out, B1.out⟩

set_option maxRecDepth 100000 in
theorem sall_spec (pp start : Nat) (t by_ s : ByteArray) (ss : List St) (sv : Value) (hs : SsOk ss) (hst : start < ss.length) (hb : by_.size ≤ 10000) (hsz : s.size ≤ 100000) (w : World) (hm : PatM w pp t ss sv start) (l : List (Nat × Nat)) (hl : l = allN (longN ss start s) s.size) (hT : (sRepl by_.data.toList s.data.toList l 0).length ≤ 70368744177664) :
    Calls Try.prog 21 #[.pointer (some ⟨pp, 0, none⟩), .string by_, .string s] w fun e w' => e = .returned (.tuple #[.string ⟨(sRepl by_.data.toList s.data.toList l 0).toArray⟩, .int .i64 l.length]) ∧ Below w.heap.size w w' := by
  have ho : Ordered s.size 0 0 l := by rw [hl]; exact foundN_ordered _ _ (longN_ok ss start s) _ 0 0 (by omega)
  have hln := ho.len
  have HF := Lib.hid (found_spec pp start t s ss sv hs hst (by omega) w hm l hl (by omega))
  have HR := Lib.hid (fun v w' (hv : PairsAt w' v l) => replaced_spec l v by_ s w' hv 0 ho (by omega) hb (by omega) hT)
  clear hs hst hm hl ho hT
  go_enter Try.func21, Try.ntmps21
  go_wp2_with fail
  refine HF.out.mono ?_
  rintro e w1 ⟨v, rfl, h1, b1⟩
  obtain ⟨a, c, rfl⟩ := h1.shape
  have HR1 := Lib.hid (HR.out _ w1 h1)
  have B1 := Lib.hid b1
  clear h1 b1
  by_cases h0 : l.length = 0
  · obtain rfl : l = [] := List.eq_nil_of_length_eq_zero h0
    clear HR1 HR
    simp only [List.length_nil]
    go_wp2_with fail
    go_ret2
    exact ⟨rfl, B1.out⟩
  · have n0 : ((l.length : Int) == 0) = false := beq_eq_false_iff_ne.2 (by omega)
    go_wp2_with fail
    refine HR1.out.mono ?_
    rintro e w2 ⟨rfl, b2⟩
    have B2 := Lib.hid (Below.step B1.out b2)
    clear b2
    go_wp2_with fail
    go_ret2
    exact ⟨rfl, B2.out⟩
end Go.Proofs.Ytimipfdknfdbdaa

/- New of a definite pattern; aukletlaw08.lives: a walk. -/
namespace Go.Proofs.Ytimipfdknfdbdaa
open Go.RowKit

/-- A pattern that is read as a tree that can be and is not too great. -/
theorem new_yes (s : ByteArray) (t : Tree) (hP : E5.PatternAt s.data.toList t 0) (hg : Good 100 (-1) t) (hg1 : Good 101 (-1) t) (hn : (planN 101 t).n < 500) (hs : s.size ≤ 400) (w : World) :
    Calls Try.prog 7 #[.string s] w fun e w' => ∃ pp sv, e = .returned (.tuple #[.pointer (some ⟨pp, 0, none⟩), .int .i64 0, .int .i64 0]) ∧ w.heap.size ≤ pp ∧ PatM w' pp s (machN t).2 sv (machN t).1 ∧ Below w.heap.size w w' := by
  refine (new_gen s (fun u x => u = t ∧ x = 0) (fun b => b = true) w ?_ ?_).mono ?_
  · refine (E5.parse_go s.data.toList t 0 hP (by omega) s rfl hs w).mono ?_
    rintro e w' ⟨ds, rfl, hat, hb⟩
    exact ⟨t, ds, 0, 0, rfl, hat, Lib.hid ⟨rfl, rfl⟩, hb⟩
  · rintro u x ⟨rfl, _⟩ _ rs B W hat
    refine (build_yes u rs B W hat hg hg1 hn).mono ?_
    intro e w' h
    exact ⟨true, rfl, Or.inr (Or.inr ⟨rfl, hn, hg1, h⟩)⟩
  · rintro e w' ⟨u, x, ⟨rfl, rfl⟩, hb, h | h | h⟩
    · exact absurd rfl h.1
    · rcases h.2.1 with h | h
      · exact absurd h (by decide)
      · omega
    · obtain ⟨_, _, _, _, pp, sv, rfl, h1, h2⟩ := h
      exact ⟨pp, sv, rfl, h1, h2, hb⟩

theorem one_fit (within : Int) (c : Nat) : FitT within (E5.oneT c) where
  fits := E5.fits_oneF c
  k0 := by show (0 : Int) ≤ 1; omega
  k6 := by show (1 : Int) ≤ 6; omega
  set := fun h => absurd rfl h
  times := fun _ => ⟨rfl, rfl⟩
  alone := fun _ => rfl
  empty := fun h => by have h' : (1 : Int) = 0 := h; omega
  parts := fun h => by have h' : (1 : Int) = 4 ∨ (1 : Int) = 5 := h; omega
  rep := fun h => by have h' : (1 : Int) = 6 := h; omega
  few := Nat.zero_le _
theorem one_good (n : Nat) (within : Int) (c : Nat) : Good (n + 1) within (E5.oneT c) := ⟨one_fit within c, fun x hx => absurd hx (by simp [E5.oneT, Tree.kids])⟩
theorem patt_one {l : List UInt8} {t : Tree} {m : Nat} (h : E5.BranchAt l t m) (h5 : t.k ≠ 5) : E5.PatternAt l t m := by
  have key : E5.PatternAt ((⟨l, t, m⟩ : E5.Pc).l ++ E5.restAlt []) (E5.joinT 5 ((⟨l, t, m⟩ :: ([] : List E5.Pc)).map (·.t))) (E5.maxN [⟨l, t, m⟩]) := by
    intro s k d p w rest hdrop hrest hs hks hd hr
    refine ⟨fun hn => E5.pattern_walk ⟨l, t, m⟩ [] ⟨h, h5⟩ (fun q hq => absurd hq (by simp)) (by simp) s k d p w rest hdrop hrest hs hks hd hr _ (fun _ _ _ h => h) (fun hb => ?_), fun hn => E5.pattern_walk ⟨l, t, m⟩ [] ⟨h, h5⟩ (fun q hq => absurd hq (by simp)) (by simp) s k d p w rest hdrop hrest hs hks hd hr _ (fun hg => ?_) (fun _ _ _ h => h)⟩
    · obtain ⟨q, hq, hq2⟩ := hb
      have := (E5.maxN_le hd).1 hn q hq
      omega
    · have := (E5.maxN_le hd).2 hg
      omega
  have e1 : (⟨l, t, m⟩ : E5.Pc).l ++ E5.restAlt [] = l := List.append_nil l
  have e2 : E5.maxN [⟨l, t, m⟩] = m := Nat.max_eq_left (Nat.zero_le m)
  rw [e1, e2] at key
  exact key
theorem a_parse : E5.PatternAt [97] (E5.oneT 97) 0 := by
  have p1 : E5.PieceAt [97] (E5.oneT 97) 0 := E5.piece_at [97] (E5.oneT 97) 0 (E5.atom_byte 97 (by decide)) [] (fun x hx => absurd hx (by simp))
  have b1 : E5.BranchAt [97] (E5.oneT 97) 0 := E5.branch_at [⟨[97], E5.oneT 97, 0⟩] (fun x hx => by rw [List.mem_singleton.1 hx]; exact ⟨p1, ⟨97, [], rfl, by decide⟩, by show (1 : Int) ≠ 4; omega, by show (1 : Int) ≠ 0; omega⟩) (by decide)
  exact patt_one b1 (by show (1 : Int) ≠ 5; omega)

def bananaB : ByteArray := ⟨#[98, 97, 110, 97, 110, 97]⟩
theorem a_few : (planN 101 (E5.oneT 97)).n < 500 := by decide +kernel
theorem a_all : allN (longN (machN (E5.oneT 97)).2 (machN (E5.oneT 97)).1 bananaB) 6 = [(1, 2), (3, 4), (5, 6)] := by decide +kernel
theorem a_repl : sRepl [60, 38, 62] [98, 97, 110, 97, 110, 97] [(1, 2), (3, 4), (5, 6)] 0 = [98, 60, 97, 62, 110, 60, 97, 62, 110, 60, 97, 62] := by decide +kernel

set_option maxRecDepth 100000 in
theorem lives8_spec (w : World) :
    Calls Try.prog 10 #[] w fun e w' => e = .returned (.bool true) ∧ Below w.heap.size w w' := by
  obtain ⟨okS, okT⟩ := mach_ok (E5.oneT 97) (one_good 100 (-1) 97) a_few
  have HN := Lib.hid (new_yes ⟨#[97]⟩ (E5.oneT 97) a_parse (one_good 99 (-1) 97) (one_good 100 (-1) 97) a_few (by decide) w)
  have HA := Lib.hid (fun pp sv w' (hm : PatM w' pp ⟨#[97]⟩ (machN (E5.oneT 97)).2 sv (machN (E5.oneT 97)).1) => sall_spec pp (machN (E5.oneT 97)).1 ⟨#[97]⟩ ⟨#[60, 38, 62]⟩ ⟨#[98, 97, 110, 97, 110, 97]⟩ (machN (E5.oneT 97)).2 sv okS okT (by decide) (by decide) w' hm [(1, 2), (3, 4), (5, 6)] a_all.symm (by show (sRepl [60, 38, 62] [98, 97, 110, 97, 110, 97] [(1, 2), (3, 4), (5, 6)] 0).length ≤ 70368744177664; rw [a_repl]; decide))
  clear okS okT
  go_enter Try.func10, Try.ntmps10
  go_wp2_with fail
  refine HN.out.mono ?_
  rintro e w1 ⟨pp, sv, rfl, hpp, hm, b1⟩
  have HA1 := Lib.hid (HA.out pp sv w1 hm)
  have B1 := Lib.hid b1
  clear HN HA hm b1
  go_wp2_with fail
  refine HA1.out.mono ?_
  rintro e w2 ⟨rfl, b2⟩
  have B2 := Lib.hid (Below.step B1.out b2)
  clear b2
  have er : (sRepl (⟨#[60, 38, 62]⟩ : ByteArray).data.toList (⟨#[98, 97, 110, 97, 110, 97]⟩ : ByteArray).data.toList [(1, 2), (3, 4), (5, 6)] 0).toArray = #[98, 60, 97, 62, 110, 60, 97, 62, 110, 60, 97, 62] := by
    show (sRepl [60, 38, 62] [98, 97, 110, 97, 110, 97] [(1, 2), (3, 4), (5, 6)] 0).toArray = _
    rw [a_repl]
  rw [er]
  go_wp2_with fail
  go_ret
  exact ⟨by first | rfl | decide, B2.out⟩
end Go.Proofs.Ytimipfdknfdbdaa

/- The document's Put: a walk. -/
namespace Go.Proofs.Ytimipfdknfdbdaa
open Go.RowKit

theorem data_append (a b : ByteArray) : (a ++ b).data.toList = a.data.toList ++ b.data.toList := by
  rw [ByteArray.data_append, Array.toList_append]
theorem sPut_amp (part : List UInt8) (c : UInt8) (r : List UInt8) (h : c = 38) : sPut part (c :: r) false = part ++ sPut part r false := by
  show (if c = 38 then _ else _) = _
  rw [if_pos h]
theorem sPut_esc (part : List UInt8) (c : UInt8) (r : List UInt8) (h : c ≠ 38) (h2 : c = 92 ∧ (r.head? = some 38 ∨ r.head? = some 92)) : sPut part (c :: r) false = sPut part r true := by
  show (if c = 38 then _ else if _ then _ else _) = _
  rw [if_neg h, if_pos h2]
theorem sPut_one (part : List UInt8) (c : UInt8) (r : List UInt8) (h : c ≠ 38) (h2 : ¬ (c = 92 ∧ (r.head? = some 38 ∨ r.head? = some 92))) : sPut part (c :: r) false = c :: sPut part r false := by
  show (if c = 38 then _ else if _ then _ else _) = _
  rw [if_neg h, if_neg h2]

set_option maxRecDepth 100000 in
set_option maxHeartbeats 4000000 in
theorem refPut_spec (s part : ByteArray) (hs : s.size ≤ 10000) (hp : part.size ≤ 10000) (w : World) :
    Calls Try.prog 12 #[.string s, .string part] w fun e w' => e = .returned (.string ⟨(sPut part.data.toList s.data.toList false).toArray⟩) ∧ w' = w := by
  obtain ⟨A, hA⟩ : ∃ A, A = sPut part.data.toList s.data.toList false := ⟨_, rfl⟩
  rw [← hA]
  have hAl : A.length ≤ 200000000 := by
    rw [hA]
    have h1 := sPut_len part.data.toList s.data.toList false
    have h2 : s.data.toList.length = s.size := by simp
    have h3 : part.data.toList.length = part.size := by simp
    rw [h2, h3] at h1
    have h4 : s.size * (part.size + 1) ≤ 10000 * 10001 := Nat.mul_le_mul hs (by omega)
    omega
  have HAL := Lib.hid hAl
  have HA := Lib.hid hA
  clear hA hAl
  go_enter Try.func12, Try.ntmps12
  go_wp2_with fail
  go_loopw [5, 6] (fun v y wr => wr = w ∧ ∃ (i : Nat) (o : ByteArray), v = .string o ∧ y = .int .i64 i ∧ i ≤ s.size ∧ Hid (A = o.data.toList ++ sPut part.data.toList (s.data.toList.drop i) false)) (fun _ y _ => s.size - (intOf y).toNat)
  case atStart => exact ⟨rfl, 0, _, rfl, rfl, by omega, Lib.hid (by simpa using HA.out)⟩
  case round =>
    obtain ⟨rfl, i, o, rfl, rfl, hi, hE⟩ := hrel
    by_cases hgo : i < s.size
    · have hsp := Lib.hid (sPiece_split hgo)
      have ho : o.size ≤ 200000000 := by
        have h1 := congrArg List.length hE.out
        rw [List.length_append] at h1
        have h2 : o.data.toList.length = o.size := by simp
        have h3 := HAL.out
        omega
      have e1 : (s.extract i (i + 1)).toList = [s[i]] := by
        rw [Lib.extract_toList, hsp.out]
        simp
      have e1d : (s.extract i (i + 1)).data.toList = [s[i]] := by rw [Lib.extract_data, hsp.out]; simp
      have E1 := Lib.hid e1d
      have hz1 : (s.extract i (i + 1)).size = 1 := by rw [ByteArray.size_extract]; omega
      by_cases h38 : s[i] = 38
      · have n92 : ¬ (s.extract i (i + 1)).toList = [92] := by rw [e1, h38]; decide
        have n92b : ((s.extract i (i + 1)).toList == [92]) = false := beq_eq_false_iff_ne.2 n92
        have y38 : (s.extract i (i + 1)).toList = [38] := by rw [e1, h38]
        have y38b : ((s.extract i (i + 1)).toList == [38]) = true := beq_iff_eq.2 y38
        have hE2 : Hid (A = (o ++ part).data.toList ++ sPut part.data.toList (s.data.toList.drop (i + 1)) false) := Lib.hid (by
          rw [hE.out, hsp.out, sPut_amp _ _ _ h38, data_append, List.append_assoc])
        clear e1 e1d hE h38 E1
        by_cases h1 : i + 1 < s.size
        · go_wp2_with fail
          go_roundw
          case rel => exact ⟨by trivial, i + 1, o ++ part, rfl, by go_num, by omega, hE2⟩
          case measure => simp [intOf]; omega
        · go_wp2_with fail
          go_roundw
          case rel => exact ⟨by trivial, i + 1, o ++ part, rfl, by go_num, by omega, hE2⟩
          case measure => simp [intOf]; omega
      · have n38 : ¬ (s.extract i (i + 1)).toList = [38] := by rw [e1]; intro h; exact h38 (List.cons.inj h).1
        have n38b : ((s.extract i (i + 1)).toList == [38]) = false := beq_eq_false_iff_ne.2 n38
        by_cases h1 : i + 1 < s.size
        · have hsp2 := Lib.hid (sPiece_split h1)
          have e2 : (s.extract (i + 1) (i + 2)).toList = [s[i + 1]] := by
            rw [Lib.extract_toList, hsp2.out, show i + 2 - (i + 1) = 1 by omega]
            simp
          have e2d : (s.extract (i + 1) (i + 2)).data.toList = [s[i + 1]] := by
            rw [Lib.extract_data, hsp2.out, show i + 2 - (i + 1) = 1 by omega]
            simp
          have hz2 : (s.extract (i + 1) (i + 2)).size = 1 := by rw [ByteArray.size_extract]; omega
          have hh : (s.data.toList.drop (i + 1)).head? = some s[i + 1] := by rw [hsp2.out]; rfl
          by_cases he : s[i] = 92 ∧ (s[i + 1] = 38 ∨ s[i + 1] = 92)
          · have hE2 : Hid (A = (o ++ s.extract (i + 1) (i + 2)).data.toList ++ sPut part.data.toList (s.data.toList.drop (i + 2)) false) := Lib.hid (by
              rw [hE.out, hsp.out, sPut_esc _ _ _ h38 ⟨he.1, by rw [hh]; simpa using he.2⟩, hsp2.out, data_append, e2d]
              simp [sPut])
            have y92 : (s.extract i (i + 1)).toList = [92] := by rw [e1, he.1]
            have y92b : ((s.extract i (i + 1)).toList == [92]) = true := beq_iff_eq.2 y92
            obtain ⟨_, h2 | h2⟩ := he
            · have y2 : (s.extract (i + 1) (i + 2)).toList = [38] := by rw [e2, h2]
              have y2b : ((s.extract (i + 1) (i + 2)).toList == [38]) = true := beq_iff_eq.2 y2
              clear e1 e1d hE h38 E1 e2 e2d hh h2
              go_wp2_with fail
              go_roundw
              case rel => exact ⟨by trivial, i + 2, _, rfl, by go_num, by omega, hE2⟩
              case measure => simp [intOf]; omega
            · have y2 : (s.extract (i + 1) (i + 2)).toList = [92] := by rw [e2, h2]
              have y2b : ((s.extract (i + 1) (i + 2)).toList == [92]) = true := beq_iff_eq.2 y2
              have m2 : ¬ (s.extract (i + 1) (i + 2)).toList = [38] := by rw [e2, h2]; decide
              have m2b : ((s.extract (i + 1) (i + 2)).toList == [38]) = false := beq_eq_false_iff_ne.2 m2
              clear e1 e1d hE h38 E1 e2 e2d hh h2
              go_wp2_with fail
              go_roundw
              case rel => exact ⟨by trivial, i + 2, _, rfl, by go_num, by omega, hE2⟩
              case measure => simp [intOf]; omega
          · have hE2 : Hid (A = (o ++ s.extract i (i + 1)).data.toList ++ sPut part.data.toList (s.data.toList.drop (i + 1)) false) := Lib.hid (by
              rw [hE.out, hsp.out, sPut_one _ _ _ h38 (by rw [hh]; simpa using he), data_append, e1d]
              simp)
            by_cases h92 : s[i] = 92
            · have y92 : (s.extract i (i + 1)).toList = [92] := by rw [e1, h92]
              have y92b : ((s.extract i (i + 1)).toList == [92]) = true := beq_iff_eq.2 y92
              have m1 : ¬ (s.extract (i + 1) (i + 2)).toList = [38] := by rw [e2]; intro h; exact he ⟨h92, Or.inl (List.cons.inj h).1⟩
              have m1b : ((s.extract (i + 1) (i + 2)).toList == [38]) = false := beq_eq_false_iff_ne.2 m1
              have m2 : ¬ (s.extract (i + 1) (i + 2)).toList = [92] := by rw [e2]; intro h; exact he ⟨h92, Or.inr (List.cons.inj h).1⟩
              have m2b : ((s.extract (i + 1) (i + 2)).toList == [92]) = false := beq_eq_false_iff_ne.2 m2
              clear e1 e1d hE h38 E1 e2 e2d hh he h92
              go_wp2_with fail
              go_roundw
              case rel => exact ⟨by trivial, i + 1, _, rfl, by go_num, by omega, hE2⟩
              case measure => simp [intOf]; omega
            · have m92 : ¬ (s.extract i (i + 1)).toList = [92] := by rw [e1]; intro h; exact h92 (List.cons.inj h).1
              have m92b : ((s.extract i (i + 1)).toList == [92]) = false := beq_eq_false_iff_ne.2 m92
              clear e1 e1d hE h38 E1 e2 e2d hh he h92
              go_wp2_with fail
              go_roundw
              case rel => exact ⟨by trivial, i + 1, _, rfl, by go_num, by omega, hE2⟩
              case measure => simp [intOf]; omega
        · have hE2 : Hid (A = (o ++ s.extract i (i + 1)).data.toList ++ sPut part.data.toList (s.data.toList.drop (i + 1)) false) := Lib.hid (by
            rw [hE.out, hsp.out, sPut_one _ _ _ h38 (by rw [List.drop_eq_nil_of_le (by simp; omega)]; simp), data_append, e1d]
            simp)
          by_cases h92 : s[i] = 92
          · have y92 : (s.extract i (i + 1)).toList = [92] := by rw [e1, h92]
            have y92b : ((s.extract i (i + 1)).toList == [92]) = true := beq_iff_eq.2 y92
            clear e1 e1d hE h38 E1 h92
            go_wp2_with fail
            go_roundw
            case rel => exact ⟨by trivial, i + 1, _, rfl, by go_num, by omega, hE2⟩
            case measure => simp [intOf]; omega
          · have m92 : ¬ (s.extract i (i + 1)).toList = [92] := by rw [e1]; intro h; exact h92 (List.cons.inj h).1
            have m92b : ((s.extract i (i + 1)).toList == [92]) = false := beq_eq_false_iff_ne.2 m92
            clear e1 e1d hE h38 E1 h92
            go_wp2_with fail
            go_roundw
            case rel => exact ⟨by trivial, i + 1, _, rfl, by go_num, by omega, hE2⟩
            case measure => simp [intOf]; omega
    · obtain rfl : i = s.size := by omega
      have hE2 : Hid (o.data.toList = A) := Lib.hid (by
        rw [hE.out, List.drop_eq_nil_of_le (by simp)]
        simp [sPut])
      clear hE
      go_wp2_with fail
      go_ret
      exact ⟨ret_str (by rw [← hE2.out]), rfl⟩
end Go.Proofs.Ytimipfdknfdbdaa
