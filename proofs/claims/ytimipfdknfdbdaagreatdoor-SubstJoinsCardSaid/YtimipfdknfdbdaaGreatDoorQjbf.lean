/- Merged by program: SAll, SLive, SJoinW, SAt. -/
import Derived.Lib.IndexMore
import Derived.Lib.SplitLaws
import Derived.Shelf.Strings.PiecesUse
import Derived.Test.YtimipfdknfdbdaaGreatDoorQjbe
import Derived.Test.YtimipfdknfdbdaaGreatDoorQjam
import Derived.Test.YtimipfdknfdbdaaGreatDoorQjbc
import Derived.Test.YtimipfdknfdbdaaGreatDoorQjbd
/- subst.found, All: walks. -/
namespace Go.Proofs.YtimipfdknfdbdaaGreatDoor
open Go.RowKit

theorem PairsAt.of {w : World} {B : Nat} {v : Value} {l : List (Nat × Nat)} (h : w.ownsRow B 67 2 v l.length (pairs l)) : PairsAt w v l := by
  refine ⟨h.1, ?_⟩
  rcases h.2 with h0 | ⟨g', cap', cur', e1, hbg, hg, rest⟩
  · exact Or.inl h0
  · exact Or.inr ⟨g', cap', cur', e1, Nat.zero_le _, hg, rest⟩

set_option maxRecDepth 100000 in
theorem found_spec (pp start : Nat) (t s : ByteArray) (ss : List St) (sv : Value) (hs : SsOk ss) (hst : start < ss.length) (hsz : s.size ≤ 1000000) (w : World) (hm : PatM w pp t ss sv start) (l : List (Nat × Nat)) (hl : l = allN (longN ss start s) s.size) (hlen : l.length ≤ 1000000) :
    Calls Tryz.prog 17 #[.pointer (some ⟨pp, 0, none⟩), .string s] w fun e w' => ∃ v, e = .returned v ∧ PairsAt w' v l ∧ Below w.heap.size w w' := by
  have HC := Lib.hid (all_spec pp start t s ss sv hs hst (by omega) w hm (by rw [← hl]; omega))
  rw [← hl] at HC
  clear hl hs hst hm
  go_enter Tryz.func17, Tryz.ntmps17
  go_wp2_with fail
  refine HC.out.mono ?_
  rintro e w1 ⟨v, rfl, h1, b1⟩
  have H1 := Lib.hid (PairsAt.of h1)
  have B1 := Lib.hid b1
  clear h1 b1
  go_wp2_with fail
  go_ret
  exact ⟨v, rfl, H1.out, B1.out⟩

set_option maxRecDepth 100000 in
theorem sall_spec (pp start : Nat) (t by_ s : ByteArray) (ss : List St) (sv : Value) (hs : SsOk ss) (hst : start < ss.length) (hb : by_.size ≤ 10000) (hsz : s.size ≤ 100000) (w : World) (hm : PatM w pp t ss sv start) (l : List (Nat × Nat)) (hl : l = allN (longN ss start s) s.size) (hT : (sRepl by_.data.toList s.data.toList l 0).length ≤ 70368744177664) :
    Calls Tryz.prog 8 #[.pointer (some ⟨pp, 0, none⟩), .string by_, .string s] w fun e w' => e = .returned (.tuple #[.string ⟨(sRepl by_.data.toList s.data.toList l 0).toArray⟩, .int .i64 l.length]) ∧ Below w.heap.size w w' := by
  have ho : Ordered s.size 0 0 l := by rw [hl]; exact foundN_ordered _ _ (longN_ok ss start s) _ 0 0 (by omega)
  have hln := ho.len
  have HF := Lib.hid (found_spec pp start t s ss sv hs hst (by omega) w hm l hl (by omega))
  have HR := Lib.hid (fun v w' (hv : PairsAt w' v l) => replaced_spec l v by_ s w' hv 0 ho (by omega) hb (by omega) hT)
  clear hs hst hm hl ho hT
  go_enter Tryz.func8, Tryz.ntmps8
  go_wp2_with fail
  refine HF.out.mono ?_
  rintro e w1 ⟨v, rfl, h1, b1⟩
  obtain ⟨a, c, rfl⟩ := h1.shape
  have HR1 := Lib.hid (HR.out _ w1 h1)
  have B1 := Lib.hid b1
  clear h1 b1
  by_cases h0 : l.length = 0
  · obtain rfl : l = [] := List.eq_nil_of_length_eq_zero h0
    clear HR1 HR
    simp only [List.length_nil]
    go_wp2_with fail
    go_ret2
    exact ⟨rfl, B1.out⟩
  · have n0 : ((l.length : Int) == 0) = false := beq_eq_false_iff_ne.2 (by omega)
    go_wp2_with fail
    refine HR1.out.mono ?_
    rintro e w2 ⟨rfl, b2⟩
    have B2 := Lib.hid (Below.step B1.out b2)
    clear b2
    go_wp2_with fail
    go_ret2
    exact ⟨rfl, B2.out⟩
end Go.Proofs.YtimipfdknfdbdaaGreatDoor

/- New of a definite pattern; aukletlaw08.lives: a walk. -/
namespace Go.Proofs.YtimipfdknfdbdaaGreatDoor
open Go.RowKit

/-- A pattern that is read as a tree that can be and is not too great. -/
theorem new_yes (s : ByteArray) (t : Tree) (hP : E5.PatternAt s.data.toList t 0) (hg : Good 100 (-1) t) (hg1 : Good 101 (-1) t) (hn : (planN 101 t).n < 500) (hs : s.size ≤ 400) (w : World) :
    Calls Tryz.prog 7 #[.string s] w fun e w' => ∃ pp sv, e = .returned (.tuple #[.pointer (some ⟨pp, 0, none⟩), .int .i64 0, .int .i64 0]) ∧ w.heap.size ≤ pp ∧ PatM w' pp s (machN t).2 sv (machN t).1 ∧ Below w.heap.size w w' := by
  refine (new_gen s (fun u x => u = t ∧ x = 0) (fun b => b = true) w ?_ ?_).mono ?_
  · refine (E5.parse_go s.data.toList t 0 hP (by omega) s rfl hs w).mono ?_
    rintro e w' ⟨ds, rfl, hat, hb⟩
    exact ⟨t, ds, 0, 0, rfl, hat, Lib.hid ⟨rfl, rfl⟩, hb⟩
  · rintro u x ⟨rfl, _⟩ _ rs B W hat
    refine (build_yes u rs B W hat hg hg1 hn).mono ?_
    intro e w' h
    exact ⟨true, rfl, Or.inr (Or.inr ⟨rfl, hn, hg1, h⟩)⟩
  · rintro e w' ⟨u, x, ⟨rfl, rfl⟩, hb, h | h | h⟩
    · exact absurd rfl h.1
    · rcases h.2.1 with h | h
      · exact absurd h (by decide)
      · omega
    · obtain ⟨_, _, _, _, pp, sv, rfl, h1, h2⟩ := h
      exact ⟨pp, sv, rfl, h1, h2, hb⟩

theorem one_fit (within : Int) (c : Nat) : FitT within (E5.oneT c) where
  fits := E5.fits_oneF c
  k0 := by show (0 : Int) ≤ 1; omega
  k6 := by show (1 : Int) ≤ 6; omega
  set := fun h => absurd rfl h
  times := fun _ => ⟨rfl, rfl⟩
  alone := fun _ => rfl
  empty := fun h => by have h' : (1 : Int) = 0 := h; omega
  parts := fun h => by have h' : (1 : Int) = 4 ∨ (1 : Int) = 5 := h; omega
  rep := fun h => by have h' : (1 : Int) = 6 := h; omega
  few := Nat.zero_le _
theorem one_good (n : Nat) (within : Int) (c : Nat) : Good (n + 1) within (E5.oneT c) := ⟨one_fit within c, fun x hx => absurd hx (by simp [E5.oneT, Tree.kids])⟩
theorem patt_one {l : List UInt8} {t : Tree} {m : Nat} (h : E5.BranchAt l t m) (h5 : t.k ≠ 5) : E5.PatternAt l t m := by
  have key : E5.PatternAt ((⟨l, t, m⟩ : E5.Pc).l ++ E5.restAlt []) (E5.joinT 5 ((⟨l, t, m⟩ :: ([] : List E5.Pc)).map (·.t))) (E5.maxN [⟨l, t, m⟩]) := by
    intro s k d p w rest hdrop hrest hs hks hd hr
    refine ⟨fun hn => E5.pattern_walk ⟨l, t, m⟩ [] ⟨h, h5⟩ (fun q hq => absurd hq (by simp)) (by simp) s k d p w rest hdrop hrest hs hks hd hr _ (fun _ _ _ h => h) (fun hb => ?_), fun hn => E5.pattern_walk ⟨l, t, m⟩ [] ⟨h, h5⟩ (fun q hq => absurd hq (by simp)) (by simp) s k d p w rest hdrop hrest hs hks hd hr _ (fun hg => ?_) (fun _ _ _ h => h)⟩
    · obtain ⟨q, hq, hq2⟩ := hb
      have := (E5.maxN_le hd).1 hn q hq
      omega
    · have := (E5.maxN_le hd).2 hg
      omega
  have e1 : (⟨l, t, m⟩ : E5.Pc).l ++ E5.restAlt [] = l := List.append_nil l
  have e2 : E5.maxN [⟨l, t, m⟩] = m := Nat.max_eq_left (Nat.zero_le m)
  rw [e1, e2] at key
  exact key
theorem a_parse : E5.PatternAt [97] (E5.oneT 97) 0 := by
  have p1 : E5.PieceAt [97] (E5.oneT 97) 0 := E5.piece_at [97] (E5.oneT 97) 0 (E5.atom_byte 97 (by decide)) [] (fun x hx => absurd hx (by simp))
  have b1 : E5.BranchAt [97] (E5.oneT 97) 0 := E5.branch_at [⟨[97], E5.oneT 97, 0⟩] (fun x hx => by rw [List.mem_singleton.1 hx]; exact ⟨p1, ⟨97, [], rfl, by decide⟩, by show (1 : Int) ≠ 4; omega, by show (1 : Int) ≠ 0; omega⟩) (by decide)
  exact patt_one b1 (by show (1 : Int) ≠ 5; omega)

def bananaB : ByteArray := ⟨#[98, 97, 110, 97, 110, 97]⟩
theorem a_few : (planN 101 (E5.oneT 97)).n < 500 := by decide +kernel
theorem a_all : allN (longN (machN (E5.oneT 97)).2 (machN (E5.oneT 97)).1 bananaB) 6 = [(1, 2), (3, 4), (5, 6)] := by decide +kernel
theorem a_repl : sRepl [60, 38, 62] [98, 97, 110, 97, 110, 97] [(1, 2), (3, 4), (5, 6)] 0 = [98, 60, 97, 62, 110, 60, 97, 62, 110, 60, 97, 62] := by decide +kernel

set_option maxRecDepth 100000 in
theorem lives8_spec (w : World) :
    Calls Tryz.prog 4 #[] w fun e w' => e = .returned (.bool true) ∧ Below w.heap.size w w' := by
  obtain ⟨okS, okT⟩ := mach_ok (E5.oneT 97) (one_good 100 (-1) 97) a_few
  have HN := Lib.hid (new_yes ⟨#[97]⟩ (E5.oneT 97) a_parse (one_good 99 (-1) 97) (one_good 100 (-1) 97) a_few (by decide) w)
  have HA := Lib.hid (fun pp sv w' (hm : PatM w' pp ⟨#[97]⟩ (machN (E5.oneT 97)).2 sv (machN (E5.oneT 97)).1) => sall_spec pp (machN (E5.oneT 97)).1 ⟨#[97]⟩ ⟨#[60, 38, 62]⟩ ⟨#[98, 97, 110, 97, 110, 97]⟩ (machN (E5.oneT 97)).2 sv okS okT (by decide) (by decide) w' hm [(1, 2), (3, 4), (5, 6)] a_all.symm (by show (sRepl [60, 38, 62] [98, 97, 110, 97, 110, 97] [(1, 2), (3, 4), (5, 6)] 0).length ≤ 70368744177664; rw [a_repl]; decide))
  clear okS okT
  go_enter Tryz.func4, Tryz.ntmps4
  go_wp2_with fail
  refine HN.out.mono ?_
  rintro e w1 ⟨pp, sv, rfl, hpp, hm, b1⟩
  have HA1 := Lib.hid (HA.out pp sv w1 hm)
  have B1 := Lib.hid b1
  clear HN HA hm b1
  go_wp2_with fail
  refine HA1.out.mono ?_
  rintro e w2 ⟨rfl, b2⟩
  have B2 := Lib.hid (Below.step B1.out b2)
  clear b2
  have er : (sRepl (⟨#[60, 38, 62]⟩ : ByteArray).data.toList (⟨#[98, 97, 110, 97, 110, 97]⟩ : ByteArray).data.toList [(1, 2), (3, 4), (5, 6)] 0).toArray = #[98, 60, 97, 62, 110, 60, 97, 62, 110, 60, 97, 62] := by
    show (sRepl [60, 38, 62] [98, 97, 110, 97, 110, 97] [(1, 2), (3, 4), (5, 6)] 0).toArray = _
    rw [a_repl]
  rw [er]
  go_wp2_with fail
  go_ret
  exact ⟨by first | rfl | decide, B2.out⟩
end Go.Proofs.YtimipfdknfdbdaaGreatDoor

/- subst.Join: a walk. -/
namespace Go.Proofs.YtimipfdknfdbdaaGreatDoor
open Go.RowKit

set_option maxRecDepth 100000 in
set_option maxHeartbeats 1000000 in
theorem sjoin_spec (l : List ByteArray) (v : Value) (sep : ByteArray) (w : World) (hl : StrsAt w v l) (hn : l.length ≤ 1000000000) (hlen : (sJoin sep.data.toList (bytesL l)).length ≤ 140737488355328) :
    Calls Tryz.prog 6 #[v, .string sep] w fun e w' => e = .returned (.string ⟨(sJoin sep.data.toList (bytesL l)).toArray⟩) ∧ Below w.heap.size w w' := by
  have HL := Lib.hid hl
  have HLEN := Lib.hid hlen
  obtain ⟨a, c, rfl⟩ := hl.shape
  clear hl hlen
  go_enter Tryz.func6, Tryz.ntmps6
  go_upto_region 2 with (fail)
  obtain ⟨W, hW, HW, HB⟩ := builder_new w
  rw [← hW]
  clear hW
  have HQ := Lib.hid (swrite_spec w.heap.size w.heap.size [] l _ sep W HW.out (HL.out.after HB.out) hn (by simpa using HLEN.out))
  go_wp2_with fail
  refine HQ.out.mono ?_
  rintro e w2 ⟨rfl, hw2⟩
  rw [List.nil_append] at hw2
  have W2 := Lib.hid hw2
  clear hw2
  have HS := Lib.hid (Tryz.Builder_String_any_f w.heap.size w.heap.size (sJoin sep.data.toList (bytesL l)) w2 W2.out.ok.is W2.out.ok.le)
  go_wp2_with fail
  refine HS.out.mono ?_
  rintro e w3 ⟨rfl, _, b3⟩
  have B3 := Lib.hid b3
  clear b3
  go_wp2_with fail
  go_ret
  exact ⟨rfl, HB.out.trans (W2.out.below.trans B3.out)⟩
end Go.Proofs.YtimipfdknfdbdaaGreatDoor

/- subst.byByte, At by a byte: walks. -/
namespace Go.Proofs.YtimipfdknfdbdaaGreatDoor
open Go.RowKit

theorem splitK_ne (sep s : List UInt8) (k : Nat) : Lib.splitK sep 0 k s ≠ [] := by
  cases k with
  | zero => simp [Lib.splitK]
  | succ k => unfold Lib.splitK; split <;> simp
/-- What a separator parts is joined by it again. -/
theorem join_split (sep : List UInt8) (k : Nat) : ∀ s : List UInt8, sJoin sep (Lib.splitK sep 0 k s) = s := by
  induction k with
  | zero => intro s; simp [Lib.splitK, sJoin]
  | succ k ih =>
    intro s
    unfold Lib.splitK
    rcases Lib.index_spec s sep with ⟨h, _⟩ | ⟨i, h, hi, ho, _⟩
    · rw [if_pos (by rw [h]; rfl)]
      simp [sJoin]
    · have hn : ¬ (Lib.index s sep == -1) = true := fun e => by have := beq_iff_eq.1 e; omega
      rw [if_neg hn, sJoin_cons _ _ _ (splitK_ne _ _ _), ih, h]
      unfold Lib.occAt at ho
      obtain ⟨r, hr⟩ := List.isPrefixOf_iff_prefix.1 ho
      have e1 : ((i : Int).toNat + 0) = i := by omega
      have e2 : s.drop ((i : Int).toNat + sep.length) = r := by
        rw [show (i : Int).toNat + sep.length = i + sep.length by omega, ← List.drop_drop, ← hr, List.drop_left']
        rfl
      rw [e1, e2, hr, List.take_append_drop]

/-- The parts of a text by a byte. -/
def PartsOut (s sep : ByteArray) (w : World) (v : Value) (w' : World) : Prop :=
  ∃ l, StrsAt w' v l ∧ sJoin sep.data.toList (bytesL l) = s.data.toList ∧ l.length ≤ s.size + 1 ∧ Below w.heap.size w w'

set_option maxRecDepth 100000 in
theorem byByte_spec (s sep : ByteArray) (h1 : sep.size = 1) (hs : s.size ≤ 100000) (w : World) (hm : ∃ m : Int, w.cell? ⟨0, 0, none⟩ = some (.int .i64 m)) :
    Calls Tryz.prog 11 #[.string s, .string sep] w fun e w' => ∃ v, e = .returned v ∧ PartsOut s sep w v w' := by
  obtain ⟨m, hm⟩ := hm
  by_cases h0 : s.size = 0
  · have hsl : s.data.toList = [] := List.eq_nil_of_length_eq_zero (by rw [Array.length_toList]; exact h0)
    have hs0 : s.toList = [] := by rw [Lib.toList_data, hsl]
    have hse : s.toList.isEmpty = true := by rw [hs0]; rfl
    have HS := Lib.hid hsl
    clear hsl hm
    go_enter Tryz.func11, Tryz.ntmps11
    go_wp2_with fail
    go_ret
    exact ⟨_, rfl, [], World.ownsRow_nil _ _ _ _, by rw [HS.out]; rfl, by simp, Below.refl _ _⟩
  · have hne : s.data.toList ≠ [] := fun e => h0 (by have := congrArg List.length e; simpa using this)
    have hs0 : ¬ s.toList = [] := by rw [Lib.toList_data]; exact hne
    have hse : s.toList.isEmpty = false := by cases h : s.toList with
                                            | nil => exact absurd h hs0
                                            | cons a b => rfl
    have HC := Lib.hid (Tryz.strings_Split s sep m w (by omega) hm (by omega))
    have hln := Lib.hid (Lib.splitB_all sep (by omega) 0 _ s rfl)
    have hle := Lib.countB_le sep (by omega) s.size s (Nat.le_refl _)
    have hd := Lib.hid (Lib.splitB_data sep 0 (Lib.countB s sep) s)
    obtain ⟨n, hn⟩ : ∃ n, n = Lib.countB s sep := ⟨_, rfl⟩
    obtain ⟨l, hl⟩ : ∃ l, l = Lib.splitB sep 0 (Lib.countB s sep) s := ⟨_, rfl⟩
    rw [← hl, ← hn] at HC hln
    rw [← hl, ← hn] at hd
    rw [← hn] at hle
    clear hl hn hm hne
    go_enter Tryz.func11, Tryz.ntmps11
    go_wp2_with fail
    refine HC.out.mono ?_
    rintro e w1 ⟨rfl, hw1⟩
    have hO : StrsAt w1 (.slice (some ⟨w.heap.size, 0, none⟩) (n + 1) (n + 1)) l := by
      have := World.ownsRow_lit (base := 0) (e := 9) (size := 1) w (l.map Value.string).toArray (n + 1) (Nat.zero_le _) (by unfold maxLen; omega) (by simp [hln.out])
      unfold StrsAt
      rw [hw1, hln.out]
      exact this
    have HO := Lib.hid hO
    have B1 : Hid (Below w.heap.size w w1) := Lib.hid (by rw [hw1]; exact below_new _ _)
    clear hw1 hO
    go_wp2_with fail
    go_ret
    refine ⟨_, rfl, l, HO.out, ?_, by rw [hln.out]; omega, B1.out⟩
    show sJoin sep.data.toList (l.map (·.data.toList)) = _
    rw [hd.out, join_split]

set_option maxRecDepth 100000 in
theorem at_byte (s sep : ByteArray) (c : UInt8) (hsep : sep.data.toList = [c]) (h32 : c ≠ 32) (h92 : c ≠ 92) (hs : s.size ≤ 100000) (w : World) (hm : ∃ m : Int, w.cell? ⟨0, 0, none⟩ = some (.int .i64 m)) :
    Calls Tryz.prog 5 #[.string s, .string sep] w fun e w' => ∃ v, e = .returned (.tuple #[v, .int .i64 0, .int .i64 0]) ∧ PartsOut s sep w v w' := by
  have h1 : sep.size = 1 := by have := congrArg List.length hsep; simpa using this
  have ht : sep.toList = [c] := by rw [Lib.toList_data]; exact hsep
  have a32 : ¬ sep.toList = [32] := by rw [ht]; intro h; exact h32 (List.cons.inj h).1
  have b32 : (sep.toList == [32]) = false := beq_eq_false_iff_ne.2 a32
  have a92 : ¬ sep.toList = [92] := by rw [ht]; intro h; exact h92 (List.cons.inj h).1
  have b92 : (sep.toList == [92]) = false := beq_eq_false_iff_ne.2 a92
  have c92 : (sep.toList != [92]) = true := by simp [bne, b92]
  have a0 : ¬ sep.toList = [] := by rw [ht]; simp
  have b0 : sep.toList.isEmpty = false := by rw [ht]; rfl
  have HB := Lib.hid (byByte_spec s sep h1 hs w hm)
  clear ht hsep hm
  go_enter Tryz.func5, Tryz.ntmps5
  go_wp2_with fail
  refine HB.out.mono ?_
  rintro e w1 ⟨v, rfl, l, h2, h3, h4, h5⟩
  obtain ⟨a, k, rfl⟩ := h2.shape
  have HP : Hid (PartsOut s sep w (.slice a l.length k) w1) := Lib.hid ⟨l, h2, h3, h4, h5⟩
  clear h2 h3 h4 h5
  go_wp2_with fail
  go_ret3
  exact ⟨_, rfl, HP.out⟩
end Go.Proofs.YtimipfdknfdbdaaGreatDoor
