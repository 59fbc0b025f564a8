/- Merged by program: SAll, SLive, MLive. -/
import Derived.Test.YtimipfdknfdbdaaGbe
import Derived.Test.YtimipfdknfdbdaaGal
import Derived.Test.YtimipfdknfdbdaaGbc
/- subst.found, All: walks. -/
namespace Go.Proofs.Ytimipfdknfdbdaa
open Go.RowKit

theorem PairsAt.of {w : World} {B : Nat} {v : Value} {l : List (Nat × Nat)} (h : w.ownsRow B 30 2 v l.length (pairs l)) : PairsAt w v l := by
  refine ⟨h.1, ?_⟩
  rcases h.2 with h0 | ⟨g', cap', cur', e1, hbg, hg, rest⟩
  · exact Or.inl h0
  · exact Or.inr ⟨g', cap', cur', e1, Nat.zero_le _, hg, rest⟩

set_option maxRecDepth 100000 in
theorem found_spec (pp start : Nat) (t s : ByteArray) (ss : List St) (sv : Value) (hs : SsOk ss) (hst : start < ss.length) (hsz : s.size ≤ 1000000) (w : World) (hm : PatM w pp t ss sv start) (l : List (Nat × Nat)) (hl : l = allN (longN ss start s) s.size) (hlen : l.length ≤ 1000000) :
    Calls Try.prog 35 #[.pointer (some ⟨pp, 0, none⟩), .string s] w fun e w' => ∃ v, e = .returned v ∧ PairsAt w' v l ∧ Below w.heap.size w w' := by
  have HC := Lib.hid (all_spec pp start t s ss sv hs hst (by omega) w hm (by rw [← hl]; omega))
  rw [← hl] at HC
  clear hl hs hst hm
  go_enter Try.func35, Try.ntmps35
  go_wp2_with fail
  refine HC.out.mono ?_
  rintro e w1 ⟨v, rfl, h1, b1⟩
  have H1 := Lib.hid (PairsAt.of h1)
  have B1 := Lib.hid b1
  clear h1 b1
  go_wp2_with fail
  go_ret
  exact ⟨v, rfl, H1.out, B1.out⟩

set_option maxRecDepth 100000 in
theorem sall_spec (pp start : Nat) (t by_ s : ByteArray) (ss : List St) (sv : Value) (hs : SsOk ss) (hst : start < ss.length) (hb : by_.size ≤ 10000) (hsz : s.size ≤ 100000) (w : World) (hm : PatM w pp t ss sv start) (l : List (Nat × Nat)) (hl : l = allN (longN ss start s) s.size) (hT : (sRepl by_.data.toList s.data.toList l 0).length ≤ 70368744177664) :
    Calls Try.prog 21 #[.pointer (some ⟨pp, 0, none⟩), .string by_, .string s] w fun e w' => e = .returned (.tuple #[.string ⟨(sRepl by_.data.toList s.data.toList l 0).toArray⟩, .int .i64 l.length]) ∧ Below w.heap.size w w' := by
  have ho : Ordered s.size 0 0 l := by rw [hl]; exact foundN_ordered _ _ (longN_ok ss start s) _ 0 0 (by omega)
  have hln := ho.len
  have HF := Lib.hid (found_spec pp start t s ss sv hs hst (by omega) w hm l hl (by omega))
  have HR := Lib.hid (fun v w' (hv : PairsAt w' v l) => replaced_spec l v by_ s w' hv 0 ho (by omega) hb (by omega) hT)
  clear hs hst hm hl ho hT
  go_enter Try.func21, Try.ntmps21
  go_wp2_with fail
  refine HF.out.mono ?_
  rintro e w1 ⟨v, rfl, h1, b1⟩
  obtain ⟨a, c, rfl⟩ := h1.shape
  have HR1 := Lib.hid (HR.out _ w1 h1)
  have B1 := Lib.hid b1
  clear h1 b1
  by_cases h0 : l.length = 0
  · obtain rfl : l = [] := List.eq_nil_of_length_eq_zero h0
    clear HR1 HR
    simp only [List.length_nil]
    go_wp2_with fail
    go_ret2
    exact ⟨rfl, B1.out⟩
  · have n0 : ((l.length : Int) == 0) = false := beq_eq_false_iff_ne.2 (by omega)
    go_wp2_with fail
    refine HR1.out.mono ?_
    rintro e w2 ⟨rfl, b2⟩
    have B2 := Lib.hid (Below.step B1.out b2)
    clear b2
    go_wp2_with fail
    go_ret2
    exact ⟨rfl, B2.out⟩
end Go.Proofs.Ytimipfdknfdbdaa

/- New of a definite pattern; aukletlaw08.lives: a walk. -/
namespace Go.Proofs.Ytimipfdknfdbdaa
open Go.RowKit

/-- A pattern that is read as a tree that can be and is not too great. -/
theorem new_yes (s : ByteArray) (t : Tree) (hP : E5.PatternAt s.data.toList t 0) (hg : Good 100 (-1) t) (hg1 : Good 101 (-1) t) (hn : (planN 101 t).n < 500) (hs : s.size ≤ 400) (w : World) :
    Calls Try.prog 7 #[.string s] w fun e w' => ∃ pp sv, e = .returned (.tuple #[.pointer (some ⟨pp, 0, none⟩), .int .i64 0, .int .i64 0]) ∧ w.heap.size ≤ pp ∧ PatM w' pp s (machN t).2 sv (machN t).1 ∧ Below w.heap.size w w' := by
  refine (new_gen s (fun u x => u = t ∧ x = 0) (fun b => b = true) w ?_ ?_).mono ?_
  · refine (E5.parse_go s.data.toList t 0 hP (by omega) s rfl hs w).mono ?_
    rintro e w' ⟨ds, rfl, hat, hb⟩
    exact ⟨t, ds, 0, 0, rfl, hat, Lib.hid ⟨rfl, rfl⟩, hb⟩
  · rintro u x ⟨rfl, _⟩ _ rs B W hat
    refine (build_yes u rs B W hat hg hg1 hn).mono ?_
    intro e w' h
    exact ⟨true, rfl, Or.inr (Or.inr ⟨rfl, hn, hg1, h⟩)⟩
  · rintro e w' ⟨u, x, ⟨rfl, rfl⟩, hb, h | h | h⟩
    · exact absurd rfl h.1
    · rcases h.2.1 with h | h
      · exact absurd h (by decide)
      · omega
    · obtain ⟨_, _, _, _, pp, sv, rfl, h1, h2⟩ := h
      exact ⟨pp, sv, rfl, h1, h2, hb⟩

theorem one_fit (within : Int) (c : Nat) : FitT within (E5.oneT c) where
  fits := E5.fits_oneF c
  k0 := by show (0 : Int) ≤ 1; omega
  k6 := by show (1 : Int) ≤ 6; omega
  set := fun h => absurd rfl h
  times := fun _ => ⟨rfl, rfl⟩
  alone := fun _ => rfl
  empty := fun h => by have h' : (1 : Int) = 0 := h; omega
  parts := fun h => by have h' : (1 : Int) = 4 ∨ (1 : Int) = 5 := h; omega
  rep := fun h => by have h' : (1 : Int) = 6 := h; omega
  few := Nat.zero_le _
theorem one_good (n : Nat) (within : Int) (c : Nat) : Good (n + 1) within (E5.oneT c) := ⟨one_fit within c, fun x hx => absurd hx (by simp [E5.oneT, Tree.kids])⟩
theorem patt_one {l : List UInt8} {t : Tree} {m : Nat} (h : E5.BranchAt l t m) (h5 : t.k ≠ 5) : E5.PatternAt l t m := by
  have key : E5.PatternAt ((⟨l, t, m⟩ : E5.Pc).l ++ E5.restAlt []) (E5.joinT 5 ((⟨l, t, m⟩ :: ([] : List E5.Pc)).map (·.t))) (E5.maxN [⟨l, t, m⟩]) := by
    intro s k d p w rest hdrop hrest hs hks hd hr
    refine ⟨fun hn => E5.pattern_walk ⟨l, t, m⟩ [] ⟨h, h5⟩ (fun q hq => absurd hq (by simp)) (by simp) s k d p w rest hdrop hrest hs hks hd hr _ (fun _ _ _ h => h) (fun hb => ?_), fun hn => E5.pattern_walk ⟨l, t, m⟩ [] ⟨h, h5⟩ (fun q hq => absurd hq (by simp)) (by simp) s k d p w rest hdrop hrest hs hks hd hr _ (fun hg => ?_) (fun _ _ _ h => h)⟩
    · obtain ⟨q, hq, hq2⟩ := hb
      have := (E5.maxN_le hd).1 hn q hq
      omega
    · have := (E5.maxN_le hd).2 hg
      omega
  have e1 : (⟨l, t, m⟩ : E5.Pc).l ++ E5.restAlt [] = l := List.append_nil l
  have e2 : E5.maxN [⟨l, t, m⟩] = m := Nat.max_eq_left (Nat.zero_le m)
  rw [e1, e2] at key
  exact key
theorem a_parse : E5.PatternAt [97] (E5.oneT 97) 0 := by
  have p1 : E5.PieceAt [97] (E5.oneT 97) 0 := E5.piece_at [97] (E5.oneT 97) 0 (E5.atom_byte 97 (by decide)) [] (fun x hx => absurd hx (by simp))
  have b1 : E5.BranchAt [97] (E5.oneT 97) 0 := E5.branch_at [⟨[97], E5.oneT 97, 0⟩] (fun x hx => by rw [List.mem_singleton.1 hx]; exact ⟨p1, ⟨97, [], rfl, by decide⟩, by show (1 : Int) ≠ 4; omega, by show (1 : Int) ≠ 0; omega⟩) (by decide)
  exact patt_one b1 (by show (1 : Int) ≠ 5; omega)

def bananaB : ByteArray := ⟨#[98, 97, 110, 97, 110, 97]⟩
theorem a_few : (planN 101 (E5.oneT 97)).n < 500 := by decide +kernel
theorem a_all : allN (longN (machN (E5.oneT 97)).2 (machN (E5.oneT 97)).1 bananaB) 6 = [(1, 2), (3, 4), (5, 6)] := by decide +kernel
theorem a_repl : sRepl [60, 38, 62] [98, 97, 110, 97, 110, 97] [(1, 2), (3, 4), (5, 6)] 0 = [98, 60, 97, 62, 110, 60, 97, 62, 110, 60, 97, 62] := by decide +kernel

set_option maxRecDepth 100000 in
theorem lives8_spec (w : World) :
    Calls Try.prog 10 #[] w fun e w' => e = .returned (.bool true) ∧ Below w.heap.size w w' := by
  obtain ⟨okS, okT⟩ := mach_ok (E5.oneT 97) (one_good 100 (-1) 97) a_few
  have HN := Lib.hid (new_yes ⟨#[97]⟩ (E5.oneT 97) a_parse (one_good 99 (-1) 97) (one_good 100 (-1) 97) a_few (by decide) w)
  have HA := Lib.hid (fun pp sv w' (hm : PatM w' pp ⟨#[97]⟩ (machN (E5.oneT 97)).2 sv (machN (E5.oneT 97)).1) => sall_spec pp (machN (E5.oneT 97)).1 ⟨#[97]⟩ ⟨#[60, 38, 62]⟩ ⟨#[98, 97, 110, 97, 110, 97]⟩ (machN (E5.oneT 97)).2 sv okS okT (by decide) (by decide) w' hm [(1, 2), (3, 4), (5, 6)] a_all.symm (by show (sRepl [60, 38, 62] [98, 97, 110, 97, 110, 97] [(1, 2), (3, 4), (5, 6)] 0).length ≤ 70368744177664; rw [a_repl]; decide))
  clear okS okT
  go_enter Try.func10, Try.ntmps10
  go_wp2_with fail
  refine HN.out.mono ?_
  rintro e w1 ⟨pp, sv, rfl, hpp, hm, b1⟩
  have HA1 := Lib.hid (HA.out pp sv w1 hm)
  have B1 := Lib.hid b1
  clear HN HA hm b1
  go_wp2_with fail
  refine HA1.out.mono ?_
  rintro e w2 ⟨rfl, b2⟩
  have B2 := Lib.hid (Below.step B1.out b2)
  clear b2
  have er : (sRepl (⟨#[60, 38, 62]⟩ : ByteArray).data.toList (⟨#[98, 97, 110, 97, 110, 97]⟩ : ByteArray).data.toList [(1, 2), (3, 4), (5, 6)] 0).toArray = #[98, 60, 97, 62, 110, 60, 97, 62, 110, 60, 97, 62] := by
    show (sRepl [60, 38, 62] [98, 97, 110, 97, 110, 97] [(1, 2), (3, 4), (5, 6)] 0).toArray = _
    rw [a_repl]
  rw [er]
  go_wp2_with fail
  go_ret
  exact ⟨by first | rfl | decide, B2.out⟩
end Go.Proofs.Ytimipfdknfdbdaa

/- aukletref07.Same at one list; aukletlaw07.lives: walks. -/
namespace Go.Proofs.Ytimipfdknfdbdaa
open Go.RowKit

theorem ipart_0 (a b : Int) (w : World) : (part 3 #[.int .i64 a, .int .i64 b] 0).run Try.prog w = .ok (.int .i64 a) w := by kernel_rfl
theorem ipart_1 (a b : Int) (w : World) : (part 3 #[.int .i64 a, .int .i64 b] 1).run Try.prog w = .ok (.int .i64 b) w := by kernel_rfl
theorem equalIn_pair (d : Nat) (a b : Int) (w : World) :
    (Op.equalIn (d + 2) 30 (.agg #[.int .i64 a, .int .i64 b]) (.agg #[.int .i64 a, .int .i64 b])).run Try.prog w = .ok true w := by
  have E (a b : Int) (w : World) : (Op.equalIn (d + 1) 3 (.int .i64 a) (.int .i64 b)).run Try.prog w = .ok (a == b) w := run_equalIn_int w d 3 .i64 .i64 a b Try.underlying3
  rw [Op.equalIn]
  simp [Sem.run_bind, run_underlying Try.underlying30, Result.andThen_ok]
  rw [show List.range' 0 2 = [0, 1] from rfl]
  simp only [List.forIn_cons, List.forIn_nil, Sem.run_bind, ipart_0, E, Result.andThen_ok]
  simp [Result.andThen, Sem.run_bind, ipart_1, E]

set_option maxRecDepth 100000 in
set_option maxHeartbeats 2000000 in
theorem same7_spec (l : List (Nat × Nat)) (v v2 : Value) (w : World) (h : PairsAt w v l) (h2 : PairsAt w v2 l) (hl : l.length ≤ 1000000) :
    Calls Try.prog 15 #[v, v2] w fun e w' => e = .returned (.bool true) ∧ Below w.heap.size w w' := by
  have H1 := Lib.hid h
  have H2 := Lib.hid h2
  obtain ⟨a, c, rfl⟩ := h.shape
  obtain ⟨a2, c2, rfl⟩ := h2.shape
  clear h h2
  have hq : ∀ (x y : Int) (w : World), (Op.equalIn 10000 30 (.agg #[.int .i64 x, .int .i64 y]) (.agg #[.int .i64 x, .int .i64 y])).run Try.prog w = .ok true w := fun x y w => equalIn_pair 9998 x y w
  go_enter Try.func15, Try.ntmps15
  go_wp2_with fail
  go_loopw [5] (fun y wr => ∃ i : Nat, y = .int .i64 i ∧ i ≤ l.length ∧ Hid (Below w.heap.size w wr)) (fun y _ => l.length - (intOf y).toNat)
  case atStart => exact ⟨0, rfl, by omega, Lib.hid (Below.refl _ _)⟩
  case round =>
    obtain ⟨i, rfl, hi, hb⟩ := hrel
    by_cases hgo : i < l.length
    · obtain ⟨g, e, g1, g2⟩ := (H1.out.after hb.out).cell i hgo
      subst e
      obtain ⟨k, e, k1, k2⟩ := (H2.out.after hb.out).cell i hgo
      subst e
      go_wp2_with fail
      go_quiet (fail)
      go_wp2_with fail
      go_roundw
      case rel => exact ⟨i + 1, by go_num, by omega, Lib.hid (Below.drewN' hb.out _)⟩
      case measure => simp [intOf]; omega
    · obtain rfl : i = l.length := by omega
      go_wp2_with fail
      go_ret
      exact ⟨rfl, hb.out⟩

theorem starp_ok : E5.OkTimes (0, -1) := ⟨by show (0 : Int) ≤ 0; omega, by show (0 : Int) ≤ 50; omega, Or.inl rfl⟩
def astarT : Tree := E5.repT 0 (-1) (E5.oneT 97)
theorem astar_fit (within : Int) : FitT within astarT where
  fits := fits_zero
  k0 := by show (0 : Int) ≤ 6; omega
  k6 := by show (6 : Int) ≤ 6; omega
  set := fun _ _ _ => rfl
  times := fun h => absurd rfl h
  alone := fun h => by have h' : (6 : Int) < 4 := h; omega
  empty := fun h => by have h' : (6 : Int) = 0 := h; omega
  parts := fun h => by have h' : (6 : Int) = 4 ∨ (6 : Int) = 5 := h; omega
  rep := fun _ => ⟨rfl, by show (0 : Int) ≤ 0; omega, by show (0 : Int) ≤ 50; omega, Or.inl rfl⟩
  few := by show 1 ≤ 1000000; omega
theorem astar_good (n : Nat) (within : Int) : Good (n + 2) within astarT :=
  ⟨astar_fit within, fun x h => by rw [List.mem_singleton.1 h]; exact one_good n 6 97⟩
theorem astar_parse : E5.PatternAt [97, 42] astarT 0 := by
  have p2 := E5.piece_at [97] (E5.oneT 97) 0 (E5.atom_byte 97 (by decide)) [(0, -1)] (fun x hx => by rw [List.mem_singleton.1 hx]; exact starp_ok)
  rw [show [97] ++ E5.repsL [(0, -1)] = [97, 42] from by decide] at p2
  have b2 : E5.BranchAt [97, 42] astarT 0 := E5.branch_at [⟨[97, 42], astarT, 0⟩] (fun x hx => by rw [List.mem_singleton.1 hx]; exact ⟨p2, ⟨97, [42], rfl, by decide⟩, by show (6 : Int) ≠ 4; omega, by show (6 : Int) ≠ 0; omega⟩) (by decide)
  exact patt_one b2 (by show (6 : Int) ≠ 5; omega)
def baaB : ByteArray := ⟨#[98, 97, 97]⟩
theorem astar_few : (planN 101 astarT).n < 500 := by decide +kernel
theorem astar_all : allN (longN (machN astarT).2 (machN astarT).1 baaB) 3 = [(0, 0), (1, 3)] := by decide +kernel

set_option maxRecDepth 100000 in
theorem text_spec7 (pp start : Nat) (t : ByteArray) (ss : List St) (sv : Value) (w : World) (hm : PatM w pp t ss sv start) :
    Calls Try.prog 16 #[.pointer (some ⟨pp, 0, none⟩)] w fun e w' => e = .returned (.string t) ∧ w' = w := by
  have c0 := hm.c0
  go_enter Try.func16, Try.ntmps16
  go_wp2_with fail
  go_ret
  exact ⟨rfl, rfl⟩

set_option maxRecDepth 100000 in
set_option maxHeartbeats 2000000 in
theorem lives7_spec (w : World) :
    Calls Try.prog 6 #[] w fun e w' => e = .returned (.bool true) ∧ Below w.heap.size w w' := by
  obtain ⟨okS, okT⟩ := mach_ok astarT (astar_good 99 (-1)) astar_few
  have HN := Lib.hid (new_yes ⟨#[97, 42]⟩ astarT astar_parse (astar_good 98 (-1)) (astar_good 99 (-1)) astar_few (by decide) w)
  have HA := Lib.hid (fun pp sv w' (hm : PatM w' pp ⟨#[97, 42]⟩ (machN astarT).2 sv (machN astarT).1) => all_spec pp (machN astarT).1 ⟨#[97, 42]⟩ ⟨#[98, 97, 97]⟩ (machN astarT).2 sv okS okT (by decide) w' hm (by show (allN (longN (machN astarT).2 (machN astarT).1 baaB) 3).length ≤ 1000000000; rw [astar_all]; decide))
  have HA2 : Hid (∀ pp sv w', PatM w' pp ⟨#[97, 42]⟩ (machN astarT).2 sv (machN astarT).1 → Calls Try.prog 8 #[.pointer (some ⟨pp, 0, none⟩), .string ⟨#[98, 97, 97]⟩] w' fun e w2 => ∃ v, e = .returned v ∧ PairsAt w2 v [(0, 0), (1, 3)] ∧ Below w'.heap.size w' w2) := Lib.hid (by
    intro pp sv w' hm
    refine (HA.out pp sv w' hm).mono ?_
    rintro e w2 ⟨v, rfl, h1, h2⟩
    have e1 : allN (longN (machN astarT).2 (machN astarT).1 ⟨#[98, 97, 97]⟩) (⟨#[98, 97, 97]⟩ : ByteArray).size = [(0, 0), (1, 3)] := astar_all
    rw [e1] at h1
    exact ⟨v, rfl, PairsAt.of h1, h2⟩)
  obtain ⟨ms, hms⟩ : ∃ ms, ms = (machN astarT).2 := ⟨_, rfl⟩
  obtain ⟨mt, hmt⟩ : ∃ mt, mt = (machN astarT).1 := ⟨_, rfl⟩
  rw [← hms, ← hmt] at HN HA2
  clear okS okT HA hms hmt
  go_enter Try.func6, Try.ntmps6
  go_wp2_with fail
  refine HN.out.mono ?_
  rintro e w1 ⟨pp, sv, rfl, hpp, hm, b1⟩
  have HM1 := Lib.hid hm
  have HA1 := Lib.hid (HA2.out pp sv w1 hm)
  have B1 := Lib.hid b1
  clear HN HA2 hm b1
  go_wp2_with fail
  refine HA1.out.mono ?_
  rintro e w2 ⟨v, rfl, hv, b2⟩
  have HV := Lib.hid hv
  have HM2 := Lib.hid (HM1.out.after b2)
  have B2 := Lib.hid (Below.step B1.out b2)
  clear hv b2
  have hV2 := HV.out.after (below_new w2 (.cells #[.int .i64 0, .int .i64 0, .int .i64 1, .int .i64 3] 30))
  have hL2 : PairsAt (w2.alloc (.cells #[.int .i64 0, .int .i64 0, .int .i64 1, .int .i64 3] 30)) (.slice (some ⟨w2.heap.size, 0, none⟩) 2 2) [(0, 0), (1, 3)] := World.ownsRow_lit (base := 0) (e := 30) (size := 2) w2 #[.int .i64 0, .int .i64 0, .int .i64 1, .int .i64 3] 2 (Nat.zero_le _) (by unfold maxLen; omega) rfl
  have HS := Lib.hid (same7_spec [(0, 0), (1, 3)] v (.slice (some ⟨w2.heap.size, 0, none⟩) 2 2) _ hV2 hL2 (by decide))
  have HM3 := Lib.hid (HM2.out.after (below_new w2 (.cells #[.int .i64 0, .int .i64 0, .int .i64 1, .int .i64 3] 30)))
  have B3 := Lib.hid (Below.step B2.out (below_new w2 (.cells #[.int .i64 0, .int .i64 0, .int .i64 1, .int .i64 3] 30)))
  clear hV2 hL2
  go_wp2_with fail
  refine HS.out.mono ?_
  rintro e w3 ⟨rfl, b3⟩
  have HT := Lib.hid (text_spec7 pp mt ⟨#[97, 42]⟩ ms sv w3 (HM3.out.after b3))
  have B4 := Lib.hid (Below.step B3.out b3)
  clear b3
  go_wp2_with fail
  refine HT.out.mono ?_
  rintro e w4 ⟨rfl, rfl⟩
  go_wp2_with fail
  go_ret
  exact ⟨by first | rfl | decide, B4.out⟩
end Go.Proofs.Ytimipfdknfdbdaa
