/- aukletlaw05.lives: a walk. -/
import Derived.Test.YtdhndfmblmcapaaDoorEre
import Derived.Test.YtdhndfmblmcapaaDoorEShow
import Derived.Test.YtdhndfmblmcapaaDoorLeast
namespace Go.Proofs.YtdhndfmblmcapaaDoor
open Go.RowKit

theorem pattern_at (b0 : Pc) (bs : List Pc) (h0 : BrOk b0) (hbs : ∀ q, q ∈ bs → BrOk q) (hlen : bs.length + 1 ≤ 400) : PatternAt (b0.l ++ restAlt bs) (joinT 5 ((b0 :: bs).map (·.t))) (maxN (b0 :: bs)) := by
  intro s k d p w rest hdrop hrest hs hks hd hr
  refine ⟨fun hn => pattern_walk b0 bs h0 hbs hlen s k d p w rest hdrop hrest hs hks hd hr _ (fun _ _ _ h => h) (fun hb => ?_), fun hn => pattern_walk b0 bs h0 hbs hlen s k d p w rest hdrop hrest hs hks hd hr _ (fun hg => ?_) (fun _ _ _ h => h)⟩
  · obtain ⟨q, hq, hq2⟩ := hb
    have := (maxN_le hd).1 hn q hq
    omega
  · have := (maxN_le hd).2 hg
    omega

theorem oneT_fit (within : Int) (c : Nat) : FitT within (oneT c) where
  fits := fits_oneF c
  k0 := by show (0 : Int) ≤ 1; omega
  k6 := by show (1 : Int) ≤ 6; omega
  set := fun h => absurd rfl h
  times := fun _ => ⟨rfl, rfl⟩
  alone := fun _ => rfl
  empty := fun h => by have h' : (1 : Int) = 0 := h; omega
  parts := fun h => by have h' : (1 : Int) = 4 ∨ (1 : Int) = 5 := h; omega
  rep := fun h => by have h' : (1 : Int) = 6 := h; omega
  few := Nat.zero_le _
theorem oneT_good (n : Nat) (within : Int) (c : Nat) : Good (n + 1) within (oneT c) := ⟨oneT_fit within c, fun x hx => absurd hx (by simp [oneT, Tree.kids])⟩
theorem rep_fit (within lo hi : Int) (t : Tree) (hx : OkTimes (lo, hi)) : FitT within (repT lo hi t) where
  fits := fits_zero
  k0 := by show (0 : Int) ≤ 6; omega
  k6 := by show (6 : Int) ≤ 6; omega
  set := fun _ _ _ => rfl
  times := fun h => absurd rfl h
  alone := fun h => by have h' : (6 : Int) < 4 := h; omega
  empty := fun h => by have h' : (6 : Int) = 0 := h; omega
  parts := fun h => by have h' : (6 : Int) = 4 ∨ (6 : Int) = 5 := h; omega
  rep := fun _ => ⟨rfl, hx⟩
  few := by show 1 ≤ 1000000; omega
theorem rep_good (n : Nat) (within lo hi : Int) (t : Tree) (hx : OkTimes (lo, hi)) (ht : Good n 6 t) : Good (n + 1) within (repT lo hi t) :=
  ⟨rep_fit within lo hi t hx, fun x h => by rw [List.mem_singleton.1 h]; exact ht⟩
/-- A tree of two parts or more. -/
theorem many_fit (within k : Int) (l : List Tree) (hk : k = 4 ∨ k = 5) (hw : k ≠ within) (h2 : 2 ≤ l.length) (hl : l.length ≤ 1000000) : FitT within (.mk k zero4 0 0 l) where
  fits := fits_zero
  k0 := by show (0 : Int) ≤ k; omega
  k6 := by show k ≤ 6; omega
  set := fun _ _ _ => rfl
  times := fun _ => ⟨rfl, rfl⟩
  alone := fun h => by have h' : k < 4 := h; omega
  empty := fun h => by have h' : k = 0 := h; omega
  parts := fun _ => ⟨hw, h2⟩
  rep := fun h => by have h' : k = 6 := h; omega
  few := hl

theorem star_ok : OkTimes (0, -1) := ⟨by show (0 : Int) ≤ 0; omega, by show (0 : Int) ≤ 50; omega, Or.inl rfl⟩
def liveT : Tree := .mk 5 zero4 0 0 [oneT 97, repT 0 (-1) (oneT 98)]
theorem live_good : Good 100 (-1) liveT :=
  ⟨many_fit (-1) 5 _ (Or.inr rfl) (by omega) (Nat.le_refl 2) (by show 2 ≤ 1000000; omega), fun x hx => by
    rcases List.mem_cons.1 hx with rfl | hx
    · exact oneT_good 98 5 97
    · rw [List.mem_singleton.1 hx]
      exact rep_good 98 5 0 (-1) _ star_ok (oneT_good 97 6 98)⟩
theorem live_show : showN 100 liveT = [91, 97, 93, 124, 91, 98, 93, 42] := by decide +kernel
theorem live_least : Leasts liveT (min 1 (0 * 1)) :=
  leasts_two zero4 0 0 _ _ 1 (0 * 1) (leasts_set _ 0 0 []) (leasts_rep zero4 0 (-1) (by omega) (by omega) _ 1 (by omega) (by omega) (leasts_set _ 0 0 []))
theorem live_parse : PatternAt [97, 124, 98, 42] liveT 0 := by
  have p1 : PieceAt [97] (oneT 97) 0 := piece_at [97] (oneT 97) 0 (atom_byte 97 (by decide)) [] (fun x hx => absurd hx (by simp))
  have p2 := piece_at [98] (oneT 98) 0 (atom_byte 98 (by decide)) [(0, -1)] (fun x hx => by rw [List.mem_singleton.1 hx]; exact star_ok)
  rw [show [98] ++ repsL [(0, -1)] = [98, 42] from by decide] at p2
  have b1 : BranchAt [97] (oneT 97) 0 := branch_at [⟨[97], oneT 97, 0⟩] (fun x hx => by rw [List.mem_singleton.1 hx]; exact ⟨p1, ⟨97, [], rfl, by decide⟩, by show (1 : Int) ≠ 4; omega, by show (1 : Int) ≠ 0; omega⟩) (by decide)
  have b2 : BranchAt [98, 42] (repT 0 (-1) (oneT 98)) 0 := branch_at [⟨[98, 42], repT 0 (-1) (oneT 98), 0⟩] (fun x hx => by rw [List.mem_singleton.1 hx]; exact ⟨p2, ⟨98, [42], rfl, by decide⟩, by show (6 : Int) ≠ 4; omega, by show (6 : Int) ≠ 0; omega⟩) (by decide)
  exact pattern_at ⟨[97], oneT 97, 0⟩ [⟨[98, 42], repT 0 (-1) (oneT 98), 0⟩] ⟨b1, by show (1 : Int) ≠ 5; omega⟩ (fun x hx => by rw [List.mem_singleton.1 hx]; exact ⟨b2, by show (6 : Int) ≠ 5; omega⟩) (by decide)

set_option maxRecDepth 100000 in
theorem lives_spec (w : World) :
    Calls Tryd.prog 7 #[] w fun e w' => e = .returned (.bool true) ∧ Below w.heap.size w w' := by
  have HP := Lib.hid (fun w => parse_go [97, 124, 98, 42] liveT 0 live_parse (by omega) ⟨#[97, 124, 98, 42]⟩ rfl (by decide) w)
  have HS := Lib.hid (fun w cs S h => eshow_spec liveT cs S w h live_good (by rw [live_show]; decide))
  rw [live_show] at HS
  have HC := Lib.hid (fun w cs S h => can_spec liveT cs S w h live_good)
  have HL := Lib.hid (fun w cs S h => least_spec liveT _ live_least cs S w h live_good)
  go_enter Tryd.func7, Tryd.ntmps7
  go_wp2_with fail
  refine (HP.out _).mono ?_
  rintro e w1 ⟨ds, rfl, hat, b1⟩
  have A1 := Lib.hid hat
  have B1 := Lib.hid b1
  obtain ⟨a, c, e, _⟩ := hat.opens
  subst e
  clear hat b1
  obtain ⟨tt, htt⟩ : ∃ tt, tt = reC liveT.k liveT.f liveT.lo liveT.hi (.slice a liveT.kids.length c) := ⟨_, rfl⟩
  have hc : tt = reC 5 zero4 0 0 (.slice a 2 c) := htt
  rw [← htt] at A1 ⊢
  clear htt
  subst hc
  simp only [reC]
  go_upto_region 2 with (fail)
  obtain ⟨V, hV, hY, hBV, _⟩ := re_box w1 (reC 5 zero4 0 0 (.slice a 2 c))
  change Code.wp _ _ _ _ (w1.alloc (Obj.cells (reC 5 zero4 0 0 (.slice a 2 c)) 27))
  rw [← hV]
  clear hV
  have A2 := Lib.hid (A1.out.after hBV.out)
  have B2 := Lib.hid (Below.step B1.out hBV.out)
  have H2 := Lib.hid (HS.out V _ _ A2.out)
  obtain ⟨c0, c1, c2, c3, c4, c5, c6, c7⟩ := eight_re hY.out.eight
  go_wp2_with fail
  refine H2.out.mono ?_
  rintro e w2 ⟨rfl, b2⟩
  have A3 := Lib.hid (A2.out.after b2)
  have B3 := Lib.hid (Below.step B2.out b2)
  have Y3 := Lib.hid (hY.out.after b2)
  have H3 := Lib.hid (HC.out w2 _ _ A3.out)
  clear b2 c0 c1 c2 c3 c4 c5 c6 c7
  obtain ⟨c0, c1, c2, c3, c4, c5, c6, c7⟩ := eight_re Y3.out.eight
  go_wp2_with fail
  refine H3.out.mono ?_
  rintro e w3 ⟨rfl, b3⟩
  have A4 := Lib.hid (A3.out.after b3)
  have B4 := Lib.hid (Below.step B3.out b3)
  have Y4 := Lib.hid (Y3.out.after b3)
  have H4 : Hid (Calls Tryd.prog 10 #[.agg (reC 5 zero4 0 0 (.slice a 2 c))] w3 fun e w' => e = .returned (.int .i64 0) ∧ Below w3.heap.size w3 w') := Lib.hid (HL.out w3 _ _ A4.out)
  clear b3 c0 c1 c2 c3 c4 c5 c6 c7
  obtain ⟨c0, c1, c2, c3, c4, c5, c6, c7⟩ := eight_re Y4.out.eight
  go_wp2_with fail
  refine H4.out.mono ?_
  rintro e w4 ⟨rfl, b4⟩
  have B5 := Lib.hid (Below.step B4.out b4)
  clear b4
  go_wp2_with fail
  go_ret
  exact ⟨rfl, B5.out⟩
end Go.Proofs.YtdhndfmblmcapaaDoor
