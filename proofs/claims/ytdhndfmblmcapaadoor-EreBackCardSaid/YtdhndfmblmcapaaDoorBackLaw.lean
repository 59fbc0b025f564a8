/- EreBack's walk. -/
import Derived.Test.YtdhndfmblmcapaaDoorBackT
import Derived.Test.YtdhndfmblmcapaaDoorSame
namespace Go.Proofs.YtdhndfmblmcapaaDoor
open Go.RowKit

set_option maxRecDepth 100000 in
set_option maxHeartbeats 4000000 in
theorem back_walk (t : Tree) (cs : Array Value) (S : Nat → Prop) (w : World) (h : At w S t cs) (hwf : Wf t) :
    Calls Tryd.prog 4 #[.agg cs] w fun e w' => e = .returned (.bool true) ∧ Below w.heap.size w w' := by
  have HV := Lib.hid (fun w => lives_spec w)
  have HWF := Lib.hid hwf
  have A0 := Lib.hid h
  obtain ⟨a, c, rfl, _⟩ := h.opens
  clear h hwf
  go_enter Tryd.func4, Tryd.ntmps4
  go_upto_region 1 with (fail)
  obtain ⟨W, hW, hX, hB, _⟩ := re_box w (reC t.k t.f t.lo t.hi (.slice a t.kids.length c))
  rw [← hW]
  clear hW
  have A1 := Lib.hid (A0.out.after hB.out)
  have HS := Lib.hid (small_spec t _ S W A1.out)
  obtain ⟨c0, c1, c2, c3, c4, c5, c6, c7⟩ := eight_re hX.out.eight
  go_wp2_with fail
  refine HS.out.mono ?_
  rintro e w1 ⟨v, rfl, hv, b1⟩
  have X1 := Lib.hid (hX.out.after b1)
  have A2 := Lib.hid (A1.out.after b1)
  have B1 := Lib.hid (Below.step hB.out b1)
  clear b1 c0 c1 c2 c3 c4 c5 c6 c7
  cases v with
  | false =>
    go_wp2_with fail
    refine (HV.out _).mono ?_
    rintro e w2 ⟨rfl, b2⟩
    have B2 := Lib.hid (Below.step B1.out b2)
    clear b2
    go_wp2_with fail
    go_ret
    exact ⟨rfl, B2.out⟩
  | true =>
    have ND : Hid (nodesN 150 t ≤ 400) := Lib.hid (hv.out rfl)
    have HC : Hid (Calls Tryd.prog 8 #[.agg (reC t.k t.f t.lo t.hi (.slice a t.kids.length c)), .int .i64 (-1), .int .i64 1] w1 (CanAns (Good 100 (-1) t) w1)) :=
      Lib.hid (refcan_spec 100 (-1) t _ S 150 1 w1 A2.out HWF.out ND.out (by omega) (by omega))
    clear hv
    obtain ⟨c0, c1, c2, c3, c4, c5, c6, c7⟩ := eight_re X1.out.eight
    go_wp2_with fail
    refine HC.out.mono ?_
    rintro e w2 ⟨v2, rfl, hg, b2⟩
    have X2 := Lib.hid (X1.out.after b2)
    have A3 := Lib.hid (A2.out.after b2)
    have B2 := Lib.hid (Below.step B1.out b2)
    clear b2 c0 c1 c2 c3 c4 c5 c6 c7
    cases v2 with
    | false =>
      go_wp2_with fail
      refine (HV.out _).mono ?_
      rintro e w3 ⟨rfl, b3⟩
      have B3 := Lib.hid (Below.step B2.out b3)
      clear b3
      go_wp2_with fail
      go_ret
      exact ⟨rfl, B3.out⟩
    | true =>
      have HG := Lib.hid (hg.out rfl)
      clear hg
      obtain ⟨s, hs⟩ : ∃ s : ByteArray, s = ⟨(showN 100 t).toArray⟩ := ⟨_, rfl⟩
      have HSD : Hid (s.data.toList = showN 100 t) := Lib.hid (by rw [hs])
      have HSZ : s.size ≤ 216000 := by
        have h1 := show_size t ND.out
        have h2 : s.data.toList.length = s.size := by simp
        rw [HSD.out] at h2
        omega
      have HSH : Hid (Calls Tryd.prog 9 #[.agg (reC t.k t.f t.lo t.hi (.slice a t.kids.length c))] w2 fun e w' => e = .returned (.string s) ∧ Below w2.heap.size w2 w') :=
        Lib.hid (by rw [hs]; exact eshow_spec t _ S w2 A3.out HG.out (by have := show_size t ND.out; omega))
      clear hs
      have HR := Lib.hid (back_at 100 (-1) t 150 HG.out HWF.out ND.out (by omega))
      have HN := Lib.hid (fun w (h : At w S t (reC t.k t.f t.lo t.hi (.slice a t.kids.length c))) => nest_spec 100 (-1) t _ S w h HG.out (by omega))
      have hn100 := nestN_le 100 t
      obtain ⟨n, hn⟩ : ∃ n, n = nestN 100 t := ⟨_, rfl⟩
      rw [← hn] at HN HR hn100
      clear hn
      obtain ⟨c0, c1, c2, c3, c4, c5, c6, c7⟩ := eight_re X2.out.eight
      go_wp2_with fail
      refine HSH.out.mono ?_
      rintro e w3 ⟨rfl, b3⟩
      have X3 := Lib.hid (X2.out.after b3)
      have A4 := Lib.hid (A3.out.after b3)
      have B3 := Lib.hid (Below.step B2.out b3)
      clear b3 c0 c1 c2 c3 c4 c5 c6 c7
      by_cases hz : 400 < s.size
      · have HP := Lib.hid (parse_long s hz w3)
        go_wp2_with fail
        refine HP.out.mono ?_
        rintro e w4 ⟨p, x, rfl, rfl, b4⟩
        have B4 := Lib.hid (Below.step B3.out b4)
        clear b4
        simp only [zeroR, reC]
        go_upto_region 5 with (fail)
        obtain ⟨V, hV, _, hBV, _⟩ := re_box w4 zeroR
        change Code.wp _ _ _ _ (w4.alloc (Obj.cells zeroR 27))
        rw [← hV]
        clear hV
        have B5 := Lib.hid (Below.step B4.out hBV.out)
        go_wp2_with fail
        refine (HV.out _).mono ?_
        rintro e w5 ⟨rfl, b5⟩
        have B6 := Lib.hid (Below.step B5.out b5)
        clear b5
        go_wp2_with fail
        go_ret
        exact ⟨rfl, B6.out⟩
      · by_cases hb : 20 < n
        · have HP := Lib.hid (parse_fell (showN 100 t) t n HR.out.pattern hb s HSD.out (by omega) w3)
          go_wp2_with fail
          refine HP.out.mono ?_
          rintro e w4 ⟨p, x, rfl, rfl, b4⟩
          have B4 := Lib.hid (Below.step B3.out b4)
          have X4 := Lib.hid (X3.out.after b4)
          have A5 := Lib.hid (A4.out.after b4)
          clear b4
          simp only [zeroR, reC]
          go_upto_region 5 with (fail)
          obtain ⟨V, hV, _, hBV, _⟩ := re_box w4 zeroR
          change Code.wp _ _ _ _ (w4.alloc (Obj.cells zeroR 27))
          rw [← hV]
          clear hV
          have B5 := Lib.hid (Below.step B4.out hBV.out)
          have X5 := Lib.hid (X4.out.after hBV.out)
          have HN1 := Lib.hid (HN.out V (A5.out.after hBV.out))
          obtain ⟨c0, c1, c2, c3, c4, c5, c6, c7⟩ := eight_re X5.out.eight
          go_wp2_with fail
          refine HN1.out.mono ?_
          rintro e w5 ⟨rfl, b5⟩
          have B6 := Lib.hid (Below.step B5.out b5)
          clear b5 c0 c1 c2 c3 c4 c5 c6 c7
          go_wp2_with fail
          refine (HV.out _).mono ?_
          rintro e w6 ⟨rfl, b6⟩
          have B7 := Lib.hid (Below.step B6.out b6)
          clear b6
          go_wp2_with fail
          go_ret
          exact ⟨rfl, B7.out⟩
        · have HP := Lib.hid (parse_go (showN 100 t) t n HR.out.pattern (by omega) s HSD.out (by omega) w3)
          go_wp2_with fail
          refine HP.out.mono ?_
          rintro e w4 ⟨ds, rfl, hat, b4⟩
          have B4 := Lib.hid (Below.step B3.out b4)
          have X4 := Lib.hid (X3.out.after b4)
          have A5 := Lib.hid (A4.out.after b4)
          obtain ⟨a2, k2, e, _⟩ := hat.opens
          subst e
          have D4 := Lib.hid hat
          clear b4 hat
          simp only [reC]
          go_upto_region 5 with (fail)
          obtain ⟨V, hV, hY, hBV, _⟩ := re_box w4 (reC t.k t.f t.lo t.hi (.slice a2 t.kids.length k2))
          change Code.wp _ _ _ _ (w4.alloc (Obj.cells (reC t.k t.f t.lo t.hi (.slice a2 t.kids.length k2)) 27))
          rw [← hV]
          clear hV
          have B5 := Lib.hid (Below.step B4.out hBV.out)
          have X5 := Lib.hid (X4.out.after hBV.out)
          have A6 := Lib.hid (A5.out.after hBV.out)
          have D5 := Lib.hid (D4.out.after hBV.out)
          have HN1 := Lib.hid (HN.out V A6.out)
          obtain ⟨c0, c1, c2, c3, c4, c5, c6, c7⟩ := eight_re X5.out.eight
          go_wp2_with fail
          refine HN1.out.mono ?_
          rintro e w5 ⟨rfl, b5⟩
          have B6 := Lib.hid (Below.step B5.out b5)
          have X6 := Lib.hid (X5.out.after b5)
          have Y6 := Lib.hid (hY.out.after b5)
          have HSM := Lib.hid (same_spec 100 t _ _ _ S w5 (D5.out.after b5) (A6.out.after b5) (low_good 100 (-1) t HG.out))
          clear b5 c0 c1 c2 c3 c4 c5 c6 c7
          obtain ⟨c0, c1, c2, c3, c4, c5, c6, c7⟩ := eight_re X6.out.eight
          obtain ⟨d0, d1, d2, d3, d4, d5, d6, d7⟩ := eight_re Y6.out.eight
          go_wp2_with fail
          refine HSM.out.mono ?_
          rintro e w6 ⟨rfl, b6⟩
          have B7 := Lib.hid (Below.step B6.out b6)
          clear b6 c0 c1 c2 c3 c4 c5 c6 c7 d0 d1 d2 d3 d4 d5 d6 d7
          go_wp2_with fail
          refine (HV.out _).mono ?_
          rintro e w7 ⟨rfl, b7⟩
          have B8 := Lib.hid (Below.step B7.out b7)
          clear b7
          go_wp2_with fail
          go_ret
          exact ⟨rfl, B8.out⟩
end Go.Proofs.YtdhndfmblmcapaaDoor
