/- Merged by program: ShE, NdSameB. -/
import Derived.Test.YtgdlpldngpoadaaGreatDoorSae
import Derived.Test.YtgdlpldngpoadaaGreatDoorSak
import Derived.Test.YtgdlpldngpoadaaGreatDoorSam
import Derived.Test.YtgdlpldngpoadaaGreatDoorSbe
import Derived.Test.YtgdlpldngpoadaaGreatDoorSaa
/- The program's writer at the tree of x=y z+1: x = (y (z + 1)). -/
namespace Go.Proofs.YtgdlpldngpoadaaGreatDoor
open Go.RowKit

theorem show_one (w : World) : Calls Tryz.prog 30 #[.int .i64 1000000] w fun e w' => e = .returned (.string ⟨#[49]⟩) ∧ Below w.heap.size w w' := by
  refine (T3.show_any 1000000 w (by unfold T3.Fits; omega)).mono ?_
  rintro e w' ⟨t, ht, rfl, hb⟩
  have h : t = ⟨#[49]⟩ := by
    cases t with
    | mk d => exact congrArg ByteArray.mk (Array.toList_inj.1 (ht.trans (by kernel_rfl)))
  exact ⟨by rw [h], hb⟩
theorem Writes.to {f : Nat} {t : Nd} {s r : ByteArray} (h : Writes f t s) (e : s = r) : Writes f t r := e ▸ h
theorem wr_y : Writes 67 ndY ⟨#[121]⟩ := woper_3 _ _ _ _ _ _ (wexpr_var _ _ _ _ _ (by decide))
theorem wr_z : Writes 67 ndZ ⟨#[122]⟩ := woper_3 _ _ _ _ _ _ (wexpr_var _ _ _ _ _ (by decide))
theorem wr_1 : Writes 67 nd1 ⟨#[49]⟩ := woper_0 _ _ _ _ _ _ (wexpr_num _ _ _ _ _ _ show_one)
theorem wr_P : Writes 67 ndP ⟨#[40, 122, 32, 43, 32, 49, 41]⟩ :=
  (woper_14 _ _ _ _ _ _ (by decide) (wexpr_14 _ _ _ _ _ _ (by decide) (wsigned_14 _ _ _ _ _ _ _ _ wr_z wr_1 (by decide) (by decide) (by decide) (by decide)))).to (by kernel_rfl)
theorem wr_J : Writes 67 ndJ ⟨#[40, 121, 32, 40, 122, 32, 43, 32, 49, 41, 41]⟩ :=
  (woper_13 _ _ _ _ _ _ (by decide) (wexpr_13 _ _ _ _ _ _ (by decide) (wsigned_13 _ _ _ _ _ _ _ _ wr_y wr_P (by decide) (by decide)))).to (by kernel_rfl)
theorem x_writes : Writes 16 liveT xText :=
  (wexpr_6 _ _ _ _ _ _ (by decide) (wsigned_6 _ _ _ _ _ (wexpr_var _ _ _ _ _ (by decide)) wr_J)).to (by kernel_rfl)
end Go.Proofs.YtgdlpldngpoadaaGreatDoor

/- The document's Same: a walk (gen_ndsame.py). -/
namespace Go.Proofs.YtgdlpldngpoadaaGreatDoor
open Go.RowKit

theorem headB_true {wh : Bool} {t u : Nd} (h : headB wh t u = true) : t.k = u.k ∧ t.s.toList = u.s.toList ∧ t.n = u.n ∧ (wh = true → t.a = u.a) ∧ namesB t.p u.p = true ∧ t.kids.length = u.kids.length := by
  unfold headB at h
  simp only [Bool.and_eq_true, beq_iff_eq, decide_eq_true_eq] at h
  obtain ⟨h0, h1, h2, h3, h4, h5⟩ := h
  exact ⟨h0, h1, h2, fun e => by subst e; simpa using h3, h4, h5⟩

set_option maxRecDepth 100000 in
set_option maxHeartbeats 1000000 in
theorem same_false (n : Nat) : ∀ (t u : Nd) (cs ds : Array Value) (S T : Nat → Prop) (w : World), At w S t cs → At w T u ds → Low n t →
    Calls Tryz.prog 10 #[.agg cs, .agg ds, .bool false] w fun e w' => e = .returned (.bool (sameF n false t u)) ∧ Below w.heap.size w w' := by
  induction n with
  | zero => intro t u cs ds S T w _ _ hg; exact hg.elim
  | succ n0 ih =>
    intro t u cs ds S T w h g hg
    cases hh : headB false t u with
    | false =>
      have hs := same_head false t u cs ds S T w h g hg.2.1 hh
      have e : sameF (n0 + 1) false t u = false := by show (headB false t u && _) = false; rw [hh]; rfl
      rw [e]
      exact hs
    | true =>
    have HI := Lib.hid ih; clear ih
    obtain ⟨e0, e1, e2, e3, e4, e5⟩ := headB_true hh
    have HSF : Hid (sameF (n0 + 1) false t u = allB (sameF n0 false) t.kids u.kids) := Lib.hid (by show (headB false t u && _) = _; rw [hh]; rfl)
    rw [HSF.out]
    have b0 : (t.k != u.k) = false := by simpa using e0
    have b1 : (t.s.toList == u.s.toList) = true := by simpa using e1
    have b2 : (t.n != u.n) = false := by simpa using e2
    have E4 := Lib.hid e4
    have E5 := Lib.hid e5
    clear e0 e1 e2 e3 e4 e5 hh
    obtain ⟨x, c, y, d, rfl, hs, hq⟩ := h.opens
    obtain ⟨x2, c2, y2, d2, rfl, hs2, hq2⟩ := g.opens
    have HG := Lib.hid hg.2.2
    have hfew := hg.1
    have hp := hg.2.1
    clear h g hg
    go_enter Tryz.func10, Tryz.ntmps10
    go_upto_region 1 with (fail)
    obtain ⟨W, hW, hX, hB, hsz⟩ := nd_box w (ndC t.k t.s t.n t.a (.slice x t.kids.length c) (.slice y t.p.length d))
    obtain ⟨V, hV, hY, hBV, _⟩ := nd_box W (ndC u.k u.s u.n u.a (.slice x2 u.kids.length c2) (.slice y2 u.p.length d2))
    rw [hsz.out] at hY
    change Code.wp _ _ _ _ ((w.alloc (Obj.cells (ndC t.k t.s t.n t.a (.slice x t.kids.length c) (.slice y t.p.length d)) 25)).alloc (Obj.cells (ndC u.k u.s u.n u.a (.slice x2 u.kids.length c2) (.slice y2 u.p.length d2)) 25))
    rw [← hW, ← hV]
    have HB := Lib.hid (Below.step hB.out hBV.out)
    have HX := Lib.hid (hX.out.after hBV.out)
    obtain ⟨c0, c1, c2', c3, c4, c5⟩ := six_nd HX.out.six
    obtain ⟨d0, d1, d2', d3, d4, d5⟩ := six_nd hY.out.six
    have HNm := Lib.hid (names_spec t.p u.p _ _ S T V (hq.after HB.out) (hq2.after HB.out) hp)
    rw [E4.out] at HNm
    have S1 := Lib.hid (hs.after HB.out)
    have S2 := Lib.hid (hs2.after HB.out)
    clear hW hV hX hBV hsz hB hs hs2 hq hq2 hp E4
    obtain ⟨n, hn⟩ : ∃ n, n = t.kids.length := ⟨_, rfl⟩
    have e5 := E5.out
    rw [← hn] at S1 hfew HX c4 e5 ⊢
    rw [← e5] at S2 hY d4 ⊢
    have HN := Lib.hid hn
    have HK := Lib.hid e5
    clear hn e5 E5
    go_wp2_with fail
    refine HNm.out.mono ?_
    rintro e w1 ⟨rfl, bb⟩
    have B1 := Lib.hid (Below.step HB.out bb)
    have X1 := Lib.hid (HX.out.after bb)
    have Y1 := Lib.hid (hY.out.after bb)
    have T1 := Lib.hid (S1.out.after bb)
    have T2 := Lib.hid (S2.out.after bb)
    clear bb c0 c1 c2' c3 c4 c5 d0 d1 d2' d3 d4 d5 HX hY S1 S2 HB HNm b0 b1 b2
    obtain ⟨_, _, _, _, c4, _⟩ := six_nd X1.out.six
    obtain ⟨_, _, _, _, d4, _⟩ := six_nd Y1.out.six
    go_wp2_with fail
    go_loopw [7] (fun y wr => ∃ i : Nat, y = .int .i64 i ∧ i ≤ n ∧ Hid (allB (sameF n0 false) (t.kids.take i) (u.kids.take i) = true) ∧ Hid (Below w1.heap.size w1 wr)) (fun y _ => n - (intOf y).toNat)
    case atStart => exact ⟨0, rfl, by omega, Lib.hid rfl, Lib.hid (Below.refl _ _)⟩
    case round =>
      obtain ⟨i, rfl, hi, HE, hb⟩ := hrel
      clear c4 d4
      have X3 := Lib.hid (X1.out.after hb.out)
      have Y3 := Lib.hid (Y1.out.after hb.out)
      by_cases hgo : i < n
      · have hil : i < t.kids.length := by rw [← HN.out]; exact hgo
        have hiu : i < u.kids.length := by rw [← HK.out]; exact hgo
        rcases T1.out with ⟨e, _⟩ | ⟨hl, b, off, c1', cs, e, hc, hBb, h8, hat⟩
        · rw [e] at hil; exact absurd hil (by simp)
        rcases T2.out with ⟨e', _⟩ | ⟨_, b2, off2, c2', cs2, e', hc', hBb2, h8', hat'⟩
        · rw [e'] at hiu; exact absurd hiu (by simp)
        simp only [Value.slice.injEq] at e e'
        obtain ⟨rfl, en, rfl⟩ := e
        clear en
        obtain ⟨rfl, en, rfl⟩ := e'
        clear en
        have hT := (hat i hil).after hb.out
        have hU := (hat' i hiu).after hb.out
        obtain ⟨q, hq⟩ : ∃ q, q = t.kids[i] := ⟨_, rfl⟩
        obtain ⟨r, hr⟩ : ∃ r, r = u.kids[i] := ⟨_, rfl⟩
        rw [← hq] at hT
        rw [← hr] at hU
        have HQ : Hid (Low n0 q) := Lib.hid (by rw [hq]; exact HG.out _ (List.getElem_mem hil))
        have HTK : Hid (allB (sameF n0 false) (t.kids.take (i + 1)) (u.kids.take (i + 1)) = (allB (sameF n0 false) (t.kids.take i) (u.kids.take i) && sameF n0 false q r)) := Lib.hid (by rw [hq, hr]; exact allB_take _ _ _ i hil hiu)
        have HNO : Hid (sameF n0 false q r = false → allB (sameF n0 false) t.kids u.kids = false) := Lib.hid (fun h => allB_no _ _ _ i hil hiu (by rw [← hq, ← hr]; exact h))
        obtain ⟨ai, ci, pi, di, e, _⟩ := hT.opens
        obtain ⟨aj, cj, pj, dj, e', _⟩ := hU.opens
        have E1 := (h8 i hil).after (hat i hil).size hb.out
        have E2 := (h8' i hiu).after (hat' i hiu).size hb.out
        have F1 : Six wr b (off + i * 6) (ndC q.k q.s q.n q.a (.slice ai q.kids.length ci) (.slice pi q.p.length di)) := by rw [← e]; exact E1
        have F2 : Six wr b2 (off2 + i * 6) (ndC r.k r.s r.n r.a (.slice aj r.kids.length cj) (.slice pj r.p.length dj)) := by rw [← e']; exact E2
        rw [e] at hT
        rw [e'] at hU
        have HK1 := Lib.hid (fun V (hv : Below wr.heap.size wr V) => HI.out q r _ _ S T V (hT.after hv) (hU.after hv) HQ.out)
        have H0 : Hid (Hid (Below wr.heap.size wr wr) ∧ wr.cell? ⟨w.heap.size, 4, none⟩ = some (.slice (some ⟨b, off, none⟩) n c) ∧ wr.cell? ⟨w.heap.size + 1, 4, none⟩ = some (.slice (some ⟨b2, off2, none⟩) n c2) ∧ wr.cell? ⟨b, (off + i * 6), none⟩ = some (.int .i64 q.k) ∧ wr.cell? ⟨b, (off + i * 6) + 1, none⟩ = some (.string q.s) ∧ wr.cell? ⟨b, (off + i * 6) + 2, none⟩ = some (.int .i64 q.n) ∧ wr.cell? ⟨b, (off + i * 6) + 3, none⟩ = some (.int .i64 q.a) ∧ wr.cell? ⟨b, (off + i * 6) + 4, none⟩ = some (.slice ai q.kids.length ci) ∧ wr.cell? ⟨b, (off + i * 6) + 5, none⟩ = some (.slice pi q.p.length di) ∧ wr.cell? ⟨b2, (off2 + i * 6), none⟩ = some (.int .i64 r.k) ∧ wr.cell? ⟨b2, (off2 + i * 6) + 1, none⟩ = some (.string r.s) ∧ wr.cell? ⟨b2, (off2 + i * 6) + 2, none⟩ = some (.int .i64 r.n) ∧ wr.cell? ⟨b2, (off2 + i * 6) + 3, none⟩ = some (.int .i64 r.a) ∧ wr.cell? ⟨b2, (off2 + i * 6) + 4, none⟩ = some (.slice aj r.kids.length cj) ∧ wr.cell? ⟨b2, (off2 + i * 6) + 5, none⟩ = some (.slice pj r.p.length dj)) := by
          obtain ⟨p0, p1, p2, p3, p4, p5⟩ := six_nd F1
          obtain ⟨q0, q1, q2, q3, q4, q5⟩ := six_nd F2
          exact Lib.hid ⟨Lib.hid (Below.refl _ _), by simpa using (six_nd X3.out.six).2.2.2.2.1, by simpa using (six_nd Y3.out.six).2.2.2.2.1, p0, p1, p2, p3, p4, p5, q0, q1, q2, q3, q4, q5⟩
        have hc1 := Lib.hid hc
        clear e e' hT hU h8 hat h8' hat' E1 E2 F1 F2 hil hiu hq hr
        obtain ⟨c0, c1, c2'', c3, c4, c5⟩ := six_nd X3.out.six
        cases hbq : sameF n0 false q r with
        | true =>
          have HK2 := Lib.hid (fun V (hv : Below wr.heap.size wr V) => by have h := HK1.out V hv; rw [hbq] at h; exact h)
          have HTT : Hid (allB (sameF n0 false) (t.kids.take (i + 1)) (u.kids.take (i + 1)) = true) := Lib.hid (by rw [HTK.out, HE.out, hbq]; rfl)
          clear hbq
          go_upto_region 6 with (fail)
          clear c0 c1 c2'' c3 c4 c5
          go_region_held3 (fun w' => Hid (Below wr.heap.size wr w') ∧ w'.cell? ⟨w.heap.size, 4, none⟩ = some (.slice (some ⟨b, off, none⟩) n c) ∧ w'.cell? ⟨w.heap.size + 1, 4, none⟩ = some (.slice (some ⟨b2, off2, none⟩) n c2) ∧ w'.cell? ⟨b, (off + i * 6), none⟩ = some (.int .i64 q.k) ∧ w'.cell? ⟨b, (off + i * 6) + 1, none⟩ = some (.string q.s) ∧ w'.cell? ⟨b, (off + i * 6) + 2, none⟩ = some (.int .i64 q.n) ∧ w'.cell? ⟨b, (off + i * 6) + 3, none⟩ = some (.int .i64 q.a) ∧ w'.cell? ⟨b, (off + i * 6) + 4, none⟩ = some (.slice ai q.kids.length ci) ∧ w'.cell? ⟨b, (off + i * 6) + 5, none⟩ = some (.slice pi q.p.length di) ∧ w'.cell? ⟨b2, (off2 + i * 6), none⟩ = some (.int .i64 r.k) ∧ w'.cell? ⟨b2, (off2 + i * 6) + 1, none⟩ = some (.string r.s) ∧ w'.cell? ⟨b2, (off2 + i * 6) + 2, none⟩ = some (.int .i64 r.n) ∧ w'.cell? ⟨b2, (off2 + i * 6) + 3, none⟩ = some (.int .i64 r.a) ∧ w'.cell? ⟨b2, (off2 + i * 6) + 4, none⟩ = some (.slice aj r.kids.length cj) ∧ w'.cell? ⟨b2, (off2 + i * 6) + 5, none⟩ = some (.slice pj r.p.length dj))
            (first | exact keep14 H0.out (below_drew _) | exact keep14 (by assumption) (by assumption) | assumption)
            (first | (go_at_call 10; refine (HK2.out _ ?_).mono ?_; exact below_drew _; rintro e w1 ⟨rfl, b1⟩))
          have HEE := Lib.hid (And.left (show Hid (Below wr.heap.size wr _) ∧ _ by assumption))
          have B2 := Lib.hid (Below.step hb.out HEE.out.out)
          clear HEE
          go_wp2_with fail
          go_roundw
          case rel => exact ⟨i + 1, by go_num, by omega, HTT, B2⟩
          case measure => simp [intOf]; omega
        | false =>
          have HK2 := Lib.hid (fun V (hv : Below wr.heap.size wr V) => by have h := HK1.out V hv; rw [hbq] at h; exact h)
          have HF := Lib.hid (HNO.out hbq)
          clear hbq
          go_upto_region 6 with (fail)
          clear c0 c1 c2'' c3 c4 c5
          go_region_held3 (fun w' => Hid (Below wr.heap.size wr w') ∧ w'.cell? ⟨w.heap.size, 4, none⟩ = some (.slice (some ⟨b, off, none⟩) n c) ∧ w'.cell? ⟨w.heap.size + 1, 4, none⟩ = some (.slice (some ⟨b2, off2, none⟩) n c2) ∧ w'.cell? ⟨b, (off + i * 6), none⟩ = some (.int .i64 q.k) ∧ w'.cell? ⟨b, (off + i * 6) + 1, none⟩ = some (.string q.s) ∧ w'.cell? ⟨b, (off + i * 6) + 2, none⟩ = some (.int .i64 q.n) ∧ w'.cell? ⟨b, (off + i * 6) + 3, none⟩ = some (.int .i64 q.a) ∧ w'.cell? ⟨b, (off + i * 6) + 4, none⟩ = some (.slice ai q.kids.length ci) ∧ w'.cell? ⟨b, (off + i * 6) + 5, none⟩ = some (.slice pi q.p.length di) ∧ w'.cell? ⟨b2, (off2 + i * 6), none⟩ = some (.int .i64 r.k) ∧ w'.cell? ⟨b2, (off2 + i * 6) + 1, none⟩ = some (.string r.s) ∧ w'.cell? ⟨b2, (off2 + i * 6) + 2, none⟩ = some (.int .i64 r.n) ∧ w'.cell? ⟨b2, (off2 + i * 6) + 3, none⟩ = some (.int .i64 r.a) ∧ w'.cell? ⟨b2, (off2 + i * 6) + 4, none⟩ = some (.slice aj r.kids.length cj) ∧ w'.cell? ⟨b2, (off2 + i * 6) + 5, none⟩ = some (.slice pj r.p.length dj))
            (first | exact keep14 H0.out (below_drew _) | exact keep14 (by assumption) (by assumption) | assumption)
            (first | (go_at_call 10; refine (HK2.out _ ?_).mono ?_; exact below_drew _; rintro e w1 ⟨rfl, b1⟩))
          have HEE := Lib.hid (And.left (show Hid (Below wr.heap.size wr _) ∧ _ by assumption))
          have B2 := Lib.hid (Below.step B1.out (Below.step hb.out HEE.out.out))
          clear HEE
          go_wp2_with fail
          go_ret
          exact ⟨by rw [HF.out]; rfl, B2.out⟩
      · have hin : i = n := by omega
        subst hin
        obtain ⟨_, _, _, _, c4, _⟩ := six_nd X3.out.six
        have HF : Hid (allB (sameF n0 false) t.kids u.kids = true) := Lib.hid (by
          have h1 := HE.out
          rw [HN.out, List.take_length, ← HN.out, HK.out, List.take_length] at h1
          exact h1)
        go_wp2_with fail
        go_ret
        exact ⟨by rw [HF.out]; rfl, Below.step B1.out hb.out⟩

set_option maxRecDepth 100000 in
set_option maxHeartbeats 1000000 in
theorem same_true (n : Nat) : ∀ (t u : Nd) (cs ds : Array Value) (S T : Nat → Prop) (w : World), At w S t cs → At w T u ds → Low n t →
    Calls Tryz.prog 10 #[.agg cs, .agg ds, .bool true] w fun e w' => e = .returned (.bool (sameF n true t u)) ∧ Below w.heap.size w w' := by
  induction n with
  | zero => intro t u cs ds S T w _ _ hg; exact hg.elim
  | succ n0 ih =>
    intro t u cs ds S T w h g hg
    cases hh : headB true t u with
    | false =>
      have hs := same_head true t u cs ds S T w h g hg.2.1 hh
      have e : sameF (n0 + 1) true t u = false := by show (headB true t u && _) = false; rw [hh]; rfl
      rw [e]
      exact hs
    | true =>
    have HI := Lib.hid ih; clear ih
    obtain ⟨e0, e1, e2, e3, e4, e5⟩ := headB_true hh
    have HSF : Hid (sameF (n0 + 1) true t u = allB (sameF n0 true) t.kids u.kids) := Lib.hid (by show (headB true t u && _) = _; rw [hh]; rfl)
    rw [HSF.out]
    have b0 : (t.k != u.k) = false := by simpa using e0
    have b1 : (t.s.toList == u.s.toList) = true := by simpa using e1
    have b2 : (t.n != u.n) = false := by simpa using e2
    have b3 : (t.a != u.a) = false := by have := e3 rfl; simpa using this
    have E4 := Lib.hid e4
    have E5 := Lib.hid e5
    clear e0 e1 e2 e3 e4 e5 hh
    obtain ⟨x, c, y, d, rfl, hs, hq⟩ := h.opens
    obtain ⟨x2, c2, y2, d2, rfl, hs2, hq2⟩ := g.opens
    have HG := Lib.hid hg.2.2
    have hfew := hg.1
    have hp := hg.2.1
    clear h g hg
    go_enter Tryz.func10, Tryz.ntmps10
    go_upto_region 1 with (fail)
    obtain ⟨W, hW, hX, hB, hsz⟩ := nd_box w (ndC t.k t.s t.n t.a (.slice x t.kids.length c) (.slice y t.p.length d))
    obtain ⟨V, hV, hY, hBV, _⟩ := nd_box W (ndC u.k u.s u.n u.a (.slice x2 u.kids.length c2) (.slice y2 u.p.length d2))
    rw [hsz.out] at hY
    change Code.wp _ _ _ _ ((w.alloc (Obj.cells (ndC t.k t.s t.n t.a (.slice x t.kids.length c) (.slice y t.p.length d)) 25)).alloc (Obj.cells (ndC u.k u.s u.n u.a (.slice x2 u.kids.length c2) (.slice y2 u.p.length d2)) 25))
    rw [← hW, ← hV]
    have HB := Lib.hid (Below.step hB.out hBV.out)
    have HX := Lib.hid (hX.out.after hBV.out)
    obtain ⟨c0, c1, c2', c3, c4, c5⟩ := six_nd HX.out.six
    obtain ⟨d0, d1, d2', d3, d4, d5⟩ := six_nd hY.out.six
    have HNm := Lib.hid (names_spec t.p u.p _ _ S T V (hq.after HB.out) (hq2.after HB.out) hp)
    rw [E4.out] at HNm
    have S1 := Lib.hid (hs.after HB.out)
    have S2 := Lib.hid (hs2.after HB.out)
    clear hW hV hX hBV hsz hB hs hs2 hq hq2 hp E4
    obtain ⟨n, hn⟩ : ∃ n, n = t.kids.length := ⟨_, rfl⟩
    have e5 := E5.out
    rw [← hn] at S1 hfew HX c4 e5 ⊢
    rw [← e5] at S2 hY d4 ⊢
    have HN := Lib.hid hn
    have HK := Lib.hid e5
    clear hn e5 E5
    go_wp2_with fail
    refine HNm.out.mono ?_
    rintro e w1 ⟨rfl, bb⟩
    have B1 := Lib.hid (Below.step HB.out bb)
    have X1 := Lib.hid (HX.out.after bb)
    have Y1 := Lib.hid (hY.out.after bb)
    have T1 := Lib.hid (S1.out.after bb)
    have T2 := Lib.hid (S2.out.after bb)
    clear bb c0 c1 c2' c3 c4 c5 d0 d1 d2' d3 d4 d5 HX hY S1 S2 HB HNm b0 b1 b2 b3
    obtain ⟨_, _, _, _, c4, _⟩ := six_nd X1.out.six
    obtain ⟨_, _, _, _, d4, _⟩ := six_nd Y1.out.six
    go_wp2_with fail
    go_loopw [7] (fun y wr => ∃ i : Nat, y = .int .i64 i ∧ i ≤ n ∧ Hid (allB (sameF n0 true) (t.kids.take i) (u.kids.take i) = true) ∧ Hid (Below w1.heap.size w1 wr)) (fun y _ => n - (intOf y).toNat)
    case atStart => exact ⟨0, rfl, by omega, Lib.hid rfl, Lib.hid (Below.refl _ _)⟩
    case round =>
      obtain ⟨i, rfl, hi, HE, hb⟩ := hrel
      clear c4 d4
      have X3 := Lib.hid (X1.out.after hb.out)
      have Y3 := Lib.hid (Y1.out.after hb.out)
      by_cases hgo : i < n
      · have hil : i < t.kids.length := by rw [← HN.out]; exact hgo
        have hiu : i < u.kids.length := by rw [← HK.out]; exact hgo
        rcases T1.out with ⟨e, _⟩ | ⟨hl, b, off, c1', cs, e, hc, hBb, h8, hat⟩
        · rw [e] at hil; exact absurd hil (by simp)
        rcases T2.out with ⟨e', _⟩ | ⟨_, b2, off2, c2', cs2, e', hc', hBb2, h8', hat'⟩
        · rw [e'] at hiu; exact absurd hiu (by simp)
        simp only [Value.slice.injEq] at e e'
        obtain ⟨rfl, en, rfl⟩ := e
        clear en
        obtain ⟨rfl, en, rfl⟩ := e'
        clear en
        have hT := (hat i hil).after hb.out
        have hU := (hat' i hiu).after hb.out
        obtain ⟨q, hq⟩ : ∃ q, q = t.kids[i] := ⟨_, rfl⟩
        obtain ⟨r, hr⟩ : ∃ r, r = u.kids[i] := ⟨_, rfl⟩
        rw [← hq] at hT
        rw [← hr] at hU
        have HQ : Hid (Low n0 q) := Lib.hid (by rw [hq]; exact HG.out _ (List.getElem_mem hil))
        have HTK : Hid (allB (sameF n0 true) (t.kids.take (i + 1)) (u.kids.take (i + 1)) = (allB (sameF n0 true) (t.kids.take i) (u.kids.take i) && sameF n0 true q r)) := Lib.hid (by rw [hq, hr]; exact allB_take _ _ _ i hil hiu)
        have HNO : Hid (sameF n0 true q r = false → allB (sameF n0 true) t.kids u.kids = false) := Lib.hid (fun h => allB_no _ _ _ i hil hiu (by rw [← hq, ← hr]; exact h))
        obtain ⟨ai, ci, pi, di, e, _⟩ := hT.opens
        obtain ⟨aj, cj, pj, dj, e', _⟩ := hU.opens
        have E1 := (h8 i hil).after (hat i hil).size hb.out
        have E2 := (h8' i hiu).after (hat' i hiu).size hb.out
        have F1 : Six wr b (off + i * 6) (ndC q.k q.s q.n q.a (.slice ai q.kids.length ci) (.slice pi q.p.length di)) := by rw [← e]; exact E1
        have F2 : Six wr b2 (off2 + i * 6) (ndC r.k r.s r.n r.a (.slice aj r.kids.length cj) (.slice pj r.p.length dj)) := by rw [← e']; exact E2
        rw [e] at hT
        rw [e'] at hU
        have HK1 := Lib.hid (fun V (hv : Below wr.heap.size wr V) => HI.out q r _ _ S T V (hT.after hv) (hU.after hv) HQ.out)
        have H0 : Hid (Hid (Below wr.heap.size wr wr) ∧ wr.cell? ⟨w.heap.size, 4, none⟩ = some (.slice (some ⟨b, off, none⟩) n c) ∧ wr.cell? ⟨w.heap.size + 1, 4, none⟩ = some (.slice (some ⟨b2, off2, none⟩) n c2) ∧ wr.cell? ⟨b, (off + i * 6), none⟩ = some (.int .i64 q.k) ∧ wr.cell? ⟨b, (off + i * 6) + 1, none⟩ = some (.string q.s) ∧ wr.cell? ⟨b, (off + i * 6) + 2, none⟩ = some (.int .i64 q.n) ∧ wr.cell? ⟨b, (off + i * 6) + 3, none⟩ = some (.int .i64 q.a) ∧ wr.cell? ⟨b, (off + i * 6) + 4, none⟩ = some (.slice ai q.kids.length ci) ∧ wr.cell? ⟨b, (off + i * 6) + 5, none⟩ = some (.slice pi q.p.length di) ∧ wr.cell? ⟨b2, (off2 + i * 6), none⟩ = some (.int .i64 r.k) ∧ wr.cell? ⟨b2, (off2 + i * 6) + 1, none⟩ = some (.string r.s) ∧ wr.cell? ⟨b2, (off2 + i * 6) + 2, none⟩ = some (.int .i64 r.n) ∧ wr.cell? ⟨b2, (off2 + i * 6) + 3, none⟩ = some (.int .i64 r.a) ∧ wr.cell? ⟨b2, (off2 + i * 6) + 4, none⟩ = some (.slice aj r.kids.length cj) ∧ wr.cell? ⟨b2, (off2 + i * 6) + 5, none⟩ = some (.slice pj r.p.length dj)) := by
          obtain ⟨p0, p1, p2, p3, p4, p5⟩ := six_nd F1
          obtain ⟨q0, q1, q2, q3, q4, q5⟩ := six_nd F2
          exact Lib.hid ⟨Lib.hid (Below.refl _ _), by simpa using (six_nd X3.out.six).2.2.2.2.1, by simpa using (six_nd Y3.out.six).2.2.2.2.1, p0, p1, p2, p3, p4, p5, q0, q1, q2, q3, q4, q5⟩
        have hc1 := Lib.hid hc
        clear e e' hT hU h8 hat h8' hat' E1 E2 F1 F2 hil hiu hq hr
        obtain ⟨c0, c1, c2'', c3, c4, c5⟩ := six_nd X3.out.six
        cases hbq : sameF n0 true q r with
        | true =>
          have HK2 := Lib.hid (fun V (hv : Below wr.heap.size wr V) => by have h := HK1.out V hv; rw [hbq] at h; exact h)
          have HTT : Hid (allB (sameF n0 true) (t.kids.take (i + 1)) (u.kids.take (i + 1)) = true) := Lib.hid (by rw [HTK.out, HE.out, hbq]; rfl)
          clear hbq
          go_upto_region 6 with (fail)
          clear c0 c1 c2'' c3 c4 c5
          go_region_held3 (fun w' => Hid (Below wr.heap.size wr w') ∧ w'.cell? ⟨w.heap.size, 4, none⟩ = some (.slice (some ⟨b, off, none⟩) n c) ∧ w'.cell? ⟨w.heap.size + 1, 4, none⟩ = some (.slice (some ⟨b2, off2, none⟩) n c2) ∧ w'.cell? ⟨b, (off + i * 6), none⟩ = some (.int .i64 q.k) ∧ w'.cell? ⟨b, (off + i * 6) + 1, none⟩ = some (.string q.s) ∧ w'.cell? ⟨b, (off + i * 6) + 2, none⟩ = some (.int .i64 q.n) ∧ w'.cell? ⟨b, (off + i * 6) + 3, none⟩ = some (.int .i64 q.a) ∧ w'.cell? ⟨b, (off + i * 6) + 4, none⟩ = some (.slice ai q.kids.length ci) ∧ w'.cell? ⟨b, (off + i * 6) + 5, none⟩ = some (.slice pi q.p.length di) ∧ w'.cell? ⟨b2, (off2 + i * 6), none⟩ = some (.int .i64 r.k) ∧ w'.cell? ⟨b2, (off2 + i * 6) + 1, none⟩ = some (.string r.s) ∧ w'.cell? ⟨b2, (off2 + i * 6) + 2, none⟩ = some (.int .i64 r.n) ∧ w'.cell? ⟨b2, (off2 + i * 6) + 3, none⟩ = some (.int .i64 r.a) ∧ w'.cell? ⟨b2, (off2 + i * 6) + 4, none⟩ = some (.slice aj r.kids.length cj) ∧ w'.cell? ⟨b2, (off2 + i * 6) + 5, none⟩ = some (.slice pj r.p.length dj))
            (first | exact keep14 H0.out (below_drew _) | exact keep14 (by assumption) (by assumption) | assumption)
            (first | (go_at_call 10; refine (HK2.out _ ?_).mono ?_; exact below_drew _; rintro e w1 ⟨rfl, b1⟩))
          have HEE := Lib.hid (And.left (show Hid (Below wr.heap.size wr _) ∧ _ by assumption))
          have B2 := Lib.hid (Below.step hb.out HEE.out.out)
          clear HEE
          go_wp2_with fail
          go_roundw
          case rel => exact ⟨i + 1, by go_num, by omega, HTT, B2⟩
          case measure => simp [intOf]; omega
        | false =>
          have HK2 := Lib.hid (fun V (hv : Below wr.heap.size wr V) => by have h := HK1.out V hv; rw [hbq] at h; exact h)
          have HF := Lib.hid (HNO.out hbq)
          clear hbq
          go_upto_region 6 with (fail)
          clear c0 c1 c2'' c3 c4 c5
          go_region_held3 (fun w' => Hid (Below wr.heap.size wr w') ∧ w'.cell? ⟨w.heap.size, 4, none⟩ = some (.slice (some ⟨b, off, none⟩) n c) ∧ w'.cell? ⟨w.heap.size + 1, 4, none⟩ = some (.slice (some ⟨b2, off2, none⟩) n c2) ∧ w'.cell? ⟨b, (off + i * 6), none⟩ = some (.int .i64 q.k) ∧ w'.cell? ⟨b, (off + i * 6) + 1, none⟩ = some (.string q.s) ∧ w'.cell? ⟨b, (off + i * 6) + 2, none⟩ = some (.int .i64 q.n) ∧ w'.cell? ⟨b, (off + i * 6) + 3, none⟩ = some (.int .i64 q.a) ∧ w'.cell? ⟨b, (off + i * 6) + 4, none⟩ = some (.slice ai q.kids.length ci) ∧ w'.cell? ⟨b, (off + i * 6) + 5, none⟩ = some (.slice pi q.p.length di) ∧ w'.cell? ⟨b2, (off2 + i * 6), none⟩ = some (.int .i64 r.k) ∧ w'.cell? ⟨b2, (off2 + i * 6) + 1, none⟩ = some (.string r.s) ∧ w'.cell? ⟨b2, (off2 + i * 6) + 2, none⟩ = some (.int .i64 r.n) ∧ w'.cell? ⟨b2, (off2 + i * 6) + 3, none⟩ = some (.int .i64 r.a) ∧ w'.cell? ⟨b2, (off2 + i * 6) + 4, none⟩ = some (.slice aj r.kids.length cj) ∧ w'.cell? ⟨b2, (off2 + i * 6) + 5, none⟩ = some (.slice pj r.p.length dj))
            (first | exact keep14 H0.out (below_drew _) | exact keep14 (by assumption) (by assumption) | assumption)
            (first | (go_at_call 10; refine (HK2.out _ ?_).mono ?_; exact below_drew _; rintro e w1 ⟨rfl, b1⟩))
          have HEE := Lib.hid (And.left (show Hid (Below wr.heap.size wr _) ∧ _ by assumption))
          have B2 := Lib.hid (Below.step B1.out (Below.step hb.out HEE.out.out))
          clear HEE
          go_wp2_with fail
          go_ret
          exact ⟨by rw [HF.out]; rfl, B2.out⟩
      · have hin : i = n := by omega
        subst hin
        obtain ⟨_, _, _, _, c4, _⟩ := six_nd X3.out.six
        have HF : Hid (allB (sameF n0 true) t.kids u.kids = true) := Lib.hid (by
          have h1 := HE.out
          rw [HN.out, List.take_length, ← HN.out, HK.out, List.take_length] at h1
          exact h1)
        go_wp2_with fail
        go_ret
        exact ⟨by rw [HF.out]; rfl, Below.step B1.out hb.out⟩
end Go.Proofs.YtgdlpldngpoadaaGreatDoor
