/- Merged by program: ShF, ShG, ShH. -/
import Derived.Test.YtgdlpldngpoadaaGreatDoorSbf
import Derived.Test.YtgdlpldngpoadaaGreatDoorSab
/- The program's Same: slices.Equal of texts, slices.EqualFunc of trees, show.Same. -/
namespace Go.Proofs.YtgdlpldngpoadaaGreatDoor
open Go.RowKit

set_option maxRecDepth 100000 in
theorem equal_spec (l m : List ByteArray) (v u : Value) (S T : Nat → Prop) (w : World) (hl : PAt w S l v) (hm : PAt w T m u) (hb : l.length ≤ 9223372036854775807) :
    Calls Tryz.prog 19 #[v, u] w fun e w' => e = .returned (.bool (namesB l m)) ∧ Below w.heap.size w w' := by
  obtain ⟨a, c, rfl⟩ := hl.shape
  obtain ⟨a2, c2, rfl⟩ := hm.shape
  have HL := Lib.hid hl
  have HM := Lib.hid hm
  clear hl hm
  obtain ⟨n, hn⟩ : ∃ n, n = l.length := ⟨_, rfl⟩
  obtain ⟨k, hk⟩ : ∃ k, k = m.length := ⟨_, rfl⟩
  rw [← hn] at HL hb ⊢
  rw [← hk] at HM ⊢
  have HN := Lib.hid hn
  have HK := Lib.hid hk
  clear hn hk
  have hbi : (n : Int) ≤ 9223372036854775807 := by omega
  by_cases hne : n = k
  · subst hne
    go_enter Tryz.func19, Tryz.ntmps19
    go_wp2_with fail
    go_loopw [5, 13] (fun y5 y wr => y5 = y5 ∧ ∃ i : Nat, y = .int .i64 i ∧ i ≤ n ∧ Hid (bytesP (l.take i) = bytesP (m.take i)) ∧ Hid (Below w.heap.size w wr)) (fun _ y _ => n - (intOf y).toNat)
    case atStart => exact ⟨rfl, 0, rfl, by omega, Lib.hid rfl, Lib.hid (Below.refl _ _)⟩
    case round =>
      obtain ⟨_, i, rfl, hi, HE, hbw⟩ := hrel
      by_cases hgo : i < n
      · have HL1 := HL.out
        have HM1 := HM.out
        rw [HN.out] at HL1
        rw [HK.out] at HM1
        have hil : i < l.length := by rw [← HN.out]; exact hgo
        have him : i < m.length := by rw [← HK.out]; exact hgo
        obtain ⟨b, off, ea, e1⟩ := (HL1.after hbw.out).cell i hil
        obtain ⟨b2, off2, ea2, e2⟩ := (HM1.after hbw.out).cell i him
        obtain ⟨x, hx⟩ : ∃ x, x = l[i] := ⟨_, rfl⟩
        obtain ⟨y, hy⟩ : ∃ y, y = m[i] := ⟨_, rfl⟩
        rw [← hx] at e1
        rw [← hy] at e2
        subst ea ea2
        have HX : Hid (bytesP (l.take (i + 1)) = bytesP (l.take i) ++ [x.toList]) := Lib.hid (by rw [List.take_succ_eq_append_getElem hil, ← hx, Lib.toList_data]; simp [bytesP])
        have HY : Hid (bytesP (m.take (i + 1)) = bytesP (m.take i) ++ [y.toList]) := Lib.hid (by rw [List.take_succ_eq_append_getElem him, ← hy, Lib.toList_data]; simp [bytesP])
        clear hx hy HL1 HM1 hil him
        by_cases hq : x.toList = y.toList
        · have hqb : (x.toList == y.toList) = true := by rw [hq]; exact beq_self_eq_true _
          have HQ := Lib.hid hq
          clear hq
          go_wp2_with fail
          go_quiet (fail)
          go_wp2_with fail
          go_roundw
          case rel => exact ⟨trivial, i + 1, by go_num, by omega, Lib.hid (by rw [HX.out, HY.out, HE.out, HQ.out]), by first | exact hbw | exact Lib.hid (Below.drewN' hbw.out _)⟩
          case measure => simp [intOf]; omega
        · have hqb : (x.toList == y.toList) = false := beq_eq_false_iff_ne.2 hq
          have HQ := Lib.hid hq
          have HF : Hid (namesB l m = false) := Lib.hid (decide_eq_false (fun h => HQ.out (by
            have h1 : bytesP (l.take (i + 1)) = bytesP (m.take (i + 1)) := by unfold bytesP at h ⊢; rw [List.map_take, List.map_take, h]
            rw [HX.out, HY.out, HE.out] at h1
            simpa using h1)))
          clear hq
          go_wp2_with fail
          go_quiet (fail)
          go_wp2_with fail
          go_ret
          exact ⟨by rw [HF.out]; rfl, by first | exact hbw.out | exact Below.drewN' hbw.out _⟩
      · have hin : i = n := by omega
        subst hin
        have HF : Hid (namesB l m = true) := Lib.hid (decide_eq_true (by
          have h1 := HE.out
          rw [HN.out, List.take_length, ← HN.out, HK.out, List.take_length] at h1
          exact h1))
        go_wp2_with fail
        go_ret
        exact ⟨by rw [HF.out]; rfl, hbw.out⟩
  · have hnb : ((n : Int) == k) = false := by simp; omega
    have HF : Hid (namesB l m = false) := Lib.hid (decide_eq_false (fun h => hne (by rw [HN.out, HK.out]; exact bytesP_len h)))
    clear hne
    go_enter Tryz.func19, Tryz.ntmps19
    go_wp2_with fail
    go_ret
    exact ⟨by rw [HF.out]; rfl, by first | exact Below.refl _ _ | exact Below.drewN' (Below.refl _ _) _⟩


set_option maxRecDepth 100000 in
set_option maxHeartbeats 2000000 in
theorem eqfunc_spec (f : Nd → Nd → Bool) (l m : List Nd) (v u : Value) (S T : Nat → Prop) (w : World) (hl : SlAt w S l v) (hm : SlAt w T m u) (hlb : l.length ≤ 1000000)
    (hF : ∀ V, Below w.heap.size w V → ∀ (i : Nat) (hi : i < l.length) (hj : i < m.length) (cs ds : Array Value), At V S l[i] cs → At V T m[i] ds → Calls Tryz.prog 9 #[.agg cs, .agg ds] V fun e w' => e = .returned (.bool (f l[i] m[i])) ∧ Below V.heap.size V w') :
    Calls Tryz.prog 20 #[v, u, .func (.func 9) #[] #[]] w fun e w' => e = .returned (.bool (decide (l.length = m.length) && allB f l m)) ∧ Below w.heap.size w w' := by
  have HI := info_nd
  obtain ⟨a, c, rfl⟩ := hl.shape
  obtain ⟨a2, c2, rfl⟩ := hm.shape
  have HL := Lib.hid hl
  have HM := Lib.hid hm
  have HFn := Lib.hid hF
  clear hl hm hF
  obtain ⟨n, hn⟩ : ∃ n, n = l.length := ⟨_, rfl⟩
  obtain ⟨k, hk⟩ : ∃ k, k = m.length := ⟨_, rfl⟩
  rw [← hn] at HL hlb ⊢
  rw [← hk] at HM ⊢
  have HN := Lib.hid hn
  have HK := Lib.hid hk
  clear hn hk
  by_cases hne : n = k
  · subst hne
    rw [show (decide (n = n) && allB f l m) = allB f l m from by simp]
    go_enter Tryz.func20, Tryz.ntmps20
    go_wp2_with fail
    go_loopw [7, 8, 9, 17] (fun y7 y8 y9 y wr => y7 = y7 ∧ y8 = y8 ∧ y9 = y9 ∧ ∃ i : Nat, y = .int .i64 i ∧ i ≤ n ∧ Hid (allB f (l.take i) (m.take i) = true) ∧ Hid (Below w.heap.size w wr)) (fun _ _ _ y _ => n - (intOf y).toNat)
    case atStart => exact ⟨rfl, rfl, rfl, 0, rfl, by omega, Lib.hid (by simp [allB]), Lib.hid (Below.refl _ _)⟩
    case round =>
      obtain ⟨_, _, _, i, rfl, hi, HE, hb⟩ := hrel
      by_cases hgo : i < n
      · have hil : i < l.length := by rw [← HN.out]; exact hgo
        have hiu : i < m.length := by rw [← HK.out]; exact hgo
        rcases HL.out with ⟨e, _⟩ | ⟨hl, b, off, c1', cs, e, hc, hBb, h8, hat⟩
        · rw [e] at hil; exact absurd hil (by simp)
        rcases HM.out with ⟨e', _⟩ | ⟨_, b2, off2, c2', cs2, e', hc', hBb2, h8', hat'⟩
        · rw [e'] at hiu; exact absurd hiu (by simp)
        simp only [Value.slice.injEq] at e e'
        obtain ⟨rfl, en, rfl⟩ := e
        clear en
        obtain ⟨rfl, en, rfl⟩ := e'
        clear en
        have hT := (hat i hil).after hb.out
        have hU := (hat' i hiu).after hb.out
        have hcall := fun V (hv : Below wr.heap.size wr V) => HFn.out V (Below.step hb.out hv) i hil hiu _ _ (hT.after hv) (hU.after hv)
        obtain ⟨q, hq⟩ : ∃ q, q = l[i] := ⟨_, rfl⟩
        obtain ⟨r, hr⟩ : ∃ r, r = m[i] := ⟨_, rfl⟩
        rw [← hq] at hT
        rw [← hr] at hU
        have HTK : Hid (allB f (l.take (i + 1)) (m.take (i + 1)) = (allB f (l.take i) (m.take i) && f q r)) := Lib.hid (by rw [hq, hr]; exact allB_take _ _ _ i hil hiu)
        have HNO : Hid (f q r = false → allB f l m = false) := Lib.hid (fun h => allB_no _ _ _ i hil hiu (by rw [← hq, ← hr]; exact h))
        simp only [← hq, ← hr] at hcall
        obtain ⟨ai, ci, pi, di, e, _⟩ := hT.opens
        obtain ⟨aj, cj, pj, dj, e', _⟩ := hU.opens
        have E1 := (h8 i hil).after (hat i hil).size hb.out
        have E2 := (h8' i hiu).after (hat' i hiu).size hb.out
        have F1 : Hid (Six wr b (off + i * 6) (ndC q.k q.s q.n q.a (.slice ai q.kids.length ci) (.slice pi q.p.length di))) := Lib.hid (by rw [← e]; exact E1)
        have F2 : Hid (Six wr b2 (off2 + i * 6) (ndC r.k r.s r.n r.a (.slice aj r.kids.length cj) (.slice pj r.p.length dj))) := Lib.hid (by rw [← e']; exact E2)
        rw [e, e'] at hcall
        have HC := Lib.hid hcall
        have hc1 := Lib.hid hc
        clear e e' hT hU h8 hat h8' hat' E1 E2 hil hiu hq hr hcall
        cases hbq : f q r with
        | true =>
          have HK2 := Lib.hid (fun V (hv : Below wr.heap.size wr V) => by have h := HC.out V hv; rw [hbq] at h; exact h)
          have HTT : Hid (allB f (l.take (i + 1)) (m.take (i + 1)) = true) := Lib.hid (by rw [HTK.out, HE.out, hbq]; rfl)
          clear hbq
          obtain ⟨p0, p1, p2, p3, p4, p5⟩ := six_nd F1.out
          go_upto_region 6 with (refine wpList_store_row rfl 25 (.tmp 8) (.tmp 21) rfl wr.heap.size (ndC q.k q.s q.n q.a (.slice ai q.kids.length ci) (.slice pi q.p.length di)) rfl rfl 25 zeroN (heap_alloc_last _ _) HI rfl (nd_one _ _ _ _ _ _ _ _ _ _) ?_)
          obtain ⟨W3, hW3, X3, B3, hs3⟩ := nd_boxed wr zeroN (ndC q.k q.s q.n q.a (.slice ai q.kids.length ci) (.slice pi q.p.length di))
          change Code.wp _ _ _ _ ((wr.alloc (Obj.cells zeroN 25)).setRow wr.heap.size (ndC q.k q.s q.n q.a (.slice ai q.kids.length ci) (.slice pi q.p.length di)))
          rw [← hW3]
          clear hW3
          clear p0 p1 p2 p3 p4 p5
          obtain ⟨q0, q1, q2, q3, q4, q5⟩ := six_nd (F2.out.after rfl B3.out)
          go_upto_region 7 with (refine wpList_store_row rfl 25 (.tmp 9) (.tmp 25) rfl W3.heap.size (ndC r.k r.s r.n r.a (.slice aj r.kids.length cj) (.slice pj r.p.length dj)) rfl rfl 25 zeroN (heap_alloc_last _ _) HI rfl (nd_one _ _ _ _ _ _ _ _ _ _) ?_)
          obtain ⟨W4, hW4, X4, B4, hs4⟩ := nd_boxed W3 zeroN (ndC r.k r.s r.n r.a (.slice aj r.kids.length cj) (.slice pj r.p.length dj))
          change Code.wp _ _ _ _ ((W3.alloc (Obj.cells zeroN 25)).setRow W3.heap.size (ndC r.k r.s r.n r.a (.slice aj r.kids.length cj) (.slice pj r.p.length dj)))
          rw [← hW4]
          clear hW4
          clear q0 q1 q2 q3 q4 q5
          have X3' := Lib.hid (X3.out.after B4.out)
          have B34 := Lib.hid (Below.step B3.out B4.out)
          obtain ⟨p0, p1, p2, p3, p4, p5⟩ := six_nd X3'.out.six
          obtain ⟨q0, q1, q2, q3, q4, q5⟩ := six_nd X4.out.six
          go_wp2_with fail
          refine (HK2.out _ B34.out).mono ?_
          rintro e w5 ⟨rfl, b5⟩
          have B5 := Lib.hid (Below.step hb.out (Below.step B34.out b5))
          clear b5 p0 p1 p2 p3 p4 p5 q0 q1 q2 q3 q4 q5
          go_wp2_with fail
          go_roundw
          case rel => exact ⟨trivial, trivial, trivial, i + 1, by go_num, by omega, HTT, B5⟩
          case measure => simp [intOf]; omega
        | false =>
          have HK2 := Lib.hid (fun V (hv : Below wr.heap.size wr V) => by have h := HC.out V hv; rw [hbq] at h; exact h)
          have HF := Lib.hid (HNO.out hbq)
          clear hbq
          obtain ⟨p0, p1, p2, p3, p4, p5⟩ := six_nd F1.out
          go_upto_region 6 with (refine wpList_store_row rfl 25 (.tmp 8) (.tmp 21) rfl wr.heap.size (ndC q.k q.s q.n q.a (.slice ai q.kids.length ci) (.slice pi q.p.length di)) rfl rfl 25 zeroN (heap_alloc_last _ _) HI rfl (nd_one _ _ _ _ _ _ _ _ _ _) ?_)
          obtain ⟨W3, hW3, X3, B3, hs3⟩ := nd_boxed wr zeroN (ndC q.k q.s q.n q.a (.slice ai q.kids.length ci) (.slice pi q.p.length di))
          change Code.wp _ _ _ _ ((wr.alloc (Obj.cells zeroN 25)).setRow wr.heap.size (ndC q.k q.s q.n q.a (.slice ai q.kids.length ci) (.slice pi q.p.length di)))
          rw [← hW3]
          clear hW3
          clear p0 p1 p2 p3 p4 p5
          obtain ⟨q0, q1, q2, q3, q4, q5⟩ := six_nd (F2.out.after rfl B3.out)
          go_upto_region 7 with (refine wpList_store_row rfl 25 (.tmp 9) (.tmp 25) rfl W3.heap.size (ndC r.k r.s r.n r.a (.slice aj r.kids.length cj) (.slice pj r.p.length dj)) rfl rfl 25 zeroN (heap_alloc_last _ _) HI rfl (nd_one _ _ _ _ _ _ _ _ _ _) ?_)
          obtain ⟨W4, hW4, X4, B4, hs4⟩ := nd_boxed W3 zeroN (ndC r.k r.s r.n r.a (.slice aj r.kids.length cj) (.slice pj r.p.length dj))
          change Code.wp _ _ _ _ ((W3.alloc (Obj.cells zeroN 25)).setRow W3.heap.size (ndC r.k r.s r.n r.a (.slice aj r.kids.length cj) (.slice pj r.p.length dj)))
          rw [← hW4]
          clear hW4
          clear q0 q1 q2 q3 q4 q5
          have X3' := Lib.hid (X3.out.after B4.out)
          have B34 := Lib.hid (Below.step B3.out B4.out)
          obtain ⟨p0, p1, p2, p3, p4, p5⟩ := six_nd X3'.out.six
          obtain ⟨q0, q1, q2, q3, q4, q5⟩ := six_nd X4.out.six
          go_wp2_with fail
          refine (HK2.out _ B34.out).mono ?_
          rintro e w5 ⟨rfl, b5⟩
          have B5 := Lib.hid (Below.step hb.out (Below.step B34.out b5))
          clear b5 p0 p1 p2 p3 p4 p5 q0 q1 q2 q3 q4 q5
          go_wp2_with fail
          go_ret
          exact ⟨by rw [HF.out]; rfl, B5.out⟩
      · have hin : i = n := by omega
        subst hin
        have HF : Hid (allB f l m = true) := Lib.hid (by
          have h1 := HE.out
          rw [HN.out, List.take_length, ← HN.out, HK.out, List.take_length] at h1
          exact h1)
        go_wp2_with fail
        go_ret
        exact ⟨by rw [HF.out]; rfl, hb.out⟩
  · rw [show (decide (n = k) && allB f l m) = false from by simp [hne]]
    have hnb : ((n : Int) == k) = false := by simp; omega
    clear hne
    go_enter Tryz.func20, Tryz.ntmps20
    go_wp2_with fail
    go_ret
    exact ⟨rfl, Below.refl _ _⟩
end Go.Proofs.YtgdlpldngpoadaaGreatDoor

/- The program's Same: a walk. -/
namespace Go.Proofs.YtgdlpldngpoadaaGreatDoor
open Go.RowKit

theorem sameF_parts (n : Nat) (t u : Nd) : sameF (n + 1) false t u = ((t.k == u.k) && ((t.s.toList == u.s.toList) && ((t.n == u.n) && (namesB t.p u.p && (decide (t.kids.length = u.kids.length) && allB (sameF n false) t.kids u.kids))))) := by
  simp [sameF, headB, Bool.and_assoc]

set_option maxRecDepth 100000 in
set_option maxHeartbeats 2000000 in
theorem zsame (n : Nat) : ∀ (t u : Nd) (cs ds : Array Value) (S T : Nat → Prop) (w : World), At w S t cs → At w T u ds → Low n t →
    Calls Tryz.prog 9 #[.agg cs, .agg ds] w fun e w' => e = .returned (.bool (sameF n false t u)) ∧ Below w.heap.size w w' := by
  induction n with
  | zero => intro t u cs ds S T w _ _ hg; exact hg.elim
  | succ n ih =>
    intro t u cs ds S T w h g hg
    rw [sameF_parts]
    obtain ⟨x, c, y, d, rfl, hs, hq⟩ := h.opens
    obtain ⟨x2, c2, y2, d2, rfl, hs2, hq2⟩ := g.opens
    have HEF := Lib.hid (fun V (hv : Below w.heap.size w V) => eqfunc_spec (sameF n false) t.kids u.kids _ _ S T V (hs.after hv) (hs2.after hv) hg.1 (fun V' hv' i hi hj cs ds ha hb => ih _ _ cs ds S T V' ha hb (hg.2.2 _ (List.getElem_mem hi))))
    have HEQ := Lib.hid (fun V (hv : Below w.heap.size w V) => equal_spec t.p u.p _ _ S T V (hq.after hv) (hq2.after hv) hg.2.1)
    clear h g hg ih hs hs2 hq hq2
    obtain ⟨al, hal⟩ : ∃ al, al = (decide (t.kids.length = u.kids.length) && allB (sameF n false) t.kids u.kids) := ⟨_, rfl⟩
    rw [← hal] at HEF ⊢
    obtain ⟨nl, hnl⟩ : ∃ nl, nl = namesB t.p u.p := ⟨_, rfl⟩
    rw [← hnl] at HEQ ⊢
    clear hal hnl
    obtain ⟨res, hres⟩ : ∃ res, res = ((t.k == u.k) && ((t.s.toList == u.s.toList) && ((t.n == u.n) && (nl && al)))) := ⟨_, rfl⟩
    rw [← hres]
    have HR := Lib.hid hres
    clear hres
    go_enter Tryz.func9, Tryz.ntmps9
    go_upto_region 1 with (fail)
    obtain ⟨W, hW, hX, hB, hsz⟩ := nd_box w (ndC t.k t.s t.n t.a (.slice x t.kids.length c) (.slice y t.p.length d))
    obtain ⟨V, hV, hY, hBV, _⟩ := nd_box W (ndC u.k u.s u.n u.a (.slice x2 u.kids.length c2) (.slice y2 u.p.length d2))
    rw [hsz.out] at hY
    change Code.wp _ _ _ _ ((w.alloc (Obj.cells (ndC t.k t.s t.n t.a (.slice x t.kids.length c) (.slice y t.p.length d)) 25)).alloc (Obj.cells (ndC u.k u.s u.n u.a (.slice x2 u.kids.length c2) (.slice y2 u.p.length d2)) 25))
    rw [← hW, ← hV]
    have HB := Lib.hid (Below.step hB.out hBV.out)
    have HX := Lib.hid (hX.out.after hBV.out)
    have HY := Lib.hid hY.out
    clear hW hV hX hBV hsz hB hY
    obtain ⟨c0, c1, c2', c3, c4, c5⟩ := six_nd HX.out.six
    obtain ⟨d0, d1, d2', d3, d4, d5⟩ := six_nd HY.out.six
    by_cases e0 : t.k = u.k
    case neg =>
      have b0 : (t.k == u.k) = false := by simpa using e0
      clear e0
      go_wp2_with fail
      go_ret
      exact ⟨by rw [HR.out, b0]; rfl, HB.out⟩
    have b0 : (t.k == u.k) = true := by simpa using e0
    clear e0
    by_cases e1 : t.s.toList = u.s.toList
    case neg =>
      have b1 : (t.s.toList == u.s.toList) = false := by simpa using e1
      clear e1
      go_wp2_with fail
      go_ret
      exact ⟨by rw [HR.out, b0, b1]; rfl, HB.out⟩
    have b1 : (t.s.toList == u.s.toList) = true := by simpa using e1
    clear e1
    by_cases e2 : t.n = u.n
    case neg =>
      have b2 : (t.n == u.n) = false := by simpa using e2
      clear e2
      go_wp2_with fail
      go_ret
      exact ⟨by rw [HR.out, b0, b1, b2]; rfl, HB.out⟩
    have b2 : (t.n == u.n) = true := by simpa using e2
    clear e2
    cases nl with
    | false =>
      go_wp2_with fail
      refine (HEQ.out _ HB.out).mono ?_
      rintro e w1 ⟨rfl, bb⟩
      go_wp2_with fail
      go_ret
      exact ⟨by rw [HR.out, b0, b1, b2]; rfl, Below.step HB.out bb⟩
    | true =>
      go_wp2_with fail
      refine (HEQ.out _ HB.out).mono ?_
      rintro e w1 ⟨rfl, bb⟩
      have HB1 := Lib.hid (Below.step HB.out bb)
      have HX1 := Lib.hid (HX.out.after bb)
      have HY1 := Lib.hid (HY.out.after bb)
      clear bb c0 c1 c2' c3 c4 c5 d0 d1 d2' d3 d4 d5
      obtain ⟨c0, c1, c2', c3, c4, c5⟩ := six_nd HX1.out.six
      obtain ⟨d0, d1, d2', d3, d4, d5⟩ := six_nd HY1.out.six
      go_wp2_with fail
      refine (HEF.out _ HB1.out).mono ?_
      rintro e w2 ⟨rfl, bz⟩
      go_wp2_with fail
      go_ret
      exact ⟨by rw [HR.out, b0, b1, b2]; rfl, Below.step HB1.out bz⟩
end Go.Proofs.YtgdlpldngpoadaaGreatDoor

/- The program's Count and Deep. -/
namespace Go.Proofs.YtgdlpldngpoadaaGreatDoor
open Go.RowKit

def sumF (f : Nd → Nat) : List Nd → Nat
  | [] => 0
  | a :: l => f a + sumF f l
theorem sumF_app (f : Nd → Nat) (l m : List Nd) : sumF f (l ++ m) = sumF f l + sumF f m := by
  induction l with
  | nil => simp [sumF]
  | cons a l ih => simp [sumF, ih]; omega
def maxF (f : Nd → Nat) : List Nd → Nat
  | [] => 0
  | a :: l => max (f a) (maxF f l)
theorem maxF_app (f : Nd → Nat) (l m : List Nd) : maxF f (l ++ m) = max (maxF f l) (maxF f m) := by
  induction l with
  | nil => simp [maxF]
  | cons a l ih => simp [maxF, ih, Nat.max_assoc]
def cntN : Nat → Nd → Nat
  | 0, _ => 0
  | m + 1, t => 1 + sumF (cntN m) t.kids
def deepN : Nat → Nd → Nat
  | 0, _ => 0
  | m + 1, t => maxF (deepN m) t.kids + 1

set_option maxRecDepth 100000 in
set_option maxHeartbeats 2000000 in
theorem zcount (m : Nat) : ∀ (t : Nd) (cs : Array Value) (S : Nat → Prop) (w : World), At w S t cs → Low m t → cntN m t ≤ 1000000 →
    Calls Tryz.prog 28 #[.agg cs] w fun e w' => e = .returned (.int .i64 (cntN m t : Nat)) ∧ Below w.heap.size w w' := by
  induction m with
  | zero => intro t cs S w _ hg _; exact hg.elim
  | succ m ih =>
    intro t cs S w h hg hv
    have HI := info_nd
    obtain ⟨x, c, y, d, rfl, hs, hq⟩ := h.opens
    have HS := Lib.hid hs
    have HIH := Lib.hid (fun V (hb : Below w.heap.size w V) (q : Nd) (hm : q ∈ t.kids) ds (ha : At V S q ds) (hq : cntN m q ≤ 1000000) => ih q ds S V ha (hg.2.2 _ hm) hq)
    have HG : Hid (t.kids.length ≤ 1000000) := Lib.hid hg.1
    have HVL : Hid (cntN (m + 1) t ≤ 1000000) := Lib.hid hv
    have HEV : Hid (cntN (m + 1) t = 1 + sumF (cntN m) t.kids) := Lib.hid rfl
    clear h hg hv ih hs hq
    obtain ⟨n, hn⟩ : ∃ n, n = t.kids.length := ⟨_, rfl⟩
    rw [← hn] at HS HG ⊢
    obtain ⟨z, hz⟩ : ∃ z, z = cntN (m + 1) t := ⟨_, rfl⟩
    rw [← hz] at HEV HVL ⊢
    have hlen : n ≤ 1000000 := HG.out
    have HN := Lib.hid hn
    clear hn hz
    go_enter Tryz.func28, Tryz.ntmps28
    go_upto_region 1 with (fail)
    obtain ⟨W, hW, hX, hB, hsz⟩ := nd_box w (ndC t.k t.s t.n t.a (.slice x n c) (.slice y t.p.length d))
    change Code.wp _ _ _ _ (w.alloc (Obj.cells (ndC t.k t.s t.n t.a (.slice x n c) (.slice y t.p.length d)) 25))
    rw [← hW]
    clear hW
    obtain ⟨c0, c1, c2, c3, c4, c5⟩ := six_nd hX.out.six
    go_wp2_with fail
    clear c0 c1 c2 c3 c4 c5
    go_loopw [3, 5, 9] (fun y3 y5 y9 wr => y5 = y5 ∧ ∃ (i r : Nat), y3 = .int .i64 r ∧ y9 = .int .i64 i ∧ i ≤ n ∧ r ≤ 1000000 ∧ Hid (r = 1 + sumF (cntN m) (t.kids.take i)) ∧ Hid (Below W.heap.size W wr)) (fun _ _ y _ => n - (intOf y).toNat)
    case atStart => exact ⟨rfl, 0, 1, rfl, rfl, by omega, by omega, Lib.hid (by simp [sumF]), Lib.hid (Below.refl _ _)⟩
    case round =>
      obtain ⟨_, i, r, rfl, rfl, hi, hr, HE, hb⟩ := hrel
      by_cases hgo : i < n
      · have hil : i < t.kids.length := by rw [← HN.out]; exact hgo
        rcases HS.out with ⟨e, _⟩ | ⟨hl, b, off, c1', cs, e, hc, hBb, h8, hat⟩
        · rw [e] at hil; exact absurd hil (by simp)
        simp only [Value.slice.injEq] at e
        obtain ⟨rfl, en, rfl⟩ := e
        clear en
        have hbb := Below.step hB.out hb.out
        have hT := (hat i hil).after hbb
        have E1 := (h8 i hil).after (hat i hil).size hbb
        have HK1 := fun V (hv : Below wr.heap.size wr V) (hq : cntN m t.kids[i] ≤ 1000000) => HIH.out V (Below.step hbb hv) t.kids[i] (List.getElem_mem hil) (cs i) (hT.after hv) hq
        have HTK0 : t.kids.take (i + 1) = t.kids.take i ++ [t.kids[i]] := List.take_succ_eq_append_getElem hil
        have HDR : t.kids = t.kids.take (i + 1) ++ t.kids.drop (i + 1) := (List.take_append_drop _ _).symm
        obtain ⟨q, hq⟩ : ∃ q, q = t.kids[i] := ⟨_, rfl⟩
        rw [← hq] at hT HK1 HTK0
        have HTK := Lib.hid HTK0
        have HDR := Lib.hid HDR
        clear HTK0
        obtain ⟨ai, ci, pi, di, e, _⟩ := hT.opens
        have F1 : Hid (Six wr b (off + i * 6) (ndC q.k q.s q.n q.a (.slice ai q.kids.length ci) (.slice pi q.p.length di))) := Lib.hid (by rw [← e]; exact E1)
        rw [e] at HK1
        obtain ⟨vq, hvq⟩ : ∃ vq, vq = cntN m q := ⟨_, rfl⟩
        rw [← hvq] at HK1
        have hsm : vq ≤ 1000000 ∧ r + vq ≤ 1000000 := by
          have h1 := HE.out
          have h2 := HVL.out
          have h3 := HEV.out
          rw [HDR.out, HTK.out, sumF_app, sumF_app] at h3
          simp only [sumF, ← hvq] at h3
          omega
        have HNX : Hid (r + vq = 1 + sumF (cntN m) (t.kids.take (i + 1))) := Lib.hid (by rw [HTK.out, sumF_app, HE.out]; simp only [sumF, ← hvq]; omega)
        have HC := Lib.hid (fun V (hv : Below wr.heap.size wr V) => HK1 V hv hsm.1)
        have hsm2 := hsm.2
        have hc1 := Lib.hid hc
        clear e hT h8 hat E1 hil hq HK1 hvq HTK HDR hsm
        obtain ⟨p0, p1, p2, p3, p4, p5⟩ := six_nd F1.out
        go_upto_region 5 with (refine wpList_store_row rfl 25 (.tmp 5) (.tmp 12) rfl wr.heap.size (ndC q.k q.s q.n q.a (.slice ai q.kids.length ci) (.slice pi q.p.length di)) rfl rfl 25 zeroN (heap_alloc_last _ _) HI rfl (nd_one _ _ _ _ _ _ _ _ _ _) ?_)
        obtain ⟨W3, hW3, X3, B3, hs3⟩ := nd_boxed wr zeroN (ndC q.k q.s q.n q.a (.slice ai q.kids.length ci) (.slice pi q.p.length di))
        change Code.wp _ _ _ _ ((wr.alloc (Obj.cells zeroN 25)).setRow wr.heap.size (ndC q.k q.s q.n q.a (.slice ai q.kids.length ci) (.slice pi q.p.length di)))
        rw [← hW3]
        clear hW3 p0 p1 p2 p3 p4 p5
        obtain ⟨p0, p1, p2, p3, p4, p5⟩ := six_nd X3.out.six
        go_wp2_with fail
        refine (HC.out _ B3.out).mono ?_
        rintro e w5 ⟨rfl, b5⟩
        have B5 := Lib.hid (Below.step hb.out (Below.step B3.out b5))
        clear b5 p0 p1 p2 p3 p4 p5
        go_wp2_with fail
        go_roundw
        case rel => exact ⟨trivial, i + 1, r + vq, by go_num, by go_num, by omega, by omega, HNX, B5⟩
        case measure => simp [intOf]; omega
      · have hin : i = n := by omega
        subst hin
        have hF : z = r := by
          have h1 := HE.out
          rw [HN.out, List.take_length] at h1
          rw [HEV.out, h1]
        clear HEV HVL
        subst hF
        go_wp2_with fail
        go_ret
        exact ⟨by go_num, Below.step hB.out hb.out⟩

set_option maxRecDepth 100000 in
set_option maxHeartbeats 2000000 in
theorem zdeep (m : Nat) : ∀ (t : Nd) (cs : Array Value) (S : Nat → Prop) (w : World), At w S t cs → Low m t → deepN m t ≤ 1000000 →
    Calls Tryz.prog 29 #[.agg cs] w fun e w' => e = .returned (.int .i64 (deepN m t : Nat)) ∧ Below w.heap.size w w' := by
  induction m with
  | zero => intro t cs S w _ hg _; exact hg.elim
  | succ m ih =>
    intro t cs S w h hg hv
    have HI := info_nd
    obtain ⟨x, c, y, d, rfl, hs, hq⟩ := h.opens
    have HS := Lib.hid hs
    have HIH := Lib.hid (fun V (hb : Below w.heap.size w V) (q : Nd) (hm : q ∈ t.kids) ds (ha : At V S q ds) (hq : deepN m q ≤ 1000000) => ih q ds S V ha (hg.2.2 _ hm) hq)
    have HG : Hid (t.kids.length ≤ 1000000) := Lib.hid hg.1
    have HVL : Hid (deepN (m + 1) t ≤ 1000000) := Lib.hid hv
    have HEV : Hid (deepN (m + 1) t = maxF (deepN m) t.kids + 1) := Lib.hid rfl
    clear h hg hv ih hs hq
    obtain ⟨n, hn⟩ : ∃ n, n = t.kids.length := ⟨_, rfl⟩
    rw [← hn] at HS HG ⊢
    obtain ⟨z, hz⟩ : ∃ z, z = deepN (m + 1) t := ⟨_, rfl⟩
    rw [← hz] at HEV HVL ⊢
    have hlen : n ≤ 1000000 := HG.out
    have HN := Lib.hid hn
    clear hn hz
    go_enter Tryz.func29, Tryz.ntmps29
    go_upto_region 1 with (fail)
    obtain ⟨W, hW, hX, hB, hsz⟩ := nd_box w (ndC t.k t.s t.n t.a (.slice x n c) (.slice y t.p.length d))
    change Code.wp _ _ _ _ (w.alloc (Obj.cells (ndC t.k t.s t.n t.a (.slice x n c) (.slice y t.p.length d)) 25))
    rw [← hW]
    clear hW
    obtain ⟨c0, c1, c2, c3, c4, c5⟩ := six_nd hX.out.six
    go_wp2_with fail
    clear c0 c1 c2 c3 c4 c5
    go_loopw [3, 5, 9] (fun y3 y5 y9 wr => y5 = y5 ∧ ∃ (i r : Nat), y3 = .int .i64 r ∧ y9 = .int .i64 i ∧ i ≤ n ∧ r ≤ 1000000 ∧ Hid (r = maxF (deepN m) (t.kids.take i)) ∧ Hid (Below W.heap.size W wr)) (fun _ _ y _ => n - (intOf y).toNat)
    case atStart => exact ⟨rfl, 0, 0, rfl, rfl, by omega, by omega, Lib.hid (by simp [maxF]), Lib.hid (Below.refl _ _)⟩
    case round =>
      obtain ⟨_, i, r, rfl, rfl, hi, hr, HE, hb⟩ := hrel
      by_cases hgo : i < n
      · have hil : i < t.kids.length := by rw [← HN.out]; exact hgo
        rcases HS.out with ⟨e, _⟩ | ⟨hl, b, off, c1', cs, e, hc, hBb, h8, hat⟩
        · rw [e] at hil; exact absurd hil (by simp)
        simp only [Value.slice.injEq] at e
        obtain ⟨rfl, en, rfl⟩ := e
        clear en
        have hbb := Below.step hB.out hb.out
        have hT := (hat i hil).after hbb
        have E1 := (h8 i hil).after (hat i hil).size hbb
        have HK1 := fun V (hv : Below wr.heap.size wr V) (hq : deepN m t.kids[i] ≤ 1000000) => HIH.out V (Below.step hbb hv) t.kids[i] (List.getElem_mem hil) (cs i) (hT.after hv) hq
        have HTK0 : t.kids.take (i + 1) = t.kids.take i ++ [t.kids[i]] := List.take_succ_eq_append_getElem hil
        have HDR : t.kids = t.kids.take (i + 1) ++ t.kids.drop (i + 1) := (List.take_append_drop _ _).symm
        obtain ⟨q, hq⟩ : ∃ q, q = t.kids[i] := ⟨_, rfl⟩
        rw [← hq] at hT HK1 HTK0
        have HTK := Lib.hid HTK0
        have HDR := Lib.hid HDR
        clear HTK0
        obtain ⟨ai, ci, pi, di, e, _⟩ := hT.opens
        have F1 : Hid (Six wr b (off + i * 6) (ndC q.k q.s q.n q.a (.slice ai q.kids.length ci) (.slice pi q.p.length di))) := Lib.hid (by rw [← e]; exact E1)
        rw [e] at HK1
        obtain ⟨vq, hvq⟩ : ∃ vq, vq = deepN m q := ⟨_, rfl⟩
        rw [← hvq] at HK1
        have hsm : vq ≤ 1000000 ∧ max r vq + 1 ≤ 1000000 := by
          have h1 := HE.out
          have h2 := HVL.out
          have h3 := HEV.out
          rw [HDR.out, HTK.out, maxF_app, maxF_app] at h3
          simp only [maxF, ← hvq] at h3
          omega
        have HNX : Hid (max r vq = maxF (deepN m) (t.kids.take (i + 1))) := Lib.hid (by rw [HTK.out, maxF_app, HE.out]; simp only [maxF, ← hvq]; omega)
        have HC := Lib.hid (fun V (hv : Below wr.heap.size wr V) => HK1 V hv hsm.1)
        have hsm2 := hsm.2
        have hc1 := Lib.hid hc
        clear e hT h8 hat E1 hil hq HK1 hvq HTK HDR hsm
        obtain ⟨p0, p1, p2, p3, p4, p5⟩ := six_nd F1.out
        go_upto_region 5 with (refine wpList_store_row rfl 25 (.tmp 5) (.tmp 12) rfl wr.heap.size (ndC q.k q.s q.n q.a (.slice ai q.kids.length ci) (.slice pi q.p.length di)) rfl rfl 25 zeroN (heap_alloc_last _ _) HI rfl (nd_one _ _ _ _ _ _ _ _ _ _) ?_)
        obtain ⟨W3, hW3, X3, B3, hs3⟩ := nd_boxed wr zeroN (ndC q.k q.s q.n q.a (.slice ai q.kids.length ci) (.slice pi q.p.length di))
        change Code.wp _ _ _ _ ((wr.alloc (Obj.cells zeroN 25)).setRow wr.heap.size (ndC q.k q.s q.n q.a (.slice ai q.kids.length ci) (.slice pi q.p.length di)))
        rw [← hW3]
        clear hW3 p0 p1 p2 p3 p4 p5
        obtain ⟨p0, p1, p2, p3, p4, p5⟩ := six_nd X3.out.six
        go_wp2_with fail
        refine (HC.out _ B3.out).mono ?_
        rintro e w5 ⟨rfl, b5⟩
        have B5 := Lib.hid (Below.step hb.out (Below.step B3.out b5))
        clear b5 p0 p1 p2 p3 p4 p5
        go_wp2_with fail
        go_roundw
        case rel => exact ⟨trivial, i + 1, max r vq, by go_num, by go_num, by omega, by omega, HNX, B5⟩
        case measure => simp [intOf]; omega
      · have hin : i = n := by omega
        subst hin
        have hF : z = r + 1 := by
          have h1 := HE.out
          rw [HN.out, List.take_length] at h1
          rw [HEV.out, h1]
        clear HEV HVL
        subst hF
        go_wp2_with fail
        go_ret
        exact ⟨by go_num, Below.step hB.out hb.out⟩
end Go.Proofs.YtgdlpldngpoadaaGreatDoor
