/- Merged by program: MchR, NWalkR, LongestR. -/
import Derived.Deep.OwnRows
import Derived.Test.YtcojnkjcbopnbaaGreatDoorQjai
import Derived.Test.YtcojnkjcbopnbaaGreatDoorQjam
/- A machine that is read: its two cells, wherever they lie; a pattern in memory. -/
namespace Go.Proofs.YtcojnkjcbopnbaaGreatDoor
open Go.RowKit

/-- A machine to be read. -/
structure MchR (w : World) (p o : Nat) (ss : List St) (sv : Value) (st : Int) : Prop where
  c0 : w.cell? ⟨p, o, none⟩ = some sv
  c1 : w.cell? ⟨p, o + 1, none⟩ = some (.int .i64 st)
  own : w.ownsRow 0 124 7 sv ss.length (flatS ss)
theorem MchR.lt {w : World} {p o : Nat} {ss : List St} {sv : Value} {st : Int} (h : MchR w p o ss sv st) : p < w.heap.size := cell_lt h.c0
theorem MchR.after {w w' : World} {p o : Nat} {ss : List St} {sv : Value} {st : Int} (h : MchR w p o ss sv st) (hb : Below w.heap.size w w') : MchR w' p o ss sv st :=
  ⟨by rw [World.cell?_of_block (a := ⟨p, o, none⟩) (hb.block p h.lt)]; exact h.c0, by rw [World.cell?_of_block (a := ⟨p, o + 1, none⟩) (hb.block p h.lt)]; exact h.c1, owns_after h.own hb⟩

/-- A pattern in memory: its text, its machine. -/
structure PatM (w : World) (pp : Nat) (t : ByteArray) (ss : List St) (sv : Value) (st : Int) : Prop where
  row : w.heap[pp]? = some (.cells #[.string t, sv, .int .i64 st] 89 (0, 0))
  own : w.ownsRow 0 124 7 sv ss.length (flatS ss)
theorem PatM.lt {w : World} {pp : Nat} {t : ByteArray} {ss : List St} {sv : Value} {st : Int} (h : PatM w pp t ss sv st) : pp < w.heap.size := (Array.getElem?_eq_some_iff.1 h.row).1
theorem PatM.c0 {w : World} {pp : Nat} {t : ByteArray} {ss : List St} {sv : Value} {st : Int} (h : PatM w pp t ss sv st) : w.cell? ⟨pp, 0, none⟩ = some (.string t) := cell_of_row _ _ 0 _ _ _ h.row
theorem PatM.mch {w : World} {pp : Nat} {t : ByteArray} {ss : List St} {sv : Value} {st : Int} (h : PatM w pp t ss sv st) : MchR w pp 1 ss sv st :=
  ⟨cell_of_row _ _ 1 _ _ _ h.row, cell_of_row _ _ 2 _ _ _ h.row, h.own⟩
theorem PatM.after {w w' : World} {pp : Nat} {t : ByteArray} {ss : List St} {sv : Value} {st : Int} (h : PatM w pp t ss sv st) (hb : Below w.heap.size w w') : PatM w' pp t ss sv st :=
  ⟨by rw [hb.block pp h.lt]; exact h.row, owns_after h.own hb⟩
/-- The blocks that a pattern lies in. -/
def PatS (pp : Nat) (sv : Value) : Nat → Prop := fun k => k = pp ∨ sv.ownBlock = some k
theorem PatM.keep {w w' : World} {pp : Nat} {t : ByteArray} {ss : List St} {sv : Value} {st : Int} (h : PatM w pp t ss sv st) (e : ∀ k, PatS pp sv k → w'.heap[k]? = w.heap[k]?) : PatM w' pp t ss sv st := by
  refine ⟨by rw [e pp (Or.inl rfl)]; exact h.row, h.own.1, ?_⟩
  rcases h.own.2 with h0 | ⟨g', cap', cur, rfl, hb, hg, rest⟩
  · exact Or.inl h0
  · exact Or.inr ⟨g', cap', cur, rfl, hb, by rw [e g' (Or.inr rfl)]; exact hg, rest⟩
theorem PatM.low {w : World} {pp : Nat} {t : ByteArray} {ss : List St} {sv : Value} {st : Int} (h : PatM w pp t ss sv st) : ∀ k, PatS pp sv k → k < w.heap.size := by
  rintro k (rfl | hk)
  · exact h.lt
  · exact (h.own.lt k hk).2
end Go.Proofs.YtcojnkjcbopnbaaGreatDoor

/- (*nfa.Prog).walk, told by Longest's function; the machine wherever it lies: a walk. -/
namespace Go.Proofs.YtcojnkjcbopnbaaGreatDoor
open Go.RowKit

/-- What walking leaves. -/
def WalkedR (T : List Nat → (Nat → Prop) → World → Prop) (w : World) (l : List Nat) (O : Nat → Prop) (e : Ending) (w' : World) : Prop := e = .returned (.tuple #[]) ∧ ∃ O', T l O' w' ∧ Moved O O' w w'

set_option maxRecDepth 100000 in
set_option maxHeartbeats 4000000 in
theorem walkR (p o start cb at_ : Nat) (ss : List St) (sv : Value) (s : ByteArray) (T : List Nat → (Nat → Prop) → World → Prop) (hT : Teller T)
    (hCall : ∀ (l : List Nat) (O : Nat → Prop) (w : World) (place : Nat), T l O w → l.length ≤ 1000000000000 → Calls Tryz.prog 101 #[.int .i64 place, .pointer (some ⟨cb, 0, none⟩)] w fun e w' => e = .returned (.tuple #[]) ∧ ∃ O', T (l ++ [place]) O' w' ∧ Moved O O' w w')
    (hs : SsOk ss) (hst : start < ss.length) (hat : at_ ≤ s.size) (hsz : s.size ≤ 100000000) (O : Nat → Prop) (w : World) (hm : MchR w p o ss sv start) (ht : T [] O w) (hog : ∀ k, sv.ownBlock = some k → ¬ O k) :
    Calls Tryz.prog 100 #[.pointer (some ⟨p, o, none⟩), .string s, .int .i64 at_, .func (.func 101) #[] #[.pointer (some ⟨cb, 0, none⟩)]] w (WalkedR T w (toldN ss start s at_) O) := by
  obtain ⟨g, cap, rfl, hg0, hg1⟩ := hm.own.form hs.pos
  have hmk := run_make_row' (P := Tryz.prog) 169 3 (.int .i64 0) 8 Tryz.underlying169 info_int3 rfl .i64 .i64 ss.length (by have := hs.few; omega) (by have := hs.few; omega)
  have c0 := hm.c0
  have c1 := hm.c1
  have hn0 : ((ss.length : Int) == 0) = false := beq_eq_false_iff_ne.2 (by have := hs.pos; omega)
  have HS := Lib.hid hs
  have HM := Lib.hid hm
  have HTO := Lib.hid ht
  have HOG := Lib.hid (hog g rfl)
  have HCall := Lib.hid hCall
  have hpw := hm.lt
  clear hs hm ht hog hCall
  go_enter Tryz.func100, Tryz.ntmps100
  go_upto_region 1 with (fail)
  go_region
  obtain ⟨V, hV⟩ : ∃ V, V = ((w.alloc (Obj.cells (madeCells #[Value.int IntKind.i64 0] ss.length) 3)).alloc (Obj.cells #[Value.slice (some ⟨g, 0, none⟩) ss.length cap, Value.int IntKind.i64 s.size, Value.slice (some ⟨w.heap.size, 0, none⟩) ss.length ss.length, Value.slice none 0 0, .func (.func 101) #[] #[.pointer (some ⟨cb, 0, none⟩)]] 174)).drew := ⟨_, rfl⟩
  rw [← hV]
  obtain ⟨P, hP⟩ : ∃ P : Nat → Prop, P = fun k => k < w.heap.size ∧ ¬ O k := ⟨_, rfl⟩
  have hbV : Below w.heap.size w V := by rw [hV]; exact (Below.step (below_new w _) (below_new _ _)).drew
  have hV0 : V.heap[w.heap.size]? = some (.cells (madeCells #[Value.int IntKind.i64 0] ss.length) 3 (0, 0)) := by
    rw [hV]
    exact ((below_new (w.alloc _) _).block w.heap.size (by rw [World.size_alloc]; omega)).trans (heap_alloc_last w _)
  have hV1 : V.heap[w.heap.size + 1]? = some (.cells #[Value.slice (some ⟨g, 0, none⟩) ss.length cap, Value.int IntKind.i64 s.size, Value.slice (some ⟨w.heap.size, 0, none⟩) ss.length ss.length, Value.slice none 0 0, .func (.func 101) #[] #[.pointer (some ⟨cb, 0, none⟩)]] 174 (0, 0)) := by
    rw [hV]
    have := heap_alloc_last (w.alloc (Obj.cells (madeCells #[Value.int IntKind.i64 0] ss.length) 3)) (Obj.cells #[Value.slice (some ⟨g, 0, none⟩) ss.length cap, Value.int IntKind.i64 s.size, Value.slice (some ⟨w.heap.size, 0, none⟩) ss.length ss.length, Value.slice none 0 0, .func (.func 101) #[] #[.pointer (some ⟨cb, 0, none⟩)]] 174)
    rwa [World.size_alloc] at this
  have hmade : madeCells #[Value.int IntKind.i64 0] ss.length = (ints (beginWk ss).seen).toArray := by
    rw [← Array.toArray_toList (xs := madeCells #[Value.int IntKind.i64 0] ss.length), toList_madeCells_one]
    simp [ints, beginWk]
  have MV : WkM V P (w.heap.size + 1) w.heap.size g cap (.func (.func 101) #[] #[.pointer (some ⟨cb, 0, none⟩)]) s.size ss T (beginWk ss) (.slice none 0 0) O := by
    have hlow : ∀ k, O k → k < w.heap.size := fun k hk => hT.lt HTO.out k hk
    refine ⟨hV1, ?_, by simp [beginWk], ?_, World.ownsRow_nil _ _ _ _, hT.keep HTO.out fun k hk => hbV.block k (hlow k hk), ?_, ?_, ?_, ?_, by omega, by simp [Value.ownBlock], by simp [Value.ownBlock], fun k _ => by simp [Value.ownBlock], fun h => by have := hlow _ h; omega, fun h => by have := hlow _ h; omega, fun k hk => by simp [Value.ownBlock] at hk, ?_⟩
    · rw [hV0, hmade]
    · have ho := owns_after HM.out.own hbV
      refine ⟨ho.1, ?_⟩
      rcases ho.2 with h0 | ⟨g', cap', cur, e, _, rest⟩
      · exact Or.inl h0
      · exact Or.inr ⟨g', cap', cur, e, Nat.zero_le _, rest⟩
    · intro k hk; rw [hP] at hk; have := hbV.size; have := hk.1; omega
    · rw [hP]; exact ⟨hg1, HOG.out⟩
    · rw [hP]; intro h; have := h.1; omega
    · rw [hP]; intro h; have := h.1; omega
    · intro k hk; rw [hP] at hk; exact hk.2
  have KV : KeepP P w V := ⟨hbV.os, hbV.tape, hbV.output, hbV.size, fun k hk => by rw [hP] at hk; exact hbV.block k hk.1⟩
  have hub : unseen (beginWk ss).seen (at_ + 1) ≤ 1000 := by
    have h1 := unseen_le (beginWk ss).seen (at_ + 1)
    have h2 : (beginWk ss).seen.length = ss.length := by simp [beginWk]
    have h3 := HS.out.few
    omega
  have HC := Lib.hid (comeL (w.heap.size + 1) w.heap.size g cap cb s.size ss T hT HCall.out HS.out.next at_ (by omega) ss.length P start (beginWk ss) (.slice none 0 0) O V MV hst (Nat.le_trans (unseen_le _ _) (by simp [beginWk])) (by show 0 + _ ≤ _; omega) (by show 0 + _ ≤ _; omega))
  clear hub
  have p0 : V.cell? ⟨p, o, none⟩ = some (.slice (some ⟨g, 0, none⟩) ss.length cap) := (HM.out.after hbV).c0
  have p1 : V.cell? ⟨p, o + 1, none⟩ = some (.int .i64 start) := (HM.out.after hbV).c1
  have HP := Lib.hid hP
  have HKV := Lib.hid KV
  have hnbw : w.heap.size < w.heap.size + 1 := by omega
  clear hV hV0 hV1 hmade MV KV hmk c0 c1 hbV hP
  go_wp2_with fail
  refine HC.out.mono ?_
  rintro e w1 ⟨rfl, wv1, O1, hm1, hk1⟩
  have M1 := Lib.hid hm1
  have K1 := Lib.hid (HKV.out.trans hk1)
  have X1 := Lib.hid ((wkOk_begin ss).come HS.out rfl s.size start at_ hst)
  obtain ⟨x1, hx1⟩ : ∃ x1, x1 = comeN ss s.size ss.length start at_ (beginWk ss) := ⟨_, rfl⟩
  rw [← hx1] at M1 X1
  have HX1 : Hid (toldN ss start s at_ = (walkN ss s (s.size - at_) at_ x1).told) := Lib.hid (by unfold toldN; rw [hx1])
  clear hm1 hk1 hx1 p0 p1 HC
  go_wp2_with fail
  go_loopw [9, 10, 12] (fun nw pl i12 wr => i12 = i12 ∧ ∃ (j : Nat) (x : Wk) (wv : Value) (O' : Nat → Prop), pl = .int .i64 j ∧ at_ ≤ j ∧ j ≤ s.size ∧ Hid (toldN ss start s at_ = (walkN ss s (s.size - j) j x).told) ∧ Hid (WkM wr P (w.heap.size + 1) w.heap.size g cap (.func (.func 101) #[] #[.pointer (some ⟨cb, 0, none⟩)]) s.size ss T x wv O') ∧ Hid (NowOk wr P O' (w.heap.size + 1) w.heap.size wv nw) ∧ Hid (KeepP P w wr) ∧ Hid (WkOk ss x ((j - at_ + 1) * 1000))) (fun _ pl _ _ => s.size - (intOf pl).toNat)
  case atStart =>
    exact ⟨rfl, at_, x1, wv1, O1, rfl, Nat.le_refl _, hat, HX1, M1, Lib.hid ⟨⟨0, [], World.ownsRow_nil _ _ _ _⟩, by simp [Value.ownBlock], by simp [Value.ownBlock], fun k hk => by simp [Value.ownBlock] at hk, fun k _ => by simp [Value.ownBlock], fun k hk => by simp [Value.ownBlock] at hk⟩, K1, Lib.hid (by have := X1.out; simpa using this)⟩
  case round =>
    obtain ⟨_, j, x, wv, O', rfl, hj0, hj, hX, hM, hN, hK, hO⟩ := hrel
    obtain ⟨w0, w1, w2, w3, w4⟩ := hM.out.cells
    have hwv := owns_shape hM.out.wait
    have hne : Hid (x.wait = []) ∨ Hid (x.wait ≠ []) := by
      by_cases e : x.wait = []
      · exact Or.inl (Lib.hid e)
      · exact Or.inr (Lib.hid e)
    by_cases hgo : j < s.size
    · rcases hne with hwt | hwt
      · obtain ⟨av, cv, rfl⟩ : ∃ av cv, wv = .slice av 0 cv := by
          rcases hwv with rfl | ⟨g', c', rfl, _⟩
          · exact ⟨_, _, rfl⟩
          · rw [hwt.out]; exact ⟨_, _, rfl⟩
        clear hwv
        go_wp2_with fail
        go_end0
        refine ⟨rfl, O', ?_, hM.out.moved HP.out hK.out⟩
        rw [hX.out, walkN_stop _ _ _ _ _ hwt.out]
        exact hM.out.told
      · have hpos : 0 < x.wait.length := List.length_pos_iff.2 hwt.out
        have hfew := hO.out.few
        obtain ⟨gw, cw, rfl, hcw⟩ : ∃ gw cw, wv = .slice (some ⟨gw, 0, none⟩) x.wait.length cw ∧ x.wait.length ≤ cw := by
          rcases hwv with rfl | h
          · have := hM.out.wait.1
            rcases hM.out.wait.2 with ⟨_, h0⟩ | ⟨_, _, _, e, _⟩
            · omega
            · cases e
          · exact h
        clear hwv
        have MD := Lib.hid (hM.out.after hT (below_drew wr))
        have ND := Lib.hid (hN.out.after (below_drew wr))
        have hSW := MD.out.swap hT ND.out
        have KD := Lib.hid (hK.out.trans (hM.out.keepAfter (below_drew wr)))
        have hRW : ((wr.drew).setCell ⟨w.heap.size + 1, 3, none⟩ (cutV u9)).ownsRow 0 3 1 (.slice (some ⟨gw, 0, none⟩) x.wait.length cw) x.wait.length (ints x.wait) := ownsRow_setCell_other MD.out.wait (a := ⟨w.heap.size + 1, 3, none⟩) MD.out.ww _
        have SM := Lib.hid hSW.1
        have SK := Lib.hid (KD.out.trans hSW.2)
        have SR := Lib.hid hRW
        have hwk3 := hM.out.z 3
        clear hSW hRW
        go_upto_region 7 with (fail)
        go_cut [9] (fun a wx => a = .slice (some ⟨gw, 0, none⟩) x.wait.length cw ∧ Hid (WkM wx (OrRow P (.slice (some ⟨gw, 0, none⟩) x.wait.length cw)) (w.heap.size + 1) w.heap.size g cap (.func (.func 101) #[] #[.pointer (some ⟨cb, 0, none⟩)]) s.size ss T (clearN x) (cutV u9) O') ∧ Hid (KeepP P w wx) ∧ Hid (wx.ownsRow 0 3 1 (.slice (some ⟨gw, 0, none⟩) x.wait.length cw) x.wait.length (ints x.wait)))
        case first =>
          obtain ⟨n', xs', hr⟩ := hN.out.row
          rcases owns_shape hr with e9 | ⟨gn, cn, e9, hle⟩
          · subst e9
            clear hr
            go_region
            all_goals
              go_wp2_with fail
              go_meet
              exact ⟨rfl, SM, SK, SR⟩
          · subst e9
            clear hr
            go_region
            all_goals
              go_wp2_with fail
              go_meet
              exact ⟨rfl, SM, SK, SR⟩
        case rest =>
          obtain ⟨rfl, hM2, hK2, hR2⟩ := hcut
          have HW := Lib.hid hM.out.ww
          have HNb := Lib.hid hM.out.wnb
          have HWp := Lib.hid hM.out.wp
          have HPg := Lib.hid hM.out.pg
          have I0 := Lib.hid (InOk.clear HS.out hO.out (j + 1 + 1))
          have HGo := Lib.hid (walkN_go ss s j x hwt.out hgo)
          obtain ⟨C, hC⟩ : ∃ C, C = byteN s j := ⟨_, rfl⟩
          have hC8 : C < 256 := by rw [hC]; exact byteN_lt s j
          rw [← hC] at HGo
          have HC := Lib.hid hC
          clear hC SM SK SR MD ND KD hN hM hK hwk3 w0 w1 w2 w3 w4
          go_wp2_with fail
          go_loopw [12, 77] (fun i12 y wq => i12 = i12 ∧ ∃ (k : Nat) (z : Wk) (wv2 : Value) (O2 : Nat → Prop), y = .int .i64 k ∧ k ≤ x.wait.length ∧ Hid (stepN ss s.size C j x.wait (clearN x) = stepN ss s.size C j (x.wait.drop k) z) ∧ Hid (WkM wq (OrRow P (.slice (some ⟨gw, 0, none⟩) x.wait.length cw)) (w.heap.size + 1) w.heap.size g cap (.func (.func 101) #[] #[.pointer (some ⟨cb, 0, none⟩)]) s.size ss T z wv2 O2) ∧ Hid (KeepP P w wq) ∧ Hid (wq.ownsRow 0 3 1 (.slice (some ⟨gw, 0, none⟩) x.wait.length cw) x.wait.length (ints x.wait)) ∧ Hid (InOk ss z ((j - at_ + 1) * 1000) (j + 1 + 1))) (fun _ y _ => x.wait.length - (intOf y).toNat)
          case atStart => exact ⟨rfl, 0, _, _, _, rfl, Nat.zero_le _, Lib.hid rfl, hM2, hK2, hR2, I0⟩
          case round =>
            obtain ⟨_, k, z, wv2, O2, rfl, hk, hZ, hM, hK, hR, hI⟩ := hrel
            by_cases hgk : k < x.wait.length
            · have hin : x.wait[k] < ss.length := hO.out.wait _ (List.getElem_mem hgk)
              obtain ⟨i, hi⟩ : ∃ i, i = x.wait[k] := ⟨_, rfl⟩
              rw [← hi] at hin
              have r0 := hR.out.cellAt k (by omega)
              have hri : (ints x.wait)[k]? = some (.int .i64 (i : Nat)) := by rw [hi]; simp [ints, hgk]
              rw [hri] at r0
              obtain ⟨st, hst2⟩ : ∃ st, st = ss[i] := ⟨_, rfl⟩
              obtain ⟨s0, s1, s2, s3, s4, s5, s6⟩ := hM.out.stCells i hin
              rw [← hst2] at s0 s1 s2 s3 s4 s5 s6
              obtain ⟨w0, w1, w2, w3, w4⟩ := hM.out.cells
              have hmem : st ∈ ss := by rw [hst2]; exact List.getElem_mem hin
              have hstep : stepN ss s.size C j (x.wait.drop k) z = stepN ss s.size C j (x.wait.drop (k + 1)) (oneN ss s.size C j z i) := by
                rw [List.drop_eq_getElem_cons hgk, ← hi]; rfl
              have hone : oneN ss s.size C j z i = if bit st.f C = true then comeN ss s.size ss.length st.nx (j + 1) z else z := by
                unfold oneN; rw [List.getElem?_eq_getElem hin, ← hst2]
              have HZ2 := Lib.hid (hZ.out.trans hstep)
              have HOne := Lib.hid hone
              have HI2 := Lib.hid (hI.out.one HS.out s.size C i)
              have hCe : s[j].toNat = C := by rw [HC.out]; unfold byteN; rw [dif_pos hgo]
              have HHas := Lib.hid (fun w => show Calls Tryz.prog 120 #[.agg (words st.f), .int .u8 (s[j].toNat : Nat)] w (fun e w' => e = .returned (.bool (bit st.f C)) ∧ Below w.heap.size w w') from by
                have h := has_spec st.f (HS.out.fits st hmem) s[j].toNat (by rw [hCe]; exact hC8) w
                rwa [show bit st.f s[j].toNat = bit st.f C by rw [hCe]] at h)
              clear hCe
              obtain ⟨hnx, _⟩ := HS.out.next st hmem
              have HSt := Lib.hid hst2
              clear hri hi hst2 hmem hstep hone hZ
              go_upto_region 11 with (fail)
              go_cut [92] (fun b wx => b = .bool (bit st.f C) ∧ Hid (WkM wx (OrRow P (.slice (some ⟨gw, 0, none⟩) x.wait.length cw)) (w.heap.size + 1) w.heap.size g cap (.func (.func 101) #[] #[.pointer (some ⟨cb, 0, none⟩)]) s.size ss T z wv2 O2) ∧ Hid (KeepP P w wx) ∧ Hid (wx.ownsRow 0 3 1 (.slice (some ⟨gw, 0, none⟩) x.wait.length cw) x.wait.length (ints x.wait)))
              case first =>
                go_region_with ((go_at_call 120; refine (HHas.out _).mono ?_; rintro e w5 ⟨rfl, b5⟩; have b6 := Below.step (below_drew _) b5; have M5 := Lib.hid (hM.out.after hT b6); have K5 := Lib.hid (hK.out.trans (hM.out.keepAfter b6).ofRow); have R5 := Lib.hid (owns_after hR.out b6)))
                all_goals
                  go_wp2_with fail
                  go_meet
                  exact ⟨rfl, M5, K5, R5⟩
              case rest =>
                obtain ⟨rfl, hM5, hK5, hR5⟩ := hcut
                have HR6 := Lib.hid (fun (c : World) (h : KeepP (OrRow P (.slice (some ⟨gw, 0, none⟩) x.wait.length cw)) _ c) => owns_keep h hR5.out)
                clear r0 s0 s1 s2 s3 s4 s5 s6 w0 w1 w2 w3 w4
                obtain ⟨s0, s1, s2, s3, s4, s5, s6⟩ := hM5.out.stCells i hin
                obtain ⟨st2, hst2⟩ : ∃ st2, st2 = ss[i] := ⟨_, rfl⟩
                rw [← hst2] at s0 s1 s2 s3 s4 s5 s6
                obtain rfl : st2 = st := hst2.trans HSt.out.symm
                obtain ⟨w0, w1, w2, w3, w4⟩ := hM5.out.cells
                clear hst2
                cases hb : bit st2.f C with
                | true =>
                  have HCm := Lib.hid (comeL (w.heap.size + 1) w.heap.size g cap cb s.size ss T hT HCall.out HS.out.next (j + 1) (by omega) ss.length (OrRow P (.slice (some ⟨gw, 0, none⟩) x.wait.length cw)) st2.nx z wv2 O2 _ hM5.out hnx (Nat.le_trans (unseen_le _ _) (by rw [hI.out.len]; exact Nat.le_refl _)) (by have := hI.out.wait; omega) (by have := hI.out.told; omega))
                  have e1 : ((j + 1 : Nat) : Int) = (j : Int) + 1 := by omega
                  rw [e1] at HCm
                  have HY := Lib.hid (HOne.out.trans (if_pos hb))
                  clear hb e1
                  go_wp2_with fail
                  refine HCm.out.mono ?_
                  rintro e w6 ⟨rfl, wv3, O3, hm6, hk6⟩
                  have M6 := Lib.hid hm6
                  have K6 := Lib.hid (hK5.out.trans hk6.ofRow)
                  have R6 := Lib.hid (HR6.out _ hk6)
                  rw [HY.out] at HZ2 HI2
                  clear hm6 hk6
                  go_wp2_with fail
                  go_roundw
                  case rel => exact ⟨trivial, k + 1, _, wv3, O3, by go_num, by omega, HZ2, M6, K6, R6, HI2⟩
                  case measure => simp [intOf]; omega
                | false =>
                  have HY := Lib.hid (HOne.out.trans (if_neg (by rw [hb]; decide)))
                  rw [HY.out] at HZ2 HI2
                  clear hb
                  go_wp2_with fail
                  go_roundw
                  case rel => exact ⟨trivial, k + 1, _, wv2, O2, by go_num, by omega, HZ2, hM5, hK5, hR5, HI2⟩
                  case measure => simp [intOf]; omega
            · obtain rfl : k = x.wait.length := by omega
              have hzz : toldN ss start s at_ = (walkN ss s (s.size - (j + 1)) (j + 1) z).told := by
                rw [hX.out, HGo.out, hZ.out, List.drop_length]; rfl
              have HZZ := Lib.hid hzz
              obtain ⟨MB, NB⟩ := hM.out.back HPg.out hR.out HW.out HNb.out HWp.out
              have HMB := Lib.hid MB
              have HNB := Lib.hid NB
              have HOB : Hid (WkOk ss z ((j + 1 - at_ + 1) * 1000)) := Lib.hid (by have h := hI.out.out; rwa [show (j + 1 - at_ + 1) * 1000 = (j - at_ + 1) * 1000 + 1000 by omega])
              clear hzz MB NB hZ
              go_wp2_with fail
              go_roundw
              case rel => exact ⟨trivial, j + 1, z, wv2, O2, by go_num, by omega, by omega, HZZ, HMB, HNB, hK, HOB⟩
              case measure => simp [intOf]; omega
    · obtain rfl : j = s.size := by omega
      clear hwv hne
      go_wp2_with fail
      go_end0
      refine ⟨rfl, O', ?_, hM.out.moved HP.out hK.out⟩
      rw [hX.out, Nat.sub_self]
      exact hM.out.told
end Go.Proofs.YtcojnkjcbopnbaaGreatDoor

/- (*nfa.Prog).Longest and its function: walks. -/
namespace Go.Proofs.YtcojnkjcbopnbaaGreatDoor
open Go.RowKit

/-- The last place told; -1, if there is none. -/
def lastN (l : List Nat) : Int := match l.getLast? with | none => -1 | some k => (k : Nat)
theorem lastN_snoc (l : List Nat) (k : Nat) : lastN (l ++ [k]) = (k : Nat) := by simp [lastN]
/-- The last place told so far, in a captured variable. -/
def TL (cb : Nat) (l : List Nat) (O : Nat → Prop) (w : World) : Prop := One w cb (.int .i64 (lastN l)) 3 ∧ O = fun k => k = cb
theorem teller_L (cb : Nat) : Teller (TL cb) := by
  constructor
  · rintro l O w ⟨h1, rfl⟩ k rfl
    exact h1.lt
  · rintro l O w w' ⟨h1, rfl⟩ hb
    exact ⟨h1.keep (hb cb rfl), rfl⟩

set_option maxRecDepth 100000 in
theorem longestCall (cb : Nat) (l : List Nat) (O : Nat → Prop) (w : World) (place : Nat) (h : TL cb l O w) (_ : l.length ≤ 1000000000000) :
    Calls Tryz.prog 101 #[.int .i64 place, .pointer (some ⟨cb, 0, none⟩)] w fun e w' => e = .returned (.tuple #[]) ∧ ∃ O', TL cb (l ++ [place]) O' w' ∧ Moved O O' w w' := by
  obtain ⟨h1, rfl⟩ := h
  have c0 := h1.c
  have z0 := h1.z
  have HF : Hid (TL cb (l ++ [place]) (fun k => k = cb) (w.setCell ⟨cb, 0, none⟩ (.int .i64 (place : Nat)))) := Lib.hid ⟨by rw [lastN_snoc]; exact h1.set _, rfl⟩
  have HM : Hid (Moved (fun k => k = cb) (fun k => k = cb) w (w.setCell ⟨cb, 0, none⟩ (.int .i64 (place : Nat)))) := Lib.hid ⟨rfl, rfl, rfl, by simp, fun k _ hn => heap_setCell_other w ⟨cb, 0, none⟩ k _ (fun e => hn e), fun k hk => Or.inl hk⟩
  clear h1
  go_enter Tryz.func101, Tryz.ntmps101
  go_wp2_with fail
  go_end0
  exact ⟨rfl, _, HF.out, HM.out⟩

set_option maxRecDepth 100000 in
theorem longR_spec (p o start at_ : Nat) (ss : List St) (sv : Value) (s : ByteArray) (hs : SsOk ss) (hst : start < ss.length) (hat : at_ ≤ s.size) (hsz : s.size ≤ 100000000) (w : World) (hm : MchR w p o ss sv start) :
    Calls Tryz.prog 70 #[.pointer (some ⟨p, o, none⟩), .string s, .int .i64 at_] w fun e w' => e = .returned (.int .i64 (lastN (toldN ss start s at_))) ∧ Below w.heap.size w w' := by
  obtain ⟨W, hW⟩ : ∃ W, W = w.alloc (.cells #[.int .i64 (-1)] 3) := ⟨_, rfl⟩
  have hb : Below w.heap.size w W := by rw [hW]; exact below_new _ _
  have h1 : One W w.heap.size (.int .i64 (-1)) 3 := by rw [hW]; exact one_new _ _ _
  have hT : TL w.heap.size [] (fun k => k = w.heap.size) W := ⟨h1, rfl⟩
  have HC := Lib.hid (walkR p o start w.heap.size at_ ss sv s (TL w.heap.size) (teller_L _) (longestCall w.heap.size) hs hst hat hsz _ W (hm.after hb) hT (fun k hk h => by
    have h' : k = w.heap.size := h
    have := (hm.own.lt _ hk).2
    omega))
  have HB := Lib.hid hb
  have hmf : ∀ (fn : Fn) (first cap : Array Value) (w : World), (Instr.makeFunc fn first cap).run Tryz.prog w = .ok (.func fn first cap) w := fun _ _ _ _ => rfl
  clear hm hs hst hat hsz hb h1 hT
  go_enter Tryz.func70, Tryz.ntmps70
  go_upto_region 2 with (fail)
  rw [← hW]
  clear hW
  go_wp2_with fail
  refine HC.out.mono ?_
  rintro e w1 ⟨rfl, O', ⟨h1, hO⟩, hmv⟩
  have c0 := h1.c
  have HB2 : Hid (Below w.heap.size w w1) := Lib.hid (HB.out.trans ⟨hmv.os, hmv.tape, hmv.output, hmv.size, fun k hk => hmv.block k (by have := HB.out.size; omega) (fun h => by
    have h' : k = w.heap.size := h
    omega)⟩)
  clear h1 hO hmv
  go_wp2_with fail
  go_ret
  exact ⟨rfl, HB2.out⟩
end Go.Proofs.YtcojnkjcbopnbaaGreatDoor
