/- Merged by program: LayTimes, Round. -/
import Derived.OrdersHeld
import Derived.OrdersIn
import Derived.Test.YtimipfdknfdbdaaGreatQsan
/- (*nfa.Prog).layTimes: a walk. -/
namespace Go.Proofs.YtimipfdknfdbdaaGreat
open Go.RowKit

/-- The next state of a state stored anew. -/
theorem Mch.setNext {w : World} {p : Nat} {ss : List St} {g cap : Nat} {st : Int} (h : Mch w p ss (.slice (some ⟨g, 0, none⟩) ss.length cap) st) (i n : Nat) (hi : i < ss.length) :
    Mch (w.setCell ⟨g, i * 7 + 5, none⟩ (.int .i64 n)) p (setNx ss i n) (.slice (some ⟨g, 0, none⟩) ss.length cap) st ∧ Turn p (.slice (some ⟨g, 0, none⟩) ss.length cap) w (w.setCell ⟨g, i * 7 + 5, none⟩ (.int .i64 n)) (.slice (some ⟨g, 0, none⟩) ss.length cap) := by
  have hg : g ≠ p := fun e => by have := (h.own.lt g rfl).1; omega
  have he : setNx ss i n = ss.set i { ss[i] with nx := n } := by unfold setNx; rw [List.getElem?_eq_getElem hi]
  refine ⟨⟨?_, ?_⟩, rfl, rfl, rfl, by simp, fun k _ _ hs => heap_setCell_other w ⟨g, i * 7 + 5, none⟩ k _ (fun e => hs (by rw [e]; rfl)), Or.inl rfl⟩
  · rw [heap_setCell_other w ⟨g, i * 7 + 5, none⟩ p _ (fun e => hg e.symm)]
    exact h.row
  · have := (h.own.stored (i * 7 + 5) (.int .i64 n)).1
    rw [flatS_set ss i hi n] at this
    rw [setNx_len, he]
    exact this

/-- Where the laying of a repetition stands. -/
structure TmI (V w : World) (p : Nat) (sv : Value) (st : Int) (x : Mk) (qs cs : Array Value) : Prop where
  ex : ∃ sv', Mch V p x.2 sv' st ∧ Turn p sv w V sv'
  q : PBox V w.heap.size qs
  part : PBox V (w.heap.size + 1) cs
theorem TmI.step {V V1 w : World} {p : Nat} {sv sv' : Value} {st : Int} {x r : Mk} {qs cs : Array Value} {e : Ending} (h : TmI V w p sv st x qs cs) (hm : Mch V p x.2 sv' st) (ht : Turn p sv w V sv') (hl : Laid V p sv' st r e V1) : TmI V1 w p sv st r qs cs := by
  obtain ⟨sv2, _, hM, hT⟩ := hl
  exact ⟨⟨sv2, hM, ht.trans hT⟩, h.q.turn hm hT, h.part.turn hm hT⟩

theorem tmI_new (w : World) (p : Nat) (sv : Value) (st : Int) (next : Nat) (ss : List St) (qs cs : Array Value) (h : Mch w p ss sv st) : ∃ W, W = (w.alloc (.cells qs 64)).alloc (.cells cs 64) ∧ Hid (TmI W w p sv st (next, ss) qs cs) := by
  refine ⟨_, rfl, Lib.hid ?_⟩
  have b1 := below_new w (.cells qs 64)
  have b2 := below_new (w.alloc (.cells qs 64)) (.cells cs 64)
  have hb := Below.step b1 b2
  have h2 := pbox_new (w.alloc (.cells qs 64)) cs
  rw [World.size_alloc] at h2
  exact ⟨⟨sv, h.after hb, Turn.of hb⟩, (pbox_new w qs).after b2, h2⟩

/-- What laying a part needs to hold. -/
structure TmC (d : Nat) (c : Plan) (cs : Array Value) (S : Nat → Prop) (p : Nat) (ss : List St) (sv : Value) (st : Int) (w : World) : Prop where
  ih : LayIH d
  at_ : PAt w S c cs
  low : ∀ k, S k → k < p
  wf : Wf d c
  m : Mch w p ss sv st
  len : ss.length + (d + 1) * 250000 ≤ 100000000
theorem TmC.call {d : Nat} {c : Plan} {cs : Array Value} {S : Nat → Prop} {p : Nat} {ss : List St} {sv sv' : Value} {st : Int} {w V : World} (h : TmC d c cs S p ss sv st w) {x : Mk} (hm : Mch V p x.2 sv' st) (ht : Turn p sv w V sv') (hl : x.2.length ≤ ss.length + 60000) :
    Calls Tryz.prog 21 #[.pointer (some ⟨p, 0, none⟩), .agg cs, .int .i64 x.1] V (Laid V p sv' st (layN d c x.1 x.2)) := by
  refine h.ih c cs S x.1 p x.2 sv' st V (h.at_.keep fun k hk hlt => ?_) h.low h.wf hm (by have := h.len; omega)
  have h1 := h.low k hk
  exact ht.block k hlt (by omega) (fun e => by have := (h.m.own.lt k e).1; omega)

theorem fork_one (next : Nat) : stC (forkS 0 next) = #[.int .i64 4, .int .u64 0, .int .u64 0, .int .u64 0, .int .u64 0, .int .i64 0, .int .i64 next] := rfl
theorem fork_two (a next : Nat) : stC (forkS a next) = #[.int .i64 4, .int .u64 0, .int .u64 0, .int .u64 0, .int .u64 0, .int .i64 a, .int .i64 next] := rfl

theorem iterN_ge (f : Mk → Mk) (h : ∀ x, x.2.length ≤ (f x).2.length) (j : Nat) (x : Mk) : x.2.length ≤ (iterN f j x).2.length := by
  induction j generalizing x with
  | zero => exact Nat.le_refl _
  | succ j ih => exact Nat.le_trans (h x) (ih (f x))
theorem foldl_ge {α : Type} (f : Mk → α → Mk) (l : List α) (h : ∀ x i, x.2.length ≤ (f x i).2.length) (x : Mk) : x.2.length ≤ (l.foldl f x).2.length := by
  induction l generalizing x with
  | nil => exact Nat.le_refl _
  | cons i r ih => exact Nat.le_trans (h x i) (ih (f x i))
theorem layN_ge (d : Nat) : ∀ (q : Plan) (next : Nat) (ss : List St), ss.length ≤ (layN d q next ss).2.length := by
  induction d with
  | zero => intro q next ss; exact Nat.le_refl _
  | succ d ih =>
    intro q next ss
    unfold layN
    split
    · rw [putN_len]; omega
    · split
      · exact foldl_ge _ _ (fun x i => ih _ _ _) (next, ss)
      · split
        · unfold altN
          split
          · exact Nat.le_refl _
          · refine Nat.le_trans (ih _ next ss) (foldl_ge _ _ (fun x i => ?_) _)
            unfold branchN
            rw [putN_len]
            have := ih q.kids.dropLast[i] next x.2
            omega
        · split
          · split
            · exact Nat.le_refl _
            · rename_i c _ _
              unfold timesN
              refine Nat.le_trans ?_ (iterN_ge _ (fun x => ih _ _ _) _ _)
              refine Nat.le_trans ?_ (iterN_ge _ (fun x => by
                unfold mayN
                rw [putN_len]
                have := ih c x.1 x.2
                omega) _ _)
              split
              · show _ ≤ (Go.Proofs.YtimipfdknfdbdaaGreat.setNx _ _ _).length
                rw [setNx_len]
                have := ih c ss.length (ss ++ [forkS 0 next])
                simp only [List.length_append, List.length_singleton] at this
                omega
              · exact Nat.le_refl _
          · exact Nat.le_refl _

/-- Where a repetition begins to be laid. -/
def initT (lay : Nat → List St → Mk) (hi : Int) (next : Nat) (ss : List St) : Mk := if hi = -1 then ringN lay next ss else (next, ss)
theorem initT_len (d : Nat) (c : Plan) (hw : Wf d c) (hi : Int) (next : Nat) (ss : List St) : (initT (layN d c) hi next ss).2.length ≤ ss.length + 500 := by
  unfold initT
  split
  · show (Go.Proofs.YtimipfdknfdbdaaGreat.setNx _ _ _).length ≤ _
    rw [setNx_len]
    have h1 := layN_len d c ss.length (ss ++ [forkS 0 next]) hw
    have h2 := hw.own.n
    simp only [List.length_append, List.length_singleton] at h1
    omega
  · show ss.length ≤ _
    omega
theorem mayT_len (d : Nat) (c : Plan) (hw : Wf d c) (next j : Nat) (hj : j ≤ 50) (x : Mk) : (iterN (mayN (layN d c) next) j x).2.length ≤ x.2.length + 25000 := by
  have h2 := hw.own.n
  have h1 := iterN_len (mayN (layN d c) next) (c.n + 1) (fun x => by
    have := layN_len d c x.1 x.2 hw
    unfold mayN
    rw [putN_len]
    omega) j x
  have h3 : j * (c.n + 1) ≤ 50 * 500 := Nat.mul_le_mul hj (by omega)
  omega
theorem mustT_len (d : Nat) (c : Plan) (hw : Wf d c) (j : Nat) (hj : j ≤ 50) (x : Mk) : (iterN (fun x : Mk => layN d c x.1 x.2) j x).2.length ≤ x.2.length + 25000 := by
  have h2 := hw.own.n
  have h1 := iterN_len (fun x : Mk => layN d c x.1 x.2) c.n (fun x => layN_len d c x.1 x.2 hw) j x
  have h3 : j * c.n ≤ 50 * 500 := Nat.mul_le_mul hj (by omega)
  omega

set_option maxRecDepth 100000 in
set_option maxHeartbeats 4000000 in
theorem layTimes_spec (d : Nat) (q c : Plan) (cs : Array Value) (S : Nat → Prop) (b cap next p : Nat) (ss : List St) (sv : Value) (st : Int) (w : World) (h9 : Nine w b 0 cs) (hC : TmC d c cs S p ss sv st w)
    (h0 : 0 ≤ q.lo) (h1 : q.lo ≤ 50) (h2 : q.hi = -1 ∨ (q.lo ≤ q.hi ∧ q.hi ≤ 50)) :
    Calls Tryz.prog 39 #[.pointer (some ⟨p, 0, none⟩), .agg (plC q.k q.f q.lo q.hi q.n (.slice (some ⟨b, 0, none⟩) 1 cap)), .int .i64 next] w (Laid w p sv st (timesN (layN d c) q.lo q.hi next ss)) := by
  obtain ⟨sl, e, hs⟩ := hC.at_.open
  obtain ⟨ac, cc, rfl⟩ := hs.shape
  obtain ⟨W, hW, HI⟩ := tmI_new w p sv st next ss (plC q.k q.f q.lo q.hi q.n (.slice (some ⟨b, 0, none⟩) 1 cap)) cs hC.m
  have HC := Lib.hid hC
  have HE := Lib.hid e
  have hb9 : b < w.heap.size := h9.lt hC.at_.size
  have h9' := h9.after hC.at_.size (below_new w (.cells (plC q.k q.f q.lo q.hi q.n (.slice (some ⟨b, 0, none⟩) 1 cap)) 64))
  rw [e] at h9' hW
  obtain ⟨V, hV, hY, hBV, HVs⟩ := pl_box w (plC q.k q.f q.lo q.hi q.n (.slice (some ⟨b, 0, none⟩) 1 cap))
  rw [← hV] at h9' hW
  obtain ⟨q0, q1, q2, q3, q4, q5, q6, q7, q8⟩ := nine_pl hY.out.nine
  obtain ⟨c0, c1, c2, c3, c4, c5, c6, c7, c8⟩ := nine_pl h9'
  clear hs e h9 h9' hC
  go_enter Tryz.func39, Tryz.ntmps39
  go_upto_region 1 with (fail)
  rw [← hV]
  clear hV
  go_upto_region 2 with (fail)
  have hVs : V.heap.size = w.heap.size + 1 := HVs.out
  rw [hVs]
  change Code.wp _ _ _ _ (V.alloc (.cells (plC c.k c.f c.lo c.hi c.n (.slice ac c.kids.length cc)) 64))
  rw [← hW]
  clear hW hVs hY hBV q0 q1 q2 q3 q4 q5 q6 q7 q8 c0 c1 c2 c3 c4 c5 c6 c7 c8
  have HIH := Lib.hid h2
  have hn : q.hi ≤ 50 := by omega
  have hn2 : -1 ≤ q.hi := by omega
  clear h2
  obtain ⟨x0, hx0⟩ : ∃ x0, x0 = initT (layN d c) q.hi next ss := ⟨_, rfl⟩
  have HX0 := Lib.hid hx0
  clear hx0
  obtain ⟨q0, q1, q2, q3, q4, q5, q6, q7, q8⟩ := nine_pl HI.out.q.nine
  go_upto_if 17 with (fail)
  go_cut [8, 9] (fun f g wx => g = g ∧ f = .int .i64 x0.1 ∧ Hid (TmI wx w p sv st x0 (plC q.k q.f q.lo q.hi q.n (.slice (some ⟨b, 0, none⟩) 1 cap)) cs))
  case first =>
    have hp9 := HI.out.part.nine
    rw [HE.out] at hp9
    obtain ⟨c0, c1, c2, c3, c4, c5, c6, c7, c8⟩ := nine_pl hp9
    clear hp9
    by_cases hh : q.hi = -1
    · have hq : (q.hi == -1) = true := beq_iff_eq.2 hh
      obtain ⟨sv0, hM0, hT0⟩ := HI.out.ex
      have HP := Lib.hid (put_spec p ss sv0 st (forkS 0 next) W hM0 (by have := HC.out.len; omega))
      rw [fork_one] at HP
      have HM0 := Lib.hid hM0
      have HT0 := Lib.hid hT0
      have HHH := Lib.hid hh
      clear hM0 hT0 hh
      go_wp2_with fail
      refine HP.out.mono ?_
      rintro e w1 ⟨sv1, rfl, hM1, hT1⟩
      have I1 := Lib.hid (TmI.step (x := (next, ss)) (r := putN ss (forkS 0 next)) HI.out HM0.out HT0.out ⟨sv1, rfl, hM1, hT1⟩)
      have HM1 := Lib.hid hM1
      have HT1 := Lib.hid (HT0.out.trans hT1)
      have hp9 := I1.out.part.nine
      rw [HE.out] at hp9
      clear hM1 hT1 c0 c1 c2 c3 c4 c5 c6 c7 c8
      obtain ⟨c0, c1, c2, c3, c4, c5, c6, c7, c8⟩ := nine_pl hp9
      have HCc := Lib.hid (HC.out.call (x := (ss.length, ss ++ [forkS 0 next])) HM1.out HT1.out (by simp))
      rw [HE.out] at HCc
      clear hp9
      unfold plC at HCc
      go_wp2_with fail
      refine HCc.out.mono ?_
      rintro e w2 ⟨sv2, rfl, hM2, hT2⟩
      have hge := layN_ge d c ss.length (ss ++ [forkS 0 next])
      obtain ⟨y, hy⟩ : ∃ y : Mk, y = layN d c ss.length (ss ++ [forkS 0 next]) := ⟨_, rfl⟩
      rw [← hy] at hM2 hge ⊢
      have hylt : ss.length < y.2.length := by simp only [List.length_append, List.length_singleton] at hge; omega
      obtain ⟨g, cap2, rfl, hg0, hg1⟩ := hM2.own.form (by omega)
      have I2 := I1.out.q.turn HM1.out hT2
      have I3 := I1.out.part.turn HM1.out hT2
      have hset := hM2.setNext ss.length y.1 hylt
      have hTT := (HT1.out.trans hT2).trans hset.2
      have hx : x0 = (ss.length, Go.Proofs.YtimipfdknfdbdaaGreat.setNx y.2 ss.length y.1) := by rw [HX0.out, hy]; unfold initT; rw [if_pos HHH.out]; rfl
      have HB : Hid (TmI (w2.setCell ⟨g, ss.length * 7 + 5, none⟩ (.int .i64 y.1)) w p sv st x0 (plC q.k q.f q.lo q.hi q.n (.slice (some ⟨b, 0, none⟩) 1 cap)) cs) := Lib.hid (by
        rw [hx]
        exact ⟨⟨_, hset.1, hTT⟩, I2.turn hM2 hset.2, I3.turn hM2 hset.2⟩)
      have hx1 : ss.length = x0.1 := by rw [hx]
      have HX1 := Lib.hid hx1
      have m0 := hM2.c0
      have r5 := hM2.own.cellAt (ss.length * 7 + 5) (by omega)
      have z5 := hM2.own.frozenAt (ss.length * 7 + 5)
      rw [flatS_get y.2 ss.length hylt 5 (by omega)] at r5
      have r5' : w2.cell? ⟨g, ss.length * 7 + 5, none⟩ = some (.int .i64 (y.2[ss.length]'hylt).nx) := r5
      clear hM2 hT2 hge hy I2 I3 hset hTT hx hx1 r5 c0 c1 c2 c3 c4 c5 c6 c7 c8
      go_wp2_with fail
      go_meet
      exact ⟨trivial, by rw [← HX1.out], HB⟩
    · have hq : (q.hi == -1) = false := beq_eq_false_iff_ne.2 hh
      have hx : x0 = (next, ss) := by rw [HX0.out]; unfold initT; rw [if_neg hh]
      have HI2 := HI
      rw [← hx] at HI2
      have hx1 : (next : Nat) = x0.1 := by rw [hx]
      have HX1 := Lib.hid hx1
      clear hx hh hx1
      go_wp2_with fail
      go_meet
      exact ⟨trivial, by rw [← HX1.out], HI2⟩
  case rest =>
  obtain ⟨_, rfl, hI⟩ := hcut
  have HL0 := Lib.hid (show x0.2.length ≤ ss.length + 500 by rw [HX0.out]; exact initT_len d c HC.out.wf q.hi next ss)
  clear q0 q1 q2 q3 q4 q5 q6 q7 q8
  obtain ⟨q0, q1, q2, q3, q4, q5, q6, q7, q8⟩ := nine_pl hI.out.q.nine
  go_wp2_with fail
  go_loopw [8, 39] (fun f y wr => ∃ (j : Nat) (x : Mk), y = .int .i64 j ∧ f = .int .i64 x.1 ∧ j ≤ (q.hi - q.lo).toNat ∧ Hid (x = iterN (mayN (layN d c) next) j x0) ∧ Hid (TmI wr w p sv st x (plC q.k q.f q.lo q.hi q.n (.slice (some ⟨b, 0, none⟩) 1 cap)) cs)) (fun _ y _ => (q.hi - q.lo).toNat - (intOf y).toNat)
  case atStart => exact ⟨0, x0, rfl, rfl, by omega, Lib.hid rfl, hI⟩
  case round =>
    obtain ⟨j, x, rfl, rfl, hj, hx, hI⟩ := hrel
    clear q0 q1 q2 q3 q4 q5 q6 q7 q8
    obtain ⟨q0, q1, q2, q3, q4, q5, q6, q7, q8⟩ := nine_pl hI.out.q.nine
    have hj50 : j ≤ 50 := by omega
    have HLx := Lib.hid (show x.2.length ≤ ss.length + 25500 by rw [hx.out]; have h1 := mayT_len d c HC.out.wf next j hj50 x0; have h2 := HL0.out; omega)
    by_cases hgo : j < (q.hi - q.lo).toNat
    · have hgo' : (j : Int) < q.hi - q.lo := by omega
      have hp9 := hI.out.part.nine
      rw [HE.out] at hp9
      obtain ⟨c0, c1, c2, c3, c4, c5, c6, c7, c8⟩ := nine_pl hp9
      clear hp9
      obtain ⟨sv1, hM1, hT1⟩ := hI.out.ex
      have HCc := Lib.hid (HC.out.call hM1 hT1 (by have := HLx.out; omega))
      rw [HE.out] at HCc
      have HM1 := Lib.hid hM1
      have HT1 := Lib.hid hT1
      clear hM1 hT1
      unfold plC at HCc
      go_wp2_with fail
      refine HCc.out.mono ?_
      rintro e w2 ⟨sv2, rfl, hM2, hT2⟩
      have I2 := Lib.hid (hI.out.step HM1.out HT1.out ⟨sv2, rfl, hM2, hT2⟩)
      have hl2 := layN_len d c x.1 x.2 HC.out.wf
      have hl3 := HC.out.wf.own.n
      have HP := Lib.hid (put_spec p _ sv2 st (forkS (layN d c x.1 x.2).1 next) w2 hM2 (by have := HC.out.len; have := HLx.out; omega))
      rw [fork_two] at HP
      have HM2 := Lib.hid hM2
      have HT2 := Lib.hid (HT1.out.trans hT2)
      clear hM2 hT2 hl2 hl3 c0 c1 c2 c3 c4 c5 c6 c7 c8 q0 q1 q2 q3 q4 q5 q6 q7 q8
      go_wp2_with fail
      refine HP.out.mono ?_
      rintro e w3 ⟨sv3, rfl, hM3, hT3⟩
      have I3 : Hid (TmI w3 w p sv st (mayN (layN d c) next x) (plC q.k q.f q.lo q.hi q.n (.slice (some ⟨b, 0, none⟩) 1 cap)) cs) := Lib.hid (I2.out.step HM2.out HT2.out ⟨sv3, rfl, hM3, hT3⟩)
      have hxn : Hid (mayN (layN d c) next x = iterN (mayN (layN d c) next) (j + 1) x0) := Lib.hid (by rw [iterN_succ, ← hx.out])
      clear hM3 hT3
      go_wp2_with fail
      go_roundw
      case rel => exact ⟨j + 1, mayN (layN d c) next x, by go_num, rfl, by omega, hxn, I3⟩
      case measure => simp [intOf]; omega
    · have hgo' : q.hi - q.lo ≤ (j : Int) := by omega
      have hxe : Hid (x = iterN (mayN (layN d c) next) (q.hi - q.lo).toNat x0) := Lib.hid (by rw [hx.out]; congr 1; omega)
      have HJ := Lib.hid hj
      clear hj hx hgo
      go_wp2_with fail
      go_loopw [8, 52] (fun f y wr => ∃ (i : Nat) (z : Mk), y = .int .i64 i ∧ f = .int .i64 z.1 ∧ i ≤ q.lo.toNat ∧ Hid (z = iterN (fun x : Mk => layN d c x.1 x.2) i x) ∧ Hid (TmI wr w p sv st z (plC q.k q.f q.lo q.hi q.n (.slice (some ⟨b, 0, none⟩) 1 cap)) cs)) (fun _ y _ => q.lo.toNat - (intOf y).toNat)
      case atStart => exact ⟨0, x, rfl, rfl, by omega, Lib.hid rfl, hI⟩
      case round =>
        obtain ⟨i, z, rfl, rfl, hi, hz, hI⟩ := hrel
        clear q0 q1 q2 q3 q4 q5 q6 q7 q8
        have HLz := Lib.hid (show z.2.length ≤ ss.length + 50500 by rw [hz.out]; have h1 := mustT_len d c HC.out.wf i (by omega) x; have h2 := HLx.out; omega)
        by_cases hgo : i < q.lo.toNat
        · have hgo2 : (i : Int) < q.lo := by omega
          have hp9 := hI.out.part.nine
          rw [HE.out] at hp9
          obtain ⟨c0, c1, c2, c3, c4, c5, c6, c7, c8⟩ := nine_pl hp9
          clear hp9
          obtain ⟨sv1, hM1, hT1⟩ := hI.out.ex
          have HCc := Lib.hid (HC.out.call hM1 hT1 (by have := HLz.out; omega))
          rw [HE.out] at HCc
          have HM1 := Lib.hid hM1
          have HT1 := Lib.hid hT1
          clear hM1 hT1
          unfold plC at HCc
          go_wp2_with fail
          refine HCc.out.mono ?_
          rintro e w2 ⟨sv2, rfl, hM2, hT2⟩
          have I2 := Lib.hid (hI.out.step HM1.out HT1.out ⟨sv2, rfl, hM2, hT2⟩)
          have hzn : Hid (layN d c z.1 z.2 = iterN (fun x : Mk => layN d c x.1 x.2) (i + 1) x) := Lib.hid (by rw [iterN_succ, ← hz.out])
          clear hM2 hT2 c0 c1 c2 c3 c4 c5 c6 c7 c8
          go_wp2_with fail
          go_roundw
          case rel => exact ⟨i + 1, layN d c z.1 z.2, by go_num, rfl, by omega, hzn, I2⟩
          case measure => simp [intOf]; omega
        · have hgo2 : q.lo ≤ (i : Int) := by omega
          have hze : z = timesN (layN d c) q.lo q.hi next ss := by
            rw [hz.out, show i = q.lo.toNat by omega, hxe.out, HX0.out]
            rfl
          have HZ := Lib.hid hze
          clear hze hz hgo
          go_wp2_with fail
          go_ret
          obtain ⟨sv', hM, hT⟩ := hI.out.ex
          exact ⟨sv', by rw [← HZ.out]; rfl, by rw [← HZ.out]; exact hM, hT⟩
end Go.Proofs.YtimipfdknfdbdaaGreat

/- A drawn region in a round of a range over a function, a state being held. -/
namespace Go.Proofs.YtimipfdknfdbdaaGreat
open Go.RowKit Go.Shelf

section
variable {P : Program} {ops : Array Oper} {Q : Exit → Act → World → Prop} {md : Region.Mode} {S : World → Prop}
theorem depth_none {n : Nat} (l : Nat) (h : (Fence.wide.inRound l).depth.isSome = true) : 1 ≤ n := by simp [Fence.wide] at h
def noDefer (o : Oper) : Bool := match o.op with | .defer _ => false | _ => true
theorem noDefer_spec {i : Nat} {o : Oper} (h : ops.all noDefer = true) (he : ops[i]? = some o) : ∀ c, o.op ≠ .defer c := by
  intro c e
  rw [Array.all_eq_true_iff_forall_mem] at h
  have := h o (Array.mem_of_getElem? he)
  unfold noDefer at this
  rw [e] at this
  cases this
theorem oper_round {l n : Nat} {o : Oper} {a : Act} {w : World} {next : Act → World → Prop} (hd : ∀ c, o.op ≠ .defer c) (h : o.wp P a w next Q) : o.wpIn (Fence.wide.inRound l) n P a w next Q := by
  unfold Oper.wpIn
  refine ⟨fun _ _ => trivial, ?_⟩
  rw [Oper.semAt_plain _ _ _ hd]
  unfold Oper.wp at h
  generalize (execOp a.eval o).run P w = r at h ⊢
  cases r with
  | ok x w' =>
    cases x <;> simp only [Oper.upon, Oper.uponIn] at h ⊢ <;>
      first
        | exact h
        | exact ⟨depth_none l, CallsIn.inRound l (callsIn_wide.2 h)⟩
        | exact ⟨depth_none l, fun c cs _ => let ⟨v, w2, r, s⟩ := h c cs; ⟨v, w2, r, stepsIn_wide.2 s⟩⟩
  | halt x w' => cases x <;> simp only [Oper.upon, Oper.uponIn] at h ⊢ <;> exact h
theorem wpAny_round {l n : Nat} (hd : ops.all noDefer = true) (hlo : ¬ LetsOut Q) : ∀ (fuel : Nat) (listed : Array Bool) (a : Act) (w : World), wpAny P md ops Q fuel listed a w → wpAnyIn (Fence.wide.inRound l) n P md ops Q fuel listed a w := by
  intro fuel
  induction fuel with
  | zero => intro listed a w h; exact h
  | succ fuel ih =>
    intro listed a w h
    refine ⟨h.1, fun i hi => ?_⟩
    have h2 := h.2 i hi
    unfold wpOp at h2
    unfold wpOpIn
    split
    · rename_i he; rw [he] at h2; exact ih _ _ _ h2
    · rename_i o he
      rw [he] at h2
      simp only at h2
      split
      · rename_i hw
        rw [if_pos hw] at h2
        rcases h2 with h2 | ⟨_, h2⟩
        · exact oper_round (noDefer_spec hd he) (Oper.wp_mono (fun a w => ih _ a w) h2)
        · exact absurd h2 hlo
      · rename_i hw
        rw [if_neg hw] at h2
        exact ⟨fun _ _ => trivial, ih _ _ _ h2⟩
/-- The region's law. -/
theorem region_round {l n id : Nat} {a : Act} {w : World} (hm : P.follows .mixedOrders = true) (hd : ops.all noDefer = true) (hlo : ¬ LetsOut Q)
    (h : wpAnyH P .any ops Q S ops.size (Array.replicate ops.size false) a w.drew) : (Code.region id ops true).wpIn (Fence.wide.inRound l) n P Q a w :=
  wpIn_region_any hm (wpAny_round hd hlo _ _ _ _ (wpAny_of_held _ _ _ _ h))
/-- A region that ends calmly. -/
theorem region_calm {n id : Nat} {b : Bool} {a : Act} {w : World} {K : Act → World → Prop} {Q' : Exit → Act → World → Prop} (h : (Code.region id ops b).wp P (Exit.then K (fun _ _ _ => False)) a w) : (Code.region id ops b).wpIn Fence.wide n P (Exit.then K Q') a w :=
  wpIn_wide.2 (wp_mono h (fun e a w h => by cases e <;> first | exact h | exact h.elim))
/-- An operation of a drawn region that its guard wants, taken first. -/
theorem takeW {i d : Nat} {oi : Oper} {v : Value} {fuel : Nat} {listed : Array Bool} {a : Act} {w : World} (hi : ops[i]? = some oi) (hd : oi.dst = some d)
    (hs : Region.noSelect ops = true) (hf : Region.free md ops listed i = true) (hr : (Region.ready md ops listed).contains i = true)
    (hQ : ∀ c a w, Q (.panic c) (a.put (some d) v) w → Q (.panic c) a w) (hw : Region.wanted oi (yielded ops a.tmps) = true) (hx : ∀ w, S w → (execOp a.eval oi).run P w = .ok (.value v) w) (hS : S w)
    (h : wpAnyH P md ops Q S fuel (listed.setIfInBounds i true) ⟨a.tmps.setIfInBounds d v, a.defers⟩ w) : wpAnyH P md ops Q S (fuel + 1) listed a w :=
  wpAnyH_take hi hs hf hr (by rw [hd]; exact hQ) (Or.inl ⟨hw, hx⟩) hS (by rw [hd]; exact h)
/-- The one operation that may come up. -/
theorem onlyW {i : Nat} {oi : Oper} {fuel : Nat} {listed : Array Bool} {a : Act} {w : World} (hi : ops[i]? = some oi) (hr : Region.ready md ops listed = [i]) (hw : Region.wanted oi (yielded ops a.tmps) = true)
    (h : oi.wp P a w (fun a' w' => S w' ∧ wpAnyH P md ops Q S fuel (listed.setIfInBounds i true) a' w') Q) : wpAnyH P md ops Q S (fuel + 1) listed a w := by
  refine wpAnyH_all hr (by simp) fun j hj => ?_
  rw [List.mem_singleton.1 hj]
  unfold wpOp
  rw [hi]
  simp only
  rw [if_pos hw]
  exact Or.inl h
end
end Go.Proofs.YtimipfdknfdbdaaGreat
