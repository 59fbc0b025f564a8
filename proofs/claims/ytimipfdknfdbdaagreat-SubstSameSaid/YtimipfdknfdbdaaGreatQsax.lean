/- Merged by program: All7, New7, Writer. -/
import Derived.RangeFuncBox
import Derived.Test.YtimipfdknfdbdaaGreatQsaw
import Derived.Test.YtimipfdknfdbdaaGreatQsan
import Derived.Test.YtimipfdknfdbdaaGreatQsat
import Derived.Test.YtimipfdknfdbdaaGreatQsag
/- (*match.Pattern).All: a walk. -/
namespace Go.Proofs.YtimipfdknfdbdaaGreat
open Go.RowKit Go.Shelf
attribute [local go_sem] Oper.semAt_some

/-- Parts as a row of numbers. -/
def pairs (l : List (Nat × Nat)) : List Value := l.flatMap fun x => [.int .i64 (x.1 : Nat), .int .i64 (x.2 : Nat)]
theorem pairs_snoc (l : List (Nat × Nat)) (x : Nat × Nat) : pairs (l ++ [x]) = pairs l ++ [.int .i64 (x.1 : Nat), .int .i64 (x.2 : Nat)] := by simp [pairs]
theorem pairs_len (l : List (Nat × Nat)) : (pairs l).length = l.length * 2 := by
  induction l with
  | nil => rfl
  | cons x r ih =>
    show ([_, _] ++ pairs r).length = _
    rw [List.length_append, ih]
    simp
    omega
theorem pairs_get (l : List (Nat × Nat)) (i : Nat) (hi : i < l.length) : (pairs l)[i * 2]? = some (.int .i64 (l[i].1 : Nat)) ∧ (pairs l)[i * 2 + 1]? = some (.int .i64 (l[i].2 : Nat)) := by
  induction l generalizing i with
  | nil => exact absurd hi (by simp)
  | cons x r ih =>
    cases i with
    | zero => exact ⟨rfl, rfl⟩
    | succ i =>
      have := ih i (by simpa using hi)
      rw [show (i + 1) * 2 = i * 2 + 2 by omega]
      exact this
theorem info_pair3 : (Tryz.prog.info? 54).map (fun i => (i.zero, i.size, i.bytes)) = some (some (.agg #[.int .i64 0, .int .i64 0]), 2, 16) := by kernel_rfl

/-- Where the collecting of parts stands. -/
structure AllI (V w : World) (pp : Nat) (s : ByteArray) (pre : List (Nat × Nat)) : Prop where
  ex : ∃ v, Boxed V w.heap.size 30 v ∧ V.ownsRow w.heap.size 54 2 v pre.length (pairs pre)
  bp : One V (w.heap.size + 1) (.pointer (some ⟨pp, 0, none⟩)) 24
  bs : One V (w.heap.size + 2) (.string s) 9
  below : Below w.heap.size w V
theorem AllI.grow {V V' w : World} {row : Option Nat} {pp : Nat} {s : ByteArray} {pre : List (Nat × Nat)} {C : Nat} (h : AllI V w pp s pre) (hC : w.heap.size ≤ C) (hg : V.grownBy V' row) (hr : ∀ r, row = some r → C ≤ r ∧ ∃ o : Obj, V.heap[r]? = some o ∧ o.isCells = false) : AllI V' w pp s pre := by
  obtain ⟨⟨v, h1, h2⟩, h3, h4, h5⟩ := h
  refine ⟨⟨v, h1.kept hg (cells_ne hr h1), h2.kept hg ?_⟩, h3.grow hg hr, h4.grow hg hr, ⟨hg.os.trans h5.os, hg.tape.trans h5.tape, hg.output.trans h5.output, Nat.le_trans h5.size hg.size, fun k hk => (hg.block k (Nat.lt_of_lt_of_le hk h5.size) (fun e => by have := (hr k e.symm).1; omega)).trans (h5.block k hk)⟩⟩
  rcases h2.2 with ⟨rfl, _⟩ | ⟨g, cap, cur, rfl, _, hgg, _⟩
  · exact Or.inl rfl
  · exact Or.inr (cells_ne hr hgg)

set_option maxRecDepth 100000 in
set_option maxHeartbeats 4000000 in
theorem all_spec (pp start : Nat) (t s : ByteArray) (ss : List St) (sv : Value) (hs : SsOk ss) (hst : start < ss.length) (hsz : s.size ≤ 100000000) (w : World) (hm : PatM w pp t ss sv start) (hlen : (allN (longN ss start s) s.size).length ≤ 1000000000) :
    Calls Tryz.prog 8 #[.pointer (some ⟨pp, 0, none⟩), .string s] w fun e w' => ∃ v, e = .returned v ∧ w'.ownsRow w.heap.size 54 2 v (allN (longN ss start s) s.size).length (pairs (allN (longN ss start s) s.size)) ∧ Below w.heap.size w w' := by
  obtain ⟨l, hl⟩ : ∃ l, l = allN (longN ss start s) s.size := ⟨_, rfl⟩
  obtain ⟨W, hW⟩ : ∃ W, W = ((w.alloc (.cells #[.slice none 0 0] 30)).alloc (.cells #[.pointer (some ⟨pp, 0, none⟩)] 24)).alloc (.cells #[.string s] 9) := ⟨_, rfl⟩
  have s1 : (w.alloc (.cells #[.slice none 0 0] 30)).heap.size = w.heap.size + 1 := World.size_alloc _ _
  have s2 : ((w.alloc (.cells #[.slice none 0 0] 30)).alloc (.cells #[.pointer (some ⟨pp, 0, none⟩)] 24)).heap.size = w.heap.size + 2 := by rw [World.size_alloc, s1]
  have hbW : Below w.heap.size w W := by rw [hW]; exact Below.step (Below.step (below_new _ _) (below_new _ _)) (below_new _ _)
  have hszW : W.heap.size = w.heap.size + 3 := by rw [hW, World.size_alloc, s2]
  have hI0 : AllI W w pp s [] := by
    refine ⟨⟨_, ?_, World.ownsRow_nil _ _ _ _⟩, ?_, ?_, hbW⟩
    · rw [hW]; exact ((Boxed.new w _ _).alloc _).alloc _
    · have h := (one_new (w.alloc (.cells #[.slice none 0 0] 30)) (.pointer (some ⟨pp, 0, none⟩)) 24).after (below_new _ (.cells #[.string s] 9))
      rw [s1] at h
      rw [hW]; exact h
    · have h := one_new ((w.alloc (.cells #[.slice none 0 0] 30)).alloc (.cells #[.pointer (some ⟨pp, 0, none⟩)] 24)) (.string s) 9
      rw [s2] at h
      rw [hW]; exact h
  have HI0 := Lib.hid hI0
  have HS := Lib.hid hs
  have HSt := Lib.hid hst
  have HM := Lib.hid (hm.after hbW)
  have HLow := Lib.hid hm.low
  have HBW := Lib.hid hbW
  have HLen := Lib.hid (hl ▸ hlen)
  rw [← hl]
  have HL := Lib.hid hl
  clear hs hst hm hl hI0 hbW hlen
  refine (callsIn_wide (n := 8)).1 ?_
  refine callsIn_of_wp_marks Tryz.func8 rfl trivial ?_ rfl
  simp only [Tryz.ntmps8, List.size_toArray, List.length_cons, List.length_nil, Nat.reduceAdd, Nat.reduceSub, Array.replicate_succ, Array.replicate_zero, List.push_toArray, List.append_toArray, List.nil_append, List.cons_append]
  gi_wp2_with fail
  refine ⟨trivial, ?_⟩
  refine (parts_in pp s _ _).mono ?_
  rintro e w' ⟨rfl, rfl⟩
  gi_wp2_with fail
  rw [← hW]
  clear hW s1 s2
  refine wpIn_rangeFunc_ownH rfl (by decide) (gf := 27) (lb := #[.pointer (some ⟨w.heap.size + 1, 0, none⟩), .pointer (some ⟨w.heap.size + 1 + 1, 0, none⟩)]) rfl trivial (enters_of Tryz.func27 (by kernel_rfl) rfl)
    (parts_stops (8 - 1) (by decide) pp start (w.heap.size + 1) (w.heap.size + 1 + 1) t s ss sv HS.out HSt.out hsz W HM.out HI0.out.bp HI0.out.bs) KeepS.trans (KeepS.put (by
      rintro k (hk | rfl | rfl)
      · have := HLow.out k hk; omega
      · omega
      · omega)) (Below.refl _ _) (fun _ => rfl)
    (fun pre V => AllI V w pp s pre)
    (fun _ _ _ => False)
    (fun _ _ _ _ hs hg hr => hs.grow (by omega) hg hr)
    (fun _ _ _ _ _ hs _ _ => hs)
    HI0.out
    (fun x a' V => a' = { tmps := #[.pointer (some ⟨pp, 0, none⟩), .string s, undef, undef, .slice none 0 0, .pointer (some ⟨w.heap.size, 0, none⟩), .int .i64 (x.1 : Nat), .int .i64 (x.2 : Nat), .pointer (some ⟨pp, 0, none⟩), .string s, .func (.func 27) #[] #[.pointer (some ⟨w.heap.size + 1, 0, none⟩), .pointer (some ⟨w.heap.size + 1 + 1, 0, none⟩)], .int .i64 (x.1 : Nat), .int .i64 (x.2 : Nat), undef, undef, undef, undef, undef, undef, undef], defers := [] })
    (fun _ _ _ _ _ _ hs _ _ => hs) ?assign ?body ?done ?stop
  case assign =>
    intro l' pre x V K hI hK
    have HK := Lib.hid hK
    have HI := Lib.hid hI
    clear hK hI
    gi_wp2
    exact HK.out _ _ (KeepsFrom.refl _ _) (KeepS.refl _ _) HI.out rfl
  case body =>
    rintro l' pre x a' V hl' ⟨r, hr⟩ hI rfl hlt
    obtain ⟨⟨v, hbx, hrow⟩, hbp, hbs, hb⟩ := hI
    have c0 := hbx.cell
    obtain ⟨i0, hi0', hz0, hz1, hz2⟩ := info_parts info_pair3
    have hsv := hb.size
    have hdl : Hid (pre.length + 1 ≤ 1000000000) := Lib.hid (by have := HLen.out; rw [← HL.out] at hlt; omega)
    have HBx := Lib.hid hbx
    have HRow := Lib.hid hrow
    have HBp := Lib.hid hbp
    have HBs := Lib.hid hbs
    have HB := Lib.hid hb
    have HNew : Hid (∀ j u, [Value.int .i64 (x.1 : Nat), .int .i64 (x.2 : Nat)][j]? = some u → (V.alloc (.cells #[.int .i64 (x.1 : Nat), .int .i64 (x.2 : Nat)] 54)).cell? (Addr.add ⟨V.heap.size, 0, none⟩ j) = some u) := Lib.hid (by
      intro j u hj
      have e : (⟨V.heap.size, 0, none⟩ : Addr).add j = ⟨V.heap.size, j, none⟩ := by unfold Addr.add; split <;> simp_all
      rw [e]
      exact (cell_of_row _ _ j _ _ _ (heap_alloc_last V _)).trans (by simpa using hj))
    clear hbx hrow hbp hbs hb
    gi_wp2_with (gi_at_builtin; refine wpListIn_append_own _ rfl _ _ 30 rfl w.heap.size 54 i0 (.agg #[.int .i64 0, .int .i64 0]) 2 16 Tryz.underlying30 hi0' hz0 hz1 hz2 rfl (by decide) _ _ _ rfl (owns_after HRow.out (below_new V _)) ⟨V.heap.size, 0, none⟩ 1 1 [.int .i64 (x.1 : Nat), .int .i64 (x.2 : Nat)] rfl rfl HNew.out ?c1 ?c2 ?c3 ?c4 ?_)
    case c1 => intro u hu; simp at hu; rcases hu with rfl | rfl <;> rfl
    case c2 => have := hdl.out; unfold maxLen; omega
    case c3 => have := hdl.out; omega
    case c4 => rw [World.size_alloc]; omega
    intro v' w1 hown hgrow _
    obtain ⟨gv, cv, rfl⟩ := ownsRow_succ hown
    have hap := HBx.out.appended (by decide) HRow.out hsv (Nat.le_refl _) hown hgrow
    obtain ⟨hb1, hb2, hr2, hko, hbl⟩ := hap
    have z0 := hb1.frozen
    have k0 := hb1.cell
    have HF : Hid (AllI (w1.setCell ⟨w.heap.size, 0, none⟩ (.slice (some ⟨gv, 0, none⟩) (pre.length + 1) cv)) w pp s (pre ++ [x])) := Lib.hid (by
      have other : ∀ {b : Nat} {u : Value} {ty : TypeId}, One V b u ty → ty ≠ 54 → b ≠ w.heap.size → One (w1.setCell ⟨w.heap.size, 0, none⟩ (.slice (some ⟨gv, 0, none⟩) (pre.length + 1) cv)) b u ty := fun h ht hne => by
        have h1 : Boxed w1 _ _ _ := Boxed.kept (Boxed.alloc (show Boxed V _ _ _ from h.row) _) hgrow (Boxed.not_row (show Boxed V _ _ _ from h.row) ht HRow.out)
        exact (One.mk h1).setOther hne 0 _
      refine ⟨⟨_, hb2, by rw [List.length_append, pairs_snoc]; exact hr2⟩, other HBp.out (by decide) (by omega), other HBs.out (by decide) (by omega), HB.out.trans hbl⟩)
    have HKS : Hid (KeepS (PartS pp sv (w.heap.size + 1) (w.heap.size + 1 + 1)) V (w1.setCell ⟨w.heap.size, 0, none⟩ (.slice (some ⟨gv, 0, none⟩) (pre.length + 1) cv))) := Lib.hid ⟨by
      rintro k (hk | rfl | rfl)
      · exact hbl.block k (HLow.out k hk)
      · exact HF.out.bp.row.trans HBp.out.row.symm
      · exact HF.out.bs.row.trans HBs.out.row.symm⟩
    have HKO := Lib.hid hko
    clear hb1 hb2 hr2 hko hbl hown hgrow
    gi_wp2_with fail
    exact ⟨HKO.out.from _, HKS.out, HF.out⟩
  case done =>
    rintro D ys V hD rfl hI hK
    have HD := Lib.hid hK
    obtain ⟨⟨v, hbx, hrow⟩, hbp, hbs, hb⟩ := hI
    have c1 := hbx.cell
    have HI : Hid (AllI V w pp s _) := Lib.hid ⟨⟨v, hbx, hrow⟩, hbp, hbs, hb⟩
    have HRow := Lib.hid hrow
    clear hbx hrow hbp hbs hb hK
    dsimp only
    gi_wp2
    refine ⟨by simp, .inl ⟨_, _, rfl, run_takeDeferred HD.out, ?_⟩⟩
    refine ⟨_, results_tmp rfl _ _ _, ?_⟩
    have hf := HI.out.grow (C := W.heap.size) (by omega) (grownBy_putObj' V D (.deferred none)) (fun r e => by cases e; exact ⟨hD, _, HD.out, rfl⟩)
    refine ⟨v, rfl, ?_, hf.below⟩
    rw [HL.out]
    exact ownsRow_putObj HRow.out _ HD.out rfl
  case stop =>
    rintro D c pre V _ _ h _
    exact h.elim
end Go.Proofs.YtimipfdknfdbdaaGreat

/- match.New: a walk. -/
namespace Go.Proofs.YtimipfdknfdbdaaGreat
open Go.RowKit

/-- What New tells. -/
def NewOut (w : World) (s : ByteArray) (Q : Tree → Int → Prop) (R : Bool → Prop) (e : Ending) (w' : World) : Prop :=
  ∃ t x, Q t x ∧ Below w.heap.size w w' ∧ ((x ≠ 0 ∧ ∃ a : Int, e = .returned (.tuple #[.pointer none, .int .i64 a, .int .i64 x])) ∨
    (x = 0 ∧ (R false ∨ 500 ≤ (planN 101 t).n) ∧ ∃ y : Int, y ≠ 0 ∧ e = .returned (.tuple #[.pointer none, .int .i64 0, .int .i64 y])) ∨
    (x = 0 ∧ R true ∧ (planN 101 t).n < 500 ∧ Good 101 (-1) t ∧ ∃ pp sv, e = .returned (.tuple #[.pointer (some ⟨pp, 0, none⟩), .int .i64 0, .int .i64 0]) ∧ w.heap.size ≤ pp ∧ PatM w' pp s (machN t).2 sv (machN t).1))

set_option maxRecDepth 100000 in
set_option maxHeartbeats 1000000 in
theorem new_gen (s : ByteArray) (Q : Tree → Int → Prop) (R : Bool → Prop) (w : World)
    (hP : Calls Tryz.prog 10 #[.string s] w fun e w' => ∃ t ds, ∃ a x : Int, e = .returned (.tuple #[.agg ds, .int .i64 a, .int .i64 x]) ∧ At w' (Up w.heap.size) t ds ∧ Hid (Q t x) ∧ Below w.heap.size w w')
    (hB : ∀ t x, Q t x → x = 0 → ∀ rs B W, At W B t rs → Calls Tryz.prog 11 #[.agg rs] W (BuildOut W t R)) :
    Calls Tryz.prog 6 #[.string s] w (NewOut w s Q R) := by
  have HP := Lib.hid hP
  have HB := Lib.hid hB
  have HI := info_re
  clear hP hB
  go_enter Tryz.func6, Tryz.ntmps6
  go_wp2_with fail
  refine HP.out.mono ?_
  rintro e w1 ⟨t, ds, pa, px, rfl, hat, hq, b1⟩
  obtain ⟨a, c, e, _⟩ := hat.opens
  subst e
  have HAT := Lib.hid hat
  have B1 := Lib.hid b1
  clear hat b1
  unfold reC
  go_upto_region 2 with (fail)
  obtain ⟨W, hW, hX, hB1, _⟩ := re_box w1 (reC t.k t.f t.lo t.hi (.slice a t.kids.length c))
  change Code.wp _ _ _ _ (w1.alloc (Obj.cells (reC t.k t.f t.lo t.hi (.slice a t.kids.length c)) 38))
  rw [← hW]
  clear hW
  have A2 := Lib.hid (HAT.out.after hB1.out)
  have B2 := Lib.hid (Below.step B1.out hB1.out)
  by_cases hx : px = 0
  rotate_left
  · have hx2 : (px == 0) = false := beq_eq_false_iff_ne.2 hx
    have HX := Lib.hid hx; clear hx
    go_wp2_with fail
    go_ret3
    exact ⟨t, px, hq.out, B2.out, Or.inl ⟨HX.out, pa, rfl⟩⟩
  · subst hx
    have HC := Lib.hid (HB.out t 0 hq.out rfl _ _ W A2.out)
    clear HB
    obtain ⟨c0, c1, c2, c3, c4, c5, c6, c7⟩ := eight_re hX.out.eight
    unfold reC at HC
    go_wp2_with fail
    refine HC.out.mono ?_
    rintro e w2 ⟨b, hb, ⟨rfl, rfl, b2⟩ | ⟨rfl, hn, rfl, b2⟩ | ⟨rfl, hn, hg, p, sv, rfl, hp, hm, b2⟩⟩
    · have HR := Lib.hid hb
      have B3 := Lib.hid (Below.step B2.out b2)
      clear hb b2 c0 c1 c2 c3 c4 c5 c6 c7
      go_wp2_with fail
      go_ret3
      exact ⟨t, 0, hq.out, B3.out, Or.inr (Or.inl ⟨rfl, Or.inl HR.out, 1, by decide, rfl⟩)⟩
    · have HN := Lib.hid hn
      have B3 := Lib.hid (Below.step B2.out b2)
      clear hb hn b2 c0 c1 c2 c3 c4 c5 c6 c7
      go_wp2_with fail
      go_ret3
      exact ⟨t, 0, hq.out, B3.out, Or.inr (Or.inl ⟨rfl, Or.inr HN.out, 2, by decide, rfl⟩)⟩
    · have HR := Lib.hid hb
      have HN := Lib.hid hn
      have HG := Lib.hid hg
      have HM := Lib.hid hm
      have B3 := Lib.hid (Below.step B2.out b2)
      obtain ⟨st, hst⟩ : ∃ st, st = (machN t).1 := ⟨_, rfl⟩
      obtain ⟨ss, hss⟩ : ∃ ss, ss = (machN t).2 := ⟨_, rfl⟩
      rw [← hst, ← hss] at HM
      have m0 := HM.out.c0; have m1 := HM.out.c1
      obtain ⟨ga, gc, rfl⟩ := HM.out.shape
      have hww := B3.out.size
      have HSt := Lib.hid hst
      have HSs := Lib.hid hss
      clear hb hn hg hm b2 c0 c1 c2 c3 c4 c5 c6 c7 hst hss
      go_wp2_with fail
      go_ret3
      have hbn := below_new w2 (.cells #[.string s, .slice ga ss.length gc, .int .i64 st] 48)
      refine ⟨t, 0, hq.out, Below.step B3.out hbn, Or.inr (Or.inr ⟨rfl, HR.out, HN.out, HG.out, w2.heap.size, .slice ga ss.length gc, rfl, hww, ?_⟩)⟩
      rw [← HSt.out, ← HSs.out]
      refine ⟨heap_alloc_last w2 _, ?_⟩
      have ho := owns_after HM.out.own hbn
      refine ⟨ho.1, ?_⟩
      rcases ho.2 with h0 | ⟨g', cap', cur, e, _, rest⟩
      · exact Or.inl h0
      · exact Or.inr ⟨g', cap', cur, e, Nat.zero_le _, rest⟩
end Go.Proofs.YtimipfdknfdbdaaGreat

/- strings.Builder's WriteString, Reset: walks; a builder that holds bytes. -/
namespace Go.Proofs.YtimipfdknfdbdaaGreat
open Go.RowKit

theorem byteCells_snoc (l : List UInt8) (c : UInt8) : Lib.byteCells (l ++ [c]) = Lib.byteCells l ++ [.int .u8 (c.toNat : Int)] := by simp [Lib.byteCells]
set_option maxHeartbeats 2000000 in
set_option maxRecDepth 100000 in
theorem writeString_k (B b : Nat) (bs : List Value) (s : ByteArray) (w : World) (h : Lib.IsBuilderF 75 5 B b bs w) (hlen : bs.length + s.size ≤ 140737488355328) (hBw : B ≤ w.heap.size) :
    Calls Tryz.prog 24 #[.pointer (some ⟨b, 0, none⟩), .string s] w fun e w' => e = .returned (.tuple #[.int .i64 s.size, .nilIface]) ∧ (Lib.BuilderAtF 75 5 B b (.pointer (some ⟨b, 0, none⟩)) (bs ++ Lib.strCells s) w' ∧ Below B w w' ∧ Lib.OthersKept 5 (some b) w w') := by
  obtain ⟨i0, hi, hz0, hz1, hz2⟩ := info_parts info_byte
  go_enter Tryz.func24, Tryz.ntmps24
  go_wp2_with (go_at_call 43; refine (copyCheck_k B b bs _ h).mono ?_)
  rintro e w1 ⟨rfl, h1, hb1, hk1⟩
  obtain ⟨hB, v, hbk, hown, hne⟩ := h1
  have c0 : w1.cell? ⟨b, 0, none⟩ = some (.pointer (some ⟨b, 0, none⟩)) := by rw [Lib.cell_of_heap hbk]; rfl
  have c1 : w1.cell? ⟨b, 1, none⟩ = some v := by rw [Lib.cell_of_heap hbk]; rfl
  have hs1 := hb1.size
  go_wp2_with (at_builtin; refine Lib.wpList_append_own_stringF _ rfl _ _ 73 9 rfl B 5 i0 Tryz.underlying73 Tryz.underlying9 hi hz0 hz1 hz2 _ _ _ rfl hown s rfl ?c1 hlen ?c2 ?_)
  case c1 => unfold maxLen; omega
  case c2 => omega
  intro v' w2 hown' hgrow hnil
  have hlt : b < w1.heap.size := by
    rcases Nat.lt_or_ge b w1.heap.size with h' | h'
    · exact h'
    · simp [Array.getElem?_eq_none h'] at hbk
  have hb2 : w2.heap[b]? = some (.cells #[.pointer (some ⟨b, 0, none⟩), v] 75 (0, 0)) := by
    rw [hgrow.block b hlt (fun e => hne e.symm)]
    exact hbk
  have d0 : w2.cell? ⟨b, 0, none⟩ = some (.pointer (some ⟨b, 0, none⟩)) := by rw [Lib.cell_of_heap hb2]; rfl
  have d1 : w2.cell? ⟨b, 1, none⟩ = some v := by rw [Lib.cell_of_heap hb2]; rfl
  have f1 : w2.frozen? ⟨b, 1, none⟩ = false := Lib.frozen_of_heap hb2 1
  obtain ⟨ad, n', cap, rfl⟩ : ∃ ad n' cap, v' = .slice ad n' cap := by
    rcases hown'.2 with ⟨hv, h0⟩ | ⟨g, cap, cur, fz, hv, _⟩
    · exact ⟨_, _, _, hv⟩
    · exact ⟨_, _, _, hv⟩
  go_wp2
  go_ret2
  have hl : (Lib.strCells s).length = s.size := by simp [Lib.strCells]
  refine ⟨rfl, ?_, ?_, (hk1.grown hgrow (Lib.ownsRowF_kind hown)).setCell ⟨b, 1, none⟩ rfl _⟩
  · exact Lib.BuilderAtF.put (T := 75) (e := 5) hB hb2 (bs' := bs ++ Lib.strCells s) (by rw [List.length_append, hl]; exact hown') (by decide)
  · exact (hb1.grown hgrow (by omega) (fun k hk => (hown.lt k hk).1)).setCell (p := ⟨b, 1, none⟩) hB _

/-- A builder that holds those bytes. -/
structure BOk (B b : Nat) (l : List UInt8) (w : World) : Prop where
  is : Lib.IsBuilderF 75 5 B b (Lib.byteCells l) w
  le : B ≤ w.heap.size
/-- What writing leaves. -/
structure Wrote (B b : Nat) (l : List UInt8) (w w' : World) : Prop where
  ok : BOk B b l w'
  below : Below B w w'
  others : Lib.OthersKept 5 (some b) w w'
theorem Wrote.trans {B b : Nat} {l m : List UInt8} {w w1 w2 : World} (h : Wrote B b l w w1) (g : Wrote B b m w1 w2) : Wrote B b m w w2 := ⟨g.ok, h.below.trans g.below, h.others.trans g.others⟩
theorem Wrote.refl {B b : Nat} {l : List UInt8} {w : World} (h : BOk B b l w) : Wrote B b l w w := ⟨h, Below.refl _ _, Lib.OthersKept.refl _ _ _⟩
theorem BOk.alloc {B b : Nat} {l : List UInt8} {w : World} (h : BOk B b l w) (o : Obj) : BOk B b l (w.alloc o) := ⟨h.is.alloc o, by have := h.le; rw [World.size_alloc]; omega⟩
theorem Wrote.alloc {B b : Nat} {l : List UInt8} {w w1 : World} (h : Wrote B b l w w1) (o : Obj) : Wrote B b l w (w1.alloc o) := ⟨h.ok.alloc o, h.below.alloc h.ok.le o, h.others.alloc o⟩
theorem BOk.row {B b : Nat} {l : List UInt8} {w : World} (h : BOk B b l w) : B ≤ b ∧ ∃ c, w.heap[b]? = some (.cells c 75 (0, 0)) := by
  rcases h.is with ⟨h1, v, h2, _⟩ | ⟨h1, v, h2, _⟩
  · exact ⟨h1, _, h2⟩
  · exact ⟨h1, _, h2⟩
theorem byte_spec (B b : Nat) (l : List UInt8) (c : UInt8) (w : World) (h : BOk B b l w) (hlen : l.length + 1 ≤ 140737488355328) :
    Calls Tryz.prog 42 #[.pointer (some ⟨b, 0, none⟩), .int .u8 c.toNat] w fun e w' => e = .returned .nilIface ∧ Wrote B b (l ++ [c]) w w' := by
  refine (writeByte_k B b (Lib.byteCells l) c.toNat w h.is (by rw [Lib.byteCells_length]; exact hlen) h.le).mono ?_
  rintro e w' ⟨rfl, h1, h2, h3⟩
  exact ⟨rfl, ⟨Or.inr (by rw [byteCells_snoc]; exact h1), by have := h2.size; have := h.le; omega⟩, h2, h3⟩
theorem text_spec (B b : Nat) (l : List UInt8) (s : ByteArray) (w : World) (h : BOk B b l w) (hlen : l.length + s.size ≤ 140737488355328) :
    Calls Tryz.prog 24 #[.pointer (some ⟨b, 0, none⟩), .string s] w fun e w' => e = .returned (.tuple #[.int .i64 s.size, .nilIface]) ∧ Wrote B b (l ++ s.data.toList) w w' := by
  refine (writeString_k B b (Lib.byteCells l) s w h.is (by rw [Lib.byteCells_length]; exact hlen) h.le).mono ?_
  rintro e w' ⟨rfl, h1, h2, h3⟩
  refine ⟨rfl, ⟨Or.inr ?_, by have := h2.size; have := h.le; omega⟩, h2, h3⟩
  have e : Lib.byteCells (l ++ s.data.toList) = Lib.byteCells l ++ Lib.strCells s := by simp [Lib.byteCells, Lib.strCells]
  rw [e]
  exact h1

set_option maxRecDepth 100000 in
theorem reset_spec (B b : Nat) (l : List UInt8) (w : World) (h : BOk B b l w) :
    Calls Tryz.prog 40 #[.pointer (some ⟨b, 0, none⟩)] w fun e w' => e = .returned (.tuple #[]) ∧ Wrote B b [] w w' := by
  have ⟨hB, p, v, hb⟩ : B ≤ b ∧ ∃ p v, w.heap[b]? = some (.cells #[p, v] 75 (0, 0)) := by
    rcases h.is with ⟨h1, v, h2, _⟩ | ⟨h1, v, h2, _⟩
    · exact ⟨h1, _, v, h2⟩
    · exact ⟨h1, _, v, h2⟩
  have d0 : w.cell? ⟨b, 0, none⟩ = some p := by rw [Lib.cell_of_heap hb]; rfl
  have d1 : w.cell? ⟨b, 1, none⟩ = some v := by rw [Lib.cell_of_heap hb]; rfl
  have f0 : w.frozen? ⟨b, 0, none⟩ = false := Lib.frozen_of_heap hb 0
  have f1 : w.frozen? ⟨b, 1, none⟩ = false := Lib.frozen_of_heap hb 1
  have hle := h.le
  clear h
  go_enter Tryz.func40, Tryz.ntmps40
  go_wp2
  go_end0
  have e1 : ((w.setCell ⟨b, 0, none⟩ (.pointer none)).setCell ⟨b, 1, none⟩ (.slice none 0 0)).heap[b]? = some (.cells #[.pointer none, .slice none 0 0] 75 (0, 0)) := by
    simp [World.setCell, Array.getElem?_modify, hb]
  refine ⟨rfl, ⟨Or.inl ⟨hB, _, e1, World.ownsRowF_nil _ _ _ _, ?_⟩, by simpa using hle⟩, ((Below.refl B w).setCell (p := ⟨b, 0, none⟩) hB _).setCell (p := ⟨b, 1, none⟩) hB _, ((Lib.OthersKept.refl _ _ w).setCell ⟨b, 0, none⟩ rfl _).setCell ⟨b, 1, none⟩ rfl _⟩
  simp [Value.ownBlock]
end Go.Proofs.YtimipfdknfdbdaaGreat
