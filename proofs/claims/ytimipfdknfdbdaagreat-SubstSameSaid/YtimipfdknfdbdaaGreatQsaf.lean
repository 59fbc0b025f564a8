/- Merged by program: E5Piece, None, Eq, Fit. -/
import Derived.Deep.LoopGhost
import Derived.Test.YtimipfdknfdbdaaGreatQsae
import Derived.Test.YtimipfdknfdbdaaGreatQsaa
/- ere.reader.piece: a walk. -/
namespace Go.Proofs.YtimipfdknfdbdaaGreat.E5
open Go.Proofs.YtimipfdknfdbdaaGreat Go.Proofs
open Go.RowKit

theorem comes_yes (s : ByteArray) (k : Nat) (c : UInt8) (r l : List UInt8) (h : s.data.toList.drop k = c :: r) (hc : c ∈ l) : comesB s k l = true := by
  have h1 : s.data.toList[k]? = some c := by
    have := congrArg (·[0]?) h
    simpa using this
  unfold comesB
  rw [h1]
  exact decide_eq_true hc
theorem comes_no (s : ByteArray) (k : Nat) (r l : List UInt8) (h : s.data.toList.drop k = r) (hc : ∀ c, r.head? = some c → c ∉ l) : comesB s k l = false := by
  unfold comesB
  have h1 : s.data.toList[k]? = r.head? := by
    rw [← h, List.head?_drop]
  rw [h1]
  cases hr : r.head? with
  | none => rfl
  | some c => exact decide_eq_false (hc c hr)
theorem drop_next {s : ByteArray} {k : Nat} {l r : List UInt8} (h : s.data.toList.drop k = l ++ r) : s.data.toList.drop (k + l.length) = r := by
  have : s.data.toList.drop (k + l.length) = (s.data.toList.drop k).drop l.length := by rw [List.drop_drop]
  rw [this, h]
  simp
theorem drop_le {s : ByteArray} {k : Nat} {l : List UInt8} (h : s.data.toList.drop k = l) (hk : k ≤ s.size) : k + l.length = s.size := by
  have h1 := congrArg List.length h
  rw [List.length_drop] at h1
  have h2 : s.data.toList.length = s.size := by simp
  omega

/-- All blocks from C on but one. -/
def UpBut (C g : Nat) : Nat → Prop := fun b => C ≤ b ∧ b ≠ g

set_option maxRecDepth 100000 in
theorem piece_go (a : List UInt8) (t0 : Tree) (n : Nat) (hA : AtomAt a t0 n) (rs : List (Int × Int)) (hrs : ∀ x, x ∈ rs → OkTimes x) (s : ByteArray) (k d p : Nat) (w : World) (rest : List UInt8)
    (hdrop : s.data.toList.drop k = a ++ repsL rs ++ rest) (hrest : ∀ c, rest.head? = some c → c ∉ [42, 43, 63, 123]) (hs : s.size ≤ 400) (hd : d ≤ 20) (hr : Rdr w p s k d) (hn : d + n ≤ 20) (hks : k ≤ s.size) :
    Calls Tryz.prog 49 #[.pointer (some ⟨p, 0, none⟩)] w (Went p s (k + (a ++ repsL rs).length) d (repsT t0 rs) w) := by
  rw [List.append_assoc] at hdrop
  have HA := Lib.hid (fun w (h : Rdr w p s k d) => (hA s k d p w (repsL rs ++ rest) hdrop trivial hs hks hd h).1 hn)
  have HD : Hid (s.data.toList.drop (k + a.length) = repsL rs ++ rest ∧ k + a.length ≤ s.size) := Lib.hid ⟨drop_next hdrop, by have := drop_le hdrop hks; rw [List.length_append] at this; omega⟩
  have hlen : k + (a ++ repsL rs).length = k + a.length + (repsL rs).length := by rw [List.length_append]; omega
  rw [hlen]
  have HR := Lib.hid hrs
  have HE := Lib.hid hrest
  have HI := info_re
  have hlt := hr.lt
  clear hdrop hA hrs hrest hlen
  go_enter Tryz.func49, Tryz.ntmps49
  go_upto_region 1 with (fail)
  obtain ⟨W, hW, hX, hB, hsz⟩ := re_box w zeroR
  change Code.wp _ _ _ _ (w.alloc (Obj.cells zeroR 38))
  rw [← hW]
  clear hW
  have R := Lib.hid (hr.after hB.out)
  go_wp2_with fail
  refine (HA.out _ R.out).mono ?_
  rintro e w1 ⟨cs, rfl, hat, R1, b1⟩
  have X1 := Lib.hid (hX.out.but b1 (by omega))
  have R2 := Lib.hid R1
  have B1 := Lib.hid ((But.of hB.out).trans b1)
  have hg : w.heap.size < W.heap.size := hX.out.lt
  have hW1 := b1.size
  have T := Lib.hid hat
  obtain ⟨a0, c0, rfl, _⟩ := hat.opens
  clear b1 R1 hat
  simp only [reC]
  go_wp2_with fail
  obtain ⟨U, hU, hY, hBU, _⟩ := re_box w1 (reC t0.k t0.f t0.lo t0.hi (.slice a0 t0.kids.length c0))
  change Code.wp _ _ _ _ (w1.alloc (Obj.cells (reC t0.k t0.f t0.lo t0.hi (.slice a0 t0.kids.length c0)) 38))
  rw [← hU]
  clear hU
  have S0 : Hid (Rdr U p s (k + a.length) d ∧ Box U w.heap.size zeroR ∧ Box U w1.heap.size (reC t0.k t0.f t0.lo t0.hi (.slice a0 t0.kids.length c0)) ∧ At U (UpBut W.heap.size w1.heap.size) t0 (reC t0.k t0.f t0.lo t0.hi (.slice a0 t0.kids.length c0)) ∧ But p w U) :=
    Lib.hid ⟨R2.out.after hBU.out, X1.out.after hBU.out, hY.out, (T.out.inWorld.after hBU.out).weakS fun b hb => ⟨hb.1, by have := hb.2; omega⟩, B1.out.then hBU.out⟩
  go_loopg [9] rs.length (fun q _ wr => ∃ (todo : List (Int × Int)) (t : Tree) (kk : Nat) (cs : Array Value), Hid (todo.length = q ∧ repsT t todo = repsT t0 rs ∧ (∀ x, x ∈ todo → OkTimes x) ∧ s.data.toList.drop kk = repsL todo ++ rest ∧ kk ≤ s.size ∧ kk + (repsL todo).length = k + a.length + (repsL rs).length) ∧
    Hid (Rdr wr p s kk d ∧ Box wr w.heap.size zeroR ∧ Box wr w1.heap.size cs ∧ At wr (UpBut W.heap.size w1.heap.size) t cs ∧ But p w wr))
  case atStart => exact ⟨rs, t0, k + a.length, _, Lib.hid ⟨rfl, rfl, HR.out, HD.out.1, HD.out.2, rfl⟩, S0⟩
  case round =>
    obtain ⟨todo, t, kk, cs, hA, hM⟩ := hrel
    obtain ⟨a1, c1, e, _⟩ := hM.out.2.2.2.1.opens
    subst e
    have HC := Lib.hid (comes_spec p s ⟨#[42, 43, 63, 123]⟩ kk d wr hM.out.1 hA.out.2.2.2.2.1)
    cases todo with
    | nil =>
      have hc := comes_no s kk rest [42, 43, 63, 123] hA.out.2.2.2.1 HE.out
      rw [show (⟨#[42, 43, 63, 123]⟩ : ByteArray).data.toList = [42, 43, 63, 123] from rfl, hc] at HC
      clear hc
      have X := Lib.hid hM.out.2.1
      have Y := Lib.hid hM.out.2.2.1
      go_wp2_with fail
      refine HC.out.mono ?_
      rintro e w2 ⟨rfl, q2, hq2⟩
      have bE : Below wr.heap.size wr w2 := by rw [hq2]; exact drewN_below wr q2
      clear hq2
      have X2 := Lib.hid (X.out.after bE)
      have Y2 := Lib.hid (Y.out.after bE)
      have R3 := Lib.hid (hM.out.1.after bE)
      have B3 := Lib.hid (hM.out.2.2.2.2.then bE)
      have T3 := Lib.hid (hM.out.2.2.2.1.after bE)
      clear bE
      obtain ⟨d0, d1, d2, d3, d4, d5, d6, d7⟩ := eight_re Y2.out.eight
      go_wp2_with (refine wpList_store_row rfl 38 (.tmp 2) (.tmp 20) rfl w.heap.size (reC t.k t.f t.lo t.hi (.slice a1 t.kids.length c1)) rfl rfl 38 zeroR X2.out.row HI rfl (re_one _ _ _ _ _ _ _) ?_)
      refine bodyPost_ret (v := .agg (reC t.k t.f t.lo t.hi (.slice a1 t.kids.length c1))) (results_cell_row (by rfl) _ _ w.heap.size 38 _ (0, 0) _ (by rfl) (X2.out.setRow _).row Tryz.underlying38 (by rfl) HI) rfl ?_
      have hkk : kk = k + a.length + (repsL rs).length := hA.out.2.2.2.2.2
      have ht : t = repsT t0 rs := hA.out.2.1
      rw [← hkk, ← ht]
      exact went_end ((T3.out.setRowS (fun h => by have := h.1; omega) _).weakS fun b hb => by have := hb.1; unfold Up; omega) R3.out B3.out (Nat.le_refl _) hlt
    | cons x tl =>
      obtain ⟨ch, cr, ech, hch⟩ := timesL_head x.1 x.2
      have hdr : s.data.toList.drop kk = timesL x.1 x.2 ++ (repsL tl ++ rest) := by rw [hA.out.2.2.2.1]; simp [repsL]
      have hc := comes_yes s kk ch (cr ++ (repsL tl ++ rest)) [42, 43, 63, 123] (by rw [hdr, ech]; rfl) hch
      rw [show (⟨#[42, 43, 63, 123]⟩ : ByteArray).data.toList = [42, 43, 63, 123] from rfl, hc] at HC
      have HT := Lib.hid (fun w (h : Rdr w p s kk d) => times_any x (hA.out.2.2.1 x List.mem_cons_self) s kk d p w (repsL tl ++ rest) hdr hs h)
      have HN : Hid (s.data.toList.drop (kk + (timesL x.1 x.2).length) = repsL tl ++ rest ∧ kk + (timesL x.1 x.2).length ≤ s.size) := Lib.hid ⟨drop_next hdr, by have := drop_le hdr hA.out.2.2.2.2.1; rw [List.length_append] at this; omega⟩
      clear hc hdr ech hch ch cr
      go_wp2_with fail
      refine HC.out.mono ?_
      rintro e w2 ⟨rfl, q2, hq2⟩
      have bE : Below wr.heap.size wr w2 := by rw [hq2]; exact drewN_below wr q2
      clear hq2
      have X2 := Lib.hid (hM.out.2.1.after bE)
      have Y2 := Lib.hid (hM.out.2.2.1.after bE)
      have R3 := Lib.hid (hM.out.1.after bE)
      have B3 := Lib.hid (hM.out.2.2.2.2.then bE)
      have T3 := Lib.hid (hM.out.2.2.2.1.after bE)
      have hw2 := bE.size
      have hy2 := hM.out.2.2.1.lt
      clear bE
      go_wp2_with fail
      refine (HT.out _ R3.out).mono ?_
      rintro e w3 ⟨rfl, R4, b4⟩
      have X4 := Lib.hid (X2.out.but b4 (by omega))
      have Y4 := Lib.hid (Y2.out.but b4 (by omega))
      have R5 := Lib.hid R4
      have B5 := Lib.hid (B3.out.trans b4)
      have T5 := Lib.hid (T3.out.butS b4 (fun h => by have := h.1; omega))
      have hw3 := b4.size
      clear b4 R4
      obtain ⟨d0, d1, d2, d3, d4, d5, d6, d7⟩ := eight_re Y4.out.eight
      have YA := Lib.hid (Y4.out.after (below_new w3 (.cells (reC t.k t.f t.lo t.hi (.slice a1 t.kids.length c1)) 38)))
      have hw4 : (w3.alloc (.cells (reC t.k t.f t.lo t.hi (.slice a1 t.kids.length c1)) 38)).heap.size = w3.heap.size + 1 := World.size_alloc _ _
      go_wp2_with (refine wpList_store_row rfl 38 (.tmp 3) (.tmp 19) rfl w1.heap.size (reC 6 zero4 x.1 x.2 (.slice (some ⟨w3.heap.size, 0, none⟩) 1 1)) rfl rfl 38 (reC t.k t.f t.lo t.hi (.slice a1 t.kids.length c1)) YA.out.row HI rfl (re_one _ _ _ _ _ _ _) ?_)
      have bA := below_new w3 (.cells (reC t.k t.f t.lo t.hi (.slice a1 t.kids.length c1)) 38)
      go_roundg tl.length
      case measure => have := hA.out.1; rw [List.length_cons] at this; omega
      case rel =>
        refine ⟨tl, repT x.1 x.2 t, kk + (timesL x.1 x.2).length, _, Lib.hid ⟨rfl, hA.out.2.1, fun y hy => hA.out.2.2.1 y (List.mem_cons_of_mem _ hy), HN.out.1, HN.out.2, ?_⟩,
          Lib.hid ⟨(R5.out.after bA).setRow (by omega) _, ⟨by rw [Go.setRow_other _ _ _ _ (by omega)]; exact (X4.out.after bA).row⟩, YA.out.setRow _, ?_, ((B5.out.then bA).setRow (by omega) _)⟩⟩
        · rw [← hA.out.2.2.2.2.2]
          simp only [repsL, List.length_append]
          omega
        · refine .node 6 zero4 x.1 x.2 [t] w3.heap.size 0 1 (fun _ => reC t.k t.f t.lo t.hi (.slice a1 t.kids.length c1)) (by simp) (Nat.le_refl _) ⟨by omega, by omega⟩ (fun i hi => ?_) (fun i hi => ?_)
          · obtain rfl : i = 0 := by simp at hi; omega
            exact (box_new w3 _).eight.keep (Go.setRow_other _ _ _ _ (by omega))
          · obtain rfl : i = 0 := by simp at hi; omega
            exact (T5.out.after bA).setRowS (fun h => h.2 rfl) _

set_option maxRecDepth 100000 in
theorem piece_fell (p : Nat) (s : ByteArray) (k d : Nat) (w : World) (hr : Rdr w p s k d) (hA : ∀ w, Rdr w p s k d → Calls Tryz.prog 61 #[.pointer (some ⟨p, 0, none⟩)] w (Fell p w)) :
    Calls Tryz.prog 49 #[.pointer (some ⟨p, 0, none⟩)] w (Fell p w) := by
  have HA := Lib.hid hA
  clear hA
  go_enter Tryz.func49, Tryz.ntmps49
  go_upto_region 1 with (fail)
  obtain ⟨W, hW, hX, hB, hsz⟩ := re_box w zeroR
  change Code.wp _ _ _ _ (w.alloc (Obj.cells zeroR 38))
  rw [← hW]
  clear hW
  have R := Lib.hid (hr.after hB.out)
  go_wp2_with fail
  refine (HA.out _ R.out).mono ?_
  rintro e w1 ⟨a, rfl, b1⟩
  have B2 := Lib.hid ((But.of hB.out).trans b1)
  clear b1
  go_wp2_with fail
  exact ⟨rfl, a, rfl, B2.out⟩

theorem piece_at (a : List UInt8) (t0 : Tree) (n : Nat) (hA : AtomAt a t0 n) (rs : List (Int × Int)) (hrs : ∀ x, x ∈ rs → OkTimes x) : PieceAt (a ++ repsL rs) (repsT t0 rs) n := by
  intro s k d p w rest hdrop hrest hs hks hd hr
  refine ⟨fun hn => piece_go a t0 n hA rs hrs s k d p w rest hdrop hrest hs hd hr hn hks, fun hn => piece_fell p s k d w hr fun w h => ?_⟩
  exact (hA s k d p w (repsL rs ++ rest) (by rw [hdrop, List.append_assoc]) trivial hs hks hd h).2 hn
end Go.Proofs.YtimipfdknfdbdaaGreat.E5

/- ere.hasNone, its closure, slices.IndexFunc, slices.ContainsFunc at trees none of which is of the kinds: walks. -/
namespace Go.Proofs.YtimipfdknfdbdaaGreat
open Go.RowKit

set_option maxRecDepth 100000 in
theorem none1_spec (k : Int) (f : Nat → Nat) (lo hi : Int) (sl v : Value) (ks : List Int) (g : Nat) (w : World) (hg : w.cell? ⟨g, 0, none⟩ = some v) (hv : ∃ a n c, v = .slice a n c) (h : IntsAt w v ks) (hk : among ks k = false) :
    Calls Tryz.prog 82 #[.agg (reC k f lo hi sl), .pointer (some ⟨g, 0, none⟩)] w fun e w' => e = .returned (.bool false) ∧ Below w.heap.size w w' := by
  obtain ⟨a, n, c, rfl⟩ := hv
  have hlt := cell_lt hg
  go_enter Tryz.func82, Tryz.ntmps82
  go_upto_region 1 with (fail)
  obtain ⟨W, hW, hX, hB, _⟩ := re_box w (reC k f lo hi sl)
  rw [← hW]
  clear hW
  obtain ⟨c0, c1, c2, c3, c4, c5, c6, c7⟩ := eight_re hX.out.eight
  have d0 : W.cell? ⟨g, 0, none⟩ = some (.slice a n c) := by rw [hB.out.cell (p := ⟨g, 0, none⟩) hlt]; exact hg
  have H := Lib.hid (isOf_spec k f lo hi sl _ ks W (h.after hB.out))
  rw [hk] at H
  clear h hg hk
  go_wp2_with fail
  refine H.out.mono ?_
  rintro e w1 ⟨rfl, b1⟩
  have B1 := Lib.hid (Below.step hB.out b1)
  clear b1
  go_wp2_with fail
  go_ret
  exact ⟨rfl, B1.out⟩

def NoneOf (ks : List Int) (l : List Tree) : Prop := ∀ t, t ∈ l → among ks t.k = false

set_option maxRecDepth 100000 in
theorem indexFunc_spec (l : List Tree) (sl v : Value) (ks : List Int) (g : Nat) (B : Nat → Prop) (w : World) (hsl : SlAt w B l sl) (hlen : l.length ≤ 1000000) (hg : w.cell? ⟨g, 0, none⟩ = some v) (hv : ∃ a n c, v = .slice a n c) (h : IntsAt w v ks) (hk : NoneOf ks l) :
    Calls Tryz.prog 92 #[sl, .func (.func 82) #[] #[.pointer (some ⟨g, 0, none⟩)]] w fun e w' => e = .returned (.int .i64 (-1)) ∧ Below w.heap.size w w' := by
  have hlt := cell_lt hg
  rcases hsl with ⟨rfl, a, c, rfl⟩ | ⟨hl, b, off, c, cs, rfl, hc, hB, h8, hat⟩
  · go_enter Tryz.func92, Tryz.ntmps92
    go_wp2_with fail
    refine wp_loop_rounds 1 ?_
    rw [rounds_succ]
    go_wp2_with fail
    go_ret
    exact ⟨rfl, Below.refl _ _⟩
  · have H := Lib.hid h; clear h
    have HG := Lib.hid hg; clear hg
    go_enter Tryz.func92, Tryz.ntmps92
    go_wp2_with fail
    go_loopw [8] (fun y wr => ∃ i : Nat, y = .int .i64 i ∧ i ≤ l.length ∧ Hid (Below w.heap.size w wr)) (fun y _ => l.length - (intOf y).toNat)
    case atStart => exact ⟨0, rfl, by omega, Lib.hid (Below.refl _ _)⟩
    case round =>
      obtain ⟨i, rfl, hi, hb⟩ := hrel
      by_cases hgo : i < l.length
      · have hT := hat i hgo
        obtain ⟨si, e, _⟩ := hT.open
        have h8i := (h8 i hgo).keep (hb.out.block b ((h8 i hgo).lt hT.size))
        rw [e] at h8i
        obtain ⟨c0, c1, c2, c3, c4, c5, c6, c7⟩ := eight_re h8i
        have hN := hk l[i] (List.getElem_mem hgo)
        have HC := Lib.hid (none1_spec l[i].k l[i].f l[i].lo l[i].hi si v ks g wr (by rw [hb.out.cell (p := ⟨g, 0, none⟩) hlt]; exact HG.out) hv (H.out.after hb.out) hN)
        clear h8i hN e hT
        go_wp2_with fail
        refine HC.out.mono ?_
        rintro e w1 ⟨rfl, b1⟩
        have B1 := Lib.hid (Below.step hb.out b1)
        clear b1
        go_wp2_with fail
        go_roundw
        case rel => exact ⟨i + 1, by go_num, by omega, B1⟩
        case measure => simp [intOf]; omega
      · have hi' : i = l.length := by omega
        subst hi'
        go_wp2_with fail
        go_ret
        exact ⟨rfl, hb.out⟩

set_option maxRecDepth 100000 in
theorem hasNone_spec (l : List Tree) (sl v : Value) (ks : List Int) (B : Nat → Prop) (w : World) (hsl : SlAt w B l sl) (hlen : l.length ≤ 1000000) (hv : ∃ a n c, v = .slice a n c) (h : IntsAt w v ks) (hk : NoneOf ks l) :
    Calls Tryz.prog 65 #[sl, v] w fun e w' => e = .returned (.bool true) ∧ Below w.heap.size w w' := by
  have hb := below_new w (.cells #[v] 103)
  have hg : (w.alloc (.cells #[v] 103)).cell? ⟨w.heap.size, 0, none⟩ = some v := cell_of_row _ _ 0 _ _ (0, 0) (heap_alloc_last w _)
  have HI := Lib.hid (indexFunc_spec l sl v ks w.heap.size B _ (hsl.after hb) hlen hg hv (h.after hb) hk)
  obtain ⟨a, n, c, rfl⟩ := hv
  obtain ⟨a', n', c', rfl⟩ : ∃ a n c, sl = .slice a n c := by
    rcases hsl with ⟨rfl, a, c, rfl⟩ | ⟨hl, b, off, c, cs, rfl, _⟩
    · exact ⟨_, _, _, rfl⟩
    · exact ⟨_, _, _, rfl⟩
  have HB := Lib.hid hb
  clear hb hg h hk hsl
  go_enter Tryz.func65, Tryz.ntmps65
  go_wp2_with (go_at_call 81; go_in)
  refine HI.out.mono ?_
  rintro e w1 ⟨rfl, b1⟩
  have B1 := Lib.hid (Below.step HB.out b1)
  clear b1
  go_wp2_with fail
  go_ret
  exact ⟨rfl, B1.out⟩
end Go.Proofs.YtimipfdknfdbdaaGreat

/- == on two sets. -/
namespace Go.Proofs.YtimipfdknfdbdaaGreat
open Go.RowKit

theorem part_0 (a b c d : Int) (w : World) : (part 33 #[.int .u64 a, .int .u64 b, .int .u64 c, .int .u64 d] 0).run Tryz.prog w = .ok (.int .u64 a) w := by kernel_rfl
theorem part_1 (a b c d : Int) (w : World) : (part 33 #[.int .u64 a, .int .u64 b, .int .u64 c, .int .u64 d] 1).run Tryz.prog w = .ok (.int .u64 b) w := by kernel_rfl
theorem part_2 (a b c d : Int) (w : World) : (part 33 #[.int .u64 a, .int .u64 b, .int .u64 c, .int .u64 d] 2).run Tryz.prog w = .ok (.int .u64 c) w := by kernel_rfl
theorem part_3 (a b c d : Int) (w : World) : (part 33 #[.int .u64 a, .int .u64 b, .int .u64 c, .int .u64 d] 3).run Tryz.prog w = .ok (.int .u64 d) w := by kernel_rfl

theorem equalIn_set (d : Nat) (a0 a1 a2 a3 b0 b1 b2 b3 : Int) (w : World) :
    (Op.equalIn (d + 2) 35 (.agg #[.int .u64 a0, .int .u64 a1, .int .u64 a2, .int .u64 a3]) (.agg #[.int .u64 b0, .int .u64 b1, .int .u64 b2, .int .u64 b3])).run Tryz.prog w
      = .ok (a0 == b0 && (a1 == b1 && (a2 == b2 && a3 == b3))) w := by
  have E (a b : Int) (w : World) : (Op.equalIn (d + 1) 33 (.int .u64 a) (.int .u64 b)).run Tryz.prog w = .ok (a == b) w := run_equalIn_int w d 33 .u64 .u64 a b Tryz.underlying33
  rw [Op.equalIn]
  simp [Sem.run_bind, run_underlying Tryz.underlying35, Result.andThen_ok]
  rw [show List.range' 0 4 = [0, 1, 2, 3] from rfl]
  simp only [List.forIn_cons, List.forIn_nil, Sem.run_bind, part_0, E, Result.andThen_ok]
  by_cases h0 : a0 = b0
  · by_cases h1 : a1 = b1
    · by_cases h2 : a2 = b2
      · by_cases h3 : a3 = b3
        · simp [h0, h1, h2, h3, Result.andThen, Sem.run_bind, part_1, part_2, part_3, E]
        · simp [h0, h1, h2, h3, Result.andThen, Sem.run_bind, part_1, part_2, part_3, E]
      · simp [h0, h1, h2, Result.andThen, Sem.run_bind, part_1, part_2, E]
    · simp [h0, h1, Result.andThen, Sem.run_bind, part_1, E]
  · simp [h0, Result.andThen]
theorem equal_words (f g : Nat → Nat) (w : World) (b : Bool) (h : b = true ↔ ∀ k, k < 4 → f k = g k) :
    (Op.equalIn 10000 35 (.agg #[.int .u64 (f 0), .int .u64 (f 1), .int .u64 (f 2), .int .u64 (f 3)]) (.agg #[.int .u64 (g 0), .int .u64 (g 1), .int .u64 (g 2), .int .u64 (g 3)])).run Tryz.prog w = .ok b w := by
  rw [show (10000 : Nat) = 9998 + 2 from rfl, equalIn_set]
  congr 1
  rw [Bool.eq_iff_iff, h]
  constructor
  · intro e k hk
    simp at e
    have : k = 0 ∨ k = 1 ∨ k = 2 ∨ k = 3 := by omega
    rcases this with rfl | rfl | rfl | rfl
    · exact Int.ofNat.inj e.1
    · exact Int.ofNat.inj e.2.1
    · exact Int.ofNat.inj e.2.2.1
    · exact Int.ofNat.inj e.2.2.2
  · intro e
    simp [e 0 (by omega), e 1 (by omega), e 2 (by omega), e 3 (by omega)]
end Go.Proofs.YtimipfdknfdbdaaGreat

/- ere.isFit: walks, kind by kind. -/
namespace Go.Proofs.YtimipfdknfdbdaaGreat
open Go.RowKit

theorem zero_same : ∀ w, (Op.equalIn 10000 35 (.agg #[.int .u64 0, .int .u64 0, .int .u64 0, .int .u64 0]) (.agg #[.int .u64 0, .int .u64 0, .int .u64 0, .int .u64 0])).run Tryz.prog w = .ok true w :=
  fun w => equal_words zero4 zero4 w true (by simp)

set_option maxRecDepth 100000 in
theorem fit_small (k : Int) (h : k = 0 ∨ k = 2 ∨ k = 3) (a : Option Addr) (c : Nat) (w : World) :
    Calls Tryz.prog 52 #[.agg (reC k zero4 0 0 (.slice a 0 c))] w fun e w' => e = .returned (.bool true) ∧ Below w.heap.size w w' := by
  have hq := zero_same
  rcases h with rfl | rfl | rfl
  all_goals
    go_enter Tryz.func52, Tryz.ntmps52
    go_upto_region 1 with (fail)
    obtain ⟨W, hW, hX, hB, _⟩ := re_box w (reC _ zero4 0 0 (.slice a 0 c))
    rw [← hW]
    clear hW
    obtain ⟨c0, c1, c2, c3, c4, c5, c6, c7⟩ := eight_zero hX.out.eight
    go_wp2_with fail
    go_ret
    exact ⟨rfl, hB.out⟩

set_option maxRecDepth 100000 in
theorem fit_set (f : Nat → Nat) (a : Option Addr) (c : Nat) (w : World) :
    Calls Tryz.prog 52 #[.agg (reC 1 f 0 0 (.slice a 0 c))] w fun e w' => e = .returned (.bool true) ∧ Below w.heap.size w w' := by
  go_enter Tryz.func52, Tryz.ntmps52
  go_upto_region 1 with (fail)
  obtain ⟨W, hW, hX, hB, _⟩ := re_box w (reC 1 f 0 0 (.slice a 0 c))
  rw [← hW]
  clear hW
  obtain ⟨c0, c1, c2, c3, c4, c5, c6, c7⟩ := eight_re hX.out.eight
  go_wp2_with fail
  go_ret
  exact ⟨rfl, hB.out⟩

set_option maxRecDepth 100000 in
theorem fit_rep (lo hi : Int) (h0 : 0 ≤ lo) (h1 : lo ≤ 50) (h : hi = -1 ∨ (lo ≤ hi ∧ hi ≤ 50)) (a : Option Addr) (c : Nat) (w : World) :
    Calls Tryz.prog 52 #[.agg (reC 6 zero4 lo hi (.slice a 1 c))] w fun e w' => e = .returned (.bool true) ∧ Below w.heap.size w w' := by
  have hq := zero_same
  have HT := Lib.hid (areTimes_spec lo hi h0 h1 h)
  clear h0 h1 h
  go_enter Tryz.func52, Tryz.ntmps52
  go_upto_region 1 with (fail)
  obtain ⟨W, hW, hX, hB, _⟩ := re_box w (reC 6 zero4 lo hi (.slice a 1 c))
  rw [← hW]
  clear hW
  obtain ⟨c0, c1, c2, c3, c4, c5, c6, c7⟩ := eight_zero hX.out.eight
  go_wp2_with fail
  refine (HT.out _).mono ?_
  rintro e w1 ⟨rfl, rfl⟩
  go_wp2_with fail
  go_ret
  exact ⟨rfl, hB.out⟩

set_option maxRecDepth 100000 in
theorem fit_cat (l : List Tree) (sl : Value) (B : Nat → Prop) (w : World) (hsl : SlAt w B l sl) (h2 : 2 ≤ l.length) (hlen : l.length ≤ 1000000) (hk : NoneOf [4, 0] l) :
    Calls Tryz.prog 52 #[.agg (reC 4 zero4 0 0 sl)] w fun e w' => e = .returned (.bool true) ∧ Below w.heap.size w w' := by
  have hq := zero_same
  obtain ⟨a, c, rfl⟩ : ∃ a c, sl = .slice a l.length c := by
    rcases hsl with ⟨rfl, a, c, rfl⟩ | ⟨hl, b, off, c, cs, rfl, _⟩
    · exact ⟨_, _, rfl⟩
    · exact ⟨_, _, rfl⟩
  go_enter Tryz.func52, Tryz.ntmps52
  go_upto_region 1 with (fail)
  obtain ⟨W, hW, hX, hB, _⟩ := re_box w (reC 4 zero4 0 0 (.slice a l.length c))
  rw [← hW]
  clear hW
  obtain ⟨c0, c1, c2, c3, c4, c5, c6, c7⟩ := eight_zero hX.out.eight
  have hb := below_new W (.cells #[.int .i64 4, .int .i64 0] 3)
  have HN := Lib.hid (hasNone_spec l _ (.slice (some ⟨W.heap.size, 0, none⟩) 2 2) [4, 0] B _ ((hsl.after hB.out).after hb) hlen ⟨_, _, _, rfl⟩ (Or.inr ⟨_, _, rfl, by decide, heap_alloc_last W _⟩) hk)
  have HB := Lib.hid (Below.step hB.out hb)
  clear hb hsl hk
  go_wp2_with fail
  refine HN.out.mono ?_
  rintro e w1 ⟨rfl, b1⟩
  have B1 := Lib.hid (Below.step HB.out b1)
  clear b1
  go_wp2_with fail
  go_ret
  exact ⟨rfl, B1.out⟩

set_option maxRecDepth 100000 in
theorem fit_alt (l : List Tree) (sl : Value) (B : Nat → Prop) (w : World) (hsl : SlAt w B l sl) (h2 : 2 ≤ l.length) (hlen : l.length ≤ 1000000) (hk : NoneOf [5] l) :
    Calls Tryz.prog 52 #[.agg (reC 5 zero4 0 0 sl)] w fun e w' => e = .returned (.bool true) ∧ Below w.heap.size w w' := by
  have hq := zero_same
  obtain ⟨a, c, rfl⟩ : ∃ a c, sl = .slice a l.length c := by
    rcases hsl with ⟨rfl, a, c, rfl⟩ | ⟨hl, b, off, c, cs, rfl, _⟩
    · exact ⟨_, _, rfl⟩
    · exact ⟨_, _, rfl⟩
  go_enter Tryz.func52, Tryz.ntmps52
  go_upto_region 1 with (fail)
  obtain ⟨W, hW, hX, hB, _⟩ := re_box w (reC 5 zero4 0 0 (.slice a l.length c))
  rw [← hW]
  clear hW
  obtain ⟨c0, c1, c2, c3, c4, c5, c6, c7⟩ := eight_zero hX.out.eight
  have hb := below_new W (.cells #[.int .i64 5] 3)
  have HN := Lib.hid (hasNone_spec l _ (.slice (some ⟨W.heap.size, 0, none⟩) 1 1) [5] B _ ((hsl.after hB.out).after hb) hlen ⟨_, _, _, rfl⟩ (Or.inr ⟨_, _, rfl, by decide, heap_alloc_last W _⟩) hk)
  have HB := Lib.hid (Below.step hB.out hb)
  clear hb hsl hk
  go_wp2_with fail
  refine HN.out.mono ?_
  rintro e w1 ⟨rfl, b1⟩
  have B1 := Lib.hid (Below.step HB.out b1)
  clear b1
  go_wp2_with fail
  go_ret
  exact ⟨rfl, B1.out⟩
end Go.Proofs.YtimipfdknfdbdaaGreat
