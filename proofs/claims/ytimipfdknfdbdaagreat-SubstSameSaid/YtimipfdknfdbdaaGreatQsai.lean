/- Merged by program: E5Pattern, E5Catch. -/
import Derived.Defers
import Derived.Recover
import Derived.Test.YtimipfdknfdbdaaGreatQsah
/- ere.reader.pattern: a walk. -/
namespace Go.Proofs.YtimipfdknfdbdaaGreat.E5
open Go.Proofs.YtimipfdknfdbdaaGreat Go.Proofs
open Go.RowKit

def maxN : List Pc → Nat
  | [] => 0
  | q :: r => max q.n (maxN r)
theorem maxN_le {ps : List Pc} {d m : Nat} (hd : d ≤ m) : d + maxN ps ≤ m ↔ ∀ q, q ∈ ps → d + q.n ≤ m := by
  induction ps with
  | nil => simp [maxN, hd]
  | cons q r ih =>
    constructor
    · intro h x hx
      have h1 : max q.n (maxN r) = maxN (q :: r) := rfl
      rcases List.mem_cons.1 hx with rfl | hx
      · omega
      · exact ih.1 (by omega) x hx
    · intro h
      have h0 := h q List.mem_cons_self
      have h1 := ih.2 fun x hx => h x (List.mem_cons_of_mem _ hx)
      show d + max q.n (maxN r) ≤ m
      omega
theorem maxN_gt {ps : List Pc} {d m : Nat} (hd : d ≤ m) (h : m < d + maxN ps) : ∃ q, q ∈ ps ∧ m < d + q.n := by
  have h1 : ¬ ∀ q, q ∈ ps → d + q.n ≤ m := fun e => by have := (maxN_le hd).2 e; omega
  have ⟨q, hq⟩ := Classical.not_forall.1 h1
  have ⟨h2, h3⟩ := Classical.not_imp.1 hq
  exact ⟨q, h2, by omega⟩
theorem branch_at (ps : List Pc) (hps : ∀ q, q ∈ ps → PcOk q) (hlen : ps.length ≤ 400) : BranchAt (textOf ps) (joinT 4 (ps.map (·.t))) (maxN ps) := by
  intro s k d p w rest hdrop hrest hs hks hd hr
  refine ⟨fun hn => branch_walk ps hps hlen s k d p w rest hdrop hrest hs hks hd hr _ (fun _ _ _ h => h) (fun hb => ?_), fun hn => branch_walk ps hps hlen s k d p w rest hdrop hrest hs hks hd hr _ (fun hg => ?_) (fun _ _ _ h => h)⟩
  · obtain ⟨q, hq, hq2⟩ := hb
    have := (maxN_le hd).1 hn q hq
    omega
  · have := (maxN_le hd).2 hg
    omega

structure BrOk (q : Pc) : Prop where
  at_ : BranchAt q.l q.t q.n
  alt : q.t.k ≠ 5
def restAlt : List Pc → List UInt8
  | [] => []
  | q :: r => 124 :: (q.l ++ restAlt r)
def EndsPattern (r : List UInt8) : Prop := r = [] ∨ r.head? = some 41
theorem ends_next {todo : List Pc} {rest : List UInt8} (h : EndsPattern rest) : EndsBranch (restAlt todo ++ rest) := by
  cases todo with
  | nil =>
    rcases h with h | h
    · exact Or.inl h
    · exact Or.inr (Or.inr h)
  | cons q r => exact Or.inr (Or.inl rfl)

/-- Where the reading of a pattern stands. -/
structure PaA (ps done todo : List Pc) (s : ByteArray) (k kk d : Nat) (len : Nat) (rest : List UInt8) : Prop where
  all : ps = done ++ todo
  ok : ∀ q, q ∈ todo → BrOk q
  fine : ∀ q, q ∈ done → d + q.n ≤ 20 ∧ BrOk q
  drop : s.data.toList.drop kk = restAlt todo ++ rest
  le : kk ≤ s.size
  len : kk + (restAlt todo).length = k + len

set_option maxRecDepth 100000 in
set_option maxHeartbeats 1000000 in
theorem pattern_walk (b0 : Pc) (bs : List Pc) (h0 : BrOk b0) (hbs : ∀ q, q ∈ bs → BrOk q) (hlen : bs.length + 1 ≤ 400) (s : ByteArray) (k d p : Nat) (w : World) (rest : List UInt8) (hdrop : s.data.toList.drop k = b0.l ++ restAlt bs ++ rest) (hrest : EndsPattern rest)
    (hs : s.size ≤ 400) (hks : k ≤ s.size) (hd : d ≤ 20) (hr : Rdr w p s k d) (P : Ending → World → Prop)
    (hGo : (∀ q, q ∈ b0 :: bs → d + q.n ≤ 20) → ∀ e w', Went p s (k + (b0.l ++ restAlt bs).length) d (joinT 5 ((b0 :: bs).map (·.t))) w e w' → P e w')
    (hFell : (∃ q, q ∈ b0 :: bs ∧ 20 < d + q.n) → ∀ e w', Fell p w e w' → P e w') :
    Calls Tryz.prog 18 #[.pointer (some ⟨p, 0, none⟩)] w P := by
  have HGo := Lib.hid hGo
  have HFell := Lib.hid hFell
  have HE := Lib.hid hrest
  have hdr0 : s.data.toList.drop k = b0.l ++ (restAlt bs ++ rest) := by rw [hdrop, List.append_assoc]
  have HP0 := Lib.hid (fun w (h : Rdr w p s k d) => h0.at_ s k d p w (restAlt bs ++ rest) hdr0 (ends_next hrest) hs hks hd h)
  have HN0 : Hid (s.data.toList.drop (k + b0.l.length) = restAlt bs ++ rest ∧ k + b0.l.length ≤ s.size ∧ BrOk b0 ∧ (∀ q, q ∈ bs → BrOk q)) := Lib.hid ⟨drop_next hdr0, by have := drop_le hdr0 hks; rw [List.length_append] at this; omega, h0, hbs⟩
  have HL : Hid ((b0 :: bs).length ≤ 400) := Lib.hid hlen
  obtain ⟨ps, hps⟩ : ∃ ps, ps = b0 :: bs := ⟨_, rfl⟩
  rw [← hps] at HGo HFell HL
  have HPS := Lib.hid hps; clear hps
  have HI := info_re
  have hlt := hr.lt
  clear hGo hFell hrest hdrop hbs hlen hdr0 h0
  go_enter Tryz.func18, Tryz.ntmps18
  go_upto_region 1 with (fail)
  obtain ⟨W, hW, hX, hB, hsz⟩ := re_box w zeroR
  change Code.wp _ _ _ _ (w.alloc (Obj.cells zeroR 38))
  rw [← hW]
  clear hW
  have R := Lib.hid (hr.after hB.out)
  by_cases hn0 : d + b0.n ≤ 20
  case neg =>
    have HP2 := Lib.hid (fun w h => (HP0.out w h).2 (by omega))
    have HB : Hid (∃ q, q ∈ ps ∧ 20 < d + q.n) := Lib.hid ⟨b0, by rw [HPS.out]; exact List.mem_cons_self, by omega⟩
    go_wp2_with fail
    refine (HP2.out _ R.out).mono ?_
    rintro e w1 ⟨a, rfl, b1⟩
    have B1 := Lib.hid ((But.of hB.out).trans b1)
    clear b1
    go_wp2_with fail
    exact ⟨rfl, HFell.out HB.out _ _ ⟨a, rfl, B1.out⟩⟩
  case pos =>
    have HP1 := Lib.hid (fun w h => (HP0.out w h).1 hn0)
    go_wp2_with fail
    refine (HP1.out _ R.out).mono ?_
    rintro e w1 ⟨ds, rfl, hat, R1, b1⟩
    have X1 := Lib.hid (hX.out.but b1 (by omega))
    have B1 := Lib.hid ((But.of hB.out).trans b1)
    have R2 := Lib.hid R1
    have T1 := Lib.hid hat
    have hw1 := b1.size
    have hx1 := hX.out.lt
    obtain ⟨a, c, e, _⟩ := hat.opens
    subst e
    clear b1 R1 hat
    simp only [reC]
    go_wp2_with fail
    obtain ⟨U, hU, hY, hBU, hszU⟩ := re_box w1 (reC b0.t.k b0.t.f b0.t.lo b0.t.hi (.slice a b0.t.kids.length c))
    change Code.wp _ _ _ _ (w1.alloc (Obj.cells (reC b0.t.k b0.t.f b0.t.lo b0.t.hi (.slice a b0.t.kids.length c)) 38))
    have M0 : Hid (BrM U w p s (k + b0.l.length) d (.slice (some ⟨w1.heap.size, 0, none⟩) 1 1) [b0] (fun _ => reC b0.t.k b0.t.f b0.t.lo b0.t.hi (.slice a b0.t.kids.length c))) := Lib.hid ⟨R2.out.after hBU.out, X1.out.after hBU.out, ⟨by
      rw [hU]
      exact World.ownsRow_lit w1 _ 1 (by omega) (by unfold maxLen; omega) rfl, fun j hj => by
      obtain rfl : j = 0 := by simp at hj; omega
      exact (T1.out.inWorld.after hBU.out).weakS fun b hb => ⟨by have h' : W.heap.size ≤ b := hb.1; omega, fun e => by have := hb.2; simp [Value.ownBlock] at e; omega⟩⟩, B1.out.then hBU.out⟩
    rw [← hU]
    clear hU
    have S0 : Hid (PaA ps [b0] bs s k (k + b0.l.length) d (b0.l ++ restAlt bs).length rest) := Lib.hid ⟨HPS.out, HN0.out.2.2.2, fun q hq => by
      obtain rfl := List.mem_singleton.1 hq
      exact ⟨hn0, HN0.out.2.2.1⟩, HN0.out.1, HN0.out.2.1, by rw [List.length_append]; omega⟩
    go_loopg [3] bs.length (fun q lv wr => ∃ (done todo : List Pc) (kk : Nat) (cs : Nat → Array Value), Hid (todo.length = q) ∧ Hid (PaA ps done todo s k kk d (b0.l ++ restAlt bs).length rest) ∧ Hid (BrM wr w p s kk d lv done cs))
    case atStart => exact ⟨[b0], bs, _, _, Lib.hid rfl, S0, M0⟩
    case round =>
      obtain ⟨done, todo, kk, cs, hq, hA, hM⟩ := hrel
      have HC := Lib.hid (comes_spec p s ⟨#[124]⟩ kk d wr hM.out.rdr hA.out.le)
      cases todo with
      | nil =>
        have hc := comes_no s kk rest [124] (by have := hA.out.drop; exact this) (by
          intro c hc hm
          rcases HE.out with h | h
          · rw [h] at hc; cases hc
          · rw [h] at hc; cases hc; revert hm; decide)
        rw [show (⟨#[124]⟩ : ByteArray).data.toList = [124] from rfl, hc] at HC
        clear hc
        have hall : ps = done := by have := hA.out.all; rwa [List.append_nil] at this
        go_wp2_with fail
        refine HC.out.mono ?_
        rintro e D ⟨rfl, q2, hq2⟩
        have bD : Below wr.heap.size wr D := by rw [hq2]; exact drewN_below wr q2
        clear hq2
        have M2 := Lib.hid (hM.out.after bD)
        clear bD
        have HJ := Lib.hid (joined_spec 5 (done.map (·.t)) u3 (Up (w.heap.size + 1)) (.slice none 0 0) [] D (by rw [List.length_map, ← hall]; exact HL.out) M2.out.own.slAt
          (fun t ht => by obtain ⟨q, hq1, rfl⟩ := List.mem_map.1 ht; exact (hA.out.fine q hq1).2.alt) (fun t _ => rfl) (ints_none _))
        have hDw := M2.out.box.lt
        have HALL := Lib.hid hall; clear hall
        go_wp2_with fail
        refine HJ.out.mono ?_
        rintro e w3 ⟨ds, rfl, hat, b3⟩
        have M3 := Lib.hid (M2.out.after b3)
        have T3 := Lib.hid hat
        obtain ⟨a3, c3, e, _⟩ := hat.opens
        subst e
        clear b3 hat
        obtain ⟨tt, htt⟩ : ∃ tt, tt = joinT 5 (done.map (·.t)) := ⟨_, rfl⟩
        rw [← htt] at T3 ⊢
        have HTT := Lib.hid htt; clear htt
        go_wp2_with (refine wpList_store_row rfl 38 (.tmp 2) (.tmp 22) rfl w.heap.size (reC tt.k tt.f tt.lo tt.hi (.slice a3 tt.kids.length c3)) rfl rfl 38 zeroR M3.out.box.row HI rfl (re_one _ _ _ _ _ _ _) ?_)
        refine bodyPost_ret (v := .agg (reC tt.k tt.f tt.lo tt.hi (.slice a3 tt.kids.length c3))) (results_cell_row (by rfl) _ _ w.heap.size 38 _ (0, 0) _ (by rfl) (M3.out.box.setRow _).row Tryz.underlying38 (by rfl) HI) rfl ?_
        refine HGo.out (fun q hq1 => (hA.out.fine q (HALL.out ▸ hq1)).1) _ _ ?_
        have hkk : kk = k + (b0.l ++ restAlt bs).length := hA.out.len
        rw [← hkk, HALL.out, ← HTT.out]
        exact went_end ((T3.out.setRowS (fun h => by rcases h with h | h; (· have h' : w.heap.size + 1 ≤ w.heap.size := h; omega); (· omega)) _).weakS fun k hk => by
          rcases hk with h | h
          · have h' : w.heap.size + 1 ≤ k := h
            show w.heap.size ≤ k
            omega
          · show w.heap.size ≤ k
            omega) M3.out.rdr M3.out.but (Nat.le_refl _) hlt
      | cons q tl =>
        have hdr : s.data.toList.drop kk = 124 :: (q.l ++ (restAlt tl ++ rest)) := by rw [hA.out.drop]; simp [restAlt]
        have hc := comes_yes s kk 124 _ [124] hdr (by decide)
        rw [show (⟨#[124]⟩ : ByteArray).data.toList = [124] from rfl, hc] at HC
        have hdr1 : s.data.toList.drop (kk + 1) = q.l ++ (restAlt tl ++ rest) := by
          have : s.data.toList.drop (kk + 1) = (s.data.toList.drop kk).drop 1 := by rw [List.drop_drop]
          rw [this, hdr]; rfl
        have hlt2 : kk + 1 ≤ s.size := by
          have := drop_le hdr hA.out.le
          simp at this
          omega
        have HN : Hid (s.data.toList.drop (kk + 1 + q.l.length) = restAlt tl ++ rest ∧ kk + 1 + q.l.length ≤ s.size) := Lib.hid ⟨drop_next hdr1, by have := drop_le hdr1 hlt2; rw [List.length_append] at this; omega⟩
        have HP := Lib.hid (fun w (h : Rdr w p s (kk + 1) d) => (hA.out.ok q List.mem_cons_self).at_ s (kk + 1) d p w (restAlt tl ++ rest) hdr1 (ends_next HE.out) hs hlt2 hd h)
        clear hc hdr hdr1
        go_wp2_with fail
        refine HC.out.mono ?_
        rintro e E ⟨rfl, q2, hq2⟩
        have bE : Below wr.heap.size wr E := by rw [hq2]; exact drewN_below wr q2
        clear hq2
        have ME := Lib.hid (hM.out.after bE)
        clear bE
        have c1 := ME.out.rdr.c1; have z1 := ME.out.rdr.z 1
        go_upto_region 4 with (fail)
        obtain ⟨D, hD, M1⟩ : ∃ D, D = E.setCell ⟨p, 1, none⟩ (.int .i64 ((kk : Int) + 1)) ∧ Hid (BrM D w p s (kk + 1) d u3 done cs) :=
          ⟨_, rfl, Lib.hid ⟨ME.out.rdr.put1 (kk + 1), ME.out.box.but (but_put _ _ _ _) (by omega), ME.out.own.but (but_put _ _ _ _) (by omega), ME.out.but.put _ _⟩⟩
        rw [← hD]
        clear hD c1 z1
        by_cases hn : d + q.n ≤ 20
        case neg =>
          have HP2 := Lib.hid (fun w h => (HP.out w h).2 (by omega))
          have HB : Hid (∃ q, q ∈ ps ∧ 20 < d + q.n) := Lib.hid ⟨q, by rw [hA.out.all]; simp, by omega⟩
          go_wp2_with fail
          refine (HP2.out _ M1.out.rdr).mono ?_
          rintro e w1 ⟨a, rfl, b1⟩
          have B1 := Lib.hid (M1.out.but.trans b1)
          clear b1
          go_wp2_with fail
          exact ⟨rfl, HFell.out HB.out _ _ ⟨a, rfl, B1.out⟩⟩
        case pos =>
          have HP1 := Lib.hid (fun w h => (HP.out w h).1 hn)
          go_wp2_with fail
          refine (HP1.out _ M1.out.rdr).mono ?_
          rintro e w1 ⟨ds, rfl, hat, R1, b1⟩
          have X1 := Lib.hid (M1.out.box.but b1 (by omega))
          have O1 := Lib.hid (M1.out.own.but b1 (by omega))
          have B1 := Lib.hid (M1.out.but.trans b1)
          have R2 := Lib.hid R1
          have T1 := Lib.hid hat
          have hw1 := b1.size
          have hx1 := M1.out.box.lt
          have hvl : Hid (∀ k, u3.ownBlock = some k → k < D.heap.size) := Lib.hid fun k hk => (M1.out.own.row.lt k hk).2
          obtain ⟨a, c, e, _⟩ := hat.opens
          subst e
          clear b1 R1 hat
          have hbe := below_new w1 (.cells (reC q.t.k q.t.f q.t.lo q.t.hi (.slice a q.t.kids.length c)) 38)
          have hse : (w1.alloc (.cells (reC q.t.k q.t.f q.t.lo q.t.hi (.slice a q.t.kids.length c)) 38)).heap.size = w1.heap.size + 1 := World.size_alloc _ _
          have O2 := Lib.hid (O1.out.after hbe)
          have row5 : Hid ((w1.alloc (.cells (reC q.t.k q.t.f q.t.lo q.t.hi (.slice a q.t.kids.length c)) 38)).heap[w1.heap.size]? = some (.cells (reC q.t.k q.t.f q.t.lo q.t.hi (.slice a q.t.kids.length c)) 38 (0, 0))) := Lib.hid (heap_alloc_last w1 _)
          obtain ⟨i0, hi0', hz0, hz1, hz2⟩ := info_parts info_re3
          have hdl : Hid ((done.map (·.t)).length = done.length ∧ done.length + 1 ≤ 400) := Lib.hid ⟨by simp, by have := HL.out; rw [hA.out.all] at this; simp at this; omega⟩
          have BE := Lib.hid hbe
          clear hbe
          simp only [reC]
          go_wp2_with (at_builtin; refine wpList_append_own_at _ rfl _ _ 36 rfl (w.heap.size + 1) 38 i0 (.agg #[.int .i64 0, .int .u64 0, .int .u64 0, .int .u64 0, .int .u64 0, .int .i64 0, .int .i64 0, .slice none 0 0]) 8 80 Tryz.underlying36 hi0' hz0 hz1 hz2 rfl (by decide) _ _ _ rfl O2.out.row ⟨w1.heap.size, 0, none⟩ 1 1 (reC q.t.k q.t.f q.t.lo q.t.hi (.slice a q.t.kids.length c)).toList rfl rfl ?c1 ?c2 ?c3 ?c4 ?c5 ?_)
          case c1 =>
            intro j u hj
            have e : (⟨w1.heap.size, 0, none⟩ : Addr).add j = ⟨w1.heap.size, j, none⟩ := by unfold Addr.add; split <;> simp_all
            rw [e]
            exact (cell_of_row _ _ j _ _ _ row5.out).trans (by simpa using hj)
          case c2 =>
            intro u hu
            have h := re_one q.t.k q.t.f q.t.lo q.t.hi a q.t.kids.length c
            rw [Array.all_eq_true_iff_forall_mem] at h
            exact h u (by simpa using hu)
          case c3 => have := hdl.out; unfold maxLen; omega
          case c4 => have := hdl.out; omega
          case c5 => rw [World.size_alloc]; omega
          intro v' w4 hown' hgrow _ hwhere
          have hgrow' : (w1.alloc (.cells (reC q.t.k q.t.f q.t.lo q.t.hi (.slice a q.t.kids.length c)) 38)).grownBy w4 _ := hgrow
          have hwhere' : v'.ownBlock = u3.ownBlock ∨ v'.ownBlock = some (w1.alloc (.cells (reC q.t.k q.t.f q.t.lo q.t.hi (.slice a q.t.kids.length c)) 38)).heap.size := hwhere.imp id (fun h => by rw [World.size_alloc]; exact h)
          have OW := Lib.hid (O2.out.snoc (T1.out.after BE.out) (by omega) hvl.out (by rw [hdl.out.1]; exact hown') hgrow' hwhere')
          have hng : ∀ k, k < w1.heap.size → (∀ j, u3.ownBlock = some j → j ≠ k) → w4.heap[k]? = w1.heap[k]? := fun k hk hne =>
            (hgrow'.block k (by omega) (fun e => hne k e.symm rfl)).trans (BE.out.block k hk)
          have hge3 : ∀ k, u3.ownBlock = some k → w.heap.size + 1 ≤ k := fun k hk => (O2.out.row.lt k hk).1
          have M4 : Hid (BrM w4 w p s (kk + 1 + q.l.length) d v' (done ++ [q]) (fun j => if j = (done.map (·.t)).length then reC q.t.k q.t.f q.t.lo q.t.hi (.slice a q.t.kids.length c) else cs j)) := Lib.hid ⟨⟨by
              rw [hng p (by omega) (fun j hj e => by have := hge3 j hj; omega)]; exact R2.out.row⟩, ⟨by
              rw [hng _ (by omega) (fun j hj e => by have := hge3 j hj; omega)]; exact X1.out.row⟩, by
              rw [List.map_append]; exact OW.out, ⟨hgrow'.os.trans (BE.out.os.trans B1.out.os), hgrow'.tape.trans (BE.out.tape.trans B1.out.tape), hgrow'.output.trans (BE.out.output.trans B1.out.output), Nat.le_trans B1.out.size (Nat.le_trans BE.out.size hgrow'.size), fun k hk hp =>
                (hng k (by omega) (fun j hj e => by have := hge3 j hj; omega)).trans (B1.out.block k hk hp)⟩⟩
          clear hown' hgrow hgrow' hwhere hwhere' hng hge3
          go_wp2_with fail
          go_roundg tl.length
          case measure => have := hq.out; rw [List.length_cons] at this; omega
          case rel =>
            refine ⟨done ++ [q], tl, kk + 1 + q.l.length, _, Lib.hid rfl, Lib.hid ⟨?_, fun x hx => hA.out.ok x (List.mem_cons_of_mem _ hx), fun x hx => ?_, HN.out.1, HN.out.2, ?_⟩, M4⟩
            · rw [hA.out.all]; simp
            · rcases List.mem_append.1 hx with h | h
              · exact hA.out.fine x h
              · obtain rfl := List.mem_singleton.1 h
                exact ⟨hn, hA.out.ok x List.mem_cons_self⟩
            · rw [← hA.out.len]
              simp only [restAlt, List.length_cons, List.length_append]
              omega
end Go.Proofs.YtimipfdknfdbdaaGreat.E5

/- ere.Parse's deferred closure: walks. -/
namespace Go.Proofs.YtimipfdknfdbdaaGreat.E5
open Go.Proofs.YtimipfdknfdbdaaGreat Go.Proofs
open Go.RowKit

set_option maxRecDepth 100000 in
theorem catch_idle (a b c : Addr) (w : World) :
    CallsD Tryz.prog 17 #[.pointer (some a), .pointer (some b), .pointer (some c)] .returning w fun e u' w' => e = .returned (.tuple #[]) ∧ u' = .returning ∧ w' = w := by
  refine callsD_of_wpS Tryz.func17 rfl fun c₀ cs hu => ?_
  apply wpS_seq
  apply wpS_region
  simp [wpOpsS, go_sem, recoverD, hu, Tryz.ntmps17, Exit.thenS]
  refine wpS_of_wp ?_
  go_wp2_with fail
  cases c₀
  simp_all [bodyPostS, results, Tryz.results17]

/-- What the closure leaves: the three results. -/
structure Caught (w w' : World) (R A E : Nat) (at_ x : Int) : Prop where
  box : Box w' R zeroR
  a : w'.cell? ⟨A, 0, none⟩ = some (.int .i64 at_)
  e : w'.cell? ⟨E, 0, none⟩ = some (.int .i64 x)
  block : ∀ k, k < w.heap.size → k ≠ R → k ≠ A → k ≠ E → w'.heap[k]? = w.heap[k]?
  os : w'.os = w.os
  tape : w'.tape = w.tape
  output : w'.output = w.output
  size : w.heap.size ≤ w'.heap.size

theorem Caught.putR {w V : World} {R A E : Nat} {at_ x : Int} (h : Caught w V R A E at_ x) (nRA : R ≠ A) (nRE : R ≠ E) (j : Nat) (v : Value) (e : zeroR.setIfInBounds j v = zeroR) : Caught w (V.setCell ⟨R, j, none⟩ v) R A E at_ x :=
  ⟨(by have h0 := h.box.put j v; rw [e] at h0; exact h0), by rw [cell_other (addr_ne (Or.inl nRA))]; exact h.a, by rw [cell_other (addr_ne (Or.inl nRE))]; exact h.e, fun k hk h1 h2 h3 => by rw [heap_setCell_other V ⟨R, j, none⟩ k v h1]; exact h.block k hk h1 h2 h3,
    h.os, h.tape, h.output, by rw [World.size_setCell]; exact h.size⟩
theorem Caught.putA {w V : World} {R A E : Nat} {at_ x : Int} (h : Caught w V R A E at_ x) (nRA : R ≠ A) (nAE : A ≠ E) (y : Int) : Caught w (V.setCell ⟨A, 0, none⟩ (.int .i64 y)) R A E y x :=
  ⟨h.box.other nRA 0 _, cell_same h.a, by rw [cell_other (addr_ne (Or.inl nAE))]; exact h.e, fun k hk h1 h2 h3 => by rw [heap_setCell_other V ⟨A, 0, none⟩ k _ h2]; exact h.block k hk h1 h2 h3,
    h.os, h.tape, h.output, by rw [World.size_setCell]; exact h.size⟩
theorem Caught.putE {w V : World} {R A E : Nat} {at_ x : Int} (h : Caught w V R A E at_ x) (nRE : R ≠ E) (nAE : A ≠ E) (y : Int) : Caught w (V.setCell ⟨E, 0, none⟩ (.int .i64 y)) R A E at_ y :=
  ⟨h.box.other nRE 0 _, by rw [cell_other (addr_ne (Or.inl (Ne.symm nAE)))]; exact h.a, cell_same h.e, fun k hk h1 h2 h3 => by rw [heap_setCell_other V ⟨E, 0, none⟩ k _ h3]; exact h.block k hk h1 h2 h3,
    h.os, h.tape, h.output, by rw [World.size_setCell]; exact h.size⟩
theorem Caught.drew {w V : World} {R A E : Nat} {at_ x : Int} (h : Caught w V R A E at_ x) : Caught w V.drew R A E at_ x :=
  ⟨h.box.drew, h.a, h.e, h.block, h.os, h.tape, h.output, h.size⟩

set_option maxRecDepth 100000 in
theorem catch_fault (R A E : Nat) (at_ x : Int) (w : World) (hR : Box w R zeroR) (hA : w.cell? ⟨A, 0, none⟩ = some (.int .i64 0)) (hAz : w.frozen? ⟨A, 0, none⟩ = false) (hE : w.cell? ⟨E, 0, none⟩ = some (.int .i64 0)) (hEz : w.frozen? ⟨E, 0, none⟩ = false) (hRA : R ≠ A) (hRE : R ≠ E) (hAE : A ≠ E) :
    CallsD Tryz.prog 17 #[.pointer (some ⟨R, 0, none⟩), .pointer (some ⟨A, 0, none⟩), .pointer (some ⟨E, 0, none⟩)] (.panicking ({ v := .iface 57 (.agg #[.int .i64 at_, .int .i64 x]), recovered := false } :: [])) w fun e u' w' =>
      e = .returned (.tuple #[]) ∧ u' = .panicking ({ v := .iface 57 (.agg #[.int .i64 at_, .int .i64 x]), recovered := true } :: []) ∧
        Caught w w' R A E at_ x := by
  have hta : ∀ w, (Instr.typeAssert (.iface 57 (.agg #[.int .i64 at_, .int .i64 x])) 20 57 false).run Tryz.prog w = .ok (.agg #[.int .i64 at_, .int .i64 x]) w := fun _ => by kernel_rfl
  refine callsD_of_wpS Tryz.func17 rfl fun c₀ cs hu => ?_
  apply wpS_seq
  apply wpS_region
  simp [wpOpsS, go_sem, recoverD, hu, Tryz.ntmps17, Exit.thenS, Array.replicate, List.replicate]
  refine wpS_of_wp ?_
  go_wp2_with fail
  have hRl := hR.lt
  have hAl := cell_lt hA
  have hEl := cell_lt hE
  simp only at hAl hEl
  have nR : ¬ w.heap.size = R := by omega
  have nA : ¬ w.heap.size = A := by omega
  have nE : ¬ w.heap.size = E := by omega
  have nRA : ¬ R = A := hRA
  have nRE : ¬ R = E := hRE
  have nAE : ¬ A = E := hAE
  have hbV := below_new w (.cells #[.int .i64 at_, .int .i64 x] 57)
  obtain ⟨V, hV, X, dA, dE, zA, zE, d0, d1, BV⟩ : ∃ V, V = w.alloc (.cells #[.int .i64 at_, .int .i64 x] 57) ∧ Hid (Box V R zeroR) ∧ V.cell? ⟨A, 0, none⟩ = some (.int .i64 0) ∧ V.cell? ⟨E, 0, none⟩ = some (.int .i64 0) ∧ V.frozen? ⟨A, 0, none⟩ = false ∧ V.frozen? ⟨E, 0, none⟩ = false ∧ V.cell? ⟨w.heap.size, 0, none⟩ = some (.int .i64 at_) ∧ V.cell? ⟨w.heap.size, 1, none⟩ = some (.int .i64 x) ∧ Hid (Below w.heap.size w V) :=
    ⟨_, rfl, Lib.hid (hR.after hbV), by rw [hbV.cell (p := ⟨A, 0, none⟩) hAl]; exact hA, by rw [hbV.cell (p := ⟨E, 0, none⟩) hEl]; exact hE, by rw [hbV.frozen (p := ⟨A, 0, none⟩) hAl]; exact hAz, by rw [hbV.frozen (p := ⟨E, 0, none⟩) hEl]; exact hEz, cell_of_row _ _ 0 _ _ (0, 0) (heap_alloc_last w _), cell_of_row _ _ 1 _ _ (0, 0) (heap_alloc_last w _), Lib.hid hbV⟩
  rw [← hV]
  clear hV hbV hA hE hAz hEz hRl hAl hEl hRA hRE hAE hta
  obtain ⟨c0, c1, c2, c3, c4, c5, c6, c7⟩ := eight_re X.out.eight
  have z0 := X.out.z 0; have z1 := X.out.z 1; have z2 := X.out.z 2; have z3 := X.out.z 3; have z4 := X.out.z 4; have z5 := X.out.z 5; have z6 := X.out.z 6; have z7 := X.out.z 7
  go_region
  clear c0 c1 c2 c3 c4 c5 c6 c7 z0 z1 z2 z3 z4 z5 z6 z7 d0 d1 zA zE
  have h0 : Caught w V R A E 0 0 := ⟨X.out, dA, dE, fun k hk _ _ _ => BV.out.block k hk, BV.out.os, BV.out.tape, BV.out.output, BV.out.size⟩
  have h8 := (((((((h0.putR nRA nRE 0 (.int .i64 0) rfl).putR nRA nRE 1 (.int .u64 0) rfl).putR nRA nRE 2 (.int .u64 0) rfl).putR nRA nRE 3 (.int .u64 0) rfl).putR nRA nRE 4 (.int .u64 0) rfl).putR nRA nRE 5 (.int .i64 0) rfl).putR nRA nRE 6 (.int .i64 0) rfl).putR nRA nRE 7 (.slice none 0 0) rfl
  have HC := Lib.hid (((h8.putA nRA nAE at_).putE nRE nAE x).drew)
  clear h0 h8
  clear dA dE
  obtain ⟨Z, hZ⟩ : ∃ Z, Z = ((((((((((V.setCell ⟨R, 0, none⟩ (.int .i64 0)).setCell ⟨R, 1, none⟩ (.int .u64 0)).setCell ⟨R, 2, none⟩ (.int .u64 0)).setCell ⟨R, 3, none⟩ (.int .u64 0)).setCell ⟨R, 4, none⟩ (.int .u64 0)).setCell ⟨R, 5, none⟩ (.int .i64 0)).setCell ⟨R, 6, none⟩ (.int .i64 0)).setCell ⟨R, 7, none⟩ (.slice none 0 0)).setCell ⟨A, 0, none⟩ (.int .i64 at_)).setCell ⟨E, 0, none⟩ (.int .i64 x)).drew := ⟨_, rfl⟩
  rw [← hZ] at HC ⊢
  clear hZ
  go_wp2_with fail
  simp [bodyPostS, results, Tryz.results17]
  exact HC.out
end Go.Proofs.YtimipfdknfdbdaaGreat.E5
