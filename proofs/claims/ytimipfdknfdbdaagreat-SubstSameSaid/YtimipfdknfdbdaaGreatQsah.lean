/- Merged by program: E5Own, E5Branch. -/
import Derived.Maps.AppendAt
import Derived.Test.YtimipfdknfdbdaaGreatQsag
/- A slice of trees that a call makes, tree by tree. -/
namespace Go.Proofs.YtimipfdknfdbdaaGreat.E5
open Go.Proofs.YtimipfdknfdbdaaGreat Go.Proofs
open Go.RowKit

structure OwnTrees (w : World) (base : Nat) (v : Value) (ts : List Tree) (cs : Nat → Array Value) : Prop where
  row : w.ownsRow base 38 8 v ts.length (flatC cs ts.length)
  at_ : ∀ j (h : j < ts.length), At w (fun b => base ≤ b ∧ some b ≠ v.ownBlock) ts[j] (cs j)

theorem own_nil (w : World) (base : Nat) (cs : Nat → Array Value) : OwnTrees w base (.slice none 0 0) [] cs := ⟨World.ownsRow_nil _ _ _ _, fun j h => absurd h (by simp)⟩
theorem OwnTrees.after {w w' : World} {base : Nat} {v : Value} {ts : List Tree} {cs : Nat → Array Value} (h : OwnTrees w base v ts cs) (hb : Below w.heap.size w w') : OwnTrees w' base v ts cs :=
  ⟨owns_after h.row hb, fun j hj => (h.at_ j hj).after hb⟩
theorem OwnTrees.but {p : Nat} {w w' : World} {base : Nat} {v : Value} {ts : List Tree} {cs : Nat → Array Value} (h : OwnTrees w base v ts cs) (hb : But p w w') (hp : p < base) : OwnTrees w' base v ts cs :=
  ⟨h.row.kept (row := some p) ⟨hb.os, hb.tape, hb.output, hb.size, fun k hk e => hb.block k hk (fun e' => e (by rw [e']))⟩ (by
      cases hv : v.ownBlock with
      | none => exact Or.inl rfl
      | some k => exact Or.inr (fun e => by have := (h.row.lt k hv).1; simp at e; omega)),
    fun j hj => (h.at_ j hj).butS hb (fun e => by have := e.1; omega)⟩
theorem OwnTrees.size8 {w : World} {base : Nat} {v : Value} {ts : List Tree} {cs : Nat → Array Value} (h : OwnTrees w base v ts cs) (j : Nat) (hj : j < ts.length) : (cs j).size = 8 := (h.at_ j hj).size
theorem flatC_congr {cs ds : Nat → Array Value} {n : Nat} (h : ∀ j, j < n → cs j = ds j) : flatC cs n = flatC ds n := by
  induction n with
  | zero => rfl
  | succ n ih => rw [flatC_succ, flatC_succ, ih fun j hj => h j (by omega), h n (by omega)]
theorem OwnTrees.snoc {w w' : World} {base : Nat} {v v' : Value} {ts : List Tree} {cs : Nat → Array Value} (h : OwnTrees w base v ts cs) {t : Tree} {ds : Array Value} {C : Nat} (ht : At w (Up C) t ds) (hC : base ≤ C) (hv : ∀ k, v.ownBlock = some k → k < C)
    (hrow : w'.ownsRow base 38 8 v' (ts.length + 1) (flatC cs ts.length ++ ds.toList)) (hg : w.grownBy w' v.ownBlock) (hb : v'.ownBlock = v.ownBlock ∨ v'.ownBlock = some w.heap.size) :
    OwnTrees w' base v' (ts ++ [t]) (fun j => if j = ts.length then ds else cs j) := by
  have hl : (ts ++ [t]).length = ts.length + 1 := by simp
  refine ⟨?_, fun j hj => ?_⟩
  · rw [hl, flatC_succ, if_pos rfl, flatC_congr (ds := cs) (fun j hj => if_neg (by omega))]
    exact hrow
  · have keep : ∀ {u : Tree} {es : Array Value}, At w (fun b => base ≤ b ∧ some b ≠ v.ownBlock) u es → At w' (fun b => base ≤ b ∧ some b ≠ v'.ownBlock) u es := by
      intro u es hu
      refine ((hu.inWorld).keep (w' := w') (fun k hk hlt => hg.block k hlt hk.1.2)).weakS fun k hk => ⟨hk.1.1, ?_⟩
      rcases hb with e | e
      · rw [e]; exact hk.1.2
      · rw [e]; intro e'; have := hk.2; simp at e'; omega
    by_cases e : j = ts.length
    · subst e
      rw [if_pos rfl]
      have : (ts ++ [t])[ts.length] = t := by simp
      rw [this]
      refine keep (ht.weakS fun k hk => ⟨Nat.le_trans hC hk, fun e => ?_⟩)
      have h1 := hv k e.symm
      have h2 : C ≤ k := hk
      omega
    · rw [if_neg e]
      have hj' : j < ts.length := by rw [hl] at hj; omega
      have : (ts ++ [t])[j] = ts[j] := List.getElem_append_left hj'
      rw [this]
      exact keep (h.at_ j hj')
theorem OwnTrees.slAt {w : World} {base : Nat} {v : Value} {ts : List Tree} {cs : Nat → Array Value} (h : OwnTrees w base v ts cs) : SlAt w (Up base) ts v := by
  rcases h.row.2 with ⟨rfl, h0⟩ | ⟨g, cap, cur, rfl, hb, _, hcap, _⟩
  · exact Or.inl ⟨List.eq_nil_of_length_eq_zero h0, none, 0, by rfl⟩
  · by_cases e : ts = []
    · subst e; exact Or.inl ⟨rfl, _, _, rfl⟩
    · exact Or.inr ⟨e, g, 0, cap, cs, rfl, hcap, hb, fun i hi => owns_eight h.row h.size8 i hi, fun i hi => (h.at_ i hi).weakS fun k hk => hk.1⟩

theorem joined_spec (kind : Int) (l : List Tree) (v : Value) (S : Nat → Prop) (dv : Value) (ks : List Int) (w : World) (hlen : l.length ≤ 400)
    (hsl : SlAt w S l v) (hk : ∀ t, t ∈ l → t.k ≠ kind) (hd : NoneOf ks l) (hv : IntsAt w dv ks) :
    Calls Tryz.prog 34 #[.int .i64 kind, v, dv] w fun e w' =>
      ∃ ds, e = .returned (.agg ds) ∧ At w' (fun k => S k ∨ w.heap.size ≤ k) (joinT kind l) ds ∧ Below w.heap.size w w' := by
  rcases hsl with ⟨rfl, a, c, rfl⟩ | ⟨hl, b, off, c, cs, rfl, hc, hB, h8, hat⟩
  · refine (joined_none kind a c dv w).mono ?_
    rintro e w' ⟨rfl, hb⟩
    exact ⟨_, rfl, .leaf _ _ _ _ _ _, hb⟩
  · exact joined_some kind l b off c cs S dv ks w (by cases l with | nil => exact absurd rfl hl | cons => simp) hlen h8 hat hk hd hv
end Go.Proofs.YtimipfdknfdbdaaGreat.E5

/- ere.reader.branch: a walk. -/
namespace Go.Proofs.YtimipfdknfdbdaaGreat.E5
open Go.Proofs.YtimipfdknfdbdaaGreat Go.Proofs
open Go.RowKit

/-- A part of a pattern: its text, its tree, how many brackets lie in one another. -/
structure Pc where
  l : List UInt8
  t : Tree
  n : Nat
def Starts (l : List UInt8) : Prop := ∃ c r, l = c :: r ∧ c ∉ ([42, 43, 63, 123, 124, 41] : List UInt8)
structure PcOk (q : Pc) : Prop where
  at_ : PieceAt q.l q.t q.n
  start : Starts q.l
  cat : q.t.k ≠ 4
  empty : q.t.k ≠ 0
def textOf : List Pc → List UInt8
  | [] => []
  | q :: r => q.l ++ textOf r
def EndsBranch (r : List UInt8) : Prop := r = [] ∨ r.head? = some 124 ∨ r.head? = some 41
theorem EndsBranch.no {r : List UInt8} (h : EndsBranch r) : ∀ c, r.head? = some c → c ∉ ([42, 43, 63, 123] : List UInt8) := by
  intro c hc
  rcases h with rfl | h | h
  · cases hc
  · rw [h] at hc; cases hc; decide
  · rw [h] at hc; cases hc; decide
theorem next_no {todo : List Pc} (h : ∀ q, q ∈ todo → PcOk q) {rest : List UInt8} (he : EndsBranch rest) : ∀ c, (textOf todo ++ rest).head? = some c → c ∉ ([42, 43, 63, 123] : List UInt8) := by
  cases todo with
  | nil => exact he.no
  | cons q tl =>
    obtain ⟨c0, r, e, hn⟩ := (h q List.mem_cons_self).start
    intro c hc
    rw [show textOf (q :: tl) = q.l ++ textOf tl from rfl, e] at hc
    simp only [List.cons_append, List.head?_cons, Option.some.injEq] at hc
    subst hc
    exact fun hm => hn (List.mem_append_left [124, 41] hm)

/-- Where the reading of a branch stands. -/
structure BrA (ps done todo : List Pc) (s : ByteArray) (k kk d : Nat) (rest : List UInt8) : Prop where
  all : ps = done ++ todo
  ok : ∀ q, q ∈ todo → PcOk q
  fine : ∀ q, q ∈ done → d + q.n ≤ 20 ∧ PcOk q
  drop : s.data.toList.drop kk = textOf todo ++ rest
  le : kk ≤ s.size
  len : kk + (textOf todo).length = k + (textOf ps).length
structure BrM (wr w : World) (p : Nat) (s : ByteArray) (kk d : Nat) (lv : Value) (done : List Pc) (cs : Nat → Array Value) : Prop where
  rdr : Rdr wr p s kk d
  box : Box wr w.heap.size zeroR
  own : OwnTrees wr (w.heap.size + 1) lv (done.map (·.t)) cs
  but : But p w wr
theorem BrM.after {wr w V : World} {p : Nat} {s : ByteArray} {kk d : Nat} {lv : Value} {done : List Pc} {cs : Nat → Array Value} (h : BrM wr w p s kk d lv done cs) (hb : Below wr.heap.size wr V) : BrM V w p s kk d lv done cs :=
  ⟨h.rdr.after hb, h.box.after hb, h.own.after hb, h.but.then hb⟩

set_option maxRecDepth 100000 in
set_option maxHeartbeats 1000000 in
theorem branch_walk (ps : List Pc) (hps : ∀ q, q ∈ ps → PcOk q) (hlen : ps.length ≤ 400) (s : ByteArray) (k d p : Nat) (w : World) (rest : List UInt8) (hdrop : s.data.toList.drop k = textOf ps ++ rest) (hrest : EndsBranch rest)
    (hs : s.size ≤ 400) (hks : k ≤ s.size) (hd : d ≤ 20) (hr : Rdr w p s k d) (P : Ending → World → Prop)
    (hGo : (∀ q, q ∈ ps → d + q.n ≤ 20) → ∀ e w', Went p s (k + (textOf ps).length) d (joinT 4 (ps.map (·.t))) w e w' → P e w')
    (hFell : (∃ q, q ∈ ps ∧ 20 < d + q.n) → ∀ e w', Fell p w e w' → P e w') :
    Calls Tryz.prog 32 #[.pointer (some ⟨p, 0, none⟩)] w P := by
  have HGo := Lib.hid hGo
  have HFell := Lib.hid hFell
  have HE := Lib.hid hrest
  have S0 : Hid (BrA ps [] ps s k k d rest) := Lib.hid ⟨rfl, hps, (fun q h => absurd h (by simp)), hdrop, hks, rfl⟩
  have HL := Lib.hid hlen
  have HI := info_re
  have hlt := hr.lt
  clear hGo hFell hrest hdrop hps hlen
  go_enter Tryz.func32, Tryz.ntmps32
  go_upto_region 1 with (fail)
  obtain ⟨W, hW, hX, hB, hsz⟩ := re_box w zeroR
  change Code.wp _ _ _ _ (w.alloc (Obj.cells zeroR 38))
  rw [← hW]
  clear hW
  have M0 : Hid (BrM W w p s k d (.slice none 0 0) [] (fun _ => zeroR)) := Lib.hid ⟨hr.after hB.out, hX.out, own_nil _ _ _, .of hB.out⟩
  go_wp2_with fail
  go_loopg [3] ps.length (fun q lv wr => ∃ (done todo : List Pc) (kk : Nat) (cs : Nat → Array Value), Hid (todo.length = q) ∧ Hid (BrA ps done todo s k kk d rest) ∧ Hid (BrM wr w p s kk d lv done cs))
  case atStart => exact ⟨[], ps, k, _, Lib.hid rfl, S0, M0⟩
  case round =>
    obtain ⟨done, todo, kk, cs, hq, hA, hM⟩ := hrel
    have c0 := hM.out.rdr.c0; have c1 := hM.out.rdr.c1
    have HC := Lib.hid (fun w (h : Rdr w p s kk d) => comes_spec p s ⟨#[124, 41]⟩ kk d w h hA.out.le)
    cases todo with
    | nil =>
      rcases HE.out with he | he
      · have hkk0 : kk = s.size := by
          have := drop_le hA.out.drop hA.out.le
          rw [he] at this
          simpa [textOf] using this
        have hdd : decide ((kk : Int) < s.size) = false := decide_eq_false (by omega)
        clear HC
        go_wp2_with fail
        go_quiet (fail)
        clear c0 c1 hdd
        obtain ⟨D, hD, bD⟩ : ∃ D, D = wr.drewN _ ∧ Below wr.heap.size wr D := ⟨_, rfl, drewN_below wr _⟩
        rw [← hD]
        clear hD
        have M1 := Lib.hid (hM.out.after bD)
        clear bD
        have bK := below_new D (.cells #[.int .i64 0] 3)
        have M2 := Lib.hid (M1.out.after bK)
        have hall : ps = done := by have := hA.out.all; rwa [List.append_nil] at this
        have HJ := Lib.hid (joined_spec 4 (done.map (·.t)) u3 (Up (w.heap.size + 1)) (.slice (some ⟨D.heap.size, 0, none⟩) 1 1) [0] (D.alloc (.cells #[.int .i64 0] 3)) (by rw [List.length_map, ← hall]; exact HL.out) M2.out.own.slAt
          (fun t ht => by obtain ⟨q, hq1, rfl⟩ := List.mem_map.1 ht; exact (hA.out.fine q hq1).2.cat) (fun t ht => by obtain ⟨q, hq1, rfl⟩ := List.mem_map.1 ht; simp [among, (hA.out.fine q hq1).2.empty]) (Or.inr ⟨_, _, rfl, by simp, heap_alloc_last D _⟩))
        have hD1 : (D.alloc (.cells #[.int .i64 0] 3)).heap.size = D.heap.size + 1 := World.size_alloc _ _
        have hDw := M1.out.box.lt
        clear bK
        go_wp2_with fail
        refine HJ.out.mono ?_
        rintro e w1 ⟨ds, rfl, hat, b1⟩
        have M3 := Lib.hid (M2.out.after b1)
        have T3 := Lib.hid hat
        obtain ⟨a, c, e, _⟩ := hat.opens
        have EC := Lib.hid e
        subst e
        clear b1 hat
        obtain ⟨tt, htt⟩ : ∃ tt, tt = joinT 4 (done.map (·.t)) := ⟨_, rfl⟩
        rw [← htt] at T3 EC ⊢
        have HTT := Lib.hid htt; clear htt
        have HALL := Lib.hid hall; clear hall
        go_wp2_with (refine wpList_store_row rfl 38 (.tmp 2) (.tmp 26) rfl w.heap.size (reC tt.k tt.f tt.lo tt.hi (.slice a tt.kids.length c)) rfl rfl 38 zeroR M3.out.box.row HI rfl (re_one _ _ _ _ _ _ _) ?_)
        refine bodyPost_ret (v := .agg (reC tt.k tt.f tt.lo tt.hi (.slice a tt.kids.length c))) (results_cell_row (by rfl) _ _ w.heap.size 38 _ (0, 0) _ (by rfl) (M3.out.box.setRow _).row Tryz.underlying38 (by rfl) HI) rfl ?_
        refine HGo.out (fun q hq1 => (hA.out.fine q (HALL.out ▸ hq1)).1) _ _ ?_
        have hkk : kk = k + (textOf ps).length := hA.out.len
        rw [← hkk, HALL.out, ← HTT.out]
        exact went_end ((T3.out.setRowS (fun h => by rcases h with h | h; (· have h' : w.heap.size + 1 ≤ w.heap.size := h; omega); (· omega)) _).weakS fun k hk => by
          rcases hk with h | h
          · have h' : w.heap.size + 1 ≤ k := h
            show w.heap.size ≤ k
            omega
          · show w.heap.size ≤ k
            omega) M3.out.rdr M3.out.but (Nat.le_refl _) hlt
      · have hdr : ∃ ch cr, rest = ch :: cr ∧ ch ∈ ([124, 41] : List UInt8) := by
          cases rest with
          | nil => rcases he with h | h <;> cases h
          | cons ch cr =>
            refine ⟨ch, cr, rfl, ?_⟩
            rcases he with h | h <;> (simp only [List.head?_cons, Option.some.injEq] at h; subst h; decide)
        obtain ⟨ch, cr, er, hch⟩ := hdr
        have hc := comes_yes s kk ch cr [124, 41] (by rw [hA.out.drop, er]; rfl) hch
        have hlt2 : kk < s.size := by
          have := drop_le hA.out.drop hA.out.le
          rw [er] at this
          simp [textOf] at this
          omega
        rw [show (⟨#[124, 41]⟩ : ByteArray).data.toList = [124, 41] from rfl, hc] at HC
        have hdd : decide ((kk : Int) < s.size) = true := decide_eq_true (by omega)
        clear hc er hch ch cr
        go_wp2_with fail
        go_quiet ((go_at_call 33; exact Calls.quiet_of (HC.out _ (hM.out.rdr.after (drewN_below _ _)))))
        clear HC
        clear c0 c1 hdd
        obtain ⟨D, hD, bD⟩ : ∃ D, D = wr.drewN _ ∧ Below wr.heap.size wr D := ⟨_, rfl, drewN_below wr _⟩
        rw [← hD]
        clear hD
        have M1 := Lib.hid (hM.out.after bD)
        clear bD
        have bK := below_new D (.cells #[.int .i64 0] 3)
        have M2 := Lib.hid (M1.out.after bK)
        have hall : ps = done := by have := hA.out.all; rwa [List.append_nil] at this
        have HJ := Lib.hid (joined_spec 4 (done.map (·.t)) u3 (Up (w.heap.size + 1)) (.slice (some ⟨D.heap.size, 0, none⟩) 1 1) [0] (D.alloc (.cells #[.int .i64 0] 3)) (by rw [List.length_map, ← hall]; exact HL.out) M2.out.own.slAt
          (fun t ht => by obtain ⟨q, hq1, rfl⟩ := List.mem_map.1 ht; exact (hA.out.fine q hq1).2.cat) (fun t ht => by obtain ⟨q, hq1, rfl⟩ := List.mem_map.1 ht; simp [among, (hA.out.fine q hq1).2.empty]) (Or.inr ⟨_, _, rfl, by simp, heap_alloc_last D _⟩))
        have hD1 : (D.alloc (.cells #[.int .i64 0] 3)).heap.size = D.heap.size + 1 := World.size_alloc _ _
        have hDw := M1.out.box.lt
        clear bK
        go_wp2_with fail
        refine HJ.out.mono ?_
        rintro e w1 ⟨ds, rfl, hat, b1⟩
        have M3 := Lib.hid (M2.out.after b1)
        have T3 := Lib.hid hat
        obtain ⟨a, c, e, _⟩ := hat.opens
        have EC := Lib.hid e
        subst e
        clear b1 hat
        obtain ⟨tt, htt⟩ : ∃ tt, tt = joinT 4 (done.map (·.t)) := ⟨_, rfl⟩
        rw [← htt] at T3 EC ⊢
        have HTT := Lib.hid htt; clear htt
        have HALL := Lib.hid hall; clear hall
        go_wp2_with (refine wpList_store_row rfl 38 (.tmp 2) (.tmp 26) rfl w.heap.size (reC tt.k tt.f tt.lo tt.hi (.slice a tt.kids.length c)) rfl rfl 38 zeroR M3.out.box.row HI rfl (re_one _ _ _ _ _ _ _) ?_)
        refine bodyPost_ret (v := .agg (reC tt.k tt.f tt.lo tt.hi (.slice a tt.kids.length c))) (results_cell_row (by rfl) _ _ w.heap.size 38 _ (0, 0) _ (by rfl) (M3.out.box.setRow _).row Tryz.underlying38 (by rfl) HI) rfl ?_
        refine HGo.out (fun q hq1 => (hA.out.fine q (HALL.out ▸ hq1)).1) _ _ ?_
        have hkk : kk = k + (textOf ps).length := hA.out.len
        rw [← hkk, HALL.out, ← HTT.out]
        exact went_end ((T3.out.setRowS (fun h => by rcases h with h | h; (· have h' : w.heap.size + 1 ≤ w.heap.size := h; omega); (· omega)) _).weakS fun k hk => by
          rcases hk with h | h
          · have h' : w.heap.size + 1 ≤ k := h
            show w.heap.size ≤ k
            omega
          · show w.heap.size ≤ k
            omega) M3.out.rdr M3.out.but (Nat.le_refl _) hlt
    | cons q tl =>
      obtain ⟨ch, cr, ech, hch⟩ := (hA.out.ok q List.mem_cons_self).start
      have hdr : s.data.toList.drop kk = q.l ++ (textOf tl ++ rest) := by rw [hA.out.drop]; simp [textOf]
      have hc := comes_no s kk (q.l ++ (textOf tl ++ rest)) [124, 41] hdr (by
        rw [ech]
        intro c hc hm
        simp only [List.cons_append, List.head?_cons, Option.some.injEq] at hc
        subst hc
        exact hch (List.mem_append_right [42, 43, 63, 123] hm))
      rw [show (⟨#[124, 41]⟩ : ByteArray).data.toList = [124, 41] from rfl, hc] at HC
      have hlt2 : kk < s.size := by
        have := drop_le hdr hA.out.le
        rw [ech] at this
        simp at this
        omega
      have hdd : decide ((kk : Int) < s.size) = true := decide_eq_true (by omega)
      have HN : Hid (s.data.toList.drop (kk + q.l.length) = textOf tl ++ rest ∧ kk + q.l.length ≤ s.size) := Lib.hid ⟨drop_next hdr, by have := drop_le hdr hA.out.le; rw [List.length_append] at this; omega⟩
      have HP := Lib.hid (fun w (h : Rdr w p s kk d) => (hA.out.ok q List.mem_cons_self).at_ s kk d p w (textOf tl ++ rest) hdr (next_no (fun x hx => hA.out.ok x (List.mem_cons_of_mem _ hx)) HE.out) hs hA.out.le hd h)
      clear hc hdr ech hch ch cr
      go_wp2_with fail
      go_quiet ((go_at_call 33; exact Calls.quiet_of (HC.out _ (hM.out.rdr.after (drewN_below _ _)))))
      clear c0 c1 HC hdd
      obtain ⟨D, hD, bD⟩ : ∃ D, D = wr.drewN _ ∧ Below wr.heap.size wr D := ⟨_, rfl, drewN_below wr _⟩
      rw [← hD]
      clear hD
      have M1 := Lib.hid (hM.out.after bD)
      clear bD
      by_cases hn : d + q.n ≤ 20
      · have HP1 := Lib.hid (fun w h => (HP.out w h).1 hn)
        go_wp2_with fail
        refine (HP1.out _ M1.out.rdr).mono ?_
        rintro e w1 ⟨ds, rfl, hat, R1, b1⟩
        have X1 := Lib.hid (M1.out.box.but b1 (by omega))
        have O1 := Lib.hid (M1.out.own.but b1 (by omega))
        have B1 := Lib.hid (M1.out.but.trans b1)
        have R2 := Lib.hid R1
        have T1 := Lib.hid hat
        have hw1 := b1.size
        have hx1 := M1.out.box.lt
        have hvl : Hid (∀ k, u3.ownBlock = some k → k < D.heap.size) := Lib.hid fun k hk => (M1.out.own.row.lt k hk).2
        obtain ⟨a, c, e, _⟩ := hat.opens
        subst e
        clear b1 R1 hat
        have hbe := below_new w1 (.cells (reC q.t.k q.t.f q.t.lo q.t.hi (.slice a q.t.kids.length c)) 38)
        have hse : (w1.alloc (.cells (reC q.t.k q.t.f q.t.lo q.t.hi (.slice a q.t.kids.length c)) 38)).heap.size = w1.heap.size + 1 := World.size_alloc _ _
        have O2 := Lib.hid (O1.out.after hbe)
        have row5 : Hid ((w1.alloc (.cells (reC q.t.k q.t.f q.t.lo q.t.hi (.slice a q.t.kids.length c)) 38)).heap[w1.heap.size]? = some (.cells (reC q.t.k q.t.f q.t.lo q.t.hi (.slice a q.t.kids.length c)) 38 (0, 0))) := Lib.hid (heap_alloc_last w1 _)
        obtain ⟨i0, hi0', hz0, hz1, hz2⟩ := info_parts info_re3
        have hdl : Hid ((done.map (·.t)).length = done.length ∧ done.length + 1 ≤ 400) := Lib.hid ⟨by simp, by have := HL.out; rw [hA.out.all] at this; simp at this; omega⟩
        have BE := Lib.hid hbe
        clear hbe
        simp only [reC]
        go_wp2_with (at_builtin; refine wpList_append_own_at _ rfl _ _ 36 rfl (w.heap.size + 1) 38 i0 (.agg #[.int .i64 0, .int .u64 0, .int .u64 0, .int .u64 0, .int .u64 0, .int .i64 0, .int .i64 0, .slice none 0 0]) 8 80 Tryz.underlying36 hi0' hz0 hz1 hz2 rfl (by decide) _ _ _ rfl O2.out.row ⟨w1.heap.size, 0, none⟩ 1 1 (reC q.t.k q.t.f q.t.lo q.t.hi (.slice a q.t.kids.length c)).toList rfl rfl ?c1 ?c2 ?c3 ?c4 ?c5 ?_)
        case c1 =>
          intro j u hj
          have e : (⟨w1.heap.size, 0, none⟩ : Addr).add j = ⟨w1.heap.size, j, none⟩ := by unfold Addr.add; split <;> simp_all
          rw [e]
          exact (cell_of_row _ _ j _ _ _ row5.out).trans (by simpa using hj)
        case c2 =>
          intro u hu
          have h := re_one q.t.k q.t.f q.t.lo q.t.hi a q.t.kids.length c
          rw [Array.all_eq_true_iff_forall_mem] at h
          exact h u (by simpa using hu)
        case c3 => have := hdl.out; unfold maxLen; omega
        case c4 => have := hdl.out; omega
        case c5 => rw [World.size_alloc]; omega
        intro v' w4 hown' hgrow _ hwhere
        have hgrow' : (w1.alloc (.cells (reC q.t.k q.t.f q.t.lo q.t.hi (.slice a q.t.kids.length c)) 38)).grownBy w4 _ := hgrow
        have hwhere' : v'.ownBlock = u3.ownBlock ∨ v'.ownBlock = some (w1.alloc (.cells (reC q.t.k q.t.f q.t.lo q.t.hi (.slice a q.t.kids.length c)) 38)).heap.size := hwhere.imp id (fun h => by rw [World.size_alloc]; exact h)
        have OW := Lib.hid (O2.out.snoc (T1.out.after BE.out) (by omega) hvl.out (by rw [hdl.out.1]; exact hown') hgrow' hwhere')
        have hng : ∀ k, k < w1.heap.size → (∀ j, u3.ownBlock = some j → j ≠ k) → w4.heap[k]? = w1.heap[k]? := fun k hk hne =>
          (hgrow'.block k (by omega) (fun e => hne k e.symm rfl)).trans (BE.out.block k hk)
        have hge3 : ∀ k, u3.ownBlock = some k → w.heap.size + 1 ≤ k := fun k hk => (O2.out.row.lt k hk).1
        have M4 : Hid (BrM w4 w p s (kk + q.l.length) d v' (done ++ [q]) (fun j => if j = (done.map (·.t)).length then reC q.t.k q.t.f q.t.lo q.t.hi (.slice a q.t.kids.length c) else cs j)) := Lib.hid ⟨⟨by
            rw [hng p (by omega) (fun j hj e => by have := hge3 j hj; omega)]; exact R2.out.row⟩, ⟨by
            rw [hng _ (by omega) (fun j hj e => by have := hge3 j hj; omega)]; exact X1.out.row⟩, by
            rw [List.map_append]; exact OW.out, ⟨hgrow'.os.trans (BE.out.os.trans B1.out.os), hgrow'.tape.trans (BE.out.tape.trans B1.out.tape), hgrow'.output.trans (BE.out.output.trans B1.out.output), Nat.le_trans B1.out.size (Nat.le_trans BE.out.size hgrow'.size), fun k hk hp =>
              (hng k (by omega) (fun j hj e => by have := hge3 j hj; omega)).trans (B1.out.block k hk hp)⟩⟩
        clear hown' hgrow hgrow' hwhere hwhere' hng hge3
        go_wp2_with fail
        go_roundg tl.length
        case measure => have := hq.out; rw [List.length_cons] at this; omega
        case rel =>
          refine ⟨done ++ [q], tl, kk + q.l.length, _, Lib.hid rfl, Lib.hid ⟨?_, fun x hx => hA.out.ok x (List.mem_cons_of_mem _ hx), fun x hx => ?_, HN.out.1, HN.out.2, ?_⟩, M4⟩
          · rw [hA.out.all]; simp
          · rcases List.mem_append.1 hx with h | h
            · exact hA.out.fine x h
            · obtain rfl := List.mem_singleton.1 h
              exact ⟨hn, hA.out.ok x List.mem_cons_self⟩
          · rw [← hA.out.len]
            simp only [textOf, List.length_append]
            omega
      · have HP2 := Lib.hid (fun w h => (HP.out w h).2 (by omega))
        have HB : Hid (∃ q, q ∈ ps ∧ 20 < d + q.n) := Lib.hid ⟨q, by rw [hA.out.all]; simp, by omega⟩
        go_wp2_with fail
        refine (HP2.out _ M1.out.rdr).mono ?_
        rintro e w1 ⟨a, rfl, b1⟩
        have B1 := Lib.hid (M1.out.but.trans b1)
        clear b1
        go_wp2_with fail
        exact ⟨rfl, HFell.out HB.out _ _ ⟨a, rfl, B1.out⟩⟩
end Go.Proofs.YtimipfdknfdbdaaGreat.E5
