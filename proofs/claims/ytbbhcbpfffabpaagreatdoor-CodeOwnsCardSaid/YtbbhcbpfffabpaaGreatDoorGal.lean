/- Merged by program: T3RefD, T3RefE, T3RefJ, T3RefL. -/
import Derived.Deep.RegionHeld3
import Derived.Deep.RegionWith
import Derived.Deep.OwnRows
import Derived.Laws.AppendOwnNone
import Derived.Test.YtbbhcbpfffabpaaGreatDoorGak
/- Contracts of the document's answers for numbers: a number's digits. -/
namespace Go.Proofs.YtbbhcbpfffabpaaGreatDoor.T3
open Go.Proofs.YtbbhcbpfffabpaaGreatDoor Go.Proofs
open Go.RowKit

structure Two (w : World) (b : Nat) (x y : Value) : Prop where
  c0 : w.cell? ⟨b, 0, none⟩ = some x
  c1 : w.cell? ⟨b, 1, none⟩ = some y
  f0 : w.frozen? ⟨b, 0, none⟩ = false
  f1 : w.frozen? ⟨b, 1, none⟩ = false

theorem Two.below {w w' : World} {b B : Nat} {x y : Value} (h : Two w b x y) (hb : Below B w w') (hlt : b < B) : Two w' b x y :=
  ⟨by rw [hb.cell (p := ⟨b, 0, none⟩) hlt]; exact h.c0, by rw [hb.cell (p := ⟨b, 1, none⟩) hlt]; exact h.c1, by rw [hb.frozen (p := ⟨b, 0, none⟩) hlt]; exact h.f0, by rw [hb.frozen (p := ⟨b, 1, none⟩) hlt]; exact h.f1⟩

theorem two_new (w : World) (x y : Value) (t : TypeId) : Two (w.alloc (.cells #[x, y] t)) w.heap.size x y := by
  refine ⟨?_, ?_, ?_, ?_⟩ <;> simp [go_sem]

theorem Two.other {w : World} {b : Nat} {x y : Value} (h : Two w b x y) {a : Addr} (ha : a.block ≠ b) (v : Value) : Two (w.setCell a v) b x y :=
  ⟨by rw [cell_other (by rintro rfl; exact ha rfl)]; exact h.c0, by rw [cell_other (by rintro rfl; exact ha rfl)]; exact h.c1, by simp [h.f0], by simp [h.f1]⟩

theorem Two.set1 {w : World} {b : Nat} {x y : Value} (h : Two w b x y) (v : Value) : Two (w.setCell ⟨b, 1, none⟩ v) b x v :=
  ⟨by rw [cell_other (by intro e; injection e with e1 e2; omega)]; exact h.c0, cell_same h.c1, by simp [h.f0], by simp [h.f1]⟩
theorem Two.set0 {w : World} {b : Nat} {x y : Value} (h : Two w b x y) (v : Value) : Two (w.setCell ⟨b, 0, none⟩ v) b v y :=
  ⟨cell_same h.c0, by rw [cell_other (by intro e; injection e with e1 e2; omega)]; exact h.c1, by simp [h.f0], by simp [h.f1]⟩

set_option maxRecDepth 100000 in
/-- append of one digit to a row whose block is base or behind. -/
theorem wp_append_base {ops : Array Oper} {rest : List Oper} {o : Oper} {a : Act} {Q : Exit → Act → World → Prop} (hgd : o.guard = none) (s x : Operand)
    (ho : o.op = .call { callee := .builtin .append, args := #[s, x], argTypes := #[60, 60] }) (base : Nat) (w : World) (v : Value) (k : Nat) (l : List Nat) (D : Int) (d : Nat)
    (hs : a.eval s = v) (hown : w.ownsRow base 3 1 v k (ints l)) (hx : a.eval x = .slice (some ⟨w.heap.size, 0, none⟩) 1 1) (hd : D = d) (hk : k ≤ 1000) (hbase : base ≤ w.heap.size)
    (h : ∀ p c w', Hid (w'.ownsRow base 3 1 (.slice p (k + 1) c) (k + 1) (ints (l ++ [d]))) → Hid (Below base w w') → wpList Tryz.prog ops Q rest (a.put o.dst (.slice p (k + 1) c)) w') :
    wpList Tryz.prog ops Q (o :: rest) a (w.alloc (.cells #[.int .i64 D] 3)) := by
  obtain ⟨i0, hi, hz0, hz1, hz2⟩ := info_parts info_int
  subst hd
  refine wpList_append_own _ hgd s x 60 ho base 3 i0 (.int .i64 0) 1 8 Tryz.underlying60 hi hz0 hz1 hz2 rfl (by decide) v k (ints l) hs (hown.alloc _) ⟨w.heap.size, 0, none⟩ 1 1 [.int .i64 (d : Int)] hx rfl ?_ ?_ ?_ ?_ ?_ ?_
  · intro j u hj
    cases j with
    | zero => simp at hj; subst hj; simp [Addr.add, go_sem]
    | succ j => simp at hj
  · intro u hu; simp at hu; subst hu; rfl
  · simp only [maxLen]; omega
  · omega
  · simp; exact Nat.le_succ_of_le hbase
  · intro v' w' hown' hg _
    have e : ints (l ++ [d]) = ints l ++ [.int .i64 (d : Int)] := by simp [ints]
    rw [← e] at hown'
    obtain ⟨p, c, rfl⟩ : ∃ p c, v' = .slice p (k + 1) c := by
      rcases hown'.2 with ⟨_, h0⟩ | ⟨g, cap, cur, hv, _⟩
      · omega
      · exact ⟨_, _, hv⟩
    refine h p c w' (Lib.hid hown') (Lib.hid ?_)
    · exact ((Below.refl base w).alloc hbase _).grown hg (by simp; exact Nat.le_succ_of_le hbase) (fun j hj => (hown.lt j hj).1)

set_option maxRecDepth 100000 in
theorem own_slice {w : World} {base : Nat} {p : Option Addr} {c : Nat} {l : List Nat} {k : Nat} (h : w.ownsRow base 3 1 (.slice p k c) k (ints l)) (hl : k = l.length) (hd : Dl l) (hs : k ≤ 1000) :
    Rd w p k c l := by
  obtain ⟨p', c', e, hr, _⟩ := own_rd h hl hd hs
  injection e with e1 _ e2
  subst e1; subst e2
  exact hr

/-- The digits of n, in at most k places. -/
def dg : Nat → Nat → List Nat
  | 0, _ => []
  | k + 1, n => if n = 0 then [] else n % 10 :: dg k (n / 10)

theorem dg_dl : ∀ k n, Dl (dg k n)
  | 0, _ => Dl.nil
  | k + 1, n => by
    unfold dg
    split
    · exact Dl.nil
    · intro d hd
      rcases List.mem_cons.1 hd with h | h
      · omega
      · exact dg_dl k _ d h
theorem dg_val : ∀ k n, n < 10 ^ k → val (dg k n) = n
  | 0, n, h => by simp at h; subst h; rfl
  | k + 1, n, h => by
    unfold dg
    split
    · rename_i h0; subst h0; rfl
    · rw [Nat.pow_succ] at h
      simp only [val]
      rw [dg_val k (n / 10) (by omega)]
      omega
theorem dg_len : ∀ k n, (dg k n).length ≤ k
  | 0, _ => by simp [dg]
  | k + 1, n => by
    unfold dg
    split
    · simp
    · have := dg_len k (n / 10); simp; omega
theorem dg_zero (k : Nat) : dg k 0 = [] := by cases k <;> simp [dg]

def OfPost (a : Int) (W : World) (e : Ending) (w' : World) : Prop :=
  ∃ p n c, e = .returned (.agg #[.bool (decide (a < 0)), .slice p n c]) ∧ Rd w' p n c (dg 20 a.natAbs) ∧ Below W.heap.size W w'

structure OfInv (w wr : World) (m : Bool) (N : Nat) (n : Nat) : Prop where
  res : Two wr w.heap.size (.bool false) (.slice none 0 0)
  below : Below w.heap.size w wr
  size : w.heap.size + 2 ≤ wr.heap.size
  rest : ∃ v l j, Two wr (w.heap.size + 1) (.bool m) v ∧ wr.ownsRow (w.heap.size + 2) 3 1 v l.length (ints l) ∧ l ++ dg j n = dg 20 N ∧ l.length + j ≤ 20 ∧ n < 10 ^ j

theorem of_start (w : World) (m : Bool) (N : Nat) (hN : N < 10 ^ 20) : OfInv w ((w.alloc (.cells #[.bool false, .slice none 0 0] 62)).alloc (.cells #[.bool m, .slice none 0 0] 62)) m N N := by
  refine ⟨(two_new w _ _ _).below ((Below.refl _ _).alloc (Nat.le_refl _) _) (by simp), ((Below.refl _ _).alloc (Nat.le_refl _) _).alloc (by simp) _, by simp, .slice none 0 0, [], 20, ?_, World.ownsRow_nil _ _ _ _, rfl, by simp, hN⟩
  have := two_new (w.alloc (.cells #[.bool false, .slice none 0 0] 62)) (.bool m) (.slice none 0 0) 62
  simpa using this

theorem of_next {w wr w' : World} {m : Bool} {N n : Nat} {v v' : Value} {l : List Nat} {j : Nat} (h : OfInv w wr m N n) (hn : n ≠ 0)
    (h2 : Two wr (w.heap.size + 1) (.bool m) v) (he : l ++ dg j n = dg 20 N) (hlj : l.length + j ≤ 20) (hnj : n < 10 ^ j)
    (hown : w'.ownsRow (w.heap.size + 2) 3 1 v' (l.length + 1) (ints (l ++ [n % 10]))) (hb : Below (w.heap.size + 2) wr w') :
    OfInv w (w'.setCell ⟨w.heap.size + 1, 1, none⟩ v') m N (n / 10) := by
  obtain ⟨i, rfl⟩ : ∃ i, j = i + 1 := by
    cases j with
    | zero => simp at hnj; omega
    | succ i => exact ⟨i, rfl⟩
  refine ⟨(h.res.below hb (by omega)).other (by simp) _, (h.below.trans (hb.mono (by omega))).setCell (by simp) _, ?_, v', l ++ [n % 10], i, (h2.below hb (by omega)).set1 _, ?_, ?_, ?_, ?_⟩
  · simp [World.setCell]; exact Nat.le_trans h.size hb.size
  · have := ownsRow_setCell_below hown (a := ⟨w.heap.size + 1, 1, none⟩) (by simp) v'
    simpa using this
  · rw [← he]; simp [dg, hn]
  · simp; omega
  · rw [Nat.pow_succ] at hnj; omega

set_option maxHeartbeats 1000000 in
theorem of_any (a : Int) (w : World) (ha : Fits a) :
    Calls Tryz.prog 51 #[.int .i64 a] w (OfPost a w) := by
  obtain ⟨m, hm⟩ : ∃ m, m = decide (a < 0) := ⟨_, rfl⟩
  have hsg : a = sgn m a.natAbs := by
    rw [hm]; unfold sgn; split <;> simp_all <;> omega
  have hN : a.natAbs < 10 ^ 20 := by unfold Fits at ha; omega
  have h19 : a.natAbs ≤ 9223372036854775808 := by unfold Fits at ha; omega
  have HS := Lib.hid (of_start w m a.natAbs hN)
  have HSG := Lib.hid hsg; clear hsg
  have HM := Lib.hid hm
  unfold Fits at ha
  obtain ⟨a1, a2⟩ := ha
  go_enter Tryz.func51, Tryz.ntmps51
  go_wp2_with fail
  rw [← hm]
  clear hm hN
  go_loopw [0, 4] (fun x _ wr => ∃ n : Nat, x = .int .i64 (sgn m n) ∧ n ≤ 9223372036854775808 ∧ (m = false → n ≤ 9223372036854775807) ∧ Hid (OfInv w wr m a.natAbs n)) (fun x _ _ => (intOf x).natAbs)
  case atStart => exact ⟨a.natAbs, by rw [← HSG.out], h19, by intro h; have := HM.out; rw [h] at this; simp at this; omega, HS⟩
  case round =>
    obtain ⟨n, rfl, hn19, hn19', hinv⟩ := hrel
    obtain ⟨res, hbel, hsz, v, l, j, h2, hown, he, hlj, hnj⟩ := id hinv.out
    have r0 := res.c0; have r1 := res.c1; have r2 := res.f0; have r3 := res.f1
    have n0 := h2.c0; have n1 := h2.c1; have n2 := h2.f1
    have H2 := Lib.hid h2; clear h2
    have HO := Lib.hid hown; clear hown
    have HE := Lib.hid he; clear he
    have HB := Lib.hid hbel; clear hbel
    have HR := Lib.hid res; clear res
    by_cases hn0 : n = 0
    · subst hn0
      have hz : sgn m 0 = 0 := by cases m <;> rfl
      have hll : l = dg 20 a.natAbs := by have := HE.out; rw [dg_zero] at this; simpa using this
      have HLL := Lib.hid hll; clear hll
      obtain ⟨pp, cc, rfl, hrd, _⟩ := own_rd HO.out rfl (by rw [HLL.out]; exact dg_dl _ _) (by omega)
      have HRD := Lib.hid hrd; clear hrd
      rw [hz]
      clear hz hn19'
      go_wp2_with fail
      have t2 := (HR.out.set0 (.bool m)).set1 (.slice pp l.length cc)
      have tc0 := t2.c0
      have tc1 := t2.c1
      have own2 := ownsRow_setCell_below (ownsRow_setCell_below HO.out (a := ⟨w.heap.size, 0, none⟩) (by simp) (.bool m)) (a := ⟨w.heap.size, 1, none⟩) (by simp) (.slice pp l.length cc)
      have rd2 := own_slice own2 rfl (by rw [HLL.out]; exact dg_dl _ _) (by omega)
      have bl2 := (HB.out.setCell (p := ⟨w.heap.size, 0, none⟩) (by simp) (.bool m)).setCell (p := ⟨w.heap.size, 1, none⟩) (by simp) (.slice pp l.length cc)
      refine bodyPost_ret (v := .agg #[.bool m, .slice pp l.length cc]) (by simp [results, Tryz.results51, go_sem, tc0, tc1]) rfl ⟨pp, l.length, cc, by rw [HM.out], by rw [← HLL.out]; exact rd2, bl2⟩
    · obtain ⟨d, hd⟩ : ∃ d, d = n % 10 := ⟨_, rfl⟩
      obtain ⟨r, hr⟩ : ∃ r, r = n / 10 := ⟨_, rfl⟩
      have hd9 : d < 10 := by omega
      have hnx := fun v' w' o b => of_next (v' := v') (w' := w') hinv.out hn0 H2.out HE.out hlj hnj o b
      rw [← hd, ← hr] at hnx
      have HNX := Lib.hid hnx; clear hnx
      have hl20 : l.length + 1 ≤ 1000 := by omega
      have hrn : r < n := by omega
      have hr19 : r ≤ 9223372036854775807 := by omega
      cases m
      · have hn19'' := hn19' rfl
        clear hn19'
        have em : (n : Int) % 10 = d := by omega
        have eq : (n : Int) / 10 = r := by omega
        have hb : ((n : Int) != 0) = true := by rw [bne_iff_ne]; omega
        have EM := Lib.hid em; clear em
        have EQ := Lib.hid eq; clear eq
        clear hn0 hd hr hinv
        show Code.wp _ _ _ _ _
        rw [show sgn false n = (n : Int) from rfl]
        go_wp2_with (at_builtin; refine wp_append_base rfl _ _ rfl (w.heap.size + 2) wr v l.length l _ d rfl HO.out rfl EM.out (by omega) hsz ?_; intro vp vc w' hown' hbel'; have i0 := (H2.out.below hbel'.out (by omega)).c1; have i1 := (H2.out.below hbel'.out (by omega)).f1)
        go_roundw
        case rel => exact ⟨r, congrArg _ EQ.out, by omega, fun _ => by omega, Lib.hid (HNX.out _ _ hown'.out hbel'.out)⟩
        case measure => have := EQ.out; simp [intOf]; omega
      · have em : (-(n : Int)).tmod 10 = -(d : Int) := by rw [Int.neg_tmod, Int.tmod_eq_emod_of_nonneg (by omega)]; omega
        have eq : (-(n : Int)).tdiv 10 = -(r : Int) := by rw [Int.neg_tdiv, Int.tdiv_eq_ediv_of_nonneg (by omega)]; omega
        have hb : (-(n : Int) != 0) = true := by rw [bne_iff_ne]; omega
        clear hn19' hn0 hd hr hinv
        rw [show sgn true n = -(n : Int) from rfl]
        by_cases hd0 : d = 0
        · subst hd0
          have ED := Lib.hid (show (0 : Int) = ((0 : Nat) : Int) from rfl)
          go_wp2_with (at_builtin; refine wp_append_base rfl _ _ rfl (w.heap.size + 2) wr v l.length l _ 0 rfl HO.out rfl ED.out (by omega) hsz ?_; intro vp vc w' hown' hbel'; have i0 := (H2.out.below hbel'.out (by omega)).c1; have i1 := (H2.out.below hbel'.out (by omega)).f1)
          go_roundw
          case rel => exact ⟨r, rfl, by omega, fun h => by simp at h, Lib.hid (HNX.out _ _ hown'.out hbel'.out)⟩
          case measure => simp [intOf]; omega
        · have ED := Lib.hid (show (d : Int) = ((d : Nat) : Int) from rfl)
          go_wp2_with (at_builtin; refine wp_append_base rfl _ _ rfl (w.heap.size + 2) wr v l.length l _ d rfl HO.out rfl ED.out (by omega) hsz ?_; intro vp vc w' hown' hbel'; have i0 := (H2.out.below hbel'.out (by omega)).c1; have i1 := (H2.out.below hbel'.out (by omega)).f1)
          go_roundw
          case rel => exact ⟨r, rfl, by omega, fun h => by simp at h, Lib.hid (HNX.out _ _ hown'.out hbel'.out)⟩
          case measure => simp [intOf]; omega
end Go.Proofs.YtbbhcbpfffabpaaGreatDoor.T3

/- Contracts of the document's answers for numbers: numbers with a sign. -/
namespace Go.Proofs.YtbbhcbpfffabpaaGreatDoor.T3
open Go.Proofs.YtbbhcbpfffabpaaGreatDoor Go.Proofs
open Go.RowKit

def NPost (z : Int) (k : Nat) (W : World) (e : Ending) (w' : World) : Prop :=
  ∃ m p n c l, e = .returned (.agg #[.bool m, .slice p n c]) ∧ Rd w' p n c l ∧ sv m l = z ∧ n ≤ k ∧ Below W.heap.size W w'

theorem Rd.other {w : World} {p n c l} (h : Rd w p n c l) {a : Addr} (ha : ∀ x, p = some x → x.block ≠ a.block) (v : Value) : Rd (w.setCell a v) p n c l := by
  refine ⟨h.len, h.cap, h.size, h.digs, h.nil, ?_⟩
  rcases h.cells with hc | ⟨b, off, hp, hlt, hc⟩
  · exact Or.inl hc
  · refine Or.inr ⟨b, off, hp, by simpa [World.setCell] using hlt, fun i hi => ?_⟩
    rw [cell_other (by intro e; exact ha _ hp (by rw [e]))]
    exact hc i hi

theorem sv_add (m : Bool) (a b : List Nat) : sv m a + sv m b = if m then -((val a + val b : Nat) : Int) else ((val a + val b : Nat) : Int) := by
  cases m <;> simp [sv] <;> omega

theorem sv_not (m : Bool) (l : List Nat) : sv (!m) l = - sv m l := by
  cases m <;> simp [sv]

structure Three (w w3 : World) (x0 y0 x1 y1 x2 y2 : Value) : Prop where
  t0 : Two w3 w.heap.size x0 y0
  t1 : Two w3 (w.heap.size + 1) x1 y1
  t2 : Two w3 (w.heap.size + 1 + 1) x2 y2
  below : Below w.heap.size w w3
  size : w3.heap.size = w.heap.size + 3

structure Later (w w3 : World) (x0 y0 x1 y1 x2 y2 : Value) : Prop where
  t0 : Two w3 w.heap.size x0 y0
  t1 : Two w3 (w.heap.size + 1) x1 y1
  t2 : Two w3 (w.heap.size + 1 + 1) x2 y2
  below : Below w.heap.size w w3
  size : w.heap.size + 3 ≤ w3.heap.size

theorem Three.later {w w3 w5 : World} {x0 y0 x1 y1 x2 y2 : Value} (h : Three w w3 x0 y0 x1 y1 x2 y2) (hb : Below w3.drew.heap.size w3.drew w5) : Later w w5 x0 y0 x1 y1 x2 y2 := by
  have hb' : Below w3.heap.size w3 w5 := (Below.refl _ _).drew.trans hb
  have hs := h.size
  have hz := hb'.size
  exact ⟨h.t0.below hb' (by omega), h.t1.below hb' (by omega), h.t2.below hb' (by omega), h.below.trans (hb'.mono (by omega)), by omega⟩

theorem three_new (w : World) (x0 y0 x1 y1 x2 y2 : Value) :
    ∃ w3, w3 = ((w.alloc (.cells #[x0, y0] 62)).alloc (.cells #[x1, y1] 62)).alloc (.cells #[x2, y2] 62) ∧ Three w w3 x0 y0 x1 y1 x2 y2 := by
  refine ⟨_, rfl, ?_⟩
  have a1 := (Below.refl (w.alloc (.cells #[x0, y0] 62)).heap.size (w.alloc (.cells #[x0, y0] 62))).alloc (Nat.le_refl _) (.cells #[x1, y1] 62)
  have a2 := (Below.refl ((w.alloc (.cells #[x0, y0] 62)).alloc (.cells #[x1, y1] 62)).heap.size _).alloc (Nat.le_refl _) (.cells #[x2, y2] 62)
  have t0 := two_new w x0 y0 62
  have t1 := two_new (w.alloc (.cells #[x0, y0] 62)) x1 y1 62
  have t2 := two_new ((w.alloc (.cells #[x0, y0] 62)).alloc (.cells #[x1, y1] 62)) x2 y2 62
  simp only [World.size_alloc] at t1 t2 a1 a2
  refine ⟨(t0.below a1 (by omega)).below a2 (by omega), t1.below a2 (by omega), t2, ?_, by simp only [World.size_alloc]⟩
  have a0 := (Below.refl w.heap.size w).alloc (Nat.le_refl _) (.cells #[x0, y0] 62)
  exact (a0.trans (a1.mono (by omega))).trans (a2.mono (by omega))

theorem n_end {w w5 : World} {x0 y0 x1 y1 x2 y2 : Value} {pp : Option Addr} {nn cc : Nat} {l : List Nat} (T : Later w w5 x0 y0 x1 y1 x2 y2) (u : Value) (h : Rd w5 pp nn cc l) (hf : ∀ x, pp = some x → x.block ≠ w.heap.size + 1 + 1) :
    ((w5.setCell ⟨w.heap.size + 1 + 1, 0, none⟩ u).setCell ⟨w.heap.size + 1 + 1, 1, none⟩ (.slice pp nn cc)).cell? ⟨w.heap.size + 1 + 1, 0, none⟩ = some u ∧
    ((w5.setCell ⟨w.heap.size + 1 + 1, 0, none⟩ u).setCell ⟨w.heap.size + 1 + 1, 1, none⟩ (.slice pp nn cc)).cell? ⟨w.heap.size + 1 + 1, 1, none⟩ = some (.slice pp nn cc) ∧
    Rd ((w5.setCell ⟨w.heap.size + 1 + 1, 0, none⟩ u).setCell ⟨w.heap.size + 1 + 1, 1, none⟩ (.slice pp nn cc)) pp nn cc l ∧
    Below w.heap.size w ((w5.setCell ⟨w.heap.size + 1 + 1, 0, none⟩ u).setCell ⟨w.heap.size + 1 + 1, 1, none⟩ (.slice pp nn cc)) := by
  have t := (T.t2.set0 u).set1 (.slice pp nn cc)
  exact ⟨t.c0, t.c1, (h.other hf _).other hf _, (T.below.setCell (by simp; omega) _).setCell (by simp; omega) _⟩

end Go.Proofs.YtbbhcbpfffabpaaGreatDoor.T3

/- Contracts of the document's answers for numbers: quotients. -/
namespace Go.Proofs.YtbbhcbpfffabpaaGreatDoor.T3
open Go.Proofs.YtbbhcbpfffabpaaGreatDoor Go.Proofs
open Go.RowKit

theorem Later.later {w w3 w5 : World} {x0 y0 x1 y1 x2 y2 : Value} (h : Later w w3 x0 y0 x1 y1 x2 y2) (hb' : Below w3.heap.size w3 w5) : Later w w5 x0 y0 x1 y1 x2 y2 := by
  have hs := h.size
  have hz := hb'.size
  exact ⟨h.t0.below hb' (by omega), h.t1.below hb' (by omega), h.t2.below hb' (by omega), h.below.trans (hb'.mono (by omega)), by omega⟩

theorem ints_set (l : List Nat) (j d : Nat) : (ints l).set j (.int .i64 (d : Int)) = ints (l.set j d) := by
  simp [ints, List.map_set]

set_option maxRecDepth 100000 in
theorem wp_append_rest {ops : Array Oper} {rest : List Oper} {o : Oper} {a : Act} {Q : Exit → Act → World → Prop} (hgd : o.guard = none) (s x : Operand)
    (ho : o.op = .call { callee := .builtin .append, args := #[s, x], argTypes := #[60, 60] }) (w : World) (r : Option Addr) (n t : Nat) (lr : List Nat) (X : Int) (d : Nat) (hd : X = d)
    (hrd : Rd w r n t lr) (hn : n ≤ 500) (hs : a.eval s = .slice (some ⟨w.heap.size, 0, none⟩) 1 1) (hx : a.eval x = .slice r n t)
    (h : ∀ p c w', Hid (w'.ownsRow w.heap.size 3 1 (.slice p (n + 1) c) (n + 1) (ints (d :: lr))) → Hid (Below w.heap.size w w') → wpList Tryz.prog ops Q rest (a.put o.dst (.slice p (n + 1) c)) w') :
    wpList Tryz.prog ops Q (o :: rest) a (w.alloc (.cells #[.int .i64 X] 3)) := by
  obtain ⟨i0, hi, hz0, hz1, hz2⟩ := info_parts info_int
  subst hd
  have hown := World.ownsRow_lit (base := w.heap.size) (e := 3) (size := 1) w #[.int .i64 (d : Int)] 1 (Nat.le_refl _) (by simp only [maxLen]; omega) (by simp)
  have hb0 := (Below.refl w.heap.size w).alloc (Nat.le_refl _) (.cells #[.int .i64 (d : Int)] 3)
  have e : ints (d :: lr) = [.int .i64 (d : Int)] ++ ints lr := by simp [ints]
  cases r with
  | none =>
    have ht := hrd.nil rfl
    have hl : lr = [] := by
      rcases hrd.cells with h | ⟨b, off, h, _⟩
      · exact h
      · simp at h
    have hn0 : n = 0 := by rw [hrd.len, hl]; rfl
    subst hl; subst hn0; subst ht
    refine wpList_append_own_none hgd s x 60 ho w.heap.size 3 i0 1 Tryz.underlying60 hi _ 1 _ hs hown hx ?_
    refine h _ 1 _ (Lib.hid ?_) (Lib.hid hb0)
    rw [e]; simpa [ints] using hown
  | some ad =>
    refine wpList_append_own _ hgd s x 60 ho w.heap.size 3 i0 (.int .i64 0) 1 8 Tryz.underlying60 hi hz0 hz1 hz2 rfl (by decide) _ 1 _ hs hown ad n t (ints lr) hx ?_ ?_ ?_ ?_ ?_ ?_ ?_
    · rw [hrd.len]; simp [ints]
    · intro j u hj
      have hjl : j < lr.length := by
        have := (List.getElem?_eq_some_iff.1 hj).1
        simpa [ints] using this
      rcases hrd.cells with hc | ⟨b, off, hp, hlt, hc⟩
      · rw [hc] at hjl; simp at hjl
      · injection hp with hp
        subst hp
        have ea : Addr.add ⟨b, off, none⟩ j = ⟨b, off + j, none⟩ := by
          unfold Addr.add
          split
          · simp [*]
          · rfl
        rw [ea, World.cell?_alloc_past _ _ _ hlt, hc j hjl, ← hj]
        unfold ints
        rw [List.getElem?_map, List.getElem?_eq_getElem hjl, List.getD_eq_getElem?_getD, List.getElem?_eq_getElem hjl]
        rfl
    · intro u hu
      unfold ints at hu
      obtain ⟨y, _, rfl⟩ := List.mem_map.1 hu
      rfl
    · simp only [maxLen]; omega
    · omega
    · simp
    · intro v' w' hown' hg _
      have e2 : ([Value.int .i64 (d : Int)] : List Value) ++ ints lr = ints (d :: lr) := by simp [ints]
      rw [show (#[Value.int .i64 (d : Int)] : Array Value).toList = [Value.int .i64 (d : Int)] from rfl, e2, Nat.add_comm 1 n] at hown'
      obtain ⟨p, c, rfl⟩ : ∃ p c, v' = .slice p (n + 1) c := by
        rcases hown'.2 with ⟨_, h0⟩ | ⟨g, cap, cur, hv, _⟩
        · omega
        · exact ⟨_, _, hv⟩
      exact h p c w' (Lib.hid hown') (Lib.hid (hb0.grown hg (by simp) (fun j hj => (hown.lt j hj).1)))

end Go.Proofs.YtbbhcbpfffabpaaGreatDoor.T3

/- How the document's text of a number grows, digit by digit: plain mathematics. -/
namespace Go.Proofs.YtbbhcbpfffabpaaGreatDoor.T3
open Go.Proofs.YtbbhcbpfffabpaaGreatDoor Go.Proofs
open Go.RowKit

def stepS (i d : Nat) (s : List UInt8) : List UInt8 :=
  let s1 := if i = 6 ∧ s ≠ [] then 46 :: s else s
  if 6 ≤ i ∨ s1 ≠ [] ∨ 0 < d then ddig d :: s1 else s1
/-- The text behind the digits i to i + the list's length - 1. -/
def growS : Nat → List Nat → List UInt8 → List UInt8
  | _, [], s => s
  | i, d :: l, s => growS (i + 1) l (stepS i d s)

theorem growS_snoc : ∀ (l : List Nat) (i d : Nat) (s : List UInt8), growS i (l ++ [d]) s = stepS (i + l.length) d (growS i l s)
  | [], i, d, s => by simp [growS]
  | e :: l, i, d, s => by
    simp only [List.cons_append, growS, List.length_cons]
    rw [growS_snoc l (i + 1) d]
    congr 1
    omega

theorem growS_append : ∀ (a b : List Nat) (i : Nat) (s : List UInt8), growS i (a ++ b) s = growS (i + a.length) b (growS i a s)
  | [], b, i, s => by simp [growS]
  | d :: a, b, i, s => by
    simp only [List.cons_append, growS, List.length_cons]
    rw [growS_append a b]
    congr 1
    omega

theorem ddig_mod (n : Nat) : ddig (n % 10) = ddig n := by unfold ddig; rw [Nat.mod_mod]

theorem fixD_top : ∀ (k p : Nat), fixD (k + 1) p = ddig (p / 10 ^ k) :: fixD k (p % 10 ^ k)
  | 0, p => by simp [fixD]
  | k + 1, p => by
    rw [fixD, fixD_top k (p / 10), Nat.div_div_eq_div_mul, ← Nat.pow_succ']
    rw [show fixD (k + 1) (p % 10 ^ (k + 1)) = fixD k (p % 10 ^ (k + 1) / 10) ++ [ddig (p % 10 ^ (k + 1))] from rfl]
    have h1 : p / 10 % 10 ^ k = p % 10 ^ (k + 1) / 10 := by
      rw [Nat.pow_succ', Nat.mod_mul_right_div_self]
    have h2 : ddig (p % 10 ^ (k + 1)) = ddig p := by
      unfold ddig
      rw [Nat.pow_succ', Nat.mod_mul_right_mod]
    rw [h1, h2]
    rfl

def stripZ (k p : Nat) : List UInt8 := if p = 0 then [] else strip k p

theorem stripZ_ne {k p : Nat} (hp : p ≠ 0) (h : p < 10 ^ k) : stripZ k p ≠ [] := by
  induction k generalizing p with
  | zero => simp at h; omega
  | succ k ih =>
    unfold stripZ
    rw [if_neg hp]
    unfold strip
    split
    · rename_i h0
      have h2 : p / 10 ≠ 0 := by omega
      have := ih h2 (by rw [Nat.pow_succ] at h; omega)
      unfold stripZ at this
      rw [if_neg h2] at this
      exact this
    · simp [fixD]

/-- One more digit ahead of a fraction's. -/
theorem stripZ_top : ∀ (k p : Nat), p < 10 ^ (k + 1) → stripZ (k + 1) p = if stripZ k (p % 10 ^ k) ≠ [] ∨ 0 < p / 10 ^ k then ddig (p / 10 ^ k) :: stripZ k (p % 10 ^ k) else []
  | 0, p, h => by
    simp at h
    have hs : stripZ 0 (p % 10 ^ 0) = [] := by unfold stripZ; simp [strip]
    rw [hs]
    rcases Nat.eq_zero_or_pos p with h0 | h0
    · subst h0; simp [stripZ]
    · have : p % 10 ≠ 0 := by omega
      simp [stripZ, strip, fixD, this, show p ≠ 0 from by omega, h0]
  | k + 1, p, h => by
    rcases Nat.eq_zero_or_pos p with h0 | h0
    · subst h0; simp [stripZ]
    have hpow : (10 : Nat) ^ (k + 1) = 10 * 10 ^ k := Nat.pow_succ'
    have hpos : 0 < 10 ^ k := Nat.pow_pos (by decide)
    by_cases hm : p % 10 = 0
    · have e1 : stripZ (k + 1 + 1) p = stripZ (k + 1) (p / 10) := by
        unfold stripZ
        rw [if_neg (by omega), if_neg (by omega)]
        simp [strip, hm]
      have h1 : p % 10 ^ (k + 1) / 10 = p / 10 % 10 ^ k := by rw [hpow, Nat.mod_mul_right_div_self]
      have h2 : p % 10 ^ (k + 1) % 10 = 0 := by rw [hpow, Nat.mod_mul_right_mod]; exact hm
      have e2 : stripZ (k + 1) (p % 10 ^ (k + 1)) = stripZ k (p / 10 % 10 ^ k) := by
        unfold stripZ
        rw [← h1]
        rcases Nat.eq_zero_or_pos (p % 10 ^ (k + 1)) with h3 | h3
        · rw [h3]; simp
        · rw [if_neg (by omega), if_neg (by omega)]
          simp [strip, h2]
      have e3 : p / 10 ^ (k + 1) = p / 10 / 10 ^ k := by rw [hpow, Nat.div_div_eq_div_mul]
      rw [e1, e2, e3]
      exact stripZ_top k (p / 10) (by rw [Nat.pow_succ] at h; omega)
    · have e1 : stripZ (k + 1 + 1) p = fixD (k + 1 + 1) p := by
        unfold stripZ
        rw [if_neg (by omega)]
        simp [strip, hm]
      have h2 : p % 10 ^ (k + 1) % 10 ≠ 0 := by rw [hpow, Nat.mod_mul_right_mod]; exact hm
      have h3 : p % 10 ^ (k + 1) ≠ 0 := by intro e; rw [e] at h2; simp at h2
      have e2 : stripZ (k + 1) (p % 10 ^ (k + 1)) = fixD (k + 1) (p % 10 ^ (k + 1)) := by
        unfold stripZ
        rw [if_neg h3]
        simp [strip, h2]
      have e3 : stripZ (k + 1) (p % 10 ^ (k + 1)) ≠ [] := stripZ_ne h3 (Nat.mod_lt _ (Nat.pow_pos (by decide)))
      rw [if_pos (Or.inl e3), e1, e2, fixD_top]
end Go.Proofs.YtbbhcbpfffabpaaGreatDoor.T3
