/- Merged by program: T3Tri, T3CellB, FGet, FJoin. -/
import Derived.Test.YtcojnkjcbopnbaaGreatDoorQjbk
import Derived.Test.YtcojnkjcbopnbaaGreatDoorQjbl
import Derived.Test.YtcojnkjcbopnbaaGreatDoorQjad
import Derived.Test.YtcojnkjcbopnbaaGreatDoorQjag
import Derived.Test.YtcojnkjcbopnbaaGreatDoorQjar
/- A cell's three parts in memory: kept by calls; what a region that draws its order needs. -/
namespace Go.Proofs.YtcojnkjcbopnbaaGreatDoor.T3
open Go.Proofs.YtcojnkjcbopnbaaGreatDoor Go.Proofs
open Go.RowKit

theorem cell_lt {W : World} {a : Addr} {v : Value} (h : W.cell? a = some v) : a.block < W.heap.size := by
  rcases Nat.lt_or_ge a.block W.heap.size with h' | h'
  · exact h'
  · exfalso
    have e : W.heap[a.block]? = none := Array.getElem?_eq_none h'
    simp [World.cell?, e] at h

structure Tri (w : World) (b : Nat) (x y z : Value) : Prop where
  c0 : w.cell? ⟨b, 0, none⟩ = some x
  c1 : w.cell? ⟨b, 1, none⟩ = some y
  c2 : w.cell? ⟨b, 2, none⟩ = some z
  f0 : w.frozen? ⟨b, 0, none⟩ = false
  f1 : w.frozen? ⟨b, 1, none⟩ = false
  f2 : w.frozen? ⟨b, 2, none⟩ = false

theorem Tri.lt {w : World} {b : Nat} {x y z : Value} (h : Tri w b x y z) : b < w.heap.size := cell_lt h.c0
theorem Tri.below {w w' : World} {b : Nat} {x y z : Value} (h : Tri w b x y z) (hb : Below w.heap.size w w') : Tri w' b x y z := by
  have hlt := h.lt
  exact ⟨by rw [hb.cell (p := ⟨b, 0, none⟩) hlt]; exact h.c0, by rw [hb.cell (p := ⟨b, 1, none⟩) hlt]; exact h.c1, by rw [hb.cell (p := ⟨b, 2, none⟩) hlt]; exact h.c2,
    by rw [hb.frozen (p := ⟨b, 0, none⟩) hlt]; exact h.f0, by rw [hb.frozen (p := ⟨b, 1, none⟩) hlt]; exact h.f1, by rw [hb.frozen (p := ⟨b, 2, none⟩) hlt]; exact h.f2⟩
theorem tri_new (w : World) (x y z : Value) (t : TypeId) : Tri (w.alloc (.cells #[x, y, z] t)) w.heap.size x y z := by
  refine ⟨?_, ?_, ?_, ?_, ?_, ?_⟩ <;> simp [go_sem]
theorem below_new (w : World) (o : Obj) : Below w.heap.size w (w.alloc o) := (Below.refl _ _).alloc (Nat.le_refl _) o
theorem below_drew (w : World) : Below w.heap.size w w.drew := (Below.refl _ _).drew

theorem Tri.after {w w' : World} {b : Nat} {x y z : Value} (h : Tri w b x y z) (hb : Below w.drew.heap.size w.drew w') : Tri w' b x y z := (h.below (below_drew w)).below hb
theorem Below.after {w0 w w' : World} (h : Below w0.heap.size w0 w) (hb : Below w.drew.heap.size w.drew w') : Below w0.heap.size w0 w' := Below.step (Below.step h (below_drew w)) hb
/-- The result's cell, stored to. -/
theorem tri_end {w W : World} {x y z : Value} (T : Tri W w.heap.size x y z) (hb : Below w.heap.size w W) (k n s : Value) :
    (((W.setCell ⟨w.heap.size, 0, none⟩ k).setCell ⟨w.heap.size, 1, none⟩ n).setCell ⟨w.heap.size, 2, none⟩ s).cell? ⟨w.heap.size, 0, none⟩ = some k ∧
    (((W.setCell ⟨w.heap.size, 0, none⟩ k).setCell ⟨w.heap.size, 1, none⟩ n).setCell ⟨w.heap.size, 2, none⟩ s).cell? ⟨w.heap.size, 1, none⟩ = some n ∧
    (((W.setCell ⟨w.heap.size, 0, none⟩ k).setCell ⟨w.heap.size, 1, none⟩ n).setCell ⟨w.heap.size, 2, none⟩ s).cell? ⟨w.heap.size, 2, none⟩ = some s ∧
    Below w.heap.size w (((W.setCell ⟨w.heap.size, 0, none⟩ k).setCell ⟨w.heap.size, 1, none⟩ n).setCell ⟨w.heap.size, 2, none⟩ s) := by
  have n01 : (⟨w.heap.size, 0, none⟩ : Addr) ≠ ⟨w.heap.size, 1, none⟩ := by intro e; injection e with e1 e2; omega
  have n02 : (⟨w.heap.size, 0, none⟩ : Addr) ≠ ⟨w.heap.size, 2, none⟩ := by intro e; injection e with e1 e2; omega
  have n12 : (⟨w.heap.size, 1, none⟩ : Addr) ≠ ⟨w.heap.size, 2, none⟩ := by intro e; injection e with e1 e2; omega
  refine ⟨?_, ?_, ?_, ((hb.setCell (by simp) _).setCell (by simp) _).setCell (by simp) _⟩
  · rw [cell_other (Ne.symm n02), cell_other (Ne.symm n01)]; exact cell_same T.c0
  · rw [cell_other (Ne.symm n12)]; exact cell_same (u := y) (by rw [cell_other n01]; exact T.c1)
  · exact cell_same (u := z) (by rw [cell_other n12, cell_other n02]; exact T.c2)

/-! ### What a region that draws its order holds: one, two, three cells -/
theorem keep1 {w0 W W' : World} {b : Nat} {x y z : Value} (h : Hid (Below w0.heap.size w0 W) ∧ W.cell? ⟨b, 0, none⟩ = some x ∧ W.cell? ⟨b, 1, none⟩ = some y ∧ W.cell? ⟨b, 2, none⟩ = some z) (hb : Below W.heap.size W W') :
    Hid (Below w0.heap.size w0 W') ∧ W'.cell? ⟨b, 0, none⟩ = some x ∧ W'.cell? ⟨b, 1, none⟩ = some y ∧ W'.cell? ⟨b, 2, none⟩ = some z := by
  obtain ⟨h0, h1, h2, h3⟩ := h
  have hlt := cell_lt h1
  exact ⟨Lib.hid (Below.step h0.out hb), by rw [hb.cell (p := ⟨b, 0, none⟩) hlt]; exact h1, by rw [hb.cell (p := ⟨b, 1, none⟩) hlt]; exact h2, by rw [hb.cell (p := ⟨b, 2, none⟩) hlt]; exact h3⟩
theorem keep2 {w0 W W' : World} {b c : Nat} {x y z x' y' z' : Value} (h : Hid (Below w0.heap.size w0 W) ∧ W.cell? ⟨b, 0, none⟩ = some x ∧ W.cell? ⟨b, 1, none⟩ = some y ∧ W.cell? ⟨b, 2, none⟩ = some z ∧ W.cell? ⟨c, 0, none⟩ = some x' ∧ W.cell? ⟨c, 1, none⟩ = some y' ∧ W.cell? ⟨c, 2, none⟩ = some z') (hb : Below W.heap.size W W') :
    Hid (Below w0.heap.size w0 W') ∧ W'.cell? ⟨b, 0, none⟩ = some x ∧ W'.cell? ⟨b, 1, none⟩ = some y ∧ W'.cell? ⟨b, 2, none⟩ = some z ∧ W'.cell? ⟨c, 0, none⟩ = some x' ∧ W'.cell? ⟨c, 1, none⟩ = some y' ∧ W'.cell? ⟨c, 2, none⟩ = some z' := by
  obtain ⟨h0, h1, h2, h3, h4⟩ := h
  obtain ⟨k0, k1, k2, k3⟩ := keep1 ⟨h0, h1, h2, h3⟩ hb
  exact ⟨k0, k1, k2, k3, (keep1 ⟨h0, h4⟩ hb).2⟩
theorem keep3 {w0 W W' : World} {b c d : Nat} {x y z x' y' z' x2 y2 z2 : Value} (h : Hid (Below w0.heap.size w0 W) ∧ W.cell? ⟨b, 0, none⟩ = some x ∧ W.cell? ⟨b, 1, none⟩ = some y ∧ W.cell? ⟨b, 2, none⟩ = some z ∧ W.cell? ⟨c, 0, none⟩ = some x' ∧ W.cell? ⟨c, 1, none⟩ = some y' ∧ W.cell? ⟨c, 2, none⟩ = some z' ∧ W.cell? ⟨d, 0, none⟩ = some x2 ∧ W.cell? ⟨d, 1, none⟩ = some y2 ∧ W.cell? ⟨d, 2, none⟩ = some z2) (hb : Below W.heap.size W W') :
    Hid (Below w0.heap.size w0 W') ∧ W'.cell? ⟨b, 0, none⟩ = some x ∧ W'.cell? ⟨b, 1, none⟩ = some y ∧ W'.cell? ⟨b, 2, none⟩ = some z ∧ W'.cell? ⟨c, 0, none⟩ = some x' ∧ W'.cell? ⟨c, 1, none⟩ = some y' ∧ W'.cell? ⟨c, 2, none⟩ = some z' ∧ W'.cell? ⟨d, 0, none⟩ = some x2 ∧ W'.cell? ⟨d, 1, none⟩ = some y2 ∧ W'.cell? ⟨d, 2, none⟩ = some z2 := by
  obtain ⟨h0, h1, h2, h3, h4⟩ := h
  obtain ⟨k0, k1, k2, k3⟩ := keep1 ⟨h0, h1, h2, h3⟩ hb
  exact ⟨k0, k1, k2, k3, (keep2 ⟨h0, h4⟩ hb).2⟩
theorem held1 {w0 W : World} {b : Nat} {x y z : Value} (hb : Below w0.heap.size w0 W) (T : Tri W b x y z) :
    Hid (Below w0.heap.size w0 W) ∧ W.cell? ⟨b, 0, none⟩ = some x ∧ W.cell? ⟨b, 1, none⟩ = some y ∧ W.cell? ⟨b, 2, none⟩ = some z := ⟨Lib.hid hb, T.c0, T.c1, T.c2⟩
theorem held2 {w0 W : World} {b c : Nat} {x y z x' y' z' : Value} (hb : Below w0.heap.size w0 W) (T : Tri W b x y z) (T' : Tri W c x' y' z') :
    Hid (Below w0.heap.size w0 W) ∧ W.cell? ⟨b, 0, none⟩ = some x ∧ W.cell? ⟨b, 1, none⟩ = some y ∧ W.cell? ⟨b, 2, none⟩ = some z ∧ W.cell? ⟨c, 0, none⟩ = some x' ∧ W.cell? ⟨c, 1, none⟩ = some y' ∧ W.cell? ⟨c, 2, none⟩ = some z' := ⟨Lib.hid hb, T.c0, T.c1, T.c2, T'.c0, T'.c1, T'.c2⟩
theorem held3 {w0 W : World} {b c d : Nat} {x y z x' y' z' x2 y2 z2 : Value} (hb : Below w0.heap.size w0 W) (T : Tri W b x y z) (T' : Tri W c x' y' z') (T2 : Tri W d x2 y2 z2) :
    Hid (Below w0.heap.size w0 W) ∧ W.cell? ⟨b, 0, none⟩ = some x ∧ W.cell? ⟨b, 1, none⟩ = some y ∧ W.cell? ⟨b, 2, none⟩ = some z ∧ W.cell? ⟨c, 0, none⟩ = some x' ∧ W.cell? ⟨c, 1, none⟩ = some y' ∧ W.cell? ⟨c, 2, none⟩ = some z' ∧ W.cell? ⟨d, 0, none⟩ = some x2 ∧ W.cell? ⟨d, 1, none⟩ = some y2 ∧ W.cell? ⟨d, 2, none⟩ = some z2 :=
  ⟨Lib.hid hb, T.c0, T.c1, T.c2, T'.c0, T'.c1, T'.c2, T2.c0, T2.c1, T2.c2⟩
theorem boxed3 (w : World) (x y z x' y' z' x2 y2 z2 : Value) (t : TypeId) :
    Hid (Below w.heap.size w (((w.alloc (.cells #[x, y, z] t)).alloc (.cells #[x', y', z'] t)).alloc (.cells #[x2, y2, z2] t))) ∧ Tri (((w.alloc (.cells #[x, y, z] t)).alloc (.cells #[x', y', z'] t)).alloc (.cells #[x2, y2, z2] t)) w.heap.size x y z ∧
    Tri (((w.alloc (.cells #[x, y, z] t)).alloc (.cells #[x', y', z'] t)).alloc (.cells #[x2, y2, z2] t)) (w.heap.size + 1) x' y' z' ∧ Tri (((w.alloc (.cells #[x, y, z] t)).alloc (.cells #[x', y', z'] t)).alloc (.cells #[x2, y2, z2] t)) (w.heap.size + 1 + 1) x2 y2 z2 := by
  have h1 := tri_new (w.alloc (.cells #[x, y, z] t)) x' y' z' t
  have h2 := tri_new ((w.alloc (.cells #[x, y, z] t)).alloc (.cells #[x', y', z'] t)) x2 y2 z2 t
  rw [World.size_alloc] at h1
  rw [World.size_alloc, World.size_alloc] at h2
  exact ⟨Lib.hid (Below.step (Below.step (below_new _ _) (below_new _ _)) (below_new _ _)), ((tri_new w x y z t).below (below_new _ _)).below (below_new _ _), h1.below (below_new _ _), h2⟩
end Go.Proofs.YtcojnkjcbopnbaaGreatDoor.T3

/- Contracts of cell.Input, Compare. -/
namespace Go.Proofs.YtcojnkjcbopnbaaGreatDoor.T3
open Go.Proofs.YtcojnkjcbopnbaaGreatDoor Go.Proofs
open Go.RowKit
open Go.Lib (compareBytes)

/-! ### Input -/
def looksB (s : ByteArray) : Bool := wholeB (trimB s)
def inK (s : ByteArray) : Int := if looksB s then 3 else 2
def inN (s : ByteArray) : Int := if looksB s then pN (trimB s).data.toList else 0

theorem dropWhile_le (p : UInt8 → Bool) : ∀ l : List UInt8, (l.dropWhile p).length ≤ l.length
  | [] => Nat.le_refl _
  | a :: l => by
    rw [List.dropWhile_cons]
    split
    · have := dropWhile_le p l; simp; omega
    · exact Nat.le_refl _
theorem trimB_size (s : ByteArray) : (trimB s).size ≤ s.size := by
  have h : (Lib.trimS s.data.toList [32, 9, 10]).length ≤ s.data.toList.length := by
    unfold Lib.trimS Lib.trimLeftS Lib.trimRightS
    refine Nat.le_trans (dropWhile_le _ _) ?_
    rw [List.length_reverse]
    refine Nat.le_trans (dropWhile_le _ _) ?_
    rw [List.length_reverse]
    exact Nat.le_refl _
  rw [Lib.size_eq, Lib.size_eq]
  exact h

set_option maxHeartbeats 400000 in
theorem input_any (s : ByteArray) (hs : s.size ≤ 281474976710656) (w : World) :
    Calls Tryz.prog 23 #[.string s] w fun e w' => e = .returned (.agg #[.int .i64 (inK s), .int .i64 (inN s), .string s]) ∧ Below w.heap.size w w' := by
  have T := Lib.hid (fun w => textTrim_any s (by simp only [maxLen]; omega) w)
  have W := Lib.hid (fun w => whole_any (trimB s) (by have := trimB_size s; omega) w)
  have O := Lib.hid (fun w => ofStr_any s w)
  have R0 := Lib.hid (tri_new w (.int .i64 0) (.int .i64 0) (.string ⟨#[]⟩) 38)
  have B0 := Lib.hid (below_new w (.cells #[.int .i64 0, .int .i64 0, .string ⟨#[]⟩] 38))
  clear hs
  unfold inK inN looksB
  cases hw : wholeB (trimB s)
  · rw [hw] at W
    rw [if_neg (by decide), if_neg (by decide)]
    clear hw
    go_enter Tryz.func23, Tryz.ntmps23
    go_wp2_with fail
    refine (T.out _).mono ?_
    rintro e w1 ⟨rfl, b1⟩
    have R1 := Lib.hid (R0.out.below b1)
    have B1 := Lib.hid (Below.step B0.out b1); clear b1
    go_wp2_with fail
    refine (W.out _).mono ?_
    rintro e w2 ⟨rfl, rfl⟩
    go_wp2_with fail
    refine (O.out _).mono ?_
    rintro e w3 ⟨rfl, b3⟩
    have R3 := R1.out.below b3
    have B3 := Lib.hid (Below.step B1.out b3); clear b3
    have c0 := R3.c0; have c1 := R3.c1; have c2 := R3.c2; have f0 := R3.f0; have f1 := R3.f1; have f2 := R3.f2
    have R3' := Lib.hid R3; clear R3
    go_wp2_with fail
    obtain ⟨e0, e1, e2, hb⟩ := tri_end R3'.out B3.out (.int .i64 2) (.int .i64 0) (.string s)
    refine bodyPost_ret (v := .agg #[.int .i64 2, .int .i64 0, .string s]) (by simp [results, Tryz.results23, go_sem, e0, e1, e2]) rfl ⟨rfl, hb⟩
  · rw [hw] at W
    rw [if_pos rfl, if_pos rfl]
    clear hw
    go_enter Tryz.func23, Tryz.ntmps23
    go_wp2_with fail
    refine (T.out _).mono ?_
    rintro e w1 ⟨rfl, b1⟩
    have R1 := Lib.hid (R0.out.below b1)
    have B1 := Lib.hid (Below.step B0.out b1); clear b1
    have c0 := R1.out.c0; have c1 := R1.out.c1; have c2 := R1.out.c2; have f0 := R1.out.f0; have f1 := R1.out.f1; have f2 := R1.out.f2
    go_wp2_with fail
    refine (W.out _).mono ?_
    rintro e w2 ⟨rfl, rfl⟩
    go_wp2_with fail
    obtain ⟨e0, e1, e2, hb⟩ := tri_end R1.out B1.out (.int .i64 3) (.int .i64 (pN (trimB s).data.toList)) (.string s)
    refine bodyPost_ret (v := .agg #[.int .i64 3, .int .i64 (pN (trimB s).data.toList), .string s]) (by simp [results, Tryz.results23, go_sem, e0, e1, e2]) rfl ⟨rfl, hb⟩

/-! ### Compare -/
def cmpC (k n : Int) (s : ByteArray) (k' n' : Int) (s' : ByteArray) : Int :=
  if k = 2 ∨ k' = 2 then compareBytes (strC k n s).data.toList (strC k' n' s').data.toList else cmpI (numC k n) (numC k' n')

theorem boxed2 (w : World) (x y z x' y' z' : Value) (t t' : TypeId) :
    Hid (Below w.heap.size w ((w.alloc (.cells #[x, y, z] t)).alloc (.cells #[x', y', z'] t'))) ∧ Tri ((w.alloc (.cells #[x, y, z] t)).alloc (.cells #[x', y', z'] t')) w.heap.size x y z ∧ Tri ((w.alloc (.cells #[x, y, z] t)).alloc (.cells #[x', y', z'] t')) (w.heap.size + 1) x' y' z' := by
  have h := tri_new (w.alloc (.cells #[x, y, z] t)) x' y' z' t'
  rw [World.size_alloc] at h
  exact ⟨Lib.hid (Below.step (below_new _ _) (below_new _ _)), (tri_new w x y z t).below (below_new _ _), h⟩

end Go.Proofs.YtcojnkjcbopnbaaGreatDoor.T3

/- fields.Rec.Get at a field: a walk. -/
namespace Go.Proofs.YtcojnkjcbopnbaaGreatDoor
open Go.RowKit

/-- What Get tells of a field. -/
def GetOut (x : ByteArray) (w : World) (e : Ending) (w' : World) : Prop :=
  ∃ K M : Int, e = .returned (.tuple #[.agg #[.int .i64 K, .int .i64 M, .string x], .int .i64 0]) ∧ Below w.heap.size w w'

set_option maxRecDepth 100000 in
theorem get_spec (k : Nat) (x : ByteArray) (p : Nat) (v : Value) (l : List ByteArray) (t : ByteArray) (st : Bool) (o : ByteArray) (w : World) (h : RecF w p v l t st o) (hk : k < 100) (hx : l[k]? = some x) (hs : x.size ≤ 1000) :
    Calls Tryz.prog 14 #[.pointer (some ⟨p, 0, none⟩), .int .i64 ((k : Int) + 1)] w (GetOut x w) := by
  have hkl : k < l.length := (List.getElem?_eq_some_iff.1 hx).1
  have HI := Lib.hid (fun w => T3.input_any x (by omega) w)
  have R0 := Lib.hid (T3.tri_new w (.int .i64 0) (.int .i64 0) (.string ⟨#[]⟩) 38)
  have B0 := Lib.hid (below_new w (.cells #[.int .i64 0, .int .i64 0, .string ⟨#[]⟩] 38))
  obtain ⟨W, hW⟩ : ∃ W, W = w.alloc (.cells #[.int .i64 0, .int .i64 0, .string ⟨#[]⟩] 38) := ⟨_, rfl⟩
  rw [← hW] at R0 B0
  have H := Lib.hid (h.after B0.out)
  obtain ⟨g, cap, rfl, hg1, hg2, _, _, _⟩ := own_set h.row (i := k) hkl (.bool true)
  have c0 := H.out.mem.c0
  have ck : W.cell? ⟨g, k, none⟩ = some (.string x) := by
    rw [H.out.row.cellAt k (by omega), List.getElem?_map, hx]
    rfl
  have d1 : decide ((k : Int) + 1 < 0) = false := decide_eq_false (by omega)
  have d2 : decide ((100 : Int) < (k : Int) + 1) = false := decide_eq_false (by omega)
  have d3 : ((k : Int) + 1 == 0) = false := beq_eq_false_iff_ne.2 (by omega)
  have d4 : decide ((l.length : Int) < (k : Int) + 1) = false := decide_eq_false (by omega)
  have ek : ((k : Int) + 1 - 1).toNat = k := by omega
  clear h hx hs
  go_enter Tryz.func14, Tryz.ntmps14
  go_upto_region 1 with (fail)
  rw [← hW]
  clear hW
  go_wp2_with fail
  refine (HI.out _).mono ?_
  rintro e w1 ⟨rfl, b1⟩
  have R1 := Lib.hid (R0.out.below b1)
  have B1 := Lib.hid (Below.step B0.out b1)
  clear b1 c0 ck
  have c0 := R1.out.c0; have c1 := R1.out.c1; have c2 := R1.out.c2; have f0 := R1.out.f0; have f1 := R1.out.f1; have f2 := R1.out.f2
  obtain ⟨K, hK⟩ : ∃ K, K = T3.inK x := ⟨_, rfl⟩
  obtain ⟨M, hM⟩ : ∃ M, M = T3.inN x := ⟨_, rfl⟩
  rw [← hK, ← hM]
  clear hK hM
  go_wp2_with fail
  obtain ⟨e0, e1, e2, hb⟩ := T3.tri_end R1.out B1.out (.int .i64 K) (.int .i64 M) (.string x)
  refine bodyPost_ret (v := .tuple #[.agg #[.int .i64 K, .int .i64 M, .string x], .int .i64 0]) (by simp [results, Tryz.results14, go_sem, e0, e1, e2]) rfl ?_
  exact ⟨K, M, rfl, hb⟩
end Go.Proofs.YtcojnkjcbopnbaaGreatDoor

/- The document's Join of layer 9: a walk. -/
namespace Go.Proofs.YtcojnkjcbopnbaaGreatDoor
open Go.RowKit

theorem bytes_app (a b : ByteArray) : (a ++ b).data.toList = a.data.toList ++ b.data.toList := by simp

set_option maxRecDepth 100000 in
theorem refJoin_spec (l : List ByteArray) (v : Value) (sep : ByteArray) (w : World) (hl : StrsAt w v l) (hsep : sep.size ≤ 1000) (hn : l.length ≤ 1000) (hlen : (sJoin sep.data.toList (bytesL l)).length ≤ 1000000) :
    Calls Tryz.prog 16 #[v, .string sep] w fun e w' => e = .returned (.string ⟨(sJoin sep.data.toList (bytesL l)).toArray⟩) ∧ w' = w := by
  have HL := Lib.hid hl
  have HLEN := Lib.hid hlen
  obtain ⟨a, c, rfl⟩ := hl.shape
  clear hl hlen
  go_enter Tryz.func16, Tryz.ntmps16
  go_wp2_with fail
  go_loopw [5, 6] (fun x y wr => ∃ (i : Nat) (X : ByteArray), x = .string X ∧ y = .int .i64 i ∧ i ≤ l.length ∧ Hid (X.data.toList = sJoin sep.data.toList (bytesL (l.take i))) ∧ wr = w) (fun _ y _ => l.length - (intOf y).toNat)
  case atStart => exact ⟨0, ⟨#[]⟩, rfl, rfl, by omega, Lib.hid (by simp [bytesL, sJoin]), rfl⟩
  case round =>
    obtain ⟨i, X, rfl, rfl, hi, hX, hwr⟩ := hrel
    subst hwr
    by_cases hlt : i < l.length
    · have d1 : decide ((i : Int) < l.length) = true := decide_eq_true (by omega)
      obtain ⟨g, e, ci⟩ := HL.out.cell i hlt
      subst e
      have htk : l.take (i + 1) = l.take i ++ [l[i]] := by rw [List.take_add_one, List.getElem?_eq_getElem hlt]; rfl
      have hXn : X.size ≤ 1000000 := by
        have h1 : X.data.toList.length = X.size := by simp
        have h2 := sJoin_le sep.data.toList (bytesL (l.take i)) (bytesL (l.drop i))
        have h3 : bytesL (l.take i) ++ bytesL (l.drop i) = bytesL l := by unfold bytesL; rw [← List.map_append, List.take_append_drop]
        rw [h3, ← hX.out] at h2
        have := HLEN.out
        omega
      obtain ⟨x, hx⟩ : ∃ x, x = l[i] := ⟨_, rfl⟩
      have hxn : x.size ≤ 1000000 := by
        have h1 := mem_join sep.data.toList (bytesL l) x.data.toList (List.mem_map.2 ⟨x, by rw [hx]; exact List.getElem_mem hlt, rfl⟩)
        have h2 : x.data.toList.length = x.size := by simp
        have := HLEN.out
        omega
      rw [← hx] at ci htk
      have hS : Hid (sJoin sep.data.toList (bytesL (l.take (i + 1))) = X.data.toList ++ (if i = 0 then x.data.toList else sep.data.toList ++ x.data.toList)) := Lib.hid (by
        rw [htk, bytesL_snoc, sJoin_snoc, hX.out]
        congr 1
        by_cases h0 : i = 0
        · subst h0; simp [bytesL]
        · rw [if_neg h0, if_neg]
          intro hc
          have h5 := congrArg List.length ((bytesL_nil _).1 hc)
          rw [List.length_take, List.length_nil] at h5
          omega)
      clear htk hx hX
      by_cases h0 : i = 0
      · subst h0
        have n1 : ¬ 9223372036854775807 < X.size + x.size := by omega
        go_wp2_with fail
        go_roundw
        case rel => exact ⟨1, X ++ x, rfl, rfl, hlt, Lib.hid (by rw [hS.out, bytes_app]; rfl), trivial⟩
        case measure => simp [intOf]; omega
      · have d2 : decide ((0 : Int) < (i : Int)) = true := decide_eq_true (by omega)
        have n1 : ¬ 9223372036854775807 < X.size + sep.size := by omega
        have n2 : ¬ 9223372036854775807 < X.size + sep.size + x.size := by omega
        have HS2 : Hid (sJoin sep.data.toList (bytesL (l.take (i + 1))) = X.data.toList ++ (sep.data.toList ++ x.data.toList)) := Lib.hid (by rw [hS.out, if_neg h0])
        clear hS
        go_wp2_with fail
        go_roundw
        case rel => exact ⟨i + 1, X ++ sep ++ x, rfl, by go_num, hlt, Lib.hid (by rw [HS2.out, bytes_app, bytes_app, List.append_assoc]), trivial⟩
        case measure => simp [intOf]; omega
    · obtain rfl : i = l.length := by omega
      have hE : Hid (X = ⟨(sJoin sep.data.toList (bytesL l)).toArray⟩) := Lib.hid (by
        have h := hX.out
        rw [List.take_length] at h
        rw [← h])
      clear hX
      go_wp2_with fail
      go_ret
      exact ⟨by rw [← hE.out]; rfl, rfl⟩
end Go.Proofs.YtcojnkjcbopnbaaGreatDoor
