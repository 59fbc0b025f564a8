/- class.member: walks. -/
import Derived.Test.YtdhndfmblmcapaaDoorBytes
namespace Go.Proofs.YtdhndfmblmcapaaDoor
open Go.RowKit

theorem quad_box (w : World) (f : Nat → Nat) (t : TypeId) : ∃ W, W = w.alloc (.cells (words f) t) ∧ Hid (Quad W w.heap.size f) ∧ Hid (Below w.heap.size w W) :=
  ⟨_, rfl, Lib.hid (quad_new w f t), Lib.hid (below_new _ _)⟩

set_option maxRecDepth 100000 in
theorem member_one (s : ByteArray) (k n c : Nat) (hk : k < s.size) (hn : k + n ≤ s.size) (hs : s.size ≤ 1152921504606846976) (hc : c < 256)
    (hB : ∀ w, Calls Tryd.prog 92 #[.string s, .int .i64 k] w fun e w' => e = .returned (.tuple #[.int .u8 c, .int .i64 ((k + n : Nat) : Int), .int .i64 0]) ∧ w' = w)
    (hP : Lib.hasPrefix (s.extract k s.size).data.toList [91, 58] = false)
    (hG : ∀ w, Calls Tryd.prog 93 #[.string (s.extract (k + n) s.size)] w fun e w' => e = .returned (.bool false) ∧ w' = w) (w : World) :
    Calls Tryd.prog 86 #[.string s, .int .i64 k] w fun e w' => ∃ g, e = .returned (.tuple #[.agg (words g), .int .i64 ((k + n : Nat) : Int), .int .i64 0]) ∧ Hid (Span zero4 g c (c + 1)) ∧ Below w.heap.size w w' := by
  have HB := Lib.hid hB; clear hB
  have HG := Lib.hid hG; clear hG
  have HP := Lib.hid (fun w => hp_spec (s.extract k s.size) ⟨#[91, 58]⟩ false hP w); clear hP
  have HA := Lib.hid (fun w => add_spec zero4 fits_zero c c hc hc w)
  have hi1 : (k : Int) + n ≤ s.size := by omega
  go_enter Tryd.func86, Tryd.ntmps86
  go_upto_region 1 with (fail)
  obtain ⟨W, hW, Q, HBe⟩ := quad_box w zero4 24
  change Code.wp _ _ _ _ (w.alloc (Obj.cells (words zero4) 24))
  rw [← hW]
  clear hW
  go_wp2_with fail
  refine (HP.out _).mono ?_
  rintro e w1 ⟨rfl, rfl⟩
  go_wp2_with fail
  refine (HB.out _).mono ?_
  rintro e w2 ⟨rfl, rfl⟩
  go_wp2_with fail
  refine (HG.out _).mono ?_
  rintro e w3 ⟨rfl, rfl⟩
  go_wp2_with fail
  refine (HA.out _).mono ?_
  rintro e w4 ⟨g, rfl, hS, b4⟩
  have Q4 := Lib.hid (Q.out.after b4)
  have B4 := Lib.hid (Below.step HBe.out b4)
  clear b4
  have z0 := Q4.out.z 0 (by omega); have z1 := Q4.out.z 1 (by omega); have z2 := Q4.out.z 2 (by omega); have z3 := Q4.out.z 3 (by omega)
  have y0 := Q4.out.c 0 (by omega); have y1 := Q4.out.c 1 (by omega); have y2 := Q4.out.c 2 (by omega); have y3 := Q4.out.c 3 (by omega)
  simp only [words]
  go_wp2_with fail
  obtain ⟨e0, e1, e2, e3⟩ := put4_reads Q4.out g
  unfold put4 at e0 e1 e2 e3
  exact bodyPost_ret (v := .tuple #[.agg (words g), .int .i64 ((k + n : Nat) : Int), .int .i64 0]) (by simp [results, Tryd.results86, go_sem, e0, e1, e2, e3, words]) rfl ⟨g, rfl, hS, below_put4 B4.out (by omega) g⟩

set_option maxRecDepth 100000 in
theorem member_range (s : ByteArray) (k a b : Nat) (hk : k + 3 ≤ s.size) (hs : s.size ≤ 1152921504606846976) (hab : a ≤ b) (hb : b < 256)
    (hB : ∀ w, Calls Tryd.prog 92 #[.string s, .int .i64 k] w fun e w' => e = .returned (.tuple #[.int .u8 a, .int .i64 ((k + 1 : Nat) : Int), .int .i64 0]) ∧ w' = w)
    (hP : Lib.hasPrefix (s.extract k s.size).data.toList [91, 58] = false)
    (hG : ∀ w, Calls Tryd.prog 93 #[.string (s.extract (k + 1) s.size)] w fun e w' => e = .returned (.bool true) ∧ w' = w)
    (hB2 : ∀ w, Calls Tryd.prog 92 #[.string s, .int .i64 ((k + 2 : Nat) : Int)] w fun e w' => e = .returned (.tuple #[.int .u8 b, .int .i64 ((k + 3 : Nat) : Int), .int .i64 0]) ∧ w' = w) (w : World) :
    Calls Tryd.prog 86 #[.string s, .int .i64 k] w fun e w' => ∃ g, e = .returned (.tuple #[.agg (words g), .int .i64 ((k + 3 : Nat) : Int), .int .i64 0]) ∧ Hid (Span zero4 g a (b + 1)) ∧ Below w.heap.size w w' := by
  have HB := Lib.hid hB; clear hB
  have HB2 := Lib.hid hB2; clear hB2
  have HG := Lib.hid hG; clear hG
  have HP := Lib.hid (fun w => hp_spec (s.extract k s.size) ⟨#[91, 58]⟩ false hP w); clear hP
  have HA := Lib.hid (fun w => add_spec zero4 fits_zero a b (by omega) hb w)
  have ha : a < 256 := by omega
  go_enter Tryd.func86, Tryd.ntmps86
  go_upto_region 1 with (fail)
  obtain ⟨W, hW, Q, HBe⟩ := quad_box w zero4 24
  change Code.wp _ _ _ _ (w.alloc (Obj.cells (words zero4) 24))
  rw [← hW]
  clear hW
  go_wp2_with fail
  refine (HP.out _).mono ?_
  rintro e w1 ⟨rfl, rfl⟩
  go_wp2_with fail
  refine (HB.out _).mono ?_
  rintro e w2 ⟨rfl, rfl⟩
  go_wp2_with fail
  refine (HG.out _).mono ?_
  rintro e w3 ⟨rfl, rfl⟩
  go_wp2_with fail
  refine (HB2.out _).mono ?_
  rintro e w5 ⟨rfl, rfl⟩
  go_wp2_with fail
  refine (HA.out _).mono ?_
  rintro e w4 ⟨g, rfl, hS, b4⟩
  have Q4 := Lib.hid (Q.out.after b4)
  have B4 := Lib.hid (Below.step HBe.out b4)
  clear b4
  have z0 := Q4.out.z 0 (by omega); have z1 := Q4.out.z 1 (by omega); have z2 := Q4.out.z 2 (by omega); have z3 := Q4.out.z 3 (by omega)
  have y0 := Q4.out.c 0 (by omega); have y1 := Q4.out.c 1 (by omega); have y2 := Q4.out.c 2 (by omega); have y3 := Q4.out.c 3 (by omega)
  simp only [words]
  go_wp2_with fail
  obtain ⟨e0, e1, e2, e3⟩ := put4_reads Q4.out g
  unfold put4 at e0 e1 e2 e3
  exact bodyPost_ret (v := .tuple #[.agg (words g), .int .i64 ((k + 3 : Nat) : Int), .int .i64 0]) (by simp [results, Tryd.results86, go_sem, e0, e1, e2, e3, words]) rfl ⟨g, rfl, hS, below_put4 B4.out (by omega) g⟩
end Go.Proofs.YtdhndfmblmcapaaDoor
