/- class.Parse: walks. -/
import Derived.Test.YtdhndfmblmcapaaDoorMembers
import Derived.Test.YtdhndfmblmcapaaDoorNot
namespace Go.Proofs.YtdhndfmblmcapaaDoor
open Go.RowKit

theorem Chain.cons {l : List UInt8} {its : List (UInt8 × UInt8 × Nat)} (h : Chain l its) : ∃ d r, l = d :: r := by
  cases its with
  | nil => exact absurd h (by simp [Chain])
  | cons x tl =>
    rcases h.head with ⟨_, _, d, r, e, _⟩ | ⟨_, _, d, r, e, _⟩ | ⟨_, _, r, e, _⟩
    · exact ⟨_, _, e⟩
    · exact ⟨_, _, e⟩
    · exact ⟨_, _, e⟩

set_option maxRecDepth 100000 in
theorem parse_pos (s : ByteArray) (k : Nat) (its : List (UInt8 × UInt8 × Nat)) (r : List UInt8) (h : s.data.toList.drop k = 91 :: r) (hr : Lib.hasPrefix r [94] = false) (hc : Chain r its) (hs : s.size ≤ 1152921504606846976) (w : World) :
    Calls Tryd.prog 71 #[.string s, .int .i64 k] w fun e w' => ∃ g, e = .returned (.tuple #[.agg (words g), .int .i64 ((k + 1 + lenOf its + 1 : Nat) : Int), .int .i64 0]) ∧ Hid (Fits g ∧ ∀ c, c < 256 → bit g c = inItems its c) ∧ Below w.heap.size w w' := by
  have e1 : s.data.toList.drop (k + 1) = r := by
    have : s.data.toList.drop (k + 1) = (s.data.toList.drop k).drop 1 := by rw [List.drop_drop]
    rw [this, h]; rfl
  obtain ⟨hk, ek⟩ := drop_get h
  obtain ⟨d, t, hdt⟩ := hc.cons
  obtain ⟨hk1, _⟩ := drop_get (s := s) (k := k + 1) (e1.trans hdt)
  have hb : s[k].toNat = 91 := by rw [ek]; rfl
  have HP := Lib.hid (fun w => hp_spec (s.extract (k + 1) s.size) ⟨#[94]⟩ false (by rw [extract_drop, e1]; exact hr) w)
  have HM := Lib.hid (fun w => members_spec s (k + 1) its (by rw [e1]; exact hc) hs w)
  clear h ek hdt e1 hr hc
  go_enter Tryd.func71, Tryd.ntmps71
  go_upto_region 1 with (fail)
  obtain ⟨W, hW, Q, HB⟩ := quad_box w zero4 24
  change Code.wp _ _ _ _ (w.alloc (Obj.cells (words zero4) 24))
  rw [← hW]
  clear hW
  go_wp2_with fail
  refine (HP.out _).mono ?_
  rintro e w1 ⟨rfl, rfl⟩
  go_wp2_with fail
  refine (HM.out _).mono ?_
  rintro e w1 ⟨g, rfl, hS, b1⟩
  have q := Lib.hid (Q.out.after b1)
  have hB := Lib.hid (Below.step HB.out b1)
  clear b1
  simp only [words]
  go_upto_region 8 with (fail)
  obtain ⟨W2, hW2, QP, HB2⟩ := quad_box w1 g 24
  change Code.wp _ _ _ _ (w1.alloc (Obj.cells (words g) 24))
  rw [← hW2]
  clear hW2
  have q2 := Lib.hid (q.out.after HB2.out)
  have hB2 := Lib.hid (Below.step hB.out HB2.out)
  have d0 := QP.out.c 0 (by omega); have d1 := QP.out.c 1 (by omega); have d2 := QP.out.c 2 (by omega); have d3 := QP.out.c 3 (by omega)
  have z0 := q2.out.z 0 (by omega); have z1 := q2.out.z 1 (by omega); have z2 := q2.out.z 2 (by omega); have z3 := q2.out.z 3 (by omega)
  have y0 := q2.out.c 0 (by omega); have y1 := q2.out.c 1 (by omega); have y2 := q2.out.c 2 (by omega); have y3 := q2.out.c 3 (by omega)
  go_wp2_with fail
  obtain ⟨e0, e1, e2, e3⟩ := put4_reads q2.out g
  unfold put4 at e0 e1 e2 e3
  exact bodyPost_ret (v := .tuple #[.agg (words g), .int .i64 ((k + 1 + lenOf its + 1 : Nat) : Int), .int .i64 0]) (by simp [results, Tryd.results71, go_sem, e0, e1, e2, e3, words]) rfl ⟨g, rfl, hS, below_put4 hB2.out (by omega) _⟩

set_option maxRecDepth 100000 in
theorem parse_neg (s : ByteArray) (k : Nat) (its : List (UInt8 × UInt8 × Nat)) (r : List UInt8) (h : s.data.toList.drop k = 91 :: 94 :: r) (hc : Chain r its) (hs : s.size ≤ 1152921504606846976) (w : World) :
    Calls Tryd.prog 71 #[.string s, .int .i64 k] w fun e w' => ∃ g, e = .returned (.tuple #[.agg (words g), .int .i64 ((k + 2 + lenOf its + 1 : Nat) : Int), .int .i64 0]) ∧ Hid (Fits g ∧ ∀ c, c < 256 → bit g c = !inItems its c) ∧ Below w.heap.size w w' := by
  have e1 : s.data.toList.drop (k + 1) = 94 :: r := by
    have : s.data.toList.drop (k + 1) = (s.data.toList.drop k).drop 1 := by rw [List.drop_drop]
    rw [this, h]; rfl
  have e2 : s.data.toList.drop (k + 2) = r := by
    have : s.data.toList.drop (k + 2) = (s.data.toList.drop k).drop 2 := by rw [List.drop_drop]
    rw [this, h]; rfl
  obtain ⟨hk, ek⟩ := drop_get h
  obtain ⟨d, t, hdt⟩ := hc.cons
  obtain ⟨hk1, _⟩ := drop_get (s := s) (k := k + 2) (e2.trans hdt)
  have hb : s[k].toNat = 91 := by rw [ek]; rfl
  have HP := Lib.hid (fun w => hp_spec (s.extract (k + 1) s.size) ⟨#[94]⟩ true (by rw [extract_drop, e1]; simp [Lib.hasPrefix, List.isPrefixOf]) w)
  have HM := Lib.hid (fun w => members_spec s (k + 2) its (by rw [e2]; exact hc) hs w)
  clear h ek hdt e1 e2 hc
  go_enter Tryd.func71, Tryd.ntmps71
  go_upto_region 1 with (fail)
  obtain ⟨W, hW, Q, HB⟩ := quad_box w zero4 24
  change Code.wp _ _ _ _ (w.alloc (Obj.cells (words zero4) 24))
  rw [← hW]
  clear hW
  go_wp2_with fail
  refine (HP.out _).mono ?_
  rintro e w1 ⟨rfl, rfl⟩
  go_wp2_with fail
  refine (HM.out _).mono ?_
  rintro e w1 ⟨g, rfl, hS, b1⟩
  have q := Lib.hid (Q.out.after b1)
  have hB := Lib.hid (Below.step HB.out b1)
  clear b1
  simp only [words]
  go_upto_region 8 with (fail)
  obtain ⟨W2, hW2, QP, HB2⟩ := quad_box w1 g 24
  change Code.wp _ _ _ _ (w1.alloc (Obj.cells (words g) 24))
  rw [← hW2]
  clear hW2
  have q2 := Lib.hid (q.out.after HB2.out)
  have hB2 := Lib.hid (Below.step hB.out HB2.out)
  have hlt := hB.out.size
  have hlt2 := Q.out.lt
  have hlt3 := q.out.lt
  have HN := Lib.hid (fun w => not_spec g hS.out.1 w)
  have d0 := QP.out.c 0 (by omega); have d1 := QP.out.c 1 (by omega); have d2 := QP.out.c 2 (by omega); have d3 := QP.out.c 3 (by omega)
  go_wp2_with fail
  refine (HN.out _).mono ?_
  rintro e w3 ⟨rfl, b3⟩
  clear d0 d1 d2 d3
  have q3 := Lib.hid (q2.out.after b3)
  have p3 := Lib.hid (QP.out.after b3)
  have hB3 := Lib.hid (Below.step hB2.out b3)
  clear b3
  have z0 := p3.out.z 0 (by omega); have z1 := p3.out.z 1 (by omega); have z2 := p3.out.z 2 (by omega); have z3 := p3.out.z 3 (by omega)
  have y0 := p3.out.c 0 (by omega); have y1 := p3.out.c 1 (by omega); have y2 := p3.out.c 2 (by omega); have y3 := p3.out.c 3 (by omega)
  simp only [words]
  go_upto_region 12 with (fail)
  clear z0 z1 z2 z3 y0 y1 y2 y3
  obtain ⟨W4, hW4, r0, r1, rB⟩ : ∃ W4, W4 = put4 w3 w1.heap.size (notW g) ∧ Hid (Quad W4 w.heap.size zero4) ∧ Hid (Quad W4 w1.heap.size (notW g)) ∧ Hid (Below w.heap.size w W4) :=
    ⟨_, rfl, Lib.hid (q3.out.put4_other (by omega) _), Lib.hid (p3.out.put4 _), Lib.hid (below_put4 hB3.out (by omega) _)⟩
  change Code.wp _ _ _ _ (put4 w3 w1.heap.size (notW g))
  rw [← hW4]
  clear hW4
  have d0 := r1.out.c 0 (by omega); have d1 := r1.out.c 1 (by omega); have d2 := r1.out.c 2 (by omega); have d3 := r1.out.c 3 (by omega)
  have z0 := r0.out.z 0 (by omega); have z1 := r0.out.z 1 (by omega); have z2 := r0.out.z 2 (by omega); have z3 := r0.out.z 3 (by omega)
  have y0 := r0.out.c 0 (by omega); have y1 := r0.out.c 1 (by omega); have y2 := r0.out.c 2 (by omega); have y3 := r0.out.c 3 (by omega)
  go_wp2_with fail
  obtain ⟨e0, e1, e2, e3⟩ := put4_reads r0.out (notW g)
  unfold put4 at e0 e1 e2 e3
  exact bodyPost_ret (v := .tuple #[.agg (words (notW g)), .int .i64 ((k + 2 + lenOf its + 1 : Nat) : Int), .int .i64 0]) (by simp [results, Tryd.results71, go_sem, e0, e1, e2, e3, words]) rfl
    ⟨notW g, rfl, Lib.hid ⟨fits_not g, fun c hc => by rw [bit_not g hS.out.1 hc, hS.out.2 c hc]⟩, below_put4 rB.out (by omega) _⟩
end Go.Proofs.YtdhndfmblmcapaaDoor
