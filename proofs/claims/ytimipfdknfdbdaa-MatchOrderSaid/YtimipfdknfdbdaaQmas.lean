/- MatchOrder: for any two texts the law returns true, and its arguments read as before. No condition. -/
import Derived.Test.YtimipfdknfdbdaaQmaa
import Derived.Test.YtimipfdknfdbdaaQmar
import Derived.Test.YtimipfdknfdbdaaQmaq
import Derived.Test.YtimipfdknfdbdaaGaa
/- aukletlaw07.MatchOrder: the law's own walks. -/
namespace Go.Proofs.Ytimipfdknfdbdaa
open Go.RowKit

/-- New at any text: a pattern whose machine holds together, or none. -/
def NewAny (w : World) (s : ByteArray) (e : Ending) (w' : World) : Prop :=
  Below w.heap.size w w' ∧ ((∃ a y : Int, e = .returned (.tuple #[.pointer none, .int .i64 a, .int .i64 y])) ∨
    (∃ pp ss sv start, e = .returned (.tuple #[.pointer (some ⟨pp, 0, none⟩), .int .i64 0, .int .i64 0]) ∧ Hid (PatM w' pp s ss sv (start : Nat) ∧ SsOk ss ∧ start < ss.length)))
theorem new_any7 (s : ByteArray) (w : World) (hx : MX w) :
    Calls Try.prog 7 #[.string s] w (NewAny w s) := by
  refine (new_gen s (fun t _ => Fine (-1) t) (fun _ => True) w (parse_any s w hx) (fun t x hq _ rs B W hat => build_any t rs B W hat hq)).mono ?_
  rintro e w' ⟨t, x, hq, hb, h | h | h⟩
  · obtain ⟨_, a, rfl⟩ := h
    exact ⟨hb, Or.inl ⟨_, _, rfl⟩⟩
  · obtain ⟨_, _, y, _, rfl⟩ := h
    exact ⟨hb, Or.inl ⟨_, _, rfl⟩⟩
  · obtain ⟨_, _, hn, hg, pp, sv, rfl, _, hm⟩ := h
    obtain ⟨h1, h2⟩ := mach_ok t hg hn
    exact ⟨hb, Or.inr ⟨pp, _, sv, _, rfl, Lib.hid ⟨hm, h1, h2⟩⟩⟩

set_option maxRecDepth 100000 in
theorem mo_long (p s : ByteArray) (h : 200 < s.size) (w : World) :
    Calls Try.prog 3 #[.string p, .string s] w fun e w' => e = .returned (.bool true) ∧ Below w.heap.size w w' := by
  have HL := Lib.hid (lives7_spec w)
  have hd : decide (200 < (s.size : Int)) = true := decide_eq_true (by omega)
  go_enter Try.func3, Try.ntmps3
  go_wp2_with fail
  refine HL.out.mono ?_
  rintro e w1 ⟨rfl, b1⟩
  have B1 := Lib.hid b1
  clear b1
  go_wp2_with fail
  go_ret
  exact ⟨rfl, B1.out⟩

set_option maxRecDepth 100000 in
set_option maxHeartbeats 8000000 in
theorem mo_short (p s : ByteArray) (h : s.size ≤ 200) (w : World) (hx : MX w) :
    Calls Try.prog 3 #[.string p, .string s] w fun e w' => e = .returned (.bool true) ∧ Below w.heap.size w w' := by
  have HL := Lib.hid lives7_spec
  have HLi := Lib.hid (light7_any p w)
  have HN := Lib.hid (fun w' (hb : Below w.heap.size w w') => new_any7 p w' (hx.after hb))
  have hd : decide (200 < (s.size : Int)) = false := decide_eq_false (by omega)
  go_enter Try.func3, Try.ntmps3
  go_wp2_with fail
  refine HLi.out.mono ?_
  rintro e w1 ⟨b, rfl, b1⟩
  have B1 := Lib.hid b1
  have HN1 := Lib.hid (HN.out w1 b1)
  clear b1 HN HLi
  cases b with
  | false =>
    go_wp2_with fail
    refine (HL.out _).mono ?_
    rintro e w2 ⟨rfl, b2⟩
    have B2 := Lib.hid (Below.step B1.out b2)
    clear b2
    go_wp2_with fail
    go_ret
    exact ⟨rfl, B2.out⟩
  | true =>
    go_wp2_with fail
    refine HN1.out.mono ?_
    rintro e w2 ⟨b2, ⟨a, y, rfl⟩ | ⟨pp, ss, sv, start, rfl, hm⟩⟩
    · have B2 := Lib.hid (Below.step B1.out b2)
      clear b2
      go_wp2_with fail
      refine (HL.out _).mono ?_
      rintro e w3 ⟨rfl, b3⟩
      have B3 := Lib.hid (Below.step B2.out b3)
      clear b3
      go_wp2_with fail
      go_ret
      exact ⟨rfl, B3.out⟩
    · have B2 := Lib.hid (Below.step B1.out b2)
      clear b2
      obtain ⟨l, hl⟩ : ∃ l, l = allN (longN ss start s) s.size := ⟨_, rfl⟩
      have ho : Ordered s.size 0 0 l := by rw [hl]; exact foundN_ordered _ _ (longN_ok ss start s) _ 0 0 (by omega)
      have hlen := ho.len
      have HO := Lib.hid ho
      have HA := Lib.hid (all_spec pp start p s ss sv hm.out.2.1 hm.out.2.2 (by omega) w2 hm.out.1 (by rw [← hl]; omega))
      rw [← hl] at HA
      have HE : Hid ((findN (longN ss start s) (s.size + 1) 0).isSome = decide (0 < (l.length : Int))) := Lib.hid (by
        cases hf : findN (longN ss start s) (s.size + 1) 0 with
        | none => rw [allN_none _ _ hf] at hl; subst hl; rfl
        | some x => have := allN_some _ _ x.1 x.2 hf; rw [← hl] at this; have : 0 < l.length := List.length_pos_iff.2 this; simp; omega)
      have HIs := Lib.hid (fun w3 (hb : Below w2.heap.size w2 w3) => is_spec pp start p s ss sv hm.out.2.1 hm.out.2.2 (by omega) w3 (hm.out.1.after hb))
      rw [HE.out] at HIs
      clear hl ho hm HE
      go_wp2_with fail
      refine HA.out.mono ?_
      rintro e w3 ⟨v, rfl, hv, b3⟩
      have hv' : PairsAt w3 v l := PairsAt.of hv
      obtain ⟨va, vc, rfl⟩ := hv'.shape
      have HV := Lib.hid hv'
      have B3 := Lib.hid (Below.step B2.out b3)
      have b3 := Lib.hid b3
      clear hv hv' HA HN1
      go_wp2_with fail
      go_loopw [9] (fun y wr => ∃ i : Nat, y = .int .i64 i ∧ i ≤ l.length ∧ Hid (Below w3.heap.size w3 wr)) (fun y _ => l.length - (intOf y).toNat)
      case atStart => exact ⟨0, rfl, by omega, Lib.hid (Below.refl _ _)⟩
      case round =>
        obtain ⟨i, rfl, hi, hw⟩ := hrel
        by_cases hgo : i < l.length
        · obtain ⟨o1, o2, o3⟩ := HO.out.get i hgo
          obtain ⟨g, e, g1, g2⟩ := (HV.out.after hw.out).cell i hgo
          subst e
          obtain ⟨xa, hxa⟩ : ∃ n : Nat, n = l[i].1 := ⟨_, rfl⟩
          obtain ⟨xb, hxb⟩ : ∃ n : Nat, n = l[i].2 := ⟨_, rfl⟩
          rw [← hxa] at g1 o1 o3
          rw [← hxb] at g2 o1 o2 o3
          have f1 : decide ((xb : Int) < (xa : Int)) = false := decide_eq_false (by omega)
          have f2 : decide ((xa : Int) < 0) = false := decide_eq_false (by omega)
          have f3 : decide ((s.size : Int) < (xb : Int)) = false := decide_eq_false (by omega)
          have e1 : decide (xb < xa) = false := decide_eq_false (by omega)
          have e3 : decide (s.size < xb) = false := decide_eq_false (by omega)
          clear hxa hxb o1 o2
          by_cases i0 : i = 0
          · subst i0
            clear o3
            go_wp2_with fail
            go_quiet (fail)
            go_wp2_with fail
            go_roundw
            case rel => exact ⟨0 + 1, by go_num, by omega, Lib.hid (Below.drewN' hw.out _)⟩
            case measure => simp [intOf]; omega
          · obtain ⟨j, hji⟩ : ∃ j, j = i - 1 := ⟨_, rfl⟩
            have hj : j < l.length := by omega
            have hij : (i : Int) - 1 = (j : Int) := by omega
            obtain ⟨q1, q2⟩ := o3 (by omega)
            obtain ⟨g', e, k1, k2⟩ := (HV.out.after hw.out).cell j hj
            simp only [Option.some.injEq, Addr.mk.injEq] at e
            obtain ⟨rfl, _, _⟩ := e
            obtain ⟨ya, hya⟩ : ∃ n : Nat, n = l[j].1 := ⟨_, rfl⟩
            obtain ⟨yb, hyb⟩ : ∃ n : Nat, n = l[j].2 := ⟨_, rfl⟩
            have hj2 : l[i - 1].2 = yb := by rw [hyb]; simp only [hji]
            rw [hj2] at q1 q2
            rw [← hya] at k1
            rw [← hyb] at k2
            have f5 : decide ((xa : Int) < (yb : Int)) = false := decide_eq_false (by omega)
            have f6 : decide ((xb : Int) ≤ (yb : Int)) = false := decide_eq_false (by omega)
            have e5 : decide (xa < yb) = false := decide_eq_false (by omega)
            have e6 : decide (xb ≤ yb) = false := decide_eq_false (by omega)
            have f4 : decide ((0 : Int) < (i : Int)) = true := decide_eq_true (by omega)
            have e4 : decide (0 < i) = true := decide_eq_true (by omega)
            clear hya hyb q1 q2 o3 hj2 hji
            go_wp2_with fail
            go_quiet (fail)
            go_wp2_with fail
            go_roundw
            case rel => exact ⟨i + 1, by go_num, by omega, Lib.hid (Below.drewN' hw.out _)⟩
            case measure => simp [intOf]; omega
        · obtain rfl : i = l.length := by omega
          have HIs3 := Lib.hid (HIs.out wr (b3.out.trans (hw.out.mono (b3.out.size))))
          go_wp2_with fail
          refine HIs3.out.mono ?_
          rintro e w4 ⟨rfl, b4⟩
          have B4 := Lib.hid (Below.step (Below.step B3.out hw.out) b4)
          clear b4
          have hbb : (decide (0 < (l.length : Int)) == decide (0 < (l.length : Int))) = true := beq_self_eq_true _
          go_wp2_with fail
          refine (HL.out _).mono ?_
          rintro e w5 ⟨rfl, b5⟩
          have B5 := Lib.hid (Below.step B4.out b5)
          clear b5
          go_wp2_with fail
          go_ret
          exact ⟨rfl, B5.out⟩
end Go.Proofs.Ytimipfdknfdbdaa

namespace Go.Proofs.Ytimipfdknfdbdaa
theorem max_cell {w : World} (h : w.ShapedOpen Try.prog) : MX w := Try.laysM219.s1_3 w h
end Go.Proofs.Ytimipfdknfdbdaa
namespace Go.Proofs.Ytimipfdknfdbdaa.matchOrder
open Go.ChangeShapes Go.WideShapes Go.ChangeAt Go.RowKit Go.ChangeMaps

theorem walk (p s : ByteArray) (_ : p.size ≤ maxLen) (_ : s.size ≤ maxLen) (w : World) (hx : MX w) :
    Calls Try.prog 3 #[.string p, .string s] w fun e w' => e = .returned (.bool true) ∧ Below w.heap.size w w' := by
  by_cases h : 200 < s.size
  · exact mo_long p s h w
  · exact mo_short p s (by omega) w hx

set_option maxRecDepth 100000 in
theorem lifted (os : Os) (started : os.Started) (H : Type) (enc : TypeId × Value → H) :
    ReturnsInHanded {} Try.checked os 3 .any (Rows.matchOrderSpec.pre6 enc Try.prog Try.f3 Rows.matchOrderRow.domain false) (Rows.matchOrderSpec.post enc Try.prog Try.f3 false true false false) := by
  refine returnsInHanded_of_change_shaped (C := Try.checked) own started (by kernel_rfl) Try.func3
    (ChangeSpec.witness6 (enc := enc) (C := Try.checked) false ⟨#[], #[.string ⟨#[]⟩, .string ⟨#[]⟩], []⟩ 8 (by kernel_rfl) (by kernel_rfl) (by kernel_rfl) (by kernel_rfl)) ?_
  intro W base args ds gs before hval0 hW _ _ hsh _
  have hval : ∀ (j : Nat) t v, Try.f3.params[j]? = some t → args[j]? = some v → Value.okWide Try.prog W .any base t v := hval0
  have hW' := hW
  obtain ⟨p, q, hA0, hV, rfl, hfz, hnd⟩ := hW
  have hA : DataW.TrodAll enc Try.prog W 0 (fun _ => true) true Try.f3.params.toList args.toList ds p := hA0
  rw [Try.params3] at hA hval
  obtain ⟨v0, vs0, d0, ds0, p0, q0, hargs, rfl, rfl, h0, r0⟩ := trodAll_cons hA
  obtain ⟨v1, vs1, d1, ds1, p1, q1, rfl, rfl, rfl, h1, r1⟩ := trodAll_cons r0
  obtain ⟨rfl, rfl, rfl⟩ := trodAll_nil r1
  obtain rfl : args = #[v0, v1] := by cases args; simp_all
  obtain ⟨rfl, rfl⟩ := trodVars_none hV
  obtain ⟨a0, rfl, rfl, rfl, w0⟩ := open_string Try.underlying9 (hval 0 9 v0 rfl rfl) h0
  obtain ⟨a1, rfl, rfl, rfl, w1⟩ := open_string Try.underlying9 (hval 1 9 v1 rfl rfl) h1
  clear hA0 hval0
  simp only [List.append_nil] at hW'
  refine (walk a0 a1 w0 w1 W (max_cell hsh)).mono fun e W' ⟨he, hg⟩ => ?_
  subst he
  exact ⟨_, rfl, post_bare hW' (fun _ _ _ => (trodAll_cons_mk (shut_bool Try.underlying4 _) trodAll_mk0)) (fun sp => (trodAll_cons_mk (shut_string Try.underlying9 w0) (trodAll_cons_mk (shut_string Try.underlying9 w1) trodAll_mk0))) (fun _ => rfl) hg⟩

theorem proved : Rows.MatchOrderSaid :=
  OpenClaim.holds_of_wide 3 Try.f3 rfl rfl rfl rfl rfl rfl rfl ⟨rfl, rfl, rfl, rfl, rfl⟩ rfl rfl rfl rfl rfl (by kernel_rfl) Try.func3 (by kernel_rfl)
    (of_decide_eq_true (by kernel_rfl)) (by unfold Func.isWrapper; first | (rw [if_pos (by decide +kernel)]; kernel_rfl) | (rw [if_neg (by decide +kernel)]; exact ⟨rfl, rfl⟩))
    (fun os started H enc _ => lifted os started H enc)
#print axioms proved
end Go.Proofs.Ytimipfdknfdbdaa.matchOrder
