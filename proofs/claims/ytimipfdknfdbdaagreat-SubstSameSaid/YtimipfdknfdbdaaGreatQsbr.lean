/- SubstSame: for any two texts the law returns true, and its arguments read as before. No condition. -/
import Derived.Test.YtimipfdknfdbdaaGreatQsax
import Derived.Test.YtimipfdknfdbdaaGreatQsbp
import Derived.Test.YtimipfdknfdbdaaGreatQsba
import Derived.Test.YtimipfdknfdbdaaGreatQsbq
import Derived.Test.YtimipfdknfdbdaaGreatQsaa
/- match.New at any text: a pattern whose machine holds together, or none. -/
namespace Go.Proofs.YtimipfdknfdbdaaGreat
open Go.RowKit

/-- New at any text: a pattern whose machine holds together, or none. -/
def NewAny (w : World) (s : ByteArray) (e : Ending) (w' : World) : Prop :=
  Below w.heap.size w w' ∧ ((∃ a y : Int, e = .returned (.tuple #[.pointer none, .int .i64 a, .int .i64 y])) ∨
    (∃ pp ss sv start, e = .returned (.tuple #[.pointer (some ⟨pp, 0, none⟩), .int .i64 0, .int .i64 0]) ∧ Hid (PatM w' pp s ss sv (start : Nat) ∧ SsOk ss ∧ start < ss.length)))
theorem new_any7 (s : ByteArray) (w : World) (hx : MX w) :
    Calls Tryz.prog 6 #[.string s] w (NewAny w s) := by
  refine (new_gen s (fun t _ => Fine (-1) t) (fun _ => True) w (parse_any s w hx) (fun t x hq _ rs B W hat => build_any t rs B W hat hq)).mono ?_
  rintro e w' ⟨t, x, hq, hb, h | h | h⟩
  · obtain ⟨_, a, rfl⟩ := h
    exact ⟨hb, Or.inl ⟨_, _, rfl⟩⟩
  · obtain ⟨_, _, y, _, rfl⟩ := h
    exact ⟨hb, Or.inl ⟨_, _, rfl⟩⟩
  · obtain ⟨_, _, hn, hg, pp, sv, rfl, _, hm⟩ := h
    obtain ⟨h1, h2⟩ := mach_ok t hg hn
    exact ⟨hb, Or.inr ⟨pp, _, sv, _, rfl, Lib.hid ⟨hm, h1, h2⟩⟩⟩

end Go.Proofs.YtimipfdknfdbdaaGreat

/- aukletlaw08.light, SubstSame: the law's own walks. -/
namespace Go.Proofs.YtimipfdknfdbdaaGreat
open Go.RowKit

set_option maxRecDepth 100000 in
theorem light8_any (p s : ByteArray) (w : World) :
    Calls Tryz.prog 4 #[.string p, .string s] w fun e w' => ∃ b : Bool, e = .returned (.bool b) ∧ Hid (b = true → s.size ≤ 25) ∧ Below w.heap.size w w' := by
  have HL := Lib.hid (light7_any p w)
  by_cases h : s.size ≤ 25
  · have hd : decide ((s.size : Int) ≤ 25) = true := decide_eq_true (by omega)
    go_enter Tryz.func4, Tryz.ntmps4
    go_wp2_with fail
    refine HL.out.mono ?_
    rintro e w1 ⟨b, rfl, b1⟩
    have B1 := Lib.hid b1
    clear b1
    go_wp2_with fail
    go_ret
    exact ⟨b, rfl, Lib.hid (fun _ => h), B1.out⟩
  · have hd : decide ((s.size : Int) ≤ 25) = false := decide_eq_false (by omega)
    go_enter Tryz.func4, Tryz.ntmps4
    go_wp2_with fail
    go_ret
    exact ⟨false, rfl, Lib.hid (fun h => absurd h (by decide)), Below.refl _ _⟩

theorem byte_beq (c : UInt8) (n : Nat) (hn : n < 256) : ((c.toNat : Int) == (n : Int)) = decide (c = n.toUInt8) := by
  rw [Bool.eq_iff_iff, beq_iff_eq, decide_eq_true_eq]
  constructor
  · intro h
    have h' : c.toNat = n := by omega
    apply UInt8.toNat_inj.1
    rw [h']
    simp [Nat.toUInt8, UInt8.toNat_ofNat']
    omega
  · rintro rfl
    simp [Nat.toUInt8, UInt8.toNat_ofNat']
    omega

/-- The two loops and what follows them. -/
def SameI (s : ByteArray) (had : Bool) (i : Nat) : Prop := had = true ∨ ∀ c, c ∈ s.data.toList.take i → c ≠ 1
theorem SameI.next {s : ByteArray} {i : Nat} (hi : i < s.size) (h : SameI s false i) : SameI s ((s[i].toNat : Int) == 1) (i + 1) := by
  have e := byte_beq s[i] 1 (by omega)
  have e' : ((s[i].toNat : Int) == 1) = decide (s[i] = 1) := e
  rw [e']
  by_cases h1 : s[i] = 1
  · exact Or.inl (decide_eq_true h1)
  · right
    rcases h with h | h
    · cases h
    · intro c hc
      rw [List.take_succ_eq_append_getElem (by simpa using hi)] at hc
      rcases List.mem_append.1 hc with hc | hc
      · exact h c hc
      · rw [List.mem_singleton.1 hc]; exact h1

set_option maxRecDepth 100000 in
set_option maxHeartbeats 8000000 in
theorem ss_walk (p s : ByteArray) (w : World) (hx : MX w) :
    Calls Tryz.prog 3 #[.string p, .string s] w fun e w' => e = .returned (.bool true) ∧ Below w.heap.size w w' := by
  have HL := Lib.hid lives8_spec
  have HLi := Lib.hid (light8_any p s w)
  have HN := Lib.hid (fun w' (hb : Below w.heap.size w w') => new_any7 p w' (hx.after hb))
  go_enter Tryz.func3, Tryz.ntmps3
  go_wp2_with fail
  refine HLi.out.mono ?_
  rintro e w1 ⟨b, rfl, hb25, b1⟩
  have B1 := Lib.hid b1
  have HN1 := Lib.hid (HN.out w1 b1)
  clear b1 HN HLi
  cases b with
  | false =>
    go_wp2_with fail
    refine (HL.out _).mono ?_
    rintro e w2 ⟨rfl, b2⟩
    have B2 := Lib.hid (Below.step B1.out b2)
    clear b2
    go_wp2_with fail
    go_ret
    exact ⟨rfl, B2.out⟩
  | true =>
    have hs : s.size ≤ 25 := hb25.out rfl
    go_wp2_with fail
    refine HN1.out.mono ?_
    rintro e w2 ⟨b2, ⟨a, y, rfl⟩ | ⟨pp, ss, sv, start, rfl, hm⟩⟩
    · have B2 := Lib.hid (Below.step B1.out b2)
      clear b2
      go_wp2_with fail
      refine (HL.out _).mono ?_
      rintro e w3 ⟨rfl, b3⟩
      have B3 := Lib.hid (Below.step B2.out b3)
      clear b3
      go_wp2_with fail
      go_ret
      exact ⟨rfl, B3.out⟩
    · have B2 := Lib.hid (Below.step B1.out b2)
      clear b2 HN1 B1
      obtain ⟨l, hl⟩ : ∃ l, l = allN (longN ss start s) s.size := ⟨_, rfl⟩
      have ho : Ordered s.size 0 0 l := by rw [hl]; exact foundN_ordered _ _ (longN_ok ss start s) _ 0 0 (by omega)
      have hlen := ho.len
      have hsz : s.data.toList.length = s.size := size_list s
      have t1 : sRepl [38] s.data.toList l 0 = s.data.toList := by rw [sRepl_self _ ho]; rfl
      have hT2 : (sRepl [1, 2] s.data.toList l 0).length ≤ 100000 := by
        have h1 := sRepl_len [1, 2] s.data.toList 2 (fun part _ => by rw [sPut_two]; decide) l 0
        have h2 : (l.length + 1) * (s.data.toList.length + 2) ≤ 27 * 27 := Nat.mul_le_mul (by omega) (by omega)
        omega
      have HA1 : Hid (∀ w', PatM w' pp p ss sv (start : Nat) → Calls Tryz.prog 7 #[.pointer (some ⟨pp, 0, none⟩), .string ⟨#[38]⟩, .string s] w' fun e w2 => e = .returned (.tuple #[.string s, .int .i64 l.length]) ∧ Below w'.heap.size w' w2) := Lib.hid (by
        intro w' hm'
        refine (sall_spec pp start p ⟨#[38]⟩ s ss sv hm.out.2.1 hm.out.2.2 (by decide) (by omega) w' hm' l hl (by show (sRepl [38] s.data.toList l 0).length ≤ _; rw [t1]; omega)).mono ?_
        rintro e w2 ⟨rfl, h⟩
        have e1 : (⟨(sRepl (⟨#[38]⟩ : ByteArray).data.toList s.data.toList l 0).toArray⟩ : ByteArray) = s := by
          show (⟨(sRepl [38] s.data.toList l 0).toArray⟩ : ByteArray) = s
          rw [t1]
        rw [e1]
        exact ⟨rfl, h⟩)
      obtain ⟨T, hT⟩ : ∃ T, T = sRepl [1, 2] s.data.toList l 0 := ⟨_, rfl⟩
      obtain ⟨bb, hbb⟩ : ∃ bb : ByteArray, bb = ⟨T.toArray⟩ := ⟨_, rfl⟩
      have HA2 : Hid (∀ w', PatM w' pp p ss sv (start : Nat) → Calls Tryz.prog 7 #[.pointer (some ⟨pp, 0, none⟩), .string ⟨#[1, 2]⟩, .string s] w' fun e w2 => e = .returned (.tuple #[.string bb, .int .i64 l.length]) ∧ Below w'.heap.size w' w2) := Lib.hid (by
        intro w' hm'
        refine (sall_spec pp start p ⟨#[1, 2]⟩ s ss sv hm.out.2.1 hm.out.2.2 (by decide) (by omega) w' hm' l hl (by show (sRepl [1, 2] s.data.toList l 0).length ≤ _; omega)).mono ?_
        rintro e w2 ⟨rfl, h⟩
        have e1 : (⟨(sRepl (⟨#[1, 2]⟩ : ByteArray).data.toList s.data.toList l 0).toArray⟩ : ByteArray) = bb := by
          rw [hbb, hT]
        rw [e1]
        exact ⟨rfl, h⟩)
      have HA3 : Hid (∀ w', PatM w' pp p ss sv (start : Nat) → Calls Tryz.prog 8 #[.pointer (some ⟨pp, 0, none⟩), .string s] w' fun e w2 => ∃ a c, e = .returned (.slice a l.length c) ∧ Below w'.heap.size w' w2) := Lib.hid (by
        intro w' hm'
        refine (all_spec pp start p s ss sv hm.out.2.1 hm.out.2.2 (by omega) w' hm' (by rw [← hl]; omega)).mono ?_
        rintro e w2 ⟨v, rfl, h1, h2⟩
        rw [← hl] at h1
        obtain ⟨a, c, rfl⟩ := (PairsAt.of h1).shape
        exact ⟨a, c, rfl, h2⟩)
      have hbd : bb.data.toList = T := by rw [hbb]
      have hbs : bb.size ≤ 100000 := by rw [← size_list bb, hbd, hT]; exact hT2
      have HC : Hid ((∀ c, c ∈ s.data.toList → c ≠ 1) → cnt12 bb.data.toList = l.length) := Lib.hid (fun h => by rw [hbd, hT]; exact cnt12_repl _ h l 0)
      have HPm := Lib.hid hm.out.1
      clear hl ho hsz t1 hT2 hT hbb hbd hm
      have q1 : (s.toList == s.toList) = true := beq_self_eq_true _
      have q2 : (s.toList != s.toList) = false := by simp
      have HA1a := Lib.hid (HA1.out w2 HPm.out)
      go_wp2_with fail
      refine HA1a.out.mono ?_
      rintro e w3 ⟨rfl, b3⟩
      have M3 := Lib.hid (HPm.out.after b3)
      have B3 := Lib.hid (Below.step B2.out b3)
      clear b3 HA1a HA1
      have HA2a := Lib.hid (HA2.out w3 M3.out)
      go_wp2_with fail
      refine HA2a.out.mono ?_
      rintro e w4 ⟨rfl, b4⟩
      have M4 := Lib.hid (M3.out.after b4)
      have B4 := Lib.hid (Below.step B3.out b4)
      clear b4 HA2a HA2
      have HA3a := Lib.hid (HA3.out w4 M4.out)
      go_wp2_with fail
      refine HA3a.out.mono ?_
      rintro e w5 ⟨va, vc, rfl, b5⟩
      have B5 := Lib.hid (Below.step B4.out b5)
      clear b5 HA3a HA3
      go_wp2_with fail
      go_loopw [13, 14] (fun x y wr => wr = w5 ∧ ∃ (had : Bool) (i : Nat), x = .bool had ∧ y = .int .i64 i ∧ i ≤ s.size ∧ Hid (SameI s had i)) (fun _ y _ => s.size - (intOf y).toNat)
      case atStart => exact ⟨rfl, false, 0, rfl, rfl, by omega, Lib.hid (Or.inr (fun c hc => by simp at hc))⟩
      case round =>
        obtain ⟨rfl, had, i, rfl, rfl, hi, hI⟩ := hrel
        by_cases hgo : i < s.size
        · cases had with
          | true =>
            go_wp2_with fail
            go_roundw
            case rel => exact ⟨by trivial, true, i + 1, rfl, by go_num, by omega, Lib.hid (Or.inl rfl)⟩
            case measure => simp [intOf]; omega
          | false =>
            have HS := Lib.hid (SameI.next hgo hI.out)
            go_wp2_with fail
            go_roundw
            case rel => exact ⟨by trivial, _, i + 1, rfl, by go_num, by omega, HS⟩
            case measure => simp [intOf]; omega
        · obtain rfl : i = s.size := by omega
          go_wp2_with fail
          go_loopw [12, 15] (fun x y wq => wq = wr ∧ ∃ (k i : Nat), x = .int .i64 k ∧ y = .int .i64 i ∧ k ≤ i ∧ i ≤ bb.size ∧ Hid (k + cnt12 (bb.data.toList.drop i) = cnt12 bb.data.toList)) (fun _ y _ => bb.size - (intOf y).toNat)
          case atStart => exact ⟨rfl, 0, 0, rfl, rfl, by omega, by omega, Lib.hid (by simp)⟩
          case round =>
            obtain ⟨rfl, k, i, rfl, rfl, hk, hi2, hK⟩ := hrel
            by_cases hgo2 : i + 1 < bb.size
            · have hb' : i + 1 < bb.data.toList.length := by rw [size_list]; exact hgo2
              have hst := cnt12_drop bb.data.toList i hb'
              have g1 : bb.data.toList[i] = bb[i] := rfl
              have g2 : bb.data.toList[i + 1] = bb[i + 1] := rfl
              rw [g1, g2] at hst
              have E1 : ((bb[i].toNat : Int) == 1) = decide (bb[i] = 1) := byte_beq bb[i] 1 (by omega)
              have E2 : ((bb[i + 1].toNat : Int) == 2) = decide (bb[i + 1] = 2) := byte_beq bb[i + 1] 2 (by omega)
              have hK0 := hK.out
              by_cases h1 : bb[i] = 1
              · have f1 : ((bb[i].toNat : Int) == 1) = true := by rw [E1]; exact decide_eq_true h1
                by_cases h2 : bb[i + 1] = 2
                · have f2 : ((bb[i + 1].toNat : Int) == 2) = true := by rw [E2]; exact decide_eq_true h2
                  have hK2 : Hid (k + 1 + cnt12 (bb.data.toList.drop (i + 1)) = cnt12 bb.data.toList) := Lib.hid (by rw [if_pos ⟨h1, h2⟩] at hst; omega)
                  clear h1 h2 hst hK hK0 g1 g2 E1 E2
                  go_wp2_with fail
                  go_roundw
                  case rel => exact ⟨by trivial, k + 1, i + 1, by go_num, by go_num, by omega, by omega, hK2⟩
                  case measure => simp [intOf]; omega
                · have f2 : ((bb[i + 1].toNat : Int) == 2) = false := by rw [E2]; exact decide_eq_false h2
                  have hK2 : Hid (k + cnt12 (bb.data.toList.drop (i + 1)) = cnt12 bb.data.toList) := Lib.hid (by rw [if_neg (fun h => h2 h.2)] at hst; omega)
                  clear h1 h2 hst hK hK0 g1 g2 E1 E2
                  go_wp2_with fail
                  go_roundw
                  case rel => exact ⟨by trivial, k, i + 1, rfl, by go_num, by omega, by omega, hK2⟩
                  case measure => simp [intOf]; omega
              · have f1 : ((bb[i].toNat : Int) == 1) = false := by rw [E1]; exact decide_eq_false h1
                have hK2 : Hid (k + cnt12 (bb.data.toList.drop (i + 1)) = cnt12 bb.data.toList) := Lib.hid (by rw [if_neg (fun h => h1 h.1)] at hst; omega)
                clear h1 hst hK hK0 g1 g2 E1 E2
                go_wp2_with fail
                go_roundw
                case rel => exact ⟨by trivial, k, i + 1, rfl, by go_num, by omega, by omega, hK2⟩
                case measure => simp [intOf]; omega
            · have hend : cnt12 (bb.data.toList.drop i) = 0 := cnt12_end _ _ (by rw [size_list]; omega)
              have hK0 := hK.out
              rw [hend, Nat.add_zero] at hK0
              have HK0 := Lib.hid hK0
              clear hend hK0 hK
              cases had with
              | true =>
                go_wp2_with fail
                refine (HL.out _).mono ?_
                rintro e w6 ⟨rfl, b6⟩
                have B6 := Lib.hid (Below.step B5.out b6)
                clear b6
                go_wp2_with fail
                go_ret
                exact ⟨rfl, B6.out⟩
              | false =>
                have hkl : k = l.length := by
                  rw [HK0.out]
                  refine HC.out (fun c hc => ?_)
                  rcases hI.out with h | h
                  · cases h
                  · exact h c (by rw [List.take_of_length_le (by rw [size_list]; omega)]; exact hc)
                have hbq : ((k : Int) == (l.length : Int)) = true := by rw [hkl]; exact beq_self_eq_true _
                clear hkl
                go_wp2_with fail
                refine (HL.out _).mono ?_
                rintro e w6 ⟨rfl, b6⟩
                have B6 := Lib.hid (Below.step B5.out b6)
                clear b6
                go_wp2_with fail
                go_ret
                exact ⟨rfl, B6.out⟩
end Go.Proofs.YtimipfdknfdbdaaGreat

namespace Go.Proofs.YtimipfdknfdbdaaGreat
theorem max_cell {w : World} (h : w.ShapedOpen Tryz.prog) : MX w := Tryz.laysM219.s1_3 w h
end Go.Proofs.YtimipfdknfdbdaaGreat
namespace Go.Proofs.YtimipfdknfdbdaaGreat.substSame
open Go.ChangeShapes Go.WideShapes Go.ChangeAt Go.RowKit Go.ChangeMaps

theorem walk (p s : ByteArray) (_ : p.size ≤ maxLen) (_ : s.size ≤ maxLen) (w : World) (hx : MX w) :
    Calls Tryz.prog 3 #[.string p, .string s] w fun e w' => e = .returned (.bool true) ∧ Below w.heap.size w w' := ss_walk p s w hx

set_option maxRecDepth 100000 in
theorem lifted (os : Os) (started : os.Started) (H : Type) (enc : TypeId × Value → H) :
    ReturnsInHanded {} Tryz.checked os 3 .any (Rows.substSameSpec.pre6 enc Tryz.prog Tryz.f3 Rows.substSameRow.domain false) (Rows.substSameSpec.post enc Tryz.prog Tryz.f3 false true false false) := by
  refine returnsInHanded_of_change_shaped (C := Tryz.checked) own started (by kernel_rfl) Tryz.func3
    (ChangeSpec.witness6 (enc := enc) (C := Tryz.checked) false ⟨#[], #[.string ⟨#[]⟩, .string ⟨#[]⟩], []⟩ 8 (by kernel_rfl) (by kernel_rfl) (by kernel_rfl) (by kernel_rfl)) ?_
  intro W base args ds gs before hval0 hW _ _ hsh _
  have hval : ∀ (j : Nat) t v, Tryz.f3.params[j]? = some t → args[j]? = some v → Value.okWide Tryz.prog W .any base t v := hval0
  have hW' := hW
  obtain ⟨p, q, hA0, hV, rfl, hfz, hnd⟩ := hW
  have hA : DataW.TrodAll enc Tryz.prog W 0 (fun _ => true) true Tryz.f3.params.toList args.toList ds p := hA0
  rw [Tryz.params3] at hA hval
  obtain ⟨v0, vs0, d0, ds0, p0, q0, hargs, rfl, rfl, h0, r0⟩ := trodAll_cons hA
  obtain ⟨v1, vs1, d1, ds1, p1, q1, rfl, rfl, rfl, h1, r1⟩ := trodAll_cons r0
  obtain ⟨rfl, rfl, rfl⟩ := trodAll_nil r1
  obtain rfl : args = #[v0, v1] := by cases args; simp_all
  obtain ⟨rfl, rfl⟩ := trodVars_none hV
  obtain ⟨a0, rfl, rfl, rfl, w0⟩ := open_string Tryz.underlying9 (hval 0 9 v0 rfl rfl) h0
  obtain ⟨a1, rfl, rfl, rfl, w1⟩ := open_string Tryz.underlying9 (hval 1 9 v1 rfl rfl) h1
  clear hA0 hval0
  simp only [List.append_nil] at hW'
  refine (walk a0 a1 w0 w1 W (max_cell hsh)).mono fun e W' ⟨he, hg⟩ => ?_
  subst he
  exact ⟨_, rfl, post_bare hW' (fun _ _ _ => (trodAll_cons_mk (shut_bool Tryz.underlying4 _) trodAll_mk0)) (fun sp => (trodAll_cons_mk (shut_string Tryz.underlying9 w0) (trodAll_cons_mk (shut_string Tryz.underlying9 w1) trodAll_mk0))) (fun _ => rfl) hg⟩

theorem proved : Rows.SubstSameSaid :=
  OpenClaim.holds_of_wide 3 Tryz.f3 rfl rfl rfl rfl rfl rfl rfl ⟨rfl, rfl, rfl, rfl, rfl⟩ rfl rfl rfl rfl rfl (by kernel_rfl) Tryz.func3 (by kernel_rfl)
    (of_decide_eq_true (by kernel_rfl)) (by unfold Func.isWrapper; first | (rw [if_pos (by decide +kernel)]; kernel_rfl) | (rw [if_neg (by decide +kernel)]; exact ⟨rfl, rfl⟩))
    (fun os started H enc _ => lifted os started H enc)
#print axioms proved
end Go.Proofs.YtimipfdknfdbdaaGreat.substSame
