/- Merged by program: RMakeC, T1DecA, T1DecB, T1RefMath, T1RefA. -/
import Derived.Test.YtbbhcbpfffabpaaGreatDoorRows
import Derived.WalkKit
import Derived.WalkSpells
import Derived.WalkLawsBesides
import Derived.Lib.Hide
import Derived.Test.YtbbhcbpfffabpaaGreatDoorGay
import Derived.Test.YtbbhcbpfffabpaaGreatDoorGaa
/- The document's make1 at the letters c and s: walks. -/
namespace Go.Proofs.YtbbhcbpfffabpaaGreatDoor
open Go.RowKit

set_option maxRecDepth 100000 in
set_option maxHeartbeats 2000000 in
theorem make1_c (d : Dir) (_ : -1 ≤ d.prec ∧ d.prec ≤ 200) (c : Cel) (hc : COk c) (hl : d.letter = 99) (w : World) :
    Calls Tryz.prog 58 #[d.val, c.val] w (StrErr (makeS d c) w) := by
  have H0 := Lib.hid (box10R w d c)
  have HS := Lib.hid (fun W => refCStr_any c hc W)
  have hsz := cstr_size c hc
  have hbs := body_size d c hc
  have HPd := Lib.hid (fun (t : ByteArray) (ht : t.size ≤ 400) (z : Bool) (W : World) => refPad_any t (by omega) d.wide d.left z W)
  have fin : ∀ t e w', makeS d c = t → StrErr t w e w' → StrErr (makeS d c) w e w' := fun t e w' h h2 => by rw [h]; exact h2
  have FIN := Lib.hid fin
  clear fin
  have HBS := Lib.hid (fun W => T2.refSub_any c.str 1 1 (by omega) (by omega) (by omega) W)
  have hz : zeroB d = false := by unfold zeroB; rw [hl]; simp
  have d1 : ((d.letter : Int) == 99) = true := by rw [hl]; rfl
  have hbody : bodyS d c = if c.k = 1 then chrS (c.n.tdiv 1000000) else (T2.subB c.str 1 1, 0) := by unfold bodyS; rw [if_pos hl]
  unfold Dir.val
  unfold Cel.val at HS ⊢
  clear hl
  by_cases hk : c.k = 1
  · rw [if_pos hk] at hbody
    obtain ⟨q, hq⟩ : ∃ q, q = c.n.tdiv 1000000 := ⟨_, rfl⟩
    have hqb := tdiv_bd c.n hc.n
    rw [← hq] at hqb hbody
    have wq : wrap64 (c.n.tdiv 1000000) = q := by rw [← hq]; unfold wrap64; omega
    have d2 : (c.k != 1) = false := by rw [hk]; rfl
    obtain ⟨V, hV⟩ : ∃ V : Bool, V = decide (q < 0 ∨ 1114111 < q ∨ (55296 ≤ q ∧ q ≤ 57343)) := ⟨_, rfl⟩
    have HV := Lib.hid hV
    have HQd := Lib.hid hq
    have HBody := Lib.hid hbody
    have HWq := Lib.hid wq
    clear hV hq hk hbody wq
    go_enter Tryz.func58, Tryz.ntmps58
    go_wp2_with fail
    refine (HS.out _).mono ?_
    rintro e w1 ⟨rfl, b1⟩
    have K1 := Lib.hid (keep10 H0.out b1)
    obtain ⟨_, c0, c1, c2, c3, c4, c5, c6, e0, e1, e2⟩ := K1.out
    have B1 := Lib.hid K1.out.1.out
    clear b1
    go_upto_region 22 with (fail)
    rw [HWq.out]
    go_cut [97] (fun x wx => x = .bool V ∧ wx = w1)
    case first =>
      by_cases g1 : q < 0
      · have d3 : decide (q < 0) = true := decide_eq_true g1
        have db : V = true := by rw [HV.out]; exact decide_eq_true (Or.inl g1)
        subst db
        go_wp2_with fail
        go_meet
        exact ⟨rfl, rfl⟩
      · have d3 : decide (q < 0) = false := decide_eq_false g1
        by_cases g2 : 1114111 < q
        · have d4 : decide (1114111 < q) = true := decide_eq_true g2
          have db : V = true := by rw [HV.out]; exact decide_eq_true (Or.inr (Or.inl g2))
          subst db
          go_wp2_with fail
          go_meet
          exact ⟨rfl, rfl⟩
        · have d4 : decide (1114111 < q) = false := decide_eq_false g2
          by_cases g3 : 55296 ≤ q
          · have d5 : decide (55296 ≤ q) = true := decide_eq_true g3
            by_cases g4 : q ≤ 57343
            · have d6 : decide (q ≤ 57343) = true := decide_eq_true g4
              have db : V = true := by rw [HV.out]; exact decide_eq_true (Or.inr (Or.inr ⟨g3, g4⟩))
              subst db
              go_wp2_with fail
              go_meet
              exact ⟨rfl, rfl⟩
            · have d6 : decide (q ≤ 57343) = false := decide_eq_false g4
              have db : V = false := by rw [HV.out]; exact decide_eq_false (by omega)
              subst db
              go_wp2_with fail
              go_meet
              exact ⟨rfl, rfl⟩
          · have d5 : decide (55296 ≤ q) = false := decide_eq_false g3
            have db : V = false := by rw [HV.out]; exact decide_eq_false (by omega)
            subst db
            go_wp2_with fail
            go_meet
            exact ⟨rfl, rfl⟩
    case rest =>
    obtain ⟨rfl, hwx⟩ := hcut
    subst hwx
    go_step
    cases V with
    | true =>
      have hbad := of_decide_eq_true HV.out.symm
      have HR : Hid (makeS d c = (noTxt, 100)) := Lib.hid (make_bad (by rw [HBody.out]; unfold chrS; rw [if_pos hbad]) (by decide))
      clear hbad
      go_wp2_with fail
      go_ret2
      exact FIN.out _ _ _ HR.out ⟨rfl, B1.out⟩
    | false =>
      have hgood := of_decide_eq_false HV.out.symm
      have hb : bodyS d c = (Utf8.encode q, 0) := by rw [HBody.out]; unfold chrS; rw [if_neg hgood]
      have HR : Hid (makeS d c = (padS (Utf8.encode q) d.wide d.left false, 0)) := Lib.hid (by rw [make_good hb, hz])
      have ht : (Utf8.encode q).size ≤ 400 := by have := encode_size q; omega
      have w32 : wrap32 q = q := by unfold wrap32; omega
      have hq0 : 0 ≤ q ∧ q ≤ 1114111 := by omega
      clear hb hgood hz
      go_wp2_with fail
      refine (HPd.out _ ht _ _).mono ?_
      rintro e w9 ⟨rfl, b9⟩
      have B9 := Lib.hid (Below.step B1.out b9)
      clear b9
      go_wp2_with fail
      go_ret2
      exact FIN.out _ _ _ HR.out ⟨rfl, B9.out⟩
  · rw [if_neg hk] at hbody
    have d2 : (c.k != 1) = true := bne_iff_ne.2 hk
    have HR : Hid (makeS d c = (padS (T2.subB c.str 1 1) d.wide d.left false, 0)) := Lib.hid (by rw [make_good hbody, hz])
    have ht : (T2.subB c.str 1 1).size ≤ 400 := by have := subB_size c.str 1 1; omega
    clear hbody hz hk
    go_enter Tryz.func58, Tryz.ntmps58
    go_wp2_with fail
    refine (HS.out _).mono ?_
    rintro e w1 ⟨rfl, b1⟩
    have K1 := Lib.hid (keep10 H0.out b1)
    obtain ⟨_, c0, c1, c2, c3, c4, c5, c6, e0, e1, e2⟩ := K1.out
    have B1 := Lib.hid K1.out.1.out
    clear b1
    go_wp2_with fail
    refine (HBS.out _).mono ?_
    rintro e w2 ⟨rfl, b2⟩
    have K2 := Lib.hid (keep10 K1.out b2)
    clear c0 c1 c2 c3 c4 c5 c6 e0 e1 e2
    obtain ⟨_, c0, c1, c2, c3, c4, c5, c6, e0, e1, e2⟩ := K2.out
    have B2 := Lib.hid K2.out.1.out
    clear b2
    go_wp2_with fail
    refine (HPd.out _ ht _ _).mono ?_
    rintro e w9 ⟨rfl, b9⟩
    have B9 := Lib.hid (Below.step B2.out b9)
    clear b9
    go_wp2_with fail
    go_ret2
    exact FIN.out _ _ _ HR.out ⟨rfl, B9.out⟩

set_option maxRecDepth 100000 in
set_option maxHeartbeats 2000000 in
theorem make1_s (d : Dir) (hd : -1 ≤ d.prec ∧ d.prec ≤ 200) (c : Cel) (hc : COk c) (hl : d.letter = 115) (w : World) :
    Calls Tryz.prog 58 #[d.val, c.val] w (StrErr (makeS d c) w) := by
  have H0 := Lib.hid (box10R w d c)
  have HS := Lib.hid (fun W => refCStr_any c hc W)
  have hsz := cstr_size c hc
  have hbs := body_size d c hc
  have HPd := Lib.hid (fun (t : ByteArray) (ht : t.size ≤ 400) (z : Bool) (W : World) => refPad_any t (by omega) d.wide d.left z W)
  have fin : ∀ t e w', makeS d c = t → StrErr t w e w' → StrErr (makeS d c) w e w' := fun t e w' h h2 => by rw [h]; exact h2
  have FIN := Lib.hid fin
  clear fin
  have HBS := Lib.hid (fun W => T2.refSub_any c.str 1 d.prec (by omega) (by omega) (by omega) W)
  have hz : zeroB d = false := by unfold zeroB; rw [hl]; simp
  have d1 : ((d.letter : Int) == 99) = false := by rw [hl]; rfl
  have d2 : ((d.letter : Int) == 115) = true := by rw [hl]; rfl
  have hbody : bodyS d c = (if d.prec = -1 then c.str else T2.subB c.str 1 d.prec, 0) := by unfold bodyS; rw [if_neg (by omega), if_pos hl]
  unfold Dir.val
  unfold Cel.val at HS ⊢
  clear hl
  by_cases hp : d.prec = -1
  · rw [if_pos hp] at hbody
    have d3 : decide (0 ≤ d.prec) = false := decide_eq_false (by omega)
    have HR : Hid (makeS d c = (padS c.str d.wide d.left false, 0)) := Lib.hid (by rw [make_good hbody, hz])
    have ht : c.str.size ≤ 400 := by omega
    clear hbody hz hp
    go_enter Tryz.func58, Tryz.ntmps58
    go_wp2_with fail
    refine (HS.out _).mono ?_
    rintro e w1 ⟨rfl, b1⟩
    have K1 := Lib.hid (keep10 H0.out b1)
    obtain ⟨_, c0, c1, c2, c3, c4, c5, c6, e0, e1, e2⟩ := K1.out
    have B1 := Lib.hid K1.out.1.out
    clear b1
    go_wp2_with fail
    refine (HPd.out _ ht _ _).mono ?_
    rintro e w9 ⟨rfl, b9⟩
    have B9 := Lib.hid (Below.step B1.out b9)
    clear b9
    go_wp2_with fail
    go_ret2
    exact FIN.out _ _ _ HR.out ⟨rfl, B9.out⟩
  · rw [if_neg hp] at hbody
    have d3 : decide (0 ≤ d.prec) = true := decide_eq_true (by omega)
    have HR : Hid (makeS d c = (padS (T2.subB c.str 1 d.prec) d.wide d.left false, 0)) := Lib.hid (by rw [make_good hbody, hz])
    have ht : (T2.subB c.str 1 d.prec).size ≤ 400 := by have := subB_size c.str 1 d.prec; omega
    clear hbody hz hp
    go_enter Tryz.func58, Tryz.ntmps58
    go_wp2_with fail
    refine (HS.out _).mono ?_
    rintro e w1 ⟨rfl, b1⟩
    have K1 := Lib.hid (keep10 H0.out b1)
    obtain ⟨_, c0, c1, c2, c3, c4, c5, c6, e0, e1, e2⟩ := K1.out
    have B1 := Lib.hid K1.out.1.out
    clear b1
    go_wp2_with fail
    refine (HBS.out _).mono ?_
    rintro e w2 ⟨rfl, b2⟩
    have K2 := Lib.hid (keep10 K1.out b2)
    clear c0 c1 c2 c3 c4 c5 c6 e0 e1 e2
    obtain ⟨_, c0, c1, c2, c3, c4, c5, c6, e0, e1, e2⟩ := K2.out
    have B2 := Lib.hid K2.out.1.out
    clear b2
    go_wp2_with fail
    refine (HPd.out _ ht _ _).mono ?_
    rintro e w9 ⟨rfl, b9⟩
    have B9 := Lib.hid (Below.step B2.out b9)
    clear b9
    go_wp2_with fail
    go_ret2
    exact FIN.out _ _ _ HR.out ⟨rfl, B9.out⟩
end Go.Proofs.YtbbhcbpfffabpaaGreatDoor

/- Contracts of the plain functions of dec. -/
namespace Go.Proofs.YtbbhcbpfffabpaaGreatDoor.T1
open Go.Proofs.YtbbhcbpfffabpaaGreatDoor Go.Proofs
open Go.RowKit

def Fits (n : Int) : Prop := -9223372036854775808 ≤ n ∧ n ≤ 9223372036854775807
instance (n : Int) : Decidable (Fits n) := by unfold Fits; infer_instance
def back (n : Int) : Int × Int := if Fits n then (n, 0) else (0, 10)
def ans (p : Int × Int) : Value := .tuple #[.int .i64 p.1, .int .i64 p.2]

theorem ans_yes {n : Int} (h : Fits n) : ans (back n) = .tuple #[.int .i64 n, .int .i64 0] := by
  simp [ans, back, h]
theorem ans_no {n : Int} (h : ¬ Fits n) : ans (back n) = .tuple #[.int .i64 0, .int .i64 10] := by
  simp [ans, back, h]

set_option maxHeartbeats 400000 in
theorem add_any (a b : Int) (w : World) (ha : Fits a) (hb : Fits b) :
    Calls Tryz.prog 62 #[.int .i64 a, .int .i64 b] w fun e w' => e = .returned (ans (back (a + b))) ∧ w = w' := by
  unfold Fits at ha hb
  obtain ⟨a1, a2⟩ := ha
  obtain ⟨b1, b2⟩ := hb
  rcases (show (0 < b ∧ 9223372036854775807 - b < a) ∨ (0 < b ∧ a ≤ 9223372036854775807 - b) ∨ (b < 0 ∧ a < -9223372036854775808 - b) ∨ (b < 0 ∧ -9223372036854775808 - b ≤ a) ∨ (0 ≤ b ∧ b ≤ 0) from by omega) with ⟨h0, h1⟩ | ⟨h0, h1⟩ | ⟨h0, h1⟩ | ⟨h0, h1⟩ | ⟨h0, h1⟩
  case' inl => rw [ans_no (by unfold Fits; omega)]
  case' inr.inl => rw [ans_yes (by unfold Fits; omega)]
  case' inr.inr.inl => rw [ans_no (by unfold Fits; omega)]
  case' inr.inr.inr.inl => rw [ans_yes (by unfold Fits; omega)]
  case' inr.inr.inr.inr => rw [ans_yes (by unfold Fits; omega)]
  all_goals
    go_enter Tryz.func62, Tryz.ntmps62
    go_wp2
    go_ret2
    exact ⟨rfl, rfl⟩

set_option maxHeartbeats 400000 in
theorem sub_any (a b : Int) (w : World) (ha : Fits a) (hb : Fits b) :
    Calls Tryz.prog 63 #[.int .i64 a, .int .i64 b] w fun e w' => e = .returned (ans (back (a - b))) ∧ w = w' := by
  unfold Fits at ha hb
  obtain ⟨a1, a2⟩ := ha
  obtain ⟨b1, b2⟩ := hb
  rcases (show (b < 0 ∧ 9223372036854775807 + b < a) ∨ (b < 0 ∧ a ≤ 9223372036854775807 + b) ∨ (0 < b ∧ a < -9223372036854775808 + b) ∨ (0 < b ∧ -9223372036854775808 + b ≤ a) ∨ (0 ≤ b ∧ b ≤ 0) from by omega) with ⟨h0, h1⟩ | ⟨h0, h1⟩ | ⟨h0, h1⟩ | ⟨h0, h1⟩ | ⟨h0, h1⟩
  case' inl => rw [ans_no (by unfold Fits; omega)]
  case' inr.inl => rw [ans_yes (by unfold Fits; omega)]
  case' inr.inr.inl => rw [ans_no (by unfold Fits; omega)]
  case' inr.inr.inr.inl => rw [ans_yes (by unfold Fits; omega)]
  case' inr.inr.inr.inr => rw [ans_yes (by unfold Fits; omega)]
  all_goals
    go_enter Tryz.func63, Tryz.ntmps63
    go_wp2
    go_ret2
    exact ⟨rfl, rfl⟩

theorem wrapU (a : Int) : IntKind.u64.wrap a = a % 18446744073709551616 := by
  simp [IntKind.wrap, IntKind.signed, IntKind.bits]

theorem ret_int {k : IntKind} {a b : Int} (h : a = b) : Ending.returned (.int k a) = .returned (.int k b) := by rw [h]
theorem ret_ans {a b c d : Int} (h : a = c) (h' : b = d) : Ending.returned (.tuple #[.int .i64 a, .int .i64 b]) = .returned (.tuple #[.int .i64 c, .int .i64 d]) := by rw [h, h']

theorem tmod_near (a : Int) (ha : Fits a) : Fits (a - a.tmod 1000000) := by
  unfold Fits at *
  have h := Int.tmod_add_mul_tdiv a 1000000
  rcases (show 0 ≤ a ∨ a ≤ 0 from by omega) with h0 | h0
  · have h1 := Int.tmod_nonneg 1000000 h0
    have h2 := Int.tdiv_nonneg h0 (show (0 : Int) ≤ 1000000 from by omega)
    omega
  · have h1 := Int.tmod_nonneg 1000000 (show 0 ≤ -a from by omega)
    have h2 := Int.tdiv_nonneg (show 0 ≤ -a from by omega) (show (0 : Int) ≤ 1000000 from by omega)
    rw [Int.neg_tmod] at h1
    rw [Int.neg_tdiv] at h2
    omega

theorem int_any (a : Int) (w : World) (ha : Fits a) :
    Calls Tryz.prog 44 #[.int .i64 a] w fun e w' => e = .returned (.int .i64 (a.tdiv 1000000 * 1000000)) ∧ w = w' := by
  have h : wrap64 (a - a.tmod 1000000) = a.tdiv 1000000 * 1000000 := by
    have h0 := tmod_near a ha
    unfold Fits at h0
    rw [IntWalk.wrap64_in _ ⟨by omega, by omega⟩]
    have := Int.tmod_add_mul_tdiv a 1000000; omega
  unfold Fits at ha
  obtain ⟨a1, a2⟩ := ha
  have H := Lib.hid h; clear h
  go_enter Tryz.func44, Tryz.ntmps44
  go_wp2
  go_ret
  exact ⟨ret_int H.out, rfl⟩

theorem size_any (a : Int) (w : World) (ha : Fits a) :
    Calls Tryz.prog 69 #[.int .i64 a] w fun e w' => e = .returned (.int .u64 a.natAbs) ∧ w = w' := by
  have h : a < 0 → IntKind.u64.wrap (-IntKind.u64.wrap a) = a.natAbs := by
    unfold Fits at ha
    intro h0
    rw [wrapU, wrapU]
    omega
  have H := Lib.hid h; clear h
  unfold Fits at ha
  obtain ⟨a1, a2⟩ := ha
  rcases (show a < 0 ∨ 0 ≤ a from by omega) with h | h
  all_goals
    go_enter Tryz.func69, Tryz.ntmps69
    go_wp2
    go_ret
  · exact ⟨ret_int (H.out h), rfl⟩
  · exact ⟨ret_int (by omega), rfl⟩

set_option maxHeartbeats 400000 in
theorem signed_any (n : Nat) (b : Bool) (w : World) (hn : n ≤ 18446744073709551615) :
    Calls Tryz.prog 114 #[.int .u64 n, .bool b] w fun e w' => e = .returned (ans (back (if b then -(n : Int) else n))) ∧ w = w' := by
  cases b
  · rcases (show n ≤ 9223372036854775807 ∨ 9223372036854775807 < n from by omega) with h | h
    · rw [if_neg (by simp), ans_yes (by unfold Fits; omega)]
      go_enter Tryz.func114, Tryz.ntmps114
      go_wp2
      go_ret2
      exact ⟨rfl, rfl⟩
    · rw [if_neg (by simp), ans_no (by unfold Fits; omega)]
      go_enter Tryz.func114, Tryz.ntmps114
      go_wp2
      go_ret2
      exact ⟨rfl, rfl⟩
  · rcases (show n ≤ 9223372036854775808 ∨ 9223372036854775808 < n from by omega) with h | h
    · have h0 : n ≤ 9223372036854775808 → wrap64 (IntKind.u64.wrap (-(n : Int))) = -(n : Int) := by
        intro h0
        rw [wrapU]
        unfold wrap64
        omega
      have H := Lib.hid h0; clear h0
      rw [if_pos rfl, ans_yes (by unfold Fits; omega)]
      go_enter Tryz.func114, Tryz.ntmps114
      go_wp2
      go_ret2
      exact ⟨ret_ans (H.out h) rfl, rfl⟩
    · rw [if_pos rfl, ans_no (by unfold Fits; omega)]
      go_enter Tryz.func114, Tryz.ntmps114
      go_wp2
      go_ret2
      exact ⟨rfl, rfl⟩

set_option maxHeartbeats 400000 in
theorem whole_any (n : Int) (w : World) (hn : Fits n) :
    Calls Tryz.prog 38 #[.int .i64 n] w fun e w' => e = .returned (ans (back (n * 1000000))) ∧ w = w' := by
  unfold Fits at hn
  obtain ⟨n1, n2⟩ := hn
  rcases (show n < -9223372036854 ∨ (-9223372036854 ≤ n ∧ n ≤ 9223372036854) ∨ 9223372036854 < n from by omega) with h | ⟨h, h'⟩ | h
  case' inl => rw [ans_no (by unfold Fits; omega)]
  case' inr.inl => rw [ans_yes (by unfold Fits; omega)]
  case' inr.inr => rw [ans_no (by unfold Fits; omega)]
  all_goals
    go_enter Tryz.func38, Tryz.ntmps38
    go_wp2
    go_ret2
    exact ⟨rfl, rfl⟩

def modAns (a b : Int) : Int × Int := if b = 0 then (0, 11) else (a.tmod b, 0)
set_option maxHeartbeats 400000 in
theorem mod_any (a b : Int) (w : World) (ha : Fits a) (hb : Fits b) :
    Calls Tryz.prog 66 #[.int .i64 a, .int .i64 b] w fun e w' => e = .returned (ans (modAns a b)) ∧ w = w' := by
  by_cases h0 : b = 0
  · subst h0
    rw [show ans (modAns a 0) = .tuple #[.int .i64 0, .int .i64 11] from rfl]
    go_enter Tryz.func66, Tryz.ntmps66
    go_wp2
    go_ret2
    exact ⟨rfl, rfl⟩
  · rw [show ans (modAns a b) = .tuple #[.int .i64 (a.tmod b), .int .i64 0] from by simp [ans, modAns, h0]]
    have hh : ((b : Int) == 0) = false := by simpa using h0
    unfold Fits at ha hb
    obtain ⟨a1, a2⟩ := ha
    obtain ⟨b1, b2⟩ := hb
    go_enter Tryz.func66, Tryz.ntmps66
    go_wp2
    go_ret2
    exact ⟨rfl, rfl⟩
end Go.Proofs.YtbbhcbpfffabpaaGreatDoor.T1

/- Plain parts of stage 1's texts (of DecB). -/
namespace Go.Proofs.YtbbhcbpfffabpaaGreatDoor.T1
open Go.Proofs.YtbbhcbpfffabpaaGreatDoor Go.Proofs
open Go.RowKit
def Drew (w w' : World) : Prop := ∃ n, w' = w.drewN n
theorem Drew.refl (w : World) : Drew w w := ⟨0, rfl⟩
def sgn (b : Bool) (n : Nat) : Int := if b then -(n : Int) else n
theorem natAbs_lt {a : Int} (h : Fits a) : a.natAbs < 18446744073709551616 := by unfold Fits at h; omega
end Go.Proofs.YtbbhcbpfffabpaaGreatDoor.T1

/- Plain mathematics of digits, the lowest first: no program. -/
namespace Go.Proofs.YtbbhcbpfffabpaaGreatDoor.T1
open Go.Proofs.YtbbhcbpfffabpaaGreatDoor Go.Proofs

def val : List Nat → Nat
  | [] => 0
  | d :: l => d + 10 * val l
def Dl (l : List Nat) : Prop := ∀ d ∈ l, d < 10
def sv (m : Bool) (l : List Nat) : Int := if m then -(val l : Int) else val l

theorem val_append (a b : List Nat) : val (a ++ b) = val a + 10 ^ a.length * val b := by
  induction a with
  | nil => simp [val]
  | cons d a ih =>
    simp only [List.cons_append, val, List.length_cons, ih, Nat.pow_succ]
    rw [Nat.mul_add, ← Nat.mul_assoc, Nat.mul_comm 10 (10 ^ a.length)]
    omega

theorem val_lt {l : List Nat} (h : Dl l) : val l < 10 ^ l.length := by
  induction l with
  | nil => simp [val]
  | cons d l ih =>
    have h1 : d < 10 := h d (by simp)
    have h2 := ih (fun x hx => h x (by simp [hx]))
    simp only [val, List.length_cons, Nat.pow_succ]
    omega

theorem val_zeros (n : Nat) : val (List.replicate n 0) = 0 := by
  induction n with
  | zero => rfl
  | succ n ih => simp [List.replicate_succ, val, ih]

theorem Dl.nil : Dl [] := by intro d h; simp at h
theorem Dl.append {a b : List Nat} (ha : Dl a) (hb : Dl b) : Dl (a ++ b) := by
  intro d h
  rcases List.mem_append.1 h with h | h
  · exact ha d h
  · exact hb d h
theorem Dl.one {d : Nat} (h : d < 10) : Dl [d] := by intro x hx; simp at hx; omega
theorem Dl.take {l : List Nat} (h : Dl l) (k : Nat) : Dl (l.take k) := fun d hd => h d (List.mem_of_mem_take hd)
theorem Dl.drop {l : List Nat} (h : Dl l) (k : Nat) : Dl (l.drop k) := fun d hd => h d (List.mem_of_mem_drop hd)
theorem Dl.zeros (n : Nat) : Dl (List.replicate n 0) := by intro d h; rw [List.mem_replicate] at h; omega

theorem Dl.getD {l : List Nat} (h : Dl l) (k : Nat) : l.getD k 0 < 10 := by
  rw [List.getD_eq_getElem?_getD]
  rcases Nat.lt_or_ge k l.length with hk | hk
  · rw [List.getElem?_eq_getElem hk]; exact h _ (List.getElem_mem hk)
  · rw [List.getElem?_eq_none hk]; decide

/-- The first k digits of a list that goes on with noughts. -/
def pre (l : List Nat) (k : Nat) : Nat := val (l.take k)

theorem pre_succ (l : List Nat) (k : Nat) : pre l (k + 1) = pre l k + 10 ^ k * l.getD k 0 := by
  unfold pre
  rcases Nat.lt_or_ge k l.length with h | h
  · rw [List.take_succ_eq_append_getElem h, val_append, List.length_take, Nat.min_eq_left (by omega)]
    simp [val, List.getD_eq_getElem?_getD, h]
  · rw [List.take_of_length_le (by omega), List.take_of_length_le (by omega)]
    simp [List.getD_eq_getElem?_getD, List.getElem?_eq_none h]

theorem pre_all (l : List Nat) (k : Nat) (h : l.length ≤ k) : pre l k = val l := by
  unfold pre; rw [List.take_of_length_le h]

theorem pre_lt {l : List Nat} (h : Dl l) (k : Nat) : pre l k < 10 ^ k := by
  induction k with
  | zero => simp [pre, val]
  | succ k ih =>
    rw [pre_succ, Nat.pow_succ]
    have := h.getD k
    have h2 : 10 ^ k * l.getD k 0 ≤ 10 ^ k * 9 := Nat.mul_le_mul_left _ (by omega)
    omega

/-- The digits from k on. -/
def suf (l : List Nat) (k : Nat) : Nat := val (l.drop k)
theorem suf_step (l : List Nat) (k : Nat) : suf l k = l.getD k 0 + 10 * suf l (k + 1) := by
  unfold suf
  rcases Nat.lt_or_ge k l.length with h | h
  · rw [List.drop_eq_getElem_cons h]
    simp [val, List.getD_eq_getElem?_getD, h]
  · rw [List.drop_of_length_le h, List.drop_of_length_le (by omega)]
    simp [val, List.getD_eq_getElem?_getD, List.getElem?_eq_none h]
theorem suf_zero (l : List Nat) : suf l 0 = val l := rfl
theorem suf_end (l : List Nat) (k : Nat) (h : l.length ≤ k) : suf l k = 0 := by
  unfold suf; rw [List.drop_of_length_le h]; rfl

end Go.Proofs.YtbbhcbpfffabpaaGreatDoor.T1

/- Contracts of the document's answers for numbers: what only reads. -/
namespace Go.Proofs.YtbbhcbpfffabpaaGreatDoor.T1
open Go.Proofs.YtbbhcbpfffabpaaGreatDoor Go.Proofs
open Go.RowKit

/-- A slice of digits reads as a list. -/
structure Rd (w : World) (p : Option Addr) (n c : Nat) (l : List Nat) : Prop where
  len : n = l.length
  cap : n ≤ c
  size : n ≤ 1000
  digs : Dl l
  nil : p = none → c = 0
  cells : l = [] ∨ ∃ b off, p = some ⟨b, off, none⟩ ∧ b < w.heap.size ∧ ∀ i, i < l.length → w.cell? ⟨b, off + i, none⟩ = some (.int .i64 ((l.getD i 0 : Nat) : Int))

theorem Rd.below {w w' : World} {p len cap l} (h : Rd w p len cap l) (hb : Below w.heap.size w w') : Rd w' p len cap l := by
  refine ⟨h.len, h.cap, h.size, h.digs, h.nil, ?_⟩
  rcases h.cells with hc | ⟨b, off, hp, hlt, hc⟩
  · exact Or.inl hc
  · exact Or.inr ⟨b, off, hp, Nat.lt_of_lt_of_le hlt hb.size, fun i hi => by rw [hb.cell (p := ⟨b, off + i, none⟩) hlt]; exact hc i hi⟩

theorem Rd.drewN {w : World} {p len cap l} (h : Rd w p len cap l) (n : Nat) : Rd (w.drewN n) p len cap l := h.below (Below.drewN' (Below.refl _ _) n)

set_option maxHeartbeats 400000 in
theorem digit_any (p : Option Addr) (len cap : Nat) (l : List Nat) (i : Int) (w : World) (h0 : 0 ≤ i) (h : Rd w p len cap l) :
    Calls Tryz.prog 79 #[.slice p len cap, .int .i64 i] w fun e w' => e = .returned (.int .i64 ((l.getD i.toNat 0 : Nat) : Int)) ∧ w = w' := by
  obtain ⟨n, rfl⟩ := Int.eq_ofNat_of_zero_le h0
  rw [Int.toNat_natCast]
  have hl := h.len
  have hs := h.size
  by_cases hn : n < len
  · rcases h.cells with hc | ⟨b, off, rfl, hlt, hc⟩
    · exfalso; rw [hc] at hl; simp at hl; omega
    · have hcell := hc n (by omega)
      have HL := Lib.hid hl; clear hl hc h
      generalize l.getD n 0 = d at *
      go_enter Tryz.func79, Tryz.ntmps79
      go_wp2
      go_ret
      exact ⟨rfl, rfl⟩
  · have hz : l.getD n 0 = 0 := by rw [List.getD_eq_getElem?_getD, List.getElem?_eq_none (by omega)]; rfl
    rw [hz]
    clear hl hz h
    go_enter Tryz.func79, Tryz.ntmps79
    go_wp2
    go_ret
    exact ⟨rfl, rfl⟩

theorem less_end {a b : List Nat} {k : Nat} (ha : Dl a) (hb : Dl b) (hs : suf a (k + 1) = suf b (k + 1)) (hne : a.getD k 0 ≠ b.getD k 0) :
    decide (val a < val b) = decide (a.getD k 0 < b.getD k 0) := by
  have e : ∀ l : List Nat, val l = pre l k + 10 ^ k * suf l k := by
    intro l
    have := val_append (l.take k) (l.drop k)
    rw [List.take_append_drop] at this
    rw [this]
    unfold pre suf
    rcases Nat.lt_or_ge k l.length with h | h
    · rw [List.length_take, Nat.min_eq_left (by omega)]
    · rw [List.drop_of_length_le h]; simp [val]
  have pa := pre_lt ha k
  have pb := pre_lt hb k
  rw [e a, e b, suf_step a k, suf_step b k, hs]
  generalize suf b (k + 1) = s at *
  generalize pre a k = x at *
  generalize pre b k = y at *
  generalize a.getD k 0 = c at *
  generalize b.getD k 0 = d at *
  generalize 10 ^ k = T at *
  have : decide (x + T * (c + 10 * s) < y + T * (d + 10 * s)) = decide (c < d) := by
    rw [decide_eq_decide, Nat.mul_add, Nat.mul_add]
    constructor
    · intro h
      rcases Nat.lt_or_ge c d with h2 | h2
      · exact h2
      · have : T * (d + 1) ≤ T * c := Nat.mul_le_mul_left _ (by omega)
        rw [Nat.mul_add] at this
        omega
    · intro h
      have : T * (c + 1) ≤ T * d := Nat.mul_le_mul_left _ (by omega)
      rw [Nat.mul_add] at this
      omega
  exact this

set_option maxHeartbeats 1000000 in
theorem less_any (p q : Option Addr) (n m cap cap' : Nat) (a b : List Nat) (w : World) (ha : Rd w p n cap a) (hb : Rd w q m cap' b) :
    Calls Tryz.prog 78 #[.slice p n cap, .slice q m cap'] w fun e w' => e = .returned (.bool (decide (val a < val b))) ∧ w = w' := by
  have hn := ha.size
  have hm := hb.size
  have hla := Lib.hid ha.len
  have hlb := Lib.hid hb.len
  have DA := Lib.hid (fun i h0 w' (e : w = w') => digit_any p n cap a i w' h0 (e ▸ ha))
  have DB := Lib.hid (fun i h0 w' (e : w = w') => digit_any q m cap' b i w' h0 (e ▸ hb))
  have hda := ha.digs
  have hdb := hb.digs
  have HDA := Lib.hid hda; clear hda
  have HDB := Lib.hid hdb; clear hdb
  clear ha hb
  go_enter Tryz.func78, Tryz.ntmps78
  go_wp2
  go_loop [5] (fun x => ∃ i : Int, x = .int .i64 i ∧ -1 ≤ i ∧ i ≤ n + m ∧ Hid (suf a (i + 1).toNat = suf b (i + 1).toNat)) (fun x => (intOf x + 1).toNat)
  case atStart => exact ⟨_, rfl, by omega, by omega, Lib.hid (by rw [suf_end a _ (by have := hla.out; omega), suf_end b _ (by have := hlb.out; omega)])⟩
  case round =>
    obtain ⟨i, rfl, hi1, hi2, hsuf⟩ := hrel
    by_cases h0 : 0 ≤ i
    · obtain ⟨k, rfl⟩ := Int.eq_ofNat_of_zero_le h0
      have hsk : suf a (k + 1) = suf b (k + 1) := by have := hsuf.out; rw [show ((k : Int) + 1).toNat = k + 1 from by omega] at this; exact this
      obtain ⟨x, hx⟩ : ∃ x, x = a.getD k 0 := ⟨_, rfl⟩
      obtain ⟨y, hy⟩ : ∃ y, y = b.getD k 0 := ⟨_, rfl⟩
      have hx9 : x < 10 := by rw [hx]; exact HDA.out.getD k
      have hy9 : y < 10 := by rw [hy]; exact HDB.out.getD k
      have CA := Lib.hid (show ∀ w', w = w' → Calls Tryz.prog 79 #[.slice p n cap, .int .i64 (k : Int)] w' fun e w'' => e = .returned (.int .i64 (x : Int)) ∧ w' = w'' from fun w' e => by rw [hx]; exact DA.out k (by omega) w' e)
      have CB := Lib.hid (show ∀ w', w = w' → Calls Tryz.prog 79 #[.slice q m cap', .int .i64 (k : Int)] w' fun e w'' => e = .returned (.int .i64 (y : Int)) ∧ w' = w'' from fun w' e => by rw [hy]; exact DB.out k (by omega) w' e)
      by_cases hne : x = y
      · have hnext : suf a k = suf b k := by rw [suf_step a k, suf_step b k, ← hx, ← hy, hne, hsk]
        have HN := Lib.hid hnext
        clear hnext hx hy hsk
        subst hne
        go_wp2_with fail
        refine (CA.out _ rfl).mono ?_
        rintro e w1 ⟨rfl, rfl⟩
        go_wp2_with fail
        refine (CB.out _ rfl).mono ?_
        rintro e w2 ⟨rfl, rfl⟩
        go_wp2_with fail
        go_round
        case rel => exact ⟨_, rfl, by omega, by omega, Lib.hid (by rw [show ((k : Int) - 1 + 1).toNat = k from by omega]; exact HN.out)⟩
        case measure => simp [intOf]
      · have hans : decide (val a < val b) = decide (x < y) := by
          rw [less_end HDA.out HDB.out hsk (by rw [← hx, ← hy]; exact hne), ← hx, ← hy]
        have HANS := Lib.hid hans
        have hb2 : ((x : Int) != y) = true := by rw [bne_iff_ne]; omega
        clear hans hx hy hsk hne
        go_wp2_with fail
        refine (CA.out _ rfl).mono ?_
        rintro e w1 ⟨rfl, rfl⟩
        go_wp2_with fail
        refine (CB.out _ rfl).mono ?_
        rintro e w2 ⟨rfl, rfl⟩
        go_wp2_with fail
        refine (CA.out _ rfl).mono ?_
        rintro e w1 ⟨rfl, rfl⟩
        go_wp2_with fail
        refine (CB.out _ rfl).mono ?_
        rintro e w2 ⟨rfl, rfl⟩
        go_wp2_with fail
        go_ret
        exact ⟨by rw [HANS.out]; rfl, rfl⟩
    · obtain rfl : i = -1 := by omega
      have hfin : decide (val a < val b) = false := by
        have h := hsuf.out
        rw [show ((-1 : Int) + 1).toNat = 0 from rfl, suf_zero, suf_zero] at h
        simp; omega
      have HF := Lib.hid hfin; clear hfin
      go_wp2
      go_ret
      exact ⟨by rw [HF.out]; rfl, rfl⟩

def TrimPost (p : Option Addr) (n cap : Nat) (l : List Nat) (w : World) (e : Ending) (w' : World) : Prop :=
  ∃ m, m ≤ n ∧ e = .returned (.slice p m cap) ∧ val (l.take m) = val l ∧ (m = 0 ∨ l.getD (m - 1) 0 ≠ 0) ∧ w = w'

theorem Rd.take {w : World} {p n c l} (h : Rd w p n c l) {m : Nat} (hm : m ≤ n) : Rd w p m c (l.take m) := by
  have h1 := h.len
  have h2 := h.cap
  have h3 := h.size
  refine ⟨by rw [List.length_take]; omega, by omega, by omega, h.digs.take m, h.nil, ?_⟩
  rcases h.cells with hc | ⟨b, off, hp, hlt, hc⟩
  · exact Or.inl (by rw [hc]; simp)
  · refine Or.inr ⟨b, off, hp, hlt, fun i hi => ?_⟩
    rw [List.length_take] at hi
    rw [hc i (by omega)]
    congr 3
    rw [List.getD_eq_getElem?_getD, List.getD_eq_getElem?_getD, List.getElem?_take_of_lt (by omega)]

theorem val_take_succ (l : List Nat) (k : Nat) (h : l.getD k 0 = 0) : val (l.take k) = val (l.take (k + 1)) := by
  have := pre_succ l k
  unfold pre at this
  rw [this, h]; simp

set_option maxHeartbeats 1000000 in
theorem trim_any (p : Option Addr) (n cap : Nat) (l : List Nat) (w : World) (h : Rd w p n cap l) :
    Calls Tryz.prog 81 #[.slice p n cap] w (TrimPost p n cap l w) := by
  have hs := h.size
  have hc := h.cap
  have HR := Lib.hid h; clear h
  go_enter Tryz.func81, Tryz.ntmps81
  go_wp2
  go_loop [0] (fun x => ∃ m : Nat, x = .slice p m cap ∧ m ≤ n ∧ Hid (val (l.take m) = val l)) (fun x => match x with | .slice _ m _ => m | _ => 0)
  case atStart => exact ⟨n, rfl, by omega, Lib.hid (by rw [List.take_of_length_le (by have := HR.out.len; omega)])⟩
  case round =>
    obtain ⟨m, rfl, hm, hv⟩ := hrel
    rcases Nat.eq_zero_or_pos m with h0 | h0
    · subst h0
      go_wp2
      go_ret
      exact ⟨0, by omega, rfl, hv.out, Or.inl rfl, rfl⟩
    · obtain ⟨k, rfl⟩ : ∃ k, m = k + 1 := ⟨m - 1, by omega⟩
      rcases HR.out.cells with hx | ⟨b, off, rfl, hlt, hx⟩
      · exfalso
        have := HR.out.len
        rw [hx] at this; simp at this; omega
      · have hcell := hx k (by have := HR.out.len; omega)
        clear hx
        by_cases hz : l.getD k 0 = 0
        · have hv2 := Lib.hid (show val (l.take k) = val l from by rw [val_take_succ l k hz]; exact hv.out)
          rw [hz] at hcell
          clear hz
          go_wp2
          go_round
          case rel => exact ⟨k, rfl, by omega, hv2⟩
          case measure => simp
        · have hzb : (((l.getD k 0 : Nat) : Int) == 0) = false := by rw [beq_eq_false_iff_ne]; omega
          have HZ := Lib.hid hz; clear hz
          generalize hd : l.getD k 0 = d at *
          have HD := Lib.hid hd; clear hd
          go_wp2
          go_ret
          exact ⟨k + 1, hm, rfl, hv.out, Or.inr (by rw [show k + 1 - 1 = k from by omega, HD.out]; exact HZ.out), rfl⟩
end Go.Proofs.YtbbhcbpfffabpaaGreatDoor.T1
