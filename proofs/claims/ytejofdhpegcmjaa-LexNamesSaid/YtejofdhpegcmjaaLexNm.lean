/- Name, the program's and the document's: walks. -/
import Derived.Test.YtejofdhpegcmjaaLexNa
namespace Go.Proofs.Ytejofdhpegcmjaa
open Go.RowKit

theorem run_all (is : UInt8 → Bool) : ∀ l : List UInt8, l.all is = decide (runN is l = l.length)
  | [] => rfl
  | c :: t => by
    have h := run_all is t
    have hle := runN_le is t
    show (is c && t.all is) = decide ((if is c = true then runN is t + 1 else 0) = t.length + 1)
    rw [h]
    cases is c
    · simp
    · simp
theorem nameB_eq (l : List UInt8) : nameB l = (decide (l ≠ [] ∧ l.length ≤ 40) && ((match l with | [] => false | c :: _ => letB c) && (decide (runN namB l = l.length) && (!wordB l && !ownB l)))) := by
  unfold nameB
  rw [run_all]
  cases l <;> rfl
theorem nameB_long {l : List UInt8} (h : 40 < l.length) : nameB l = false := by
  rw [nameB_eq, decide_eq_false (fun x => by omega)]; rfl
theorem nameB_first {c : UInt8} {t : List UInt8} (h : letB c = false) : nameB (c :: t) = false := by
  rw [nameB_eq]
  simp only [h, Bool.false_and, Bool.and_false]
theorem nameB_run {l : List UInt8} (h : runN namB l ≠ l.length) : nameB l = false := by
  rw [nameB_eq, decide_eq_false h]; simp
theorem nameB_word {l : List UInt8} (h : wordB l = true) : nameB l = false := by rw [nameB_eq, h]; simp
theorem nameB_own {l : List UInt8} (h : ownB l = true) : nameB l = false := by rw [nameB_eq, h]; simp
theorem nameB_yes {c : UInt8} {t : List UInt8} (h1 : (c :: t).length ≤ 40) (h2 : letB c = true) (h3 : runN namB (c :: t) = (c :: t).length) (h4 : wordB (c :: t) = false) (h5 : ownB (c :: t) = false) : nameB (c :: t) = true := by
  rw [nameB_eq, decide_eq_true ⟨by simp, h1⟩, decide_eq_true h3, h4, h5]
  simp only [h2]; rfl

theorem list_of {s : ByteArray} {c : UInt8} {t : List UInt8} (h : s.data.toList = c :: t) : (c :: t).length = s.size := by rw [← h, ← Lib.size_eq]

set_option maxRecDepth 100000 in
set_option maxHeartbeats 1000000 in
theorem name_is (s : ByteArray) (hs : s.size ≤ maxLen) (w : World) : Calls Try.prog 10 #[.string s] w fun e w' => e = .returned (.bool (nameB s.data.toList)) ∧ w' = w := by
  unfold maxLen at hs
  have HLt := Lib.hid (fun c b h w => letter_is c b h w)
  have HRun := Lib.hid (fun w h => run_nam s h w)
  have HW := Lib.hid (fun w => word_spec s _ rfl w)
  have HO := Lib.hid (fun w => owns_spec s _ rfl w)
  obtain ⟨l, hl⟩ : ∃ l, l = s.data.toList := ⟨_, rfl⟩
  rw [← hl] at HRun HW HO ⊢
  have HLn : Hid (l.length = s.size) := Lib.hid (by rw [hl, ← Lib.size_eq])
  by_cases h40 : 40 < s.size
  · have HE : Hid (nameB l = false) := Lib.hid (nameB_long (by rw [HLn.out]; exact h40))
    have hb : decide ((40 : Int) < (s.size : Int)) = true := decide_eq_true (by omega)
    clear hl
    go_enter Try.func10, Try.ntmps10
    go_wp2_with fail
    go_ret
    exact ⟨by rw [HE.out]; rfl, rfl⟩
  have hb : decide ((40 : Int) < (s.size : Int)) = false := decide_eq_false (by omega)
  cases l with
  | nil =>
    obtain ⟨e1, e2, e3⟩ := emp_of (s := s) (by have := HLn.out; simpa using this.symm)
    clear hl
    go_enter Try.func10, Try.ntmps10
    go_wp2_with fail
    go_ret
    exact ⟨rfl, rfl⟩
  | cons c t =>
    obtain ⟨h0, e0⟩ := head_of hl.symm
    subst e0
    obtain ⟨ne1, ne2⟩ := ne_of h0
    clear hl
    cases hlt : letB s[0]
    case false =>
      have HE := Lib.hid (nameB_first (t := t) hlt)
      have HL0 := Lib.hid (fun w => HLt.out s[0] false hlt w)
      clear hlt
      go_enter Try.func10, Try.ntmps10
      go_wp2_with fail
      refine (HL0.out _).mono ?_
      rintro e w1 ⟨rfl, rfl⟩
      go_wp2_with fail
      go_ret
      exact ⟨by rw [HE.out]; rfl, rfl⟩
    case true =>
    have HL0 := Lib.hid (fun w => HLt.out s[0] true hlt w)
    have HRn : Hid (∀ w, Calls Try.prog 18 #[.string s, .func (.func 19) #[] #[]] w fun e w' => e = .returned (.int .i64 (runN namB (s[0] :: t))) ∧ w' = w) := Lib.hid (fun w => HRun.out w (by omega))
    obtain ⟨n, hn⟩ : ∃ n, n = runN namB (s[0] :: t) := ⟨_, rfl⟩
    rw [← hn] at HRn
    by_cases hr : n = s.size
    case neg =>
      have hrb : ((n : Int) == s.size) = false := by simp; omega
      have HE : Hid (nameB (s[0] :: t) = false) := Lib.hid (nameB_run (by rw [← hn, HLn.out]; exact hr))
      clear hlt hn hr
      go_enter Try.func10, Try.ntmps10
      go_wp2_with fail
      refine (HL0.out _).mono ?_
      rintro e w1 ⟨rfl, rfl⟩
      go_wp2_with fail
      refine (HRn.out _).mono ?_
      rintro e w1 ⟨rfl, rfl⟩
      go_wp2_with fail
      go_ret
      exact ⟨by rw [HE.out]; rfl, rfl⟩
    case pos =>
    have hrb : ((n : Int) == s.size) = true := by rw [hr]; exact beq_self_eq_true _
    have HRE : Hid (runN namB (s[0] :: t) = (s[0] :: t).length) := Lib.hid (by rw [← hn, HLn.out]; exact hr)
    have H40 : Hid ((s[0] :: t).length ≤ 40) := Lib.hid (by rw [HLn.out]; omega)
    have HLB := Lib.hid hlt
    clear hn hr hlt
    cases hw : wordB (s[0] :: t)
    case true =>
      have HE := Lib.hid (nameB_word hw)
      have HWb := Lib.hid hw; clear hw
      go_enter Try.func10, Try.ntmps10
      go_wp2_with fail
      refine (HL0.out _).mono ?_
      rintro e w1 ⟨rfl, rfl⟩
      go_wp2_with fail
      refine (HRn.out _).mono ?_
      rintro e w1 ⟨rfl, rfl⟩
      go_wp2_with fail
      refine (HW.out _).mono ?_
      rintro e w1 ⟨rfl, rfl⟩
      rw [HWb.out]
      go_wp2_with fail
      go_ret
      exact ⟨by rw [HE.out]; rfl, rfl⟩
    case false =>
    cases ho : ownB (s[0] :: t)
    all_goals have HWb := Lib.hid hw; clear hw; have HOb := Lib.hid ho; clear ho
    case' true => have HE := Lib.hid (nameB_own HOb.out)
    case' false => have HE := Lib.hid (nameB_yes H40.out HLB.out HRE.out HWb.out HOb.out)
    all_goals
      go_enter Try.func10, Try.ntmps10
      go_wp2_with fail
      refine (HL0.out _).mono ?_
      rintro e w1 ⟨rfl, rfl⟩
      go_wp2_with fail
      refine (HRn.out _).mono ?_
      rintro e w1 ⟨rfl, rfl⟩
      go_wp2_with fail
      refine (HW.out _).mono ?_
      rintro e w1 ⟨rfl, rfl⟩
      rw [HWb.out]
      go_wp2_with fail
      refine (HO.out _).mono ?_
      rintro e w1 ⟨rfl, rfl⟩
      rw [HOb.out]
      go_wp2_with fail
      go_ret
      exact ⟨by rw [HE.out]; rfl, rfl⟩

theorem nam_let {c : UInt8} (h : namB c = true) (hd : digB c = false) : letB c = true := by
  unfold namB at h; rw [hd] at h; simpa using h
theorem let_dig {c : UInt8} (h : digB c = true) : letB c = false := by
  unfold digB at h
  have h := of_decide_eq_true h
  unfold letB
  rw [decide_eq_false (p := 65 ≤ c.toNat ∧ c.toNat ≤ 90) (by omega), decide_eq_false (p := 97 ≤ c.toNat ∧ c.toNat ≤ 122) (by omega), decide_eq_false (p := c.toNat = 95) (by omega)]
  rfl

set_option maxRecDepth 100000 in
set_option maxHeartbeats 1000000 in
theorem rname_is (s : ByteArray) (hs : s.size ≤ maxLen) (w : World) : Calls Try.prog 11 #[.string s] w fun e w' => e = .returned (.bool (nameB s.data.toList)) ∧ Below w.heap.size w w' := by
  unfold maxLen at hs
  have HLt := Lib.hid (fun c b h w => rletter_is c b h w)
  have HDg := Lib.hid (fun c b h w => rnum_is c b h w)
  have HW := Lib.hid (fun w => rword_spec s _ rfl w)
  have HO := Lib.hid (fun w => rown_spec s _ rfl w)
  obtain ⟨l, hl⟩ : ∃ l, l = s.data.toList := ⟨_, rfl⟩
  rw [← hl] at HW HO ⊢
  have HLn : Hid (l.length = s.size) := Lib.hid (by rw [hl, ← Lib.size_eq])
  cases l with
  | nil =>
    obtain ⟨e1, e2, e3⟩ := emp_of (s := s) (by have := HLn.out; simpa using this.symm)
    clear hl
    go_enter Try.func11, Try.ntmps11
    go_wp2_with fail
    go_ret
    exact ⟨rfl, Below.refl _ _⟩
  | cons c t =>
    have HLl := Lib.hid hl
    obtain ⟨h0, e0⟩ := head_of hl.symm
    subst e0
    obtain ⟨ne1, ne2⟩ := ne_of h0
    clear hl
    by_cases h40 : 40 < s.size
    · have HE : Hid (nameB (s[0] :: t) = false) := Lib.hid (nameB_long (by rw [HLn.out]; exact h40))
      have hb : decide ((40 : Int) < (s.size : Int)) = true := decide_eq_true (by omega)
      go_enter Try.func11, Try.ntmps11
      go_wp2_with fail
      go_ret
      exact ⟨by rw [HE.out]; rfl, Below.refl _ _⟩
    have hb : decide ((40 : Int) < (s.size : Int)) = false := decide_eq_false (by omega)
    cases hdg : digB s[0]
    case true =>
      have HE := Lib.hid (nameB_first (t := t) (let_dig hdg))
      have HD0 := Lib.hid (fun w => HDg.out s[0] true hdg w)
      clear hdg
      go_enter Try.func11, Try.ntmps11
      go_wp2_with fail
      refine (HD0.out _).mono ?_
      rintro e w1 ⟨rfl, rfl⟩
      go_wp2_with fail
      go_ret
      exact ⟨by rw [HE.out]; rfl, Below.refl _ _⟩
    case false =>
    have HD0 := Lib.hid (fun w => HDg.out s[0] false hdg w)
    have HDB := Lib.hid hdg
    have H40 : Hid ((s[0] :: t).length ≤ 40) := Lib.hid (by rw [HLn.out]; omega)
    clear hdg
    cases hw : wordB (s[0] :: t)
    case true =>
      have HE := Lib.hid (nameB_word hw)
      have HWb := Lib.hid hw; clear hw
      go_enter Try.func11, Try.ntmps11
      go_wp2_with fail
      refine (HD0.out _).mono ?_
      rintro e w1 ⟨rfl, rfl⟩
      go_wp2_with fail
      refine (HW.out _).mono ?_
      rintro e w2 ⟨rfl, b2⟩
      rw [HWb.out]
      have B2 := Lib.hid b2; clear b2
      go_wp2_with fail
      go_ret
      exact ⟨by rw [HE.out]; rfl, B2.out⟩
    case false =>
    have HWb := Lib.hid hw; clear hw
    cases ho : ownB (s[0] :: t)
    case true =>
      have HE := Lib.hid (nameB_own ho)
      have HOb := Lib.hid ho; clear ho
      go_enter Try.func11, Try.ntmps11
      go_wp2_with fail
      refine (HD0.out _).mono ?_
      rintro e w1 ⟨rfl, rfl⟩
      go_wp2_with fail
      refine (HW.out _).mono ?_
      rintro e w2 ⟨rfl, b2⟩
      rw [HWb.out]
      have B2 := Lib.hid b2; clear b2
      go_wp2_with fail
      refine (HO.out _).mono ?_
      rintro e w3 ⟨rfl, b3⟩
      rw [HOb.out]
      have B3 := Lib.hid (Below.step B2.out b3); clear b3
      go_wp2_with fail
      go_ret
      exact ⟨by rw [HE.out]; rfl, B3.out⟩
    case false =>
    have HOb := Lib.hid ho; clear ho
    go_enter Try.func11, Try.ntmps11
    go_wp2_with fail
    refine (HD0.out _).mono ?_
    rintro e w1 ⟨rfl, rfl⟩
    go_wp2_with fail
    refine (HW.out _).mono ?_
    rintro e w2 ⟨rfl, b2⟩
    rw [HWb.out]
    have B2 := Lib.hid b2; clear b2
    go_wp2_with fail
    refine (HO.out _).mono ?_
    rintro e w3 ⟨rfl, b3⟩
    rw [HOb.out]
    have B3 := Lib.hid (Below.step B2.out b3); clear b3
    go_wp2_with fail
    go_loop [3] (fun i => ∃ k : Nat, k ≤ s.size ∧ i = .int .i64 k ∧ Hid (runN namB (s[0] :: t) = k + runN namB (s.data.toList.drop k))) (fun i => s.size - (intOf i).toNat)
    case atStart => exact ⟨0, Nat.zero_le _, rfl, Lib.hid (by rw [List.drop_zero, ← HLl.out]; simp)⟩
    case round =>
      obtain ⟨k, hk, rfl, HR⟩ := hrel
      by_cases hlt : k < s.size
      · have hst := runN_step namB s k hlt
        have hne : (s[0] :: t).length = s.size := HLn.out
        cases h1 : letB s[k]
        case true =>
          have hnm : namB s[k] = true := by unfold namB; rw [h1]; rfl
          rw [hnm, if_pos rfl] at hst
          have HS := Lib.hid hst; clear hst hnm hne
          have HL1 := Lib.hid (fun w => HLt.out s[k] true h1 w)
          clear h1
          go_wp2_with fail
          refine (HL1.out _).mono ?_
          rintro e w4 ⟨rfl, rfl⟩
          go_wp2_with fail
          go_round
          case rel => exact ⟨k + 1, by omega, by go_num, Lib.hid (by rw [HR.out, HS.out]; omega)⟩
          case measure => simp [intOf]; omega
        case false =>
          have HL1 := Lib.hid (fun w => HLt.out s[k] false h1 w)
          cases h2 : digB s[k]
          case true =>
            have hnm : namB s[k] = true := by unfold namB; rw [h2]; simp
            rw [hnm, if_pos rfl] at hst
            have HS := Lib.hid hst; clear hst hnm hne
            have HD1 := Lib.hid (fun w => HDg.out s[k] true h2 w)
            clear h1 h2
            go_wp2_with fail
            refine (HL1.out _).mono ?_
            rintro e w4 ⟨rfl, rfl⟩
            go_wp2_with fail
            refine (HD1.out _).mono ?_
            rintro e w4 ⟨rfl, rfl⟩
            go_wp2_with fail
            go_round
            case rel => exact ⟨k + 1, by omega, by go_num, Lib.hid (by rw [HR.out, HS.out]; omega)⟩
            case measure => simp [intOf]; omega
          case false =>
            have hnm : namB s[k] = false := by unfold namB; rw [h1, h2]; rfl
            rw [hnm] at hst
            have HE : Hid (nameB (s[0] :: t) = false) := Lib.hid (nameB_run (by rw [HR.out, hst, hne]; simp; omega))
            have HD1 := Lib.hid (fun w => HDg.out s[k] false h2 w)
            clear h1 h2 hst hnm hne
            go_wp2_with fail
            refine (HL1.out _).mono ?_
            rintro e w4 ⟨rfl, rfl⟩
            go_wp2_with fail
            refine (HD1.out _).mono ?_
            rintro e w4 ⟨rfl, rfl⟩
            go_wp2_with fail
            go_ret
            exact ⟨by rw [HE.out]; rfl, B3.out⟩
      · have hke : k = s.size := by omega
        subst hke
        have hrun : runN namB (s[0] :: t) = (s[0] :: t).length := by rw [HR.out, List.drop_eq_nil_of_le (by simp), HLn.out]; rfl
        have hle0 : letB s[0] = true := nam_let (by
          cases hx : namB s[0]
          · have : runN namB (s[0] :: t) = 0 := by show (if namB s[0] = true then _ else 0) = 0; rw [hx]; rfl
            rw [this] at hrun
            simp at hrun
          · rfl) HDB.out
        have HE := Lib.hid (nameB_yes H40.out hle0 hrun HWb.out HOb.out)
        clear hrun hle0
        go_wp2_with fail
        go_ret
        exact ⟨by rw [HE.out]; rfl, B3.out⟩
end Go.Proofs.Ytejofdhpegcmjaa
