/- The document's Next of layer 9 at a byte, in the terms of nextB. -/
import Derived.Test.YtpifpokbkjddjaaGreatZ17C
namespace Go.Proofs.YtpifpokbkjddjaaGreat
open Go.RowKit

theorem cut_le (c : UInt8) : ∀ l : List UInt8, cutN c l ≤ l.length
  | [] => Nat.le_refl _
  | x :: l => by
    show (if x = c then 0 else cutN c l + 1) ≤ l.length + 1
    have := cut_le c l
    split <;> omega
theorem cut_ne (c : UInt8) : ∀ (l : List UInt8) (j : Nat) (x : UInt8), j < cutN c l → l[j]? = some x → x ≠ c
  | [], j, x, h, _ => by simp [cutN] at h
  | y :: l, j, x, h, hx => by
    have h' : j < (if y = c then 0 else cutN c l + 1) := h
    by_cases hy : y = c
    · rw [if_pos hy] at h'; omega
    · rw [if_neg hy] at h'
      cases j with
      | zero => simp at hx; rw [← hx]; exact hy
      | succ j => exact cut_ne c l j x (by omega) (by simpa using hx)
theorem cut_eq (c : UInt8) : ∀ (l : List UInt8), cutN c l < l.length → l[cutN c l]? = some c
  | [], h => by simp [cutN] at h
  | y :: l, h => by
    by_cases hy : y = c
    · have e : cutN c (y :: l) = 0 := if_pos hy
      rw [e, hy]; rfl
    · have e : cutN c (y :: l) = cutN c l + 1 := if_neg hy
      rw [e] at h ⊢
      exact cut_eq c l (by simpa using h)
theorem results_four {fn : Func} {t u v x : Tmp} (h : fn.results = #[.tmp t, .tmp u, .tmp v, .tmp x]) (tmps : Array Value) (P : Program) (w : World) :
    (results fn tmps).run P w = .ok (.tuple #[tmps.getD t undef, tmps.getD u undef, tmps.getD v undef, tmps.getD x undef]) w := by
  simp [results, h]
/-- What Next tells at a byte. -/
def nextV (c : UInt8) (s : ByteArray) (a : Nat) : Value := match nextB c ⟨⟨#[]⟩, s, a⟩ with
  | some (r, p) => .tuple #[.string r, .int .i64 (p : Nat), .bool true, .int .i64 0]
  | none => .tuple #[.string ⟨#[]⟩, .int .i64 0, .bool false, .int .i64 0]
theorem at_list {s : ByteArray} {a j : Nat} (h : a + j < s.size) : (s.data.toList.drop a)[j]? = some s[a + j] := by
  rw [List.getElem?_drop, List.getElem?_eq_getElem (by simpa using h)]
  rfl

set_option maxRecDepth 100000 in
set_option maxHeartbeats 2000000 in
theorem refNext_byte (s rs : ByteArray) (c : UInt8) (a : Nat) (hrs : rs = ⟨#[c]⟩) (h92 : c ≠ 92) (hs : s.size ≤ 1000000) (ha : a ≤ 1000000) (w : World) :
    Calls Tryz.prog 7 #[.string s, .int .i64 a, .string rs] w fun e w' => e = .returned (nextV c s a) ∧ Below w.heap.size w w' := by
  have hsz : rs.size = 1 := by rw [hrs]; rfl
  have h0 : 0 < rs.size := by omega
  have hb0 : rs[0] = c := by subst hrs; rfl
  have hl : rs.toList = [c] := by rw [hrs, Lib.toList_data]
  have a0 : ¬ rs.toList = [] := by rw [hl]; simp
  have b0 : rs.toList.isEmpty = false := by rw [hl]; rfl
  have e0 : (rs.toList == []) = false := beq_eq_false_iff_ne.2 a0
  have a92 : ¬ rs.toList = [92] := by rw [hl]; intro h; exact h92 (List.cons.inj h).1
  have b92 : (rs.toList == [92]) = false := beq_eq_false_iff_ne.2 a92
  have c92 : (rs.toList != [92]) = true := by simp [bne, b92]
  have q1 : ((rs.size : Int) == 1) = true := by rw [hsz]; rfl
  have d0 : decide ((a : Int) < 0) = false := decide_eq_false (by omega)
  clear hl hrs
  by_cases hlt : a < s.size
  case neg =>
    have hge : s.size ≤ a := by omega
    have d1 : decide ((s.size : Int) ≤ a) = true := decide_eq_true (by omega)
    have d1b : decide (s.size ≤ a) = true := decide_eq_true hge
    have HV : Hid (nextV c s a = .tuple #[.string ⟨#[]⟩, .int .i64 0, .bool false, .int .i64 0]) := Lib.hid (by unfold nextV nextB; rw [if_neg hlt])
    clear hlt
    go_enter Tryz.func7, Tryz.ntmps7
    go_wp2_with fail
    ((try simp only [Exit.inBlock, Exit.then]); refine bodyPost_ret (results_four rfl _ _ _) rfl ?_)
    exact ⟨by rw [HV.out]; rfl, by first | exact Below.refl _ _ | exact below_drew _⟩
  have d1 : decide ((s.size : Int) ≤ a) = false := decide_eq_false (by omega)
  have d1b : decide (s.size ≤ a) = false := decide_eq_false (by omega)
  obtain ⟨K, hK⟩ : ∃ K, K = cutN c (s.data.toList.drop a) := ⟨_, rfl⟩
  have hKle : a + K ≤ s.size := by
    have h := cut_le c (s.data.toList.drop a)
    rw [← hK, List.length_drop] at h
    have : s.data.toList.length = s.size := rfl
    omega
  have HV : Hid (nextV c s a = .tuple #[.string (s.extract a (a + K)), .int .i64 ((min (a + K + 1) s.size : Nat) : Int), .bool true, .int .i64 0]) := Lib.hid (by unfold nextV nextB; rw [if_pos hlt, hK])
  have HNE := Lib.hid (fun (j : Nat) (hj : j < K) (h : a + j < s.size) => cut_ne c (s.data.toList.drop a) j s[a + j] (by rw [← hK]; exact hj) (at_list h))
  have HEQ : Hid (∀ h : a + K < s.size, s[a + K] = c) := Lib.hid (fun h => by
    have h1 := cut_eq c (s.data.toList.drop a) (by rw [← hK, List.length_drop]; have : s.data.toList.length = s.size := rfl; omega)
    rw [← hK, at_list h] at h1
    injection h1)
  clear hK
  go_enter Tryz.func7, Tryz.ntmps7
  go_wp2_with fail
  go_loopw [12] (fun x wr => ∃ i : Nat, x = .int .i64 i ∧ a ≤ i ∧ i ≤ a + K ∧ Hid (Below w.heap.size w wr)) (fun x _ => s.size - (intOf x).toNat)
  case atStart => exact ⟨a, rfl, Nat.le_refl _, by omega, Lib.hid (by first | exact Below.refl _ _ | exact below_drew _)⟩
  case round =>
    obtain ⟨i, rfl, hai, hiK, hb⟩ := hrel
    obtain ⟨j, hi⟩ : ∃ j, i = a + j := ⟨i - a, by omega⟩
    by_cases hin : i < s.size
    · have d2 : decide ((i : Int) < s.size) = true := decide_eq_true (by omega)
      by_cases hc : s[i] = c
      · have hjK : j = K := by
          rcases Nat.lt_or_ge j K with h | h
          · subst hi
            exact absurd hc (HNE.out j h hin)
          · omega
        have hb1 : (((s[i].toNat : Nat) : Int) == ((rs[0].toNat : Nat) : Int)) = true := by rw [hc, hb0]; exact beq_self_eq_true _
        have hb2 : (s[i].toNat == rs[0].toNat) = true := by rw [hc, hb0]; exact beq_self_eq_true _
        have hb3 : (((s[i].toNat : Nat) : Int) == ((c.toNat : Nat) : Int)) = true := by rw [hc]; exact beq_self_eq_true _
        have hb4 : (s[i].toNat == c.toNat) = true := by rw [hc]; exact beq_self_eq_true _
        have HF : Hid (nextV c s a = .tuple #[.string (s.extract a i), .int .i64 ((i : Int) + 1), .bool true, .int .i64 0]) := Lib.hid (by
          rw [HV.out, ← hjK, ← hi, Nat.min_eq_left (by omega)]
          rfl)
        clear hc hjK hi
        go_wp2_with fail
        go_quiet (fail)
        go_wp2_with fail
        ((try simp only [Exit.inBlock, Exit.then]); refine bodyPost_ret (results_four rfl _ _ _) rfl ?_)
        exact ⟨by rw [HF.out]; rfl, by first | exact hb.out | exact Below.drewN' hb.out _⟩
      · have hjK : j < K := by
          rcases Nat.lt_or_ge j K with h | h
          · exact h
          · exfalso
            have : j = K := by omega
            subst this
            subst hi
            exact hc (HEQ.out hin)
        have hne : s[i].toNat ≠ rs[0].toNat := fun e => hc (by rw [← hb0]; exact UInt8.toNat_inj.1 e)
        have hb1 : (((s[i].toNat : Nat) : Int) == ((rs[0].toNat : Nat) : Int)) = false := beq_eq_false_iff_ne.2 (by omega)
        have hb2 : (s[i].toNat == rs[0].toNat) = false := beq_eq_false_iff_ne.2 hne
        have hne2 : s[i].toNat ≠ c.toNat := fun e => hc (UInt8.toNat_inj.1 e)
        have hb3 : (((s[i].toNat : Nat) : Int) == ((c.toNat : Nat) : Int)) = false := beq_eq_false_iff_ne.2 (by omega)
        have hb4 : (s[i].toNat == c.toNat) = false := beq_eq_false_iff_ne.2 hne2
        have hjK1 : i + 1 ≤ a + K := by omega
        clear hc hi hne hne2 hjK
        go_wp2_with fail
        go_quiet (fail)
        go_wp2_with fail
        go_roundw
        case rel => exact ⟨i + 1, by go_num, by omega, hjK1, by first | exact hb | exact Lib.hid (Below.drewN' hb.out _)⟩
        case measure => simp [intOf]; omega
    · have d2 : decide ((i : Int) < s.size) = false := decide_eq_false (by omega)
      have HF : Hid (nextV c s a = .tuple #[.string (s.extract a s.size), .int .i64 (s.size : Nat), .bool true, .int .i64 0]) := Lib.hid (by
        have e : a + K = s.size := by omega
        rw [HV.out, e, Nat.min_eq_right (by omega)])
      clear hi
      go_wp2_with fail
      ((try simp only [Exit.inBlock, Exit.then]); refine bodyPost_ret (results_four rfl _ _ _) rfl ?_)
      exact ⟨by rw [HF.out]; rfl, hb.out⟩
end Go.Proofs.YtpifpokbkjddjaaGreat
