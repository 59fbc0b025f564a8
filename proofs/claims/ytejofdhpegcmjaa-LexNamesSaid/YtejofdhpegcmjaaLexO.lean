/- isOperand, name, number: walks. -/
import Derived.Test.YtejofdhpegcmjaaLexWo
import Derived.Test.YtejofdhpegcmjaaLexBr
namespace Go.Proofs.Ytejofdhpegcmjaa
open Go.RowKit

theorem head_iff {l : List UInt8} {c : UInt8} : l.head? = some c ↔ headIs l c = true := by
  cases l with
  | nil => simp [headIs]
  | cons d r =>
    constructor
    · intro h
      have h : d = c := Option.some.inj h
      rw [h]
      simp [headIs]
    · intro h
      have h : c = d := by simpa [headIs] using h
      rw [h]
      rfl

def tokC (t : Tok) : Array Value := #[.int .i64 t.K, .string t.S, .int .i64 t.A]
set_option maxRecDepth 100000 in
set_option maxHeartbeats 2000000 in
theorem operand_spec (K A : Int) (S : ByteArray) (w : World) : Calls Try.prog 39 #[.agg #[.int .i64 K, .string S, .int .i64 A]] w fun e w' => e = .returned (.bool (operandB ⟨K, S, A⟩)) ∧ Below w.heap.size w w' := by
  have b1 := Lib.hid (below_new w (.cells #[.int .i64 K, .string S, .int .i64 A] 30))
  by_cases h1 : K = 2 ∨ K = 3 ∨ K = 5 ∨ K = 8
  · have HB : Hid (operandB ⟨K, S, A⟩ = true) := Lib.hid (by unfold operandB; simp [h1])
    rcases h1 with rfl | rfl | rfl | rfl
    all_goals
      go_enter Try.func39, Try.ntmps39
      go_wp2_with fail
      go_ret
      exact ⟨by rw [HB.out]; rfl, b1.out⟩
  · have k2 : (K == 2) = false := by simp; omega
    have k3 : (K == 3) = false := by simp; omega
    have k5 : (K == 5) = false := by simp; omega
    have k8 : (K == 8) = false := by simp; omega
    by_cases h9 : K = 9
    · subst h9
      by_cases hS : S.toList ∈ endsOperand
      · have HB : Hid (operandB ⟨9, S, A⟩ = true) := Lib.hid (by unfold operandB; rw [← Lib.toList_data]; simp [hS])
        have h : S.toList = [41] ∨ S.toList = [93] ∨ S.toList = [43, 43] ∨ S.toList = [45, 45] ∨ S.toList = [36] := by simpa [endsOperand] using hS
        clear hS h1
        rcases h with h | h | h | h | h
        all_goals
          go_enter Try.func39, Try.ntmps39
          go_wp2_with fail
          go_ret
          exact ⟨by rw [HB.out]; rfl, b1.out⟩
      · have HB : Hid (operandB ⟨9, S, A⟩ = false) := Lib.hid (by unfold operandB; rw [← Lib.toList_data]; simp [hS])
        have h : (S.toList == [41]) = false ∧ (S.toList == [93]) = false ∧ (S.toList == [43, 43]) = false ∧ (S.toList == [45, 45]) = false ∧ (S.toList == [36]) = false := by simpa [endsOperand] using hS
        obtain ⟨e1, e2, e3, e4, e5⟩ := h
        clear hS h1
        go_enter Try.func39, Try.ntmps39
        go_wp2_with fail
        go_ret
        exact ⟨by rw [HB.out]; rfl, b1.out⟩
    · have k9 : (K == 9) = false := by simp; omega
      have HB : Hid (operandB ⟨K, S, A⟩ = false) := Lib.hid (by unfold operandB; simp [h9]; omega)
      clear h1 h9
      go_enter Try.func39, Try.ntmps39
      go_wp2_with fail
      go_ret
      exact ⟨by rw [HB.out]; rfl, b1.out⟩

/-- What reading a token's kind and text comes to. -/
def ReadAt (p : Nat) (s : ByteArray) (k : Nat) (L : Tok) (o : Rd1) (w : World) (e : Ending) (w' : World) : Prop := match o with
  | .bad x => Fell p k x w e w'
  | .got K S n => ∃ t : ByteArray, e = .returned (.tuple #[.int .i64 K, .string t]) ∧ Hid (t.data.toList = S) ∧ Rd w' p s (k + n) L ∧ But p w w'

set_option maxRecDepth 100000 in
set_option maxHeartbeats 1000000 in
theorem name_spec (p : Nat) (s : ByteArray) (k : Nat) (L : Tok) (w : World) (h : Rd w p s k L) (hk : k ≤ s.size) (hs : s.size ≤ 8000) :
    Calls Try.prog 36 #[.pointer (some ⟨p, 0, none⟩)] w (ReadAt p s k L (nameN (s.data.toList.drop k)) w) := by
  have HL := Lib.hid (fun j w h (hj : j ≤ s.size) => left_spec p s j L w h hj)
  have HRun := Lib.hid (fun t w h => run_nam t h w)
  have HT := Lib.hid (fun n w h hn => take_spec p s k n L w h hn hs)
  have HW := Lib.hid (fun t l hl w => word_spec t l hl w)
  have HO := Lib.hid (fun t l hl w => owns_spec t l hl w)
  have HH := Lib.hid (fun t c l hl w => hp1_spec t c l hl w)
  have R := Lib.hid h
  have c1 := h.c1
  have hlen : (s.data.toList.drop k).length = s.size - k := by rw [List.length_drop, ← Lib.size_eq]
  have hrn := runN_le namB (s.data.toList.drop k)
  rw [hlen] at hrn
  obtain ⟨l, hl⟩ : ∃ l, l = s.data.toList.drop k := ⟨_, rfl⟩
  rw [← hl] at hrn ⊢
  obtain ⟨n, hn⟩ : ∃ n, n = runN namB l := ⟨_, rfl⟩
  rw [← hn] at hrn
  have HN := Lib.hid hn
  have HLl := Lib.hid hl
  clear h hn hl hlen
  by_cases h40 : 40 < n
  · have HE : Hid (nameN l = .bad 2) := Lib.hid (by unfold nameN; rw [← HN.out, if_pos h40])
    go_enter Try.func36, Try.ntmps36
    go_wp2_with fail
    refine (HL.out k _ R.out hk).mono ?_
    rintro e w1 ⟨t, rfl, ht, hsz, m, rfl⟩
    have B1 := Lib.hid (drewN_below w m)
    have d1 : (w.drewN m).cell? ⟨p, 1, none⟩ = some (.int .i64 k) := by simpa using c1
    go_wp2_with fail
    refine (HRun.out t _ (by omega)).mono ?_
    rintro e w1 ⟨rfl, rfl⟩
    rw [ht.out, ← HLl.out, ← HN.out]
    clear hsz c1
    go_wp2_with fail
    rw [HE.out]
    exact ⟨rfl, rfl, But.of B1.out⟩
  · have HE : Hid (nameN l = .got (if wordB (l.take n) = true then 7 else if ownB (l.take n) = true then 8 else if (l.drop n).head? = some 40 then 6 else 5) (l.take n) n) := Lib.hid (by unfold nameN; rw [← HN.out, if_neg h40])
    go_enter Try.func36, Try.ntmps36
    go_wp2_with fail
    refine (HL.out k _ R.out hk).mono ?_
    rintro e w1 ⟨t, rfl, ht, hsz, m, rfl⟩
    have B1 := Lib.hid (But.of (p := p) (drewN_below w m))
    have R1 := Lib.hid (R.out.drewN m)
    go_wp2_with fail
    refine (HRun.out t _ (by omega)).mono ?_
    rintro e w1 ⟨rfl, rfl⟩
    rw [ht.out, ← HLl.out, ← HN.out]
    clear hsz c1
    go_wp2_with fail
    refine (HT.out n _ R1.out (by omega)).mono ?_
    rintro e w2 ⟨t2, rfl, ht2, hsz2, R2, b2⟩
    have HR2 := Lib.hid R2
    have HB2 := Lib.hid (B1.out.trans b2)
    have HT2 : Hid (t2.data.toList = l.take n) := Lib.hid (by rw [ht2.out, HLl.out])
    clear R2 b2 hsz2 ht2 ht
    cases hw : wordB (l.take n)
    case true =>
      rw [hw, if_pos rfl] at HE
      have HWd := Lib.hid hw; clear hw
      go_wp2_with fail
      refine (HW.out t2 _ HT2.out _).mono ?_
      rintro e w3 ⟨rfl, rfl⟩
      rw [HWd.out]
      go_wp2_with fail
      go_ret2
      rw [HE.out]
      exact ⟨t2, rfl, HT2, HR2.out, HB2.out⟩
    case false =>
      rw [hw, if_neg (by decide)] at HE
      have HWd := Lib.hid hw; clear hw
      cases ho : ownB (l.take n)
      case true =>
        rw [ho, if_pos rfl] at HE
        have HOd := Lib.hid ho; clear ho
        go_wp2_with fail
        refine (HW.out t2 _ HT2.out _).mono ?_
        rintro e w3 ⟨rfl, rfl⟩
        rw [HWd.out]
        go_wp2_with fail
        refine (HO.out t2 _ HT2.out _).mono ?_
        rintro e w3 ⟨rfl, rfl⟩
        rw [HOd.out]
        go_wp2_with fail
        go_ret2
        rw [HE.out]
        exact ⟨t2, rfl, HT2, HR2.out, HB2.out⟩
      case false =>
        rw [ho, if_neg (by decide)] at HE
        have HOd := Lib.hid ho; clear ho
        go_wp2_with fail
        refine (HW.out t2 _ HT2.out _).mono ?_
        rintro e w3 ⟨rfl, rfl⟩
        rw [HWd.out]
        go_wp2_with fail
        refine (HO.out t2 _ HT2.out _).mono ?_
        rintro e w3 ⟨rfl, rfl⟩
        rw [HOd.out]
        go_wp2_with fail
        refine (HL.out (k + n) _ HR2.out (by omega)).mono ?_
        rintro e w3 ⟨t3, rfl, ht3, hsz3, m3, rfl⟩
        have HR3 := Lib.hid (HR2.out.drewN m3)
        have HB3 := Lib.hid (HB2.out.trans (But.of (drewN_below _ m3)))
        have HT3 : Hid (t3.data.toList = l.drop n) := Lib.hid (by rw [ht3.out, HLl.out, List.drop_drop])
        clear ht3 hsz3
        cases hh : headIs (l.drop n) 40
        case true =>
          rw [if_pos (head_iff.2 hh)] at HE
          have HHd := Lib.hid hh; clear hh
          go_wp2_with fail
          refine (HH.out t3 40 _ HT3.out _).mono ?_
          rintro e w4 ⟨rfl, rfl⟩
          rw [HHd.out]
          go_wp2_with fail
          go_ret2
          rw [HE.out]
          exact ⟨t2, rfl, HT2, HR3.out, HB3.out⟩
        case false =>
          rw [if_neg (fun h => by rw [head_iff.1 h] at hh; exact absurd hh (by decide))] at HE
          have HHd := Lib.hid hh; clear hh
          go_wp2_with fail
          refine (HH.out t3 40 _ HT3.out _).mono ?_
          rintro e w4 ⟨rfl, rfl⟩
          rw [HHd.out]
          go_wp2_with fail
          go_ret2
          rw [HE.out]
          exact ⟨t2, rfl, HT2, HR3.out, HB3.out⟩
end Go.Proofs.Ytejofdhpegcmjaa
