/- Merged by program: T3Base, T3DecA, T3DecB, T3ParseMath, T3Parse. -/
import Derived.Test.YtbbhcbpfffabpaaGreatDoorRows
import Derived.WalkKit
import Derived.WalkSpells
import Derived.WalkLawsBesides
import Derived.Lib.Hide
import Derived.LoopTactic
import Derived.Laws.RangeAny
import Derived.Laws.OwnMore
import Derived.OwnWalk
import Derived.WalkSmall
import Derived.Lib.OthersKept
import Derived.Deep.QuietTactic
import Derived.BigQuiet
import Derived.Deep.DeepCutAuto
import Derived.Deep.CutBlock
import Derived.KernelRfl
/- What every text here stands on: the imports of the walk, plain lemmas. -/
namespace Go.Proofs.YtbbhcbpfffabpaaGreatDoor.T3
open Go.Proofs.YtbbhcbpfffabpaaGreatDoor Go.Proofs
open Go.RowKit

theorem own : ownKnob Tryz.prog.godebug = none := by kernel_rfl

theorem Below.drewN' {B : Nat} {a w : World} (h : Below B a w) (n : Nat) : Below B a (w.drewN n) := by
  induction n with
  | zero => exact h
  | succ n ih => exact ⟨ih.os, ih.tape, ih.output, ih.size, ih.block⟩

theorem Below.step {w w1 w2 : World} (h : Below w.heap.size w w1) (h2 : Below w1.heap.size w1 w2) : Below w.heap.size w w2 :=
  h.trans (h2.mono h.size)

theorem ret_i64 {a b : Int} (h : a = b) : Ending.returned (.int .i64 a) = .returned (.int .i64 b) := by rw [h]
theorem ret_str {a b : ByteArray} (h : a = b) : Ending.returned (.string a) = .returned (.string b) := by rw [h]
end Go.Proofs.YtbbhcbpfffabpaaGreatDoor.T3

/- Contracts of the plain functions of dec. -/
namespace Go.Proofs.YtbbhcbpfffabpaaGreatDoor.T3
open Go.Proofs.YtbbhcbpfffabpaaGreatDoor Go.Proofs
open Go.RowKit

def Fits (n : Int) : Prop := -9223372036854775808 ≤ n ∧ n ≤ 9223372036854775807
instance (n : Int) : Decidable (Fits n) := by unfold Fits; infer_instance
def back (n : Int) : Int × Int := if Fits n then (n, 0) else (0, 10)
def ans (p : Int × Int) : Value := .tuple #[.int .i64 p.1, .int .i64 p.2]

theorem ans_yes {n : Int} (h : Fits n) : ans (back n) = .tuple #[.int .i64 n, .int .i64 0] := by
  simp [ans, back, h]
theorem ans_no {n : Int} (h : ¬ Fits n) : ans (back n) = .tuple #[.int .i64 0, .int .i64 10] := by
  simp [ans, back, h]

theorem wrapU (a : Int) : IntKind.u64.wrap a = a % 18446744073709551616 := by
  simp [IntKind.wrap, IntKind.signed, IntKind.bits]

theorem ret_int {k : IntKind} {a b : Int} (h : a = b) : Ending.returned (.int k a) = .returned (.int k b) := by rw [h]
theorem ret_ans {a b c d : Int} (h : a = c) (h' : b = d) : Ending.returned (.tuple #[.int .i64 a, .int .i64 b]) = .returned (.tuple #[.int .i64 c, .int .i64 d]) := by rw [h, h']

theorem size_any (a : Int) (w : World) (ha : Fits a) :
    Calls Tryz.prog 69 #[.int .i64 a] w fun e w' => e = .returned (.int .u64 a.natAbs) ∧ w = w' := by
  have h : a < 0 → IntKind.u64.wrap (-IntKind.u64.wrap a) = a.natAbs := by
    unfold Fits at ha
    intro h0
    rw [wrapU, wrapU]
    omega
  have H := Lib.hid h; clear h
  unfold Fits at ha
  obtain ⟨a1, a2⟩ := ha
  rcases (show a < 0 ∨ 0 ≤ a from by omega) with h | h
  all_goals
    go_enter Tryz.func69, Tryz.ntmps69
    go_wp2
    go_ret
  · exact ⟨ret_int (H.out h), rfl⟩
  · exact ⟨ret_int (by omega), rfl⟩

set_option maxHeartbeats 400000 in
theorem signed_any (n : Nat) (b : Bool) (w : World) (hn : n ≤ 18446744073709551615) :
    Calls Tryz.prog 114 #[.int .u64 n, .bool b] w fun e w' => e = .returned (ans (back (if b then -(n : Int) else n))) ∧ w = w' := by
  cases b
  · rcases (show n ≤ 9223372036854775807 ∨ 9223372036854775807 < n from by omega) with h | h
    · rw [if_neg (by simp), ans_yes (by unfold Fits; omega)]
      go_enter Tryz.func114, Tryz.ntmps114
      go_wp2
      go_ret2
      exact ⟨rfl, rfl⟩
    · rw [if_neg (by simp), ans_no (by unfold Fits; omega)]
      go_enter Tryz.func114, Tryz.ntmps114
      go_wp2
      go_ret2
      exact ⟨rfl, rfl⟩
  · rcases (show n ≤ 9223372036854775808 ∨ 9223372036854775808 < n from by omega) with h | h
    · have h0 : n ≤ 9223372036854775808 → wrap64 (IntKind.u64.wrap (-(n : Int))) = -(n : Int) := by
        intro h0
        rw [wrapU]
        unfold wrap64
        omega
      have H := Lib.hid h0; clear h0
      rw [if_pos rfl, ans_yes (by unfold Fits; omega)]
      go_enter Tryz.func114, Tryz.ntmps114
      go_wp2
      go_ret2
      exact ⟨ret_ans (H.out h) rfl, rfl⟩
    · rw [if_pos rfl, ans_no (by unfold Fits; omega)]
      go_enter Tryz.func114, Tryz.ntmps114
      go_wp2
      go_ret2
      exact ⟨rfl, rfl⟩

end Go.Proofs.YtbbhcbpfffabpaaGreatDoor.T3

/- Contracts of dec's products and quotients. -/
namespace Go.Proofs.YtbbhcbpfffabpaaGreatDoor.T3
open Go.Proofs.YtbbhcbpfffabpaaGreatDoor Go.Proofs
open Go.RowKit

def Drew (w w' : World) : Prop := ∃ n, w' = w.drewN n

theorem Drew.refl (w : World) : Drew w w := ⟨0, rfl⟩

def sgn (b : Bool) (n : Nat) : Int := if b then -(n : Int) else n

theorem signed_sgn (n : Nat) (b : Bool) (w : World) (hn : n ≤ 18446744073709551615) :
    Calls Tryz.prog 114 #[.int .u64 n, .bool b] w fun e w' => e = .returned (ans (back (sgn b n))) ∧ w = w' := signed_any n b w hn

theorem natAbs_lt {a : Int} (h : Fits a) : a.natAbs < 18446744073709551616 := by unfold Fits at h; omega

end Go.Proofs.YtbbhcbpfffabpaaGreatDoor.T3

/- Plain mathematics of texts of numbers: no program. -/
namespace Go.Proofs.YtbbhcbpfffabpaaGreatDoor.T3
open Go.Proofs.YtbbhcbpfffabpaaGreatDoor Go.Proofs

def isDig (c : UInt8) : Bool := decide (48 ≤ c.toNat) && decide (c.toNat ≤ 57)
def isBl (c : UInt8) : Bool := decide (c.toNat = 32) || decide (c.toNat = 9) || decide (c.toNat = 10)

theorem isDig_yes {c : UInt8} (h : isDig c = true) : 48 ≤ c.toNat ∧ c.toNat ≤ 57 := by
  simpa [isDig] using h
theorem isDig_no {c : UInt8} (h : isDig c = false) : c.toNat < 48 ∨ 57 < c.toNat := by
  simp [isDig] at h; omega

theorem tw_lt {p : UInt8 → Bool} : ∀ {l : List UInt8} {k : Nat}, k < (l.takeWhile p).length → ∀ hk : k < l.length, p l[k] = true
  | [], k, h, _ => by simp at h
  | a :: l, k, h, hk => by
    rw [List.takeWhile_cons] at h
    split at h
    · rename_i ha
      cases k with
      | zero => simpa using ha
      | succ k =>
        have := tw_lt (p := p) (l := l) (k := k) (by simpa using h) (by simpa using hk)
        simpa using this
    · simp at h

theorem tw_end {p : UInt8 → Bool} : ∀ {l : List UInt8} (hk : (l.takeWhile p).length < l.length), p l[(l.takeWhile p).length] = false
  | [], h => by simp at h
  | a :: l, h => by
    by_cases ha : p a = true
    · have h2 : (List.takeWhile p (a :: l)).length = (List.takeWhile p l).length + 1 := by simp [ha]
      have := tw_end (p := p) (l := l) (by rw [h2] at h; simpa using h)
      simp only [h2, List.getElem_cons_succ]
      exact this
    · have h2 : (List.takeWhile p (a :: l)).length = 0 := by simp [ha]
      simp only [h2, List.getElem_cons_zero]
      simpa using ha

theorem tw_le {p : UInt8 → Bool} (l : List UInt8) : (l.takeWhile p).length ≤ l.length := (List.takeWhile_sublist p).length_le

theorem tw_take {p : UInt8 → Bool} (l : List UInt8) : l.take (l.takeWhile p).length = l.takeWhile p := by
  induction l with
  | nil => rfl
  | cons a l ih =>
    rw [List.takeWhile_cons]
    split
    · simp [ih]
    · simp

def dstep (n : Nat) (c : UInt8) : Nat := n * 10 + (c.toNat - 48)
def dval (l : List UInt8) : Nat := l.foldl dstep 0

theorem dval_snoc (l : List UInt8) (c : UInt8) : dval (l ++ [c]) = dval l * 10 + (c.toNat - 48) := by
  simp [dval, dstep]

/-- A number that is counted up to a greatest one. -/
def Sat (r v : Nat) : Prop := (r = v ∧ v ≤ 18446744073709551615) ∨ (r = 18446744073709551615 ∧ 9223372036854775808 < v)

def pushN (n : Nat) (c : Nat) : Nat := if 1844674407370955160 < n then 18446744073709551615 else n * 10 + (c - 48)

theorem Sat.le {r v : Nat} (h : Sat r v) : r ≤ 18446744073709551615 := by unfold Sat at h; omega

theorem Sat.push {r v c : Nat} (h : Sat r v) (hc : c ≤ 57) : Sat (pushN r c) (v * 10 + (c - 48)) := by
  unfold Sat pushN at *
  split <;> omega

def pad6 (p : List UInt8) : List UInt8 := p.take 6 ++ List.replicate (6 - p.length) 48
def mval (whole part : List UInt8) : Nat := dval (whole ++ pad6 part)

theorem pad6_len (p : List UInt8) : (pad6 p).length = 6 := by
  simp [pad6]; omega

theorem pad6_lt {p : List UInt8} {k : Nat} (h : k < p.length) (hk : k < 6) : (pad6 p)[k]'(by rw [pad6_len]; exact hk) = p[k] := by
  unfold pad6
  rw [List.getElem_append_left (by simp; omega)]
  simp

theorem pad6_ge {p : List UInt8} {k : Nat} (h : p.length ≤ k) (hk : k < 6) : (pad6 p)[k]'(by rw [pad6_len]; exact hk) = 48 := by
  unfold pad6
  rw [List.getElem_append_right (by simp; omega)]
  simp

end Go.Proofs.YtbbhcbpfffabpaaGreatDoor.T3

/- Contracts of dec.Parse and what it calls. -/
namespace Go.Proofs.YtbbhcbpfffabpaaGreatDoor.T3
open Go.Proofs.YtbbhcbpfffabpaaGreatDoor Go.Proofs
open Go.RowKit

theorem isBlank_any (c : UInt8) (w : World) :
    Calls Tryz.prog 119 #[.int .u8 (c.toNat : Int)] w fun e w' => e = .returned (.bool (isBl c)) ∧ w = w' := by
  have hc : c.toNat < 256 := c.toNat_lt
  generalize hn : c.toNat = n at *
  have h : isBl c = (decide (n = 32) || decide (n = 9) || decide (n = 10)) := by simp [isBl, hn]
  rw [h]; clear h hn
  by_cases h1 : n = 32
  · subst h1
    go_enter Tryz.func119, Tryz.ntmps119
    go_wp2
    go_ret
    exact ⟨rfl, rfl⟩
  by_cases h2 : n = 9
  · subst h2
    go_enter Tryz.func119, Tryz.ntmps119
    go_wp2
    go_ret
    exact ⟨rfl, rfl⟩
  by_cases h3 : n = 10
  · subst h3
    go_enter Tryz.func119, Tryz.ntmps119
    go_wp2
    go_ret
    exact ⟨rfl, rfl⟩
  have e1 : ((n : Int) == 32) = false := by simp; omega
  have e2 : ((n : Int) == 9) = false := by simp; omega
  have e3 : ((n : Int) == 10) = false := by simp; omega
  rw [show (decide (n = 32) || decide (n = 9) || decide (n = 10)) = false from by simp [h1, h2, h3]]
  go_enter Tryz.func119, Tryz.ntmps119
  go_wp2
  go_ret
  exact ⟨rfl, rfl⟩

theorem push_any (n c : Nat) (w : World) (hn : n ≤ 18446744073709551615) (h1 : 48 ≤ c) (h2 : c ≤ 57) :
    Calls Tryz.prog 133 #[.int .u64 n, .int .u8 c] w fun e w' => e = .returned (.int .u64 (pushN n c)) ∧ w = w' := by
  by_cases h : 1844674407370955160 < n
  · rw [show pushN n c = 18446744073709551615 from by simp [pushN, h]]
    go_enter Tryz.func133, Tryz.ntmps133
    go_wp2
    go_ret
    exact ⟨rfl, rfl⟩
  · have e : (n : Int) * 10 + ((c : Int) - 48) = ((pushN n c : Nat) : Int) := by unfold pushN; rw [if_neg h]; omega
    have E := Lib.hid e; clear e
    go_enter Tryz.func133, Tryz.ntmps133
    go_wp2
    go_ret
    exact ⟨ret_int E.out, rfl⟩

set_option maxHeartbeats 400000 in
theorem digits_any (s : ByteArray) (w : World) (hs : s.size ≤ 281474976710656) :
    Calls Tryz.prog 120 #[.string s] w fun e w' => e = .returned (.string (s.extract 0 (s.data.toList.takeWhile isDig).length)) ∧ w = w' := by
  obtain ⟨D, hD⟩ : ∃ D, D = (s.data.toList.takeWhile isDig).length := ⟨_, rfl⟩
  have hlt : ∀ k, k < D → ∃ h : k < s.size, 48 ≤ s[k].toNat ∧ s[k].toNat ≤ 57 := by
    intro k hk
    have h1 := tw_le (p := isDig) s.data.toList
    have h2 : k < s.size := by rw [hD] at hk; simp at h1; omega
    have h3 := tw_lt (p := isDig) (l := s.data.toList) (k := k) (by rw [← hD]; exact hk) (by simpa using h2)
    have h4 : isDig s.data[k] = true := by simpa using h3
    exact ⟨h2, isDig_yes h4⟩
  have hend : ∀ h : D < s.size, s[D].toNat < 48 ∨ 57 < s[D].toNat := by
    intro h
    subst hD
    have h3 := tw_end (p := isDig) (l := s.data.toList) (by simpa using h)
    have h4 : isDig s.data[(List.takeWhile isDig s.data.toList).length] = false := by simpa using h3
    exact isDig_no h4
  have hDs : D ≤ s.size := by have h1 := tw_le (p := isDig) s.data.toList; simp at h1; omega
  rw [← hD]; clear hD
  have HL := Lib.hid hlt; clear hlt
  have HE := Lib.hid hend; clear hend
  go_enter Tryz.func120, Tryz.ntmps120
  go_wp2
  go_loop [3] (fun a => ∃ k : Nat, a = .int .i64 k ∧ k ≤ D) (fun a => D - (intOf a).toNat)
  case atStart => exact ⟨0, rfl, by omega⟩
  case round =>
    obtain ⟨k, rfl, hk⟩ := hrel
    by_cases hkD : k < D
    · obtain ⟨h1, h2, h3⟩ := HL.out k hkD
      go_wp2
      go_round
      case rel => exact ⟨k + 1, by go_num, by omega⟩
      case measure => simp [intOf]; omega
    · obtain rfl : k = D := by omega
      by_cases h : k < s.size
      · rcases HE.out h with h2 | h2
        all_goals
          go_wp2
          go_ret
          exact ⟨rfl, rfl⟩
      · go_wp2
        go_ret
        exact ⟨rfl, rfl⟩

def SomeSat (v : Nat) (w : World) (e : Ending) (w' : World) : Prop := ∃ r : Nat, Sat r v ∧ e = .returned (.int .u64 r) ∧ w = w'

theorem get_toList (s : ByteArray) (k : Nat) (h : k < s.size) : s.data.toList[k]'(by simpa using h) = s[k] := rfl

theorem dval_take (l : List UInt8) (k : Nat) (h : k < l.length) : dval (l.take (k + 1)) = dval (l.take k) * 10 + (l[k].toNat - 48) := by
  rw [List.take_succ_eq_append_getElem h, dval_snoc]

theorem dval_pad (a b : List UInt8) (k : Nat) (h : k < b.length) : dval (a ++ b.take (k + 1)) = dval (a ++ b.take k) * 10 + (b[k].toNat - 48) := by
  rw [List.take_succ_eq_append_getElem h, ← List.append_assoc, dval_snoc]

set_option maxHeartbeats 1000000 in
theorem millionths_any (s t : ByteArray) (w : World) (hs : s.size ≤ 281474976710656) (ds : ∀ k, ∀ h : k < s.size, isDig s[k] = true) (dt : ∀ k, ∀ h : k < t.size, isDig t[k] = true) :
    Calls Tryz.prog 121 #[.string s, .string t] w (SomeSat (mval s.data.toList t.data.toList) w) := by
  have AS := Lib.hid ds; clear ds
  have AT := Lib.hid dt; clear dt
  go_enter Tryz.func121, Tryz.ntmps121
  go_wp2
  go_loop [5, 10] (fun a b => ∃ r k : Nat, a = .int .u64 r ∧ b = .int .i64 k ∧ k ≤ s.size ∧ Sat r (dval (s.data.toList.take k))) (fun _ b => s.size - (intOf b).toNat)
  case atStart => exact ⟨0, 0, rfl, rfl, by omega, Or.inl ⟨rfl, by simp [dval]⟩⟩
  case round =>
    obtain ⟨r, k, rfl, rfl, hk, hr⟩ := hrel
    have hrl := hr.le
    have HR := Lib.hid hr; clear hr
    by_cases hks : k < s.size
    · have hd := isDig_yes (AS.out k hks)
      go_wp2_with (go_at_call 133; refine (push_any r s[k].toNat _ (by omega) (by omega) (by omega)).mono ?_; rintro e w1 ⟨rfl, rfl⟩)
      go_round
      case rel => exact ⟨_, k + 1, rfl, by go_num, by omega, by rw [dval_take _ _ (by simpa using hks)]; exact HR.out.push hd.2⟩
      case measure => simp [intOf]; omega
    · obtain rfl : k = s.size := by omega
      have h0 : Sat r (dval (s.data.toList ++ (pad6 t.data.toList).take 0)) := by
        have := HR.out
        rw [List.take_of_length_le (by simp)] at this
        simpa using this
      have H0 := Lib.hid h0; clear h0 HR
      go_wp2
      go_loop [5, 19] (fun a b => ∃ r k : Nat, a = .int .u64 r ∧ b = .int .i64 k ∧ k ≤ 6 ∧ Sat r (dval (s.data.toList ++ (pad6 t.data.toList).take k))) (fun _ b => 6 - (intOf b).toNat)
      case atStart => exact ⟨r, 0, rfl, rfl, by omega, H0.out⟩
      case round =>
        obtain ⟨r, k, rfl, rfl, hk, hr⟩ := hrel
        have hrl := hr.le
        have HR := Lib.hid hr; clear hr
        by_cases hk6 : k < 6
        · have HN := Lib.hid (dval_pad s.data.toList (pad6 t.data.toList) k (by rw [pad6_len]; omega))
          by_cases hkt : k < t.size
          · have hd := isDig_yes (AT.out k hkt)
            have HP := Lib.hid (pad6_lt (p := t.data.toList) (k := k) (by simpa using hkt) hk6)
            go_wp2_with (go_at_call 133; refine (push_any r t[k].toNat _ (by omega) (by omega) (by omega)).mono ?_; rintro e w1 ⟨rfl, rfl⟩)
            go_round
            case rel => exact ⟨_, k + 1, rfl, by go_num, by omega, by rw [HN.out, HP.out]; exact HR.out.push hd.2⟩
            case measure => simp [intOf]; omega
          · have HP := Lib.hid (pad6_ge (p := t.data.toList) (k := k) (by simp; omega) hk6)
            go_wp2_with (go_at_call 133; refine (push_any r 48 _ (by omega) (by omega) (by omega)).mono ?_; rintro e w1 ⟨rfl, rfl⟩)
            go_round
            case rel => exact ⟨_, k + 1, rfl, by go_num, by omega, by rw [HN.out, HP.out]; exact HR.out.push (by decide)⟩
            case measure => simp [intOf]; omega
        · obtain rfl : k = 6 := by omega
          go_wp2
          go_ret
          exact ⟨r, by have := HR.out; rw [List.take_of_length_le (by rw [pad6_len]; omega)] at this; exact this, rfl, rfl⟩

def signOf (l : List UInt8) : Bool × Nat := if l[0]? = some 45 then (true, 1) else if l[0]? = some 43 then (false, 1) else (false, 0)
def dotOf (l : List UInt8) (k : Nat) : List UInt8 × Nat := if l[k]? = some 46 then ((l.drop (k + 1)).takeWhile isDig, 1) else ([], 0)
def parseAt (l : List UInt8) : Nat := (l.takeWhile isBl).length
def parseB (l : List UInt8) : Nat := parseAt l + (signOf (l.drop (parseAt l))).2
def parseWhole (l : List UInt8) : List UInt8 := (l.drop (parseB l)).takeWhile isDig
def parseC (l : List UInt8) : Nat := parseB l + (parseWhole l).length
def parsePart (l : List UInt8) : List UInt8 × Nat := dotOf l (parseC l)
def parseEnd (l : List UInt8) : Nat := parseC l + ((parsePart l).2 + (parsePart l).1.length)
def parseVal (l : List UInt8) : Int := sgn (signOf (l.drop (parseAt l))).1 (mval (parseWhole l) (parsePart l).1)
def parseNone (l : List UInt8) : Bool := (parseWhole l).length + (parsePart l).1.length == 0
def num3 (r : Int × Int) (n : Nat) : Value := .tuple #[.int .i64 r.1, .int .i64 n, .int .i64 r.2]
def parseAns (l : List UInt8) : Value := if parseNone l then num3 (0, 0) 0 else num3 (back (parseVal l)) (parseEnd l)

theorem back_sat {r v : Nat} (b : Bool) (h : Sat r v) : back (sgn b r) = back (sgn b v) := by
  rcases h with ⟨rfl, _⟩ | ⟨rfl, h⟩
  · rfl
  · unfold back
    rw [if_neg (by unfold Fits sgn; split <;> omega), if_neg (by unfold Fits sgn; split <;> omega)]

theorem at_some (s : ByteArray) (k : Nat) (h : k < s.size) : s.data.toList[k]? = some s[k] := by
  rw [List.getElem?_eq_getElem (by simpa using h)]; rfl
theorem at_none (s : ByteArray) (k : Nat) (h : ¬ k < s.size) : s.data.toList[k]? = none := by
  rw [List.getElem?_eq_none (by simp; omega)]

theorem signOf_drop (l : List UInt8) (k : Nat) : signOf (l.drop k) = if l[k]? = some 45 then (true, 1) else if l[k]? = some 43 then (false, 1) else (false, 0) := by
  simp [signOf]

theorem toNat_ne {c d : UInt8} {n : Nat} (hd : d.toNat = n) (h : c.toNat ≠ n) : ¬ (some c = some d) := by
  intro e; rw [Option.some.inj e] at h; exact h hd
theorem toNat_eq {c d : UInt8} {n : Nat} (hd : d.toNat = n) (h : c.toNat = n) : some c = some d := by
  rw [UInt8.toNat_inj.1 (h.trans hd.symm)]

def SomeText (l : List UInt8) (w : World) (e : Ending) (w' : World) : Prop := ∃ t : ByteArray, t.data.toList = l ∧ t.size = l.length ∧ e = .returned (.string t) ∧ w = w'

theorem digits_at (s : ByteArray) (k : Nat) (w : World) (hs : s.size ≤ 281474976710656) :
    Calls Tryz.prog 120 #[.string (s.extract k s.size)] w (SomeText ((s.data.toList.drop k).takeWhile isDig) w) := by
  refine (digits_any _ w (by simp; omega)).mono fun e w' h => ?_
  obtain ⟨h1, h2⟩ := h
  have e1 : (s.extract k s.size).data.toList = s.data.toList.drop k := by
    simp
    rw [List.take_of_length_le (by simp)]
  rw [e1] at h1
  have e2 : ((s.extract k s.size).extract 0 (List.takeWhile isDig (List.drop k s.data.toList)).length).data.toList = (s.data.toList.drop k).takeWhile isDig := by
    rw [ByteArray.data_extract]
    simp only [Array.toList_extract, List.extract_eq_take_drop]
    rw [e1]
    simp only [List.drop_zero, Nat.sub_zero]
    exact tw_take _
  exact ⟨_, e2, by rw [← e2]; simp, h1, h2⟩

theorem parse_fin {l : List UInt8} {D B C : Nat} {sg : Bool × Nat} {below : Bool} {t t2 : ByteArray} {dt : List UInt8 × Nat}
    (hD : D = parseAt l) (hsg : sg = signOf (l.drop D)) (hB : B = D + sg.2) (hb : below = sg.1) (ht : t.data.toList = (l.drop B).takeWhile isDig) (ht' : t.size = ((l.drop B).takeWhile isDig).length)
    (hC : C = B + t.size) (hdt : dt = dotOf l C) (h2 : t2.data.toList = dt.1) (h2' : t2.size = dt.1.length) :
    (t.size + t2.size = 0 → parseAns l = .tuple #[.int .i64 0, .int .i64 0, .int .i64 0]) ∧
    (¬ t.size + t2.size = 0 → parseAns l = num3 (back (sgn below (mval t.data.toList t2.data.toList))) (C + (dt.2 + t2.size))) := by
  subst hD hsg
  have eB : parseB l = B := by rw [hB]; rfl
  have eW : parseWhole l = t.data.toList := by unfold parseWhole; rw [eB, ht]
  have eW' : (parseWhole l).length = t.size := by unfold parseWhole; rw [eB, ht']
  have eC : parseC l = C := by unfold parseC; rw [eB, eW', hC]
  have eP : parsePart l = dt := by unfold parsePart; rw [eC, hdt]
  have eN : parseNone l = (t.size + t2.size == 0) := by unfold parseNone; rw [eW', eP, h2']
  constructor
  · intro h
    unfold parseAns
    rw [eN, h]
    rfl
  · intro h
    unfold parseAns
    rw [eN, if_neg (by simpa using h)]
    unfold parseVal parseEnd
    rw [eC, eP, eW, h2', h2, hb]

theorem tw_mem {p : UInt8 → Bool} : ∀ {l : List UInt8} {c : UInt8}, c ∈ l.takeWhile p → p c = true
  | [], c, h => by simp at h
  | a :: l, c, h => by
    rw [List.takeWhile_cons] at h
    split at h
    · rename_i ha
      rcases List.mem_cons.1 h with h | h
      · rw [h]; exact ha
      · exact tw_mem h
    · simp at h

theorem text_digs {t : ByteArray} {l : List UInt8} (ht : t.data.toList = l.takeWhile isDig) : ∀ k, ∀ h : k < t.size, isDig t[k] = true := by
  intro k h
  refine tw_mem (l := l) ?_
  rw [← ht, ← get_toList t k h]
  exact List.getElem_mem _

theorem text_digs2 {t : ByteArray} {l : List UInt8} {C : Nat} (ht : t.data.toList = (dotOf l C).1) : ∀ k, ∀ h : k < t.size, isDig t[k] = true := by
  unfold dotOf at ht
  split at ht
  · exact text_digs ht
  · intro k h
    have h2 : t.data.toList.length = 0 := by rw [ht]; rfl
    have h3 : t.size = t.data.toList.length := Array.length_toList.symm
    omega

set_option maxRecDepth 100000 in
set_option maxHeartbeats 1000000 in
theorem parse_any (s : ByteArray) (w : World) (hs : s.size ≤ 281474976710656) :
    Calls Tryz.prog 98 #[.string s] w fun e w' => e = .returned (parseAns s.data.toList) ∧ w = w' := by
  obtain ⟨D, hD⟩ : ∃ D, D = parseAt s.data.toList := ⟨_, rfl⟩
  have hlt : ∀ k, k < D → ∃ h : k < s.size, isBl s[k] = true := by
    intro k hk
    have h1 := tw_le (p := isBl) s.data.toList
    have h2 : k < s.size := by rw [hD] at hk; unfold parseAt at hk; simp at h1; omega
    have h3 := tw_lt (p := isBl) (l := s.data.toList) (k := k) (by rw [hD] at hk; exact hk) (by simpa using h2)
    have h4 : isBl s.data[k] = true := by simpa using h3
    exact ⟨h2, h4⟩
  have hend : ∀ h : D < s.size, isBl s[D] = false := by
    intro h
    subst hD
    have h' : (List.takeWhile isBl s.data.toList).length < s.size := h
    have h3 := tw_end (p := isBl) (l := s.data.toList) (by simpa using h')
    have h4 : isBl s.data[(List.takeWhile isBl s.data.toList).length] = false := by simpa using h3
    exact h4
  have hDs : D ≤ s.size := by have h1 := tw_le (p := isBl) s.data.toList; unfold parseAt at hD; simp at h1; omega
  have HL := Lib.hid hlt; clear hlt
  have HE := Lib.hid hend; clear hend
  have HD := Lib.hid hD; clear hD
  go_enter Tryz.func98, Tryz.ntmps98
  go_upto_block 0 with (fail)
  go_cut [5] (fun a wx => a = .int .i64 D ∧ wx = w)
  case first =>
    go_wp2
    go_loop [5] (fun a => ∃ k : Nat, a = .int .i64 k ∧ k ≤ D) (fun a => D - (intOf a).toNat)
    case atStart => exact ⟨0, rfl, by omega⟩
    case round =>
      obtain ⟨k, rfl, hk⟩ := hrel
      by_cases hkD : k < D
      · obtain ⟨h1, h2⟩ := HL.out k hkD
        go_wp2_with (go_at_call 119; refine (isBlank_any s[k] _).mono ?_; rintro e w1 ⟨rfl, rfl⟩; rw [h2])
        go_round
        case rel => exact ⟨k + 1, by go_num, by omega⟩
        case measure => simp [intOf]; omega
      · obtain rfl : k = D := by omega
        by_cases h : k < s.size
        · have h2 := HE.out h
          go_wp2_with (go_at_call 119; refine (isBlank_any s[k] _).mono ?_; rintro e w1 ⟨rfl, rfl⟩; rw [h2])
          go_meet
          exact ⟨rfl, rfl⟩
        · go_wp2
          go_meet
          exact ⟨rfl, rfl⟩
  case rest =>
    obtain ⟨rfl, rfl⟩ := hcut
    obtain ⟨sg, hsg⟩ : ∃ sg, sg = signOf (s.data.toList.drop D) := ⟨_, rfl⟩
    have hsg2 := hsg
    rw [signOf_drop] at hsg2
    have h4 : (∃ h : D < s.size, ((s[D].toNat : Int) == 45) = true ∧ sg = (true, 1)) ∨
        (∃ h : D < s.size, ((s[D].toNat : Int) == 45) = false ∧ ((s[D].toNat : Int) == 43) = true ∧ sg = (false, 1)) ∨
        (∃ h : D < s.size, ((s[D].toNat : Int) == 45) = false ∧ ((s[D].toNat : Int) == 43) = false ∧ sg = (false, 0)) ∨ (¬ D < s.size ∧ sg = (false, 0)) := by
      by_cases h : D < s.size
      · rw [at_some s D h] at hsg2
        by_cases h45 : s[D].toNat = 45
        · exact Or.inl ⟨h, by rw [h45]; rfl, by rw [hsg2, if_pos (toNat_eq rfl h45)]⟩
        by_cases h43 : s[D].toNat = 43
        · exact Or.inr (Or.inl ⟨h, by simp; omega, by rw [h43]; rfl, by rw [hsg2, if_neg (toNat_ne rfl h45), if_pos (toNat_eq rfl h43)]⟩)
        · exact Or.inr (Or.inr (Or.inl ⟨h, by simp; omega, by simp; omega, by rw [hsg2, if_neg (toNat_ne rfl h45), if_neg (toNat_ne rfl h43)]⟩))
      · rw [at_none s D h] at hsg2
        exact Or.inr (Or.inr (Or.inr ⟨h, by rw [hsg2]; rfl⟩))
    have hB : D + sg.2 ≤ s.size := by
      rcases h4 with ⟨h, _, e⟩ | ⟨h, _, _, e⟩ | ⟨h, _, _, e⟩ | ⟨h, e⟩ <;> rw [e] <;> simp only <;> omega
    have HSG := Lib.hid hsg; clear hsg hsg2
    have H4 := Lib.hid h4; clear h4
    go_step
    go_upto_region 4 with (fail)
    go_cut [6] (fun b wx => b = .bool sg.1 ∧ wx = wc)
    case first =>
      rcases H4.out with ⟨h, e1, e⟩ | ⟨h, e1, e2, e⟩ | ⟨h, e1, e2, e⟩ | ⟨h, e⟩
      all_goals
        subst e
        go_wp2
        go_meet
        exact ⟨rfl, rfl⟩
    case rest =>
      obtain ⟨rfl, rfl⟩ := hcut
      go_step
      go_upto_region 5 with (fail)
      go_cut [45] (fun b wx => b = .bool (sg.2 == 1) ∧ wx = wc)
      case first =>
        rcases H4.out with ⟨h, e1, e⟩ | ⟨h, e1, e2, e⟩ | ⟨h, e1, e2, e⟩ | ⟨h, e⟩
        all_goals
          subst e
          go_wp2
          go_meet
          exact ⟨rfl, rfl⟩
      case rest =>
        obtain ⟨rfl, rfl⟩ := hcut
        obtain ⟨B, hBB⟩ : ∃ B, B = D + sg.2 := ⟨_, rfl⟩
        rw [← hBB] at hB
        have HBB := Lib.hid hBB; clear hBB
        go_step
        go_upto_if 45 with (fail)
        go_cut [5] (fun a wx => a = .int .i64 B ∧ wx = wc)
        case first =>
          rcases H4.out with ⟨h, e1, e⟩ | ⟨h, e1, e2, e⟩ | ⟨h, e1, e2, e⟩ | ⟨h, e⟩
          all_goals
            have e3 := HBB.out
            subst e
            simp only at e3
            subst e3
            go_wp2
            go_meet
            exact ⟨by go_num, rfl⟩
        case rest =>
          obtain ⟨rfl, rfl⟩ := hcut
          obtain ⟨below, hbelow⟩ : ∃ b, b = sg.1 := ⟨_, rfl⟩
          rw [← hbelow]
          have HBL := Lib.hid hbelow; clear hbelow
          go_step
          go_upto_region 8 with (go_at_call 120; refine (digits_at s B _ hs).mono ?_; rintro e w1 ⟨t, ht1, ht2, rfl, rfl⟩; have HT1 := Lib.hid ht1; clear ht1; have HT2 := Lib.hid ht2; clear ht2)
          have hts : B + t.size ≤ s.size := by
            have h1 := tw_le (p := isDig) (s.data.toList.drop B)
            have h2 := HT2.out
            simp at h1
            omega
          obtain ⟨C, hC⟩ : ∃ C, C = B + t.size := ⟨_, rfl⟩
          have hCs : C ≤ s.size := by omega
          have HC := Lib.hid hC; clear hC
          go_cut [5] (fun a wx => a = .int .i64 C ∧ wx = wc)
          case first =>
            go_wp2
            go_meet
            exact ⟨by rw [HC.out]; rfl, rfl⟩
          case rest =>
            obtain ⟨rfl, rfl⟩ := hcut
            have d2 : (∃ h : C < s.size, ((s[C].toNat : Int) == 46) = true ∧ dotOf s.data.toList C = ((s.data.toList.drop (C + 1)).takeWhile isDig, 1)) ∨
                (∃ h : C < s.size, ((s[C].toNat : Int) == 46) = false ∧ dotOf s.data.toList C = ([], 0)) ∨ (¬ C < s.size ∧ dotOf s.data.toList C = ([], 0)) := by
              by_cases h : C < s.size
              · by_cases h46 : s[C].toNat = 46
                · exact Or.inl ⟨h, by rw [h46]; rfl, by unfold dotOf; rw [at_some s C h, if_pos (toNat_eq rfl h46)]⟩
                · exact Or.inr (Or.inl ⟨h, by simp; omega, by unfold dotOf; rw [at_some s C h, if_neg (toNat_ne rfl h46)]⟩)
              · exact Or.inr (Or.inr ⟨h, by unfold dotOf; rw [at_none s C h]; rfl⟩)
            obtain ⟨dt, hdt⟩ : ∃ dt, dt = dotOf s.data.toList C := ⟨_, rfl⟩
            rw [← hdt] at d2
            have HDT := Lib.hid hdt; clear hdt
            have D2 := Lib.hid d2; clear d2
            go_step
            go_upto_region 10 with (fail)
            go_cut [65] (fun b wx => b = .bool (dt.2 == 1) ∧ wx = wc)
            case first =>
              rcases D2.out with ⟨h, e1, e⟩ | ⟨h, e1, e⟩ | ⟨h, e⟩
              all_goals
                subst e
                go_wp2
                go_meet
                exact ⟨rfl, rfl⟩
            case rest =>
              obtain ⟨rfl, rfl⟩ := hcut
              go_step
              go_upto_if 65 with (fail)
              go_cut [5, 8] (fun a b wx => (∃ t2 : ByteArray, b = .string t2 ∧ Hid (t2.data.toList = dt.1) ∧ Hid (t2.size = dt.1.length) ∧ C + t2.size ≤ s.size ∧ a = .int .i64 ((C + (dt.2 + t2.size) : Nat) : Int)) ∧ wx = wc)
              case first =>
                rcases D2.out with ⟨h, e1, e⟩ | ⟨h, e1, e⟩ | ⟨h, e⟩
                · subst e
                  have hd := fun w => digits_at s (C + 1) w hs
                  have HD2 := Lib.hid hd; clear hd
                  go_wp2_with (go_at_call 120; refine (HD2.out _).mono ?_; rintro e w1 ⟨t2, ht1, ht2, rfl, rfl⟩; have HT3 := Lib.hid ht1; clear ht1; have HT4 := Lib.hid ht2; clear ht2; have hts2 : C + 1 + t2.size ≤ s.size := (by
                    have h1 := tw_le (p := isDig) (s.data.toList.drop (C + 1))
                    have h2 := HT4.out
                    simp at h1
                    omega))
                  go_meet
                  exact ⟨⟨t2, rfl, HT3, HT4, by omega, by go_num⟩, rfl⟩
                all_goals
                  subst e
                  go_wp2
                  go_meet
                  exact ⟨⟨_, rfl, Lib.hid rfl, Lib.hid rfl, hCs, rfl⟩, rfl⟩
              case rest =>
                obtain ⟨⟨t2, rfl, HT3, HT4, hts2, rfl⟩, rfl⟩ := hcut
                have hfin := parse_fin HD.out HSG.out HBB.out HBL.out HT1.out HT2.out HC.out HDT.out HT3.out HT4.out
                have HFIN := Lib.hid hfin; clear hfin
                have hts1 : t.size ≤ s.size := by omega
                have hml := fun w => millionths_any t t2 w (by omega) (text_digs HT1.out) (text_digs2 (by rw [HT3.out, HDT.out]))
                have HML := Lib.hid hml; clear hml
                go_step
                by_cases hn : t.size + t2.size = 0
                · have hb : ((t.size : Int) + (t2.size : Int) == 0) = true := by rw [beq_iff_eq]; omega
                  have hans := HFIN.out.1 hn
                  have HANS := Lib.hid hans
                  clear hn hans
                  go_wp2
                  go_ret3
                  exact ⟨by rw [HANS.out]; rfl, rfl⟩
                · have hb : ((t.size : Int) + (t2.size : Int) == 0) = false := by rw [beq_eq_false_iff_ne]; omega
                  have hans := HFIN.out.2 hn
                  have HANS := Lib.hid hans
                  clear hn hans
                  go_wp2_with (first
                    | (go_at_call 121; refine (HML.out _).mono ?_; rintro e w1 ⟨r, hr, rfl, rfl⟩; have HR := Lib.hid hr; clear hr)
                    | (go_at_call 114; refine (signed_sgn _ _ _ (HR.out.le)).mono ?_; rintro e w3 ⟨rfl, rfl⟩; rw [back_sat _ HR.out]; unfold ans))
                  go_ret3
                  exact ⟨by rw [HANS.out]; rfl, rfl⟩
end Go.Proofs.YtbbhcbpfffabpaaGreatDoor.T3
