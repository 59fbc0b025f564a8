/- Plain mathematics of texts of numbers: no program. -/
namespace Go.Proofs.YtpmfkmolbioomaaDoor

def isDig (c : UInt8) : Bool := decide (48 ≤ c.toNat) && decide (c.toNat ≤ 57)
def isBl (c : UInt8) : Bool := decide (c.toNat = 32) || decide (c.toNat = 9) || decide (c.toNat = 10)

theorem isDig_yes {c : UInt8} (h : isDig c = true) : 48 ≤ c.toNat ∧ c.toNat ≤ 57 := by
  simpa [isDig] using h
theorem isDig_no {c : UInt8} (h : isDig c = false) : c.toNat < 48 ∨ 57 < c.toNat := by
  simp [isDig] at h; omega

theorem tw_lt {p : UInt8 → Bool} : ∀ {l : List UInt8} {k : Nat}, k < (l.takeWhile p).length → ∀ hk : k < l.length, p l[k] = true
  | [], k, h, _ => by simp at h
  | a :: l, k, h, hk => by
    rw [List.takeWhile_cons] at h
    split at h
    · rename_i ha
      cases k with
      | zero => simpa using ha
      | succ k =>
        have := tw_lt (p := p) (l := l) (k := k) (by simpa using h) (by simpa using hk)
        simpa using this
    · simp at h

theorem tw_end {p : UInt8 → Bool} : ∀ {l : List UInt8} (hk : (l.takeWhile p).length < l.length), p l[(l.takeWhile p).length] = false
  | [], h => by simp at h
  | a :: l, h => by
    by_cases ha : p a = true
    · have h2 : (List.takeWhile p (a :: l)).length = (List.takeWhile p l).length + 1 := by simp [ha]
      have := tw_end (p := p) (l := l) (by rw [h2] at h; simpa using h)
      simp only [h2, List.getElem_cons_succ]
      exact this
    · have h2 : (List.takeWhile p (a :: l)).length = 0 := by simp [ha]
      simp only [h2, List.getElem_cons_zero]
      simpa using ha

theorem tw_le {p : UInt8 → Bool} (l : List UInt8) : (l.takeWhile p).length ≤ l.length := (List.takeWhile_sublist p).length_le

theorem tw_take {p : UInt8 → Bool} (l : List UInt8) : l.take (l.takeWhile p).length = l.takeWhile p := by
  induction l with
  | nil => rfl
  | cons a l ih =>
    rw [List.takeWhile_cons]
    split
    · simp [ih]
    · simp

def dstep (n : Nat) (c : UInt8) : Nat := n * 10 + (c.toNat - 48)
def dval (l : List UInt8) : Nat := l.foldl dstep 0

theorem dval_snoc (l : List UInt8) (c : UInt8) : dval (l ++ [c]) = dval l * 10 + (c.toNat - 48) := by
  simp [dval, dstep]

/-- A number that is counted up to a greatest one. -/
def Sat (r v : Nat) : Prop := (r = v ∧ v ≤ 18446744073709551615) ∨ (r = 18446744073709551615 ∧ 9223372036854775808 < v)

def pushN (n : Nat) (c : Nat) : Nat := if 1844674407370955160 < n then 18446744073709551615 else n * 10 + (c - 48)

theorem Sat.le {r v : Nat} (h : Sat r v) : r ≤ 18446744073709551615 := by unfold Sat at h; omega

theorem Sat.push {r v c : Nat} (h : Sat r v) (hc : c ≤ 57) : Sat (pushN r c) (v * 10 + (c - 48)) := by
  unfold Sat pushN at *
  split <;> omega

def pad6 (p : List UInt8) : List UInt8 := p.take 6 ++ List.replicate (6 - p.length) 48
def mval (whole part : List UInt8) : Nat := dval (whole ++ pad6 part)

theorem pad6_len (p : List UInt8) : (pad6 p).length = 6 := by
  simp [pad6]; omega

theorem pad6_lt {p : List UInt8} {k : Nat} (h : k < p.length) (hk : k < 6) : (pad6 p)[k]'(by rw [pad6_len]; exact hk) = p[k] := by
  unfold pad6
  rw [List.getElem_append_left (by simp; omega)]
  simp

theorem pad6_ge {p : List UInt8} {k : Nat} (h : p.length ≤ k) (hk : k < 6) : (pad6 p)[k]'(by rw [pad6_len]; exact hk) = 48 := by
  unfold pad6
  rw [List.getElem_append_right (by simp; omega)]
  simp

end Go.Proofs.YtpmfkmolbioomaaDoor
