/- Contracts of the document's answers for numbers: differences of digits. -/
import Derived.Test.YtpmfkmolbioomaaDoorRefB
namespace Go.Proofs.YtpmfkmolbioomaaDoor
open Go.RowKit

theorem quiet_read {P : Program} {f : FuncId} {args : Array Value} {w : World} {n : Nat} {v : Value}
    (h : Calls P f args (w.drewN n) fun e w' => e = .returned v ∧ w.drewN n = w') : Calls P f args (w.drewN n) fun e w'' => e = .returned v ∧ ∃ m, w'' = w.drewN m :=
  h.mono fun _ _ ⟨he, hw⟩ => ⟨he, n, hw.symm⟩

theorem pre_suf (l : List Nat) (k : Nat) : val l = pre l k + 10 ^ k * suf l k := by
  have h1 := val_append (l.take k) (l.drop k)
  rw [List.take_append_drop] at h1
  rw [h1]
  unfold pre suf
  rcases Nat.lt_or_ge k l.length with h | h
  · rw [List.length_take, Nat.min_eq_left (by omega)]
  · rw [List.drop_of_length_le h]; simp [val]

theorem minus_end {a b l : List Nat} {n bo : Nat} (hn : n = a.length) (ha : Dl a) (hl : Dl l) (hln : n = l.length) (h : val l + pre b n = pre a n + 10 ^ n * bo) (hle : val b ≤ val a) :
    val l + val b = val a := by
  have h1 := pre_all a n (by omega)
  have h2 := val_lt ha
  have h3 := val_lt hl
  rw [← hn] at h2
  rw [← hln] at h3
  have h4 := pre_suf b n
  have h5 : suf b n = 0 := by
    rcases Nat.eq_zero_or_pos (suf b n) with h | h
    · exact h
    · have : 10 ^ n * 1 ≤ 10 ^ n * suf b n := Nat.mul_le_mul_left _ h
      omega
  rw [h5] at h4
  rcases Nat.eq_zero_or_pos bo with h6 | h6
  · rw [h6] at h; omega
  · have : 10 ^ n * 1 ≤ 10 ^ n * bo := Nat.mul_le_mul_left _ h6
    omega

end Go.Proofs.YtpmfkmolbioomaaDoor
