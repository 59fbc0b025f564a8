/- Rows of a slice's elements' cells, a slice that a call owns; plain lemmas. -/
import Derived.Test.YtbojoiacedhjiaaTree
import Derived.Maps.AppendAt
namespace Go.Proofs.Ytbojoiacedhjiaa
open Go.RowKit

theorem owns_after {w w' : World} {base : Nat} {e : TypeId} {size : Nat} {v : Value} {n : Nat} {xs : List Value} (h : w.ownsRow base e size v n xs) (hb : Below w.heap.size w w') : w'.ownsRow base e size v n xs :=
  h.kept (row := none) ⟨hb.os, hb.tape, hb.output, hb.size, fun k hk _ => hb.block k hk⟩ (by cases v.ownBlock <;> simp)
theorem owns_but {p : Nat} {w w' : World} {base : Nat} {e : TypeId} {size : Nat} {v : Value} {n : Nat} {xs : List Value} (h : w.ownsRow base e size v n xs) (hb : But p w w') (hp : v.ownBlock ≠ some p) : w'.ownsRow base e size v n xs :=
  h.kept (row := some p) ⟨hb.os, hb.tape, hb.output, hb.size, fun k hk e => hb.block k hk (fun e' => e (by rw [e']))⟩ (Or.inr hp)

/-- The cells of the first so many parts. -/
def flatC (cs : Nat → Array Value) (n : Nat) : List Value := (List.range n).flatMap fun j => (cs j).toList
theorem flatC_succ (cs : Nat → Array Value) (n : Nat) : flatC cs (n + 1) = flatC cs n ++ (cs n).toList := by
  unfold flatC
  rw [List.range_succ, List.flatMap_append]
  simp
theorem flatC_len (m : Nat) (cs : Nat → Array Value) (n : Nat) (h : ∀ j, j < n → (cs j).size = m) : (flatC cs n).length = n * m := by
  induction n with
  | zero => simp [flatC]
  | succ n ih =>
    rw [flatC_succ, List.length_append, ih fun j hj => h j (by omega)]
    have := h n (by omega)
    simp only [Array.length_toList, this]
    rw [Nat.add_mul, Nat.one_mul]
theorem flatC_get (m : Nat) (cs : Nat → Array Value) (n : Nat) (h : ∀ j, j < n → (cs j).size = m) (i : Nat) (hi : i < n) (j : Nat) (hj : j < m) : (flatC cs n)[i * m + j]? = (cs i)[j]? := by
  induction n with
  | zero => omega
  | succ n ih =>
    rw [flatC_succ]
    have hl := flatC_len m cs n fun j hj => h j (by omega)
    by_cases e : i < n
    · have h1 : i * m + j < n * m := by
        have : (i + 1) * m ≤ n * m := Nat.mul_le_mul_right m e
        rw [Nat.add_mul, Nat.one_mul] at this
        omega
      rw [List.getElem?_append_left (by omega)]
      exact ih (fun j hj => h j (by omega)) e
    · obtain rfl : i = n := by omega
      rw [List.getElem?_append_right (by omega), hl]
      simp
theorem flatC_congr {cs ds : Nat → Array Value} {n : Nat} (h : ∀ j, j < n → cs j = ds j) : flatC cs n = flatC ds n := by
  induction n with
  | zero => rfl
  | succ n ih => rw [flatC_succ, flatC_succ, ih fun j hj => h j (by omega), h n (by omega)]
theorem info_re : (Try.prog.info? 28).map (·.size) = some 8 := by kernel_rfl
theorem info_re3 : (Try.prog.info? 28).map (fun i => (i.zero, i.size, i.bytes)) = some (some (.agg #[.int .i64 0, .int .u64 0, .int .u64 0, .int .u64 0, .int .u64 0, .int .i64 0, .int .i64 0, .slice none 0 0]), 8, 80) := by kernel_rfl
theorem re_one (k : Int) (f : Nat → Nat) (lo hi : Int) (a : Option Addr) (n c : Nat) : (reC k f lo hi (.slice a n c)).all (·.oneCell') = true := by
  unfold reC
  simp [Value.oneCell']
end Go.Proofs.Ytbojoiacedhjiaa
