/- The reader in memory; left, take: walks. -/
import Derived.Test.YtejofdhpegcmjaaLexRun
import Derived.Lib.Strings
namespace Go.Proofs.Ytejofdhpegcmjaa
open Go.RowKit

/-- All that was there stands, but one block. -/
structure But (p : Nat) (w w' : World) : Prop where
  os : w'.os = w.os
  tape : w'.tape = w.tape
  output : w'.output = w.output
  size : w.heap.size ≤ w'.heap.size
  block : ∀ k, k < w.heap.size → k ≠ p → w'.heap[k]? = w.heap[k]?
theorem But.refl (p : Nat) (w : World) : But p w w := ⟨rfl, rfl, rfl, Nat.le_refl _, fun _ _ _ => rfl⟩
theorem But.of {p : Nat} {w w' : World} (h : Below w.heap.size w w') : But p w w' := ⟨h.os, h.tape, h.output, h.size, fun k hk _ => h.block k hk⟩
theorem But.trans {p : Nat} {w w1 w2 : World} (h : But p w w1) (g : But p w1 w2) : But p w w2 :=
  ⟨g.os.trans h.os, g.tape.trans h.tape, g.output.trans h.output, Nat.le_trans h.size g.size, fun k hk hp => (g.block k (Nat.lt_of_lt_of_le hk h.size) hp).trans (h.block k hk hp)⟩
theorem But.then {p : Nat} {w w1 w2 : World} (h : But p w w1) (g : Below w1.heap.size w1 w2) : But p w w2 := h.trans (.of g)
theorem But.below {p B : Nat} {w w' : World} (h : But p w w') (hB : B ≤ p) (hs : B ≤ w.heap.size) : Below B w w' :=
  ⟨h.os, h.tape, h.output, h.size, fun k hk => h.block k (by omega) (by omega)⟩
theorem but_put (w : World) (p j : Nat) (v : Value) : But p w (w.setCell ⟨p, j, none⟩ v) :=
  ⟨rfl, rfl, rfl, by rw [World.size_setCell]; exact Nat.le_refl _, fun k _ hp => heap_setCell_other w ⟨p, j, none⟩ k v hp⟩
theorem But.put {p : Nat} {w w1 : World} (h : But p w w1) (j : Nat) (v : Value) : But p w (w1.setCell ⟨p, j, none⟩ v) := h.trans (but_put w1 p j v)
theorem drewN_below (w : World) (n : Nat) : Below w.heap.size w (w.drewN n) := Below.drewN' (Below.refl _ w) n
/-- .. of what was there when a block B was laid. -/
structure ButB (B p : Nat) (w w' : World) : Prop where
  os : w'.os = w.os
  tape : w'.tape = w.tape
  output : w'.output = w.output
  size : w.heap.size ≤ w'.heap.size
  block : ∀ k, k < B → k ≠ p → w'.heap[k]? = w.heap[k]?
theorem ButB.refl (B p : Nat) (w : World) : ButB B p w w := ⟨rfl, rfl, rfl, Nat.le_refl _, fun _ _ _ => rfl⟩
theorem ButB.trans {B p : Nat} {w w1 w2 : World} (h : ButB B p w w1) (g : ButB B p w1 w2) : ButB B p w w2 :=
  ⟨g.os.trans h.os, g.tape.trans h.tape, g.output.trans h.output, Nat.le_trans h.size g.size, fun k hk hp => (g.block k hk hp).trans (h.block k hk hp)⟩
theorem ButB.of {B p : Nat} {w w' : World} (h : Below B w w') : ButB B p w w' := ⟨h.os, h.tape, h.output, h.size, fun k hk _ => h.block k hk⟩
theorem But.toB {B p : Nat} {w w' : World} (h : But p w w') (hB : B ≤ w.heap.size) : ButB B p w w' := ⟨h.os, h.tape, h.output, h.size, fun k hk hp => h.block k (by omega) hp⟩
theorem ButB.toBut {p : Nat} {w w' : World} (h : ButB w.heap.size p w w') : But p w w' := ⟨h.os, h.tape, h.output, h.size, h.block⟩
theorem ButB.drewN {B p : Nat} {w w' : World} (h : ButB B p w w') (n : Nat) : ButB B p w (w'.drewN n) := h.trans (.of (Below.drewN' (Below.refl B w') n))

/-- The reader's block: its text, its place, the token that was read last. -/
structure Rd (w : World) (p : Nat) (s : ByteArray) (k : Nat) (L : Tok) : Prop where
  row : w.heap[p]? = some (.cells #[.string s, .int .i64 k, .int .i64 L.K, .string L.S, .int .i64 L.A] 49 (0, 0))
theorem Rd.lt {w : World} {p : Nat} {s : ByteArray} {k : Nat} {L : Tok} (h : Rd w p s k L) : p < w.heap.size := (Array.getElem?_eq_some_iff.1 h.row).1
theorem Rd.c0 {w : World} {p : Nat} {s : ByteArray} {k : Nat} {L : Tok} (h : Rd w p s k L) : w.cell? ⟨p, 0, none⟩ = some (.string s) := cell_of_row _ _ 0 _ _ _ h.row
theorem Rd.c1 {w : World} {p : Nat} {s : ByteArray} {k : Nat} {L : Tok} (h : Rd w p s k L) : w.cell? ⟨p, 1, none⟩ = some (.int .i64 k) := cell_of_row _ _ 1 _ _ _ h.row
theorem Rd.c2 {w : World} {p : Nat} {s : ByteArray} {k : Nat} {L : Tok} (h : Rd w p s k L) : w.cell? ⟨p, 2, none⟩ = some (.int .i64 L.K) := cell_of_row _ _ 2 _ _ _ h.row
theorem Rd.c3 {w : World} {p : Nat} {s : ByteArray} {k : Nat} {L : Tok} (h : Rd w p s k L) : w.cell? ⟨p, 3, none⟩ = some (.string L.S) := cell_of_row _ _ 3 _ _ _ h.row
theorem Rd.c4 {w : World} {p : Nat} {s : ByteArray} {k : Nat} {L : Tok} (h : Rd w p s k L) : w.cell? ⟨p, 4, none⟩ = some (.int .i64 L.A) := cell_of_row _ _ 4 _ _ _ h.row
theorem Rd.z {w : World} {p : Nat} {s : ByteArray} {k : Nat} {L : Tok} (h : Rd w p s k L) (j : Nat) : w.frozen? ⟨p, j, none⟩ = false := frozen_of_row _ _ j _ _ h.row
theorem Rd.after {w w' : World} {p : Nat} {s : ByteArray} {k : Nat} {L : Tok} (h : Rd w p s k L) (hb : Below w.heap.size w w') : Rd w' p s k L := ⟨by rw [hb.block p h.lt]; exact h.row⟩
theorem Rd.drewN {w : World} {p : Nat} {s : ByteArray} {k : Nat} {L : Tok} (h : Rd w p s k L) (n : Nat) : Rd (w.drewN n) p s k L := h.after (drewN_below w n)
theorem Rd.keep {w w' : World} {p : Nat} {s : ByteArray} {k : Nat} {L : Tok} (h : Rd w p s k L) (e : w'.heap[p]? = w.heap[p]?) : Rd w' p s k L := ⟨by rw [e]; exact h.row⟩
theorem Rd.put1 {w : World} {p : Nat} {s : ByteArray} {k : Nat} {L : Tok} (h : Rd w p s k L) (j : Nat) : Rd (w.setCell ⟨p, 1, none⟩ (.int .i64 j)) p s j L :=
  ⟨by rw [heap_setCell_same _ _ 1 _ _ _ h.row]; rfl⟩

/-- A reading was given up. -/
def Fell (p : Nat) (a x : Int) (w : World) (e : Ending) (w' : World) : Prop :=
  e = .panicked [{ v := .iface 46 (.agg #[.int .i64 a, .int .i64 x]), recovered := false }] ∧ But p w w'

theorem extract_list (s : ByteArray) (i j : Nat) : (s.extract i j).data.toList = (s.data.toList.drop i).take (j - i) := by
  rw [Lib.extract_data]
theorem extract_end (s : ByteArray) (i : Nat) : (s.extract i s.size).data.toList = s.data.toList.drop i := by
  rw [extract_list]
  exact List.take_of_length_le (by simp)

def LeftAt (s : ByteArray) (k : Nat) (w : World) (e : Ending) (w' : World) : Prop := ∃ t : ByteArray, e = .returned (.string t) ∧ Hid (t.data.toList = s.data.toList.drop k) ∧ t.size = s.size - k ∧ ∃ n, w' = w.drewN n
set_option maxRecDepth 100000 in
theorem left_spec (p : Nat) (s : ByteArray) (k : Nat) (L : Tok) (w : World) (h : Rd w p s k L) (hk : k ≤ s.size) :
    Calls Try.prog 32 #[.pointer (some ⟨p, 0, none⟩)] w (LeftAt s k w) := by
  have c0 := h.c0
  have c1 := h.c1
  have hx := Lib.hid (extract_end s k)
  go_enter Try.func32, Try.ntmps32
  go_wp2_with fail
  go_quiet (fail)
  go_wp2_with fail
  go_ret
  exact ⟨_, rfl, hx, by rw [ByteArray.size_extract]; omega, _, rfl⟩

def TookAt (p : Nat) (s : ByteArray) (k n : Nat) (L : Tok) (w : World) (e : Ending) (w' : World) : Prop := ∃ t : ByteArray, e = .returned (.string t) ∧ Hid (t.data.toList = (s.data.toList.drop k).take n) ∧ t.size = n ∧ Rd w' p s (k + n) L ∧ But p w w'
set_option maxRecDepth 100000 in
theorem take_spec (p : Nat) (s : ByteArray) (k n : Nat) (L : Tok) (w : World) (h : Rd w p s k L) (hk : k + n ≤ s.size) (hs : s.size ≤ 8000) :
    Calls Try.prog 35 #[.pointer (some ⟨p, 0, none⟩), .int .i64 n] w (TookAt p s k n L w) := by
  have c0 := h.c0
  have c1 := h.c1
  have z1 := h.z 1
  have hx : Hid ((s.extract k (k + n)).data.toList = (s.data.toList.drop k).take n) := Lib.hid (by rw [extract_list]; congr 1; omega)
  have R := Lib.hid h; clear h
  go_enter Try.func35, Try.ntmps35
  go_wp2_with fail
  go_quiet (fail)
  rename_i nq _
  go_wp2_with fail
  go_ret
  exact ⟨_, rfl, hx, by rw [ByteArray.size_extract]; omega, by have := (R.out.drewN nq).put1 (k + n); exact this, (But.of (drewN_below w nq)).put 1 _⟩
end Go.Proofs.Ytejofdhpegcmjaa
