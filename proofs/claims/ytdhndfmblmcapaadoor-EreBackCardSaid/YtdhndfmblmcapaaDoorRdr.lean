/- The reader in memory; ere.reader.comes: a walk. -/
import Derived.Test.YtdhndfmblmcapaaDoorTree
import Derived.Test.YtdhndfmblmcapaaDoorShelf
import Derived.Laws.Externs
namespace Go.Proofs.YtdhndfmblmcapaaDoor
open Go.RowKit

/-- The reader's block: its text, its place, how many brackets are open. -/
structure Rdr (w : World) (p : Nat) (s : ByteArray) (k d : Nat) : Prop where
  row : w.heap[p]? = some (.cells #[.string s, .int .i64 k, .int .i64 d] 56 (0, 0))
theorem Rdr.lt {w : World} {p : Nat} {s : ByteArray} {k d : Nat} (h : Rdr w p s k d) : p < w.heap.size := (Array.getElem?_eq_some_iff.1 h.row).1
theorem Rdr.c0 {w : World} {p : Nat} {s : ByteArray} {k d : Nat} (h : Rdr w p s k d) : w.cell? ⟨p, 0, none⟩ = some (.string s) := cell_of_row _ _ 0 _ _ _ h.row
theorem Rdr.c1 {w : World} {p : Nat} {s : ByteArray} {k d : Nat} (h : Rdr w p s k d) : w.cell? ⟨p, 1, none⟩ = some (.int .i64 k) := cell_of_row _ _ 1 _ _ _ h.row
theorem Rdr.c2 {w : World} {p : Nat} {s : ByteArray} {k d : Nat} (h : Rdr w p s k d) : w.cell? ⟨p, 2, none⟩ = some (.int .i64 d) := cell_of_row _ _ 2 _ _ _ h.row
theorem Rdr.z {w : World} {p : Nat} {s : ByteArray} {k d : Nat} (h : Rdr w p s k d) (j : Nat) : w.frozen? ⟨p, j, none⟩ = false := frozen_of_row _ _ j _ _ h.row
theorem Rdr.after {w w' : World} {p : Nat} {s : ByteArray} {k d : Nat} (h : Rdr w p s k d) (hb : Below w.heap.size w w') : Rdr w' p s k d := ⟨by rw [hb.block p h.lt]; exact h.row⟩
theorem Rdr.put1 {w : World} {p : Nat} {s : ByteArray} {k d : Nat} (h : Rdr w p s k d) (j : Nat) : Rdr (w.setCell ⟨p, 1, none⟩ (.int .i64 j)) p s j d :=
  ⟨by rw [heap_setCell_same _ _ 1 _ _ _ h.row]; rfl⟩
theorem Rdr.put2 {w : World} {p : Nat} {s : ByteArray} {k d : Nat} (h : Rdr w p s k d) (j : Nat) : Rdr (w.setCell ⟨p, 2, none⟩ (.int .i64 j)) p s k j :=
  ⟨by rw [heap_setCell_same _ _ 2 _ _ _ h.row]; rfl⟩
theorem but_put (w : World) (p j : Nat) (v : Value) : But p w (w.setCell ⟨p, j, none⟩ v) :=
  ⟨rfl, rfl, rfl, by rw [World.size_setCell]; exact Nat.le_refl _, fun k _ hp => heap_setCell_other w ⟨p, j, none⟩ k v hp⟩
theorem But.put {p : Nat} {w w1 : World} (h : But p w w1) (j : Nat) (v : Value) : But p w (w1.setCell ⟨p, j, none⟩ v) := h.trans (but_put w1 p j v)
theorem drewN_below (w : World) (n : Nat) : Below w.heap.size w (w.drewN n) := Below.drewN' (Below.refl _ w) n

theorem indexByte_iff (l : List UInt8) (c : UInt8) : 0 ≤ Lib.indexByte l c ↔ c ∈ l := by
  induction l with
  | nil => simp [Lib.indexByte]
  | cons b l ih =>
    unfold Lib.indexByte
    by_cases h : b = c
    · subst h; simp
    · have hb : (b == c) = false := by simpa using h
      rw [hb]
      simp only [Bool.false_eq_true, if_false]
      have hne : c ≠ b := Ne.symm h
      by_cases h1 : Lib.indexByte l c = -1
      · have hb1 : (Lib.indexByte l c == -1) = true := by simpa using h1
        rw [hb1]
        rw [h1] at ih
        simp [hne]
        intro hm
        have := ih.2 hm
        omega
      · have hb1 : (Lib.indexByte l c == -1) = false := by simpa using h1
        rw [hb1]
        have hge := Lib.indexByte_ge l c
        simp [hne]
        rw [← ih]
        omega

/-- Whether one of the bytes comes next. -/
def comesB (s : ByteArray) (k : Nat) (l : List UInt8) : Bool := match s.data.toList[k]? with | some c => decide (c ∈ l) | none => false

set_option maxRecDepth 100000 in
theorem comes_spec (p : Nat) (s g : ByteArray) (k d : Nat) (w : World) (h : Rdr w p s k d) (hk : k ≤ s.size) :
    Calls Tryd.prog 38 #[.pointer (some ⟨p, 0, none⟩), .string g] w fun e w' => e = .returned (.bool (comesB s k g.data.toList)) ∧ ∃ n, w' = w.drewN n := by
  have c0 := h.c0
  have c1 := h.c1
  by_cases hlt : k < s.size
  · have hd : decide ((k : Int) < s.size) = true := decide_eq_true (by omega)
    have hget : s.data.toList[k]? = some s[k] := by rw [List.getElem?_eq_getElem (by simpa using hlt)]; rfl
    have HI := Lib.hid (fun w => Tryd.strings_IndexByte g (s[k].toNat : Int) w)
    have hR : decide (0 ≤ Lib.indexByte g.data.toList s[k]) = comesB s k g.data.toList := by
      unfold comesB
      rw [hget]
      exact decide_eq_decide.2 (indexByte_iff _ _)
    have hu : ((s[k].toNat : Int).toNat.toUInt8) = s[k] := by simp
    rw [hu] at HI
    obtain ⟨I, hi⟩ : ∃ I, I = Lib.indexByte g.data.toList s[k] := ⟨_, rfl⟩
    rw [← hi] at HI hR
    clear hi hu hget
    have HR := Lib.hid hR; clear hR
    go_enter Tryd.func38, Tryd.ntmps38
    go_wp2_with fail
    go_quiet ((go_at_call 28; exact Calls.quiet_of_same (HI.out _)))
    go_wp2_with fail
    rw [HR.out]
    go_ret
    exact ⟨rfl, _, rfl⟩
  · have hd : decide ((k : Int) < s.size) = false := decide_eq_false (by omega)
    have hget : comesB s k g.data.toList = false := by
      unfold comesB
      rw [List.getElem?_eq_none (by simp; omega)]
    rw [hget]
    clear hget
    go_enter Tryd.func38, Tryd.ntmps38
    go_wp2_with fail
    go_quiet (fail)
    go_wp2_with fail
    go_ret
    exact ⟨rfl, _, rfl⟩
end Go.Proofs.YtdhndfmblmcapaaDoor
