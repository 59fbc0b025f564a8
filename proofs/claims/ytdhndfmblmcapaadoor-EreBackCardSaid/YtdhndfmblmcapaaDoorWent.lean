/- What a part of the reading comes to. -/
import Derived.Test.YtdhndfmblmcapaaDoorOfByte
import Derived.Test.YtdhndfmblmcapaaDoorBack
namespace Go.Proofs.YtdhndfmblmcapaaDoor
open Go.RowKit

/-- A tree was read. -/
def Went (p : Nat) (s : ByteArray) (k d : Nat) (t : Tree) (w : World) (e : Ending) (w' : World) : Prop :=
  ∃ cs, e = .returned (.agg cs) ∧ At w' (Up w.heap.size) t cs ∧ Rdr w' p s k d ∧ But p w w'
/-- The reading was given up: too many brackets. -/
def Fell (p : Nat) (w : World) (e : Ending) (w' : World) : Prop :=
  ∃ a : Int, e = .panicked [{ v := .iface 53 (.agg #[.int .i64 a, .int .i64 2]), recovered := false }] ∧ But p w w'
def PartAt (f : Nat) (ok : List UInt8 → Prop) (l : List UInt8) (t : Tree) (n : Nat) : Prop :=
  ∀ (s : ByteArray) (k d p : Nat) (w : World) (rest : List UInt8), s.data.toList.drop k = l ++ rest → ok rest → s.size ≤ 400 → k ≤ s.size → d ≤ 20 → Rdr w p s k d →
    (d + n ≤ 20 → Calls Tryd.prog f #[.pointer (some ⟨p, 0, none⟩)] w (Went p s (k + l.length) d t w)) ∧ (20 < d + n → Calls Tryd.prog f #[.pointer (some ⟨p, 0, none⟩)] w (Fell p w))
def AtomAt := PartAt 56 (fun _ => True)
def PieceAt := PartAt 48 (fun r => ∀ c, r.head? = some c → c ∉ [42, 43, 63, 123])
def BranchAt := PartAt 37 (fun r => r = [] ∨ r.head? = some 124 ∨ r.head? = some 41)
def PatternAt := PartAt 27 (fun r => r = [] ∨ r.head? = some 41)

theorem At.setRowS {V : World} {S : Nat → Prop} {g : Nat} {t : Tree} {cs : Array Value} (h : At V S t cs) (hg : ¬ S g) (ds : Array Value) : At (V.setRow g ds) S t cs :=
  h.keep fun _ hk _ => Go.setRow_other _ _ _ _ (fun e => hg (e ▸ hk))
theorem At.setRow {V : World} {C g : Nat} {t : Tree} {cs : Array Value} (h : At V (Up C) t cs) (hg : g < C) (ds : Array Value) : At (V.setRow g ds) (Up C) t cs := h.setRowS (by unfold Up; omega) ds
theorem But.setRow {p g : Nat} {w V : World} (h : But p w V) (hg : w.heap.size ≤ g) (ds : Array Value) : But p w (V.setRow g ds) :=
  ⟨h.os, h.tape, h.output, by have := h.size; simpa [World.setRow] using this, fun k hk hp => by rw [Go.setRow_other _ _ _ _ (by omega)]; exact h.block k hk hp⟩
theorem Rdr.setRow {p g : Nat} {V : World} {s : ByteArray} {k d : Nat} (h : Rdr V p s k d) (hg : p ≠ g) (ds : Array Value) : Rdr (V.setRow g ds) p s k d :=
  ⟨by rw [Go.setRow_other _ _ _ _ hg]; exact h.row⟩
theorem went_end {p g : Nat} {w V : World} {s : ByteArray} {k d : Nat} {t : Tree} {cs : Array Value} (hat : At (V.setRow g cs) (Up w.heap.size) t cs) (R : Rdr V p s k d) (B : But p w V) (hg : w.heap.size ≤ g) (hp : p < w.heap.size) :
    Went p s k d t w (.returned (.agg cs)) (V.setRow g cs) :=
  ⟨cs, rfl, hat, R.setRow (by omega) _, B.setRow hg _⟩

/-- The bytes that are no atoms by themselves. -/
def plainB (c : UInt8) : Bool := !([40, 91, 92, 42, 43, 63, 123, 46, 94, 36] : List UInt8).contains c
theorem plainB_ne : ∀ c : Fin 256, plainB c.val.toUInt8 = true → ((c.val : Int) == 40) = false ∧ ((c.val : Int) == 91) = false ∧ ((c.val : Int) == 92) = false ∧ ((c.val : Int) == 42) = false ∧ ((c.val : Int) == 43) = false ∧ ((c.val : Int) == 63) = false ∧ ((c.val : Int) == 123) = false ∧ ((c.val : Int) == 46) = false ∧ ((c.val : Int) == 94) = false ∧ ((c.val : Int) == 36) = false := by decide +kernel

set_option maxRecDepth 100000 in
theorem atom_byte (c : UInt8) (hp : plainB c = true) : AtomAt [c] (oneT c.toNat) 0 := by
  intro s k d p w rest hdrop _ hs _ hd hr
  refine ⟨fun _ => ?_, fun h => by omega⟩
  obtain ⟨hk, ek⟩ := drop_get hdrop
  have HN := Lib.hid (plainB_ne ⟨c.toNat, UInt8.toNat_lt c⟩ (by simpa using hp))
  rw [← ek] at HN ⊢
  have HA := Lib.hid (fun w => ofByte_spec s[k].toNat (UInt8.toNat_lt _) w)
  have HI := info_re
  clear hdrop hp ek
  go_enter Tryd.func56, Tryd.ntmps56
  go_upto_region 1 with (fail)
  obtain ⟨W, hW, hX, hB, _⟩ := re_box w zeroR
  change Code.wp _ _ _ _ (w.alloc (Obj.cells zeroR 27))
  rw [← hW]
  clear hW
  have R := Lib.hid (hr.after hB.out)
  have c0 := R.out.c0; have c1 := R.out.c1; have z1 := R.out.z 1
  go_upto_region 4 with (fail)
  obtain ⟨V, hV, R1, X1, B1⟩ : ∃ V, V = W.setCell ⟨p, 1, none⟩ (.int .i64 ((k : Int) + 1)) ∧ Hid (Rdr V p s (k + 1) d) ∧ Hid (Box V w.heap.size zeroR) ∧ Hid (But p w V) :=
    ⟨_, rfl, Lib.hid (R.out.put1 (k + 1)), Lib.hid (hX.out.but (but_put _ _ _ _) (by have := hr.lt; omega)), Lib.hid ((But.of hB.out).put _ _)⟩
  rw [← hV]
  clear hV c0 c1 z1
  obtain ⟨n0, n1, n2, n3, n4, n5, n6, n7, n8, n9⟩ := HN.out
  go_wp2_with fail
  refine (HA.out _).mono ?_
  rintro e w1 ⟨rfl, b1⟩
  have X2 := Lib.hid (X1.out.after b1)
  have R2 := Lib.hid (R1.out.after b1)
  have B2 := Lib.hid (B1.out.then b1)
  clear b1
  go_wp2_with (refine wpList_store_row rfl 27 (.tmp 2) (.tmp 57) rfl w.heap.size (reC 1 (oneF s[k].toNat) 0 0 (.slice none 0 0)) rfl rfl 27 zeroR X2.out.row HI rfl (re_one _ _ _ _ _ _ _) ?_)
  refine bodyPost_ret (v := .agg (reC 1 (oneF s[k].toNat) 0 0 (.slice none 0 0))) (results_cell_row (by rfl) _ _ w.heap.size 27 _ (0, 0) _ (by rfl) (X2.out.setRow _).row Tryd.underlying27 (by rfl) HI) rfl ?_
  exact went_end (.leaf _ _ _ _ _ _) R2.out B2.out (Nat.le_refl _) hr.lt
end Go.Proofs.YtdhndfmblmcapaaDoor
