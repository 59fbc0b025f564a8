/- Merged by program: SetRow, E5Went, IsOf, E5Times. -/
import Derived.Test.YtimipfdknfdbdaaGreatQsac
import Derived.Test.YtimipfdknfdbdaaGreatQsad
import Derived.Test.YtimipfdknfdbdaaGreatQsaa
import Derived.Test.YtimipfdknfdbdaaGreatQsab
/- What memory keeps behind a row's store. -/
namespace Go.Proofs.YtimipfdknfdbdaaGreat
open Go.RowKit

theorem At.setRowS {V : World} {S : Nat → Prop} {g : Nat} {t : Tree} {cs : Array Value} (h : At V S t cs) (hg : ¬ S g) (ds : Array Value) : At (V.setRow g ds) S t cs :=
  h.keep fun _ hk _ => Go.setRow_other _ _ _ _ (fun e => hg (e ▸ hk))
theorem At.setRow {V : World} {C g : Nat} {t : Tree} {cs : Array Value} (h : At V (Up C) t cs) (hg : g < C) (ds : Array Value) : At (V.setRow g ds) (Up C) t cs := h.setRowS (by unfold Up; omega) ds
theorem But.setRow {p g : Nat} {w V : World} (h : But p w V) (hg : w.heap.size ≤ g) (ds : Array Value) : But p w (V.setRow g ds) :=
  ⟨h.os, h.tape, h.output, by have := h.size; simpa [World.setRow] using this, fun k hk hp => by rw [Go.setRow_other _ _ _ _ (by omega)]; exact h.block k hk hp⟩
theorem Rdr.setRow {p g : Nat} {V : World} {s : ByteArray} {k d : Nat} (h : Rdr V p s k d) (hg : p ≠ g) (ds : Array Value) : Rdr (V.setRow g ds) p s k d :=
  ⟨by rw [Go.setRow_other _ _ _ _ hg]; exact h.row⟩

theorem Box.put {w : World} {b : Nat} {cs : Array Value} (h : Box w b cs) (j : Nat) (v : Value) : Box (w.setCell ⟨b, j, none⟩ v) b (cs.setIfInBounds j v) :=
  ⟨by rw [heap_setCell_same _ _ j _ _ _ h.row]⟩
theorem Box.other {w : World} {b : Nat} {cs : Array Value} (h : Box w b cs) {c : Nat} (hc : b ≠ c) (j : Nat) (v : Value) : Box (w.setCell ⟨c, j, none⟩ v) b cs :=
  ⟨by rw [heap_setCell_other _ _ _ _ hc]; exact h.row⟩
theorem Box.drew {w : World} {b : Nat} {cs : Array Value} (h : Box w b cs) : Box w.drew b cs := h.after (below_drew w)

end Go.Proofs.YtimipfdknfdbdaaGreat

/- What a part of the reading comes to. -/
namespace Go.Proofs.YtimipfdknfdbdaaGreat.E5
open Go.Proofs.YtimipfdknfdbdaaGreat Go.Proofs
open Go.RowKit

/-- A tree was read. -/
def Went (p : Nat) (s : ByteArray) (k d : Nat) (t : Tree) (w : World) (e : Ending) (w' : World) : Prop :=
  ∃ cs, e = .returned (.agg cs) ∧ At w' (Up w.heap.size) t cs ∧ Rdr w' p s k d ∧ But p w w'
/-- The reading was given up: too many brackets. -/
def Fell (p : Nat) (w : World) (e : Ending) (w' : World) : Prop :=
  ∃ a : Int, e = .panicked [{ v := .iface 57 (.agg #[.int .i64 a, .int .i64 2]), recovered := false }] ∧ But p w w'
def PartAt (f : Nat) (ok : List UInt8 → Prop) (l : List UInt8) (t : Tree) (n : Nat) : Prop :=
  ∀ (s : ByteArray) (k d p : Nat) (w : World) (rest : List UInt8), s.data.toList.drop k = l ++ rest → ok rest → s.size ≤ 400 → k ≤ s.size → d ≤ 20 → Rdr w p s k d →
    (d + n ≤ 20 → Calls Tryz.prog f #[.pointer (some ⟨p, 0, none⟩)] w (Went p s (k + l.length) d t w)) ∧ (20 < d + n → Calls Tryz.prog f #[.pointer (some ⟨p, 0, none⟩)] w (Fell p w))
def AtomAt := PartAt 61 (fun _ => True)
def PieceAt := PartAt 49 (fun r => ∀ c, r.head? = some c → c ∉ [42, 43, 63, 123])
def BranchAt := PartAt 32 (fun r => r = [] ∨ r.head? = some 124 ∨ r.head? = some 41)
def PatternAt := PartAt 18 (fun r => r = [] ∨ r.head? = some 41)

theorem went_end {p g : Nat} {w V : World} {s : ByteArray} {k d : Nat} {t : Tree} {cs : Array Value} (hat : At (V.setRow g cs) (Up w.heap.size) t cs) (R : Rdr V p s k d) (B : But p w V) (hg : w.heap.size ≤ g) (hp : p < w.heap.size) :
    Went p s k d t w (.returned (.agg cs)) (V.setRow g cs) :=
  ⟨cs, rfl, hat, R.setRow (by omega) _, B.setRow hg _⟩

/-- The bytes that are no atoms by themselves. -/
def plainB (c : UInt8) : Bool := !([40, 91, 92, 42, 43, 63, 123, 46, 94, 36] : List UInt8).contains c
theorem plainB_ne : ∀ c : Fin 256, plainB c.val.toUInt8 = true → ((c.val : Int) == 40) = false ∧ ((c.val : Int) == 91) = false ∧ ((c.val : Int) == 92) = false ∧ ((c.val : Int) == 42) = false ∧ ((c.val : Int) == 43) = false ∧ ((c.val : Int) == 63) = false ∧ ((c.val : Int) == 123) = false ∧ ((c.val : Int) == 46) = false ∧ ((c.val : Int) == 94) = false ∧ ((c.val : Int) == 36) = false := by decide +kernel

set_option maxRecDepth 100000 in
theorem atom_byte (c : UInt8) (hp : plainB c = true) : AtomAt [c] (oneT c.toNat) 0 := by
  intro s k d p w rest hdrop _ hs _ hd hr
  refine ⟨fun _ => ?_, fun h => by omega⟩
  obtain ⟨hk, ek⟩ := drop_get hdrop
  have HN := Lib.hid (plainB_ne ⟨c.toNat, UInt8.toNat_lt c⟩ (by simpa using hp))
  rw [← ek] at HN ⊢
  have HA := Lib.hid (fun w => ofByte_spec s[k].toNat (UInt8.toNat_lt _) w)
  have HI := info_re
  clear hdrop hp ek
  go_enter Tryz.func61, Tryz.ntmps61
  go_upto_region 1 with (fail)
  obtain ⟨W, hW, hX, hB, _⟩ := re_box w zeroR
  change Code.wp _ _ _ _ (w.alloc (Obj.cells zeroR 38))
  rw [← hW]
  clear hW
  have R := Lib.hid (hr.after hB.out)
  have c0 := R.out.c0; have c1 := R.out.c1; have z1 := R.out.z 1
  go_upto_region 4 with (fail)
  obtain ⟨V, hV, R1, X1, B1⟩ : ∃ V, V = W.setCell ⟨p, 1, none⟩ (.int .i64 ((k : Int) + 1)) ∧ Hid (Rdr V p s (k + 1) d) ∧ Hid (Box V w.heap.size zeroR) ∧ Hid (But p w V) :=
    ⟨_, rfl, Lib.hid (R.out.put1 (k + 1)), Lib.hid (hX.out.but (but_put _ _ _ _) (by have := hr.lt; omega)), Lib.hid ((But.of hB.out).put _ _)⟩
  rw [← hV]
  clear hV c0 c1 z1
  obtain ⟨n0, n1, n2, n3, n4, n5, n6, n7, n8, n9⟩ := HN.out
  go_wp2_with fail
  refine (HA.out _).mono ?_
  rintro e w1 ⟨rfl, b1⟩
  have X2 := Lib.hid (X1.out.after b1)
  have R2 := Lib.hid (R1.out.after b1)
  have B2 := Lib.hid (B1.out.then b1)
  clear b1
  go_wp2_with (refine wpList_store_row rfl 38 (.tmp 2) (.tmp 57) rfl w.heap.size (reC 1 (oneF s[k].toNat) 0 0 (.slice none 0 0)) rfl rfl 38 zeroR X2.out.row HI rfl (re_one _ _ _ _ _ _ _) ?_)
  refine bodyPost_ret (v := .agg (reC 1 (oneF s[k].toNat) 0 0 (.slice none 0 0))) (results_cell_row (by rfl) _ _ w.heap.size 38 _ (0, 0) _ (by rfl) (X2.out.setRow _).row Tryz.underlying38 (by rfl) HI) rfl ?_
  exact went_end (.leaf _ _ _ _ _ _) R2.out B2.out (Nat.le_refl _) hr.lt
end Go.Proofs.YtimipfdknfdbdaaGreat.E5

/- ere.isOf, ere.areTimes: walks. -/
namespace Go.Proofs.YtimipfdknfdbdaaGreat
open Go.RowKit

/-- A row of numbers. -/
def intC (ks : List Int) : Array Value := (ks.map fun k => Value.int .i64 k).toArray
/-- Numbers in a slice: none, or those of a block. -/
def IntsAt (w : World) (v : Value) (ks : List Int) : Prop :=
  (ks = [] ∧ v = .slice none 0 0) ∨ (∃ b c, v = .slice (some ⟨b, 0, none⟩) ks.length c ∧ ks.length ≤ 100 ∧ w.heap[b]? = some (.cells (intC ks) 3 (0, 0)))
theorem IntsAt.keep {w w' : World} {v : Value} {ks : List Int} (h : IntsAt w v ks) (e : ∀ (k : Nat) (c : Array Value), w.heap[k]? = some (.cells c 3 (0, 0)) → w'.heap[k]? = w.heap[k]?) : IntsAt w' v ks := by
  rcases h with h | ⟨b, c, rfl, hl, hc⟩
  · exact Or.inl h
  · exact Or.inr ⟨b, c, rfl, hl, (e b _ hc).trans hc⟩
theorem IntsAt.after {w w' : World} {v : Value} {ks : List Int} (h : IntsAt w v ks) (hb : Below w.heap.size w w') : IntsAt w' v ks := h.keep fun k _ hk => hb.block k (Array.getElem?_eq_some_iff.1 hk).1
theorem ints_none (w : World) : IntsAt w (.slice none 0 0) [] := Or.inl ⟨rfl, rfl⟩

/-- Whether a number is one of them. -/
def among (ks : List Int) (k : Int) : Bool := ks.contains k
theorem contains_spec (v : Value) (ks : List Int) (x : Int) (w : World) (h : IntsAt w v ks) :
    Calls Tryz.prog 64 #[v, .int .i64 x] w fun e w' => e = .returned (.bool (among ks x)) ∧ w' = w := by
  rcases h with ⟨rfl, rfl⟩ | ⟨b, c, rfl, hl, hc⟩
  · exact Tryz.slices_Contains_int_empty _ _ _ _
  · have h := Tryz.slices_Contains_int b 0 ks.length c ks x w (Nat.le_refl _) (by omega) (fun j hj => by
      rw [Nat.zero_add, cell_of_row _ _ j _ _ _ hc]
      simp [intC, hj, List.getD])
    rw [List.take_length] at h
    exact h

set_option maxRecDepth 100000 in
theorem isOf_spec (k : Int) (f : Nat → Nat) (lo hi : Int) (sl v : Value) (ks : List Int) (w : World) (h : IntsAt w v ks) :
    Calls Tryz.prog 51 #[.agg (reC k f lo hi sl), v] w fun e w' => e = .returned (.bool (among ks k)) ∧ Below w.heap.size w w' := by
  go_enter Tryz.func51, Tryz.ntmps51
  go_upto_region 1 with (fail)
  obtain ⟨W, hW, hX, hB, _⟩ := re_box w (reC k f lo hi sl)
  rw [← hW]
  clear hW
  have c0 := (eight_re hX.out.eight).1
  have H := Lib.hid (contains_spec v ks k W (h.after hB.out))
  clear h
  go_wp2_with fail
  refine H.out.mono ?_
  rintro e w1 ⟨rfl, rfl⟩
  go_wp2_with fail
  go_ret
  exact ⟨rfl, hB.out⟩

theorem areTimes_spec (lo hi : Int) (h0 : 0 ≤ lo) (h1 : lo ≤ 50) (h : hi = -1 ∨ (lo ≤ hi ∧ hi ≤ 50)) (w : World) :
    Calls Tryz.prog 66 #[.int .i64 lo, .int .i64 hi] w fun e w' => e = .returned (.bool true) ∧ w' = w := by
  rcases h with rfl | ⟨h2, h3⟩
  · go_enter Tryz.func66, Tryz.ntmps66
    go_wp2_with fail
    go_ret
    exact ⟨rfl, rfl⟩
  · have hn : (hi == -1) = false := by simp; omega
    go_enter Tryz.func66, Tryz.ntmps66
    go_wp2_with fail
    go_ret
    exact ⟨rfl, rfl⟩
end Go.Proofs.YtimipfdknfdbdaaGreat

/- ere.counts, ere.reader.times: walks. -/
namespace Go.Proofs.YtimipfdknfdbdaaGreat.E5
open Go.Proofs.YtimipfdknfdbdaaGreat Go.Proofs
open Go.RowKit

theorem digs_not (n : Nat) (h : n < 100) (c : UInt8) (hc : c = 44 ∨ c = 125) : c ∉ digs n := by
  have key : ∀ m : Fin 100, (44 : UInt8) ∉ digs m.val ∧ (125 : UInt8) ∉ digs m.val := by decide +kernel
  rcases hc with rfl | rfl
  · exact (key ⟨n, h⟩).1
  · exact (key ⟨n, h⟩).2
theorem digs_len (n : Nat) : 1 ≤ (digs n).length ∧ (digs n).length ≤ 2 := by unfold digs; split <;> simp

set_option maxRecDepth 100000 in
theorem counts_same (s : ByteArray) (m : Nat) (hm : m < 100) (hs : s.data.toList = digs m) (w : World) :
    Calls Tryz.prog 78 #[.string s] w fun e w' => e = .returned (.tuple #[.int .i64 m, .int .i64 m, .bool true]) ∧ ∃ n, w' = w.drewN n := by
  have HC := Lib.hid (fun w => cut_none s 44 (by rw [hs]; exact digs_not m hm 44 (Or.inl rfl)) w)
  have HN := Lib.hid (fun w => number_spec s m hm hs w)
  clear hs
  go_enter Tryz.func78, Tryz.ntmps78
  go_wp2_with fail
  refine (HC.out _).mono ?_
  rintro e w1 ⟨rfl, q, rfl⟩
  go_wp2_with fail
  refine (HN.out _).mono ?_
  rintro e w1 ⟨rfl, rfl⟩
  go_wp2_with fail
  go_ret3
  exact ⟨rfl, q, rfl⟩

set_option maxRecDepth 100000 in
theorem counts_open (s : ByteArray) (m : Nat) (hm : m < 100) (hs : s.data.toList = digs m ++ [44]) (w : World) :
    Calls Tryz.prog 78 #[.string s] w fun e w' => e = .returned (.tuple #[.int .i64 m, .int .i64 (-1), .bool true]) ∧ ∃ n, w' = w.drewN n := by
  have hl := digs_len m
  have hz : s.size ≤ 400 := by
    have : s.data.toList.length = s.size := by simp
    rw [← this, hs, List.length_append]
    simp
    omega
  have HC := Lib.hid (fun w => cut_found s ⟨(digs m).toArray⟩ ⟨#[]⟩ 44 (by rw [hs]) (digs_not m hm 44 (Or.inl rfl)) hz w)
  have HN := Lib.hid (fun w => number_spec ⟨(digs m).toArray⟩ m hm rfl w)
  clear hs hl hz
  go_enter Tryz.func78, Tryz.ntmps78
  go_wp2_with fail
  refine (HC.out _).mono ?_
  rintro e w1 ⟨rfl, q, rfl⟩
  go_wp2_with fail
  refine (HN.out _).mono ?_
  rintro e w1 ⟨rfl, rfl⟩
  go_wp2_with fail
  go_ret3
  exact ⟨rfl, q, rfl⟩

set_option maxRecDepth 100000 in
theorem counts_two (s : ByteArray) (m n : Nat) (hm : m < 100) (hn : n < 100) (hs : s.data.toList = digs m ++ 44 :: digs n) (w : World) :
    Calls Tryz.prog 78 #[.string s] w fun e w' => e = .returned (.tuple #[.int .i64 m, .int .i64 n, .bool true]) ∧ ∃ n, w' = w.drewN n := by
  have hl := digs_len m
  have hl2 := digs_len n
  have hz : s.size ≤ 400 := by
    have : s.data.toList.length = s.size := by simp
    rw [← this, hs, List.length_append]
    simp
    omega
  obtain ⟨A, hA⟩ : ∃ A : ByteArray, A.data.toList = digs m := ⟨⟨(digs m).toArray⟩, rfl⟩
  obtain ⟨B, hB⟩ : ∃ B : ByteArray, B.data.toList = digs n := ⟨⟨(digs n).toArray⟩, rfl⟩
  have HC := Lib.hid (fun w => cut_found s A B 44 (by rw [hs, hA, hB]) (by rw [hA]; exact digs_not m hm 44 (Or.inl rfl)) hz w)
  have HN := Lib.hid (fun w => number_spec A m hm hA w)
  have HM := Lib.hid (fun w => number_spec B n hn hB w)
  have h1 : B.toList.isEmpty = false := by
    rw [show B.toList = B.data.toList from by simp [ByteArray.toList_eq], hB]
    unfold digs
    split <;> rfl
  clear hs hl hz hA hB hl2
  go_enter Tryz.func78, Tryz.ntmps78
  go_wp2_with fail
  refine (HC.out _).mono ?_
  rintro e w1 ⟨rfl, q, rfl⟩
  go_wp2_with fail
  refine (HN.out _).mono ?_
  rintro e w1 ⟨rfl, rfl⟩
  go_wp2_with fail
  refine (HM.out _).mono ?_
  rintro e w1 ⟨rfl, rfl⟩
  go_wp2_with fail
  go_ret3
  exact ⟨rfl, q, rfl⟩

/-- How a repetition is written. -/
def timesL (lo hi : Int) : List UInt8 :=
  if lo = 0 ∧ hi = -1 then [42] else if lo = 1 ∧ hi = -1 then [43] else if lo = 0 ∧ hi = 1 then [63]
  else if hi = -1 then 123 :: (digs lo.toNat ++ [44]) ++ [125] else if lo = hi then 123 :: digs lo.toNat ++ [125] else 123 :: (digs lo.toNat ++ 44 :: digs hi.toNat) ++ [125]
def TimesAt (l : List UInt8) (lo hi : Int) : Prop :=
  ∀ (s : ByteArray) (k d p : Nat) (w : World) (rest : List UInt8), s.data.toList.drop k = l ++ rest → s.size ≤ 400 → Rdr w p s k d →
    Calls Tryz.prog 62 #[.pointer (some ⟨p, 0, none⟩)] w fun e w' => e = .returned (.tuple #[.int .i64 lo, .int .i64 hi]) ∧ Rdr w' p s (k + l.length) d ∧ But p w w'

set_option maxRecDepth 100000 in
theorem times_star : TimesAt [42] 0 (-1) := by
  intro s k d p w rest hdrop hs hr
  obtain ⟨hk, ek⟩ := drop_get hdrop
  have hb : s[k].toNat = 42 := by rw [ek]; rfl
  clear hdrop ek
  have R := Lib.hid hr
  have c0 := R.out.c0; have c1 := R.out.c1; have z1 := R.out.z 1
  go_enter Tryz.func62, Tryz.ntmps62
  go_upto_region 3 with (fail)
  obtain ⟨V, hV, R1, B1⟩ : ∃ V, V = w.setCell ⟨p, 1, none⟩ (.int .i64 ((k : Int) + 1)) ∧ Hid (Rdr V p s (k + 1) d) ∧ Hid (But p w V) :=
    ⟨_, rfl, Lib.hid (R.out.put1 (k + 1)), Lib.hid (but_put _ _ _ _)⟩
  rw [← hV]
  clear hV c0 c1 z1
  have c0 := R1.out.c0
  go_wp2_with fail
  go_ret2
  exact ⟨rfl, R1.out, B1.out⟩

set_option maxRecDepth 100000 in
theorem times_plus : TimesAt [43] 1 (-1) := by
  intro s k d p w rest hdrop hs hr
  obtain ⟨hk, ek⟩ := drop_get hdrop
  have hb : s[k].toNat = 43 := by rw [ek]; rfl
  clear hdrop ek
  have R := Lib.hid hr
  have c0 := R.out.c0; have c1 := R.out.c1; have z1 := R.out.z 1
  go_enter Tryz.func62, Tryz.ntmps62
  go_upto_region 3 with (fail)
  obtain ⟨V, hV, R1, B1⟩ : ∃ V, V = w.setCell ⟨p, 1, none⟩ (.int .i64 ((k : Int) + 1)) ∧ Hid (Rdr V p s (k + 1) d) ∧ Hid (But p w V) :=
    ⟨_, rfl, Lib.hid (R.out.put1 (k + 1)), Lib.hid (but_put _ _ _ _)⟩
  rw [← hV]
  clear hV c0 c1 z1
  have c0 := R1.out.c0
  go_wp2_with fail
  go_ret2
  exact ⟨rfl, R1.out, B1.out⟩

set_option maxRecDepth 100000 in
theorem times_quest : TimesAt [63] 0 1 := by
  intro s k d p w rest hdrop hs hr
  obtain ⟨hk, ek⟩ := drop_get hdrop
  have hb : s[k].toNat = 63 := by rw [ek]; rfl
  clear hdrop ek
  have R := Lib.hid hr
  have c0 := R.out.c0; have c1 := R.out.c1; have z1 := R.out.z 1
  go_enter Tryz.func62, Tryz.ntmps62
  go_upto_region 3 with (fail)
  obtain ⟨V, hV, R1, B1⟩ : ∃ V, V = w.setCell ⟨p, 1, none⟩ (.int .i64 ((k : Int) + 1)) ∧ Hid (Rdr V p s (k + 1) d) ∧ Hid (But p w V) :=
    ⟨_, rfl, Lib.hid (R.out.put1 (k + 1)), Lib.hid (but_put _ _ _ _)⟩
  rw [← hV]
  clear hV c0 c1 z1
  have c0 := R1.out.c0
  go_wp2_with fail
  go_ret2
  exact ⟨rfl, R1.out, B1.out⟩

set_option maxRecDepth 100000 in
theorem times_form (I : ByteArray) (lo hi : Int) (h0 : 0 ≤ lo) (h1 : lo ≤ 50) (h2 : hi = -1 ∨ (lo ≤ hi ∧ hi ≤ 50)) (h125 : (125 : UInt8) ∉ I.data.toList)
    (hI : ∀ w, Calls Tryz.prog 78 #[.string I] w fun e w' => e = .returned (.tuple #[.int .i64 lo, .int .i64 hi, .bool true]) ∧ ∃ n, w' = w.drewN n) : TimesAt (123 :: I.data.toList ++ [125]) lo hi := by
  intro s k d p w rest hdrop hs hr
  obtain ⟨hk, ek⟩ := drop_get hdrop
  have hb : s[k].toNat = 123 := by rw [ek]; rfl
  have hdrop1 : s.data.toList.drop (k + 1) = I.data.toList ++ 125 :: rest := by
    have : s.data.toList.drop (k + 1) = (s.data.toList.drop k).drop 1 := by rw [List.drop_drop]
    rw [this, hdrop]; simp
  have e1 : (s.extract (k + 1) s.size).data.toList = I.data.toList ++ 125 :: rest := by
    simp only [ByteArray.data_extract, Array.toList_extract, List.extract_eq_take_drop, hdrop1]
    rw [← hdrop1, List.take_of_length_le (by simp)]
  have hz : (s.extract (k + 1) s.size).size ≤ 400 := by rw [ByteArray.size_extract]; omega
  have HC := Lib.hid (fun w => cut_found (s.extract (k + 1) s.size) I ⟨rest.toArray⟩ 125 e1 h125 hz w)
  have HI := Lib.hid hI
  have HT := Lib.hid (fun w => areTimes_spec lo hi h0 h1 h2 w)
  have hIs : I.data.toList.length = I.size := by simp
  have hlen : k + 1 + I.size + 1 ≤ s.size := by
    have h1 := congrArg List.length hdrop1
    rw [List.length_drop, List.length_append, List.length_cons, hIs] at h1
    have h2 : s.data.toList.length = s.size := by simp
    omega
  have hl : k + (123 :: I.data.toList ++ [125]).length = k + 1 + (I.size + 1) := by simp; omega
  rw [hl]
  clear hdrop ek hdrop1 e1 hz hI h0 h1 h2 h125 hIs hl
  have R := Lib.hid hr
  have c0 := R.out.c0; have c1 := R.out.c1; have z1 := R.out.z 1
  go_enter Tryz.func62, Tryz.ntmps62
  go_upto_region 3 with (fail)
  obtain ⟨V, hV, R1, B1⟩ : ∃ V, V = w.setCell ⟨p, 1, none⟩ (.int .i64 ((k : Int) + 1)) ∧ Hid (Rdr V p s (k + 1) d) ∧ Hid (But p w V) :=
    ⟨_, rfl, Lib.hid (R.out.put1 (k + 1)), Lib.hid (but_put _ _ _ _)⟩
  rw [← hV]
  clear hV c0 c1 z1
  have c0 := R1.out.c0; have c1 := R1.out.c1
  have s1 : (0 : Int) ≤ (k : Int) + 1 := by omega
  have s2 : ((k : Int) + 1).toNat = k + 1 := by omega
  have s3 : (k : Int) + 1 ≤ s.size := by omega
  go_wp2_with fail
  go_quiet ((go_at_call 77; exact Calls.quiet_of (HC.out _)))
  clear s1 s2 s3 c0 c1
  obtain ⟨D, hD, bD⟩ : ∃ D, D = V.drewN _ ∧ Below V.heap.size V D := ⟨_, rfl, drewN_below V _⟩
  rw [← hD]
  clear hD
  have R2 := Lib.hid (R1.out.after bD)
  have B2 := Lib.hid (B1.out.then bD)
  clear bD
  go_wp2_with fail
  refine (HI.out _).mono ?_
  rintro e w2 ⟨rfl, q2, hq2⟩
  have bE : Below D.heap.size D w2 := by rw [hq2]; exact drewN_below D q2
  clear hq2
  have R3 := Lib.hid (R2.out.after bE)
  have B3 := Lib.hid (B2.out.then bE)
  clear bE
  go_wp2_with fail
  refine (HT.out _).mono ?_
  rintro e w3 ⟨rfl, rfl⟩
  have c1 := R3.out.c1; have z1 := R3.out.z 1
  go_wp2_with fail
  go_ret2
  exact ⟨rfl, R3.out.put1 (k + 1 + (I.size + 1)), B3.out.put _ _⟩

def OkTimes (x : Int × Int) : Prop := 0 ≤ x.1 ∧ x.1 ≤ 50 ∧ (x.2 = -1 ∨ (x.1 ≤ x.2 ∧ x.2 ≤ 50))
theorem digs_not2 (n : Nat) (h : n < 100) : (125 : UInt8) ∉ digs n := digs_not n h 125 (Or.inr rfl)
theorem times_any (x : Int × Int) (h : OkTimes x) : TimesAt (timesL x.1 x.2) x.1 x.2 := by
  obtain ⟨lo, hi⟩ := x
  obtain ⟨h0, h1, h2⟩ := h
  simp only at h0 h1 h2 ⊢
  obtain ⟨m, rfl⟩ : ∃ m : Nat, lo = m := ⟨lo.toNat, by omega⟩
  unfold timesL
  by_cases c1 : ((m : Int) = 0 ∧ hi = -1)
  · rw [if_pos c1, c1.1, c1.2]; exact times_star
  rw [if_neg c1]
  by_cases c2 : ((m : Int) = 1 ∧ hi = -1)
  · rw [if_pos c2, c2.1, c2.2]; exact times_plus
  rw [if_neg c2]
  by_cases c3 : ((m : Int) = 0 ∧ hi = 1)
  · rw [if_pos c3, c3.1, c3.2]; exact times_quest
  rw [if_neg c3]
  have hm : m < 100 := by omega
  by_cases c4 : hi = -1
  · rw [if_pos c4, c4]
    refine times_form ⟨(digs m ++ [44]).toArray⟩ m (-1) (by omega) h1 (Or.inl rfl) ?_ (fun w => counts_open _ m hm rfl w)
    simp [digs_not2 m hm]
  rw [if_neg c4]
  obtain ⟨n, rfl⟩ : ∃ n : Nat, hi = n := ⟨hi.toNat, by omega⟩
  have hn : n < 100 := by omega
  by_cases c5 : (m : Int) = n
  · rw [if_pos c5, ← c5]
    refine times_form ⟨(digs m).toArray⟩ m m (by omega) h1 (Or.inr (by omega)) ?_ (fun w => counts_same _ m hm rfl w)
    simp [digs_not2 m hm]
  · rw [if_neg c5]
    refine times_form ⟨(digs m ++ 44 :: digs n).toArray⟩ m n (by omega) h1 (Or.inr (by omega)) ?_ (fun w => counts_two _ m n hm hn rfl w)
    simp [digs_not2 m hm, digs_not2 n hn]
theorem timesL_head (lo hi : Int) : ∃ c r, timesL lo hi = c :: r ∧ c ∈ ([42, 43, 63, 123] : List UInt8) := by
  unfold timesL
  split
  · exact ⟨_, _, rfl, by decide⟩
  split
  · exact ⟨_, _, rfl, by decide⟩
  split
  · exact ⟨_, _, rfl, by decide⟩
  split
  · exact ⟨_, _, rfl, by decide⟩
  split
  · exact ⟨_, _, rfl, by decide⟩
  · exact ⟨_, _, rfl, by decide⟩

def repT (lo hi : Int) (t : Tree) : Tree := .mk 6 zero4 lo hi [t]
def repsT (t : Tree) : List (Int × Int) → Tree
  | [] => t
  | x :: r => repsT (repT x.1 x.2 t) r
def repsL : List (Int × Int) → List UInt8
  | [] => []
  | x :: r => timesL x.1 x.2 ++ repsL r
end Go.Proofs.YtimipfdknfdbdaaGreat.E5
