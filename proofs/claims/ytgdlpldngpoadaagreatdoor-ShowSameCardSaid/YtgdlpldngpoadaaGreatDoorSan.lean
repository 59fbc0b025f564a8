/- Merged by program: LexRun, LexR, LexQ. -/
import Derived.Lib.Strings
import Derived.Laws.Externs
import Derived.Lib.FrozenHead2
import Derived.ChangeAlike
import Derived.Test.YtgdlpldngpoadaaGreatDoorSam
import Derived.Test.YtgdlpldngpoadaaGreatDoorSad
/- lex.run with each function that it is given: walks (gen_run.py). -/
namespace Go.Proofs.YtgdlpldngpoadaaGreatDoor
open Go.RowKit

theorem drop_at {l : List UInt8} {k : Nat} (h : k < l.length) : l.drop k = l[k] :: l.drop (k + 1) := List.drop_eq_getElem_cons h
theorem runN_step (is : UInt8 → Bool) (s : ByteArray) (k : Nat) (hk : k < s.size) : runN is (s.data.toList.drop k) = if is s[k] then runN is (s.data.toList.drop (k + 1)) + 1 else 0 := by
  rw [drop_at (by simpa using hk)]
  rfl

set_option maxRecDepth 100000 in
theorem run_nam (s : ByteArray) (hs : s.size ≤ 1152921504606846976) (w : World) :
    Calls Tryz.prog 154 #[.string s, .func (.func 177) #[] #[]] w fun e w' => e = .returned (.int .i64 (runN namB s.data.toList)) ∧ w' = w := by
  have HC := Lib.hid (fun c w => ofName_spec c w)
  go_enter Tryz.func154, Tryz.ntmps154
  go_wp2_with fail
  go_loop [8] (fun i => ∃ k : Nat, k ≤ s.size ∧ i = .int .i64 k ∧ Hid (runN namB s.data.toList = k + runN namB (s.data.toList.drop k))) (fun i => s.size - (intOf i).toNat)
  case atStart => exact ⟨0, Nat.zero_le _, rfl, Lib.hid (by simp)⟩
  case round =>
    obtain ⟨k, hk, rfl, HR⟩ := hrel
    by_cases hlt : k < s.size
    · have hst := runN_step namB s k hlt
      cases hb : namB s[k]
      case true =>
        rw [hb, if_pos rfl] at hst
        have HB := Lib.hid hb; clear hb
        have HS := Lib.hid hst; clear hst
        go_wp2_with fail
        refine (HC.out _ _).mono ?_
        rintro e w1 ⟨rfl, rfl⟩
        rw [HB.out]
        go_wp2_with fail
        go_round
        case rel => exact ⟨k + 1, by omega, by go_num, Lib.hid (by rw [HR.out, HS.out]; omega)⟩
        case measure => simp [intOf]; omega
      case false =>
        rw [hb] at hst
        have HB := Lib.hid hb; clear hb
        have HS := Lib.hid hst; clear hst
        go_wp2_with fail
        refine (HC.out _ _).mono ?_
        rintro e w1 ⟨rfl, rfl⟩
        rw [HB.out]
        go_wp2_with fail
        go_ret
        exact ⟨ret_i64 (by rw [HR.out, HS.out]; simp), rfl⟩
    · have hke : k = s.size := by omega
      subst hke
      go_wp2_with fail
      go_ret
      exact ⟨ret_i64 (by rw [HR.out, List.drop_eq_nil_of_le (by simp)]; rfl), rfl⟩

set_option maxRecDepth 100000 in
theorem run_dig (s : ByteArray) (hs : s.size ≤ 1152921504606846976) (w : World) :
    Calls Tryz.prog 154 #[.string s, .func (.func 159) #[] #[]] w fun e w' => e = .returned (.int .i64 (runN digB s.data.toList)) ∧ w' = w := by
  have HC := Lib.hid (fun c w => digit_spec c w)
  go_enter Tryz.func154, Tryz.ntmps154
  go_wp2_with fail
  go_loop [8] (fun i => ∃ k : Nat, k ≤ s.size ∧ i = .int .i64 k ∧ Hid (runN digB s.data.toList = k + runN digB (s.data.toList.drop k))) (fun i => s.size - (intOf i).toNat)
  case atStart => exact ⟨0, Nat.zero_le _, rfl, Lib.hid (by simp)⟩
  case round =>
    obtain ⟨k, hk, rfl, HR⟩ := hrel
    by_cases hlt : k < s.size
    · have hst := runN_step digB s k hlt
      cases hb : digB s[k]
      case true =>
        rw [hb, if_pos rfl] at hst
        have HB := Lib.hid hb; clear hb
        have HS := Lib.hid hst; clear hst
        go_wp2_with fail
        refine (HC.out _ _).mono ?_
        rintro e w1 ⟨rfl, rfl⟩
        rw [HB.out]
        go_wp2_with fail
        go_round
        case rel => exact ⟨k + 1, by omega, by go_num, Lib.hid (by rw [HR.out, HS.out]; omega)⟩
        case measure => simp [intOf]; omega
      case false =>
        rw [hb] at hst
        have HB := Lib.hid hb; clear hb
        have HS := Lib.hid hst; clear hst
        go_wp2_with fail
        refine (HC.out _ _).mono ?_
        rintro e w1 ⟨rfl, rfl⟩
        rw [HB.out]
        go_wp2_with fail
        go_ret
        exact ⟨ret_i64 (by rw [HR.out, HS.out]; simp), rfl⟩
    · have hke : k = s.size := by omega
      subst hke
      go_wp2_with fail
      go_ret
      exact ⟨ret_i64 (by rw [HR.out, List.drop_eq_nil_of_le (by simp)]; rfl), rfl⟩

set_option maxRecDepth 100000 in
theorem run_feed (s : ByteArray) (hs : s.size ≤ 1152921504606846976) (w : World) :
    Calls Tryz.prog 154 #[.string s, .func (.func 155) #[] #[]] w fun e w' => e = .returned (.int .i64 (runN notFeedB s.data.toList)) ∧ w' = w := by
  have HC := Lib.hid (fun c w => notFeed_spec c w)
  go_enter Tryz.func154, Tryz.ntmps154
  go_wp2_with fail
  go_loop [8] (fun i => ∃ k : Nat, k ≤ s.size ∧ i = .int .i64 k ∧ Hid (runN notFeedB s.data.toList = k + runN notFeedB (s.data.toList.drop k))) (fun i => s.size - (intOf i).toNat)
  case atStart => exact ⟨0, Nat.zero_le _, rfl, Lib.hid (by simp)⟩
  case round =>
    obtain ⟨k, hk, rfl, HR⟩ := hrel
    by_cases hlt : k < s.size
    · have hst := runN_step notFeedB s k hlt
      cases hb : notFeedB s[k]
      case true =>
        rw [hb, if_pos rfl] at hst
        have HB := Lib.hid hb; clear hb
        have HS := Lib.hid hst; clear hst
        go_wp2_with fail
        refine (HC.out _ _).mono ?_
        rintro e w1 ⟨rfl, rfl⟩
        rw [HB.out]
        go_wp2_with fail
        go_round
        case rel => exact ⟨k + 1, by omega, by go_num, Lib.hid (by rw [HR.out, HS.out]; omega)⟩
        case measure => simp [intOf]; omega
      case false =>
        rw [hb] at hst
        have HB := Lib.hid hb; clear hb
        have HS := Lib.hid hst; clear hst
        go_wp2_with fail
        refine (HC.out _ _).mono ?_
        rintro e w1 ⟨rfl, rfl⟩
        rw [HB.out]
        go_wp2_with fail
        go_ret
        exact ⟨ret_i64 (by rw [HR.out, HS.out]; simp), rfl⟩
    · have hke : k = s.size := by omega
      subst hke
      go_wp2_with fail
      go_ret
      exact ⟨ret_i64 (by rw [HR.out, List.drop_eq_nil_of_le (by simp)]; rfl), rfl⟩
end Go.Proofs.YtgdlpldngpoadaaGreatDoor

/- The reader in memory; left, take: walks. -/
namespace Go.Proofs.YtgdlpldngpoadaaGreatDoor
open Go.RowKit

/-- All that was there stands, but one block. -/
structure But (p : Nat) (w w' : World) : Prop where
  os : w'.os = w.os
  tape : w'.tape = w.tape
  output : w'.output = w.output
  size : w.heap.size ≤ w'.heap.size
  block : ∀ k, k < w.heap.size → k ≠ p → w'.heap[k]? = w.heap[k]?
theorem But.refl (p : Nat) (w : World) : But p w w := ⟨rfl, rfl, rfl, Nat.le_refl _, fun _ _ _ => rfl⟩
theorem But.of {p : Nat} {w w' : World} (h : Below w.heap.size w w') : But p w w' := ⟨h.os, h.tape, h.output, h.size, fun k hk _ => h.block k hk⟩
theorem But.trans {p : Nat} {w w1 w2 : World} (h : But p w w1) (g : But p w1 w2) : But p w w2 :=
  ⟨g.os.trans h.os, g.tape.trans h.tape, g.output.trans h.output, Nat.le_trans h.size g.size, fun k hk hp => (g.block k (Nat.lt_of_lt_of_le hk h.size) hp).trans (h.block k hk hp)⟩
theorem But.then {p : Nat} {w w1 w2 : World} (h : But p w w1) (g : Below w1.heap.size w1 w2) : But p w w2 := h.trans (.of g)
theorem But.below {p B : Nat} {w w' : World} (h : But p w w') (hB : B ≤ p) (hs : B ≤ w.heap.size) : Below B w w' :=
  ⟨h.os, h.tape, h.output, h.size, fun k hk => h.block k (by omega) (by omega)⟩
theorem but_put (w : World) (p j : Nat) (v : Value) : But p w (w.setCell ⟨p, j, none⟩ v) :=
  ⟨rfl, rfl, rfl, by rw [World.size_setCell]; exact Nat.le_refl _, fun k _ hp => heap_setCell_other w ⟨p, j, none⟩ k v hp⟩
theorem But.put {p : Nat} {w w1 : World} (h : But p w w1) (j : Nat) (v : Value) : But p w (w1.setCell ⟨p, j, none⟩ v) := h.trans (but_put w1 p j v)
theorem drewN_below (w : World) (n : Nat) : Below w.heap.size w (w.drewN n) := Below.drewN' (Below.refl _ w) n
/-- .. of what was there when a block B was laid. -/
structure ButB (B p : Nat) (w w' : World) : Prop where
  os : w'.os = w.os
  tape : w'.tape = w.tape
  output : w'.output = w.output
  size : w.heap.size ≤ w'.heap.size
  block : ∀ k, k < B → k ≠ p → w'.heap[k]? = w.heap[k]?
theorem ButB.refl (B p : Nat) (w : World) : ButB B p w w := ⟨rfl, rfl, rfl, Nat.le_refl _, fun _ _ _ => rfl⟩
theorem ButB.trans {B p : Nat} {w w1 w2 : World} (h : ButB B p w w1) (g : ButB B p w1 w2) : ButB B p w w2 :=
  ⟨g.os.trans h.os, g.tape.trans h.tape, g.output.trans h.output, Nat.le_trans h.size g.size, fun k hk hp => (g.block k hk hp).trans (h.block k hk hp)⟩
theorem ButB.of {B p : Nat} {w w' : World} (h : Below B w w') : ButB B p w w' := ⟨h.os, h.tape, h.output, h.size, fun k hk _ => h.block k hk⟩
theorem But.toB {B p : Nat} {w w' : World} (h : But p w w') (hB : B ≤ w.heap.size) : ButB B p w w' := ⟨h.os, h.tape, h.output, h.size, fun k hk hp => h.block k (by omega) hp⟩
theorem ButB.toBut {p : Nat} {w w' : World} (h : ButB w.heap.size p w w') : But p w w' := ⟨h.os, h.tape, h.output, h.size, h.block⟩
theorem ButB.drewN {B p : Nat} {w w' : World} (h : ButB B p w w') (n : Nat) : ButB B p w (w'.drewN n) := h.trans (.of (Below.drewN' (Below.refl B w') n))

/-- The reader's block: its text, its place, the token that was read last. -/
structure Rd (w : World) (p : Nat) (s : ByteArray) (k : Nat) (L : Tok) : Prop where
  row : w.heap[p]? = some (.cells #[.string s, .int .i64 k, .int .i64 L.K, .string L.S, .int .i64 L.A] 124 (0, 0))
theorem Rd.lt {w : World} {p : Nat} {s : ByteArray} {k : Nat} {L : Tok} (h : Rd w p s k L) : p < w.heap.size := (Array.getElem?_eq_some_iff.1 h.row).1
theorem Rd.c0 {w : World} {p : Nat} {s : ByteArray} {k : Nat} {L : Tok} (h : Rd w p s k L) : w.cell? ⟨p, 0, none⟩ = some (.string s) := cell_of_row _ _ 0 _ _ _ h.row
theorem Rd.c1 {w : World} {p : Nat} {s : ByteArray} {k : Nat} {L : Tok} (h : Rd w p s k L) : w.cell? ⟨p, 1, none⟩ = some (.int .i64 k) := cell_of_row _ _ 1 _ _ _ h.row
theorem Rd.c2 {w : World} {p : Nat} {s : ByteArray} {k : Nat} {L : Tok} (h : Rd w p s k L) : w.cell? ⟨p, 2, none⟩ = some (.int .i64 L.K) := cell_of_row _ _ 2 _ _ _ h.row
theorem Rd.c3 {w : World} {p : Nat} {s : ByteArray} {k : Nat} {L : Tok} (h : Rd w p s k L) : w.cell? ⟨p, 3, none⟩ = some (.string L.S) := cell_of_row _ _ 3 _ _ _ h.row
theorem Rd.c4 {w : World} {p : Nat} {s : ByteArray} {k : Nat} {L : Tok} (h : Rd w p s k L) : w.cell? ⟨p, 4, none⟩ = some (.int .i64 L.A) := cell_of_row _ _ 4 _ _ _ h.row
theorem Rd.z {w : World} {p : Nat} {s : ByteArray} {k : Nat} {L : Tok} (h : Rd w p s k L) (j : Nat) : w.frozen? ⟨p, j, none⟩ = false := frozen_of_row _ _ j _ _ h.row
theorem Rd.after {w w' : World} {p : Nat} {s : ByteArray} {k : Nat} {L : Tok} (h : Rd w p s k L) (hb : Below w.heap.size w w') : Rd w' p s k L := ⟨by rw [hb.block p h.lt]; exact h.row⟩
theorem Rd.drewN {w : World} {p : Nat} {s : ByteArray} {k : Nat} {L : Tok} (h : Rd w p s k L) (n : Nat) : Rd (w.drewN n) p s k L := h.after (drewN_below w n)
theorem Rd.keep {w w' : World} {p : Nat} {s : ByteArray} {k : Nat} {L : Tok} (h : Rd w p s k L) (e : w'.heap[p]? = w.heap[p]?) : Rd w' p s k L := ⟨by rw [e]; exact h.row⟩
theorem Rd.put1 {w : World} {p : Nat} {s : ByteArray} {k : Nat} {L : Tok} (h : Rd w p s k L) (j : Nat) : Rd (w.setCell ⟨p, 1, none⟩ (.int .i64 j)) p s j L :=
  ⟨by rw [heap_setCell_same _ _ 1 _ _ _ h.row]; rfl⟩

/-- A reading was given up. -/
def Fell (p : Nat) (a x : Int) (w : World) (e : Ending) (w' : World) : Prop :=
  e = .panicked [{ v := .iface 121 (.agg #[.int .i64 a, .int .i64 x]), recovered := false }] ∧ But p w w'

theorem extract_list (s : ByteArray) (i j : Nat) : (s.extract i j).data.toList = (s.data.toList.drop i).take (j - i) := by
  rw [Lib.extract_data]
theorem extract_end (s : ByteArray) (i : Nat) : (s.extract i s.size).data.toList = s.data.toList.drop i := by
  rw [extract_list]
  exact List.take_of_length_le (by simp)

def LeftAt (s : ByteArray) (k : Nat) (w : World) (e : Ending) (w' : World) : Prop := ∃ t : ByteArray, e = .returned (.string t) ∧ Hid (t.data.toList = s.data.toList.drop k) ∧ t.size = s.size - k ∧ ∃ n, w' = w.drewN n
set_option maxRecDepth 100000 in
theorem left_spec (p : Nat) (s : ByteArray) (k : Nat) (L : Tok) (w : World) (h : Rd w p s k L) (hk : k ≤ s.size) :
    Calls Tryz.prog 153 #[.pointer (some ⟨p, 0, none⟩)] w (LeftAt s k w) := by
  have c0 := h.c0
  have c1 := h.c1
  have hx := Lib.hid (extract_end s k)
  go_enter Tryz.func153, Tryz.ntmps153
  go_wp2_with fail
  go_quiet (fail)
  go_wp2_with fail
  go_ret
  exact ⟨_, rfl, hx, by rw [ByteArray.size_extract]; omega, _, rfl⟩

def TookAt (p : Nat) (s : ByteArray) (k n : Nat) (L : Tok) (w : World) (e : Ending) (w' : World) : Prop := ∃ t : ByteArray, e = .returned (.string t) ∧ Hid (t.data.toList = (s.data.toList.drop k).take n) ∧ t.size = n ∧ Rd w' p s (k + n) L ∧ But p w w'
set_option maxRecDepth 100000 in
theorem take_spec (p : Nat) (s : ByteArray) (k n : Nat) (L : Tok) (w : World) (h : Rd w p s k L) (hk : k + n ≤ s.size) (hs : s.size ≤ 8000) :
    Calls Tryz.prog 156 #[.pointer (some ⟨p, 0, none⟩), .int .i64 n] w (TookAt p s k n L w) := by
  have c0 := h.c0
  have c1 := h.c1
  have z1 := h.z 1
  have hx : Hid ((s.extract k (k + n)).data.toList = (s.data.toList.drop k).take n) := Lib.hid (by rw [extract_list]; congr 1; omega)
  have R := Lib.hid h; clear h
  go_enter Tryz.func156, Tryz.ntmps156
  go_wp2_with fail
  go_quiet (fail)
  rename_i nq _
  go_wp2_with fail
  go_ret
  exact ⟨_, rfl, hx, by rw [ByteArray.size_extract]; omega, by have := (R.out.drewN nq).put1 (k + n); exact this, (But.of (drewN_below w nq)).put 1 _⟩
end Go.Proofs.YtgdlpldngpoadaaGreatDoor

/- A lex.quoted's block; strings.Builder's copyCheck, WriteByte, WriteString, String within it: walks. -/
namespace Go.Proofs.YtgdlpldngpoadaaGreatDoor
open Go.RowKit

theorem info_builder : (Tryz.prog.info? 85).map (·.size) = some 2 := by kernel_rfl
theorem lies_quoted : liesAt Tryz.prog Tryz.prog.depth 164 (4 / Tryz.prog.cellsOf 164) 2 85 1 = true := by kernel_rfl
theorem info_byte : (Tryz.prog.info? 5).map (fun i => (i.zero, i.size, i.bytes)) = some (some (.int .u8 0), 1, 1) := by kernel_rfl

/-- A quoted's block: its reader, where it began, its builder, which holds bytes. -/
structure QdV (B g p : Nat) (b0 : Nat) (pv v : Value) (l : List UInt8) (w : World) : Prop where
  lo : B ≤ g
  le : B ≤ w.heap.size
  row : w.heap[g]? = some (.cells #[.pointer (some ⟨p, 0, none⟩), .int .i64 b0, pv, v] 164 (0, 0))
  own : w.ownsRowF B 5 1 v l.length (Lib.byteCells l)
  nil : l = [] → v = .slice none 0 0
def Qd (B g p : Nat) (b0 : Nat) (l : List UInt8) (w : World) : Prop := ∃ pv v, (pv = .pointer none ∨ pv = .pointer (some ⟨g, 2, none⟩)) ∧ QdV B g p b0 pv v l w
theorem QdV.lt {B g p b0 : Nat} {pv v : Value} {l : List UInt8} {w : World} (h : QdV B g p b0 pv v l w) : g < w.heap.size := (Array.getElem?_eq_some_iff.1 h.row).1
theorem QdV.ne {B g p b0 : Nat} {pv v : Value} {l : List UInt8} {w : World} (h : QdV B g p b0 pv v l w) : v.ownBlock ≠ some g := Lib.ownBlock_neF h.own h.row (by decide)
theorem QdV.c0 {B g p b0 : Nat} {pv v : Value} {l : List UInt8} {w : World} (h : QdV B g p b0 pv v l w) : w.cell? ⟨g, 0, none⟩ = some (.pointer (some ⟨p, 0, none⟩)) := cell_of_row _ _ 0 _ _ _ h.row
theorem QdV.c1 {B g p b0 : Nat} {pv v : Value} {l : List UInt8} {w : World} (h : QdV B g p b0 pv v l w) : w.cell? ⟨g, 1, none⟩ = some (.int .i64 b0) := cell_of_row _ _ 1 _ _ _ h.row
theorem QdV.c2 {B g p b0 : Nat} {pv v : Value} {l : List UInt8} {w : World} (h : QdV B g p b0 pv v l w) : w.cell? ⟨g, 2, none⟩ = some pv := cell_of_row _ _ 2 _ _ _ h.row
theorem QdV.c3 {B g p b0 : Nat} {pv v : Value} {l : List UInt8} {w : World} (h : QdV B g p b0 pv v l w) : w.cell? ⟨g, 3, none⟩ = some v := cell_of_row _ _ 3 _ _ _ h.row
theorem QdV.z {B g p b0 : Nat} {pv v : Value} {l : List UInt8} {w : World} (h : QdV B g p b0 pv v l w) (j : Nat) : w.frozen? ⟨g, j, none⟩ = false := frozen_of_row _ _ j _ _ h.row
theorem QdV.shape {B g p b0 : Nat} {pv v : Value} {l : List UInt8} {w : World} (h : QdV B g p b0 pv v l w) : w.shape? g = some (164, 4) := by simp [World.shape?, h.row]

theorem QdV.used {B g p b0 : Nat} {pv v : Value} {l : List UInt8} {w : World} (h : QdV B g p b0 pv v l w) (q : Value) : QdV B g p b0 q v l (w.setCell ⟨g, 2, none⟩ q) := by
  refine ⟨h.lo, by rw [World.size_setCell]; exact h.le, ?_, ?_, h.nil⟩
  · simp [World.setCell, Array.getElem?_modify, h.row]
  · refine h.own.kept (row := some g) ⟨rfl, rfl, rfl, by simp [World.setCell], fun k _ hk => Below.heap_setCell _ _ _ _ (fun e => hk (by simp [e]))⟩ ?_
    exact Or.inr h.ne
theorem QdV.put {B g p b0 : Nat} {pv v v' : Value} {l' : List UInt8} {w : World} (lo : B ≤ g) (le : B ≤ w.heap.size) (hb : w.heap[g]? = some (.cells #[.pointer (some ⟨p, 0, none⟩), .int .i64 b0, pv, v] 164 (0, 0))) (hown : w.ownsRowF B 5 1 v' l'.length (Lib.byteCells l')) (hn : l' ≠ []) :
    QdV B g p b0 pv v' l' (w.setCell ⟨g, 3, none⟩ v') := by
  have hne := Lib.ownBlock_neF hown hb (by decide)
  refine ⟨lo, by rw [World.size_setCell]; exact le, ?_, ?_, fun e => absurd e hn⟩
  · simp [World.setCell, Array.getElem?_modify, hb]
  · exact hown.kept (row := some g) ⟨rfl, rfl, rfl, by simp [World.setCell], fun k _ hk => Below.heap_setCell _ _ _ _ (fun e => hk (by simp [e]))⟩ (Or.inr hne)
/-- What keeps a quoted. -/
theorem QdV.keep {B g p b0 q : Nat} {pv v : Value} {l : List UInt8} {w w' : World} (h : QdV B g p b0 pv v l w) (hb : But q w w') (hq : q < B) : QdV B g p b0 pv v l w' := by
  refine ⟨h.lo, Nat.le_trans h.le hb.size, by rw [hb.block g h.lt (by have := h.lo; omega)]; exact h.row, ?_, h.nil⟩
  refine h.own.kept (row := some q) ⟨hb.os, hb.tape, hb.output, hb.size, fun k hk hk2 => hb.block k hk (fun e => hk2 (by rw [e]))⟩ ?_
  refine Or.inr fun e => ?_
  rcases h.own.2 with ⟨hv, _⟩ | ⟨g', cap, cur, fz, hv, hg', _⟩
  · rw [hv] at e; simp [Value.ownBlock] at e
  · rw [hv] at e; simp [Value.ownBlock] at e; omega
theorem Qd.keep {B g p b0 q : Nat} {l : List UInt8} {w w' : World} (h : Qd B g p b0 l w) (hb : But q w w') (hq : q < B) : Qd B g p b0 l w' := by
  obtain ⟨pv, v, hpv, h⟩ := h
  exact ⟨pv, v, hpv, h.keep hb hq⟩
theorem Qd.le {B g p b0 : Nat} {l : List UInt8} {w : World} (h : Qd B g p b0 l w) : B ≤ w.heap.size := by obtain ⟨_, _, _, h⟩ := h; exact h.le
theorem Qd.lo {B g p b0 : Nat} {l : List UInt8} {w : World} (h : Qd B g p b0 l w) : B ≤ g := by obtain ⟨_, _, _, h⟩ := h; exact h.lo

set_option maxHeartbeats 1000000 in
set_option maxRecDepth 100000 in
theorem qcopy_used (g : Nat) (w : World) (h0 : w.cell? ⟨g, 2, none⟩ = some (.pointer (some ⟨g, 2, none⟩))) :
    Calls Tryz.prog 98 #[.pointer (some ⟨g, 2, none⟩)] w fun e w' => e = .returned (.tuple #[]) ∧ w' = w := by
  obtain ⟨j, hj, _⟩ := Option.map_eq_some_iff.1 info_builder
  go_enter Tryz.func98, Tryz.ntmps98
  go_wp2
  rw [Lib.run_neq_ptr_same w _ Tryz.underlying83 hj]
  go_wp2
  go_end0
  exact ⟨rfl, rfl⟩

set_option maxHeartbeats 1000000 in
set_option maxRecDepth 100000 in
theorem qcopy_fresh (g : Nat) (w : World) (h0 : w.cell? ⟨g, 2, none⟩ = some (.pointer none)) (hsh : w.shape? g = some (164, 4)) (hfz : w.frozen? ⟨g, 2, none⟩ = false) :
    Calls Tryz.prog 98 #[.pointer (some ⟨g, 2, none⟩)] w fun e w' => e = .returned (.tuple #[]) ∧ w' = w.setCell ⟨g, 2, none⟩ (.pointer (some ⟨g, 2, none⟩)) := by
  obtain ⟨j, hj, hjs⟩ := Option.map_eq_some_iff.1 info_builder
  go_enter Tryz.func98, Tryz.ntmps98
  go_wp2
  rw [Lib.run_to_unsafe w ⟨g, 2, none⟩ Tryz.underlying83 Tryz.underlying132 hj (by rw [hjs]; decide) hsh (by show 2 < 4; decide)]
  simp only [Result.andThen]
  rw [Oper.upon_value]
  go_wp2
  rw [run_callFunc_extern Tryz.func122 (by kernel_rfl) (by kernel_rfl) (by kernel_rfl) (e := Extern.AbiNoEscape.same) (by kernel_rfl)]
  rw [Lib.run_noEscape]
  simp only [Result.andThen]
  rw [Oper.upon_value]
  go_wp2
  rw [Lib.run_from_unsafe w ⟨g, 2, none⟩ Tryz.underlying132 Tryz.underlying83 hj hsh lies_quoted]
  simp only [Result.andThen]
  rw [Oper.upon_value]
  go_wp2
  go_end0
  exact ⟨rfl, rfl⟩

theorem qcopy (B g p b0 : Nat) (l : List UInt8) (w : World) (h : Qd B g p b0 l w) :
    Calls Tryz.prog 98 #[.pointer (some ⟨g, 2, none⟩)] w fun e w' => e = .returned (.tuple #[]) ∧ (∃ v, QdV B g p b0 (.pointer (some ⟨g, 2, none⟩)) v l w') ∧ Below B w w' := by
  obtain ⟨pv, v, rfl | rfl, h⟩ := h
  · refine (qcopy_fresh g w h.c2 h.shape (h.z 2)).mono ?_
    rintro e w' ⟨rfl, rfl⟩
    exact ⟨rfl, ⟨v, h.used _⟩, (Below.refl B w).setCell (p := ⟨g, 2, none⟩) h.lo _⟩
  · refine (qcopy_used g w h.c2).mono ?_
    rintro e w' ⟨rfl, rfl⟩
    exact ⟨rfl, ⟨v, h⟩, Below.refl B _⟩

theorem byteCells_snoc (l : List UInt8) (c : UInt8) : Lib.byteCells (l ++ [c]) = Lib.byteCells l ++ [.int .u8 (c.toNat : Int)] := by simp [Lib.byteCells]
set_option maxHeartbeats 2000000 in
set_option maxRecDepth 100000 in
theorem qbyte (B g p b0 : Nat) (l : List UInt8) (c : UInt8) (w : World) (h : Qd B g p b0 l w) (hlen : l.length ≤ 100000) :
    Calls Tryz.prog 62 #[.pointer (some ⟨g, 2, none⟩), .int .u8 c.toNat] w fun e w' => e = .returned .nilIface ∧ Qd B g p b0 (l ++ [c]) w' ∧ Below B w w' := by
  obtain ⟨i0, hi, hz0, hz1, hz2⟩ := info_parts info_byte
  go_enter Tryz.func62, Tryz.ntmps62
  go_wp2_with (go_at_call 98; refine (qcopy B g p b0 l _ h).mono ?_)
  rintro e w1 ⟨rfl, ⟨v, h1⟩, hb1⟩
  have c0 := h1.c2
  have c1 := h1.c3
  have hBw := h1.le
  have hown := h1.own
  go_wp2_with (at_builtin; refine wpList_append_ownF _ rfl _ _ 82 rfl B 5 i0 (.int .u8 0) 1 1 Tryz.underlying82 hi hz0 hz1 hz2 rfl (by decide) _ _ _ rfl (hown.alloc _) ⟨w1.heap.size, 0, none⟩ 1 1 [.int .u8 c.toNat] rfl rfl ?c1 ?c2 ?c3 ?c4 ?c5 ?_)
  case c1 =>
    intro j u hj
    match j, hj with
    | 0, hj => simp at hj; subst hj; simp [Addr.add]
  case c2 => intro u hu; simp at hu; subst hu; rfl
  case c3 => unfold maxLen; omega
  case c4 => omega
  case c5 => simp; omega
  intro v' w2 hown' hgrow _
  have hlt := h1.lt
  have hb2 : w2.heap[g]? = some (.cells #[.pointer (some ⟨p, 0, none⟩), .int .i64 b0, .pointer (some ⟨g, 2, none⟩), v] 164 (0, 0)) := by
    rw [hgrow.block g (by simp; omega) (fun e => h1.ne e.symm), Lib.alloc_old w1 _ g hlt]
    exact h1.row
  have d0 : w2.cell? ⟨g, 2, none⟩ = some (.pointer (some ⟨g, 2, none⟩)) := cell_of_row _ _ 2 _ _ _ hb2
  have d1 : w2.cell? ⟨g, 3, none⟩ = some v := cell_of_row _ _ 3 _ _ _ hb2
  have f1 : w2.frozen? ⟨g, 3, none⟩ = false := frozen_of_row _ _ 3 _ _ hb2
  obtain ⟨g', cap, rfl⟩ : ∃ g' cap, v' = .slice (some ⟨g', 0, none⟩) (l.length + 1) cap := by
    rcases hown'.2 with ⟨_, h0⟩ | ⟨g', cap, cur, fz, hv, _⟩
    · omega
    · exact ⟨g', cap, hv⟩
  have hs2 := hgrow.size
  have HB := Lib.hid (((hb1.alloc (by omega) (.cells #[.int .u8 c.toNat] 5)).grown hgrow (by simp; omega) (fun k hk => (hown.lt k hk).1)).setCell (p := ⟨g, 3, none⟩) h1.lo (.slice (some ⟨g', 0, none⟩) (l.length + 1) cap))
  have HQ := Lib.hid (QdV.put (v' := .slice (some ⟨g', 0, none⟩) (l.length + 1) cap) (l' := l ++ [c]) h1.lo (by simp at hs2; omega) hb2 (by rw [byteCells_snoc, List.length_append]; exact hown') (by simp))
  go_wp2
  go_ret
  exact ⟨rfl, ⟨_, _, Or.inr rfl, HQ.out⟩, HB.out⟩

set_option maxHeartbeats 2000000 in
set_option maxRecDepth 100000 in
theorem qtext (B g p b0 : Nat) (l : List UInt8) (s : ByteArray) (w : World) (h : Qd B g p b0 l w) (hlen : l.length + s.size ≤ 100000) (hs : s.data.toList ≠ []) :
    Calls Tryz.prog 63 #[.pointer (some ⟨g, 2, none⟩), .string s] w fun e w' => e = .returned (.tuple #[.int .i64 s.size, .nilIface]) ∧ Qd B g p b0 (l ++ s.data.toList) w' ∧ Below B w w' := by
  obtain ⟨i0, hi, hz0, hz1, hz2⟩ := info_parts info_byte
  go_enter Tryz.func63, Tryz.ntmps63
  go_wp2_with (go_at_call 98; refine (qcopy B g p b0 l _ h).mono ?_)
  rintro e w1 ⟨rfl, ⟨v, h1⟩, hb1⟩
  have c0 := h1.c2
  have c1 := h1.c3
  have hBw := h1.le
  have hown := h1.own
  go_wp2_with (at_builtin; refine Lib.wpList_append_own_stringF _ rfl _ _ 82 9 rfl B 5 i0 Tryz.underlying82 Tryz.underlying9 hi hz0 hz1 hz2 _ _ _ rfl hown s rfl ?c1 ?c2 ?c3 ?_)
  case c1 => unfold maxLen; omega
  case c2 => omega
  case c3 => omega
  intro v' w2 hown' hgrow hnil
  have hlt := h1.lt
  have hb2 : w2.heap[g]? = some (.cells #[.pointer (some ⟨p, 0, none⟩), .int .i64 b0, .pointer (some ⟨g, 2, none⟩), v] 164 (0, 0)) := by
    rw [hgrow.block g hlt (fun e => h1.ne e.symm)]
    exact h1.row
  have d0 : w2.cell? ⟨g, 2, none⟩ = some (.pointer (some ⟨g, 2, none⟩)) := cell_of_row _ _ 2 _ _ _ hb2
  have d1 : w2.cell? ⟨g, 3, none⟩ = some v := cell_of_row _ _ 3 _ _ _ hb2
  have f1 : w2.frozen? ⟨g, 3, none⟩ = false := frozen_of_row _ _ 3 _ _ hb2
  obtain ⟨ad, n', cap, rfl⟩ : ∃ ad n' cap, v' = .slice ad n' cap := by
    rcases hown'.2 with ⟨hv, h0⟩ | ⟨g, cap, cur, fz, hv, _⟩
    · exact ⟨_, _, _, hv⟩
    · exact ⟨_, _, _, hv⟩
  have hs2 := hgrow.size
  have hl : Lib.byteCells (l ++ s.data.toList) = Lib.byteCells l ++ Lib.strCells s := by simp [Lib.byteCells, Lib.strCells]
  have hn : (l ++ s.data.toList).length = l.length + s.size := by simp
  have HB := Lib.hid ((hb1.grown hgrow (by omega) (fun k hk => (hown.lt k hk).1)).setCell (p := ⟨g, 3, none⟩) h1.lo (.slice ad n' cap))
  have HQ := Lib.hid (QdV.put (v' := .slice ad n' cap) (l' := l ++ s.data.toList) h1.lo (by omega) hb2 (by rw [hl, hn]; exact hown') (by simp; intro _ e; exact hs (by rw [e])))
  clear hl hn hnil
  go_wp2
  go_ret2
  exact ⟨rfl, ⟨_, _, Or.inr rfl, HQ.out⟩, HB.out⟩

theorem cells_byte : Tryz.prog.cellsOf 5 = 1 := by kernel_rfl
def SaidQ (B : Nat) (l : List UInt8) (w : World) (e : Ending) (w' : World) : Prop := ∃ t : ByteArray, e = .returned (.string t) ∧ Hid (t.data.toList = l) ∧ Below B w w'
set_option maxHeartbeats 1000000 in
set_option maxRecDepth 100000 in
theorem qstring (B g p b0 : Nat) (l : List UInt8) (w : World) (h : Qd B g p b0 l w) :
    Calls Tryz.prog 64 #[.pointer (some ⟨g, 2, none⟩)] w (SaidQ B l w) := by
  obtain ⟨pv, v, _, h⟩ := h
  have hrow := h.row
  have hown := h.own
  have hlo := h.lo
  by_cases h0 : l = []
  · have hv := h.nil h0
    subst hv
    subst h0
    have hUS := fun (W : World) (q : Option Addr) => Lib.run_unsafeString_none (P := Tryz.prog) W 113 3 9 q
    have c1 : w.drew.cell? ⟨g, 3, none⟩ = some (.slice none 0 0) := h.c3
    have hSD : (Builtin.unsafeSliceData_ #[82] 113 #[.slice none 0 0]).run Tryz.prog w.drew = .ok (.pointer none) w.drew := rfl
    clear h hrow hown
    go_enter Tryz.func64, Tryz.ntmps64
    go_wp2
    go_region
    all_goals (go_wp2; go_ret; exact ⟨_, rfl, Lib.hid rfl, Below.drew (Below.refl B w)⟩)
  · have hl0 : l.length ≠ 0 := by simpa using h0
    obtain ⟨g', cap, cur, fz, rfl, hbg, hg, hfz, hnc, hcm, hcs, htake⟩ : ∃ g' cap cur fz, v = .slice (some ⟨g', 0, none⟩) l.length cap ∧ B ≤ g' ∧ w.heap[g']? = some (.cells cur 5 fz) ∧ fz.2 ≤ l.length * 1 ∧ l.length ≤ cap ∧ cap ≤ maxLen ∧ cur.size = cap * 1 ∧ cur.toList.take (l.length * 1) = Lib.byteCells l := by
      rcases hown.2 with ⟨_, hz⟩ | ⟨g, cap, cur, fz, hv, r⟩
      · exact absurd hz hl0
      · exact ⟨g, cap, cur, fz, hv, r⟩
    have c1 : w.drew.cell? ⟨g, 3, none⟩ = some (.slice (some ⟨g', 0, none⟩) l.length cap) := h.c3
    have hSD : (Builtin.unsafeSliceData_ #[82] 113 #[.slice (some ⟨g', 0, none⟩) l.length cap]).run Tryz.prog w.drew = .ok (.pointer (some ⟨g', 0, none⟩)) w.drew :=
      Lib.run_unsafeSliceData_row _ _ _ _ _ _ (by omega)
    have hUS : (Builtin.unsafeString_ #[113, 3] 9 #[.pointer (some ⟨g', 0, none⟩), .int .i64 l.length]).run Tryz.prog w.drew = .ok (.string ⟨l.toArray⟩) (w.drew.freeze ⟨g', 0, none⟩ l.length) := by
      refine Lib.run_unsafeString_row w.drew 113 3 9 5 Tryz.underlying113 cells_byte g' cur.size (by have hg' : w.drew.heap[g']? = some (.cells cur 5 fz) := hg; simp [World.shape?, hg']) l h0 (by omega) (by unfold maxLen at hcm; omega) ?_
      intro j x hx
      exact hown.cells (g := g') rfl j (.int .u8 x.toNat) (by simp [Lib.byteCells, hx])
    clear h hrow hown
    go_enter Tryz.func64, Tryz.ntmps64
    go_wp2
    go_region
    all_goals (go_wp2; go_ret; exact ⟨_, rfl, Lib.hid (by simp), Lib.below_freeze (Below.drew (Below.refl B w)) (p := ⟨g', 0, none⟩) hbg _⟩)
end Go.Proofs.YtgdlpldngpoadaaGreatDoor
