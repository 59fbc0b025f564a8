/- Merged by program: Rdr, E5Number, E5Cut, Add, E5OfByte. -/
import Derived.Laws.Externs
import Derived.Lib.ItoaNum
import Derived.Laws.Rows
import Derived.Laws.Tables
import Derived.Test.YtimipfdknfdbdaaGreatQsaa
import Derived.Test.YtimipfdknfdbdaaGreatQsab
/- The reader in memory; ere.reader.comes: a walk. -/
namespace Go.Proofs.YtimipfdknfdbdaaGreat
open Go.RowKit

/-- The reader's block: its text, its place, how many brackets are open. -/
structure Rdr (w : World) (p : Nat) (s : ByteArray) (k d : Nat) : Prop where
  row : w.heap[p]? = some (.cells #[.string s, .int .i64 k, .int .i64 d] 60 (0, 0))
theorem Rdr.lt {w : World} {p : Nat} {s : ByteArray} {k d : Nat} (h : Rdr w p s k d) : p < w.heap.size := (Array.getElem?_eq_some_iff.1 h.row).1
theorem Rdr.c0 {w : World} {p : Nat} {s : ByteArray} {k d : Nat} (h : Rdr w p s k d) : w.cell? ⟨p, 0, none⟩ = some (.string s) := cell_of_row _ _ 0 _ _ _ h.row
theorem Rdr.c1 {w : World} {p : Nat} {s : ByteArray} {k d : Nat} (h : Rdr w p s k d) : w.cell? ⟨p, 1, none⟩ = some (.int .i64 k) := cell_of_row _ _ 1 _ _ _ h.row
theorem Rdr.c2 {w : World} {p : Nat} {s : ByteArray} {k d : Nat} (h : Rdr w p s k d) : w.cell? ⟨p, 2, none⟩ = some (.int .i64 d) := cell_of_row _ _ 2 _ _ _ h.row
theorem Rdr.z {w : World} {p : Nat} {s : ByteArray} {k d : Nat} (h : Rdr w p s k d) (j : Nat) : w.frozen? ⟨p, j, none⟩ = false := frozen_of_row _ _ j _ _ h.row
theorem Rdr.after {w w' : World} {p : Nat} {s : ByteArray} {k d : Nat} (h : Rdr w p s k d) (hb : Below w.heap.size w w') : Rdr w' p s k d := ⟨by rw [hb.block p h.lt]; exact h.row⟩
theorem Rdr.put1 {w : World} {p : Nat} {s : ByteArray} {k d : Nat} (h : Rdr w p s k d) (j : Nat) : Rdr (w.setCell ⟨p, 1, none⟩ (.int .i64 j)) p s j d :=
  ⟨by rw [heap_setCell_same _ _ 1 _ _ _ h.row]; rfl⟩
theorem Rdr.put2 {w : World} {p : Nat} {s : ByteArray} {k d : Nat} (h : Rdr w p s k d) (j : Nat) : Rdr (w.setCell ⟨p, 2, none⟩ (.int .i64 j)) p s k j :=
  ⟨by rw [heap_setCell_same _ _ 2 _ _ _ h.row]; rfl⟩
theorem but_put (w : World) (p j : Nat) (v : Value) : But p w (w.setCell ⟨p, j, none⟩ v) :=
  ⟨rfl, rfl, rfl, by rw [World.size_setCell]; exact Nat.le_refl _, fun k _ hp => heap_setCell_other w ⟨p, j, none⟩ k v hp⟩
theorem But.put {p : Nat} {w w1 : World} (h : But p w w1) (j : Nat) (v : Value) : But p w (w1.setCell ⟨p, j, none⟩ v) := h.trans (but_put w1 p j v)
theorem drewN_below (w : World) (n : Nat) : Below w.heap.size w (w.drewN n) := Below.drewN' (Below.refl _ w) n

theorem indexByte_iff (l : List UInt8) (c : UInt8) : 0 ≤ Lib.indexByte l c ↔ c ∈ l := by
  induction l with
  | nil => simp [Lib.indexByte]
  | cons b l ih =>
    unfold Lib.indexByte
    by_cases h : b = c
    · subst h; simp
    · have hb : (b == c) = false := by simpa using h
      rw [hb]
      simp only [Bool.false_eq_true, if_false]
      have hne : c ≠ b := Ne.symm h
      by_cases h1 : Lib.indexByte l c = -1
      · have hb1 : (Lib.indexByte l c == -1) = true := by simpa using h1
        rw [hb1]
        rw [h1] at ih
        simp [hne]
        intro hm
        have := ih.2 hm
        omega
      · have hb1 : (Lib.indexByte l c == -1) = false := by simpa using h1
        rw [hb1]
        have hge := Lib.indexByte_ge l c
        simp [hne]
        rw [← ih]
        omega

/-- Whether one of the bytes comes next. -/
def comesB (s : ByteArray) (k : Nat) (l : List UInt8) : Bool := match s.data.toList[k]? with | some c => decide (c ∈ l) | none => false

set_option maxRecDepth 100000 in
theorem comes_spec (p : Nat) (s g : ByteArray) (k d : Nat) (w : World) (h : Rdr w p s k d) (hk : k ≤ s.size) :
    Calls Tryz.prog 33 #[.pointer (some ⟨p, 0, none⟩), .string g] w fun e w' => e = .returned (.bool (comesB s k g.data.toList)) ∧ ∃ n, w' = w.drewN n := by
  have c0 := h.c0
  have c1 := h.c1
  by_cases hlt : k < s.size
  · have hd : decide ((k : Int) < s.size) = true := decide_eq_true (by omega)
    have hget : s.data.toList[k]? = some s[k] := by rw [List.getElem?_eq_getElem (by simpa using hlt)]; rfl
    have HI := Lib.hid (fun w => Tryz.strings_IndexByte g (s[k].toNat : Int) w)
    have hR : decide (0 ≤ Lib.indexByte g.data.toList s[k]) = comesB s k g.data.toList := by
      unfold comesB
      rw [hget]
      exact decide_eq_decide.2 (indexByte_iff _ _)
    have hu : ((s[k].toNat : Int).toNat.toUInt8) = s[k] := by simp
    rw [hu] at HI
    obtain ⟨I, hi⟩ : ∃ I, I = Lib.indexByte g.data.toList s[k] := ⟨_, rfl⟩
    rw [← hi] at HI hR
    clear hi hu hget
    have HR := Lib.hid hR; clear hR
    go_enter Tryz.func33, Tryz.ntmps33
    go_wp2_with fail
    go_quiet ((go_at_call 50; exact Calls.quiet_of_same (HI.out _)))
    go_wp2_with fail
    rw [HR.out]
    go_ret
    exact ⟨rfl, _, rfl⟩
  · have hd : decide ((k : Int) < s.size) = false := decide_eq_false (by omega)
    have hget : comesB s k g.data.toList = false := by
      unfold comesB
      rw [List.getElem?_eq_none (by simp; omega)]
    rw [hget]
    clear hget
    go_enter Tryz.func33, Tryz.ntmps33
    go_wp2_with fail
    go_quiet (fail)
    go_wp2_with fail
    go_ret
    exact ⟨rfl, _, rfl⟩
end Go.Proofs.YtimipfdknfdbdaaGreat

/- ere.number at one and two digits: walks. -/
namespace Go.Proofs.YtimipfdknfdbdaaGreat.E5
open Go.Proofs.YtimipfdknfdbdaaGreat Go.Proofs
open Go.RowKit

set_option maxRecDepth 100000 in
theorem number_one (s : ByteArray) (hs : s.size = 1) (a : Nat) (ha : s[0].toNat = a + 48) (h9 : a ≤ 9) (w : World) :
    Calls Tryz.prog 91 #[.string s] w fun e w' => e = .returned (.tuple #[.int .i64 a, .bool true]) ∧ w' = w := by
  go_enter Tryz.func91, Tryz.ntmps91
  go_wp2_with fail
  refine wp_loop_rounds 2 ?_
  rw [rounds_succ]
  have h1 : decide ((s[0].toNat : Int) < 48) = false := decide_eq_false (by omega)
  have h2 : decide ((57 : Int) < s[0].toNat) = false := decide_eq_false (by omega)
  go_wp2_with fail
  rw [rounds_succ]
  go_wp2_with fail
  go_ret2
  exact ⟨rfl, rfl⟩

set_option maxRecDepth 100000 in
theorem number_two (s : ByteArray) (hs : s.size = 2) (a b : Nat) (ha : s[0].toNat = a + 48) (h9 : a ≤ 9) (hb : s[1].toNat = b + 48) (hb9 : b ≤ 9) (w : World) :
    Calls Tryz.prog 91 #[.string s] w fun e w' => e = .returned (.tuple #[.int .i64 ((a : Int) * 10 + b), .bool true]) ∧ w' = w := by
  go_enter Tryz.func91, Tryz.ntmps91
  go_wp2_with fail
  refine wp_loop_rounds 3 ?_
  rw [rounds_succ]
  have h1 : decide ((s[0].toNat : Int) < 48) = false := decide_eq_false (by omega)
  have h2 : decide ((57 : Int) < s[0].toNat) = false := decide_eq_false (by omega)
  have h4 : decide ((s[1].toNat : Int) < 48) = false := decide_eq_false (by omega)
  have h5 : decide ((57 : Int) < s[1].toNat) = false := decide_eq_false (by omega)
  go_wp2_with fail
  rw [rounds_succ]
  go_wp2_with fail
  rw [rounds_succ]
  go_wp2_with fail
  go_ret2
  exact ⟨rfl, rfl⟩

/-- The digits of a number below 100. -/
def digs (n : Nat) : List UInt8 := if n < 10 then [UInt8.ofNat (48 + n)] else [UInt8.ofNat (48 + n / 10), UInt8.ofNat (48 + n % 10)]
theorem digs_is (n : Nat) (h : n < 100) : Lib.decDigits n = digs n := by
  unfold digs
  by_cases h1 : n < 10
  · rw [if_pos h1, Lib.decDigits, dif_pos h1]
  · rw [if_neg h1, Lib.decDigits, dif_neg h1, Lib.decDigits, dif_pos (by omega)]
    rfl
theorem number_spec (s : ByteArray) (n : Nat) (h : n < 100) (hs : s.data.toList = digs n) (w : World) :
    Calls Tryz.prog 91 #[.string s] w fun e w' => e = .returned (.tuple #[.int .i64 n, .bool true]) ∧ w' = w := by
  have hsz : s.size = (digs n).length := by rw [← hs]; simp
  have hget : ∀ (j : Nat) (hj : j < s.size), (digs n)[j]? = some s[j] := by
    intro j hj
    rw [← hs, List.getElem?_eq_getElem (by simpa using hj)]
    rfl
  unfold digs at hsz hget
  by_cases h1 : n < 10
  · rw [if_pos h1] at hsz hget
    have hs1 : s.size = 1 := hsz
    have h0 := hget 0 (by omega)
    refine number_one s hs1 n ?_ (by omega) w
    simp only [List.getElem?_cons_zero, Option.some.injEq] at h0
    rw [← h0]
    simp
    omega
  · rw [if_neg h1] at hsz hget
    have hs1 : s.size = 2 := hsz
    have h0 := hget 0 (by omega)
    have h2 := hget 1 (by omega)
    simp only [List.getElem?_cons_zero, List.getElem?_cons_succ, Option.some.injEq] at h0 h2
    have := number_two s hs1 (n / 10) (n % 10) (by rw [← h0]; simp; omega) (by omega) (by rw [← h2]; simp; omega) (by omega) w
    have e : ((n / 10 : Nat) : Int) * 10 + ((n % 10 : Nat) : Int) = (n : Int) := by omega
    rw [e] at this
    exact this
end Go.Proofs.YtimipfdknfdbdaaGreat.E5

/- strings.Cut at a separator of one byte: walks. -/
namespace Go.Proofs.YtimipfdknfdbdaaGreat.E5
open Go.Proofs.YtimipfdknfdbdaaGreat Go.Proofs
open Go.RowKit

theorem text_eq {a b : ByteArray} (h : a.data.toList = b.data.toList) : a = b := by
  cases a; cases b
  congr 1
  exact Array.toList_inj.1 h
theorem index_at (a r : List UInt8) (c : UInt8) (h : c ∉ a) : Lib.indexByte (a ++ c :: r) c = a.length := by
  induction a with
  | nil => simp [Lib.indexByte]
  | cons b a ih =>
    have hb : (b == c) = false := by
      simp only [beq_eq_false_iff_ne, ne_eq]
      intro e
      exact h (by rw [e]; exact List.mem_cons_self)
    have h2 := ih (fun hm => h (List.mem_cons_of_mem _ hm))
    show (if b == c then 0 else if Lib.indexByte (a ++ c :: r) c == -1 then -1 else Lib.indexByte (a ++ c :: r) c + 1) = _
    rw [hb, h2]
    have h3 : ((a.length : Int) == -1) = false := by simp
    rw [h3]
    simp
theorem index_no (a : List UInt8) (c : UInt8) (h : c ∉ a) : Lib.indexByte a c = -1 := by
  have h1 := Lib.indexByte_ge a c
  have h2 : ¬ 0 ≤ Lib.indexByte a c := fun e => h ((indexByte_iff a c).1 e)
  omega

set_option maxRecDepth 100000 in
theorem lite_found (s a r : ByteArray) (c : UInt8) (hs : s.data.toList = a.data.toList ++ c :: r.data.toList) (hc : c ∉ a.data.toList) (hz : s.size ≤ 400) (w : World) :
    Calls Tryz.prog 90 #[.string s, .string ⟨#[c]⟩] w fun e w' => e = .returned (.tuple #[.string a, .string r, .bool true]) ∧ ∃ n, w' = w.drewN n := by
  have hI := Lib.hid (fun w => Tryz.stringslite_Index_one s c w)
  rw [hs, index_at _ _ _ hc] at hI
  have ha : a.data.toList.length = a.size := by simp
  have hr : r.data.toList.length = r.size := by simp
  have hl : s.size = a.size + r.size + 1 := by
    have : s.data.toList.length = s.size := by simp
    rw [← this, hs, List.length_append, List.length_cons, ha, hr]
    omega
  have e1 : s.extract 0 a.size = a := by
    apply text_eq
    simp only [ByteArray.data_extract, Array.toList_extract, List.extract_eq_take_drop, List.drop_zero, Nat.sub_zero, hs]
    rw [← ha]
    simp
  have e2 : s.extract (a.size + 1) s.size = r := by
    apply text_eq
    simp only [ByteArray.data_extract, Array.toList_extract, List.extract_eq_take_drop, hs]
    rw [List.take_of_length_le (by simp; omega), ← ha, List.drop_append]
    simp
  rw [ha] at hI
  have E1 := Lib.hid e1; clear e1
  have E2 := Lib.hid e2; clear e2
  clear hs hc ha hr
  have s1 : IntKind.i64.wrap ((a.size : Int) + 1) = (a.size : Int) + 1 := IntWalk.i64_in _ (by omega)
  have s2 : (0 : Int) ≤ (a.size : Int) + 1 := by omega
  have s3 : ((a.size : Int) + 1).toNat = a.size + 1 := by omega
  have s4 : (a.size : Int) + 1 ≤ s.size := by omega
  have s5 : (a.size : Int) ≤ s.size := by omega
  clear hl
  go_enter Tryz.func90, Tryz.ntmps90
  go_wp2_with fail
  refine (hI.out _).mono ?_
  rintro e w1 ⟨rfl, rfl⟩
  go_wp2_with fail
  go_quiet (fail)
  go_wp2_with fail
  rw [E1.out, E2.out]
  go_ret3
  exact ⟨rfl, _, rfl⟩

set_option maxRecDepth 100000 in
theorem cut_found (s a r : ByteArray) (c : UInt8) (hs : s.data.toList = a.data.toList ++ c :: r.data.toList) (hc : c ∉ a.data.toList) (hz : s.size ≤ 400) (w : World) :
    Calls Tryz.prog 77 #[.string s, .string ⟨#[c]⟩] w fun e w' => e = .returned (.tuple #[.string a, .string r, .bool true]) ∧ ∃ n, w' = w.drewN n := by
  have H := Lib.hid (fun w => lite_found s a r c hs hc hz w)
  clear hs hc hz
  go_enter Tryz.func77, Tryz.ntmps77
  go_wp2_with fail
  refine (H.out _).mono ?_
  rintro e w1 ⟨rfl, n, rfl⟩
  go_wp2_with fail
  go_ret3
  exact ⟨rfl, n, rfl⟩

set_option maxRecDepth 100000 in
theorem cut_none (s : ByteArray) (c : UInt8) (hc : c ∉ s.data.toList) (w : World) :
    Calls Tryz.prog 77 #[.string s, .string ⟨#[c]⟩] w fun e w' => e = .returned (.tuple #[.string s, .string ⟨#[]⟩, .bool false]) ∧ ∃ n, w' = w.drewN n := by
  have hI := Lib.hid (fun w => Tryz.stringslite_Index_one s c w)
  rw [index_no _ _ hc] at hI
  have H : Hid (∀ w, Calls Tryz.prog 90 #[.string s, .string ⟨#[c]⟩] w fun e w' => e = .returned (.tuple #[.string s, .string ⟨#[]⟩, .bool false]) ∧ w' = w) := Lib.hid (by
    intro w
    go_enter Tryz.func90, Tryz.ntmps90
    go_wp2_with fail
    refine (hI.out _).mono ?_
    rintro e w1 ⟨rfl, rfl⟩
    go_wp2_with fail
    go_ret3
    exact ⟨rfl, rfl⟩)
  clear hI hc
  go_enter Tryz.func77, Tryz.ntmps77
  go_wp2_with fail
  refine (H.out _).mono ?_
  rintro e w1 ⟨rfl, rfl⟩
  go_wp2_with fail
  go_ret3
  exact ⟨rfl, 0, rfl⟩
end Go.Proofs.YtimipfdknfdbdaaGreat.E5

/- class.Add: a walk. -/
namespace Go.Proofs.YtimipfdknfdbdaaGreat
open Go.RowKit

def addAt (g : Nat → Nat) (k : Nat) : Nat → Nat := fun j => if j = k / 64 then g (k / 64) ||| 2 ^ (k % 64) else g j
theorem pow_lt64 (k : Nat) : 2 ^ (k % 64) < 18446744073709551616 := Nat.pow_lt_pow_right (a := 2) (m := k % 64) (n := 64) (by decide) (by omega)
theorem fits_addAt {g : Nat → Nat} (hg : Fits g) (k : Nat) : Fits (addAt g k) := by
  intro j hj
  unfold addAt
  by_cases h : j = k / 64
  · rw [if_pos h]; exact Nat.or_lt_two_pow (n := 64) (hg _ (by omega)) (pow_lt64 k)
  · rw [if_neg h]; exact hg j hj
theorem bit_addAt (g : Nat → Nat) (k c : Nat) : bit (addAt g k) c = (bit g c || decide (c = k)) := by
  unfold bit addAt
  by_cases h : c / 64 = k / 64
  · rw [if_pos h, Nat.testBit_or, h, Nat.testBit_two_pow]
    congr 1
    exact decide_eq_decide.2 (by omega)
  · rw [if_neg h]
    have : ¬ c = k := by intro e; exact h (by rw [e])
    simp [this]
/-- The bytes from a up to below k, and those of f. -/
def Span (f g : Nat → Nat) (a k : Nat) : Prop := Fits g ∧ ∀ c, c < 256 → bit g c = (bit f c || (decide (a ≤ c) && decide (c < k)))
theorem span_zero {f : Nat → Nat} (hf : Fits f) (a : Nat) : Span f f a a := ⟨hf, fun c _ => by
  have : (decide (a ≤ c) && decide (c < a)) = false := by rw [← Bool.decide_and]; exact decide_eq_false (by omega)
  rw [this, Bool.or_false]⟩
theorem span_next {f g : Nat → Nat} {a k : Nat} (h : Span f g a k) (ha : a ≤ k) : Span f (addAt g k) a (k + 1) := by
  refine ⟨fits_addAt h.1 k, fun c hc => ?_⟩
  rw [bit_addAt, h.2 c hc, Bool.or_assoc]
  congr 1
  rw [← Bool.decide_and, ← Bool.decide_and, ← Bool.decide_or]
  exact decide_eq_decide.2 (by omega)

set_option maxRecDepth 100000 in
theorem add_spec (f : Nat → Nat) (hf : Fits f) (a b : Nat) (ha : a < 256) (hb : b < 256) (w : World) :
    Calls Tryz.prog 89 #[.agg (words f), .int .u8 a, .int .u8 b] w fun e w' => ∃ g, e = .returned (.agg (words g)) ∧ Hid (Span f g a (b + 1)) ∧ Below w.heap.size w w' := by
  go_enter Tryz.func89, Tryz.ntmps89
  go_wp2_with fail
  obtain ⟨W, hW, Q0, Q1, HB⟩ := boxed2 w f zero4 35 35
  change Code.wp _ _ _ _ ((w.alloc (Obj.cells (words f) 35)).alloc (Obj.cells (words zero4) 35))
  rw [← hW]
  clear hW
  go_loopw [7] (fun y wr => ∃ (k : Nat) (g : Nat → Nat), y = .int .i64 k ∧ a ≤ k ∧ (k ≤ b + 1 ∨ k = a) ∧ Hid (Span f g a k) ∧ Hid (Quad wr w.heap.size g) ∧ Hid (Quad wr (w.heap.size + 1) zero4) ∧ Hid (Below w.heap.size w wr)) (fun y _ => 257 - (intOf y).toNat)
  case atStart => exact ⟨a, f, by go_num, by omega, Or.inr rfl, Lib.hid (span_zero hf a), Q0, Q1, HB⟩
  case round =>
    obtain ⟨k, g, rfl, hak, hkb, hs, q0, q1, hB⟩ := hrel
    by_cases hgo : k ≤ b
    · have hk4 : k / 64 < 4 := by omega
      have hc := q0.out.c (k / 64) hk4
      have hz := q0.out.z (k / 64) hk4
      have hx : bits BinOp.or IntKind.u64 ((g (k / 64) : Nat) : Int) (IntKind.u64.wrap (2 ^ (k % 64))) = ((g (k / 64) ||| 2 ^ (k % 64) : Nat) : Int) := by
        have e : IntKind.u64.wrap (2 ^ (k % 64)) = ((2 ^ (k % 64) : Nat) : Int) := by
          obtain ⟨p, hp⟩ : ∃ p : Nat, p = 2 ^ (k % 64) := ⟨_, rfl⟩
          have hl : p < 18446744073709551616 := by rw [hp]; exact pow_lt64 k
          have e2 : ((2 : Int) ^ (k % 64)) = (p : Int) := by rw [hp]; push_cast; rfl
          rw [e2, ← hp, IntKind.wrap_u64]
          clear hp e2
          omega
        rw [e, bits_or_u64_nat _ _ (hs.out.1 _ hk4) (pow_lt64 k)]
      have HX := Lib.hid hx; clear hx
      go_wp2_with fail
      go_region
      all_goals
        go_wp2_with fail
        rw [HX.out]
        go_roundw
        case rel =>
          refine ⟨k + 1, addAt g k, by go_num, by omega, by omega, Lib.hid (span_next hs.out hak), Lib.hid ((((q0.out.after (below_drew _)).set hk4 _)).congr fun j hj => ?_), Lib.hid ((q1.out.after (below_drew _)).other (by omega) _), Lib.hid (hB.out.drew.setCell (by simp) _)⟩
          rfl
        case measure => simp [intOf]; omega
    · have hS : Span f g a (b + 1) := ⟨hs.out.1, fun c hc => by
        rw [hs.out.2 c hc]
        congr 1
        rw [← Bool.decide_and, ← Bool.decide_and]
        exact decide_eq_decide.2 (by omega)⟩
      have HS := Lib.hid hS; clear hS
      have c0 := q0.out.c 0 (by omega); have c1 := q0.out.c 1 (by omega); have c2 := q0.out.c 2 (by omega); have c3 := q0.out.c 3 (by omega)
      have z0 := q1.out.z 0 (by omega); have z1 := q1.out.z 1 (by omega); have z2 := q1.out.z 2 (by omega); have z3 := q1.out.z 3 (by omega)
      have y0 := q1.out.c 0 (by omega); have y1 := q1.out.c 1 (by omega); have y2 := q1.out.c 2 (by omega); have y3 := q1.out.c 3 (by omega)
      go_wp2_with fail
      obtain ⟨e0, e1, e2, e3⟩ := put4_reads q1.out g
      unfold put4 at e0 e1 e2 e3
      refine bodyPost_ret (v := .agg (words g)) (by simp [results, Tryz.results89, go_sem, e0, e1, e2, e3, words]) rfl ⟨g, rfl, HS, ?_⟩
      exact below_put4 hB.out (by omega) g
end Go.Proofs.YtimipfdknfdbdaaGreat

/- ere.ofByte: a walk. -/
namespace Go.Proofs.YtimipfdknfdbdaaGreat.E5
open Go.Proofs.YtimipfdknfdbdaaGreat Go.Proofs
open Go.RowKit

/-- The set of one byte. -/
def oneF (c : Nat) : Nat → Nat := fun i => if i = c / 64 then 2 ^ (c % 64) else 0
theorem fits_oneF (c : Nat) : Fits (oneF c) := by
  intro i hi
  unfold oneF
  split
  · exact pow_lt64 c
  · decide
theorem bit_oneF (c x : Nat) : bit (oneF c) x = decide (x = c) := by
  unfold bit oneF
  by_cases h : x / 64 = c / 64
  · rw [if_pos h, Nat.testBit_two_pow]
    exact decide_eq_decide.2 (by omega)
  · rw [if_neg h, Nat.zero_testBit]
    exact (decide_eq_false (by omega)).symm
def oneT (c : Nat) : Tree := .mk 1 (oneF c) 0 0 []

theorem info_re : (Tryz.prog.info? 38).map (·.size) = some 8 := by kernel_rfl

/-- A whole tree stored to a result's cells, and read as the result. -/
theorem re_one (k : Int) (f : Nat → Nat) (lo hi : Int) (a : Option Addr) (n c : Nat) : (reC k f lo hi (.slice a n c)).all (·.oneCell') = true := by
  simp [reC]
  exact ⟨rfl, rfl, rfl, rfl, rfl, rfl, rfl, rfl⟩

set_option maxRecDepth 100000 in
theorem ofByte_spec (c : Nat) (hc : c < 256) (w : World) :
    Calls Tryz.prog 76 #[.int .u8 c] w fun e w' => e = .returned (.agg (reC 1 (oneF c) 0 0 (.slice none 0 0))) ∧ Below w.heap.size w w' := by
  have HA := Lib.hid (fun w => add_spec zero4 fits_zero c c hc hc w)
  have HI := info_re
  go_enter Tryz.func76, Tryz.ntmps76
  go_upto_region 1 with (fail)
  obtain ⟨W, hW, hX, hB, _⟩ := re_box w zeroR
  change Code.wp _ _ _ _ (w.alloc (Obj.cells zeroR 38))
  rw [← hW]
  clear hW
  go_wp2_with fail
  refine (HA.out _).mono ?_
  rintro e w1 ⟨g, rfl, hS, b1⟩
  have X1 := Lib.hid (hX.out.after b1)
  have B1 := Lib.hid (Below.step hB.out b1)
  clear b1
  have hg : reC 1 g 0 0 (.slice none 0 0) = reC 1 (oneF c) 0 0 (.slice none 0 0) := by
    refine reC_congr 1 0 0 _ (word_ext hS.out.1 (fits_oneF c) fun x hx => ?_)
    rw [hS.out.2 x hx, bit_oneF, bit_zero, Bool.false_or, ← Bool.decide_and]
    exact decide_eq_decide.2 (by omega)
  have HG := Lib.hid hg; clear hg
  simp only [words]
  go_wp2_with (refine wpList_store_row rfl 38 (.tmp 2) (.tmp 7) rfl w.heap.size (reC 1 g 0 0 (.slice none 0 0)) rfl rfl 38 zeroR X1.out.row HI rfl (re_one _ _ _ _ _ _ _) ?_)
  refine bodyPost_ret (v := .agg (reC 1 g 0 0 (.slice none 0 0))) (results_cell_row (by rfl) _ _ w.heap.size 38 _ (0, 0) _ (by rfl) (X1.out.setRow _).row Tryz.underlying38 (by rfl) HI) rfl ⟨by rw [HG.out], ?_⟩
  exact below_setRow B1.out (Nat.le_refl _) _
end Go.Proofs.YtimipfdknfdbdaaGreat.E5
