/- The document's Same of layer 17; an act's text. -/
import Derived.Test.YtpifpokbkjddjaaS17A
import Derived.Lib.Strings
namespace Go.Proofs.Ytpifpokbkjddjaa
open Go.RowKit

theorem same_bytes {s t : ByteArray} : s.toList = t.toList ↔ s = t := by
  rw [Lib.toList_data, Lib.toList_data]
  constructor
  · intro h
    cases s; cases t
    exact congrArg ByteArray.mk (Array.toList_inj.1 h)
  · intro h; rw [h]
theorem take_ext {α : Type} {l m : List α} {i : Nat} (hl : i < l.length) (hm : i < m.length) : l.take (i + 1) = m.take (i + 1) ↔ l.take i = m.take i ∧ l[i] = m[i] := by
  rw [List.take_succ_eq_append_getElem hl, List.take_succ_eq_append_getElem hm]
  constructor
  · intro h
    have := List.append_inj' h (by simp)
    exact ⟨this.1, by simpa using this.2⟩
  · rintro ⟨h1, h2⟩
    rw [h1, h2]

set_option maxRecDepth 100000 in
set_option maxHeartbeats 2000000 in
theorem fsame_any (w : World) (p q : Option Addr) (n cn m cm : Nat) (k l : List (ByteArray × ByteArray)) (hk : FilesAt w p n cn k) (hl : FilesAt w q m cm l) :
    Calls Try.prog 15 #[.slice p n cn, .slice q m cm] w fun e w' => e = .returned (.bool (decide (k = l))) ∧ Below w.heap.size w w' := by
  have HK := Lib.hid hk
  have HL := Lib.hid hl
  have HN : Hid (n = k.length) := Lib.hid hk.len
  have HM : Hid (m = l.length) := Lib.hid hl.len
  have hn : n ≤ 9223372036854775807 := Nat.le_trans hk.room hk.bound
  have hroom := hk.room
  have hrooml := hl.room
  clear hk hl
  by_cases hne : n = m
  case neg =>
    have d1 : ((n : Int) != m) = true := by simp; omega
    have HF : Hid (decide (k = l) = false) := Lib.hid (decide_eq_false (fun e => hne (by rw [HN.out, HM.out, e])))
    clear hne
    go_enter Try.func15, Try.ntmps15
    go_wp2_with fail
    go_ret
    exact ⟨by rw [HF.out]; rfl, by first | exact Below.refl _ _ | exact below_drew _⟩
  subst hne
  obtain ⟨R, hR⟩ : ∃ R, R = decide (k = l) := ⟨_, rfl⟩
  rw [← hR]
  have HR := Lib.hid hR
  clear hR
  go_enter Try.func15, Try.ntmps15
  go_wp2_with fail
  go_loopw [5] (fun y wr => ∃ i : Nat, y = .int .i64 i ∧ i ≤ n ∧ Hid (k.take i = l.take i) ∧ Hid (Below w.heap.size w wr)) (fun y _ => n - (intOf y).toNat)
  case atStart => exact ⟨0, rfl, by omega, Lib.hid rfl, Lib.hid (Below.refl _ _)⟩
  case round =>
    obtain ⟨i, rfl, hi, HE, hb⟩ := hrel
    by_cases hlt : i < n
    · have hik : i < k.length := by rw [← HN.out]; exact hlt
      have hil : i < l.length := by rw [← HM.out]; exact hlt
      have hx := List.getElem?_eq_getElem hik
      have hy := List.getElem?_eq_getElem hil
      have HT := Lib.hid (take_ext hik hil)
      obtain ⟨x, hxe⟩ : ∃ x, x = k[i] := ⟨_, rfl⟩
      obtain ⟨y, hye⟩ : ∃ y, y = l[i] := ⟨_, rfl⟩
      rw [← hxe, ← hye] at HT
      rw [← hxe] at hx
      rw [← hye] at hy
      obtain ⟨b, off, rfl, hc⟩ : ∃ b off, p = some ⟨b, off, none⟩ ∧ ∀ i f, k[i]? = some f → w.cell? ⟨b, off + i * 2, none⟩ = some (.string f.1) ∧ w.cell? ⟨b, off + i * 2 + 1, none⟩ = some (.string f.2) := by
        rcases HK.out.cells with h0 | h0
        · rw [h0] at hik; simp at hik
        · exact h0
      obtain ⟨b2, off2, rfl, hc2⟩ : ∃ b off, q = some ⟨b, off, none⟩ ∧ ∀ i f, l[i]? = some f → w.cell? ⟨b, off + i * 2, none⟩ = some (.string f.1) ∧ w.cell? ⟨b, off + i * 2 + 1, none⟩ = some (.string f.2) := by
        rcases HL.out.cells with h0 | h0
        · rw [h0] at hil; simp at hil
        · exact h0
      obtain ⟨e0, e1⟩ := hc i x hx
      obtain ⟨g0, g1⟩ := hc2 i y hy
      have key : ∀ (b o : Nat) (v : Value), w.cell? ⟨b, o, none⟩ = some v → wr.cell? ⟨b, o, none⟩ = some v := fun b o v hv => by
        rw [hb.out.cell (p := ⟨b, o, none⟩) (cell_lt hv)]; exact hv
      have c0 := key _ _ _ e0
      have c1 := key _ _ _ e1
      have d0 := key _ _ _ g0
      have d1 := key _ _ _ g1
      clear hc hc2 e0 e1 g0 g1 key hx hy hik hil hxe hye
      obtain ⟨x1, x2⟩ := x
      obtain ⟨y1, y2⟩ := y
      dsimp only at c0 c1 d0 d1
      by_cases q1 : x1 = y1
      · subst q1
        by_cases q2 : x2 = y2
        · subst q2
          have HT2 : Hid (k.take (i + 1) = l.take (i + 1)) := Lib.hid (HT.out.2 ⟨HE.out, rfl⟩)
          have z1 : (x1.toList == x1.toList) = true := beq_self_eq_true _
          have z2 : (x2.toList == x2.toList) = true := beq_self_eq_true _
          clear HT
          go_wp2_with fail
          go_quiet (fail)
          go_wp2_with fail
          go_roundw
          case rel => exact ⟨i + 1, by go_num, by omega, HT2, by first | exact hb | exact Lib.hid (Below.drewN' hb.out _)⟩
          case measure => simp [intOf]; omega
        · have z1 : (x1.toList == x1.toList) = true := beq_self_eq_true _
          have z2 : (x2.toList == y2.toList) = false := beq_eq_false_iff_ne.2 (fun e => q2 (same_bytes.1 e))
          have HF : Hid (R = false) := Lib.hid (by rw [HR.out]; exact decide_eq_false (fun e => q2 (by
            have h := (HT.out.1 (by rw [e])).2
            exact (Prod.mk.inj h).2)))
          clear HT q2
          go_wp2_with fail
          go_quiet (fail)
          go_wp2_with fail
          go_ret
          exact ⟨by rw [HF.out]; rfl, by first | exact hb.out | exact Below.drewN' hb.out _⟩
      · have z1 : (x1.toList == y1.toList) = false := beq_eq_false_iff_ne.2 (fun e => q1 (same_bytes.1 e))
        have HF : Hid (R = false) := Lib.hid (by rw [HR.out]; exact decide_eq_false (fun e => q1 (by
          have h := (HT.out.1 (by rw [e])).2
          exact (Prod.mk.inj h).1)))
        clear HT q1
        go_wp2_with fail
        go_quiet (fail)
        go_wp2_with fail
        go_ret
        exact ⟨by rw [HF.out]; rfl, by first | exact hb.out | exact Below.drewN' hb.out _⟩
    · have HF : Hid (R = true) := Lib.hid (by
        rw [HR.out]
        have h := HE.out
        rw [List.take_of_length_le (by rw [← HN.out]; omega), List.take_of_length_le (by rw [← HM.out]; omega)] at h
        exact decide_eq_true h)
      go_wp2_with fail
      go_ret
      exact ⟨by rw [HF.out]; rfl, hb.out⟩

/-- An act's five cells. -/
structure Ac where
  k : Int
  name : ByteArray
  s : ByteArray
  more : Bool
  many : Int
def acC (a : Ac) : Array Value := #[.int .i64 a.k, .string a.name, .string a.s, .bool a.more, .int .u8 a.many]
def AcOk (a : Ac) : Prop := (-9223372036854775808 ≤ a.k ∧ a.k ≤ 9223372036854775807) ∧ 0 ≤ a.many ∧ a.many ≤ 255
/-- So often as the act says, doubled. -/
def dblN (s : ByteArray) : Nat → ByteArray
  | 0 => s
  | k + 1 => if s.size < 40000 then dblN (s ++ s) k else s
theorem dbl_big {s : ByteArray} (h : ¬ s.size < 40000) : ∀ k, dblN s k = s
  | 0 => rfl
  | _ + 1 => if_neg h
theorem dbl_step {s : ByteArray} (h : s.size < 40000) (k : Nat) : dblN s (k + 1) = dblN (s ++ s) k := if_pos h
def Ac.txt (a : Ac) : ByteArray := dblN a.s (a.many % 13).toNat
theorem dbl_size : ∀ (k : Nat) (s : ByteArray), s.size ≤ 80000 → (dblN s k).size ≤ 80000
  | 0, _, h => h
  | k + 1, s, h => by
    show (if s.size < 40000 then dblN (s ++ s) k else s).size ≤ 80000
    split
    · exact dbl_size k _ (by rw [ByteArray.size_append]; omega)
    · exact h

set_option maxRecDepth 100000 in
set_option maxHeartbeats 2000000 in
theorem atext_any (a : Ac) (ha : AcOk a) (hs : a.s.size ≤ 300) (w : World) :
    Calls Try.prog 9 #[.agg (acC a)] w fun e w' => e = .returned (.string a.txt) ∧ Below w.heap.size w w' := by
  obtain ⟨k, name, s, more, many⟩ := a
  obtain ⟨_, h0, h1⟩ := ha
  dsimp only at hs h0 h1
  obtain ⟨m, hm⟩ : ∃ m : Nat, (m : Int) = many % 13 := ⟨(many % 13).toNat, by omega⟩
  have hm2 : many.tmod 13 = m := by rw [Int.tmod_eq_emod_of_nonneg h0, hm]
  have hmle : m ≤ 12 := by omega
  obtain ⟨R, hR⟩ : ∃ R, R = dblN s m := ⟨_, rfl⟩
  rw [show Ac.txt ⟨k, name, s, more, many⟩ = R from by rw [hR]; unfold Ac.txt; rw [show (many % 13).toNat = m from by omega]]
  have HR := Lib.hid hR
  have HB : Hid (Below w.heap.size w (w.alloc (.cells #[.int .i64 k, .string name, .string s, .bool more, .int .u8 many] 28))) := Lib.hid (below_new w _)
  obtain ⟨W, hW⟩ : ∃ W, W = w.alloc (.cells #[.int .i64 k, .string name, .string s, .bool more, .int .u8 many] 28) := ⟨_, rfl⟩
  have c2 : W.cell? ⟨w.heap.size, 2, none⟩ = some (.string s) := by rw [hW, cell_of_row _ _ 2 _ _ (0, 0) (heap_alloc_last w _)]; rfl
  have C4 : Hid (W.cell? ⟨w.heap.size, 4, none⟩ = some (.int .u8 many)) := Lib.hid (by rw [hW, cell_of_row _ _ 4 _ _ (0, 0) (heap_alloc_last w _)]; rfl)
  rw [← hW] at HB
  unfold acC
  dsimp only
  go_enter Try.func9, Try.ntmps9
  go_upto_region 1 with (fail)
  change Code.wp _ _ _ _ (w.alloc (.cells #[.int .i64 k, .string name, .string s, .bool more, .int .u8 many] 28))
  rw [← hW]
  clear hW hR hm
  go_wp2_with fail
  go_loopw [3, 4] (fun y z wr => ∃ (t : ByteArray) (i : Nat), y = .string t ∧ z = .int .i64 i ∧ i ≤ m ∧ t.size ≤ 80000 ∧ Hid (R = dblN t (m - i)) ∧ wr = W) (fun _ z _ => m - (intOf z).toNat)
  case atStart => exact ⟨s, 0, rfl, rfl, by omega, by omega, HR, rfl⟩
  case round =>
    obtain ⟨t, i, rfl, rfl, hi, ht, HE, rfl⟩ := hrel
    have c4 := C4.out
    by_cases hlt : i < m
    · have d1 : decide ((i : Int) < m) = true := decide_eq_true (by omega)
      by_cases hbig : t.size < 40000
      · have d2 : decide ((t.size : Int) < 40000) = true := decide_eq_true (by omega)
        have hno : ¬ 9223372036854775807 < t.size + t.size := by omega
        have HE2 : Hid (R = dblN (t ++ t) (m - (i + 1))) := Lib.hid (by
          rw [HE.out, show m - i = (m - (i + 1)) + 1 from by omega, dbl_step hbig])
        have hz : (t ++ t).size ≤ 80000 := by rw [ByteArray.size_append]; omega
        have HZ := Lib.hid hz
        clear hz HE hbig
        go_wp2_with fail
        go_roundw
        case rel => exact ⟨t ++ t, i + 1, rfl, by go_num, by omega, HZ.out, HE2, trivial⟩
        case measure => simp [intOf]; omega
      · have d2 : decide ((t.size : Int) < 40000) = false := decide_eq_false (by omega)
        have HF : Hid (R = t) := Lib.hid (by rw [HE.out, dbl_big hbig])
        clear hbig HE
        go_wp2_with fail
        go_ret
        exact ⟨by rw [HF.out]; rfl, HB.out⟩
    · have d1 : decide ((i : Int) < m) = false := decide_eq_false (by omega)
      have HF : Hid (R = t) := Lib.hid (by rw [HE.out, show m - i = 0 from by omega]; rfl)
      clear HE
      go_wp2_with fail
      go_ret
      exact ⟨by rw [HF.out]; rfl, HB.out⟩
end Go.Proofs.Ytpifpokbkjddjaa
