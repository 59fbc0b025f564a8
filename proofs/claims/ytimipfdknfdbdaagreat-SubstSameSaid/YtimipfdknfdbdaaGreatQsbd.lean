/- Merged by program: Spans, Named, ClassA. -/
import Derived.StillTailTactics
import Derived.Test.YtimipfdknfdbdaaGreatQsaa
import Derived.Test.YtimipfdknfdbdaaGreatQsad
import Derived.Test.YtimipfdknfdbdaaGreatQsac
/- class.spans: a walk. -/
namespace Go.Proofs.YtimipfdknfdbdaaGreat
open Go.RowKit

def spansOf (name : ByteArray) : ByteArray :=
  if (name.toList == [97, 108, 112, 104, 97]) = true then ⟨#[65, 90, 97, 122]⟩ else
  if (name.toList == [100, 105, 103, 105, 116]) = true then ⟨#[48, 57]⟩ else
  if (name.toList == [97, 108, 110, 117, 109]) = true then ⟨#[48, 57, 65, 90, 97, 122]⟩ else
  if (name.toList == [117, 112, 112, 101, 114]) = true then ⟨#[65, 90]⟩ else
  if (name.toList == [108, 111, 119, 101, 114]) = true then ⟨#[97, 122]⟩ else
  if (name.toList == [115, 112, 97, 99, 101]) = true then ⟨#[9, 13, 32, 32]⟩ else
  if (name.toList == [98, 108, 97, 110, 107]) = true then ⟨#[9, 9, 32, 32]⟩ else
  if (name.toList == [112, 117, 110, 99, 116]) = true then ⟨#[33, 47, 58, 64, 91, 96, 123, 126]⟩ else
  if (name.toList == [112, 114, 105, 110, 116]) = true then ⟨#[32, 126]⟩ else
  if (name.toList == [103, 114, 97, 112, 104]) = true then ⟨#[33, 126]⟩ else
  if (name.toList == [99, 110, 116, 114, 108]) = true then ⟨#[0, 31, 127, 127]⟩ else
  if (name.toList == [120, 100, 105, 103, 105, 116]) = true then ⟨#[48, 57, 65, 70, 97, 102]⟩ else
  ⟨#[]⟩

set_option maxRecDepth 100000 in
theorem spans_spec (name : ByteArray) (w : World) :
    Calls Tryz.prog 110 #[.string name] w fun e w' => e = .returned (.string (spansOf name)) ∧ w' = w := by
  go_enter Tryz.func110, Tryz.ntmps110
  cases h0 : (name.toList == [97, 108, 112, 104, 97])
  case true =>
    go_wp2_with fail
    go_ret
    exact ⟨by simp [spansOf, h0], rfl⟩
  cases h1 : (name.toList == [100, 105, 103, 105, 116])
  case true =>
    go_wp2_with fail
    go_ret
    exact ⟨by simp [spansOf, h0, h1], rfl⟩
  cases h2 : (name.toList == [97, 108, 110, 117, 109])
  case true =>
    go_wp2_with fail
    go_ret
    exact ⟨by simp [spansOf, h0, h1, h2], rfl⟩
  cases h3 : (name.toList == [117, 112, 112, 101, 114])
  case true =>
    go_wp2_with fail
    go_ret
    exact ⟨by simp [spansOf, h0, h1, h2, h3], rfl⟩
  cases h4 : (name.toList == [108, 111, 119, 101, 114])
  case true =>
    go_wp2_with fail
    go_ret
    exact ⟨by simp [spansOf, h0, h1, h2, h3, h4], rfl⟩
  cases h5 : (name.toList == [115, 112, 97, 99, 101])
  case true =>
    go_wp2_with fail
    go_ret
    exact ⟨by simp [spansOf, h0, h1, h2, h3, h4, h5], rfl⟩
  cases h6 : (name.toList == [98, 108, 97, 110, 107])
  case true =>
    go_wp2_with fail
    go_ret
    exact ⟨by simp [spansOf, h0, h1, h2, h3, h4, h5, h6], rfl⟩
  cases h7 : (name.toList == [112, 117, 110, 99, 116])
  case true =>
    go_wp2_with fail
    go_ret
    exact ⟨by simp [spansOf, h0, h1, h2, h3, h4, h5, h6, h7], rfl⟩
  cases h8 : (name.toList == [112, 114, 105, 110, 116])
  case true =>
    go_wp2_with fail
    go_ret
    exact ⟨by simp [spansOf, h0, h1, h2, h3, h4, h5, h6, h7, h8], rfl⟩
  cases h9 : (name.toList == [103, 114, 97, 112, 104])
  case true =>
    go_wp2_with fail
    go_ret
    exact ⟨by simp [spansOf, h0, h1, h2, h3, h4, h5, h6, h7, h8, h9], rfl⟩
  cases h10 : (name.toList == [99, 110, 116, 114, 108])
  case true =>
    go_wp2_with fail
    go_ret
    exact ⟨by simp [spansOf, h0, h1, h2, h3, h4, h5, h6, h7, h8, h9, h10], rfl⟩
  cases h11 : (name.toList == [120, 100, 105, 103, 105, 116])
  case true =>
    go_wp2_with fail
    go_ret
    exact ⟨by simp [spansOf, h0, h1, h2, h3, h4, h5, h6, h7, h8, h9, h10, h11], rfl⟩
  go_wp2_with fail
  go_ret
  exact ⟨by simp [spansOf, h0, h1, h2, h3, h4, h5, h6, h7, h8, h9, h10, h11], rfl⟩
end Go.Proofs.YtimipfdknfdbdaaGreat

/- class.Named: a walk. -/
namespace Go.Proofs.YtimipfdknfdbdaaGreat
open Go.RowKit

/-- Whether a byte is in one of the first k spans. -/
def inSpans (l : List UInt8) : Nat → Nat → Bool
  | 0, _ => false
  | k + 1, c => inSpans l k c || (decide ((l.getD (2 * k) 0).toNat ≤ c) && decide (c ≤ (l.getD (2 * k + 1) 0).toNat))

theorem getD_at {s : ByteArray} {i : Nat} (h : i < s.size) : (s.data.toList.getD i 0) = s[i] := by
  have h2 : i < s.data.toList.length := by simpa using h
  rw [List.getD_eq_getElem?_getD, List.getElem?_eq_getElem h2]
  rfl

theorem not_empty (l : ByteArray) (k : Nat) (h : l.size = 2 * k) : (!l.toList.isEmpty) = decide (0 < k) := by
  rw [ByteArray.toList_eq]
  have hs : l.data.toList.length = 2 * k := by simpa using h
  cases hl : l.data.toList with
  | nil =>
    rw [hl] at hs
    have h0 : k = 0 := by simp at hs; omega
    subst h0
    rfl
  | cons a r => rw [hl] at hs; simp at hs; simp; omega

structure NInv (l : List UInt8) (k : Nat) (g : Nat → Nat) : Prop where
  fits : Fits g
  bits : ∀ c, c < 256 → bit g c = inSpans l k c

set_option maxRecDepth 100000 in
theorem named_spec (name : ByteArray) (m : Nat) (hm : (spansOf name).size = 2 * m) (hm4 : m ≤ 4) (w : World) :
    Calls Tryz.prog 108 #[.string name] w fun e w' => ∃ g, e = .returned (.tuple #[.agg (words g), .bool (decide (0 < m))]) ∧ Hid (NInv (spansOf name).data.toList m g) ∧ Below w.heap.size w w' := by
  have HS := Lib.hid (fun w => spans_spec name w)
  obtain ⟨l, hl⟩ : ∃ l, l = spansOf name := ⟨_, rfl⟩
  rw [← hl] at HS hm ⊢
  clear hl
  have hl8 : l.size ≤ 8 := by omega
  have HM := Lib.hid hm; clear hm
  go_enter Tryz.func108, Tryz.ntmps108
  go_wp2_with fail
  refine (HS.out _).mono ?_
  rintro e w1 ⟨rfl, rfl⟩
  go_wp2_with fail
  obtain ⟨W, hW, Q0, Q1, HB⟩ := boxed2 w zero4 zero4 35 35
  change Code.wp _ _ _ _ ((w.alloc (Obj.cells (words zero4) 35)).alloc (Obj.cells (words zero4) 35))
  rw [← hW]
  clear hW
  go_loopw [6] (fun x wr => ∃ (p k : Nat) (g : Nat → Nat), x = .int .i64 p ∧ p ≤ l.size ∧ Hid (p = 2 * k) ∧ Hid (NInv l.data.toList k g) ∧ Hid (Quad wr w.heap.size zero4) ∧ Hid (Quad wr (w.heap.size + 1) g) ∧ Hid (Below w.heap.size w wr)) (fun x _ => l.size - (intOf x).toNat)
  case atStart => exact ⟨0, 0, zero4, rfl, by omega, Lib.hid rfl, Lib.hid ⟨fits_zero, fun c _ => bit_zero c⟩, Q0, Q1, HB⟩
  case round =>
    obtain ⟨p, k, g, rfl, hp, HK, hI, q0, q1, hB⟩ := hrel
    by_cases hgo : p < l.size
    · have h1 : p + 1 < l.size := by have := HK.out; have := HM.out; omega
      have HA := Lib.hid (fun w => add_spec g hI.out.fits l[p].toNat l[p + 1].toNat l[p].toNat_lt l[p + 1].toNat_lt w)
      have c0 := q1.out.c 0 (by omega); have c1 := q1.out.c 1 (by omega); have c2 := q1.out.c 2 (by omega); have c3 := q1.out.c 3 (by omega)
      have hi1 : (p : Int) < l.size := by omega
      have hi2 : (p : Int) + 1 < l.size := by omega
      have hi3 : (0 : Int) ≤ (p : Int) + 1 := by omega
      have hw1 : IntKind.i64.wrap ((p : Int) + 1) = (p : Int) + 1 := by rw [IntKind.wrap_i64]; omega
      go_upto_region 6 with (fail)
      go_still_tail 8, (by kernel_rfl)
      change wpList _ _ _ _ _ wr.drew
      clear c0 c1 c2 c3
      go_wp2_with fail
      refine (HA.out _).mono ?_
      rintro e w5 ⟨g', rfl, hS, b5⟩
      have q0' := Lib.hid ((q0.out.after (below_drew _)).after b5)
      have q1' := Lib.hid ((q1.out.after (below_drew _)).after b5)
      have hB' := Lib.hid (Below.step (Below.step hB.out (below_drew _)) b5)
      clear b5
      have z0 := q1'.out.z 0 (by omega); have z1 := q1'.out.z 1 (by omega); have z2 := q1'.out.z 2 (by omega); have z3 := q1'.out.z 3 (by omega)
      have y0 := q1'.out.c 0 (by omega); have y1 := q1'.out.c 1 (by omega); have y2 := q1'.out.c 2 (by omega); have y3 := q1'.out.c 3 (by omega)
      simp only [words]
      go_wp2_with fail
      go_roundw
      case rel =>
        refine ⟨p + 2, k + 1, g', by go_num, by omega, Lib.hid (by have := HK.out; omega), Lib.hid ⟨hS.out.1, fun c hc => ?_⟩, Lib.hid (q0'.out.put4_other (by omega) g'), Lib.hid (q1'.out.put4 g'), Lib.hid (below_put4 hB'.out (by omega) g')⟩
        have hk := HK.out
        subst hk
        rw [hS.out.2 c hc, hI.out.bits c hc]
        show _ = (inSpans l.data.toList k c || (decide ((l.data.toList.getD (2 * k) 0).toNat ≤ c) && decide (c ≤ (l.data.toList.getD (2 * k + 1) 0).toNat)))
        rw [getD_at hgo, getD_at h1, decide_eq_decide.2 (show c < l[2 * k + 1].toNat + 1 ↔ c ≤ l[2 * k + 1].toNat by omega)]
      case measure => simp [intOf]; omega
    · obtain rfl : p = l.size := by omega
      obtain rfl : k = m := by have := HK.out; have := HM.out; omega
      have c0 := q1.out.c 0 (by omega); have c1 := q1.out.c 1 (by omega); have c2 := q1.out.c 2 (by omega); have c3 := q1.out.c 3 (by omega)
      have z0 := q0.out.z 0 (by omega); have z1 := q0.out.z 1 (by omega); have z2 := q0.out.z 2 (by omega); have z3 := q0.out.z 3 (by omega)
      have y0 := q0.out.c 0 (by omega); have y1 := q0.out.c 1 (by omega); have y2 := q0.out.c 2 (by omega); have y3 := q0.out.c 3 (by omega)
      go_wp2_with fail
      obtain ⟨e0, e1, e2, e3⟩ := put4_reads q0.out g
      unfold put4 at e0 e1 e2 e3
      refine bodyPost_ret (v := .tuple #[.agg (words g), .bool (!l.toList.isEmpty)]) (by simp [results, Tryz.results108, go_sem, e0, e1, e2, e3, words]) rfl ⟨g, ?_, hI, below_put4 hB.out (by omega) g⟩
      exact congrArg (fun x => Ending.returned (.tuple #[.agg (words g), .bool x])) (not_empty l k HM.out)
end Go.Proofs.YtimipfdknfdbdaaGreat

/- class.escaped, byteAt, goesOn, classAt at any text: walks. -/
namespace Go.Proofs.YtimipfdknfdbdaaGreat
open Go.RowKit

/-- The first cell of the first block: bytealg.MaxLen. -/
def MX (w : World) : Prop := ∃ m : Int, w.cell? ⟨0, 0, none⟩ = some (.int .i64 m)
theorem MX.after {w w' : World} (h : MX w) (hb : Below w.heap.size w w') : MX w' := by
  obtain ⟨m, hm⟩ := h
  exact ⟨m, by rw [hb.cell (p := ⟨0, 0, none⟩) (cell_lt hm)]; exact hm⟩

set_option maxRecDepth 100000 in
theorem escaped_any (c : Nat) (hc : c < 256) (w : World) :
    Calls Tryz.prog 109 #[.int .u8 c] w fun e w' => ∃ d : Nat, e = .returned (.int .u8 d) ∧ d < 256 ∧ w' = w := by
  by_cases h1 : c = 110
  · subst h1
    go_enter Tryz.func109, Tryz.ntmps109
    go_wp2_with fail
    go_ret
    exact ⟨10, rfl, by omega, rfl⟩
  · by_cases h2 : c = 116
    · subst h2
      go_enter Tryz.func109, Tryz.ntmps109
      go_wp2_with fail
      go_ret
      exact ⟨9, rfl, by omega, rfl⟩
    · refine (escaped_spec c h1 h2 w).mono ?_
      rintro e w' ⟨rfl, rfl⟩
      exact ⟨c, rfl, hc, rfl⟩

/-- What byteAt tells. -/
def ByteOut (s : ByteArray) (k : Nat) (w : World) (e : Ending) (w' : World) : Prop :=
  ∃ (c n : Nat) (x : Int), e = .returned (.tuple #[.int .u8 c, .int .i64 n, .int .i64 x]) ∧ c < 256 ∧ Hid (x = 0 → k < n ∧ n ≤ s.size) ∧ w' = w

set_option maxRecDepth 100000 in
theorem byteAt_any (s : ByteArray) (k : Nat) (h : k ≤ s.size) (hs : s.size ≤ 1152921504606846976) (w : World) :
    Calls Tryz.prog 105 #[.string s, .int .i64 k] w (ByteOut s k w) := by
  by_cases hk : k = s.size
  · have e1 : ((k : Int) == (s.size : Int)) = true := by rw [hk]; exact beq_self_eq_true _
    clear hk h
    go_enter Tryz.func105, Tryz.ntmps105
    go_wp2_with fail
    go_ret3
    exact ⟨0, 0, 3, rfl, by omega, Lib.hid (fun h => absurd h (by decide)), rfl⟩
  · have hlt : k < s.size := by omega
    by_cases hc : s[k].toNat = 92
    · by_cases hk1 : k + 1 = s.size
      · have e0 : ((k : Int) == (s.size : Int)) = false := beq_eq_false_iff_ne.2 (by omega)
        have e1 : ((k : Int) + 1 == (s.size : Int)) = true := beq_iff_eq.2 (by omega)
        clear hk h hk1
        go_enter Tryz.func105, Tryz.ntmps105
        go_wp2_with fail
        go_ret3
        exact ⟨0, 0, 3, rfl, by omega, Lib.hid (fun h => absurd h (by decide)), rfl⟩
      · have hlt1 : k + 1 < s.size := by omega
        have C := Lib.hid (fun w => escaped_any s[k + 1].toNat (UInt8.toNat_lt _) w)
        have HK : Hid (k < k + 2 ∧ k + 2 ≤ s.size) := Lib.hid ⟨by omega, by omega⟩
        go_enter Tryz.func105, Tryz.ntmps105
        go_wp2_with fail
        refine (C.out _).mono ?_
        rintro e w1 ⟨d, rfl, hd, rfl⟩
        go_wp2_with fail
        go_ret3
        exact ⟨d, k + 2, 0, by first | rfl | (simp; done), hd, Lib.hid (fun _ => HK.out), rfl⟩
    · refine (byteAt_plain s k hlt hs hc w).mono ?_
      rintro e w' ⟨rfl, rfl⟩
      exact ⟨_, k + 1, 0, rfl, UInt8.toNat_lt _, Lib.hid (fun _ => ⟨by omega, by omega⟩), rfl⟩

set_option maxRecDepth 100000 in
theorem goesOn_any (s : ByteArray) (w : World) :
    Calls Tryz.prog 106 #[.string s] w fun e w' => ∃ b : Bool, e = .returned (.bool b) ∧ Hid (b = true → 0 < s.size) ∧ w' = w := by
  cases h : Lib.hasPrefix s.data.toList [45] with
  | false => exact (goesOn_no s h w).mono fun e w' ⟨h1, h2⟩ => ⟨false, h1, Lib.hid (fun h => absurd h (by decide)), h2⟩
  | true =>
    have hpos : Hid (0 < s.size) := Lib.hid (by
      rcases Nat.eq_zero_or_pos s.size with e | e
      · have : s.data.toList = [] := by
          have h1 : s.data.toList.length = 0 := by simpa using e
          exact List.eq_nil_of_length_eq_zero h1
        rw [this] at h
        cases h
      · exact e)
    have C := Lib.hid (fun w => hp_spec s ⟨#[45]⟩ true h w)
    obtain ⟨b1, hb1⟩ : ∃ b, b = Lib.hasPrefix s.data.toList [45, 93] := ⟨_, rfl⟩
    obtain ⟨b2, hb2⟩ : ∃ b, b = Lib.hasPrefix s.data.toList [45, 91, 58] := ⟨_, rfl⟩
    have D := Lib.hid (fun w => hp_spec s ⟨#[45, 93]⟩ b1 hb1.symm w)
    have E := Lib.hid (fun w => hp_spec s ⟨#[45, 91, 58]⟩ b2 hb2.symm w)
    clear h hb1 hb2
    go_enter Tryz.func106, Tryz.ntmps106
    go_wp2_with fail
    refine (C.out _).mono ?_
    rintro e w1 ⟨rfl, rfl⟩
    go_wp2_with fail
    refine (D.out _).mono ?_
    rintro e w2 ⟨rfl, rfl⟩
    cases b1 with
    | true =>
      go_wp2_with fail
      go_ret
      exact ⟨false, rfl, Lib.hid (fun h => absurd h (by decide)), rfl⟩
    | false =>
      go_wp2_with fail
      refine (E.out _).mono ?_
      rintro e w3 ⟨rfl, rfl⟩
      cases b2 with
      | true =>
        go_wp2_with fail
        go_ret
        exact ⟨false, rfl, Lib.hid (fun h => absurd h (by decide)), rfl⟩
      | false =>
        go_wp2_with fail
        go_ret
        exact ⟨true, rfl, Lib.hid (fun _ => hpos.out), rfl⟩

/-- What is told of a set that is read from a place on. -/
def SetOut (s : ByteArray) (k : Nat) (w : World) (e : Ending) (w' : World) : Prop :=
  ∃ (f : Nat → Nat) (n : Nat) (x : Int), e = .returned (.tuple #[.agg (words f), .int .i64 n, .int .i64 x]) ∧ Hid (Fits f ∧ (x = 0 → k < n ∧ n ≤ s.size)) ∧ Below w.heap.size w w'

theorem index_in (l p : List UInt8) (h : 0 ≤ Lib.index l p) : (Lib.index l p).toNat + p.length ≤ l.length := by
  induction l with
  | nil =>
    unfold Lib.index at h ⊢
    cases p with
    | nil => simp
    | cons a r => simp at h
  | cons b l ih =>
    unfold Lib.index at h ⊢
    split at h
    · rename_i hp
      rw [if_pos hp]
      have := (List.isPrefixOf_iff_prefix.1 hp).length_le
      simpa using this
    · rename_i hp
      rw [if_neg hp]
      split at h
      · exact absurd h (by decide)
      · rename_i h1
        rw [if_neg h1]
        have hg := Lib.index_ge l p
        have h2 : Lib.index l p ≠ -1 := fun e => h1 (by rw [e]; rfl)
        have := ih (by omega)
        simp only [List.length_cons]
        omega
theorem cut_len (l p : List UInt8) (h : (Lib.cut l p).2.2 = true) : (Lib.cut l p).1.length + p.length ≤ l.length := by
  unfold Lib.cut at h ⊢
  split at h
  · rename_i h0
    rw [if_pos h0]
    have := index_in l p h0
    simp only [List.length_take]
    omega
  · cases h
def Even4 (l : ByteArray) : Prop := ∃ m, l.size = 2 * m ∧ m ≤ 4
theorem ite_p {P : ByteArray → Prop} {c : Prop} [Decidable c] {a b : ByteArray} (h1 : P a) (h2 : P b) : P (if c then a else b) := by split <;> assumption
theorem spans_even (name : ByteArray) : Even4 (spansOf name) := by
  unfold spansOf
  repeat' first | exact ⟨0, rfl, by decide⟩ | exact ⟨1, rfl, by decide⟩ | exact ⟨2, rfl, by decide⟩ | exact ⟨3, rfl, by decide⟩ | exact ⟨4, rfl, by decide⟩ | refine ite_p ?_ ?_

/-- Noughts stored. -/
theorem zput_reads {w : World} {b : Nat} {g : Nat → Nat} (h : Quad w b g) :
    ((((w.setCell ⟨b, 0, none⟩ (.int .u64 0)).setCell ⟨b, 1, none⟩ (.int .u64 0)).setCell ⟨b, 2, none⟩ (.int .u64 0)).setCell ⟨b, 3, none⟩ (.int .u64 0)).cell? ⟨b, 0, none⟩ = some (.int .u64 0) ∧
    ((((w.setCell ⟨b, 0, none⟩ (.int .u64 0)).setCell ⟨b, 1, none⟩ (.int .u64 0)).setCell ⟨b, 2, none⟩ (.int .u64 0)).setCell ⟨b, 3, none⟩ (.int .u64 0)).cell? ⟨b, 1, none⟩ = some (.int .u64 0) ∧
    ((((w.setCell ⟨b, 0, none⟩ (.int .u64 0)).setCell ⟨b, 1, none⟩ (.int .u64 0)).setCell ⟨b, 2, none⟩ (.int .u64 0)).setCell ⟨b, 3, none⟩ (.int .u64 0)).cell? ⟨b, 2, none⟩ = some (.int .u64 0) ∧
    ((((w.setCell ⟨b, 0, none⟩ (.int .u64 0)).setCell ⟨b, 1, none⟩ (.int .u64 0)).setCell ⟨b, 2, none⟩ (.int .u64 0)).setCell ⟨b, 3, none⟩ (.int .u64 0)).cell? ⟨b, 3, none⟩ = some (.int .u64 0) := put4_reads h zero4

set_option maxRecDepth 100000 in
set_option maxHeartbeats 1000000 in
theorem classAt_any (s : ByteArray) (k : Nat) (h : k ≤ s.size) (hs : s.size ≤ 400) (w : World) (hx : MX w) :
    Calls Tryz.prog 104 #[.string s, .int .i64 k] w (SetOut s k w) := by
  obtain ⟨mx, hmx⟩ := hx
  obtain ⟨W, hW, Q, HB⟩ := quad_box w zero4 35
  have hmW : W.cell? ⟨0, 0, none⟩ = some (.int .i64 mx) := by rw [HB.out.cell (p := ⟨0, 0, none⟩) (cell_lt hmx)]; exact hmx
  have hes : (s.extract k s.size).size = s.size - k := by rw [ByteArray.size_extract]; omega
  have HC := Lib.hid (Tryz.strings_Cut (s.extract k s.size) ⟨#[58, 93]⟩ mx W (by rw [hes]; omega) hmW)
  have hcl := cut_len (s.extract k s.size).data.toList [58, 93]
  obtain ⟨name, hname⟩ : ∃ name : ByteArray, name = ⟨(Lib.cut (s.extract k s.size).data.toList [58, 93]).1.toArray⟩ := ⟨_, rfl⟩
  obtain ⟨rest, hrest⟩ : ∃ rest : ByteArray, rest = ⟨(Lib.cut (s.extract k s.size).data.toList [58, 93]).2.1.toArray⟩ := ⟨_, rfl⟩
  obtain ⟨ok, hok⟩ : ∃ ok, ok = (Lib.cut (s.extract k s.size).data.toList [58, 93]).2.2 := ⟨_, rfl⟩
  have hnl : name.size = (Lib.cut (s.extract k s.size).data.toList [58, 93]).1.length := by rw [hname]; show (List.toArray _).size = _; rw [List.size_toArray]
  have hlen : ok = true → k + name.size + 2 ≤ s.size := fun e => by
    have h1 := hcl (hok ▸ e)
    have h2 : (s.extract k s.size).data.toList.length = s.size - k := by rw [← hes]; exact Array.length_toList
    rw [← hnl, h2] at h1
    simp at h1
    omega
  change Hid (Calls _ _ _ _ fun e w' => e = .returned (.tuple #[.string ⟨(Lib.cut (s.extract k s.size).data.toList [58, 93]).1.toArray⟩, .string ⟨(Lib.cut (s.extract k s.size).data.toList [58, 93]).2.1.toArray⟩, .bool (Lib.cut (s.extract k s.size).data.toList [58, 93]).2.2]) ∧ ∃ n, w' = W.drewN n) at HC
  rw [← hname, ← hrest, ← hok] at HC
  have HLen := Lib.hid hlen
  have hk1 : (k : Int) ≤ s.size := by omega
  clear hcl hname hrest hok hnl hlen hmW hmx hes
  go_enter Tryz.func104, Tryz.ntmps104
  go_upto_region 1 with (fail)
  change Code.wp _ _ _ _ (w.alloc (Obj.cells (words zero4) 35))
  rw [← hW]
  clear hW
  go_wp2_with fail
  refine HC.out.mono ?_
  rintro e w1 ⟨rfl, n1, rfl⟩
  have Q1 := Lib.hid (Q.out.after (drewN_below W n1))
  have B1 := Lib.hid (Below.step HB.out (drewN_below W n1))
  cases ok with
  | false =>
    have z0 := Q1.out.z 0 (by omega); have z1 := Q1.out.z 1 (by omega); have z2 := Q1.out.z 2 (by omega); have z3 := Q1.out.z 3 (by omega)
    have y0 := Q1.out.c 0 (by omega); have y1 := Q1.out.c 1 (by omega); have y2 := Q1.out.c 2 (by omega); have y3 := Q1.out.c 3 (by omega)
    go_wp2_with fail
    obtain ⟨e0, e1, e2, e3⟩ := zput_reads Q1.out
    exact bodyPost_ret (v := .tuple #[.agg (words zero4), .int .i64 ((0 : Nat) : Int), .int .i64 3]) (by simp [results, Tryz.results104, go_sem, e0, e1, e2, e3, words, zero4]) rfl ⟨zero4, 0, 3, rfl, Lib.hid ⟨fits_zero, fun h => absurd h (by decide)⟩, below_put4 B1.out (by omega) zero4⟩
  | true =>
    have hl := HLen.out rfl
    obtain ⟨m, hm, hm4⟩ := spans_even name
    have HN := Lib.hid (fun w => named_spec name m hm hm4 w)
    clear hm hm4 HLen
    go_wp2_with fail
    refine (HN.out _).mono ?_
    rintro e w2 ⟨g, rfl, hg, b2⟩
    have Q2 := Lib.hid (Q1.out.after b2)
    have B2 := Lib.hid (Below.step B1.out b2)
    clear b2
    simp only [words]
    go_upto_region 5 with (fail)
    obtain ⟨W3, hW3, QP, HB3⟩ := quad_box w2 g 35
    change Code.wp _ _ _ _ (w2.alloc (Obj.cells (words g) 35))
    rw [← hW3]
    clear hW3
    have Q3 := Lib.hid (Q2.out.after HB3.out)
    have B3 := Lib.hid (Below.step B2.out HB3.out)
    have z0 := Q3.out.z 0 (by omega); have z1 := Q3.out.z 1 (by omega); have z2 := Q3.out.z 2 (by omega); have z3 := Q3.out.z 3 (by omega)
    have y0 := Q3.out.c 0 (by omega); have y1 := Q3.out.c 1 (by omega); have y2 := Q3.out.c 2 (by omega); have y3 := Q3.out.c 3 (by omega)
    by_cases hm0 : 0 < m
    · have hd : decide (0 < m) = true := decide_eq_true hm0
      have d0 := QP.out.c 0 (by omega); have d1 := QP.out.c 1 (by omega); have d2 := QP.out.c 2 (by omega); have d3 := QP.out.c 3 (by omega)
      clear hm0
      go_wp2_with fail
      obtain ⟨e0, e1, e2, e3⟩ := put4_reads Q3.out g
      unfold put4 at e0 e1 e2 e3
      exact bodyPost_ret (v := .tuple #[.agg (words g), .int .i64 ((k + name.size + 2 : Nat) : Int), .int .i64 0]) (by simp [results, Tryz.results104, go_sem, e0, e1, e2, e3, words]) rfl ⟨g, k + name.size + 2, 0, rfl, Lib.hid ⟨hg.out.fits, fun _ => ⟨by omega, hl⟩⟩, below_put4 B3.out (by omega) g⟩
    · have hd : decide (0 < m) = false := decide_eq_false hm0
      clear hm0
      go_wp2_with fail
      obtain ⟨e0, e1, e2, e3⟩ := zput_reads Q3.out
      exact bodyPost_ret (v := .tuple #[.agg (words zero4), .int .i64 ((0 : Nat) : Int), .int .i64 40]) (by simp [results, Tryz.results104, go_sem, e0, e1, e2, e3, words, zero4]) rfl ⟨zero4, 0, 40, rfl, Lib.hid ⟨fits_zero, fun h => absurd h (by decide)⟩, below_put4 B3.out (by omega) zero4⟩
end Go.Proofs.YtimipfdknfdbdaaGreat
