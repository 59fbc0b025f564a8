/- put, bracket: walks. -/
import Derived.Test.YtejofdhpegcmjaaLexP
import Derived.Deep.LoopGhost
import Derived.Outline
namespace Go.Proofs.Ytejofdhpegcmjaa
open Go.RowKit

/-- A reading within a quoted was given up; it went on. -/
def FellB (B p : Nat) (a x : Int) (w : World) (e : Ending) (w' : World) : Prop :=
  e = .panicked [{ v := .iface 46 (.agg #[.int .i64 a, .int .i64 x]), recovered := false }] ∧ ButB B p w w'
def PutAt (B g p b0 : Nat) (l : List UInt8) (s : ByteArray) (k : Nat) (L : Tok) (w : World) (e : Ending) (w' : World) : Prop :=
  e = .returned (.tuple #[]) ∧ Qd B g p b0 l w' ∧ Rd w' p s k L ∧ ButB B p w w'
def OutQ (B g p b0 : Nat) (l : List UInt8) (s : ByteArray) (k : Nat) (L : Tok) (o : Option (List UInt8 × Nat)) (w : World) (e : Ending) (w' : World) : Prop := match o with
  | none => FellB B p b0 3 w e w'
  | some r => PutAt B g p b0 (l ++ r.1) s (k + r.2) L w e w'
theorem OutQ.step {B g p b0 : Nat} {l m : List UInt8} {s : ByteArray} {k n : Nat} {L : Tok} {o o1 : Option (List UInt8 × Nat)} {w w1 : World} {e : Ending} {w' : World} (hb : ButB B p w w1) (ho : o = o1.map fun r => (m ++ r.1, r.2 + n))
    (h : OutQ B g p b0 (l ++ m) s (k + n) L o1 w1 e w') : OutQ B g p b0 l s k L o w e w' := by
  subst ho
  cases o1 with
  | none => exact ⟨h.1, hb.trans h.2⟩
  | some r =>
    obtain ⟨h1, h2, h3, h4⟩ := h
    refine ⟨h1, ?_, ?_, hb.trans h4⟩
    · rw [← List.append_assoc]; exact h2
    · have e : k + n + r.2 = k + (r.2 + n) := by omega
      rw [← e]; exact h3

/-- The rest of a bracket. -/
def brN : Nat → List UInt8 → Option (List UInt8 × Nat)
  | _, [] => none
  | q, c :: t => if c.toNat = 10 then none else if c.toNat = 92 then (match t with
      | [] => none
      | d :: u => if d.toNat = 10 then none else (brN 3 u).map fun r => (escN d ++ r.1, r.2 + 2))
    else if q = 3 ∧ c.toNat = 93 then some ([c], 1) else (brN (nextQ q c) t).map fun r => (c :: r.1, r.2 + 1)

set_option maxRecDepth 100000 in
theorem put_plain (B g p b0 : Nat) (l : List UInt8) (s : ByteArray) (k : Nat) (L : Tok) (c : UInt8) (w : World) (hQ : Qd B g p b0 l w) (hR : Rd w p s k L) (hp : p < B) (hl : l.length ≤ 90000) (hc : c.toNat ≠ 92) :
    Calls Try.prog 46 #[.pointer (some ⟨g, 0, none⟩), .int .u8 c.toNat] w (PutAt B g p b0 (l ++ [c]) s k L w) := by
  have HW := Lib.hid (fun w h => qbyte B g p b0 l c w h (by omega))
  have Q := Lib.hid hQ
  have R := Lib.hid hR
  have hb : ((c.toNat : Int) == 92) = false := by simp; omega
  clear hQ hR hc
  go_enter Try.func46, Try.ntmps46
  go_wp2_with fail
  refine (HW.out _ Q.out).mono ?_
  rintro e w1 ⟨rfl, Q1, b1⟩
  have HQ1 := Lib.hid Q1
  have HR1 := Lib.hid (R.out.keep (b1.block p hp))
  have HB1 := Lib.hid (ButB.of (p := p) b1)
  clear Q1 b1
  go_wp2_with fail
  refine bodyPost_ret (results_none rfl _ _ _) rfl ?_
  exact ⟨rfl, HQ1.out, HR1.out, HB1.out⟩

set_option maxRecDepth 100000 in
theorem put_esc (B g p b0 : Nat) (l : List UInt8) (s : ByteArray) (k : Nat) (L : Tok) (c d : UInt8) (r : List UInt8) (w : World) (hQ : Qd B g p b0 l w) (hR : Rd w p s k L) (hp : p < B) (hl : l.length ≤ 90000) (hs : s.size ≤ 8000) (hc : c.toNat = 92)
    (hd : s.data.toList.drop k = d :: r) (hd10 : d.toNat ≠ 10) :
    Calls Try.prog 46 #[.pointer (some ⟨g, 0, none⟩), .int .u8 c.toNat] w (PutAt B g p b0 (l ++ escN d) s (k + 1) L w) := by
  have HN := Lib.hid (fun w h1 h2 => next_go B g p b0 l s k L d r w h1 h2 hp hd hd10 hs)
  have HB := Lib.hid (fun l c w h (hl : l.length ≤ 100000) => qbyte B g p b0 l c w h hl)
  have Q := Lib.hid hQ
  have R := Lib.hid hR
  rw [hc]
  have HL : Hid (Qd B g p b0 l w → B ≤ w.heap.size) := Lib.hid (fun h => h.le)
  by_cases h47 : d.toNat = 47
  · have HE : Hid (escN d = [d]) := Lib.hid (by unfold escN; rw [if_pos h47])
    have hn47 : ((d.toNat : Int) != 47) = false := by rw [h47]; rfl
    clear hQ hR hc hd hd10 h47
    go_enter Try.func46, Try.ntmps46
    go_wp2_with fail
    refine (HN.out _ Q.out R.out).mono ?_
    rintro e w1 ⟨rfl, Q1, R1, b1⟩
    have HQ1 := Lib.hid Q1
    have HR1 := Lib.hid R1
    have HB1 := Lib.hid (b1.toB Q.out.le)
    clear Q1 R1 b1
    go_wp2_with fail
    refine (HB.out l d _ HQ1.out (by omega)).mono ?_
    rintro e w2 ⟨rfl, Q2, b2⟩
    have HQ2 := Lib.hid Q2
    have HR2 := Lib.hid (HR1.out.keep (b2.block p hp))
    have HB2 := Lib.hid (HB1.out.trans (ButB.of (p := p) b2))
    clear Q2 b2
    go_wp2_with fail
    refine bodyPost_ret (results_none rfl _ _ _) rfl ?_
    exact ⟨rfl, by rw [HE.out]; exact HQ2.out, HR2.out, HB2.out⟩
  · have HE : Hid (escN d = [92, d]) := Lib.hid (by unfold escN; rw [if_neg h47])
    have hn47 : ((d.toNat : Int) != 47) = true := by simp; omega
    clear hQ hR hc hd hd10 h47
    go_enter Try.func46, Try.ntmps46
    go_wp2_with fail
    refine (HN.out _ Q.out R.out).mono ?_
    rintro e w1 ⟨rfl, Q1, R1, b1⟩
    have HQ1 := Lib.hid Q1
    have HR1 := Lib.hid R1
    have HB1 := Lib.hid (b1.toB Q.out.le)
    clear Q1 R1 b1
    go_wp2_with fail
    refine (HB.out l 92 _ HQ1.out (by omega)).mono ?_
    rintro e w2 ⟨rfl, Q2, b2⟩
    have HQ2 := Lib.hid Q2
    have HR2 := Lib.hid (HR1.out.keep (b2.block p hp))
    have HB2 := Lib.hid (HB1.out.trans (ButB.of (p := p) b2))
    clear Q2 b2
    go_wp2_with fail
    refine (HB.out (l ++ [92]) d _ HQ2.out (by simp; omega)).mono ?_
    rintro e w3 ⟨rfl, Q3, b3⟩
    have HQ3 := Lib.hid Q3
    have HR3 := Lib.hid (HR2.out.keep (b3.block p hp))
    have HB3 := Lib.hid (HB2.out.trans (ButB.of (p := p) b3))
    clear Q3 b3
    go_wp2_with fail
    refine bodyPost_ret (results_none rfl _ _ _) rfl ?_
    exact ⟨rfl, by rw [HE.out]; have := HQ3.out; rw [List.append_assoc] at this; exact this, HR3.out, HB3.out⟩

set_option maxRecDepth 100000 in
theorem put_bad (B g p b0 : Nat) (l : List UInt8) (s : ByteArray) (k : Nat) (L : Tok) (c : UInt8) (w : World) (hQ : Qd B g p b0 l w) (hR : Rd w p s k L) (hk : k ≤ s.size) (hc : c.toNat = 92)
    (hd : s.data.toList.drop k = [] ∨ ∃ c r, s.data.toList.drop k = c :: r ∧ c.toNat = 10) :
    Calls Try.prog 46 #[.pointer (some ⟨g, 0, none⟩), .int .u8 c.toNat] w (FellB B p b0 3 w) := by
  have HN := Lib.hid (fun w h1 h2 => next_bad B g p b0 l s k L w h1 h2 hk hd)
  have Q := Lib.hid hQ
  have R := Lib.hid hR
  rw [hc]
  clear hQ hR hc hd
  go_enter Try.func46, Try.ntmps46
  go_wp2_with fail
  refine (HN.out _ Q.out R.out).mono ?_
  rintro e w1 ⟨rfl, b1⟩
  have HB1 := Lib.hid (b1.toB Q.out.le)
  clear b1
  go_wp2_with fail
  exact ⟨rfl, rfl, HB1.out⟩
end Go.Proofs.Ytejofdhpegcmjaa
