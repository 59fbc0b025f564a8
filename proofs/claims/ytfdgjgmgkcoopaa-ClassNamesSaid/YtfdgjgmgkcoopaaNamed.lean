/- class.Named: a walk. -/
import Derived.StillTailTactics
import Derived.Test.YtfdgjgmgkcoopaaSpans
import Derived.Test.YtfdgjgmgkcoopaaMember
namespace Go.Proofs.Ytfdgjgmgkcoopaa
open Go.RowKit

/-- Whether a byte is in one of the first k spans. -/
def inSpans (l : List UInt8) : Nat → Nat → Bool
  | 0, _ => false
  | k + 1, c => inSpans l k c || (decide ((l.getD (2 * k) 0).toNat ≤ c) && decide (c ≤ (l.getD (2 * k + 1) 0).toNat))

theorem getD_at {s : ByteArray} {i : Nat} (h : i < s.size) : (s.data.toList.getD i 0) = s[i] := by
  have h2 : i < s.data.toList.length := by simpa using h
  rw [List.getD_eq_getElem?_getD, List.getElem?_eq_getElem h2]
  rfl

theorem not_empty (l : ByteArray) (k : Nat) (h : l.size = 2 * k) : (!l.toList.isEmpty) = decide (0 < k) := by
  rw [ByteArray.toList_eq]
  have hs : l.data.toList.length = 2 * k := by simpa using h
  cases hl : l.data.toList with
  | nil =>
    rw [hl] at hs
    have h0 : k = 0 := by simp at hs; omega
    subst h0
    rfl
  | cons a r => rw [hl] at hs; simp at hs; simp; omega

structure NInv (l : List UInt8) (k : Nat) (g : Nat → Nat) : Prop where
  fits : Fits g
  bits : ∀ c, c < 256 → bit g c = inSpans l k c

set_option maxRecDepth 100000 in
theorem named_spec (name : ByteArray) (m : Nat) (hm : (spansOf name).size = 2 * m) (hm4 : m ≤ 4) (w : World) :
    Calls Try.prog 13 #[.string name] w fun e w' => ∃ g, e = .returned (.tuple #[.agg (words g), .bool (decide (0 < m))]) ∧ Hid (NInv (spansOf name).data.toList m g) ∧ Below w.heap.size w w' := by
  have HS := Lib.hid (fun w => spans_spec name w)
  obtain ⟨l, hl⟩ : ∃ l, l = spansOf name := ⟨_, rfl⟩
  rw [← hl] at HS hm ⊢
  clear hl
  have hl8 : l.size ≤ 8 := by omega
  have HM := Lib.hid hm; clear hm
  go_enter Try.func13, Try.ntmps13
  go_wp2_with fail
  refine (HS.out _).mono ?_
  rintro e w1 ⟨rfl, rfl⟩
  go_wp2_with fail
  obtain ⟨W, hW, Q0, Q1, HB⟩ := boxed2 w zero4 zero4 24 24
  change Code.wp _ _ _ _ ((w.alloc (Obj.cells (words zero4) 24)).alloc (Obj.cells (words zero4) 24))
  rw [← hW]
  clear hW
  go_loopw [6] (fun x wr => ∃ (p k : Nat) (g : Nat → Nat), x = .int .i64 p ∧ p ≤ l.size ∧ Hid (p = 2 * k) ∧ Hid (NInv l.data.toList k g) ∧ Hid (Quad wr w.heap.size zero4) ∧ Hid (Quad wr (w.heap.size + 1) g) ∧ Hid (Below w.heap.size w wr)) (fun x _ => l.size - (intOf x).toNat)
  case atStart => exact ⟨0, 0, zero4, rfl, by omega, Lib.hid rfl, Lib.hid ⟨fits_zero, fun c _ => bit_zero c⟩, Q0, Q1, HB⟩
  case round =>
    obtain ⟨p, k, g, rfl, hp, HK, hI, q0, q1, hB⟩ := hrel
    by_cases hgo : p < l.size
    · have h1 : p + 1 < l.size := by have := HK.out; have := HM.out; omega
      have HA := Lib.hid (fun w => add_spec g hI.out.fits l[p].toNat l[p + 1].toNat l[p].toNat_lt l[p + 1].toNat_lt w)
      have c0 := q1.out.c 0 (by omega); have c1 := q1.out.c 1 (by omega); have c2 := q1.out.c 2 (by omega); have c3 := q1.out.c 3 (by omega)
      have hi1 : (p : Int) < l.size := by omega
      have hi2 : (p : Int) + 1 < l.size := by omega
      have hi3 : (0 : Int) ≤ (p : Int) + 1 := by omega
      have hw1 : IntKind.i64.wrap ((p : Int) + 1) = (p : Int) + 1 := by rw [IntKind.wrap_i64]; omega
      go_upto_region 6 with (fail)
      go_still_tail 8, (by kernel_rfl)
      change wpList _ _ _ _ _ wr.drew
      clear c0 c1 c2 c3
      go_wp2_with fail
      refine (HA.out _).mono ?_
      rintro e w5 ⟨g', rfl, hS, b5⟩
      have q0' := Lib.hid ((q0.out.after (below_drew _)).after b5)
      have q1' := Lib.hid ((q1.out.after (below_drew _)).after b5)
      have hB' := Lib.hid (Below.step (Below.step hB.out (below_drew _)) b5)
      clear b5
      have z0 := q1'.out.z 0 (by omega); have z1 := q1'.out.z 1 (by omega); have z2 := q1'.out.z 2 (by omega); have z3 := q1'.out.z 3 (by omega)
      have y0 := q1'.out.c 0 (by omega); have y1 := q1'.out.c 1 (by omega); have y2 := q1'.out.c 2 (by omega); have y3 := q1'.out.c 3 (by omega)
      simp only [words]
      go_wp2_with fail
      go_roundw
      case rel =>
        refine ⟨p + 2, k + 1, g', by go_num, by omega, Lib.hid (by have := HK.out; omega), Lib.hid ⟨hS.out.1, fun c hc => ?_⟩, Lib.hid (q0'.out.put4_other (by omega) g'), Lib.hid (q1'.out.put4 g'), Lib.hid (below_put4 hB'.out (by omega) g')⟩
        have hk := HK.out
        subst hk
        rw [hS.out.2 c hc, hI.out.bits c hc]
        show _ = (inSpans l.data.toList k c || (decide ((l.data.toList.getD (2 * k) 0).toNat ≤ c) && decide (c ≤ (l.data.toList.getD (2 * k + 1) 0).toNat)))
        rw [getD_at hgo, getD_at h1, decide_eq_decide.2 (show c < l[2 * k + 1].toNat + 1 ↔ c ≤ l[2 * k + 1].toNat by omega)]
      case measure => simp [intOf]; omega
    · obtain rfl : p = l.size := by omega
      obtain rfl : k = m := by have := HK.out; have := HM.out; omega
      have c0 := q1.out.c 0 (by omega); have c1 := q1.out.c 1 (by omega); have c2 := q1.out.c 2 (by omega); have c3 := q1.out.c 3 (by omega)
      have z0 := q0.out.z 0 (by omega); have z1 := q0.out.z 1 (by omega); have z2 := q0.out.z 2 (by omega); have z3 := q0.out.z 3 (by omega)
      have y0 := q0.out.c 0 (by omega); have y1 := q0.out.c 1 (by omega); have y2 := q0.out.c 2 (by omega); have y3 := q0.out.c 3 (by omega)
      go_wp2_with fail
      obtain ⟨e0, e1, e2, e3⟩ := put4_reads q0.out g
      unfold put4 at e0 e1 e2 e3
      refine bodyPost_ret (v := .tuple #[.agg (words g), .bool (!l.toList.isEmpty)]) (by simp [results, Try.results13, go_sem, e0, e1, e2, e3, words]) rfl ⟨g, ?_, hI, below_put4 hB.out (by omega) g⟩
      exact congrArg (fun x => Ending.returned (.tuple #[.agg (words g), .bool x])) (not_empty l k HM.out)
end Go.Proofs.Ytfdgjgmgkcoopaa
