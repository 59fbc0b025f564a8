/- ere.Plain: a walk; the pattern of just a text. -/
import Derived.Test.YtdhndfmblmcapaaDoorLives
namespace Go.Proofs.YtdhndfmblmcapaaDoor
open Go.RowKit

/-- The bytes that get a \. -/
def signB (c : UInt8) : Bool := ([46, 91, 93, 40, 41, 123, 125, 42, 43, 63, 124, 94, 36, 92] : List UInt8).contains c
def textC (c : UInt8) : List UInt8 := if signB c = true then [92, c] else [c]
def plainL (l : List UInt8) : List UInt8 := l.flatMap textC
theorem plainL_len (l : List UInt8) : (plainL l).length ≤ 2 * l.length := by
  induction l with
  | nil => exact Nat.le_refl _
  | cons c l ih =>
    have : (textC c).length ≤ 2 := by unfold textC; split <;> simp
    rw [show plainL (c :: l) = textC c ++ plainL l from rfl, List.length_append, List.length_cons]
    omega
theorem plainL_snoc (l : List UInt8) (c : UInt8) : plainL (l ++ [c]) = plainL l ++ textC c := by simp [plainL]
theorem sign_index (c : UInt8) : decide (0 ≤ Lib.indexByte [46, 91, 93, 40, 41, 123, 125, 42, 43, 63, 124, 94, 36, 92] c) = signB c := by
  have h := indexByte_iff [46, 91, 93, 40, 41, 123, 125, 42, 43, 63, 124, 94, 36, 92] c
  unfold signB
  rw [Bool.eq_iff_iff, decide_eq_true_eq, h, List.contains_iff_mem]

set_option maxRecDepth 100000 in
set_option maxHeartbeats 1000000 in
theorem plain_spec (s : ByteArray) (hs : s.size ≤ 200) (w : World) :
    Calls Tryd.prog 17 #[.string s] w fun e w' => e = .returned (.string ⟨(plainL s.data.toList).toArray⟩) ∧ Below w.heap.size w w' := by
  go_enter Tryd.func17, Tryd.ntmps17
  go_wp2_with fail
  obtain ⟨W, hW, HW, HB⟩ : ∃ W, W = w.alloc (.cells #[.pointer none, .slice none 0 0] 43) ∧ Hid (BOk w.heap.size w.heap.size [] W) ∧ Hid (Below w.heap.size w W) :=
    ⟨_, rfl, Lib.hid ⟨Lib.IsBuilderF.of (Lib.fresh_isBuilder 43 5 w), by rw [World.size_alloc]; omega⟩, Lib.hid (below_new _ _)⟩
  rw [← hW]
  clear hW
  go_loopw [7] (fun y wr => ∃ i : Nat, y = .int .i64 i ∧ i ≤ s.size ∧ Hid (Wrote w.heap.size w.heap.size (plainL (s.data.toList.take i)) W wr)) (fun y _ => s.size - (intOf y).toNat)
  case atStart => exact ⟨0, rfl, by omega, Lib.hid (by rw [List.take_zero]; exact .refl HW.out)⟩
  case round =>
    obtain ⟨i, rfl, hi, hw⟩ := hrel
    by_cases hgo : i < s.size
    · have htk : s.data.toList.take (i + 1) = s.data.toList.take i ++ [s[i]] := by
        rw [List.take_succ_eq_append_getElem (by simpa using hgo)]; rfl
      have HTK := Lib.hid htk
      have hl : Hid ((plainL (s.data.toList.take i)).length ≤ 400) := Lib.hid (by have := plainL_len (s.data.toList.take i); have h2 : (s.data.toList.take i).length ≤ i := List.length_take_le _ _; omega)
      have HIk : ∀ w, Calls _ _ _ w _ := fun w => Tryd.strings_IndexByte ⟨#[46, 91, 93, 40, 41, 123, 125, 42, 43, 63, 124, 94, 36, 92]⟩ (s[i].toNat : Int) w
      have hu : ((s[i].toNat : Int).toNat.toUInt8) = s[i] := by simp
      rw [hu] at HIk
      have hS : decide (0 ≤ Lib.indexByte [46, 91, 93, 40, 41, 123, 125, 42, 43, 63, 124, 94, 36, 92] s[i]) = signB s[i] := sign_index s[i]
      obtain ⟨I, hI⟩ : ∃ I, I = Lib.indexByte [46, 91, 93, 40, 41, 123, 125, 42, 43, 63, 124, 94, 36, 92] s[i] := ⟨_, rfl⟩
      have HIK : Hid (∀ w, Calls Tryd.prog 28 #[.string ⟨#[46, 91, 93, 40, 41, 123, 125, 42, 43, 63, 124, 94, 36, 92]⟩, .int .u8 s[i].toNat] w fun e w' => e = .returned (.int .i64 I) ∧ w' = w) := Lib.hid (by rw [hI]; exact HIk)
      rw [← hI] at hS
      clear htk hu HIk hI
      cases hb : signB s[i] with
      | true =>
        rw [hb] at hS
        have HS := Lib.hid hb
        clear hb
        go_wp2_with fail
        refine (HIK.out _).mono ?_
        rintro e w1 ⟨rfl, rfl⟩
        have H1 := Lib.hid (byte_spec w.heap.size w.heap.size _ 92 w1 hw.out.ok (by have := hl.out; omega))
        go_wp2_with fail
        refine H1.out.mono ?_
        rintro e w2 ⟨rfl, hw2⟩
        have W2 := Lib.hid (hw.out.trans hw2)
        clear hw2
        have H2 := Lib.hid (byte_spec w.heap.size w.heap.size _ s[i] w2 W2.out.ok (by have := hl.out; rw [List.length_append, List.length_singleton]; omega))
        go_wp2_with fail
        refine H2.out.mono ?_
        rintro e w3 ⟨rfl, hw3⟩
        have W3 := Lib.hid (W2.out.trans hw3)
        clear hw3
        go_wp2_with fail
        go_roundw
        case rel => exact ⟨i + 1, by go_num, by omega, Lib.hid (by have h := W3.out; rw [HTK.out, plainL_snoc]; unfold textC; rw [if_pos HS.out]; rwa [List.append_assoc] at h)⟩
        case measure => simp [intOf]; omega
      | false =>
        rw [hb] at hS
        have HS := Lib.hid hb
        clear hb
        go_wp2_with fail
        refine (HIK.out _).mono ?_
        rintro e w1 ⟨rfl, rfl⟩
        have H2 := Lib.hid (byte_spec w.heap.size w.heap.size _ s[i] w1 hw.out.ok (by have := hl.out; omega))
        go_wp2_with fail
        refine H2.out.mono ?_
        rintro e w3 ⟨rfl, hw3⟩
        have W3 := Lib.hid (hw.out.trans hw3)
        clear hw3
        go_wp2_with fail
        go_roundw
        case rel => exact ⟨i + 1, by go_num, by omega, Lib.hid (by have h := W3.out; rw [HTK.out, plainL_snoc]; unfold textC; rw [if_neg (by rw [HS.out]; decide)]; exact h)⟩
        case measure => simp [intOf]; omega
    · obtain rfl : i = s.size := by omega
      have hw' := hw.out
      rw [List.take_of_length_le (by simp)] at hw'
      have HS := Lib.hid (Tryd.Builder_String_any_f w.heap.size w.heap.size (plainL s.data.toList) wr hw'.ok.is hw'.ok.le)
      have W1 := Lib.hid hw'
      clear hw'
      go_wp2_with fail
      refine HS.out.mono ?_
      rintro e w3 ⟨rfl, _, b3⟩
      have B3 := Lib.hid b3
      clear b3
      go_wp2_with fail
      go_ret
      exact ⟨rfl, HB.out.trans (W1.out.below.trans B3.out)⟩
end Go.Proofs.YtdhndfmblmcapaaDoor
