/- class.list: a walk. -/
import Derived.Test.YtdhndfmblmcapaaDoorHas
import Derived.Test.YtdhndfmblmcapaaDoorBuild
namespace Go.Proofs.YtdhndfmblmcapaaDoor
open Go.RowKit

/-- Whether a byte is written behind a stroke. -/
def spc (c : Nat) : Bool := decide (c = 94) || decide (c = 45) || decide (c = 93) || decide (c = 91) || decide (c = 92)
def escOf (c : Nat) : List UInt8 := if spc c = true then [92, c.toUInt8] else [c.toUInt8]
/-- The bytes of a set below k, as they are written. -/
def listTo (p : Nat → Bool) : Nat → List UInt8
  | 0 => []
  | k + 1 => listTo p k ++ if p k = true then escOf k else []

theorem listTo_len (p : Nat → Bool) : ∀ k, (listTo p k).length ≤ 2 * k
  | 0 => Nat.le_refl _
  | k + 1 => by
    have h := listTo_len p k
    have h2 : (if p k = true then escOf k else []).length ≤ 2 := by unfold escOf; split <;> (try split) <;> simp
    show (listTo p k ++ _).length ≤ _
    rw [List.length_append]
    omega
theorem spc_index : ∀ c : Fin 256, decide (0 ≤ Lib.indexByte [94, 45, 93, 91, 92] c.val.toUInt8) = spc c.val := by decide +kernel
theorem index_spec (k : Nat) (w : World) :
    Calls Tryd.prog 28 #[.string ⟨#[94, 45, 93, 91, 92]⟩, .int .u8 (k : Int)] w fun e w' => e = .returned (.int .i64 (Lib.indexByte [94, 45, 93, 91, 92] k.toUInt8)) ∧ w' = w := Tryd.strings_IndexByte ⟨#[94, 45, 93, 91, 92]⟩ (k : Int) w
theorem byteCells_snoc (l : List UInt8) (c : UInt8) : Lib.byteCells (l ++ [c]) = Lib.byteCells l ++ [.int .u8 (c.toNat : Int)] := by simp [Lib.byteCells]
theorem u8_nat {k : Nat} (h : k < 256) : (k.toUInt8).toNat = k := by simp; omega

set_option maxRecDepth 100000 in
theorem list_spec (f : Nat → Nat) (hf : Fits f) (w : World) :
    Calls Tryd.prog 52 #[.agg (words f)] w fun e w' => e = .returned (.string ⟨(listTo (bit f) 256).toArray⟩) ∧ Below w.heap.size w w' := by
  have HH := Lib.hid (fun c hc w => has_exact f hf c hc w)
  go_enter Tryd.func52, Tryd.ntmps52
  go_wp2_with fail
  obtain ⟨W, hW, HB⟩ : ∃ W, W = (w.alloc (.cells (words f) 24)).alloc (.cells #[.pointer none, .slice none 0 0] 43) ∧ Hid (Quad W w.heap.size f ∧ Lib.IsBuilderF 43 5 (w.heap.size + 1) (w.heap.size + 1) (Lib.byteCells []) W ∧ Below w.heap.size w W) := by
    refine ⟨_, rfl, Lib.hid ⟨(quad_new w f _).after (below_new _ _), ?_, Below.step (below_new _ _) (below_new _ _)⟩⟩
    have h := Lib.IsBuilderF.of (Lib.fresh_isBuilder 43 5 (w.alloc (.cells (words f) 24)))
    rw [World.size_alloc] at h
    exact h
  rw [← hW]
  clear hW
  go_loopw [6] (fun y wr => ∃ k : Nat, y = .int .i64 k ∧ k ≤ 256 ∧ Hid (Quad wr w.heap.size f ∧ Lib.IsBuilderF 43 5 (w.heap.size + 1) (w.heap.size + 1) (Lib.byteCells (listTo (bit f) k)) wr ∧ Below w.heap.size w wr)) (fun y _ => 256 - (intOf y).toNat)
  case atStart => exact ⟨0, rfl, by omega, HB⟩
  case round =>
    obtain ⟨k, rfl, hk, hI⟩ := hrel
    by_cases hgo : k < 256
    · have hq := hI.out.1
      have c0 := hq.c 0 (by omega); have c1 := hq.c 1 (by omega); have c2 := hq.c 2 (by omega); have c3 := hq.c 3 (by omega)
      have HQ := Lib.hid hq; clear hq
      have hlen := listTo_len (bit f) k
      have hbl := Lib.byteCells_length (listTo (bit f) k)
      have hlt := HQ.out.lt
      have hge := HB.out.1.lt
      have hsz := hI.out.2.1
      have hss : w.heap.size + 1 < wr.heap.size := by
        rcases hsz with h | h
        · exact h.lt
        · exact h.lt
      clear hsz
      have HJ := Lib.hid (hI.out.2.1.alloc (.cells (words f) 24))
      have HL := Lib.hid hlen; clear hlen
      have HBL := Lib.hid hbl; clear hbl
      have HIk : ∀ w, Calls _ _ _ w _ := fun w => index_spec k w
      obtain ⟨I, hi⟩ : ∃ I, I = Lib.indexByte [94, 45, 93, 91, 92] k.toUInt8 := ⟨_, rfl⟩
      rw [← hi] at HIk
      have hS : decide (0 ≤ I) = spc k := by rw [hi]; exact spc_index ⟨k, hgo⟩
      have HIK := Lib.hid HIk; clear HIk
      clear hi
      go_wp2_with fail
      refine (HH.out k hgo _).mono ?_
      rintro e w1 ⟨rfl, rfl⟩
      clear c0 c1 c2 c3
      obtain ⟨w1, hw1, Q1, B1, S1⟩ : ∃ w1, w1 = wr.alloc (Obj.cells (words f) 24) ∧ Hid (Quad w1 w.heap.size f) ∧ Hid (Below w.heap.size w w1) ∧ w.heap.size + 1 < w1.heap.size :=
        ⟨_, rfl, Lib.hid (HQ.out.after (below_new _ _)), Lib.hid (Below.step hI.out.2.2 (below_new _ _)), by rw [World.size_alloc]; omega⟩
      rw [← hw1] at HJ ⊢
      clear hw1
      cases hb : bit f k
      case false =>
        go_wp2_with fail
        go_roundw
        case rel => exact ⟨k + 1, by go_num, by omega, Lib.hid ⟨Q1.out, by show Lib.IsBuilderF _ _ _ _ (Lib.byteCells (listTo (bit f) k ++ if bit f k = true then escOf k else [])) _; rw [hb]; simpa using HJ.out, B1.out⟩⟩
        case measure => simp [intOf]; omega
      case true =>
        go_wp2_with fail
        refine (HIK.out _).mono ?_
        rintro e w2 ⟨rfl, rfl⟩
        cases hsp : spc k
        case true =>
          have h0 : (0 : Int) ≤ I := by rw [hsp] at hS; exact of_decide_eq_true hS
          clear hS
          go_wp2_with fail
          refine (writeByte_k (w.heap.size + 1) (w.heap.size + 1) _ 92 _ HJ.out (by have := HL.out; have := HBL.out; omega) (by omega)).mono ?_
          rintro e w3 ⟨rfl, j3, b3, _⟩
          have J3 := Lib.hid j3; clear j3
          have B3 := Lib.hid b3; clear b3
          have S3 := B3.out.size
          go_wp2_with fail
          refine (writeByte_k (w.heap.size + 1) (w.heap.size + 1) _ (k : Int) _ (Or.inr J3.out) (by have := HL.out; have := HBL.out; simp; omega) (by omega)).mono ?_
          rintro e w4 ⟨rfl, j4, b4, _⟩
          have J4 := Lib.hid j4; clear j4
          have B4 := Lib.hid b4; clear b4
          go_wp2_with fail
          go_roundw
          case rel =>
            refine ⟨k + 1, by go_num, by omega, Lib.hid ⟨(Q1.out.below B3.out (by omega)).below B4.out (by omega), Or.inr ?_, B1.out.trans ((B3.out.trans B4.out).mono (by omega))⟩⟩
            have := J4.out
            show Lib.BuilderAtF _ _ _ _ _ (Lib.byteCells (listTo (bit f) k ++ if bit f k = true then escOf k else [])) _
            rw [if_pos hb]
            unfold escOf
            rw [if_pos hsp, show [92, k.toUInt8] = [(92 : UInt8)] ++ [k.toUInt8] from rfl, ← List.append_assoc, byteCells_snoc, byteCells_snoc, u8_nat hgo]
            exact this
          case measure => simp [intOf]; omega
        case false =>
          have h0 : I < (0 : Int) := by rw [hsp] at hS; have := of_decide_eq_false hS; omega
          clear hS
          go_wp2_with fail
          refine (writeByte_k (w.heap.size + 1) (w.heap.size + 1) _ (k : Int) _ HJ.out (by have := HL.out; have := HBL.out; omega) (by omega)).mono ?_
          rintro e w4 ⟨rfl, j4, b4, _⟩
          have J4 := Lib.hid j4; clear j4
          have B4 := Lib.hid b4; clear b4
          go_wp2_with fail
          go_roundw
          case rel =>
            refine ⟨k + 1, by go_num, by omega, Lib.hid ⟨Q1.out.below B4.out (by omega), Or.inr ?_, B1.out.trans (B4.out.mono (by omega))⟩⟩
            have := J4.out
            show Lib.BuilderAtF _ _ _ _ _ (Lib.byteCells (listTo (bit f) k ++ if bit f k = true then escOf k else [])) _
            rw [if_pos hb]
            unfold escOf
            rw [if_neg (by rw [hsp]; decide), byteCells_snoc, u8_nat hgo]
            exact this
          case measure => simp [intOf]; omega
    · obtain rfl : k = 256 := by omega
      have hss : w.heap.size + 1 < wr.heap.size := by
        rcases hI.out.2.1 with h | h
        · exact h.lt
        · exact h.lt
      have HS := Lib.hid (Tryd.Builder_String_any_k (w.heap.size + 1) (w.heap.size + 1) _ wr hI.out.2.1 (by omega))
      go_wp2_with fail
      refine HS.out.mono ?_
      rintro e w3 ⟨rfl, _, b3, _⟩
      have B3 := Lib.hid b3; clear b3
      go_wp2_with fail
      go_ret
      exact ⟨rfl, hI.out.2.2.trans (B3.out.mono (by omega))⟩
end Go.Proofs.YtdhndfmblmcapaaDoor
