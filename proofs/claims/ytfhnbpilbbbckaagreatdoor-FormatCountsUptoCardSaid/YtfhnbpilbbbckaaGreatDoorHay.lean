/- Merged by program: G10Fill. -/
import Derived.Test.YtfhnbpilbbbckaaGreatDoorHac
/- The document's digits, Fill of layer 10: walks. -/
namespace Go.Proofs.YtfhnbpilbbbckaaGreatDoor
open Go.RowKit

set_option maxRecDepth 100000 in
theorem fill_any (x : UInt8) (k : Int) (hk : k ≤ 1000000) (w : World) :
    Calls Tryz.prog 42 #[.string ⟨#[x]⟩, .int .i64 k] w fun e w' => e = .returned (.string ⟨(List.replicate k.toNat x).toArray⟩) ∧ w' = w := by
  obtain ⟨c, hc⟩ : ∃ c : ByteArray, c = ⟨#[x]⟩ := ⟨_, rfl⟩
  rw [← hc]
  have hcs : c.size = 1 := by rw [hc]; rfl
  have HC := Lib.hid hc
  clear hc
  go_enter Tryz.func42, Tryz.ntmps42
  go_wp2_with fail
  go_loopw [5, 6] (fun y z wr => ∃ (i : Nat) (X : ByteArray), y = .string X ∧ z = .int .i64 i ∧ i ≤ k.toNat ∧ X.size ≤ i ∧ Hid (X.data.toList = List.replicate i x) ∧ wr = w) (fun _ z _ => k.toNat - (intOf z).toNat)
  case atStart => exact ⟨0, ⟨#[]⟩, rfl, rfl, by omega, Nat.le_refl _, Lib.hid rfl, rfl⟩
  case round =>
    obtain ⟨i, X, rfl, rfl, hi, hXs, hX, hwr⟩ := hrel
    subst hwr
    by_cases hlt : (i : Int) < k
    · have d1 : decide ((i : Int) < k) = true := decide_eq_true hlt
      have n1 : ¬ 9223372036854775807 < X.size + c.size := by omega
      have HX2 : Hid ((X ++ c).data.toList = List.replicate (i + 1) x) := Lib.hid (by
        have e : (X ++ c).data.toList = X.data.toList ++ c.data.toList := by simp
        rw [e, hX.out, HC.out, List.replicate_succ'])
      have HXn : Hid ((X ++ c).size ≤ i + 1) := Lib.hid (by rw [ByteArray.size_append]; omega)
      clear hX
      go_wp2_with fail
      go_roundw
      case rel => exact ⟨i + 1, X ++ c, rfl, by go_num, by omega, HXn.out, HX2, trivial⟩
      case measure => simp [intOf]; omega
    · have d1 : decide ((i : Int) < k) = false := decide_eq_false hlt
      have hE : Hid (X = ⟨(List.replicate k.toNat x).toArray⟩) := Lib.hid (by
        rw [show k.toNat = i from by omega, ← hX.out])
      clear hX
      go_wp2_with fail
      go_ret
      have h := hE.out
      exact ⟨by show Ending.returned (Value.string X) = _; rw [h]; simp, rfl⟩

set_option maxRecDepth 100000 in
theorem rdigs_any (f : ByteArray) (i : Nat) (hi : i ≤ f.size) (hs : f.size ≤ 1000000) (w : World) :
    Calls Tryz.prog 35 #[.string f, .int .i64 i] w fun e w' => e = .returned (.tuple #[.int .i64 (digs (f.data.toList.drop i) 0).1, .int .i64 ((i + (digs (f.data.toList.drop i) 0).2 : Nat) : Int)]) ∧ w' = w := by
  obtain ⟨A, hA⟩ : ∃ A, A = digs (f.data.toList.drop i) 0 := ⟨_, rfl⟩
  rw [← hA]
  have HA := Lib.hid hA
  clear hA
  go_enter Tryz.func35, Tryz.ntmps35
  go_wp2_with fail
  go_loopw [1, 6] (fun y z wr => ∃ (j n : Nat), y = .int .i64 j ∧ z = .int .i64 n ∧ i ≤ j ∧ j ≤ f.size ∧ n ≤ 201 ∧ Hid (A = ((digs (f.data.toList.drop j) n).1, (j - i) + (digs (f.data.toList.drop j) n).2)) ∧ wr = w) (fun y _ _ => f.size - (intOf y).toNat)
  case atStart => exact ⟨i, 0, rfl, rfl, Nat.le_refl _, hi, by omega, Lib.hid (by rw [HA.out, Nat.sub_self, Nat.zero_add]), rfl⟩
  case round =>
    obtain ⟨j, n, rfl, rfl, hij, hj, hn, hE, hwr⟩ := hrel
    subst hwr
    by_cases hlt : j < f.size
    · have d1 : decide ((j : Int) < f.size) = true := decide_eq_true (by omega)
      have hdr : f.data.toList.drop j = f[j] :: f.data.toList.drop (j + 1) := List.drop_eq_getElem_cons (by simpa using hlt)
      have hb : f[j].toNat < 256 := f[j].toNat_lt
      by_cases h48 : 48 ≤ f[j].toNat
      · have d2 : decide ((48 : Int) ≤ (f[j].toNat : Int)) = true := decide_eq_true (by omega)
        by_cases h57 : f[j].toNat ≤ 57
        · have d3 : decide ((f[j].toNat : Int) ≤ 57) = true := decide_eq_true (by omega)
          have hw1 : IntKind.u8.wrap ((f[j].toNat : Int) - 48) = (f[j].toNat : Int) - 48 := by rw [IntKind.wrap_u8]; omega
          have hw2 : IntKind.i64.wrap ((f[j].toNat : Int) - 48) = (f[j].toNat : Int) - 48 := by rw [IntKind.wrap_i64]; omega
          have hdg : digs (f.data.toList.drop j) n = ((digs (f.data.toList.drop (j + 1)) (if 200 < n * 10 + (f[j].toNat - 48) then 201 else n * 10 + (f[j].toNat - 48))).1, (digs (f.data.toList.drop (j + 1)) (if 200 < n * 10 + (f[j].toNat - 48) then 201 else n * 10 + (f[j].toNat - 48))).2 + 1) := by
            rw [hdr]
            show (if _ then _ else _) = _
            rw [if_pos ⟨h48, h57⟩]
          by_cases h200 : 200 < n * 10 + (f[j].toNat - 48)
          · have d4 : decide ((200 : Int) < (n : Int) * 10 + ((f[j].toNat : Int) - 48)) = true := decide_eq_true (by omega)
            have HE2 : Hid (A = ((digs (f.data.toList.drop (j + 1)) 201).1, j + 1 - i + (digs (f.data.toList.drop (j + 1)) 201).2)) := Lib.hid (by
              rw [hE.out, hdg, if_pos h200]
              show (_, _) = (_, _)
              rw [show j - i + ((digs (f.data.toList.drop (j + 1)) 201).2 + 1) = j + 1 - i + (digs (f.data.toList.drop (j + 1)) 201).2 from by omega])
            clear hE hdg hdr h200
            go_wp2_with fail
            go_roundw
            case rel => exact ⟨j + 1, 201, by go_num, rfl, by omega, by omega, Nat.le_refl _, HE2, trivial⟩
            case measure => simp [intOf]; omega
          · have d4 : decide ((200 : Int) < (n : Int) * 10 + ((f[j].toNat : Int) - 48)) = false := decide_eq_false (by omega)
            have HE2 : Hid (A = ((digs (f.data.toList.drop (j + 1)) (n * 10 + (f[j].toNat - 48))).1, j + 1 - i + (digs (f.data.toList.drop (j + 1)) (n * 10 + (f[j].toNat - 48))).2)) := Lib.hid (by
              rw [hE.out, hdg, if_neg h200]
              show (_, _) = (_, _)
              rw [show j - i + ((digs (f.data.toList.drop (j + 1)) (n * 10 + (f[j].toNat - 48))).2 + 1) = j + 1 - i + (digs (f.data.toList.drop (j + 1)) (n * 10 + (f[j].toNat - 48))).2 from by omega])
            have hn2 : n * 10 + (f[j].toNat - 48) ≤ 201 := by omega
            clear hE hdg hdr h200
            go_wp2_with fail
            go_roundw
            case rel => exact ⟨j + 1, n * 10 + (f[j].toNat - 48), by go_num, by go_num, by omega, by omega, hn2, HE2, trivial⟩
            case measure => simp [intOf]; omega
        · have d3 : decide ((f[j].toNat : Int) ≤ 57) = false := decide_eq_false (by omega)
          have hEE : Hid (A = (n, j - i)) := Lib.hid (by
            rw [hE.out, hdr]
            have e : digs (f[j] :: f.data.toList.drop (j + 1)) n = (n, 0) := by
              show (if _ then _ else _) = _
              rw [if_neg (by omega)]
            rw [e]; rfl)
          clear hE hdr
          go_wp2_with fail
          go_ret2
          exact ⟨by rw [hEE.out]; show _ = Ending.returned (.tuple #[.int .i64 (n : Nat), .int .i64 ((i + (j - i) : Nat) : Int)]); rw [show i + (j - i) = j from by omega]; rfl, rfl⟩
      · have d2 : decide ((48 : Int) ≤ (f[j].toNat : Int)) = false := decide_eq_false (by omega)
        have hEE : Hid (A = (n, j - i)) := Lib.hid (by
          rw [hE.out, hdr]
          have e : digs (f[j] :: f.data.toList.drop (j + 1)) n = (n, 0) := by
            show (if _ then _ else _) = _
            rw [if_neg (by omega)]
          rw [e]; rfl)
        clear hE hdr
        go_wp2_with fail
        go_ret2
        exact ⟨by rw [hEE.out]; show _ = Ending.returned (.tuple #[.int .i64 (n : Nat), .int .i64 ((i + (j - i) : Nat) : Int)]); rw [show i + (j - i) = j from by omega]; rfl, rfl⟩
    · have d1 : decide ((j : Int) < f.size) = false := decide_eq_false (by omega)
      have hEE : Hid (A = (n, j - i)) := Lib.hid (by
        have hdr : f.data.toList.drop j = [] := List.drop_eq_nil_of_le (by simp; omega)
        rw [hE.out, hdr]; rfl)
      clear hE
      go_wp2_with fail
      go_ret2
      exact ⟨by rw [hEE.out]; show _ = Ending.returned (.tuple #[.int .i64 (n : Nat), .int .i64 ((i + (j - i) : Nat) : Int)]); rw [show i + (j - i) = j from by omega]; rfl, rfl⟩
end Go.Proofs.YtfhnbpilbbbckaaGreatDoor
