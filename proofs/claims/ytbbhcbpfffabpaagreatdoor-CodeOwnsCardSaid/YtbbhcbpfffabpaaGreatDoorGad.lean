/- Merged by program: FmtBits, G10Base. -/
import Derived.Laws.Bits64b
import Derived.Test.YtbbhcbpfffabpaaGreatDoorGac
/- strconv.FormatUint at bases 8 and 16: walks. -/
namespace Go.Proofs.YtbbhcbpfffabpaaGreatDoor
open Go.RowKit Go.Sort

theorem setCell_at {w : World} {a : Addr} {v u : Value} (h : w.cell? a = some u) : (w.setCell a v).cell? a = some v := World.cell?_setCell_same w a v h
theorem setCell_else {w : World} {a b : Addr} {v : Value} (h : a ≠ b) : (w.setCell a v).cell? b = w.cell? b := World.cell?_setCell_other w a b v h

/-- A row of 65 bytes whose last ones are these. -/
structure Rm (w0 w : World) (l : List UInt8) : Prop where
  len : l.length ≤ 65
  some_ : ∀ j, j < 65 → ∃ v, w.cell? ⟨w0.heap.size, j, none⟩ = some v
  holds : ∀ j, ∀ h : j < l.length, w.cell? ⟨w0.heap.size, 65 - l.length + j, none⟩ = some (.int .u8 (l[j].toNat : Int))
  free : ∀ j, j < 65 → w.frozen? ⟨w0.heap.size, j, none⟩ = false
  below : Below w0.heap.size w0 w

theorem zeros65 : (#[.int .u8 0, .int .u8 0, .int .u8 0, .int .u8 0, .int .u8 0, .int .u8 0, .int .u8 0, .int .u8 0, .int .u8 0, .int .u8 0, .int .u8 0, .int .u8 0, .int .u8 0, .int .u8 0, .int .u8 0, .int .u8 0, .int .u8 0, .int .u8 0, .int .u8 0, .int .u8 0, .int .u8 0, .int .u8 0, .int .u8 0, .int .u8 0, .int .u8 0, .int .u8 0, .int .u8 0, .int .u8 0, .int .u8 0, .int .u8 0, .int .u8 0, .int .u8 0, .int .u8 0, .int .u8 0, .int .u8 0, .int .u8 0, .int .u8 0, .int .u8 0, .int .u8 0, .int .u8 0, .int .u8 0, .int .u8 0, .int .u8 0, .int .u8 0, .int .u8 0, .int .u8 0, .int .u8 0, .int .u8 0, .int .u8 0, .int .u8 0, .int .u8 0, .int .u8 0, .int .u8 0, .int .u8 0, .int .u8 0, .int .u8 0, .int .u8 0, .int .u8 0, .int .u8 0, .int .u8 0, .int .u8 0, .int .u8 0, .int .u8 0, .int .u8 0, .int .u8 0] : Array Value) = Array.replicate 65 (.int .u8 0) := by rfl
theorem rm_new (w : World) : Rm w (w.alloc (.cells #[.int .u8 0, .int .u8 0, .int .u8 0, .int .u8 0, .int .u8 0, .int .u8 0, .int .u8 0, .int .u8 0, .int .u8 0, .int .u8 0, .int .u8 0, .int .u8 0, .int .u8 0, .int .u8 0, .int .u8 0, .int .u8 0, .int .u8 0, .int .u8 0, .int .u8 0, .int .u8 0, .int .u8 0, .int .u8 0, .int .u8 0, .int .u8 0, .int .u8 0, .int .u8 0, .int .u8 0, .int .u8 0, .int .u8 0, .int .u8 0, .int .u8 0, .int .u8 0, .int .u8 0, .int .u8 0, .int .u8 0, .int .u8 0, .int .u8 0, .int .u8 0, .int .u8 0, .int .u8 0, .int .u8 0, .int .u8 0, .int .u8 0, .int .u8 0, .int .u8 0, .int .u8 0, .int .u8 0, .int .u8 0, .int .u8 0, .int .u8 0, .int .u8 0, .int .u8 0, .int .u8 0, .int .u8 0, .int .u8 0, .int .u8 0, .int .u8 0, .int .u8 0, .int .u8 0, .int .u8 0, .int .u8 0, .int .u8 0, .int .u8 0, .int .u8 0, .int .u8 0] 161)) [] := by
  rw [zeros65]
  refine ⟨by simp, fun j hj => ⟨.int .u8 0, ?_⟩, fun j h => absurd h (by simp), fun j _ => World.frozen?_alloc_new _ _ _ _, below_new _ _⟩
  rw [World.cell?_alloc_new, Array.getElem?_replicate, if_pos hj]
theorem rm_put {w0 w : World} {l : List UInt8} (h : Rm w0 w l) (hl : l.length < 65) (c : UInt8) (k : Nat) (hk : k + l.length = 64) :
    Rm w0 (w.setCell ⟨w0.heap.size, k, none⟩ (.int .u8 (c.toNat : Int))) (c :: l) := by
  obtain ⟨v, hv⟩ := h.some_ k (by omega)
  refine ⟨by simp; omega, fun j hj => ?_, fun j hj => ?_, fun j hj => ?_, h.below.setCell (by simp) _⟩
  · obtain ⟨x, hx⟩ := h.some_ j hj
    exact cell?_setCell_some hx
  · cases j with
    | zero =>
      have e : 65 - (c :: l).length + 0 = k := by simp; omega
      rw [e, setCell_at hv]
      rfl
    | succ j =>
      have e : 65 - (c :: l).length + (j + 1) = 65 - l.length + j := by simp; omega
      have hj' : j < l.length := by simpa using hj
      rw [e, setCell_else (by intro h; injection h with h1 h2; omega), h.holds j hj']
      rfl
  · simp [h.free j hj]
theorem array65 : Tryz.prog.arrayLen 161 = 65 := by kernel_rfl
theorem array65_el : Tryz.prog.elem 161 = 5 := by kernel_rfl
theorem array65_at : Tryz.prog.underlying 161 = some (.array (Tryz.prog.arrayLen 161) (Tryz.prog.elem 161)) := by kernel_rfl
set_option maxRecDepth 100000 in
theorem rm_end {w0 w : World} {l : List UInt8} (h : Rm w0 w l) (k : Nat) (hk : k + l.length = 65) (h1 : 1 ≤ l.length) :
    (∀ c, (convert 66 9 (.slice (some ⟨w0.heap.size, k, none⟩) (65 - k) c)).run Tryz.prog w = .ok (.string ⟨l.toArray⟩) w) ∧ (∀ wx, (Instr.sliceAt 161 (.pointer (some ⟨w0.heap.size, 0, none⟩)) (some (.int .i64 (k : Int))) none none).run Tryz.prog wx = .ok (.slice (some ⟨w0.heap.size, k, none⟩) (65 - k) (65 - k)) wx) := by
  have ha : ∀ o j, Addr.add ⟨w0.heap.size, o, none⟩ j = ⟨w0.heap.size, o + j, none⟩ := fun o j => by
    unfold Addr.add
    split
    · simp [*]
    · rfl
  refine ⟨fun c => ?_, fun wx => ?_⟩
  · have e1 : 65 - k = l.length := by omega
    have e2 : k = 65 - l.length := by omega
    rw [e1]
    refine run_convert_bytes_back w 66 9 5 _ c l Tryz.underlying66 Tryz.underlying5 Tryz.underlying9 ?_
    intro j hj
    rw [ha, e2]
    exact h.holds j hj
  · rw [run_sliceAt_array_l wx 161 _ array65_at .i64 k (by omega) (by rw [array65]; omega), array65, array65_el, Tryz.sizeOf5]
    simp only [Result.andThen, slicedAt, Int.toNat_natCast, Nat.mul_one]
    rw [if_neg (by omega), ha, Nat.zero_add]

theorem byte_nat' {k : Nat} (h : k < 256) : k.toUInt8.toNat = k := by simp [Nat.toUInt8, UInt8.toNat_ofNat']; omega
theorem bdig_nat (d : Nat) (h : d < 10) : ((bdig false d).toNat : Int) = 48 + d := by
  unfold bdig
  rw [if_pos h, byte_nat' (by omega)]; omega
theorem bdig_nat2 (d : Nat) (h : ¬ d < 10) (h2 : d < 100) : ((bdig false d).toNat : Int) = 87 + d := by
  unfold bdig
  rw [if_neg h, if_neg (by decide), byte_nat' (by omega)]; omega

def d36 : ByteArray := ⟨#[48, 49, 50, 51, 52, 53, 54, 55, 56, 57, 97, 98, 99, 100, 101, 102, 103, 104, 105, 106, 107, 108, 109, 110, 111, 112, 113, 114, 115, 116, 117, 118, 119, 120, 121, 122]⟩

set_option maxRecDepth 100000 in
theorem pow2_8 (w : World) : Calls Tryz.prog 161 #[.int .i64 8] w fun e w' => e = .returned (.bool true) ∧ w = w' := by
  have h1 : (bits BinOp.and IntKind.i64 8 7 == 0) = true := by decide +kernel
  go_enter Tryz.func161, Tryz.ntmps161
  go_wp2
  go_ret
  exact ⟨rfl, rfl⟩
set_option maxRecDepth 100000 in
theorem tz_8 (w : World) (hE : Env w) : Calls Tryz.prog 164 #[.int .u64 8] w fun e w' => e = .returned (.int .i64 3) ∧ w = w' := by
  have hc := hE.z8
  have h1 : IntKind.u64.wrap (-8) = 18446744073709551608 := by decide +kernel
  have h2 : bits BinOp.and IntKind.u64 8 18446744073709551608 = 8 := by decide +kernel
  have h3 : IntKind.u64.wrap (2286961704410830920) = 2286961704410830920 := by decide +kernel
  have h4 : (2286961704410830920 : Int) / 288230376151711744 = 7 := by decide +kernel
  go_enter Tryz.func164, Tryz.ntmps164
  go_wp2
  go_ret
  exact ⟨rfl, rfl⟩

set_option maxRecDepth 100000 in
theorem pow2_16 (w : World) : Calls Tryz.prog 161 #[.int .i64 16] w fun e w' => e = .returned (.bool true) ∧ w = w' := by
  have h1 : (bits BinOp.and IntKind.i64 16 15 == 0) = true := by decide +kernel
  go_enter Tryz.func161, Tryz.ntmps161
  go_wp2
  go_ret
  exact ⟨rfl, rfl⟩
set_option maxRecDepth 100000 in
theorem tz_16 (w : World) (hE : Env w) : Calls Tryz.prog 164 #[.int .u64 16] w fun e w' => e = .returned (.int .i64 4) ∧ w = w' := by
  have hc := hE.z16
  have h1 : IntKind.u64.wrap (-16) = 18446744073709551600 := by decide +kernel
  have h2 : bits BinOp.and IntKind.u64 16 18446744073709551600 = 16 := by decide +kernel
  have h3 : IntKind.u64.wrap (4573923408821661840) = 4573923408821661840 := by decide +kernel
  have h4 : (4573923408821661840 : Int) / 288230376151711744 = 15 := by decide +kernel
  go_enter Tryz.func164, Tryz.ntmps164
  go_wp2
  go_ret
  exact ⟨rfl, rfl⟩

set_option maxRecDepth 100000 in
theorem dig_at (d : Nat) (hd : d < 16) (W : World) : (Instr.index 9 (.string ⟨#[48, 49, 50, 51, 52, 53, 54, 55, 56, 57, 97, 98, 99, 100, 101, 102, 103, 104, 105, 106, 107, 108, 109, 110, 111, 112, 113, 114, 115, 116, 117, 118, 119, 120, 121, 122]⟩) (.int .u64 (d : Int))).run Tryz.prog W = .ok (.int .u8 ((bdig false d).toNat : Int)) W := by
  have h : d = 0 ∨ d = 1 ∨ d = 2 ∨ d = 3 ∨ d = 4 ∨ d = 5 ∨ d = 6 ∨ d = 7 ∨ d = 8 ∨ d = 9 ∨ d = 10 ∨ d = 11 ∨ d = 12 ∨ d = 13 ∨ d = 14 ∨ d = 15 := by omega
  rcases h with rfl | rfl | rfl | rfl | rfl | rfl | rfl | rfl | rfl | rfl | rfl | rfl | rfl | rfl | rfl | rfl <;> (show _ = _; kernel_rfl)

set_option maxRecDepth 100000 in
theorem tzz_8 (w : World) (hE : Env w) : Calls Tryz.prog 162 #[.int .u64 8] w fun e w' => e = .returned (.int .i64 3) ∧ w = w' := by
  have H := Lib.hid (tz_8 w hE)
  go_enter Tryz.func162, Tryz.ntmps162
  go_wp2_with (go_at_call 164; refine H.out.mono ?_; rintro e w' ⟨rfl, rfl⟩)
  go_ret
  exact ⟨rfl, rfl⟩
set_option maxRecDepth 100000 in
set_option maxHeartbeats 1000000 in
theorem bits_8 (u : Nat) (hu : u < 18446744073709551616) (w : World) (hE : Env w) :
    Calls Tryz.prog 158 #[.slice none 0 0, .int .u64 u, .int .i64 8, .bool false, .bool false] w fun e w' => e = .returned (.tuple #[.slice none 0 0, .string ⟨(baseS 8 false 64 u).toArray⟩]) ∧ Below w.heap.size w w' := by
  have HZ := Lib.hid (tzz_8 _ (hE.after (below_new w (.cells #[.int .u8 0, .int .u8 0, .int .u8 0, .int .u8 0, .int .u8 0, .int .u8 0, .int .u8 0, .int .u8 0, .int .u8 0, .int .u8 0, .int .u8 0, .int .u8 0, .int .u8 0, .int .u8 0, .int .u8 0, .int .u8 0, .int .u8 0, .int .u8 0, .int .u8 0, .int .u8 0, .int .u8 0, .int .u8 0, .int .u8 0, .int .u8 0, .int .u8 0, .int .u8 0, .int .u8 0, .int .u8 0, .int .u8 0, .int .u8 0, .int .u8 0, .int .u8 0, .int .u8 0, .int .u8 0, .int .u8 0, .int .u8 0, .int .u8 0, .int .u8 0, .int .u8 0, .int .u8 0, .int .u8 0, .int .u8 0, .int .u8 0, .int .u8 0, .int .u8 0, .int .u8 0, .int .u8 0, .int .u8 0, .int .u8 0, .int .u8 0, .int .u8 0, .int .u8 0, .int .u8 0, .int .u8 0, .int .u8 0, .int .u8 0, .int .u8 0, .int .u8 0, .int .u8 0, .int .u8 0, .int .u8 0, .int .u8 0, .int .u8 0, .int .u8 0, .int .u8 0] 161))))
  have R0 := Lib.hid (rm_new w)
  have HU := Lib.hid (Nat.lt_of_lt_of_le hu (by decide : 18446744073709551616 ≤ 8 ^ 64))
  go_enter Tryz.func158, Tryz.ntmps158
  go_wp2_with (first
    | (go_at_call 161; refine (pow2_8 _).mono ?_; rintro e w' ⟨rfl, rfl⟩)
    | (go_at_call 162; refine HZ.out.mono ?_; rintro e w' ⟨rfl, rfl⟩))
  generalize hw0 : w.alloc _ = w0
  rw [hw0] at R0
  clear hw0 HZ
  go_loopw [1, 13] (fun x y wr => ∃ (q m : Nat) (l : List UInt8), x = .int .u64 q ∧ y = .int .i64 (m + 1 : Nat) ∧ m + 1 + l.length = 65 ∧ 1 ≤ m ∧ q < 18446744073709551616 ∧ Hid (Rm w wr l ∧ q < 8 ^ m ∧ baseS 8 false m q ++ l = baseS 8 false 64 u)) (fun x _ _ => (intOf x).toNat)
  case atStart => exact ⟨u, 64, [], rfl, rfl, rfl, by omega, hu, Lib.hid ⟨R0.out, HU.out, by simp⟩⟩
  case round =>
    obtain ⟨q, m, l, rfl, rfl, hlen, hm1, hq, H⟩ := hrel
    have hix : ∀ (d : Nat), d < 8 → ∀ W, (Instr.index 9 (.string ⟨#[48, 49, 50, 51, 52, 53, 54, 55, 56, 57, 97, 98, 99, 100, 101, 102, 103, 104, 105, 106, 107, 108, 109, 110, 111, 112, 113, 114, 115, 116, 117, 118, 119, 120, 121, 122]⟩) (.int .u64 (d : Int))).run Tryz.prog W = .ok (.int .u8 ((bdig false d).toNat : Int)) W := fun d hd W => dig_at d (by omega) W
    have hs0 := H.out.1.some_ m (by omega)
    have hf0 := H.out.1.free m (by omega)
    obtain ⟨v0, hv0⟩ := hs0
    by_cases h : 8 ≤ q
    · have dt : decide ((8 : Int) ≤ (q : Int)) = true := decide_eq_true (by omega)
      have hm2 : 2 ≤ m := by
        rcases Nat.lt_or_ge m 2 with h2 | h2
        · have h3 := H.out.2.1
          obtain rfl : m = 1 := by omega
          omega
        · exact h2
      obtain ⟨d, hd⟩ : ∃ d, d = q % 8 := ⟨_, rfl⟩
      have hd8 : d < 8 := by omega
      have hand : bits BinOp.and IntKind.u64 (q : Int) 7 = (d : Int) := by
        rw [show (7 : Int) = ((7 : Nat) : Int) from rfl, bits_and_u64_nat _ _ hq (by decide), hd]
        exact congrArg Nat.cast (Nat.and_two_pow_sub_one_eq_mod q 3)
      have hix1 := hix d hd8
      have HS := Lib.hid (rm_put H.out.1 (by omega) (bdig false d) m (by omega))
      have hstep : baseS 8 false m q = baseS 8 false (m - 1) (q / 8) ++ [bdig false d] := by
        obtain ⟨n, rfl⟩ : ∃ n, m = n + 1 := ⟨m - 1, by omega⟩
        rw [hd]
        show (if q < 8 then _ else _) = _
        rw [if_neg (by omega)]; rfl
      have hle : q / 8 < 8 ^ (m - 1) := by
        have h3 := H.out.2.1
        obtain ⟨n, rfl⟩ : ∃ n, m = n + 1 := ⟨m - 1, by omega⟩
        rw [Nat.pow_succ] at h3
        rw [Nat.add_sub_cancel]
        omega
      have HT := Lib.hid (⟨hle, hstep⟩ : _ ∧ _)
      clear hd hstep hle hix
      go_wp2_with fail
      go_roundw
      case rel => exact ⟨q / 8, m - 1, bdig false d :: l, by go_num, by go_num, by simp only [List.length_cons]; omega, by omega, by omega, Lib.hid ⟨HS.out, HT.out.1, by rw [← H.out.2.2, HT.out.2]; simp⟩⟩
      case measure => simp [intOf]; omega
    · have dt : decide ((8 : Int) ≤ (q : Int)) = false := decide_eq_false (by omega)
      have hix1 := hix q (by omega)
      have HS := Lib.hid (rm_put H.out.1 (by omega) (bdig false q) m (by omega))
      have hl : bdig false q :: l = baseS 8 false 64 u := by
        rw [← H.out.2.2]
        obtain ⟨n, rfl⟩ : ∃ n, m = n + 1 := ⟨m - 1, by omega⟩
        show _ = (if q < 8 then _ else _) ++ l
        rw [if_pos (by omega)]; rfl
      obtain ⟨hcv, hsl⟩ := rm_end HS.out m (by simp only [List.length_cons]; omega) (by simp)
      have hcv1 := hcv (65 - m)
      rw [hl] at hcv1
      clear hix hcv hl
      go_wp2_with fail
      go_ret2
      exact ⟨rfl, HS.out.below⟩

set_option maxRecDepth 100000 in
theorem tzz_16 (w : World) (hE : Env w) : Calls Tryz.prog 162 #[.int .u64 16] w fun e w' => e = .returned (.int .i64 4) ∧ w = w' := by
  have H := Lib.hid (tz_16 w hE)
  go_enter Tryz.func162, Tryz.ntmps162
  go_wp2_with (go_at_call 164; refine H.out.mono ?_; rintro e w' ⟨rfl, rfl⟩)
  go_ret
  exact ⟨rfl, rfl⟩
set_option maxRecDepth 100000 in
set_option maxHeartbeats 1000000 in
theorem bits_16 (u : Nat) (hu : u < 18446744073709551616) (w : World) (hE : Env w) :
    Calls Tryz.prog 158 #[.slice none 0 0, .int .u64 u, .int .i64 16, .bool false, .bool false] w fun e w' => e = .returned (.tuple #[.slice none 0 0, .string ⟨(baseS 16 false 64 u).toArray⟩]) ∧ Below w.heap.size w w' := by
  have HZ := Lib.hid (tzz_16 _ (hE.after (below_new w (.cells #[.int .u8 0, .int .u8 0, .int .u8 0, .int .u8 0, .int .u8 0, .int .u8 0, .int .u8 0, .int .u8 0, .int .u8 0, .int .u8 0, .int .u8 0, .int .u8 0, .int .u8 0, .int .u8 0, .int .u8 0, .int .u8 0, .int .u8 0, .int .u8 0, .int .u8 0, .int .u8 0, .int .u8 0, .int .u8 0, .int .u8 0, .int .u8 0, .int .u8 0, .int .u8 0, .int .u8 0, .int .u8 0, .int .u8 0, .int .u8 0, .int .u8 0, .int .u8 0, .int .u8 0, .int .u8 0, .int .u8 0, .int .u8 0, .int .u8 0, .int .u8 0, .int .u8 0, .int .u8 0, .int .u8 0, .int .u8 0, .int .u8 0, .int .u8 0, .int .u8 0, .int .u8 0, .int .u8 0, .int .u8 0, .int .u8 0, .int .u8 0, .int .u8 0, .int .u8 0, .int .u8 0, .int .u8 0, .int .u8 0, .int .u8 0, .int .u8 0, .int .u8 0, .int .u8 0, .int .u8 0, .int .u8 0, .int .u8 0, .int .u8 0, .int .u8 0, .int .u8 0] 161))))
  have R0 := Lib.hid (rm_new w)
  have HU := Lib.hid (Nat.lt_of_lt_of_le hu (by decide : 18446744073709551616 ≤ 16 ^ 64))
  go_enter Tryz.func158, Tryz.ntmps158
  go_wp2_with (first
    | (go_at_call 161; refine (pow2_16 _).mono ?_; rintro e w' ⟨rfl, rfl⟩)
    | (go_at_call 162; refine HZ.out.mono ?_; rintro e w' ⟨rfl, rfl⟩))
  generalize hw0 : w.alloc _ = w0
  rw [hw0] at R0
  clear hw0 HZ
  go_loopw [1, 13] (fun x y wr => ∃ (q m : Nat) (l : List UInt8), x = .int .u64 q ∧ y = .int .i64 (m + 1 : Nat) ∧ m + 1 + l.length = 65 ∧ 1 ≤ m ∧ q < 18446744073709551616 ∧ Hid (Rm w wr l ∧ q < 16 ^ m ∧ baseS 16 false m q ++ l = baseS 16 false 64 u)) (fun x _ _ => (intOf x).toNat)
  case atStart => exact ⟨u, 64, [], rfl, rfl, rfl, by omega, hu, Lib.hid ⟨R0.out, HU.out, by simp⟩⟩
  case round =>
    obtain ⟨q, m, l, rfl, rfl, hlen, hm1, hq, H⟩ := hrel
    have hix : ∀ (d : Nat), d < 16 → ∀ W, (Instr.index 9 (.string ⟨#[48, 49, 50, 51, 52, 53, 54, 55, 56, 57, 97, 98, 99, 100, 101, 102, 103, 104, 105, 106, 107, 108, 109, 110, 111, 112, 113, 114, 115, 116, 117, 118, 119, 120, 121, 122]⟩) (.int .u64 (d : Int))).run Tryz.prog W = .ok (.int .u8 ((bdig false d).toNat : Int)) W := fun d hd W => dig_at d (by omega) W
    have hs0 := H.out.1.some_ m (by omega)
    have hf0 := H.out.1.free m (by omega)
    obtain ⟨v0, hv0⟩ := hs0
    by_cases h : 16 ≤ q
    · have dt : decide ((16 : Int) ≤ (q : Int)) = true := decide_eq_true (by omega)
      have hm2 : 2 ≤ m := by
        rcases Nat.lt_or_ge m 2 with h2 | h2
        · have h3 := H.out.2.1
          obtain rfl : m = 1 := by omega
          omega
        · exact h2
      obtain ⟨d, hd⟩ : ∃ d, d = q % 16 := ⟨_, rfl⟩
      have hd8 : d < 16 := by omega
      have hand : bits BinOp.and IntKind.u64 (q : Int) 15 = (d : Int) := by
        rw [show (15 : Int) = ((15 : Nat) : Int) from rfl, bits_and_u64_nat _ _ hq (by decide), hd]
        exact congrArg Nat.cast (Nat.and_two_pow_sub_one_eq_mod q 4)
      have hix1 := hix d hd8
      have HS := Lib.hid (rm_put H.out.1 (by omega) (bdig false d) m (by omega))
      have hstep : baseS 16 false m q = baseS 16 false (m - 1) (q / 16) ++ [bdig false d] := by
        obtain ⟨n, rfl⟩ : ∃ n, m = n + 1 := ⟨m - 1, by omega⟩
        rw [hd]
        show (if q < 16 then _ else _) = _
        rw [if_neg (by omega)]; rfl
      have hle : q / 16 < 16 ^ (m - 1) := by
        have h3 := H.out.2.1
        obtain ⟨n, rfl⟩ : ∃ n, m = n + 1 := ⟨m - 1, by omega⟩
        rw [Nat.pow_succ] at h3
        rw [Nat.add_sub_cancel]
        omega
      have HT := Lib.hid (⟨hle, hstep⟩ : _ ∧ _)
      clear hd hstep hle hix
      go_wp2_with fail
      go_roundw
      case rel => exact ⟨q / 16, m - 1, bdig false d :: l, by go_num, by go_num, by simp only [List.length_cons]; omega, by omega, by omega, Lib.hid ⟨HS.out, HT.out.1, by rw [← H.out.2.2, HT.out.2]; simp⟩⟩
      case measure => simp [intOf]; omega
    · have dt : decide ((16 : Int) ≤ (q : Int)) = false := decide_eq_false (by omega)
      have hix1 := hix q (by omega)
      have HS := Lib.hid (rm_put H.out.1 (by omega) (bdig false q) m (by omega))
      have hl : bdig false q :: l = baseS 16 false 64 u := by
        rw [← H.out.2.2]
        obtain ⟨n, rfl⟩ : ∃ n, m = n + 1 := ⟨m - 1, by omega⟩
        show _ = (if q < 16 then _ else _) ++ l
        rw [if_pos (by omega)]; rfl
      obtain ⟨hcv, hsl⟩ := rm_end HS.out m (by simp only [List.length_cons]; omega) (by simp)
      have hcv1 := hcv (65 - m)
      rw [hl] at hcv1
      clear hix hcv hl
      go_wp2_with fail
      go_ret2
      exact ⟨rfl, HS.out.below⟩
end Go.Proofs.YtbbhcbpfffabpaaGreatDoor

/- The document's Base, Whole of layer 10: walks. -/
namespace Go.Proofs.YtbbhcbpfffabpaaGreatDoor
open Go.RowKit

theorem conv_byte (W : World) (x : UInt8) (X : Int) (hX : X = x.toNat) :
    (convert 66 9 (.slice (some ⟨W.heap.size, 0, none⟩) 1 1)).run Tryz.prog (W.alloc (.cells #[.int .u8 X] 5)) = .ok (.string ⟨#[x]⟩) (W.alloc (.cells #[.int .u8 X] 5)) := by
  have h := run_convert_bytes_back (P := Tryz.prog) (W.alloc (.cells #[.int .u8 X] 5)) 66 9 5 ⟨W.heap.size, 0, none⟩ 1 [x] Tryz.underlying66 Tryz.underlying5 Tryz.underlying9 ?_
  · exact h
  · intro j hj
    have hj0 : j = 0 := by simpa using hj
    subst hj0
    simp only [Addr.add, List.getElem_cons_zero]
    rw [hX]
    simp [go_sem]

theorem byte_nat {k : Nat} (h : k < 256) : k.toUInt8.toNat = k := by simp [Nat.toUInt8, UInt8.toNat_ofNat']; omega

/-- What Base tells. -/
def BaseOut (b : Nat) (great : Bool) (k n : Nat) (w : World) (e : Ending) (w' : World) : Prop :=
  ∃ s : ByteArray, e = .returned (.string s) ∧ Hid (s.data.toList = baseS b great (k + 1) n) ∧ Below w.heap.size w w'

set_option maxRecDepth 100000 in
set_option maxHeartbeats 1000000 in
theorem base_any (b : Nat) (great : Bool) (hb : 2 ≤ b) (hb16 : b ≤ 16) : ∀ (k n : Nat) (w : World), n < b ^ (k + 1) → n < 18446744073709551616 → k ≤ 63 →
    Calls Tryz.prog 111 #[.int .u64 n, .int .u64 b, .bool great] w (BaseOut b great k n w) := by
  intro k
  induction k with
  | zero =>
    intro n w hn h64 hk
    have hlt : n < b := by simpa using hn
    have hd : n % b < b := Nat.mod_lt _ (by omega)
    obtain ⟨d, hdd⟩ : ∃ d, d = n % b := ⟨_, rfl⟩
    have e1 : ((n : Int) % (b : Int)) = (d : Int) := by rw [hdd]; exact (Int.natCast_emod n b).symm
    have hd16 : d < 16 := by omega
    have hc0 := conv_byte w (48 + d).toUInt8 (48 + (d : Int)) (by rw [byte_nat (by omega)]; omega)
    have dl : decide ((n : Int) < (b : Int)) = true := decide_eq_true (by omega)
    have HS : Hid (baseS b great (0 + 1) n = [bdig great d]) := Lib.hid (by
      show (if n < b then _ else _) = _
      rw [if_pos hlt, hdd, Nat.mod_eq_of_lt hlt])
    clear hdd hn hd
    go_enter Tryz.func111, Tryz.ntmps111
    by_cases h9 : 9 < d
    · have d9 : decide ((9 : Int) < (d : Int)) = true := decide_eq_true (by omega)
      have V1 := below_new w (.cells #[.int .u8 (48 + (d : Int))] 5)
      cases great with
      | true =>
        have hx : bdig true d = (55 + d).toUInt8 := by unfold bdig; rw [if_neg (by omega)]; rfl
        have hc1 := conv_byte (w.alloc (.cells #[.int .u8 (48 + (d : Int))] 5)) (55 + d).toUInt8 (65 + (d : Int) - 10) (by rw [byte_nat (by omega)]; omega)
        rw [World.size_alloc] at hc1
        have V2 := Lib.hid (Below.step V1 (below_new _ (.cells #[.int .u8 (65 + (d : Int) - 10)] 5)))
        rw [hx] at HS
        generalize (55 + d).toUInt8 = x1 at HS hc1
        generalize (48 + d).toUInt8 = x0 at hc0
        clear V1 hx
        go_wp2_with fail
        go_ret
        exact ⟨_, rfl, Lib.hid (by rw [HS.out]), V2.out⟩
      | false =>
        have hx : bdig false d = (87 + d).toUInt8 := by unfold bdig; rw [if_neg (by omega)]; rfl
        have hc1 := conv_byte (w.alloc (.cells #[.int .u8 (48 + (d : Int))] 5)) (87 + d).toUInt8 (97 + (d : Int) - 10) (by rw [byte_nat (by omega)]; omega)
        rw [World.size_alloc] at hc1
        have V2 := Lib.hid (Below.step V1 (below_new _ (.cells #[.int .u8 (97 + (d : Int) - 10)] 5)))
        rw [hx] at HS
        generalize (87 + d).toUInt8 = x1 at HS hc1
        generalize (48 + d).toUInt8 = x0 at hc0
        clear V1 hx
        go_wp2_with fail
        go_ret
        exact ⟨_, rfl, Lib.hid (by rw [HS.out]), V2.out⟩
    · have d9 : decide ((9 : Int) < (d : Int)) = false := decide_eq_false (by omega)
      have V1 := Lib.hid (below_new w (.cells #[.int .u8 (48 + (d : Int))] 5))
      have hx : bdig great d = (48 + d).toUInt8 := by unfold bdig; rw [if_pos (by omega)]
      rw [hx] at HS
      generalize (48 + d).toUInt8 = x0 at HS hc0
      clear hx
      go_wp2_with fail
      go_ret
      exact ⟨_, rfl, Lib.hid (by rw [HS.out]), V1.out⟩
  | succ k ih =>
    intro n w hn h64 hk
    have hd : n % b < b := Nat.mod_lt _ (by omega)
    obtain ⟨d, hdd⟩ : ∃ d, d = n % b := ⟨_, rfl⟩
    have e1 : ((n : Int) % (b : Int)) = (d : Int) := by rw [hdd]; exact (Int.natCast_emod n b).symm
    have hd16 : d < 16 := by omega
    have hc0 := conv_byte w (48 + d).toUInt8 (48 + (d : Int)) (by rw [byte_nat (by omega)]; omega)
    have HI := Lib.hid ih
    clear ih
    by_cases hlt : n < b
    · have dl : decide ((n : Int) < (b : Int)) = true := decide_eq_true (by omega)
      have HS : Hid (baseS b great (k + 1 + 1) n = [bdig great d]) := Lib.hid (by
        show (if n < b then _ else _) = _
        rw [if_pos hlt, hdd, Nat.mod_eq_of_lt hlt])
      clear hdd hn hd HI
      go_enter Tryz.func111, Tryz.ntmps111
      by_cases h9 : 9 < d
      · have d9 : decide ((9 : Int) < (d : Int)) = true := decide_eq_true (by omega)
        have V1 := below_new w (.cells #[.int .u8 (48 + (d : Int))] 5)
        cases great with
        | true =>
          have hx : bdig true d = (55 + d).toUInt8 := by unfold bdig; rw [if_neg (by omega)]; rfl
          have hc1 := conv_byte (w.alloc (.cells #[.int .u8 (48 + (d : Int))] 5)) (55 + d).toUInt8 (65 + (d : Int) - 10) (by rw [byte_nat (by omega)]; omega)
          rw [World.size_alloc] at hc1
          have V2 := Lib.hid (Below.step V1 (below_new _ (.cells #[.int .u8 (65 + (d : Int) - 10)] 5)))
          rw [hx] at HS
          generalize (55 + d).toUInt8 = x1 at HS hc1
          generalize (48 + d).toUInt8 = x0 at hc0
          clear V1 hx
          go_wp2_with fail
          go_ret
          exact ⟨_, rfl, Lib.hid (by rw [HS.out]), V2.out⟩
        | false =>
          have hx : bdig false d = (87 + d).toUInt8 := by unfold bdig; rw [if_neg (by omega)]; rfl
          have hc1 := conv_byte (w.alloc (.cells #[.int .u8 (48 + (d : Int))] 5)) (87 + d).toUInt8 (97 + (d : Int) - 10) (by rw [byte_nat (by omega)]; omega)
          rw [World.size_alloc] at hc1
          have V2 := Lib.hid (Below.step V1 (below_new _ (.cells #[.int .u8 (97 + (d : Int) - 10)] 5)))
          rw [hx] at HS
          generalize (87 + d).toUInt8 = x1 at HS hc1
          generalize (48 + d).toUInt8 = x0 at hc0
          clear V1 hx
          go_wp2_with fail
          go_ret
          exact ⟨_, rfl, Lib.hid (by rw [HS.out]), V2.out⟩
      · have d9 : decide ((9 : Int) < (d : Int)) = false := decide_eq_false (by omega)
        have V1 := Lib.hid (below_new w (.cells #[.int .u8 (48 + (d : Int))] 5))
        have hx : bdig great d = (48 + d).toUInt8 := by unfold bdig; rw [if_pos (by omega)]
        rw [hx] at HS
        generalize (48 + d).toUInt8 = x0 at HS hc0
        clear hx
        go_wp2_with fail
        go_ret
        exact ⟨_, rfl, Lib.hid (by rw [HS.out]), V1.out⟩
    · have dl : decide ((n : Int) < (b : Int)) = false := decide_eq_false (by omega)
      have HS : Hid (baseS b great (k + 1 + 1) n = baseS b great (k + 1) (n / b) ++ [bdig great d]) := Lib.hid (by
        show (if n < b then _ else _) = _
        rw [if_neg hlt, hdd])
      have HQ : Hid (n / b < b ^ (k + 1) ∧ n / b < 18446744073709551616) := Lib.hid ⟨by
        rw [Nat.div_lt_iff_lt_mul (by omega), ← Nat.pow_succ]; exact hn, Nat.lt_of_le_of_lt (Nat.div_le_self n b) h64⟩
      obtain ⟨Q, hQ⟩ : ∃ Q, Q = n / b := ⟨_, rfl⟩
      have e2 : ((n : Int) / (b : Int)) = (Q : Int) := by rw [hQ]; exact (Int.natCast_ediv n b).symm
      rw [← hQ] at HS HQ
      have hwq : IntKind.u64.wrap (Q : Int) = Q := by have := HQ.out.2; rw [IntKind.wrap_u64]; omega
      clear hdd hn hd hQ
      go_enter Tryz.func111, Tryz.ntmps111
      by_cases h9 : 9 < d
      · have d9 : decide ((9 : Int) < (d : Int)) = true := decide_eq_true (by omega)
        have V1 := below_new w (.cells #[.int .u8 (48 + (d : Int))] 5)
        cases great with
        | true =>
          have hx : bdig true d = (55 + d).toUInt8 := by unfold bdig; rw [if_neg (by omega)]; rfl
          have hc1 := conv_byte (w.alloc (.cells #[.int .u8 (48 + (d : Int))] 5)) (55 + d).toUInt8 (65 + (d : Int) - 10) (by rw [byte_nat (by omega)]; omega)
          rw [World.size_alloc] at hc1
          have V2 := Lib.hid (Below.step V1 (below_new _ (.cells #[.int .u8 (65 + (d : Int) - 10)] 5)))
          rw [hx] at HS
          generalize (55 + d).toUInt8 = x1 at HS hc1
          generalize (48 + d).toUInt8 = x0 at hc0
          clear V1 hx
          go_wp2_with fail
          refine (HI.out Q _ HQ.out.1 HQ.out.2 (by omega)).mono ?_
          rintro e w2 ⟨t, rfl, ht, b2⟩
          have B2 := Lib.hid (Below.step V2.out b2)
          have n1 : ¬ 9223372036854775807 < t.size + 1 := by
            have h1 := baseS_len b true (k + 1) Q
            rw [← ht.out] at h1
            have h2 : t.data.toList.length = t.size := by simp
            omega
          have n2 : ¬ 9223372036854775807 < t.size + (⟨#[x1]⟩ : ByteArray).size := n1
          have HT : Hid ((t ++ (⟨#[x1]⟩ : ByteArray)).data.toList = baseS b true (k + 1 + 1) n) := Lib.hid (by
            have e : (t ++ (⟨#[x1]⟩ : ByteArray)).data.toList = t.data.toList ++ [x1] := by simp
            rw [e, ht.out, HS.out])
          clear b2 ht
          go_wp2_with fail
          go_ret
          exact ⟨_, rfl, HT, B2.out⟩
        | false =>
          have hx : bdig false d = (87 + d).toUInt8 := by unfold bdig; rw [if_neg (by omega)]; rfl
          have hc1 := conv_byte (w.alloc (.cells #[.int .u8 (48 + (d : Int))] 5)) (87 + d).toUInt8 (97 + (d : Int) - 10) (by rw [byte_nat (by omega)]; omega)
          rw [World.size_alloc] at hc1
          have V2 := Lib.hid (Below.step V1 (below_new _ (.cells #[.int .u8 (97 + (d : Int) - 10)] 5)))
          rw [hx] at HS
          generalize (87 + d).toUInt8 = x1 at HS hc1
          generalize (48 + d).toUInt8 = x0 at hc0
          clear V1 hx
          go_wp2_with fail
          refine (HI.out Q _ HQ.out.1 HQ.out.2 (by omega)).mono ?_
          rintro e w2 ⟨t, rfl, ht, b2⟩
          have B2 := Lib.hid (Below.step V2.out b2)
          have n1 : ¬ 9223372036854775807 < t.size + 1 := by
            have h1 := baseS_len b false (k + 1) Q
            rw [← ht.out] at h1
            have h2 : t.data.toList.length = t.size := by simp
            omega
          have n2 : ¬ 9223372036854775807 < t.size + (⟨#[x1]⟩ : ByteArray).size := n1
          have HT : Hid ((t ++ (⟨#[x1]⟩ : ByteArray)).data.toList = baseS b false (k + 1 + 1) n) := Lib.hid (by
            have e : (t ++ (⟨#[x1]⟩ : ByteArray)).data.toList = t.data.toList ++ [x1] := by simp
            rw [e, ht.out, HS.out])
          clear b2 ht
          go_wp2_with fail
          go_ret
          exact ⟨_, rfl, HT, B2.out⟩
      · have d9 : decide ((9 : Int) < (d : Int)) = false := decide_eq_false (by omega)
        have V1 := Lib.hid (below_new w (.cells #[.int .u8 (48 + (d : Int))] 5))
        have hx : bdig great d = (48 + d).toUInt8 := by unfold bdig; rw [if_pos (by omega)]
        rw [hx] at HS
        generalize (48 + d).toUInt8 = x0 at HS hc0
        clear hx
        go_wp2_with fail
        refine (HI.out Q _ HQ.out.1 HQ.out.2 (by omega)).mono ?_
        rintro e w2 ⟨t, rfl, ht, b2⟩
        have B2 := Lib.hid (Below.step V1.out b2)
        have n1 : ¬ 9223372036854775807 < t.size + 1 := by
          have h1 := baseS_len b great (k + 1) Q
          rw [← ht.out] at h1
          have h2 : t.data.toList.length = t.size := by simp
          omega
        have n2 : ¬ 9223372036854775807 < t.size + (⟨#[x0]⟩ : ByteArray).size := n1
        have HT : Hid ((t ++ (⟨#[x0]⟩ : ByteArray)).data.toList = baseS b great (k + 1 + 1) n) := Lib.hid (by
          have e : (t ++ (⟨#[x0]⟩ : ByteArray)).data.toList = t.data.toList ++ [x0] := by simp
          rw [e, ht.out, HS.out])
        clear b2 ht
        go_wp2_with fail
        go_ret
        exact ⟨_, rfl, HT, B2.out⟩
end Go.Proofs.YtbbhcbpfffabpaaGreatDoor
