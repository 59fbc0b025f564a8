/- Merged by program: Fmt, FmtBits. -/
import Derived.Laws.Bits64b
import Derived.Test.YtfhnbpilbbbckaaDoorHac
/- strconv.FormatUint at bases 10, 8, 16: walks. -/
namespace Go.Proofs.YtfhnbpilbbbckaaDoor
open Go.RowKit Go.Sort

/-- A text that is told, and memory that stands. -/
def TextOut (l : List UInt8) (w : World) (e : Ending) (w' : World) : Prop := e = .returned (.string ⟨l.toArray⟩) ∧ Below w.heap.size w w'

theorem array24 : Tryd.prog.arrayLen 77 = 24 := by kernel_rfl
theorem array24_el : Tryd.prog.elem 77 = 5 := by kernel_rfl
theorem array24_at : Tryd.prog.underlying 77 = some (.array (Tryd.prog.arrayLen 77) (Tryd.prog.elem 77)) := by kernel_rfl

set_option maxRecDepth 100000 in
set_option maxHeartbeats 1000000 in
theorem fmt10_in (u : Nat) (hu : u < 18446744073709551616) (w : World) (hE : Env w) :
    Calls Tryd.prog 24 #[.int .u64 u, .int .i64 10] w (TextOut (Lib.decDigits u) w) := by
  by_cases hs : u < 100
  · have d1 : decide ((u : Int) < 100) = true := decide_eq_true (by omega)
    go_enter Tryd.func24, Tryd.ntmps24
    go_wp2_with (go_at_call 41; refine (Tryd.internal_strconv_small u hs _).mono ?_; rintro e w' ⟨rfl, rfl⟩)
    go_ret
    exact ⟨rfl, Below.refl _ _⟩
  · have d1 : decide ((u : Int) < 100) = false := decide_eq_false (by omega)
    have hu1 : 1 ≤ u := by omega
    have hnd20 : Lib.nDigits u ≤ 20 := by have := Lib.numDigits_eq u hu1 hu; split at this <;> omega
    have hsl1 : ∀ W, (Instr.sliceAt 77 (.pointer (some ⟨w.heap.size, 0, none⟩)) none (some (.int .i64 (Lib.nDigits u : Int))) none).run Tryd.prog W = .ok (.slice (some ⟨w.heap.size, 0, none⟩) (Lib.nDigits u) 24) W := fun W => by
      rw [run_sliceAt_array_h W 77 ⟨w.heap.size, 0, none⟩ array24_at .i64 (Lib.nDigits u : Int) (by omega) (by rw [array24]; omega)]
      rw [array24, array24_el, Tryd.sizeOf5]
      simp only [Result.andThen, slicedAt, Int.toNat_natCast, Nat.mul_one]
      rw [if_neg (by omega)]
      have ea : Addr.add ⟨w.heap.size, 0, none⟩ 0 = ⟨w.heap.size, 0, none⟩ := by unfold Addr.add; rw [if_pos rfl]
      rw [ea]; simp
    have hH0 := Lib.holds_zero0 w 77 (Lib.nDigits u) (by omega)
    have hfmt := Tryd.internal_strconv_formatBase10 w.heap.size 0 24 u (Array.replicate (Lib.nDigits u) 0) (w.alloc (.cells Lib.zeros24 77)) hH0 (by rw [Array.size_replicate]; exact Lib.lt_pow_nDigits u) hu (by rw [Array.size_replicate]; omega)
    rw [Array.size_replicate] at hfmt
    have HH0 := Lib.hid hH0
    have HT := Lib.hid (Lib.tabIs_alloc hE.tab (.cells Lib.zeros24 77))
    clear hH0
    go_enter Tryd.func24, Tryd.ntmps24
    go_wp2_with (go_at_call 42; refine (Tryd.internal_strconv_numDigits u hu1 hu _ HT.out).mono ?_; rintro e w' ⟨rfl, rfl⟩)
    go_at_call 43
    refine hfmt.mono ?_
    rintro e w' ⟨rfl, k, v', dk, rfl, hF⟩
    have hcv : (convert 37 9 (.slice (some ⟨w.heap.size, 0, none⟩) (Lib.nDigits u) 24)).run Tryd.prog ((putRow (fun (b : UInt8) => Value.int .u8 (b.toNat : Int)) (w.alloc (.cells Lib.zeros24 77)) w.heap.size 0 dk).drewN k) = .ok (.string ⟨(Lib.decDigits u).toArray⟩) ((putRow (fun (b : UInt8) => Value.int .u8 (b.toNat : Int)) (w.alloc (.cells Lib.zeros24 77)) w.heap.size 0 dk).drewN k) := by
      have h := run_convert_bytes_back (P := Tryd.prog) ((putRow (fun (b : UInt8) => Value.int .u8 (b.toNat : Int)) (w.alloc (.cells Lib.zeros24 77)) w.heap.size 0 dk).drewN k) 37 9 5 ⟨w.heap.size, 0, none⟩ 24 (Lib.decDigits u) Tryd.underlying37 Tryd.underlying5 Tryd.underlying9 (fun j hj => by
        rw [Lib.row_is_numeral hF j hj, Lib.add_plain, World.cell?_drewN]
        exact cell?_putRow (fun (b : UInt8) => Value.int .u8 (b.toNat : Int)) _ w.heap.size 0 _ dk HH0.out (by rw [hF.size, Array.size_replicate]) j (by rw [hF.size]; rw [Lib.decDigits_length] at hj; exact hj))
      rw [Lib.decDigits_length] at h
      exact h
    go_wp2
    go_ret
    obtain ⟨os, eo⟩ := Lib.fin_at w (.cells Lib.zeros24 77) dk k 0
    exact ⟨rfl, by rw [eo]; exact Lib.below_grow _ w (Nat.le_refl _) k os⟩
end Go.Proofs.YtfhnbpilbbbckaaDoor

/- strconv.FormatUint at bases 8 and 16: walks. -/
namespace Go.Proofs.YtfhnbpilbbbckaaDoor
open Go.RowKit Go.Sort

theorem setCell_at {w : World} {a : Addr} {v u : Value} (h : w.cell? a = some u) : (w.setCell a v).cell? a = some v := World.cell?_setCell_same w a v h
theorem setCell_else {w : World} {a b : Addr} {v : Value} (h : a ≠ b) : (w.setCell a v).cell? b = w.cell? b := World.cell?_setCell_other w a b v h

/-- A row of 65 bytes whose last ones are these. -/
structure Rm (w0 w : World) (l : List UInt8) : Prop where
  len : l.length ≤ 65
  some_ : ∀ j, j < 65 → ∃ v, w.cell? ⟨w0.heap.size, j, none⟩ = some v
  holds : ∀ j, ∀ h : j < l.length, w.cell? ⟨w0.heap.size, 65 - l.length + j, none⟩ = some (.int .u8 (l[j].toNat : Int))
  free : ∀ j, j < 65 → w.frozen? ⟨w0.heap.size, j, none⟩ = false
  below : Below w0.heap.size w0 w

theorem zeros65 : (#[.int .u8 0, .int .u8 0, .int .u8 0, .int .u8 0, .int .u8 0, .int .u8 0, .int .u8 0, .int .u8 0, .int .u8 0, .int .u8 0, .int .u8 0, .int .u8 0, .int .u8 0, .int .u8 0, .int .u8 0, .int .u8 0, .int .u8 0, .int .u8 0, .int .u8 0, .int .u8 0, .int .u8 0, .int .u8 0, .int .u8 0, .int .u8 0, .int .u8 0, .int .u8 0, .int .u8 0, .int .u8 0, .int .u8 0, .int .u8 0, .int .u8 0, .int .u8 0, .int .u8 0, .int .u8 0, .int .u8 0, .int .u8 0, .int .u8 0, .int .u8 0, .int .u8 0, .int .u8 0, .int .u8 0, .int .u8 0, .int .u8 0, .int .u8 0, .int .u8 0, .int .u8 0, .int .u8 0, .int .u8 0, .int .u8 0, .int .u8 0, .int .u8 0, .int .u8 0, .int .u8 0, .int .u8 0, .int .u8 0, .int .u8 0, .int .u8 0, .int .u8 0, .int .u8 0, .int .u8 0, .int .u8 0, .int .u8 0, .int .u8 0, .int .u8 0, .int .u8 0] : Array Value) = Array.replicate 65 (.int .u8 0) := by rfl
theorem rm_new (w : World) : Rm w (w.alloc (.cells #[.int .u8 0, .int .u8 0, .int .u8 0, .int .u8 0, .int .u8 0, .int .u8 0, .int .u8 0, .int .u8 0, .int .u8 0, .int .u8 0, .int .u8 0, .int .u8 0, .int .u8 0, .int .u8 0, .int .u8 0, .int .u8 0, .int .u8 0, .int .u8 0, .int .u8 0, .int .u8 0, .int .u8 0, .int .u8 0, .int .u8 0, .int .u8 0, .int .u8 0, .int .u8 0, .int .u8 0, .int .u8 0, .int .u8 0, .int .u8 0, .int .u8 0, .int .u8 0, .int .u8 0, .int .u8 0, .int .u8 0, .int .u8 0, .int .u8 0, .int .u8 0, .int .u8 0, .int .u8 0, .int .u8 0, .int .u8 0, .int .u8 0, .int .u8 0, .int .u8 0, .int .u8 0, .int .u8 0, .int .u8 0, .int .u8 0, .int .u8 0, .int .u8 0, .int .u8 0, .int .u8 0, .int .u8 0, .int .u8 0, .int .u8 0, .int .u8 0, .int .u8 0, .int .u8 0, .int .u8 0, .int .u8 0, .int .u8 0, .int .u8 0, .int .u8 0, .int .u8 0] 97)) [] := by
  rw [zeros65]
  refine ⟨by simp, fun j hj => ⟨.int .u8 0, ?_⟩, fun j h => absurd h (by simp), fun j _ => World.frozen?_alloc_new _ _ _ _, below_new _ _⟩
  rw [World.cell?_alloc_new, Array.getElem?_replicate, if_pos hj]
theorem rm_put {w0 w : World} {l : List UInt8} (h : Rm w0 w l) (hl : l.length < 65) (c : UInt8) (k : Nat) (hk : k + l.length = 64) :
    Rm w0 (w.setCell ⟨w0.heap.size, k, none⟩ (.int .u8 (c.toNat : Int))) (c :: l) := by
  obtain ⟨v, hv⟩ := h.some_ k (by omega)
  refine ⟨by simp; omega, fun j hj => ?_, fun j hj => ?_, fun j hj => ?_, h.below.setCell (by simp) _⟩
  · obtain ⟨x, hx⟩ := h.some_ j hj
    exact cell?_setCell_some hx
  · cases j with
    | zero =>
      have e : 65 - (c :: l).length + 0 = k := by simp; omega
      rw [e, setCell_at hv]
      rfl
    | succ j =>
      have e : 65 - (c :: l).length + (j + 1) = 65 - l.length + j := by simp; omega
      have hj' : j < l.length := by simpa using hj
      rw [e, setCell_else (by intro h; injection h with h1 h2; omega), h.holds j hj']
      rfl
  · simp [h.free j hj]
theorem array65 : Tryd.prog.arrayLen 97 = 65 := by kernel_rfl
theorem array65_el : Tryd.prog.elem 97 = 5 := by kernel_rfl
theorem array65_at : Tryd.prog.underlying 97 = some (.array (Tryd.prog.arrayLen 97) (Tryd.prog.elem 97)) := by kernel_rfl
set_option maxRecDepth 100000 in
theorem rm_end {w0 w : World} {l : List UInt8} (h : Rm w0 w l) (k : Nat) (hk : k + l.length = 65) (h1 : 1 ≤ l.length) :
    (∀ c, (convert 37 9 (.slice (some ⟨w0.heap.size, k, none⟩) (65 - k) c)).run Tryd.prog w = .ok (.string ⟨l.toArray⟩) w) ∧ (∀ wx, (Instr.sliceAt 97 (.pointer (some ⟨w0.heap.size, 0, none⟩)) (some (.int .i64 (k : Int))) none none).run Tryd.prog wx = .ok (.slice (some ⟨w0.heap.size, k, none⟩) (65 - k) (65 - k)) wx) := by
  have ha : ∀ o j, Addr.add ⟨w0.heap.size, o, none⟩ j = ⟨w0.heap.size, o + j, none⟩ := fun o j => by
    unfold Addr.add
    split
    · simp [*]
    · rfl
  refine ⟨fun c => ?_, fun wx => ?_⟩
  · have e1 : 65 - k = l.length := by omega
    have e2 : k = 65 - l.length := by omega
    rw [e1]
    refine run_convert_bytes_back w 37 9 5 _ c l Tryd.underlying37 Tryd.underlying5 Tryd.underlying9 ?_
    intro j hj
    rw [ha, e2]
    exact h.holds j hj
  · rw [run_sliceAt_array_l wx 97 _ array65_at .i64 k (by omega) (by rw [array65]; omega), array65, array65_el, Tryd.sizeOf5]
    simp only [Result.andThen, slicedAt, Int.toNat_natCast, Nat.mul_one]
    rw [if_neg (by omega), ha, Nat.zero_add]

theorem byte_nat' {k : Nat} (h : k < 256) : k.toUInt8.toNat = k := by simp [Nat.toUInt8, UInt8.toNat_ofNat']; omega
theorem bdig_nat (d : Nat) (h : d < 10) : ((bdig false d).toNat : Int) = 48 + d := by
  unfold bdig
  rw [if_pos h, byte_nat' (by omega)]; omega
theorem bdig_nat2 (d : Nat) (h : ¬ d < 10) (h2 : d < 100) : ((bdig false d).toNat : Int) = 87 + d := by
  unfold bdig
  rw [if_neg h, if_neg (by decide), byte_nat' (by omega)]; omega

def d36 : ByteArray := ⟨#[48, 49, 50, 51, 52, 53, 54, 55, 56, 57, 97, 98, 99, 100, 101, 102, 103, 104, 105, 106, 107, 108, 109, 110, 111, 112, 113, 114, 115, 116, 117, 118, 119, 120, 121, 122]⟩

set_option maxRecDepth 100000 in
theorem pow2_8 (w : World) : Calls Tryd.prog 62 #[.int .i64 8] w fun e w' => e = .returned (.bool true) ∧ w = w' := by
  have h1 : (bits BinOp.and IntKind.i64 8 7 == 0) = true := by decide +kernel
  go_enter Tryd.func62, Tryd.ntmps62
  go_wp2
  go_ret
  exact ⟨rfl, rfl⟩
set_option maxRecDepth 100000 in
theorem tz_8 (w : World) (hE : Env w) : Calls Tryd.prog 76 #[.int .u64 8] w fun e w' => e = .returned (.int .i64 3) ∧ w = w' := by
  have hc := hE.z8
  have h1 : IntKind.u64.wrap (-8) = 18446744073709551608 := by decide +kernel
  have h2 : bits BinOp.and IntKind.u64 8 18446744073709551608 = 8 := by decide +kernel
  have h3 : IntKind.u64.wrap (2286961704410830920) = 2286961704410830920 := by decide +kernel
  have h4 : (2286961704410830920 : Int) / 288230376151711744 = 7 := by decide +kernel
  go_enter Tryd.func76, Tryd.ntmps76
  go_wp2
  go_ret
  exact ⟨rfl, rfl⟩

set_option maxRecDepth 100000 in
theorem pow2_16 (w : World) : Calls Tryd.prog 62 #[.int .i64 16] w fun e w' => e = .returned (.bool true) ∧ w = w' := by
  have h1 : (bits BinOp.and IntKind.i64 16 15 == 0) = true := by decide +kernel
  go_enter Tryd.func62, Tryd.ntmps62
  go_wp2
  go_ret
  exact ⟨rfl, rfl⟩
set_option maxRecDepth 100000 in
theorem tz_16 (w : World) (hE : Env w) : Calls Tryd.prog 76 #[.int .u64 16] w fun e w' => e = .returned (.int .i64 4) ∧ w = w' := by
  have hc := hE.z16
  have h1 : IntKind.u64.wrap (-16) = 18446744073709551600 := by decide +kernel
  have h2 : bits BinOp.and IntKind.u64 16 18446744073709551600 = 16 := by decide +kernel
  have h3 : IntKind.u64.wrap (4573923408821661840) = 4573923408821661840 := by decide +kernel
  have h4 : (4573923408821661840 : Int) / 288230376151711744 = 15 := by decide +kernel
  go_enter Tryd.func76, Tryd.ntmps76
  go_wp2
  go_ret
  exact ⟨rfl, rfl⟩

set_option maxRecDepth 100000 in
theorem dig_at (d : Nat) (hd : d < 16) (W : World) : (Instr.index 9 (.string ⟨#[48, 49, 50, 51, 52, 53, 54, 55, 56, 57, 97, 98, 99, 100, 101, 102, 103, 104, 105, 106, 107, 108, 109, 110, 111, 112, 113, 114, 115, 116, 117, 118, 119, 120, 121, 122]⟩) (.int .u64 (d : Int))).run Tryd.prog W = .ok (.int .u8 ((bdig false d).toNat : Int)) W := by
  have h : d = 0 ∨ d = 1 ∨ d = 2 ∨ d = 3 ∨ d = 4 ∨ d = 5 ∨ d = 6 ∨ d = 7 ∨ d = 8 ∨ d = 9 ∨ d = 10 ∨ d = 11 ∨ d = 12 ∨ d = 13 ∨ d = 14 ∨ d = 15 := by omega
  rcases h with rfl | rfl | rfl | rfl | rfl | rfl | rfl | rfl | rfl | rfl | rfl | rfl | rfl | rfl | rfl | rfl <;> (show _ = _; kernel_rfl)

set_option maxRecDepth 100000 in
theorem tzz_8 (w : World) (hE : Env w) : Calls Tryd.prog 63 #[.int .u64 8] w fun e w' => e = .returned (.int .i64 3) ∧ w = w' := by
  have H := Lib.hid (tz_8 w hE)
  go_enter Tryd.func63, Tryd.ntmps63
  go_wp2_with (go_at_call 76; refine H.out.mono ?_; rintro e w' ⟨rfl, rfl⟩)
  go_ret
  exact ⟨rfl, rfl⟩
set_option maxRecDepth 100000 in
set_option maxHeartbeats 1000000 in
theorem bits_8 (u : Nat) (hu : u < 18446744073709551616) (w : World) (hE : Env w) :
    Calls Tryd.prog 44 #[.slice none 0 0, .int .u64 u, .int .i64 8, .bool false, .bool false] w fun e w' => e = .returned (.tuple #[.slice none 0 0, .string ⟨(baseS 8 false 64 u).toArray⟩]) ∧ Below w.heap.size w w' := by
  have HZ := Lib.hid (tzz_8 _ (hE.after (below_new w (.cells #[.int .u8 0, .int .u8 0, .int .u8 0, .int .u8 0, .int .u8 0, .int .u8 0, .int .u8 0, .int .u8 0, .int .u8 0, .int .u8 0, .int .u8 0, .int .u8 0, .int .u8 0, .int .u8 0, .int .u8 0, .int .u8 0, .int .u8 0, .int .u8 0, .int .u8 0, .int .u8 0, .int .u8 0, .int .u8 0, .int .u8 0, .int .u8 0, .int .u8 0, .int .u8 0, .int .u8 0, .int .u8 0, .int .u8 0, .int .u8 0, .int .u8 0, .int .u8 0, .int .u8 0, .int .u8 0, .int .u8 0, .int .u8 0, .int .u8 0, .int .u8 0, .int .u8 0, .int .u8 0, .int .u8 0, .int .u8 0, .int .u8 0, .int .u8 0, .int .u8 0, .int .u8 0, .int .u8 0, .int .u8 0, .int .u8 0, .int .u8 0, .int .u8 0, .int .u8 0, .int .u8 0, .int .u8 0, .int .u8 0, .int .u8 0, .int .u8 0, .int .u8 0, .int .u8 0, .int .u8 0, .int .u8 0, .int .u8 0, .int .u8 0, .int .u8 0, .int .u8 0] 97))))
  have R0 := Lib.hid (rm_new w)
  have HU := Lib.hid (Nat.lt_of_lt_of_le hu (by decide : 18446744073709551616 ≤ 8 ^ 64))
  go_enter Tryd.func44, Tryd.ntmps44
  go_wp2_with (first
    | (go_at_call 62; refine (pow2_8 _).mono ?_; rintro e w' ⟨rfl, rfl⟩)
    | (go_at_call 63; refine HZ.out.mono ?_; rintro e w' ⟨rfl, rfl⟩))
  generalize hw0 : w.alloc _ = w0
  rw [hw0] at R0
  clear hw0 HZ
  go_loopw [1, 13] (fun x y wr => ∃ (q m : Nat) (l : List UInt8), x = .int .u64 q ∧ y = .int .i64 (m + 1 : Nat) ∧ m + 1 + l.length = 65 ∧ 1 ≤ m ∧ q < 18446744073709551616 ∧ Hid (Rm w wr l ∧ q < 8 ^ m ∧ baseS 8 false m q ++ l = baseS 8 false 64 u)) (fun x _ _ => (intOf x).toNat)
  case atStart => exact ⟨u, 64, [], rfl, rfl, rfl, by omega, hu, Lib.hid ⟨R0.out, HU.out, by simp⟩⟩
  case round =>
    obtain ⟨q, m, l, rfl, rfl, hlen, hm1, hq, H⟩ := hrel
    have hix : ∀ (d : Nat), d < 8 → ∀ W, (Instr.index 9 (.string ⟨#[48, 49, 50, 51, 52, 53, 54, 55, 56, 57, 97, 98, 99, 100, 101, 102, 103, 104, 105, 106, 107, 108, 109, 110, 111, 112, 113, 114, 115, 116, 117, 118, 119, 120, 121, 122]⟩) (.int .u64 (d : Int))).run Tryd.prog W = .ok (.int .u8 ((bdig false d).toNat : Int)) W := fun d hd W => dig_at d (by omega) W
    have hs0 := H.out.1.some_ m (by omega)
    have hf0 := H.out.1.free m (by omega)
    obtain ⟨v0, hv0⟩ := hs0
    by_cases h : 8 ≤ q
    · have dt : decide ((8 : Int) ≤ (q : Int)) = true := decide_eq_true (by omega)
      have hm2 : 2 ≤ m := by
        rcases Nat.lt_or_ge m 2 with h2 | h2
        · have h3 := H.out.2.1
          obtain rfl : m = 1 := by omega
          omega
        · exact h2
      obtain ⟨d, hd⟩ : ∃ d, d = q % 8 := ⟨_, rfl⟩
      have hd8 : d < 8 := by omega
      have hand : bits BinOp.and IntKind.u64 (q : Int) 7 = (d : Int) := by
        rw [show (7 : Int) = ((7 : Nat) : Int) from rfl, bits_and_u64_nat _ _ hq (by decide), hd]
        exact congrArg Nat.cast (Nat.and_two_pow_sub_one_eq_mod q 3)
      have hix1 := hix d hd8
      have HS := Lib.hid (rm_put H.out.1 (by omega) (bdig false d) m (by omega))
      have hstep : baseS 8 false m q = baseS 8 false (m - 1) (q / 8) ++ [bdig false d] := by
        obtain ⟨n, rfl⟩ : ∃ n, m = n + 1 := ⟨m - 1, by omega⟩
        rw [hd]
        show (if q < 8 then _ else _) = _
        rw [if_neg (by omega)]; rfl
      have hle : q / 8 < 8 ^ (m - 1) := by
        have h3 := H.out.2.1
        obtain ⟨n, rfl⟩ : ∃ n, m = n + 1 := ⟨m - 1, by omega⟩
        rw [Nat.pow_succ] at h3
        rw [Nat.add_sub_cancel]
        omega
      have HT := Lib.hid (⟨hle, hstep⟩ : _ ∧ _)
      clear hd hstep hle hix
      go_wp2_with fail
      go_roundw
      case rel => exact ⟨q / 8, m - 1, bdig false d :: l, by go_num, by go_num, by simp only [List.length_cons]; omega, by omega, by omega, Lib.hid ⟨HS.out, HT.out.1, by rw [← H.out.2.2, HT.out.2]; simp⟩⟩
      case measure => simp [intOf]; omega
    · have dt : decide ((8 : Int) ≤ (q : Int)) = false := decide_eq_false (by omega)
      have hix1 := hix q (by omega)
      have HS := Lib.hid (rm_put H.out.1 (by omega) (bdig false q) m (by omega))
      have hl : bdig false q :: l = baseS 8 false 64 u := by
        rw [← H.out.2.2]
        obtain ⟨n, rfl⟩ : ∃ n, m = n + 1 := ⟨m - 1, by omega⟩
        show _ = (if q < 8 then _ else _) ++ l
        rw [if_pos (by omega)]; rfl
      obtain ⟨hcv, hsl⟩ := rm_end HS.out m (by simp only [List.length_cons]; omega) (by simp)
      have hcv1 := hcv (65 - m)
      rw [hl] at hcv1
      clear hix hcv hl
      go_wp2_with fail
      go_ret2
      exact ⟨rfl, HS.out.below⟩

set_option maxRecDepth 100000 in
theorem tzz_16 (w : World) (hE : Env w) : Calls Tryd.prog 63 #[.int .u64 16] w fun e w' => e = .returned (.int .i64 4) ∧ w = w' := by
  have H := Lib.hid (tz_16 w hE)
  go_enter Tryd.func63, Tryd.ntmps63
  go_wp2_with (go_at_call 76; refine H.out.mono ?_; rintro e w' ⟨rfl, rfl⟩)
  go_ret
  exact ⟨rfl, rfl⟩
set_option maxRecDepth 100000 in
set_option maxHeartbeats 1000000 in
theorem bits_16 (u : Nat) (hu : u < 18446744073709551616) (w : World) (hE : Env w) :
    Calls Tryd.prog 44 #[.slice none 0 0, .int .u64 u, .int .i64 16, .bool false, .bool false] w fun e w' => e = .returned (.tuple #[.slice none 0 0, .string ⟨(baseS 16 false 64 u).toArray⟩]) ∧ Below w.heap.size w w' := by
  have HZ := Lib.hid (tzz_16 _ (hE.after (below_new w (.cells #[.int .u8 0, .int .u8 0, .int .u8 0, .int .u8 0, .int .u8 0, .int .u8 0, .int .u8 0, .int .u8 0, .int .u8 0, .int .u8 0, .int .u8 0, .int .u8 0, .int .u8 0, .int .u8 0, .int .u8 0, .int .u8 0, .int .u8 0, .int .u8 0, .int .u8 0, .int .u8 0, .int .u8 0, .int .u8 0, .int .u8 0, .int .u8 0, .int .u8 0, .int .u8 0, .int .u8 0, .int .u8 0, .int .u8 0, .int .u8 0, .int .u8 0, .int .u8 0, .int .u8 0, .int .u8 0, .int .u8 0, .int .u8 0, .int .u8 0, .int .u8 0, .int .u8 0, .int .u8 0, .int .u8 0, .int .u8 0, .int .u8 0, .int .u8 0, .int .u8 0, .int .u8 0, .int .u8 0, .int .u8 0, .int .u8 0, .int .u8 0, .int .u8 0, .int .u8 0, .int .u8 0, .int .u8 0, .int .u8 0, .int .u8 0, .int .u8 0, .int .u8 0, .int .u8 0, .int .u8 0, .int .u8 0, .int .u8 0, .int .u8 0, .int .u8 0, .int .u8 0] 97))))
  have R0 := Lib.hid (rm_new w)
  have HU := Lib.hid (Nat.lt_of_lt_of_le hu (by decide : 18446744073709551616 ≤ 16 ^ 64))
  go_enter Tryd.func44, Tryd.ntmps44
  go_wp2_with (first
    | (go_at_call 62; refine (pow2_16 _).mono ?_; rintro e w' ⟨rfl, rfl⟩)
    | (go_at_call 63; refine HZ.out.mono ?_; rintro e w' ⟨rfl, rfl⟩))
  generalize hw0 : w.alloc _ = w0
  rw [hw0] at R0
  clear hw0 HZ
  go_loopw [1, 13] (fun x y wr => ∃ (q m : Nat) (l : List UInt8), x = .int .u64 q ∧ y = .int .i64 (m + 1 : Nat) ∧ m + 1 + l.length = 65 ∧ 1 ≤ m ∧ q < 18446744073709551616 ∧ Hid (Rm w wr l ∧ q < 16 ^ m ∧ baseS 16 false m q ++ l = baseS 16 false 64 u)) (fun x _ _ => (intOf x).toNat)
  case atStart => exact ⟨u, 64, [], rfl, rfl, rfl, by omega, hu, Lib.hid ⟨R0.out, HU.out, by simp⟩⟩
  case round =>
    obtain ⟨q, m, l, rfl, rfl, hlen, hm1, hq, H⟩ := hrel
    have hix : ∀ (d : Nat), d < 16 → ∀ W, (Instr.index 9 (.string ⟨#[48, 49, 50, 51, 52, 53, 54, 55, 56, 57, 97, 98, 99, 100, 101, 102, 103, 104, 105, 106, 107, 108, 109, 110, 111, 112, 113, 114, 115, 116, 117, 118, 119, 120, 121, 122]⟩) (.int .u64 (d : Int))).run Tryd.prog W = .ok (.int .u8 ((bdig false d).toNat : Int)) W := fun d hd W => dig_at d (by omega) W
    have hs0 := H.out.1.some_ m (by omega)
    have hf0 := H.out.1.free m (by omega)
    obtain ⟨v0, hv0⟩ := hs0
    by_cases h : 16 ≤ q
    · have dt : decide ((16 : Int) ≤ (q : Int)) = true := decide_eq_true (by omega)
      have hm2 : 2 ≤ m := by
        rcases Nat.lt_or_ge m 2 with h2 | h2
        · have h3 := H.out.2.1
          obtain rfl : m = 1 := by omega
          omega
        · exact h2
      obtain ⟨d, hd⟩ : ∃ d, d = q % 16 := ⟨_, rfl⟩
      have hd8 : d < 16 := by omega
      have hand : bits BinOp.and IntKind.u64 (q : Int) 15 = (d : Int) := by
        rw [show (15 : Int) = ((15 : Nat) : Int) from rfl, bits_and_u64_nat _ _ hq (by decide), hd]
        exact congrArg Nat.cast (Nat.and_two_pow_sub_one_eq_mod q 4)
      have hix1 := hix d hd8
      have HS := Lib.hid (rm_put H.out.1 (by omega) (bdig false d) m (by omega))
      have hstep : baseS 16 false m q = baseS 16 false (m - 1) (q / 16) ++ [bdig false d] := by
        obtain ⟨n, rfl⟩ : ∃ n, m = n + 1 := ⟨m - 1, by omega⟩
        rw [hd]
        show (if q < 16 then _ else _) = _
        rw [if_neg (by omega)]; rfl
      have hle : q / 16 < 16 ^ (m - 1) := by
        have h3 := H.out.2.1
        obtain ⟨n, rfl⟩ : ∃ n, m = n + 1 := ⟨m - 1, by omega⟩
        rw [Nat.pow_succ] at h3
        rw [Nat.add_sub_cancel]
        omega
      have HT := Lib.hid (⟨hle, hstep⟩ : _ ∧ _)
      clear hd hstep hle hix
      go_wp2_with fail
      go_roundw
      case rel => exact ⟨q / 16, m - 1, bdig false d :: l, by go_num, by go_num, by simp only [List.length_cons]; omega, by omega, by omega, Lib.hid ⟨HS.out, HT.out.1, by rw [← H.out.2.2, HT.out.2]; simp⟩⟩
      case measure => simp [intOf]; omega
    · have dt : decide ((16 : Int) ≤ (q : Int)) = false := decide_eq_false (by omega)
      have hix1 := hix q (by omega)
      have HS := Lib.hid (rm_put H.out.1 (by omega) (bdig false q) m (by omega))
      have hl : bdig false q :: l = baseS 16 false 64 u := by
        rw [← H.out.2.2]
        obtain ⟨n, rfl⟩ : ∃ n, m = n + 1 := ⟨m - 1, by omega⟩
        show _ = (if q < 16 then _ else _) ++ l
        rw [if_pos (by omega)]; rfl
      obtain ⟨hcv, hsl⟩ := rm_end HS.out m (by simp only [List.length_cons]; omega) (by simp)
      have hcv1 := hcv (65 - m)
      rw [hl] at hcv1
      clear hix hcv hl
      go_wp2_with fail
      go_ret2
      exact ⟨rfl, HS.out.below⟩
end Go.Proofs.YtfhnbpilbbbckaaDoor
