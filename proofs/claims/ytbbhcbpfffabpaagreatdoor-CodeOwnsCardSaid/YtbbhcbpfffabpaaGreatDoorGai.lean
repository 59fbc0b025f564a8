/- Merged by program: T3Show, T3There, T3Cut. -/
import Derived.Laws.IdiomStrings
import Derived.Lib.Strings
import Derived.Test.YtbbhcbpfffabpaaGreatDoorGah
/- Contract of dec.Show. -/
namespace Go.Proofs.YtbbhcbpfffabpaaGreatDoor.T3
open Go.Proofs.YtbbhcbpfffabpaaGreatDoor Go.Proofs
open Go.RowKit

theorem cell_other {w : World} {a b : Addr} {v : Value} (h : a ≠ b) : (w.setCell a v).cell? b = w.cell? b := World.cell?_setCell_other w a b v h
theorem cell_same {w : World} {a : Addr} {v u : Value} (h : w.cell? a = some u) : (w.setCell a v).cell? a = some v := World.cell?_setCell_same w a v h

structure Room (W0 w : World) (l : List UInt8) : Prop where
  below : Below W0.heap.size W0 w
  len : l.length ≤ 21
  pos : w.cell? ⟨W0.heap.size + 1, 0, none⟩ = some (.int .i64 (21 - (l.length : Int)))
  posFree : w.frozen? ⟨W0.heap.size + 1, 0, none⟩ = false
  some_ : ∀ i, i < 21 → ∃ v, w.cell? ⟨W0.heap.size, i, none⟩ = some v
  free : ∀ i, i < 21 → w.frozen? ⟨W0.heap.size, i, none⟩ = false
  holds : ∀ j, ∀ h : j < l.length, w.cell? ⟨W0.heap.size, 21 - l.length + j, none⟩ = some (.int .u8 (l[j].toNat : Int))

theorem room_put {c : Nat} {W0 w : World} {l : List UInt8} {k : Nat} {v : Value} (hc : c < 256) (hr : Room W0 w l) (hl : l.length < 21) (hk : k = 20 - l.length) (hv : w.cell? ⟨W0.heap.size, k, none⟩ = some v) :
    Room W0 ((w.setCell ⟨W0.heap.size + 1, 0, none⟩ (.int .i64 (k : Int))).setCell ⟨W0.heap.size, k, none⟩ (.int .u8 (c : Int))) (UInt8.ofNat c :: l) := by
  have ne1 : ∀ i, (⟨W0.heap.size + 1, 0, none⟩ : Addr) ≠ ⟨W0.heap.size, i, none⟩ := by intro i h; injection h with h1; omega
  have ne2 : ∀ i, (⟨W0.heap.size, i, none⟩ : Addr) ≠ ⟨W0.heap.size + 1, 0, none⟩ := fun i h => ne1 i h.symm
  have hv' : (w.setCell ⟨W0.heap.size + 1, 0, none⟩ (.int .i64 (k : Int))).cell? ⟨W0.heap.size, k, none⟩ = some v := by
    rw [cell_other (ne1 k)]; exact hv
  refine ⟨(hr.below.setCell (by simp) _).setCell (by simp) _, by simp; omega, ?_, ?_, ?_, ?_, ?_⟩
  · rw [cell_other (ne2 k), cell_same hr.pos]
    congr 2
    simp
    omega
  · simp [hr.posFree]
  · intro i hi
    obtain ⟨x, hx⟩ := hr.some_ i hi
    exact cell?_setCell_some (by rw [cell_other (ne1 i)]; exact hx)
  · intro i hi
    simp [hr.free i hi]
  · intro j hj
    cases j with
    | zero =>
      have e : 21 - (UInt8.ofNat c :: l).length + 0 = k := by simp; omega
      rw [e, cell_same hv']
      simp
      omega
    | succ j =>
      have e : 21 - (UInt8.ofNat c :: l).length + (j + 1) = 21 - l.length + j := by simp; omega
      have hj' : j < l.length := by simpa using hj
      rw [e, cell_other (by intro h; injection h with h1 h2; omega), cell_other (ne1 _), hr.holds j hj']
      rfl

theorem room_new (w : World) : Room w ((w.alloc (.cells #[.int .u8 0, .int .u8 0, .int .u8 0, .int .u8 0, .int .u8 0, .int .u8 0, .int .u8 0, .int .u8 0, .int .u8 0, .int .u8 0, .int .u8 0, .int .u8 0, .int .u8 0, .int .u8 0, .int .u8 0, .int .u8 0, .int .u8 0, .int .u8 0, .int .u8 0, .int .u8 0, .int .u8 0] 79)).alloc (.cells #[.int .i64 21] 3)) [] := by
  refine ⟨((Below.refl _ _).alloc (Nat.le_refl _) _).alloc (by simp) _, by simp, ?_, ?_, ?_, ?_, ?_⟩
  · simp [go_sem]
  · simp [go_sem]
  · intro i hi
    refine ⟨.int .u8 0, ?_⟩
    match i, hi with
    | 0, _ | 1, _ | 2, _ | 3, _ | 4, _ | 5, _ | 6, _ | 7, _ | 8, _ | 9, _ | 10, _ | 11, _ | 12, _ | 13, _ | 14, _ | 15, _ | 16, _ | 17, _ | 18, _ | 19, _ | 20, _ => simp [go_sem]
    | n + 21, h => omega
  · intro i hi
    simp [go_sem]
  · intro j h
    simp at h

theorem put_nat (c : Nat) (W0 w : World) (l : List UInt8) (hc : c < 256) (hr : Room W0 w l) (hl : l.length < 21) :
    Calls Tryz.prog 68 #[.int .u8 c, .pointer (some ⟨W0.heap.size + 1, 0, none⟩), .pointer (some ⟨W0.heap.size, 0, none⟩)] w fun e w' => e = .returned (.tuple #[]) ∧ Room W0 w' (UInt8.ofNat c :: l) := by
  obtain ⟨k, hk⟩ : ∃ k, k = 20 - l.length := ⟨_, rfl⟩
  have hp : w.cell? ⟨W0.heap.size + 1, 0, none⟩ = some (.int .i64 ((k : Int) + 1)) := by rw [hr.pos]; congr 2; omega
  have hk20 : k ≤ 20 := by omega
  have hf := hr.posFree
  obtain ⟨v, hv⟩ := hr.some_ k (by omega)
  have hfk := hr.free k (by omega)
  have HR := Lib.hid hr; clear hr
  have HK := Lib.hid hk; clear hk
  go_enter Tryz.func68, Tryz.ntmps68
  go_wp2
  go_end0
  exact ⟨rfl, room_put hc HR.out hl HK.out hv⟩

theorem put_any (c : Int) (W0 w : World) (l : List UInt8) (h0 : 0 ≤ c) (hc : c < 256) (hr : Room W0 w l) (hl : l.length < 21) :
    Calls Tryz.prog 68 #[.int .u8 c, .pointer (some ⟨W0.heap.size + 1, 0, none⟩), .pointer (some ⟨W0.heap.size, 0, none⟩)] w fun e w' => e = .returned (.tuple #[]) ∧ Room W0 w' (UInt8.ofNat c.toNat :: l) := by
  obtain ⟨n, rfl⟩ := Int.eq_ofNat_of_zero_le h0
  exact put_nat n W0 w l (by omega) hr hl

def ddig (n : Nat) : UInt8 := UInt8.ofNat (48 + n % 10)
def fixD : Nat → Nat → List UInt8
  | 0, _ => []
  | k + 1, p => fixD k (p / 10) ++ [ddig p]
def strip : Nat → Nat → List UInt8
  | 0, _ => []
  | k + 1, p => if p % 10 = 0 then strip k (p / 10) else fixD (k + 1) p
/-- The digits of n, in at most k places; none of 0. -/
def decZ : Nat → Nat → List UInt8
  | 0, _ => []
  | k + 1, n => if n = 0 then [] else decZ k (n / 10) ++ [ddig n]
def showFrac (p : Nat) : List UInt8 := if p = 0 then [] else 46 :: strip 6 p
def showPlain (n : Nat) : List UInt8 := decZ 12 (n / 1000000 / 10) ++ [ddig (n / 1000000)] ++ showFrac (n % 1000000)
def showText (a : Int) : List UInt8 := if a < 0 then 45 :: showPlain a.natAbs else showPlain a.natAbs

def ShowPost (a : Int) (W0 : World) (e : Ending) (w' : World) : Prop := ∃ t : ByteArray, t.data.toList = showText a ∧ e = .returned (.string t) ∧ Below W0.heap.size W0 w'

theorem fix_len : ∀ k p, (fixD k p).length = k
  | 0, _ => rfl
  | k + 1, p => by simp [fixD, fix_len k]
theorem strip_len : ∀ k p, (strip k p).length ≤ k
  | 0, _ => by simp [strip]
  | k + 1, p => by
    unfold strip
    split
    · have := strip_len k (p / 10); omega
    · rw [fix_len]; omega
theorem frac_len (p : Nat) : (showFrac p).length ≤ 7 := by
  unfold showFrac
  split
  · simp
  · have := strip_len 6 p; simp; omega

theorem showPlain_pos (n : Nat) : 1 ≤ (showPlain n).length := by
  unfold showPlain; simp; omega
theorem showText_pos (a : Int) : 1 ≤ (showText a).length := by
  unfold showText
  split
  · simp
  · exact showPlain_pos _

theorem run_room (B st : Nat) (h : st ≤ 20) (w : World) :
    (Instr.sliceAt 79 (.pointer (some ⟨B, 0, none⟩)) (some (.int .i64 (st : Int))) none none).run Tryz.prog w = .ok (.slice (some ⟨B, st, none⟩) (21 - st) (21 - st)) w := by
  have hl : Tryz.prog.arrayLen 79 = 21 := by kernel_rfl
  have he : Tryz.prog.elem 79 = 5 := by kernel_rfl
  have ht : Tryz.prog.underlying 79 = some (.array (Tryz.prog.arrayLen 79) (Tryz.prog.elem 79)) := by rw [hl, he]; exact Tryz.underlying79
  rw [run_sliceAt_array_l w 79 _ ht .i64 st (by omega) (by rw [hl]; omega), hl, he, Tryz.sizeOf5]
  simp only [Result.andThen, slicedAt, Int.toNat_natCast, Nat.mul_one]
  rw [if_neg (by omega)]
  have ea : Addr.add ⟨B, 0, none⟩ st = ⟨B, st, none⟩ := by
    unfold Addr.add
    split
    · simp [*]
    · simp
  rw [ea]

theorem room_end {W0 w : World} {l : List UInt8} (h : Room W0 w l) (h1 : 1 ≤ l.length) :
    ∃ st : Nat, Hid (st + l.length = 21) ∧ (∀ c, (convert 66 9 (.slice (some ⟨W0.heap.size, st, none⟩) (21 - st) c)).run Tryz.prog w = .ok (.string ⟨l.toArray⟩) w) ∧ (∀ wx, (Instr.sliceAt 79 (.pointer (some ⟨W0.heap.size, 0, none⟩)) (some (.int .i64 (st : Int))) none none).run Tryz.prog wx = .ok (.slice (some ⟨W0.heap.size, st, none⟩) (21 - st) (21 - st)) wx) ∧ w.cell? ⟨W0.heap.size + 1, 0, none⟩ = some (.int .i64 (st : Int)) ∧ st ≤ 20 ∧ Below W0.heap.size W0 w := by
  have hl := h.len
  refine ⟨21 - l.length, Lib.hid (by omega), ?_, fun wx => run_room _ _ (by omega) wx, ?_, by omega, h.below⟩
  · intro c
    rw [show 21 - (21 - l.length) = l.length from by omega]
    refine run_convert_bytes_back w 66 9 5 _ c l Tryz.underlying66 Tryz.underlying5 Tryz.underlying9 ?_
    intro j hj
    have e : Addr.add ⟨W0.heap.size, 21 - l.length, none⟩ j = ⟨W0.heap.size, 21 - l.length + j, none⟩ := by
      unfold Addr.add
      split
      · simp [*]
      · rfl
    rw [e]
    exact h.holds j hj
  · rw [h.pos]; congr 2; omega

theorem strip_next {k q : Nat} (hk : 1 ≤ k) (hq0 : q % 10 = 0) (h : q < 10 ^ k) : q / 10 < 10 ^ (k - 1) ∧ strip k q = strip (k - 1) (q / 10) := by
  obtain ⟨j, rfl⟩ : ∃ j, k = j + 1 := ⟨k - 1, by omega⟩
  refine ⟨?_, ?_⟩
  · rw [Nat.pow_succ] at h
    simp only [Nat.add_sub_cancel]
    omega
  · simp [strip, hq0]

set_option maxRecDepth 100000 in
set_option maxHeartbeats 1000000 in
theorem show_any (a : Int) (w : World) (ha : Fits a) :
    Calls Tryz.prog 36 #[.int .i64 a] w (ShowPost a w) := by
  obtain ⟨n, hn⟩ : ∃ n, n = a.natAbs := ⟨_, rfl⟩
  obtain ⟨p, hp⟩ : ∃ p, p = n % 1000000 := ⟨_, rfl⟩
  obtain ⟨m, hm⟩ : ∃ m, m = n / 1000000 := ⟨_, rfl⟩
  have hn64 : n < 18446744073709551616 := by rw [hn]; exact natAbs_lt ha
  have hn13 : n ≤ 9223372036854775808 := by unfold Fits at ha; omega
  have hm13 : m < 10000000000000 := by omega
  have hsz := fun w => size_any a w ha
  rw [← hn] at hsz
  have HA := Lib.hid hsz; clear hsz
  have hq : IntKind.u64.wrap ((n : Int) / 1000000) = m := by rw [wrapU, hm]; omega
  have hr : (n : Int) % 1000000 = p := by rw [hp]; omega
  have hp6 : p < 1000000 := by omega
  have HP := Lib.hid hp; clear hp
  have HM := Lib.hid hm; clear hm
  have HN := Lib.hid hn; clear hn
  clear hn64 hn13
  go_enter Tryz.func36, Tryz.ntmps36
  go_upto_region 4 with (fail)
  generalize hw0 : (w.alloc _).alloc _ = w0
  have room0 : Room w w0 [] := by rw [← hw0]; exact room_new w
  clear hw0
  have HQ := Lib.hid hq; clear hq
  have HRM := Lib.hid hr; clear hr
  go_cut [6, 7] (fun a b wx => a = .int .u64 m ∧ b = .int .u64 p ∧ wx = w0)
  case first =>
    go_wp2_with fail
    refine (HA.out _).mono ?_
    rintro e w1 ⟨rfl, rfl⟩
    go_wp2_with fail
    refine (HA.out _).mono ?_
    rintro e w1 ⟨rfl, rfl⟩
    go_wp2_with fail
    go_meet
    exact ⟨congrArg _ HQ.out, congrArg _ HRM.out, rfl⟩
  case rest =>
  obtain ⟨rfl, rfl, rfl⟩ := hcut
  go_step
  go_upto_if 17 with (fail)
  go_cut [7] (fun a wx => Room w wx (showFrac p) ∧ a = a)
  case first =>
    by_cases hp0 : p = 0
    · subst hp0
      go_wp2
      go_meet
      exact ⟨room0, trivial⟩
    · have hpb : ((p : Int) != 0) = true := by rw [bne_iff_ne]; omega
      go_wp2
      go_loop [7, 8] (fun a b => ∃ q k : Nat, a = .int .u64 q ∧ b = .int .i64 k ∧ 1 ≤ q ∧ k ≤ 6 ∧ Hid (q < 10 ^ k ∧ strip k q = strip 6 p)) (fun _ b => (intOf b).toNat)
      case atStart => exact ⟨p, 6, rfl, rfl, by omega, by omega, Lib.hid ⟨by omega, rfl⟩⟩
      case round =>
        obtain ⟨q, k, rfl, rfl, hq1, hk6, hk⟩ := hrel
        have hk1 : 1 ≤ k := by
          rcases Nat.eq_zero_or_pos k with h | h
          · have := hk.out.1; rw [h] at this; omega
          · exact h
        have hq6 : q ≤ 18446744073709551615 := by
          have h1 := hk.out.1
          have h2 : 10 ^ k ≤ 10 ^ 6 := Nat.pow_le_pow_right (by omega) hk6
          omega
        by_cases hq0 : q % 10 = 0
        · have hb : ((q : Int) % 10 == 0) = true := by rw [beq_iff_eq]; omega
          have hnext := strip_next hk1 hq0 hk.out.1
          have HN := Lib.hid hnext; clear hnext
          go_wp2
          go_round
          case rel => exact ⟨q / 10, k - 1, by go_num, by go_num, by omega, by omega, Lib.hid ⟨HN.out.1, by rw [← hk.out.2, HN.out.2]⟩⟩
          case measure => simp [intOf]; omega
        · have hb : ((q : Int) % 10 == 0) = false := by rw [beq_eq_false_iff_ne]; omega
          have hfix : fixD k q ++ [] = strip 6 p := by
            obtain ⟨j, rfl⟩ : ∃ j, k = j + 1 := ⟨k - 1, by omega⟩
            rw [← hk.out.2]; simp [strip, hq0]
          have HF := Lib.hid hfix; clear hfix
          go_wp2
          go_loopw [7, 8] (fun a b wr => ∃ q k : Nat, ∃ l : List UInt8, a = .int .u64 q ∧ b = .int .i64 k ∧ l.length + k ≤ 6 ∧ q ≤ 18446744073709551615 ∧ Hid (fixD k q ++ l = strip 6 p) ∧ Room w wr l) (fun _ b _ => (intOf b).toNat)
          case atStart => exact ⟨q, k, [], rfl, rfl, by simpa using hk6, hq6, HF, room0⟩
          case round =>
            obtain ⟨q, k, l, rfl, rfl, hlk, hq6, hfx, hroom⟩ := hrel
            have HRO := Lib.hid hroom; clear hroom
            rcases Nat.eq_zero_or_pos k with h | h
            · subst h
              have hl : l = strip 6 p := by simpa [fixD] using hfx.out
              have HL := Lib.hid hl; clear hl
              go_wp2_with fail
              refine (put_any _ w _ _ (by omega) (by omega) HRO.out (by omega)).mono ?_
              rintro e w2 ⟨rfl, hr2⟩
              have HR2 := Lib.hid hr2; clear hr2
              go_wp2_with fail
              go_meet
              exact ⟨by rw [showFrac, if_neg hp0, ← HL.out]; exact HR2.out, trivial⟩
            · obtain ⟨j, rfl⟩ : ∃ j, k = j + 1 := ⟨k - 1, by omega⟩
              have hnx : fixD j (q / 10) ++ (ddig q :: l) = strip 6 p := by rw [← hfx.out]; simp [fixD]
              have HNX := Lib.hid hnx; clear hnx
              go_wp2_with fail
              refine (put_any _ w _ _ (by omega) (by omega) HRO.out (by omega)).mono ?_
              rintro e w2 ⟨rfl, hr2⟩
              rw [show UInt8.ofNat (48 + (q : Int) % 10).toNat = ddig q from by unfold ddig; congr 1] at hr2
              have HR2 := Lib.hid hr2; clear hr2
              go_wp2_with fail
              go_roundw
              case rel => exact ⟨q / 10, j, ddig q :: l, by go_num, by go_num, by simp only [List.length_cons]; omega, by omega, HNX, HR2.out⟩
              case measure => simp [intOf]
  case rest =>
    obtain ⟨room1, _⟩ := hcut
    obtain ⟨F, hF⟩ : ∃ F, F = showFrac p := ⟨_, rfl⟩
    have hFl : F.length ≤ 7 := by rw [hF]; exact frac_len p
    rw [← hF] at room1
    have HF := Lib.hid hF; clear hF
    have HR1 := Lib.hid room1; clear room1
    go_step
    go_wp2_with fail
    refine (put_any _ w _ _ (by omega) (by omega) HR1.out (by omega)).mono ?_
    rintro e w2 ⟨rfl, hr2⟩
    rw [show UInt8.ofNat (48 + (m : Int) % 10).toNat = ddig m from by unfold ddig; congr 1] at hr2
    have HR2 := Lib.hid hr2; clear hr2
    go_wp2_with fail
    go_loopw [6] (fun a wr => ∃ q j : Nat, ∃ l : List UInt8, a = .int .u64 q ∧ l.length + j ≤ 20 ∧ q ≤ 18446744073709551615 ∧ Hid (q < 10 ^ j ∧ decZ j q ++ l = decZ 12 (m / 10) ++ (ddig m :: F)) ∧ Room w wr l) (fun a _ => (intOf a).toNat)
    case atStart => exact ⟨m / 10, 12, _, by go_num, by simp; omega, by omega, Lib.hid ⟨by omega, rfl⟩, HR2.out⟩
    case round =>
      obtain ⟨q, j, l, rfl, hlj, hq, hqj, hroom⟩ := hrel
      have HRO := Lib.hid hroom; clear hroom
      by_cases hq0 : q = 0
      · subst hq0
        have hl : l = decZ 12 (m / 10) ++ (ddig m :: F) := by rw [← hqj.out.2]; cases j <;> simp [decZ]
        have hlf : l = showPlain n := by rw [hl, HF.out, HP.out, HM.out]; simp [showPlain]
        have HLF := Lib.hid hlf; clear hlf hl
        by_cases ha0 : a < 0
        · go_wp2_with fail
          refine (put_any _ w _ _ (by omega) (by omega) HRO.out (by omega)).mono ?_
          rintro e w3 ⟨rfl, hr3⟩
          have hfin : UInt8.ofNat (45 : Int).toNat :: l = showText a := by
            rw [HLF.out, HN.out]; simp [showText, ha0]
          rw [hfin] at hr3
          obtain ⟨st, hst, hcv, hsl, hpos, hst20, hbel⟩ := room_end hr3 (showText_pos a)
          clear hr3 hfin
          have HBE := Lib.hid hbel; clear hbel
          go_wp2_with fail
          go_ret
          exact ⟨_, rfl, rfl, HBE.out⟩
        · have hfin : l = showText a := by
            rw [HLF.out, HN.out]; simp [showText, ha0]
          rw [hfin] at HRO
          obtain ⟨st, hst, hcv, hsl, hpos, hst20, hbel⟩ := room_end HRO.out (showText_pos a)
          have HBE := Lib.hid hbel; clear hbel hfin
          go_wp2_with fail
          go_ret
          exact ⟨_, rfl, rfl, HBE.out⟩
      · obtain ⟨i, rfl⟩ : ∃ i, j = i + 1 := by
          cases j with
          | zero => have := hqj.out.1; omega
          | succ i => exact ⟨i, rfl⟩
        have hnx : q / 10 < 10 ^ i ∧ decZ i (q / 10) ++ (ddig q :: l) = decZ 12 (m / 10) ++ (ddig m :: F) := by
          refine ⟨?_, ?_⟩
          · have := hqj.out.1; rw [Nat.pow_succ] at this; omega
          · rw [← hqj.out.2]; simp [decZ, hq0]
        have HNX := Lib.hid hnx; clear hnx
        go_wp2_with fail
        refine (put_any _ w _ _ (by omega) (by omega) HRO.out (by omega)).mono ?_
        rintro e w3 ⟨rfl, hr3⟩
        rw [show UInt8.ofNat (48 + (q : Int) % 10).toNat = ddig q from by unfold ddig; congr 1] at hr3
        have HR3 := Lib.hid hr3; clear hr3
        go_wp2_with fail
        go_roundw
        case rel => exact ⟨q / 10, i, _, by go_num, by simp; omega, by omega, HNX, HR3.out⟩
        case measure => simp [intOf]; omega
end Go.Proofs.YtbbhcbpfffabpaaGreatDoor.T3

/- There and back: what dec.Parse makes of dec.Show's text. Plain mathematics. -/
namespace Go.Proofs.YtbbhcbpfffabpaaGreatDoor.T3
open Go.Proofs.YtbbhcbpfffabpaaGreatDoor Go.Proofs
open Go.RowKit

theorem tw_block {p : UInt8 → Bool} {A B : List UInt8} (hA : ∀ c ∈ A, p c = true) (hB : ∀ c, B.head? = some c → p c = false) : (A ++ B).takeWhile p = A := by
  induction A with
  | nil =>
    cases B with
    | nil => rfl
    | cons c B => simp [hB c rfl]
  | cons a A ih =>
    simp only [List.cons_append, List.takeWhile_cons, hA a (by simp), if_true]
    rw [ih (fun c hc => hA c (by simp [hc]))]

theorem ddig_nat (n : Nat) : (ddig n).toNat = 48 + n % 10 := by
  unfold ddig
  simp
  omega
theorem ddig_isDig (n : Nat) : isDig (ddig n) = true := by
  simp [isDig, ddig_nat]; omega

theorem fixD_digs : ∀ k p, ∀ c ∈ fixD k p, isDig c = true
  | 0, _, c, h => by simp [fixD] at h
  | k + 1, p, c, h => by
    simp only [fixD, List.mem_append, List.mem_singleton] at h
    rcases h with h | h
    · exact fixD_digs k _ c h
    · rw [h]; exact ddig_isDig _
theorem strip_digs : ∀ k p, ∀ c ∈ strip k p, isDig c = true
  | 0, _, c, h => by simp [strip] at h
  | k + 1, p, c, h => by
    unfold strip at h
    split at h
    · exact strip_digs k _ c h
    · exact fixD_digs _ _ c h
theorem decZ_digs : ∀ k n, ∀ c ∈ decZ k n, isDig c = true
  | 0, _, c, h => by simp [decZ] at h
  | k + 1, n, c, h => by
    unfold decZ at h
    split at h
    · simp at h
    · simp only [List.mem_append, List.mem_singleton] at h
      rcases h with h | h
      · exact decZ_digs k _ c h
      · rw [h]; exact ddig_isDig _

theorem dval_digit (l : List UInt8) (n : Nat) : dval (l ++ [ddig n]) = dval l * 10 + n % 10 := by
  rw [dval_snoc, ddig_nat]; omega

theorem dval_fixD : ∀ k p, p < 10 ^ k → dval (fixD k p) = p
  | 0, p, h => by simp at h; subst h; rfl
  | k + 1, p, h => by
    rw [Nat.pow_succ] at h
    rw [fixD, dval_digit, dval_fixD k (p / 10) (by omega)]; omega

theorem dval_decZ : ∀ k n, n < 10 ^ k → dval (decZ k n) = n
  | 0, n, h => by simp at h; subst h; rfl
  | k + 1, n, h => by
    rw [Nat.pow_succ] at h
    unfold decZ
    split
    · rename_i h0; subst h0; rfl
    · rw [dval_digit, dval_decZ k (n / 10) (by omega)]; omega

theorem dval_strip : ∀ k p, p < 10 ^ k → dval (strip k p ++ List.replicate (k - (strip k p).length) 48) = p
  | 0, p, h => by simp at h; subst h; rfl
  | k + 1, p, h => by
    rw [Nat.pow_succ] at h
    unfold strip
    split
    · have hl := strip_len k (p / 10)
      have ih := dval_strip k (p / 10) (by omega)
      rw [show k + 1 - (strip k (p / 10)).length = (k - (strip k (p / 10)).length) + 1 from by omega, List.replicate_succ', ← List.append_assoc, dval_snoc, ih]
      simp
      omega
    · rw [fix_len, Nat.sub_self, List.replicate_zero, List.append_nil]
      exact dval_fixD (k + 1) p (by rw [Nat.pow_succ]; exact h)

theorem dval_append : ∀ (b a : List UInt8), dval (a ++ b) = dval a * 10 ^ b.length + dval b
  | [], a => by simp [dval]
  | c :: b, a => by
    have h1 := dval_append b (a ++ [c])
    have h2 := dval_append b [c]
    have h3 : dval [c] = c.toNat - 48 := by simp [dval, dstep]
    rw [show a ++ c :: b = (a ++ [c]) ++ b from by simp, h1, dval_snoc, show c :: b = [c] ++ b from rfl, h2, h3]
    simp only [List.length_append, List.length_cons, List.length_nil, Nat.zero_add]
    rw [Nat.add_comm 1 b.length, Nat.pow_succ, Nat.add_mul]
    rw [show dval a * (10 ^ b.length * 10) = dval a * 10 * 10 ^ b.length from by rw [Nat.mul_comm (10 ^ b.length) 10, Nat.mul_assoc]]
    omega

def wholeText (n : Nat) : List UInt8 := decZ 12 (n / 1000000 / 10) ++ [ddig (n / 1000000)]
def partText (n : Nat) : List UInt8 := if n % 1000000 = 0 then [] else strip 6 (n % 1000000)

theorem mval_text (n : Nat) (h : n ≤ 9223372036854775808) : mval (wholeText n) (partText n) = n := by
  unfold mval
  rw [dval_append, pad6_len]
  have h1 : dval (wholeText n) = n / 1000000 := by
    unfold wholeText
    rw [dval_digit, dval_decZ 12 _ (by omega)]; omega
  have h2 : dval (pad6 (partText n)) = n % 1000000 := by
    unfold partText pad6
    split
    · rename_i h0; rw [h0]; rfl
    · have hl := strip_len 6 (n % 1000000)
      rw [List.take_of_length_le hl]
      exact dval_strip 6 _ (by have := Nat.mod_lt n (show 0 < 1000000 by decide); omega)
  rw [h1, h2]
  omega

structure Clean (behind : List UInt8) : Prop where
  head : ∀ c, behind.head? = some c → isDig c = false ∧ c.toNat ≠ 46

theorem wholeText_digs (n : Nat) : ∀ c ∈ wholeText n, isDig c = true := by
  intro c h
  unfold wholeText at h
  simp only [List.mem_append, List.mem_singleton] at h
  rcases h with h | h
  · exact decZ_digs _ _ c h
  · rw [h]; exact ddig_isDig _

theorem wholeText_cons (n : Nat) : ∃ c l, wholeText n = c :: l ∧ isDig c = true := by
  have hd := wholeText_digs n
  cases h : wholeText n with
  | nil =>
    have h2 := congrArg List.length h
    unfold wholeText at h2
    simp at h2
  | cons c l => exact ⟨c, l, rfl, hd c (by rw [h]; simp)⟩

theorem showPlain_split (n : Nat) : showPlain n = wholeText n ++ showFrac (n % 1000000) := rfl

/-- The number that begins a text: blanks ahead, the number's text, something behind that doesn't go on with it. -/
theorem parse_text (a : Int) (ha : Fits a) (pre behind : List UInt8) (hpre : ∀ c ∈ pre, isBl c = true) (hb : Clean behind) :
    parseAns (pre ++ (showText a ++ behind)) = num3 (a, 0) (pre.length + (showText a).length) := by
  obtain ⟨n, hn⟩ : ∃ n, n = a.natAbs := ⟨_, rfl⟩
  have hn19 : n ≤ 9223372036854775808 := by unfold Fits at ha; omega
  obtain ⟨sg, hsg⟩ : ∃ sg : List UInt8, sg = if a < 0 then [45] else [] := ⟨_, rfl⟩
  have htext : showText a = sg ++ (wholeText n ++ showFrac (n % 1000000)) := by
    unfold showText
    rw [hsg, ← hn, ← showPlain_split]
    split <;> simp
  obtain ⟨c0, w0, hw0, hc0⟩ := wholeText_cons n
  obtain ⟨L, hL⟩ : ∃ L, L = pre ++ (showText a ++ behind) := ⟨_, rfl⟩
  rw [← hL]
  have hc0d := isDig_yes hc0
  have h1 : parseAt L = pre.length := by
    unfold parseAt
    rw [hL, tw_block hpre]
    intro c hc
    rw [htext, hsg, hw0] at hc
    split at hc
    · simp at hc; subst hc; rfl
    · simp at hc; subst hc
      simp [isBl]; omega
  have hd1 : L.drop pre.length = showText a ++ behind := by rw [hL]; simp
  have h2 : signOf (L.drop (parseAt L)) = (decide (a < 0), sg.length) := by
    rw [h1, hd1, htext, hsg, hw0]
    by_cases h : a < 0
    · rw [if_pos h]; simp [signOf, h]
    · rw [if_neg h]
      have e1 : ¬ (c0 = 45) := by intro e; rw [e] at hc0d; simp at hc0d
      have e2 : ¬ (c0 = 43) := by intro e; rw [e] at hc0d; simp at hc0d
      simp [signOf, h, e1, e2]
  have h3 : parseB L = pre.length + sg.length := by unfold parseB; rw [h2, h1]
  have hd2 : L.drop (pre.length + sg.length) = wholeText n ++ (showFrac (n % 1000000) ++ behind) := by
    rw [← List.drop_drop, hd1, htext]; simp
  have h4 : parseWhole L = wholeText n := by
    unfold parseWhole
    rw [h3, hd2, tw_block (wholeText_digs n)]
    intro c hc
    unfold showFrac at hc
    split at hc
    · exact (hb.head c (by simpa using hc)).1
    · simp at hc; subst hc; rfl
  have h5 : parseC L = pre.length + sg.length + (wholeText n).length := by unfold parseC; rw [h3, h4]
  have hd3 : L.drop (pre.length + sg.length + (wholeText n).length) = showFrac (n % 1000000) ++ behind := by
    rw [← List.drop_drop, hd2]; simp
  have h6 : parsePart L = (partText n, if n % 1000000 = 0 then 0 else 1) := by
    unfold parsePart dotOf
    rw [h5]
    have e : L[pre.length + sg.length + (wholeText n).length]? = (showFrac (n % 1000000) ++ behind).head? := by
      rw [← hd3, List.head?_drop]
    rw [e]
    by_cases h0 : n % 1000000 = 0
    · unfold showFrac partText
      rw [if_pos h0, if_pos h0, if_pos h0, List.nil_append]
      rw [if_neg]
      intro hc
      exact (hb.head 46 hc).2 rfl
    · have e2 : (showFrac (n % 1000000) ++ behind).head? = some 46 := by unfold showFrac; rw [if_neg h0]; rfl
      rw [if_pos e2, ← List.drop_drop, hd3]
      unfold showFrac partText
      rw [if_neg h0, if_neg h0, if_neg h0]
      simp only [List.cons_append, List.drop_succ_cons, List.drop_zero]
      rw [tw_block (strip_digs _ _) (fun c hc => (hb.head c hc).1)]
  have hval : parseVal L = a := by
    unfold parseVal
    rw [h2, h4, h6]
    simp only
    rw [mval_text n hn19, hn]
    unfold sgn
    by_cases h : a < 0
    · simp [h]; omega
    · simp [h]; omega
  have hnone : parseNone L = false := by
    unfold parseNone
    rw [h4, hw0]
    simp
  have hend : parseEnd L = pre.length + (showText a).length := by
    unfold parseEnd
    rw [h5, h6, htext]
    unfold showFrac partText
    by_cases h0 : n % 1000000 = 0
    · simp [h0]; omega
    · simp [h0]; omega
  unfold parseAns
  rw [hnone, hval, hend]
  unfold back
  rw [if_pos ha]
  rfl
end Go.Proofs.YtbbhcbpfffabpaaGreatDoor.T3

/- Characters of a text as places: the widths that a range over a string goes by. Plain: no program. -/
namespace Go.Proofs.YtbbhcbpfffabpaaGreatDoor.T3
open Go.Proofs.YtbbhcbpfffabpaaGreatDoor Go.Proofs
open Go.Lib

/-! ### Parts of a text -/
theorem bytes_ext {t u : ByteArray} (h : t.data.toList = u.data.toList) : t = u := by
  apply ByteArray.ext
  exact Array.toList_inj.1 h

theorem part_part (s : ByteArray) (a b c d : Nat) (hd : a + d ≤ b) : (s.extract a b).extract c d = s.extract (a + c) (a + d) := by
  apply bytes_ext
  rw [extract_data, extract_data, extract_data, List.drop_take, List.take_take, List.drop_drop]
  congr 1
  omega

theorem part_join (s : ByteArray) (a b c : Nat) (h1 : a ≤ b) (h2 : b ≤ c) : s.extract a b ++ s.extract b c = s.extract a c := by
  apply bytes_ext
  rw [ByteArray.data_append, Array.toList_append, extract_data, extract_data, extract_data]
  have e : c - a = (b - a) + (c - b) := by omega
  rw [e, List.take_add, List.drop_drop, show a + (b - a) = b from by omega]

theorem part_none (s : ByteArray) (a b : Nat) (h : b ≤ a) : s.extract a b = ⟨#[]⟩ := by
  apply bytes_ext
  rw [extract_data, show b - a = 0 from by omega]
  simp

theorem part_all (s : ByteArray) : s.extract 0 s.size = s := by
  apply bytes_ext
  rw [extract_data, List.drop_zero, Nat.sub_zero, size_eq]
  exact List.take_length

theorem part_size (s : ByteArray) (a b : Nat) (h : b ≤ s.size) : (s.extract a b).size = b - a := by
  rw [ByteArray.size_extract]; omega

end Go.Proofs.YtbbhcbpfffabpaaGreatDoor.T3
