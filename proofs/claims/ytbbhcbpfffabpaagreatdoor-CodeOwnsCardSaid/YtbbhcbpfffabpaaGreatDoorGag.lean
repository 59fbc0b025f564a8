/- Merged by program: WholeP, T2Ints, T2Chars, T2RefSub. -/
import Derived.Test.YtbbhcbpfffabpaaGreatDoorGad
import Derived.Test.YtbbhcbpfffabpaaGreatDoorGae
import Derived.Test.YtbbhcbpfffabpaaGreatDoorGaf
/- strconv.FormatUint at bases 8, 10, 16; format.Whole, distance, within: walks. -/
namespace Go.Proofs.YtbbhcbpfffabpaaGreatDoor
open Go.RowKit

theorem bdig_of (d : Nat) (h : d < 10) (g : Bool) : bdig g d = UInt8.ofNat (48 + d) := by unfold bdig; rw [if_pos h]
theorem dec_base : ∀ (k u : Nat), u < 10 ^ (k + 1) → Lib.decDigits u = baseS 10 false (k + 1) u
  | 0, u, h => by
    rw [Nat.zero_add, Nat.pow_one] at h
    show _ = (if u < 10 then _ else _)
    rw [if_pos h, Lib.decDigits_one h, bdig_of u h]
  | k + 1, u, h => by
    show _ = (if u < 10 then _ else _)
    by_cases h1 : u < 10
    · rw [if_pos h1, Lib.decDigits_one h1, bdig_of u h1]
    · rw [if_neg h1, Lib.decDigits, dif_neg h1, dec_base k (u / 10) (by rw [Nat.div_lt_iff_lt_mul (by omega), ← Nat.pow_succ]; exact h), bdig_of _ (Nat.mod_lt _ (by omega))]
theorem dec_base64 (u : Nat) (h : u < 18446744073709551616) : Lib.decDigits u = baseS 10 false 64 u := dec_base 63 u (Nat.lt_of_lt_of_le h (by decide))

set_option maxRecDepth 100000 in
theorem fmtIn (b : Nat) (hb : b = 8 ∨ b = 10 ∨ b = 16) (u : Nat) (hu : u < 18446744073709551616) (w : World) (hE : Env w) :
    Calls Tryz.prog 154 #[.int .u64 u, .int .i64 b] w (TextOut (baseS b false 64 u) w) := by
  rcases hb with rfl | rfl | rfl
  · have H := Lib.hid (bits_8 u hu w hE)
    go_enter Tryz.func154, Tryz.ntmps154
    go_wp2_with fail
    refine H.out.mono ?_
    rintro e w1 ⟨rfl, b1⟩
    have B1 := Lib.hid b1
    clear b1
    go_wp2_with fail
    go_ret
    exact ⟨rfl, B1.out⟩
  · refine (fmt10_in u hu w hE).mono ?_
    rintro e w1 ⟨rfl, b1⟩
    exact ⟨by rw [dec_base64 u hu], b1⟩
  · have H := Lib.hid (bits_16 u hu w hE)
    go_enter Tryz.func154, Tryz.ntmps154
    go_wp2_with fail
    refine H.out.mono ?_
    rintro e w1 ⟨rfl, b1⟩
    have B1 := Lib.hid b1
    clear b1
    go_wp2_with fail
    go_ret
    exact ⟨rfl, B1.out⟩
set_option maxRecDepth 100000 in
theorem fmtU (b : Nat) (hb : b = 8 ∨ b = 10 ∨ b = 16) (u : Nat) (hu : u < 18446744073709551616) (w : World) (hE : Env w) :
    Calls Tryz.prog 152 #[.int .u64 u, .int .i64 b] w (TextOut (baseS b false 64 u) w) := by
  have H := Lib.hid (fmtIn b hb u hu w hE)
  clear hb
  go_enter Tryz.func152, Tryz.ntmps152
  go_wp2_with fail
  refine H.out.mono ?_
  rintro e w1 ⟨rfl, b1⟩
  have B1 := Lib.hid b1
  clear b1
  go_wp2_with fail
  go_ret
  exact ⟨rfl, B1.out⟩

theorem distance_any (n : Int) (hn : -9223372036854775808 ≤ n ∧ n ≤ 9223372036854775807) (w : World) :
    Calls Tryz.prog 151 #[.int .i64 n] w fun e w' => e = .returned (.int .u64 (n.natAbs : Nat)) ∧ w = w' := by
  by_cases h : n < 0
  · have d0 : decide (n < 0) = true := decide_eq_true h
    have e1 : IntKind.u64.wrap (-IntKind.u64.wrap n) = (n.natAbs : Int) := by rw [IntKind.wrap_u64, IntKind.wrap_u64]; omega
    go_enter Tryz.func151, Tryz.ntmps151
    go_wp2_with fail
    go_ret
    exact ⟨rfl, rfl⟩
  · have d0 : decide (n < 0) = false := decide_eq_false h
    have e1 : n = (n.natAbs : Int) := by omega
    obtain ⟨m, rfl⟩ : ∃ m : Nat, n = m := ⟨_, e1⟩
    clear e1
    have h64 : m < 18446744073709551616 := by omega
    go_enter Tryz.func151, Tryz.ntmps151
    go_wp2_with fail
    go_ret
    exact ⟨rfl, rfl⟩

theorem clamp_eq (i : Int) : min (max i 0) 200 = ((clampN i : Nat) : Int) := by
  unfold clampN
  split
  · omega
  · split <;> omega
theorem within_any (i : Int) (w : World) :
    Calls Tryz.prog 128 #[.int .i64 i] w fun e w' => e = .returned (.int .i64 (clampN i : Nat)) ∧ w = w' := by
  have H := Lib.hid (clamp_eq i)
  go_enter Tryz.func128, Tryz.ntmps128
  go_wp2_with fail
  go_ret
  exact ⟨T2.ret_i64 H.out, rfl⟩

theorem up_dig (d : Nat) (h : d < 16) : T2.shB 97 65 (bdig false d) = bdig true d := by
  have h' : d = 0 ∨ d = 1 ∨ d = 2 ∨ d = 3 ∨ d = 4 ∨ d = 5 ∨ d = 6 ∨ d = 7 ∨ d = 8 ∨ d = 9 ∨ d = 10 ∨ d = 11 ∨ d = 12 ∨ d = 13 ∨ d = 14 ∨ d = 15 := by omega
  rcases h' with rfl | rfl | rfl | rfl | rfl | rfl | rfl | rfl | rfl | rfl | rfl | rfl | rfl | rfl | rfl | rfl <;> decide
theorem up_base (b : Nat) (hb : 2 ≤ b) (hb16 : b ≤ 16) : ∀ (k n : Nat), (baseS b false k n).map (T2.shB 97 65) = baseS b true k n
  | 0, _ => rfl
  | k + 1, n => by
    show List.map _ (if n < b then _ else _) = (if n < b then _ else _)
    by_cases h : n < b
    · rw [if_pos h, if_pos h, List.map_cons, up_dig n (by omega)]; rfl
    · rw [if_neg h, if_neg h, List.map_append, up_base b hb hb16 k, List.map_cons, up_dig _ (Nat.lt_of_lt_of_le (Nat.mod_lt _ (by omega)) hb16)]; rfl

set_option maxRecDepth 100000 in
theorem wholeP_any (n : Int) (hn : -9223372036854775808 ≤ n ∧ n ≤ 9223372036854775807) (b : Nat) (hb : b = 8 ∨ b = 10 ∨ b = 16) (great : Bool) (w : World) (hE : Env w) :
    Calls Tryz.prog 146 #[.int .i64 n, .int .i64 b, .bool great] w (TextOut (wholeS n b great) w) := by
  have hq : -9223372036855 ≤ n.tdiv 1000000 ∧ n.tdiv 1000000 ≤ 9223372036855 := by
    by_cases h : 0 ≤ n
    · rw [Int.tdiv_eq_ediv_of_nonneg h]; omega
    · have e : n.tdiv 1000000 = -((-n) / 1000000) := by rw [← Int.tdiv_eq_ediv_of_nonneg (by omega), Int.neg_tdiv, Int.neg_neg]
      rw [e]; omega
  obtain ⟨N, hN⟩ : ∃ N, N = wholeN n b := ⟨_, rfl⟩
  have HS : Hid (wholeS n b great = baseS b great 64 N) := Lib.hid (by rw [hN]; rfl)
  have hN64 : N < 18446744073709551616 := by
    rw [hN]; unfold wholeN
    split <;> omega
  obtain ⟨q, hqq⟩ : ∃ q, q = n.tdiv 1000000 := ⟨_, rfl⟩
  rw [← hqq] at hq
  have w1 : IntKind.i64.wrap q = q := by rw [IntKind.wrap_i64]; omega
  have HF := Lib.hid (fun w hE => fmtU b hb N hN64 w hE)
  have HU := Lib.hid (fun (w : World) => T2.upper_any ⟨(baseS b false 64 N).toArray⟩ (by
    have := baseS_len b false 64 N
    rw [Lib.size_eq]; simp [maxLen]; omega) w)
  have HB := Lib.hid (up_base b (by omega) (by omega) 64 N)
  have HE := Lib.hid hE
  have HD : Hid (b = 10 → ∀ w, Calls Tryz.prog 151 #[.int .i64 q] w fun e w' => e = .returned (.int .u64 (N : Nat)) ∧ w = w') := Lib.hid (fun h10 w => by
    have h := distance_any q (by omega) w
    rw [hN, show wholeN n b = q.natAbs by unfold wholeN; rw [if_pos h10, hqq]]
    exact h)
  have HC : Hid (b ≠ 10 → IntKind.u64.wrap q = (N : Int)) := Lib.hid (fun h10 => by
    rw [hN, show wholeN n b = (q % 18446744073709551616).toNat by unfold wholeN; rw [if_neg h10, hqq], IntKind.wrap_u64]; omega)
  clear hN
  have fin : ∀ e w', TextOut (baseS b great 64 N) w e w' → TextOut (wholeS n b great) w e w' := fun e w' h => by rw [HS.out]; exact h
  have FIN := Lib.hid fin
  clear fin hE HS
  go_enter Tryz.func146, Tryz.ntmps146
  go_upto_region 2 with (fail)
  rw [← hqq]
  clear hqq
  rcases hb with rfl | rfl | rfl
  · have hc := HC.out (by decide)
    cases great
    · go_wp2_with fail
      refine (HF.out _ HE.out).mono ?_
      rintro e w1 ⟨rfl, b1⟩
      have B1 := Lib.hid b1
      clear b1
      go_wp2_with fail
      go_ret
      exact FIN.out _ _ ⟨rfl, B1.out⟩
    · go_wp2_with fail
      refine (HF.out _ HE.out).mono ?_
      rintro e w1 ⟨rfl, b1⟩
      have B1 := Lib.hid b1
      clear b1
      go_wp2_with fail
      refine (HU.out _).mono ?_
      rintro e w2 ⟨rfl, b2⟩
      have B2 := Lib.hid (Below.step B1.out b2)
      clear b2
      go_wp2_with fail
      go_ret
      exact FIN.out _ _ ⟨by unfold T2.shS; rw [show (⟨(baseS 8 false 64 N).toArray⟩ : ByteArray).data.toList = baseS 8 false 64 N from rfl, HB.out]; rfl, B2.out⟩
  · cases great
    · go_wp2_with fail
      refine (HD.out (by first | rfl | trivial) _).mono ?_
      rintro e w1 ⟨rfl, rfl⟩
      go_wp2_with fail
      refine (HF.out _ HE.out).mono ?_
      rintro e w1 ⟨rfl, b1⟩
      have B1 := Lib.hid b1
      clear b1
      go_wp2_with fail
      go_ret
      exact FIN.out _ _ ⟨rfl, B1.out⟩
    · go_wp2_with fail
      refine (HD.out (by first | rfl | trivial) _).mono ?_
      rintro e w1 ⟨rfl, rfl⟩
      go_wp2_with fail
      refine (HF.out _ HE.out).mono ?_
      rintro e w1 ⟨rfl, b1⟩
      have B1 := Lib.hid b1
      clear b1
      go_wp2_with fail
      refine (HU.out _).mono ?_
      rintro e w2 ⟨rfl, b2⟩
      have B2 := Lib.hid (Below.step B1.out b2)
      clear b2
      go_wp2_with fail
      go_ret
      exact FIN.out _ _ ⟨by unfold T2.shS; rw [show (⟨(baseS 10 false 64 N).toArray⟩ : ByteArray).data.toList = baseS 10 false 64 N from rfl, HB.out]; rfl, B2.out⟩
  · have hc := HC.out (by decide)
    cases great
    · go_wp2_with fail
      refine (HF.out _ HE.out).mono ?_
      rintro e w1 ⟨rfl, b1⟩
      have B1 := Lib.hid b1
      clear b1
      go_wp2_with fail
      go_ret
      exact FIN.out _ _ ⟨rfl, B1.out⟩
    · go_wp2_with fail
      refine (HF.out _ HE.out).mono ?_
      rintro e w1 ⟨rfl, b1⟩
      have B1 := Lib.hid b1
      clear b1
      go_wp2_with fail
      refine (HU.out _).mono ?_
      rintro e w2 ⟨rfl, b2⟩
      have B2 := Lib.hid (Below.step B1.out b2)
      clear b2
      go_wp2_with fail
      go_ret
      exact FIN.out _ _ ⟨by unfold T2.shS; rw [show (⟨(baseS 16 false 64 N).toArray⟩ : ByteArray).data.toList = baseS 16 false 64 N from rfl, HB.out]; rfl, B2.out⟩
end Go.Proofs.YtbbhcbpfffabpaaGreatDoor

/- Rows of numbers: an append, a cell. -/
namespace Go.Proofs.YtbbhcbpfffabpaaGreatDoor.T2
open Go.Proofs.YtbbhcbpfffabpaaGreatDoor Go.Proofs
open Go.RowKit

def ints (l : List Nat) : List Value := l.map fun (d : Nat) => Value.int .i64 (d : Int)
theorem info_int : (Tryz.prog.info? 3).map (fun i => (i.zero, i.size, i.bytes)) = some (some (.int .i64 0), 1, 8) := by kernel_rfl

set_option maxRecDepth 100000 in
/-- append of one number to a row whose block is base or behind. -/
theorem wp_append_int {ops : Array Oper} {rest : List Oper} {o : Oper} {a : Act} {Q : Exit → Act → World → Prop} (hgd : o.guard = none) (s x : Operand)
    (ho : o.op = .call { callee := .builtin .append, args := #[s, x], argTypes := #[60, 60] }) (base : Nat) (w : World) (v : Value) (k : Nat) (l : List Nat) (d : Nat)
    (hs : a.eval s = v) (hown : w.ownsRow base 3 1 v k (ints l)) (hx : a.eval x = .slice (some ⟨w.heap.size, 0, none⟩) 1 1) (hk : k ≤ 2000000) (hbase : base ≤ w.heap.size)
    (h : ∀ p c w', Hid (w'.ownsRow base 3 1 (.slice p (k + 1) c) (k + 1) (ints (l ++ [d]))) → Hid (w.grownBy w' v.ownBlock) → wpList Tryz.prog ops Q rest (a.put o.dst (.slice p (k + 1) c)) w') :
    wpList Tryz.prog ops Q (o :: rest) a (w.alloc (.cells #[.int .i64 (d : Int)] 3)) := by
  obtain ⟨i0, hi, hz0, hz1, hz2⟩ := info_parts info_int
  refine wpList_append_own _ hgd s x 60 ho base 3 i0 (.int .i64 0) 1 8 Tryz.underlying60 hi hz0 hz1 hz2 rfl (by decide) v k (ints l) hs (hown.alloc _) ⟨w.heap.size, 0, none⟩ 1 1 [.int .i64 (d : Int)] hx rfl ?_ ?_ ?_ ?_ ?_ ?_
  · intro j u hj
    cases j with
    | zero => simp at hj; subst hj; simp [Addr.add, go_sem]
    | succ j => simp at hj
  · intro u hu; simp at hu; subst hu; rfl
  · simp only [maxLen]; omega
  · omega
  · simp; exact Nat.le_succ_of_le hbase
  · intro v' w' hown' hg _
    have e : ints (l ++ [d]) = ints l ++ [.int .i64 (d : Int)] := by simp [ints]
    rw [← e] at hown'
    obtain ⟨p, c, rfl⟩ : ∃ p c, v' = .slice p (k + 1) c := by
      rcases hown'.2 with ⟨_, h0⟩ | ⟨g, cap, cur, hv, _⟩
      · omega
      · exact ⟨_, _, hv⟩
    refine h p c w' (Lib.hid hown') (Lib.hid ?_)
    exact ⟨hg.os, hg.tape, hg.output, Nat.le_trans (by simp) hg.size, fun i hi hne => (hg.block i (by simp; omega) hne).trans (Below.heap_alloc w _ i hi)⟩

set_option maxRecDepth 100000 in
theorem own_int_at {w : World} {base : Nat} {p : Option Addr} {c k : Nat} {l : List Nat} (h : w.ownsRow base 3 1 (.slice p k c) k (ints l)) {i x : Nat} (hx : l[i]? = some x) :
    ∃ g, p = some ⟨g, 0, none⟩ ∧ g < w.heap.size ∧ w.cell? ⟨g, i, none⟩ = some (.int .i64 (x : Int)) := by
  have hl : i < l.length := by
    rcases Nat.lt_or_ge i l.length with h | h
    · exact h
    · rw [List.getElem?_eq_none h] at hx; cases hx
  have hlen := h.1
  unfold ints at hlen
  rw [List.length_map] at hlen
  rcases id h.2 with ⟨_, h0⟩ | ⟨g, cap, cur, hv, _⟩
  · omega
  injection hv with hp hn hc
  subst hp
  refine ⟨g, rfl, (h.lt g rfl).2, ?_⟩
  subst hc
  rw [h.cellAt i (by omega)]
  unfold ints
  rw [List.getElem?_map, hx]
  rfl

end Go.Proofs.YtbbhcbpfffabpaaGreatDoor.T2

/- Contracts of Chars: the program's, and the document's answer. -/
namespace Go.Proofs.YtbbhcbpfffabpaaGreatDoor.T2
open Go.Proofs.YtbbhcbpfffabpaaGreatDoor Go.Proofs
open Go.RowKit

/-- A new slice that reads as the text's characters. -/
def CharsPost (s : ByteArray) (w : World) (e : Ending) (w' : World) : Prop :=
  ∃ p n c, e = .returned (.slice p n c) ∧ RdS w' p n c (chs s 0) ∧ n = cnt s 0 ∧ Below w.heap.size w w'

theorem lt_cnt {s : ByteArray} {k p : Nat} (hp : adv s 0 k = p) (hlt : p < s.size) : k < cnt s 0 := by
  rcases Nat.lt_or_ge k (cnt s 0) with h | h
  · exact h
  · have := adv_cnt s 0 k (Nat.zero_le _) h; omega

theorem chs_take_succ {s : ByteArray} {k p : Nat} (hp : adv s 0 k = p) (hlt : p < s.size) : (chs s 0).take (k + 1) = (chs s 0).take k ++ [s.extract p (p + cw s p)] := by
  have hk := lt_cnt hp hlt
  have h1 := chs_get s 0 k hk
  rw [hp, adv_succ, hp, adv_one hlt] at h1
  rw [List.take_add_one, h1]
  rfl

theorem chs_all {s : ByteArray} {k p : Nat} (hp : adv s 0 k = p) (hlt : ¬ p < s.size) : (chs s 0).take k = chs s 0 ∧ cnt s 0 ≤ k := by
  have hk : cnt s 0 ≤ k := by
    rcases Nat.lt_or_ge k (cnt s 0) with h | h
    · have := adv_lt_cnt s 0 k h; omega
    · exact h
  exact ⟨List.take_of_length_le hk, hk⟩

theorem tail_behind (s : ByteArray) (p : Nat) (h : p < s.size) : adv (s.extract p s.size) 0 1 = cw s p := by
  rw [adv_one (by rw [Lib.tail_size]; omega), tail_cw, Nat.zero_add, Nat.add_zero]

theorem str_ext {a b : ByteArray} (h : a = b) : Value.string a = Value.string b := by rw [h]

def starts (s : ByteArray) (k : Nat) : List Nat := (List.range k).map (adv s 0)
theorem starts_succ (s : ByteArray) (k : Nat) : starts s (k + 1) = starts s k ++ [adv s 0 k] := by
  unfold starts; rw [List.range_succ, List.map_append]; rfl
theorem starts_get (s : ByteArray) {k i : Nat} (h : i < k) : (starts s k)[i]? = some (adv s 0 i) := by
  unfold starts; rw [List.getElem?_map, List.getElem?_range h]; rfl

set_option maxRecDepth 100000 in
set_option maxHeartbeats 1000000 in
theorem refChars_any (s : ByteArray) (hs : s.size ≤ 1048576) (w : World) :
    Calls Tryz.prog 24 #[.string s] w (CharsPost s w) := by
  have hn1 := cnt_le s _ 0 (Nat.le_refl _)
  have hn2 : cnt s 0 ≤ 1048576 := by omega
  have EM : Hid (ints (starts s 0) = []) := Lib.hid rfl
  go_enter Tryz.func24, Tryz.ntmps24
  go_wp2_with fail
  go_loopw [3] (fun y wr => ∃ (pos k : Nat) (p : Option Addr) (c : Nat), y = .slice p k c ∧ pos ≤ s.size ∧ k ≤ cnt s 0 ∧ Hid (adv s 0 k = pos) ∧ Hid (wr.ownsRow w.heap.size 3 1 (.slice p k c) k (ints (starts s k))) ∧ Hid (wr.heap[w.heap.size + 1]? = some (.stringIter s pos)) ∧ Hid (Below w.heap.size w wr)) (fun _ wr => s.size - wr.iterPos (w.heap.size + 1))
  case atStart =>
    refine ⟨0, 0, _, _, rfl, by omega, by omega, Lib.hid rfl, Lib.hid ?_, Lib.hid ?_, Lib.hid ?_⟩
    · have h := World.ownsRow_lit (base := w.heap.size) (e := 3) (size := 1) w #[] 0 (Nat.le_refl _) (by simp) (by simp)
      rw [EM.out]
      exact h.alloc _
    · have h := World.iter_heap (w.alloc (.cells #[] 3)) s 0
      rw [show (w.alloc (.cells #[] 3)).heap.size = w.heap.size + 1 from by simp] at h
      exact h
    · exact ((Below.refl _ _).alloc (Nat.le_refl _) _).alloc (by simp) _
  case round =>
    obtain ⟨pos, k, p, c, rfl, hp, hkc, hadv, hown, hit, hbel⟩ := hrel
    by_cases hlt : pos < s.size
    · have hnx : ∀ ty, (Instr.next (.pointer (some ⟨w.heap.size + 1, 0, none⟩)) true ty).run Tryz.prog wr = _ := fun ty => Lib.run_next_any_at wr (w.heap.size + 1) s pos ty hit.out hlt
      have hkc1 : k + 1 ≤ cnt s 0 := lt_cnt hadv.out hlt
      have hw1 := cw_le hlt
      have hw2 := cw_pos s pos
      have HOI := Lib.hid (own_iterAt hown.out hit.out (pos + (Utf8.decode s pos).2))
      have HII := Lib.hid (Lib.iterAt_heap wr (w.heap.size + 1) s pos (pos + (Utf8.decode s pos).2) hit.out)
      have HBI := Lib.hid (Lib.below_iterAt hbel.out (show w.heap.size ≤ w.heap.size + 1 by omega) s (pos + (Utf8.decode s pos).2))
      clear hown hbel
      go_wp2_with (at_builtin; refine wp_append_int rfl _ _ rfl w.heap.size _ (.slice p k c) k (starts s k) pos rfl HOI.out rfl (by omega) HBI.out.size ?_; intro vp vc w4 hown4 hg4)
      have HB4 := Lib.hid (own_grown HOI.out hg4.out HBI.out (Nat.le_refl _))
      have HI4 := Lib.hid (iter_grown HOI.out hg4.out HII.out)
      have HS := Lib.hid (starts_succ s k)
      have HPI := Lib.hid (show w4.iterPos (w.heap.size + 1) = pos + cw s pos from iterPos_of HI4.out)
      have HP0 := Lib.hid (show wr.iterPos (w.heap.size + 1) = pos from iterPos_of hit.out)
      clear hg4
      go_roundw
      case rel =>
        refine ⟨pos + cw s pos, k + 1, vp, vc, rfl, hw1, hkc1, Lib.hid ?_, Lib.hid ?_, HI4, HB4⟩
        · rw [adv_succ, hadv.out, adv_one hlt]
        · rw [HS.out, hadv.out]; exact hown4.out
      case measure => rw [HPI.out, HP0.out]; omega
    · have hnx : ∀ ty, (Instr.next (.pointer (some ⟨w.heap.size + 1, 0, none⟩)) true ty).run Tryz.prog wr = _ := fun ty => Lib.run_next_end_at wr (w.heap.size + 1) s pos ty hit.out hlt
      obtain ⟨_, h2⟩ := chs_all hadv.out hlt
      obtain rfl : k = cnt s 0 := by omega
      have HBW := Lib.hid hbel.out.size
      clear h2 hkc hadv hit
      go_wp2_with fail
      have ES : Hid (strs ((chs s 0).take 0) = []) := Lib.hid rfl
      have HCL := Lib.hid (show (chs s 0).length = cnt s 0 from rfl)
      obtain ⟨N, hN⟩ : ∃ N, N = cnt s 0 := ⟨_, rfl⟩
      rw [← hN] at hown HCL
      rw [← hN]
      have HN := Lib.hid hN
      have hn3 : N ≤ 1048576 := by omega
      clear hN hn1 hn2
      go_loopw [5, 6] (fun y x wx => ∃ (i : Nat) (q : Option Addr) (d : Nat), x = .int .i64 i ∧ i ≤ N ∧ y = .slice q i d ∧ Hid (wx.ownsRow wr.heap.size 9 1 (.slice q i d) i (strs ((chs s 0).take i))) ∧ Hid (Below wr.heap.size wr wx)) (fun _ x _ => N - (intOf x).toNat)
      case atStart =>
        refine ⟨0, _, _, rfl, by omega, rfl, Lib.hid ?_, Lib.hid ((Below.refl _ _).alloc (Nat.le_refl _) _)⟩
        have h := World.ownsRow_lit (base := wr.heap.size) (e := 9) (size := 1) wr #[] 0 (Nat.le_refl _) (by simp) (by simp)
        rw [ES.out]
        exact h
      case round =>
        rename World => wx
        obtain ⟨i, q, d, rfl, hi, rfl, hownx, hbelx⟩ := hrel
        by_cases hil : i < N
        · have hic : i < cnt s 0 := by have := HN.out; omega
          have ht : (chs s 0).take (i + 1) = (chs s 0).take i ++ [s.extract (adv s 0 i) (adv s 0 (i + 1))] := by
            rw [List.take_add_one, chs_get s 0 i hic]; rfl
          have hAB := adv_mono s 0 (show i ≤ i + 1 by omega)
          have hBS := adv_le s (i + 1) 0 (Nat.zero_le _)
          have hBe : i + 1 < N ∨ (¬ i + 1 < N ∧ adv s 0 (i + 1) = s.size) := by
            rcases Nat.lt_or_ge (i + 1) N with h | h
            · exact Or.inl h
            · exact Or.inr ⟨by omega, adv_cnt s 0 (i + 1) (Nat.zero_le _) (by have := HN.out; omega)⟩
          obtain ⟨g, rfl, hg, hc1⟩ := own_int_at hown.out (starts_get s hil)
          have hc1' := (hbelx.out.cell (p := ⟨g, i, none⟩) hg).trans hc1
          have hc2 : i + 1 < N → wx.cell? ⟨g, i + 1, none⟩ = some (.int .i64 (adv s 0 (i + 1) : Nat)) := fun h => by
            obtain ⟨g', hp', hg', hc⟩ := own_int_at hown.out (starts_get s h)
            injection hp' with hp'
            injection hp' with hp'
            subst hp'
            exact (hbelx.out.cell (p := ⟨g, i + 1, none⟩) hg).trans hc
          obtain ⟨M, hM⟩ : ∃ M, M = adv s 0 i := ⟨_, rfl⟩
          obtain ⟨E, hE⟩ : ∃ E, E = adv s 0 (i + 1) := ⟨_, rfl⟩
          rw [← hM, ← hE] at ht hAB
          rw [← hM] at hc1'
          rw [← hE] at hBS hBe hc2
          have HT := Lib.hid ht
          have HOX := Lib.hid hownx.out
          have HBX := Lib.hid hbelx.out
          clear ht hM hE hc1 hic hownx hbelx
          rcases hBe with hlt1 | ⟨hge, hend⟩
          · have hc2' := hc2 hlt1
            clear hc2
            go_wp2_with (at_builtin; refine wp_append_str rfl _ _ rfl wr.heap.size wx (.slice q i d) i ((chs s 0).take i) _ rfl HOX.out rfl (by omega) HBX.out.size ?_; intro vp vc w4 hown4 hg4)
            have HB4 := Lib.hid (own_grown HOX.out hg4.out HBX.out (Nat.le_refl _))
            clear hg4
            go_roundw
            case rel => exact ⟨i + 1, vp, vc, by go_num, by omega, rfl, Lib.hid (by rw [HT.out]; exact hown4.out), HB4⟩
            case measure => simp [intOf]; omega
          · clear hc2
            subst hend
            go_wp2_with (at_builtin; refine wp_append_str rfl _ _ rfl wr.heap.size wx (.slice q i d) i ((chs s 0).take i) _ rfl HOX.out rfl (by omega) HBX.out.size ?_; intro vp vc w4 hown4 hg4)
            have HB4 := Lib.hid (own_grown HOX.out hg4.out HBX.out (Nat.le_refl _))
            clear hg4
            go_roundw
            case rel => exact ⟨i + 1, vp, vc, by go_num, by omega, rfl, Lib.hid (by rw [HT.out]; exact hown4.out), HB4⟩
            case measure => simp [intOf]; omega
        · obtain rfl : i = N := by omega
          have HR := Lib.hid (own_slice hownx.out (by
            rw [List.length_take, HCL.out, Nat.min_self]))
          have HTA := Lib.hid (show (chs s 0).take i = chs s 0 from List.take_of_length_le (by rw [HCL.out]; exact Nat.le_refl _))
          go_wp2_with fail
          go_ret
          exact ⟨_, _, _, rfl, by rw [← HTA.out]; exact HR.out, HN.out, hbel.out.trans (hbelx.out.mono HBW.out)⟩

end Go.Proofs.YtbbhcbpfffabpaaGreatDoor.T2

/- Contracts of the document's far, Sub. -/
namespace Go.Proofs.YtbbhcbpfffabpaaGreatDoor.T2
open Go.Proofs.YtbbhcbpfffabpaaGreatDoor Go.Proofs
open Go.RowKit

def lo (f : Int) : Nat := (f - 1).toNat
def hi (f m : Int) : Nat := (f - 1 + m).toNat

/-- What is joined behind i characters. -/
def outK (s : ByteArray) (a b i : Nat) : ByteArray := s.extract (adv s 0 (min a i)) (adv s 0 (min (max a b) i))

theorem out_zero (s : ByteArray) (a b : Nat) : outK s a b 0 = ⟨#[]⟩ := by
  unfold outK
  rw [show min a 0 = 0 from by omega, show min (max a b) 0 = 0 from by omega]
  exact part_none s _ _ (Nat.le_refl _)

theorem out_in {s : ByteArray} {a b i : Nat} (h1 : a ≤ i) (h2 : i < b) {x : ByteArray} (hx : (chs s 0)[i]? = some x) (hi : i < cnt s 0) : outK s a b i ++ x = outK s a b (i + 1) := by
  rw [chs_get s 0 i hi] at hx
  injection hx with hx
  subst hx
  unfold outK
  rw [show min a i = a from by omega, show min a (i + 1) = a from by omega, show min (max a b) i = i from by omega, show min (max a b) (i + 1) = i + 1 from by omega]
  exact part_join s _ _ _ (adv_mono s 0 h1) (adv_mono s 0 (by omega))

theorem out_off {s : ByteArray} {a b i : Nat} (h : i < a ∨ b ≤ i) : outK s a b i = outK s a b (i + 1) := by
  unfold outK
  by_cases h1 : i < a
  · rw [show min a i = i from by omega, show min (max a b) i = i from by omega, show min a (i + 1) = i + 1 from by omega, show min (max a b) (i + 1) = i + 1 from by omega]
    rw [part_none s _ _ (Nat.le_refl _), part_none s _ _ (Nat.le_refl _)]
  · rw [show min a i = a from by omega, show min a (i + 1) = a from by omega, show min (max a b) i = max a b from by omega, show min (max a b) (i + 1) = max a b from by omega]

theorem adv_min (s : ByteArray) (x : Nat) : adv s 0 (min x (cnt s 0)) = adv s 0 x := by
  rcases Nat.lt_or_ge x (cnt s 0) with h | h
  · rw [show min x (cnt s 0) = x from by omega]
  · rw [show min x (cnt s 0) = cnt s 0 from by omega, adv_cnt s 0 _ (Nat.zero_le _) (Nat.le_refl _), adv_cnt s 0 x (Nat.zero_le _) h]

theorem out_end (s : ByteArray) (f m : Int) : outK s (lo f) (hi f m) (cnt s 0) = subB s f m := by
  unfold outK subB subN lo hi
  rw [adv_min, adv_min]
  by_cases h1 : m < 1
  · rw [if_pos h1, show max (f - 1).toNat (f - 1 + m).toNat = (f - 1).toNat from by omega]
    exact part_none s _ _ (Nat.le_refl _)
  · rw [if_neg h1]
    by_cases h2 : f < 1
    · rw [if_pos h2, show (f - 1).toNat = 0 from by omega]
      by_cases h3 : m - 1 + f < 1
      · rw [if_pos h3, show (f - 1 + m).toNat = 0 from by omega]
        exact part_none s _ _ (Nat.le_refl _)
      · rw [if_neg h3, show max 0 (f - 1 + m).toNat = 0 + (m - 1 + f).toNat from by omega]
    · rw [if_neg h2, show max (f - 1).toNat (f - 1 + m).toNat = (f - 1).toNat + m.toNat from by omega]

theorem out_size (s : ByteArray) (a b i : Nat) : (outK s a b i).size ≤ s.size := by
  unfold outK; rw [ByteArray.size_extract]; omega

set_option maxRecDepth 100000 in
theorem far_yes (p f m : Int) (hp : 0 ≤ p ∧ p ≤ 9223372036854775807) (hm : 0 ≤ m ∧ m ≤ 9223372036854775807) (w : World) (h : p - m < f) :
    Calls Tryz.prog 59 #[.int .i64 p, .int .i64 f, .int .i64 m] w fun e w' => e = .returned (.bool true) ∧ w = w' := by
  obtain ⟨p1, p2⟩ := hp
  obtain ⟨m1, m2⟩ := hm
  go_enter Tryz.func59, Tryz.ntmps59
  go_wp2_with fail
  go_ret
  exact ⟨rfl, rfl⟩

set_option maxRecDepth 100000 in
theorem far_no (p f m : Int) (hp : 0 ≤ p ∧ p ≤ 9223372036854775807) (hm : 0 ≤ m ∧ m ≤ 9223372036854775807) (w : World) (h : ¬ p - m < f) :
    Calls Tryz.prog 59 #[.int .i64 p, .int .i64 f, .int .i64 m] w fun e w' => e = .returned (.bool false) ∧ w = w' := by
  obtain ⟨p1, p2⟩ := hp
  obtain ⟨m1, m2⟩ := hm
  go_enter Tryz.func59, Tryz.ntmps59
  go_wp2_with fail
  go_ret
  exact ⟨rfl, rfl⟩

set_option maxRecDepth 100000 in
set_option maxHeartbeats 4000000 in
theorem refSub_any (s : ByteArray) (f m : Int) (hs : s.size ≤ 1048576) (hf : -9223372036854775808 ≤ f ∧ f ≤ 9223372036854775807) (hm : -9223372036854775808 ≤ m ∧ m ≤ 9223372036854775807) (w : World) :
    Calls Tryz.prog 32 #[.string s, .int .i64 f, .int .i64 m] w fun e w' => e = .returned (.string (subB s f m)) ∧ Below w.heap.size w w' := by
  obtain ⟨f1, f2⟩ := hf
  obtain ⟨m1, m2⟩ := hm
  have RC := Lib.hid (fun w => refChars_any s hs w)
  have OE := Lib.hid (out_end s f m)
  have OS := Lib.hid (fun i => out_size s (lo f) (hi f m) i)
  have O0 := Lib.hid (out_zero s (lo f) (hi f m))
  have OI := Lib.hid (fun i h1 h2 x hx hic => @out_in s (lo f) (hi f m) i h1 h2 x hx hic)
  have OF := Lib.hid (fun i h => @out_off s (lo f) (hi f m) i h)
  have hL : (f < 1 ∧ lo f = 0) ∨ (1 ≤ f ∧ (lo f : Int) = f - 1) := by unfold lo; omega
  have hH : (f - 1 + m < 0 ∧ hi f m = 0) ∨ (hi f m : Int) = f - 1 + m := by unfold hi; omega
  generalize lo f = L at *
  generalize hi f m = H at *
  have HL := Lib.hid hL; clear hL
  have HH := Lib.hid hH; clear hH
  go_enter Tryz.func32, Tryz.ntmps32
  go_wp2_with fail
  refine (RC.out _).mono ?_
  rintro e w1 ⟨p, n, c, rfl, hr, hn, hb⟩
  have HR := Lib.hid hr; clear hr
  have HB := Lib.hid hb; clear hb
  have hn1 := cnt_le s _ 0 (Nat.le_refl _)
  have hnb : n ≤ 1048576 := by omega
  have HN := Lib.hid hn; clear hn hn1
  have hc1 := HR.out.cap
  have hc2 := HR.out.big
  go_wp2_with fail
  go_loop [8, 9] (fun x y => ∃ k : Nat, y = .int .i64 k ∧ k ≤ n ∧ x = .string (outK s L H k)) (fun _ y => n - (intOf y).toNat)
  case atStart => exact ⟨0, rfl, by omega, str_ext O0.out.symm⟩
  case round =>
    obtain ⟨k, rfl, hk, rfl⟩ := hrel
    by_cases hlt : k < n
    · obtain ⟨b1, o1, x, rfl, hx, hcell⟩ := HR.out.at_ hlt
      have HX := Lib.hid hx; clear hx
      have hsz := OS.out k
      have hcs : (1 ≤ f ∧ ((k : Int) + 1 < f ∨ (f ≤ (k : Int) + 1 ∧ m ≤ 0) ∨ (f ≤ (k : Int) + 1 ∧ 0 < m ∧ (k : Int) + 1 - f < m) ∨ (f ≤ (k : Int) + 1 ∧ 0 < m ∧ ¬ (k : Int) + 1 - f < m))) ∨
          (f < 1 ∧ (m ≤ 0 ∨ (0 < m ∧ (k : Int) + 1 - m < f) ∨ (0 < m ∧ ¬ (k : Int) + 1 - m < f))) := by omega
      rcases hcs with ⟨h1, h2 | ⟨h2, h3⟩ | ⟨h2, h3, h4⟩ | ⟨h2, h3, h4⟩⟩ | ⟨h1, h2 | ⟨h2, h3⟩ | ⟨h2, h3⟩⟩
      · have HT := Lib.hid (OF.out k (by have := HL.out; have := HH.out; omega))
        go_wp2_with fail
        go_round
        case rel => exact ⟨k + 1, by go_num, by omega, str_ext HT.out⟩
        case measure => simp [intOf]; omega
      · have HT := Lib.hid (OF.out k (by have := HL.out; have := HH.out; omega))
        go_wp2_with fail
        go_round
        case rel => exact ⟨k + 1, by go_num, by omega, str_ext HT.out⟩
        case measure => simp [intOf]; omega
      · have HT := Lib.hid (OI.out k (by have := HL.out; omega) (by have := HH.out; omega) x HX.out (by have := HN.out; omega))
        have hxs : (outK s L H k).size + x.size ≤ s.size := by
          have h := congrArg ByteArray.size HT.out
          rw [ByteArray.size_append] at h
          have := OS.out (k + 1)
          omega
        go_wp2_with fail
        go_round
        case rel => exact ⟨k + 1, by go_num, by omega, str_ext HT.out⟩
        case measure => simp [intOf]; omega
      · have HT := Lib.hid (OF.out k (by have := HL.out; have := HH.out; omega))
        go_wp2_with fail
        go_round
        case rel => exact ⟨k + 1, by go_num, by omega, str_ext HT.out⟩
        case measure => simp [intOf]; omega
      · have HT := Lib.hid (OF.out k (by have := HL.out; have := HH.out; omega))
        go_wp2_with fail
        go_round
        case rel => exact ⟨k + 1, by go_num, by omega, str_ext HT.out⟩
        case measure => simp [intOf]; omega
      · have HT := Lib.hid (OI.out k (by have := HL.out; omega) (by have := HH.out; omega) x HX.out (by have := HN.out; omega))
        have hxs : (outK s L H k).size + x.size ≤ s.size := by
          have h := congrArg ByteArray.size HT.out
          rw [ByteArray.size_append] at h
          have := OS.out (k + 1)
          omega
        go_wp2_with fail
        refine (far_yes ((k : Int) + 1) f m (by omega) (by omega) _ (by omega)).mono ?_
        rintro e w2 ⟨rfl, rfl⟩
        go_wp2_with fail
        go_round
        case rel => exact ⟨k + 1, by go_num, by omega, str_ext HT.out⟩
        case measure => simp [intOf]; omega
      · have HT := Lib.hid (OF.out k (by have := HL.out; have := HH.out; omega))
        go_wp2_with fail
        refine (far_no ((k : Int) + 1) f m (by omega) (by omega) _ (by omega)).mono ?_
        rintro e w2 ⟨rfl, rfl⟩
        go_wp2_with fail
        go_round
        case rel => exact ⟨k + 1, by go_num, by omega, str_ext HT.out⟩
        case measure => simp [intOf]; omega
    · obtain rfl : k = n := by omega
      go_wp2_with fail
      go_ret
      exact ⟨ret_str (by rw [HN.out]; exact OE.out), HB.out⟩

end Go.Proofs.YtbbhcbpfffabpaaGreatDoor.T2
