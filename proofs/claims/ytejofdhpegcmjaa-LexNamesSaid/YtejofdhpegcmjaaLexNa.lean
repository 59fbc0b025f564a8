/- The document's names: walks (gen_na.py). -/
import Derived.Test.YtejofdhpegcmjaaLexLv
namespace Go.Proofs.Ytejofdhpegcmjaa
open Go.RowKit

set_option maxRecDepth 100000 in
theorem rletter_spec (c : UInt8) (w : World) : Calls Try.prog 21 #[.int .u8 c.toNat] w fun e w' => e = .returned (.bool (letB c)) ∧ w' = w := by
  obtain ⟨n, hn⟩ : ∃ n, c.toNat = n := ⟨_, rfl⟩
  rw [letB_of c n hn, hn]
  have hlt : n < 256 := by rw [← hn]; exact UInt8.toNat_lt c
  clear hn
  by_cases h1 : 65 ≤ n
  · by_cases h2 : n ≤ 90
    · have e : (decide (65 ≤ n ∧ n ≤ 90) || (decide (97 ≤ n ∧ n ≤ 122) || decide (n = 95))) = true := by simp [h1, h2]
      rw [e]
      clear e
      have h1' : (65 : Int) ≤ n := by omega
      have h2' : (n : Int) ≤ 90 := by omega
      go_enter Try.func21, Try.ntmps21
      go_wp2_with fail
      go_ret
      exact ⟨rfl, rfl⟩
    · have d2 : decide ((n : Int) ≤ 90) = false := decide_eq_false (by omega)
      have d1 : decide ((65 : Int) ≤ n) = true := decide_eq_true (by omega)
      by_cases h3 : 97 ≤ n
      · have d3 : decide ((97 : Int) ≤ n) = true := decide_eq_true (by omega)
        by_cases h4 : n ≤ 122
        · have d4 : decide ((n : Int) ≤ 122) = true := decide_eq_true (by omega)
          have e : (decide (65 ≤ n ∧ n ≤ 90) || (decide (97 ≤ n ∧ n ≤ 122) || decide (n = 95))) = true := by simp [h3, h4]
          rw [e]
          clear e
          go_enter Try.func21, Try.ntmps21
          go_wp2_with fail
          go_ret
          exact ⟨rfl, rfl⟩
        · have d4 : decide ((n : Int) ≤ 122) = false := decide_eq_false (by omega)
          have d5 : ((n : Int) == 95) = false := by simp; omega
          have e : (decide (65 ≤ n ∧ n ≤ 90) || (decide (97 ≤ n ∧ n ≤ 122) || decide (n = 95))) = false := by simp [h2, h4]; omega
          rw [e]
          clear e
          go_enter Try.func21, Try.ntmps21
          go_wp2_with fail
          go_ret
          exact ⟨rfl, rfl⟩
      · have d3 : decide ((97 : Int) ≤ n) = false := decide_eq_false (by omega)
        have e : (decide (65 ≤ n ∧ n ≤ 90) || (decide (97 ≤ n ∧ n ≤ 122) || decide (n = 95))) = decide (n = 95) := by
          rw [decide_eq_false (p := 65 ≤ n ∧ n ≤ 90) (by omega), decide_eq_false (p := 97 ≤ n ∧ n ≤ 122) (by omega)]; rfl
        rw [e]
        clear e
        by_cases h5 : n = 95
        · subst h5
          go_enter Try.func21, Try.ntmps21
          go_wp2_with fail
          go_ret
          exact ⟨rfl, rfl⟩
        · have d5 : ((n : Int) == 95) = false := by simp; omega
          rw [decide_eq_false h5]
          go_enter Try.func21, Try.ntmps21
          go_wp2_with fail
          go_ret
          exact ⟨rfl, rfl⟩
  · have d1 : decide ((65 : Int) ≤ n) = false := decide_eq_false (by omega)
    have d3 : decide ((97 : Int) ≤ n) = false := decide_eq_false (by omega)
    have d5 : ((n : Int) == 95) = false := by simp; omega
    have e : (decide (65 ≤ n ∧ n ≤ 90) || (decide (97 ≤ n ∧ n ≤ 122) || decide (n = 95))) = false := by simp; omega
    rw [e]
    clear e
    go_enter Try.func21, Try.ntmps21
    go_wp2_with fail
    go_ret
    exact ⟨rfl, rfl⟩

set_option maxRecDepth 100000 in
theorem rnum_spec (c : UInt8) (w : World) : Calls Try.prog 20 #[.int .u8 c.toNat] w fun e w' => e = .returned (.bool (digB c)) ∧ w' = w := by
  obtain ⟨n, hn⟩ : ∃ n, c.toNat = n := ⟨_, rfl⟩
  rw [digB_of c n hn, hn]
  have hlt : n < 256 := by rw [← hn]; exact UInt8.toNat_lt c
  clear hn
  by_cases h1 : 48 ≤ n
  · have d1 : decide ((48 : Int) ≤ n) = true := decide_eq_true (by omega)
    by_cases h2 : n ≤ 57
    · have d2 : decide ((n : Int) ≤ 57) = true := decide_eq_true (by omega)
      rw [decide_eq_true (p := 48 ≤ n ∧ n ≤ 57) ⟨h1, h2⟩]
      go_enter Try.func20, Try.ntmps20
      go_wp2_with fail
      go_ret
      exact ⟨rfl, rfl⟩
    · have d2 : decide ((n : Int) ≤ 57) = false := decide_eq_false (by omega)
      rw [decide_eq_false (p := 48 ≤ n ∧ n ≤ 57) (by omega)]
      go_enter Try.func20, Try.ntmps20
      go_wp2_with fail
      go_ret
      exact ⟨rfl, rfl⟩
  · have d1 : decide ((48 : Int) ≤ n) = false := decide_eq_false (by omega)
    rw [decide_eq_false (p := 48 ≤ n ∧ n ≤ 57) (by omega)]
    go_enter Try.func20, Try.ntmps20
    go_wp2_with fail
    go_ret
    exact ⟨rfl, rfl⟩


theorem rletter_is (c : UInt8) (b : Bool) (h : letB c = b) (w : World) : Calls Try.prog 21 #[.int .u8 c.toNat] w fun e w' => e = .returned (.bool b) ∧ w' = w := by subst h; exact rletter_spec c w
theorem rnum_is (c : UInt8) (b : Bool) (h : digB c = b) (w : World) : Calls Try.prog 20 #[.int .u8 c.toNat] w fun e w' => e = .returned (.bool b) ∧ w' = w := by subst h; exact rnum_spec c w

set_option maxRecDepth 100000 in
theorem in_spec (L : List (List UInt8)) (n cap b : Nat) (hn : L.length = n) (hL : n ≤ 1000) (s : ByteArray) (l : List UInt8) (hl : s.data.toList = l) (w : World) (hc : ∀ i (h : i < L.length), w.cell? ⟨b, i, none⟩ = some (.string ⟨L[i].toArray⟩)) :
    Calls Try.prog 16 #[.slice (some ⟨b, 0, none⟩) n cap, .string s] w fun e w' => e = .returned (.bool (decide (l ∈ L))) ∧ w' = w := by
  have hsl : s.toList = l := by rw [Lib.toList_data, hl]
  have HSL := Lib.hid hsl
  have HC := Lib.hid hc
  have HN := Lib.hid hn
  clear hc hl hsl hn
  go_enter Try.func16, Try.ntmps16
  go_wp2_with fail
  go_loop [5] (fun i => ∃ k : Nat, k ≤ n ∧ i = .int .i64 k ∧ Hid (l ∉ L.take k)) (fun i => n - (intOf i).toNat)
  case atStart => exact ⟨0, Nat.zero_le _, rfl, Lib.hid (by simp)⟩
  case round =>
    obtain ⟨k, hk, rfl, HNo⟩ := hrel
    by_cases hlt : k < n
    · obtain ⟨S, hS⟩ : ∃ S : ByteArray, S = ⟨(L[k]'(by rw [HN.out]; exact hlt)).toArray⟩ := ⟨_, rfl⟩
      have c0 : w.cell? ⟨b, k, none⟩ = some (.string S) := by rw [hS]; exact HC.out k (by rw [HN.out]; exact hlt)
      have hSl : Hid (S.toList = L[k]'(by rw [HN.out]; exact hlt)) := Lib.hid (by rw [Lib.toList_data, hS])
      have HT : Hid (L.take (k + 1) = L.take k ++ [L[k]'(by rw [HN.out]; exact hlt)]) := Lib.hid (List.take_succ_eq_append_getElem _)
      clear hS
      by_cases he : L[k]'(by rw [HN.out]; exact hlt) = l
      · have hb : (S.toList == s.toList) = true := by rw [hSl.out, HSL.out, he]; exact beq_self_eq_true _
        have HY : Hid (decide (l ∈ L) = true) := Lib.hid (decide_eq_true (by rw [← he]; exact List.getElem_mem _))
        clear he
        go_wp2_with fail
        go_ret
        exact ⟨by rw [HY.out]; rfl, rfl⟩
      · have hb : (S.toList == s.toList) = false := by rw [hSl.out, HSL.out]; exact beq_eq_false_iff_ne.2 he
        have HE := Lib.hid he
        clear he
        go_wp2_with fail
        go_round
        case rel => exact ⟨k + 1, by omega, by go_num, Lib.hid (by rw [HT.out, List.mem_append]; rintro (h | h); exact HNo.out h; exact HE.out (List.mem_singleton.1 h).symm)⟩
        case measure => simp [intOf]; omega
    · have hke : k = n := by omega
      subst hke
      have HY : Hid (decide (l ∈ L) = false) := Lib.hid (decide_eq_false (by have := HNo.out; rw [← HN.out, List.take_length] at this; exact this))
      go_wp2_with fail
      go_ret
      exact ⟨by rw [HY.out]; rfl, rfl⟩
theorem in_alloc (L : List (List UInt8)) (n : Nat) (hn : L.length = n) (s : ByteArray) (l : List UInt8) (hl : s.data.toList = l) (w : World) (hL : n ≤ 1000 := by decide) :
    Calls Try.prog 16 #[.slice (some ⟨w.heap.size, 0, none⟩) n n, .string s] (w.alloc (.cells (L.map fun x => Value.string ⟨x.toArray⟩).toArray 9)) fun e w' => e = .returned (.bool (decide (l ∈ L))) ∧ w' = (w.alloc (.cells (L.map fun x => Value.string ⟨x.toArray⟩).toArray 9)) :=
  in_spec L n n w.heap.size hn hL s l hl _ fun i h => by
    rw [cell_of_row _ _ i _ _ (0, 0) (heap_alloc_last w _)]
    simp [h]

set_option maxRecDepth 100000 in
set_option maxHeartbeats 1000000 in
theorem rword_spec (s : ByteArray) (l : List UInt8) (hl : s.data.toList = l) (w : World) : Calls Try.prog 7 #[.string s] w fun e w' => e = .returned (.bool (wordB l)) ∧ Below w.heap.size w w' := by
  have H : Hid (Calls Try.prog 16 #[.slice (some ⟨w.heap.size, 0, none⟩) 19 19, .string s] (w.alloc (.cells #[.string ⟨#[66, 69, 71, 73, 78]⟩, .string ⟨#[69, 78, 68]⟩, .string ⟨#[102, 117, 110, 99, 116, 105, 111, 110]⟩, .string ⟨#[105, 102]⟩, .string ⟨#[101, 108, 115, 101]⟩, .string ⟨#[119, 104, 105, 108, 101]⟩, .string ⟨#[102, 111, 114]⟩, .string ⟨#[100, 111]⟩, .string ⟨#[98, 114, 101, 97, 107]⟩, .string ⟨#[99, 111, 110, 116, 105, 110, 117, 101]⟩, .string ⟨#[110, 101, 120, 116]⟩, .string ⟨#[101, 120, 105, 116]⟩, .string ⟨#[114, 101, 116, 117, 114, 110]⟩, .string ⟨#[100, 101, 108, 101, 116, 101]⟩, .string ⟨#[105, 110]⟩, .string ⟨#[103, 101, 116, 108, 105, 110, 101]⟩, .string ⟨#[112, 114, 105, 110, 116]⟩, .string ⟨#[112, 114, 105, 110, 116, 102]⟩, .string ⟨#[112, 101, 114, 115, 105, 115, 116]⟩] 9)) fun e w' => e = .returned (.bool (wordB l)) ∧ w' = (w.alloc (.cells #[.string ⟨#[66, 69, 71, 73, 78]⟩, .string ⟨#[69, 78, 68]⟩, .string ⟨#[102, 117, 110, 99, 116, 105, 111, 110]⟩, .string ⟨#[105, 102]⟩, .string ⟨#[101, 108, 115, 101]⟩, .string ⟨#[119, 104, 105, 108, 101]⟩, .string ⟨#[102, 111, 114]⟩, .string ⟨#[100, 111]⟩, .string ⟨#[98, 114, 101, 97, 107]⟩, .string ⟨#[99, 111, 110, 116, 105, 110, 117, 101]⟩, .string ⟨#[110, 101, 120, 116]⟩, .string ⟨#[101, 120, 105, 116]⟩, .string ⟨#[114, 101, 116, 117, 114, 110]⟩, .string ⟨#[100, 101, 108, 101, 116, 101]⟩, .string ⟨#[105, 110]⟩, .string ⟨#[103, 101, 116, 108, 105, 110, 101]⟩, .string ⟨#[112, 114, 105, 110, 116]⟩, .string ⟨#[112, 114, 105, 110, 116, 102]⟩, .string ⟨#[112, 101, 114, 115, 105, 115, 116]⟩] 9))) := Lib.hid (in_alloc wordL 19 rfl s l hl w)
  clear hl
  go_enter Try.func7, Try.ntmps7
  go_wp2_with fail
  refine H.out.mono ?_
  rintro e w1 ⟨rfl, rfl⟩
  go_wp2_with fail
  go_ret
  exact ⟨rfl, below_new w _⟩

set_option maxRecDepth 100000 in
set_option maxHeartbeats 1000000 in
theorem rown_spec (s : ByteArray) (l : List UInt8) (hl : s.data.toList = l) (w : World) : Calls Try.prog 9 #[.string s] w fun e w' => e = .returned (.bool (ownB l)) ∧ Below w.heap.size w w' := by
  have H : Hid (Calls Try.prog 16 #[.slice (some ⟨w.heap.size, 0, none⟩) 12 12, .string s] (w.alloc (.cells #[.string ⟨#[108, 101, 110, 103, 116, 104]⟩, .string ⟨#[115, 117, 98, 115, 116, 114]⟩, .string ⟨#[105, 110, 100, 101, 120]⟩, .string ⟨#[115, 112, 108, 105, 116]⟩, .string ⟨#[115, 117, 98]⟩, .string ⟨#[103, 115, 117, 98]⟩, .string ⟨#[109, 97, 116, 99, 104]⟩, .string ⟨#[115, 112, 114, 105, 110, 116, 102]⟩, .string ⟨#[116, 111, 108, 111, 119, 101, 114]⟩, .string ⟨#[116, 111, 117, 112, 112, 101, 114]⟩, .string ⟨#[105, 110, 116]⟩, .string ⟨#[115, 121, 110, 99]⟩] 9)) fun e w' => e = .returned (.bool (ownB l)) ∧ w' = (w.alloc (.cells #[.string ⟨#[108, 101, 110, 103, 116, 104]⟩, .string ⟨#[115, 117, 98, 115, 116, 114]⟩, .string ⟨#[105, 110, 100, 101, 120]⟩, .string ⟨#[115, 112, 108, 105, 116]⟩, .string ⟨#[115, 117, 98]⟩, .string ⟨#[103, 115, 117, 98]⟩, .string ⟨#[109, 97, 116, 99, 104]⟩, .string ⟨#[115, 112, 114, 105, 110, 116, 102]⟩, .string ⟨#[116, 111, 108, 111, 119, 101, 114]⟩, .string ⟨#[116, 111, 117, 112, 112, 101, 114]⟩, .string ⟨#[105, 110, 116]⟩, .string ⟨#[115, 121, 110, 99]⟩] 9))) := Lib.hid (in_alloc ownL 12 rfl s l hl w)
  clear hl
  go_enter Try.func9, Try.ntmps9
  go_wp2_with fail
  refine H.out.mono ?_
  rintro e w1 ⟨rfl, rfl⟩
  go_wp2_with fail
  go_ret
  exact ⟨rfl, below_new w _⟩
end Go.Proofs.Ytejofdhpegcmjaa
