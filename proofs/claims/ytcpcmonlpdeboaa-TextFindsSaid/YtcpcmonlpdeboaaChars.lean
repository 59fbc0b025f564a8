/- Contracts of Chars: the program's, and the document's answer. -/
import Derived.Test.YtcpcmonlpdeboaaInts
namespace Go.Proofs.Ytcpcmonlpdeboaa
open Go.RowKit

/-- A new slice that reads as the text's characters. -/
def CharsPost (s : ByteArray) (w : World) (e : Ending) (w' : World) : Prop :=
  ∃ p n c, e = .returned (.slice p n c) ∧ RdS w' p n c (chs s 0) ∧ n = cnt s 0 ∧ Below w.heap.size w w'

theorem lt_cnt {s : ByteArray} {k p : Nat} (hp : adv s 0 k = p) (hlt : p < s.size) : k < cnt s 0 := by
  rcases Nat.lt_or_ge k (cnt s 0) with h | h
  · exact h
  · have := adv_cnt s 0 k (Nat.zero_le _) h; omega

theorem chs_take_succ {s : ByteArray} {k p : Nat} (hp : adv s 0 k = p) (hlt : p < s.size) : (chs s 0).take (k + 1) = (chs s 0).take k ++ [s.extract p (p + cw s p)] := by
  have hk := lt_cnt hp hlt
  have h1 := chs_get s 0 k hk
  rw [hp, adv_succ, hp, adv_one hlt] at h1
  rw [List.take_add_one, h1]
  rfl

theorem chs_all {s : ByteArray} {k p : Nat} (hp : adv s 0 k = p) (hlt : ¬ p < s.size) : (chs s 0).take k = chs s 0 ∧ cnt s 0 ≤ k := by
  have hk : cnt s 0 ≤ k := by
    rcases Nat.lt_or_ge k (cnt s 0) with h | h
    · have := adv_lt_cnt s 0 k h; omega
    · exact h
  exact ⟨List.take_of_length_le hk, hk⟩

theorem tail_behind (s : ByteArray) (p : Nat) (h : p < s.size) : adv (s.extract p s.size) 0 1 = cw s p := by
  rw [adv_one (by rw [Lib.tail_size]; omega), tail_cw, Nat.zero_add, Nat.add_zero]

theorem str_ext {a b : ByteArray} (h : a = b) : Value.string a = Value.string b := by rw [h]

set_option maxRecDepth 100000 in
set_option maxHeartbeats 1000000 in
theorem chars_any (s : ByteArray) (hs : s.size ≤ 1048576) (w : World) :
    Calls Try.prog 8 #[.string s] w (CharsPost s w) := by
  have hs' : s.size ≤ maxLen := by simp only [maxLen]; omega
  have LN := Lib.hid (fun w => len_any s hs' w)
  have BT := Lib.hid (fun p w (h : p < s.size) => show Calls Try.prog 23 #[.string (s.extract p s.size), .int .i64 1] w fun e w' => e = .returned (.int .i64 (cw s p)) ∧ Below w.heap.size w w' from by
    rw [← tail_behind s p h]; exact behind_any (s.extract p s.size) 1 (by rw [Lib.tail_size]; omega) (by omega) w)
  have hn1 := cnt_le s _ 0 (Nat.le_refl _)
  have hn2 : cnt s 0 ≤ 1048576 := by omega
  have hA := Lib.hid (part_all s)
  clear hs'
  go_enter Try.func8, Try.ntmps8
  go_wp2_with fail
  refine (LN.out _).mono ?_
  rintro e w1 ⟨rfl, b1⟩
  have HW := Lib.hid b1.size
  have B1 := Lib.hid b1; clear b1
  go_wp2_with (at_make; refine wp_make_strs rfl _ _ rfl _ (cnt s 0) rfl rfl (by omega) ?_; intro w2 hown hb2)
  have HB2 := Lib.hid (Below.step B1.out hb2.out)
  have HZ2 := Lib.hid hb2.out.size; clear hb2
  go_loopw [0, 3] (fun x y wr => ∃ (pos k : Nat) (p : Option Addr) (c : Nat), x = .string (s.extract pos s.size) ∧ pos ≤ s.size ∧ k ≤ cnt s 0 ∧ Hid (adv s 0 k = pos) ∧ y = .slice p k c ∧ Hid (wr.ownsRow w1.heap.size 9 1 (.slice p k c) k (strs ((chs s 0).take k))) ∧ Hid (Below w.heap.size w wr ∧ w1.heap.size ≤ wr.heap.size)) (fun x _ _ => match x with | .string t => t.size | _ => 0)
  case atStart => exact ⟨0, 0, _, _, str_ext hA.out.symm, by omega, by omega, Lib.hid rfl, rfl, by rw [List.take_zero]; exact hown, Lib.hid ⟨HB2.out, HZ2.out⟩⟩
  case round =>
    obtain ⟨pos, k, p, c, rfl, hp, hk, hadv, rfl, hown, hbel⟩ := hrel
    by_cases hlt : pos < s.size
    · have hne : (!(s.extract pos s.size).toList.isEmpty) = true := by
        rw [Lib.extract_toList]
        have h1 : (s.data.toList.drop pos).take (s.size - pos) ≠ [] := by
          intro e
          have h2 := congrArg List.length e
          rw [List.length_take, List.length_drop, ← Lib.size_eq] at h2
          simp at h2; omega
        simpa using h1
      have hkc : k + 1 ≤ cnt s 0 := lt_cnt hadv.out hlt
      have hw1 := cw_le hlt
      have hw2 := cw_pos s pos
      have BP := Lib.hid (fun w => BT.out pos w hlt)
      go_wp2_with fail
      refine (BP.out _).mono ?_
      rintro e w3 ⟨rfl, b3⟩
      have HB3 := Lib.hid (Below.step hbel.out.1 b3)
      have HO3 := Lib.hid (own_below hown.out b3)
      have HZ3 := Lib.hid (Nat.le_trans hbel.out.2 b3.size)
      clear b3
      have hcw : cw s pos ≤ s.size - pos := by omega
      go_wp2_with (at_builtin; refine wp_append_str rfl _ _ rfl w1.heap.size w3 (.slice p k c) k ((chs s 0).take k) _ rfl HO3.out rfl (by omega) HZ3.out ?_; intro vp vc w4 hown4 hg4)
      have HB4 := Lib.hid (own_grown HO3.out hg4.out HB3.out (by exact HW.out))
      have HZ4 := Lib.hid (Nat.le_trans HZ3.out hg4.out.size)
      clear hg4
      have HT := Lib.hid (chs_take_succ hadv.out hlt)
      go_roundw
      case rel =>
        refine ⟨pos + cw s pos, k + 1, vp, vc, str_ext ?_, hw1, hkc, Lib.hid ?_, rfl, Lib.hid ?_, Lib.hid ⟨HB4.out, HZ4.out⟩⟩
        · rw [part_part s pos s.size _ _ (by omega), show pos + (s.size - pos) = s.size from by omega]
        · rw [adv_succ, hadv.out, adv_one hlt]
        · have h := hown4.out
          rw [part_part s pos s.size _ _ (by omega)] at h
          simp only [Nat.add_zero] at h
          rw [← HT.out] at h
          exact h
      case measure =>
        simp only [ByteArray.size_extract]
        omega
    · have hne : (!(s.extract pos s.size).toList.isEmpty) = false := by
        rw [part_none s pos s.size (by omega), Lib.toList_data]; rfl
      obtain ⟨h1, h2⟩ := chs_all hadv.out hlt
      obtain rfl : k = cnt s 0 := by omega
      rw [h1] at hown
      have HR := Lib.hid (own_slice hown.out rfl)
      clear h1 h2
      go_wp2_with fail
      go_ret
      exact ⟨_, _, _, rfl, HR.out, rfl, hbel.out.1⟩

/-! ### The document's answer -/
def starts (s : ByteArray) (k : Nat) : List Nat := (List.range k).map (adv s 0)
theorem starts_succ (s : ByteArray) (k : Nat) : starts s (k + 1) = starts s k ++ [adv s 0 k] := by
  unfold starts; rw [List.range_succ, List.map_append]; rfl
theorem starts_get (s : ByteArray) {k i : Nat} (h : i < k) : (starts s k)[i]? = some (adv s 0 i) := by
  unfold starts; rw [List.getElem?_map, List.getElem?_range h]; rfl

set_option maxRecDepth 100000 in
set_option maxHeartbeats 1000000 in
theorem refChars_any (s : ByteArray) (hs : s.size ≤ 1048576) (w : World) :
    Calls Try.prog 10 #[.string s] w (CharsPost s w) := by
  have hn1 := cnt_le s _ 0 (Nat.le_refl _)
  have hn2 : cnt s 0 ≤ 1048576 := by omega
  have EM : Hid (ints (starts s 0) = []) := Lib.hid rfl
  go_enter Try.func10, Try.ntmps10
  go_wp2_with fail
  go_loopw [3] (fun y wr => ∃ (pos k : Nat) (p : Option Addr) (c : Nat), y = .slice p k c ∧ pos ≤ s.size ∧ k ≤ cnt s 0 ∧ Hid (adv s 0 k = pos) ∧ Hid (wr.ownsRow w.heap.size 3 1 (.slice p k c) k (ints (starts s k))) ∧ Hid (wr.heap[w.heap.size + 1]? = some (.stringIter s pos)) ∧ Hid (Below w.heap.size w wr)) (fun _ wr => s.size - wr.iterPos (w.heap.size + 1))
  case atStart =>
    refine ⟨0, 0, _, _, rfl, by omega, by omega, Lib.hid rfl, Lib.hid ?_, Lib.hid ?_, Lib.hid ?_⟩
    · have h := World.ownsRow_lit (base := w.heap.size) (e := 3) (size := 1) w #[] 0 (Nat.le_refl _) (by simp) (by simp)
      rw [EM.out]
      exact h.alloc _
    · have h := World.iter_heap (w.alloc (.cells #[] 3)) s 0
      rw [show (w.alloc (.cells #[] 3)).heap.size = w.heap.size + 1 from by simp] at h
      exact h
    · exact ((Below.refl _ _).alloc (Nat.le_refl _) _).alloc (by simp) _
  case round =>
    obtain ⟨pos, k, p, c, rfl, hp, hkc, hadv, hown, hit, hbel⟩ := hrel
    by_cases hlt : pos < s.size
    · have hnx : ∀ ty, (Instr.next (.pointer (some ⟨w.heap.size + 1, 0, none⟩)) true ty).run Try.prog wr = _ := fun ty => Lib.run_next_any_at wr (w.heap.size + 1) s pos ty hit.out hlt
      have hkc1 : k + 1 ≤ cnt s 0 := lt_cnt hadv.out hlt
      have hw1 := cw_le hlt
      have hw2 := cw_pos s pos
      have HOI := Lib.hid (own_iterAt hown.out hit.out (pos + (Utf8.decode s pos).2))
      have HII := Lib.hid (Lib.iterAt_heap wr (w.heap.size + 1) s pos (pos + (Utf8.decode s pos).2) hit.out)
      have HBI := Lib.hid (Lib.below_iterAt hbel.out (show w.heap.size ≤ w.heap.size + 1 by omega) s (pos + (Utf8.decode s pos).2))
      clear hown hbel
      go_wp2_with (at_builtin; refine wp_append_int rfl _ _ rfl w.heap.size _ (.slice p k c) k (starts s k) pos rfl HOI.out rfl (by omega) HBI.out.size ?_; intro vp vc w4 hown4 hg4)
      have HB4 := Lib.hid (own_grown HOI.out hg4.out HBI.out (Nat.le_refl _))
      have HI4 := Lib.hid (iter_grown HOI.out hg4.out HII.out)
      have HS := Lib.hid (starts_succ s k)
      have HPI := Lib.hid (show w4.iterPos (w.heap.size + 1) = pos + cw s pos from iterPos_of HI4.out)
      have HP0 := Lib.hid (show wr.iterPos (w.heap.size + 1) = pos from iterPos_of hit.out)
      clear hg4
      go_roundw
      case rel =>
        refine ⟨pos + cw s pos, k + 1, vp, vc, rfl, hw1, hkc1, Lib.hid ?_, Lib.hid ?_, HI4, HB4⟩
        · rw [adv_succ, hadv.out, adv_one hlt]
        · rw [HS.out, hadv.out]; exact hown4.out
      case measure => rw [HPI.out, HP0.out]; omega
    · have hnx : ∀ ty, (Instr.next (.pointer (some ⟨w.heap.size + 1, 0, none⟩)) true ty).run Try.prog wr = _ := fun ty => Lib.run_next_end_at wr (w.heap.size + 1) s pos ty hit.out hlt
      obtain ⟨_, h2⟩ := chs_all hadv.out hlt
      obtain rfl : k = cnt s 0 := by omega
      have HBW := Lib.hid hbel.out.size
      clear h2 hkc hadv hit
      go_wp2_with fail
      have ES : Hid (strs ((chs s 0).take 0) = []) := Lib.hid rfl
      have HCL := Lib.hid (show (chs s 0).length = cnt s 0 from rfl)
      obtain ⟨N, hN⟩ : ∃ N, N = cnt s 0 := ⟨_, rfl⟩
      rw [← hN] at hown HCL
      rw [← hN]
      have HN := Lib.hid hN
      have hn3 : N ≤ 1048576 := by omega
      clear hN hn1 hn2
      go_loopw [5, 6] (fun y x wx => ∃ (i : Nat) (q : Option Addr) (d : Nat), x = .int .i64 i ∧ i ≤ N ∧ y = .slice q i d ∧ Hid (wx.ownsRow wr.heap.size 9 1 (.slice q i d) i (strs ((chs s 0).take i))) ∧ Hid (Below wr.heap.size wr wx)) (fun _ x _ => N - (intOf x).toNat)
      case atStart =>
        refine ⟨0, _, _, rfl, by omega, rfl, Lib.hid ?_, Lib.hid ((Below.refl _ _).alloc (Nat.le_refl _) _)⟩
        have h := World.ownsRow_lit (base := wr.heap.size) (e := 9) (size := 1) wr #[] 0 (Nat.le_refl _) (by simp) (by simp)
        rw [ES.out]
        exact h
      case round =>
        rename World => wx
        obtain ⟨i, q, d, rfl, hi, rfl, hownx, hbelx⟩ := hrel
        by_cases hil : i < N
        · have hic : i < cnt s 0 := by have := HN.out; omega
          have ht : (chs s 0).take (i + 1) = (chs s 0).take i ++ [s.extract (adv s 0 i) (adv s 0 (i + 1))] := by
            rw [List.take_add_one, chs_get s 0 i hic]; rfl
          have hAB := adv_mono s 0 (show i ≤ i + 1 by omega)
          have hBS := adv_le s (i + 1) 0 (Nat.zero_le _)
          have hBe : i + 1 < N ∨ (¬ i + 1 < N ∧ adv s 0 (i + 1) = s.size) := by
            rcases Nat.lt_or_ge (i + 1) N with h | h
            · exact Or.inl h
            · exact Or.inr ⟨by omega, adv_cnt s 0 (i + 1) (Nat.zero_le _) (by have := HN.out; omega)⟩
          obtain ⟨g, rfl, hg, hc1⟩ := own_int_at hown.out (starts_get s hil)
          have hc1' := (hbelx.out.cell (p := ⟨g, i, none⟩) hg).trans hc1
          have hc2 : i + 1 < N → wx.cell? ⟨g, i + 1, none⟩ = some (.int .i64 (adv s 0 (i + 1) : Nat)) := fun h => by
            obtain ⟨g', hp', hg', hc⟩ := own_int_at hown.out (starts_get s h)
            injection hp' with hp'
            injection hp' with hp'
            subst hp'
            exact (hbelx.out.cell (p := ⟨g, i + 1, none⟩) hg).trans hc
          obtain ⟨M, hM⟩ : ∃ M, M = adv s 0 i := ⟨_, rfl⟩
          obtain ⟨E, hE⟩ : ∃ E, E = adv s 0 (i + 1) := ⟨_, rfl⟩
          rw [← hM, ← hE] at ht hAB
          rw [← hM] at hc1'
          rw [← hE] at hBS hBe hc2
          have HT := Lib.hid ht
          have HOX := Lib.hid hownx.out
          have HBX := Lib.hid hbelx.out
          clear ht hM hE hc1 hic hownx hbelx
          rcases hBe with hlt1 | ⟨hge, hend⟩
          · have hc2' := hc2 hlt1
            clear hc2
            go_wp2_with (at_builtin; refine wp_append_str rfl _ _ rfl wr.heap.size wx (.slice q i d) i ((chs s 0).take i) _ rfl HOX.out rfl (by omega) HBX.out.size ?_; intro vp vc w4 hown4 hg4)
            have HB4 := Lib.hid (own_grown HOX.out hg4.out HBX.out (Nat.le_refl _))
            clear hg4
            go_roundw
            case rel => exact ⟨i + 1, vp, vc, by go_num, by omega, rfl, Lib.hid (by rw [HT.out]; exact hown4.out), HB4⟩
            case measure => simp [intOf]; omega
          · clear hc2
            subst hend
            go_wp2_with (at_builtin; refine wp_append_str rfl _ _ rfl wr.heap.size wx (.slice q i d) i ((chs s 0).take i) _ rfl HOX.out rfl (by omega) HBX.out.size ?_; intro vp vc w4 hown4 hg4)
            have HB4 := Lib.hid (own_grown HOX.out hg4.out HBX.out (Nat.le_refl _))
            clear hg4
            go_roundw
            case rel => exact ⟨i + 1, vp, vc, by go_num, by omega, rfl, Lib.hid (by rw [HT.out]; exact hown4.out), HB4⟩
            case measure => simp [intOf]; omega
        · obtain rfl : i = N := by omega
          have HR := Lib.hid (own_slice hownx.out (by
            rw [List.length_take, HCL.out, Nat.min_self]))
          have HTA := Lib.hid (show (chs s 0).take i = chs s 0 from List.take_of_length_le (by rw [HCL.out]; exact Nat.le_refl _))
          go_wp2_with fail
          go_ret
          exact ⟨_, _, _, rfl, by rw [← HTA.out]; exact HR.out, HN.out, hbel.out.trans (hbelx.out.mono HBW.out)⟩

end Go.Proofs.Ytcpcmonlpdeboaa
