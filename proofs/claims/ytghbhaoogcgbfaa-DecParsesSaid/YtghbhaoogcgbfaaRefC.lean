/- Contracts of the document's answers for numbers: differences of digits. -/
import Derived.Test.YtghbhaoogcgbfaaRefB
namespace Go.Proofs.Ytghbhaoogcgbfaa
open Go.RowKit

theorem quiet_read {P : Program} {f : FuncId} {args : Array Value} {w : World} {n : Nat} {v : Value}
    (h : Calls P f args (w.drewN n) fun e w' => e = .returned v ∧ w.drewN n = w') : Calls P f args (w.drewN n) fun e w'' => e = .returned v ∧ ∃ m, w'' = w.drewN m :=
  h.mono fun _ _ ⟨he, hw⟩ => ⟨he, n, hw.symm⟩

theorem pre_suf (l : List Nat) (k : Nat) : val l = pre l k + 10 ^ k * suf l k := by
  have h1 := val_append (l.take k) (l.drop k)
  rw [List.take_append_drop] at h1
  rw [h1]
  unfold pre suf
  rcases Nat.lt_or_ge k l.length with h | h
  · rw [List.length_take, Nat.min_eq_left (by omega)]
  · rw [List.drop_of_length_le h]; simp [val]

theorem minus_end {a b l : List Nat} {n bo : Nat} (hn : n = a.length) (ha : Dl a) (hl : Dl l) (hln : n = l.length) (h : val l + pre b n = pre a n + 10 ^ n * bo) (hle : val b ≤ val a) :
    val l + val b = val a := by
  have h1 := pre_all a n (by omega)
  have h2 := val_lt ha
  have h3 := val_lt hl
  rw [← hn] at h2
  rw [← hln] at h3
  have h4 := pre_suf b n
  have h5 : suf b n = 0 := by
    rcases Nat.eq_zero_or_pos (suf b n) with h | h
    · exact h
    · have : 10 ^ n * 1 ≤ 10 ^ n * suf b n := Nat.mul_le_mul_left _ h
      omega
  rw [h5] at h4
  rcases Nat.eq_zero_or_pos bo with h6 | h6
  · rw [h6] at h; omega
  · have : 10 ^ n * 1 ≤ 10 ^ n * bo := Nat.mul_le_mul_left _ h6
    omega

set_option maxRecDepth 100000 in
set_option maxHeartbeats 1000000 in
theorem minus_any (p q : Option Addr) (n m cap cap' : Nat) (a b : List Nat) (w : World) (ha : Rd w p n cap a) (hb : Rd w q m cap' b) (hn : n ≤ 900) (hle : val b ≤ val a) :
    Calls Try.prog 49 #[.slice p n cap, .slice q m cap'] w (SumPost w (val a - val b) n) := by
  have hcp := ha.cap
  have HA := Lib.hid ha; clear ha
  have HB := Lib.hid hb; clear hb
  have HLE := Lib.hid hle; clear hle
  go_enter Try.func49, Try.ntmps49
  go_wp2_with fail
  go_loopw [5, 6, 7] (fun x y z wr => ∃ (l : List Nat) (bo k : Nat), y = .int .i64 (-(bo : Int)) ∧ z = .int .i64 k ∧ wr.ownsRow w.heap.size 3 1 x k (ints l) ∧ Below w.heap.size w wr ∧ Hid (k = l.length ∧ Dl l ∧ val l + pre b k = pre a k + 10 ^ k * bo) ∧ bo ≤ 1 ∧ k ≤ n) (fun _ _ z _ => n - (intOf z).toNat)
  case atStart =>
    refine ⟨[], 0, 0, rfl, rfl, ?_, (Below.refl _ _).alloc (Nat.le_refl _) _, Lib.hid ⟨rfl, Dl.nil, by simp [val, pre]⟩, by omega, by omega⟩
    have := World.ownsRow_lit (base := w.heap.size) (e := 3) (size := 1) w #[] 0 (Nat.le_refl _) (by simp) (by simp)
    simpa [ints] using this
  case round =>
    obtain ⟨l, bo, k, rfl, rfl, hown, hbel, hinv, hbo, hk⟩ := hrel
    have HOWN := Lib.hid hown; clear hown
    have HBEL := Lib.hid hbel; clear hbel
    by_cases hgo : k < n
    · rcases HA.out.cells with hx | ⟨ba, off, rfl, hlt, hx⟩
      · exfalso
        have := HA.out.len
        rw [hx] at this; simp at this; omega
      obtain ⟨x, hxe⟩ : ∃ x, x = a.getD k 0 := ⟨_, rfl⟩
      obtain ⟨y, hy⟩ : ∃ y, y = b.getD k 0 := ⟨_, rfl⟩
      have hx9 : x < 10 := by rw [hxe]; exact HA.out.digs.getD k
      have hy9 : y < 10 := by rw [hy]; exact HB.out.digs.getD k
      have hcell : wr.cell? ⟨ba, off + k, none⟩ = some (.int .i64 (x : Int)) := by
        rw [HBEL.out.cell (p := ⟨ba, off + k, none⟩) hlt, hx k (by have := HA.out.len; omega), hxe]
      have CB := Lib.hid (show ∀ w', Below w.heap.size w w' → Calls Try.prog 52 #[.slice q m cap', .int .i64 (k : Int)] w' fun e w'' => e = .returned (.int .i64 (y : Int)) ∧ w' = w'' from fun w' e => by rw [hy]; exact digit_any q m cap' b k w' (by omega) (HB.out.below e))
      have HX := Lib.hid hxe; clear hxe
      have HY := Lib.hid hy; clear hy
      clear hx
      go_upto_region 5 with (fail)
      go_cut [6] (fun c wx => c = .int .i64 ((x : Int) - y + -(bo : Int)) ∧ ∃ nq, wx = wr.drewN nq)
      case first =>
        go_quiet ((go_at_call 52; exact quiet_read (CB.out _ (Below.drewN' HBEL.out _))))
        all_goals
          go_wp2_with fail
          go_meet
          exact ⟨rfl, _, rfl⟩
      case rest =>
        obtain ⟨rfl, nq, rfl⟩ := hcut
        have HOW2 := Lib.hid (show (wr.drewN nq).ownsRow w.heap.size 3 1 u5 k (ints l) from HOWN.out)
        have HBE2 := Lib.hid (Below.drewN' HBEL.out nq)
        go_step
        by_cases hneg : (x : Int) - y + -(bo : Int) < 0
        · obtain ⟨d, hd⟩ : ∃ d, d = x + 10 - y - bo := ⟨_, rfl⟩
          have hd2 : ((x : Int) - y + -(bo : Int)) + 10 = d := by omega
          have HD2 := Lib.hid hd2; clear hd2
          have HD := Lib.hid hd; clear hd
          go_wp2_with (at_builtin; refine wp_append_digit rfl _ _ rfl w (wr.drewN nq) u5 k l _ d rfl HOW2.out rfl HD2.out (by omega) HBE2.out ?_; intro v' w' hown' hbel')
          go_roundw
          case rel =>
            refine ⟨l ++ [d], 1, k + 1, by go_num, by go_num, hown'.out, hbel'.out, Lib.hid ?_, by omega, by omega⟩
            obtain ⟨h1, h2, h3⟩ := hinv.out
            have h4 := HD.out
            refine ⟨by simp; omega, h2.append (Dl.one (by omega)), ?_⟩
            rw [val_append, pre_succ, pre_succ, ← HX.out, ← HY.out, ← h1, Nat.pow_succ]
            have e2 : 10 ^ k * (d + y + bo) = 10 ^ k * (x + 10) := by congr 1; omega
            simp only [val, Nat.mul_add, Nat.mul_zero, Nat.add_zero, Nat.mul_one] at e2 ⊢
            omega
          case measure => simp [intOf]; omega
        · obtain ⟨d, hd⟩ : ∃ d, d = x - y - bo := ⟨_, rfl⟩
          have hd2 : ((x : Int) - y + -(bo : Int)) = d := by omega
          have HD2 := Lib.hid hd2; clear hd2
          have hnn : 0 ≤ (x : Int) - y + -(bo : Int) := by omega
          have HD := Lib.hid hd; clear hd
          have HNN := Lib.hid hnn
          go_wp2_with (at_builtin; refine wp_append_digit rfl _ _ rfl w (wr.drewN nq) u5 k l _ d rfl HOW2.out rfl HD2.out (by omega) HBE2.out ?_; intro v' w' hown' hbel')
          go_roundw
          case rel =>
            refine ⟨l ++ [d], 0, k + 1, by go_num, by go_num, hown'.out, hbel'.out, Lib.hid ?_, by omega, by omega⟩
            obtain ⟨h1, h2, h3⟩ := hinv.out
            have h4 := HD.out
            have h5 := HNN.out
            refine ⟨by simp; omega, h2.append (Dl.one (by omega)), ?_⟩
            rw [val_append, pre_succ, pre_succ, ← HX.out, ← HY.out, ← h1]
            have e2 : 10 ^ k * (d + y + bo) = 10 ^ k * x := by congr 1; omega
            simp only [val, Nat.mul_add, Nat.mul_zero, Nat.add_zero] at e2 ⊢
            omega
          case measure => simp [intOf]; omega
    · obtain rfl : k = n := by omega
      obtain ⟨h1, h2, h3⟩ := hinv.out
      obtain ⟨pp, cc, rfl, hrd, hfr⟩ := own_rd HOWN.out h1 h2 (by omega)
      have hval : val l = val a - val b := by
        have := minus_end HA.out.len HA.out.digs h2 h1 h3 HLE.out
        omega
      have HRD := Lib.hid hrd; clear hrd
      have HFR := Lib.hid hfr; clear hfr
      have HV := Lib.hid hval; clear hval
      have HLL := Lib.hid h1
      clear h1 h2 h3 hgo
      go_wp2_with fail
      refine (trim_any _ _ _ l _ HRD.out).mono ?_
      rintro e w3 ⟨j, hj, rfl, hv, _, rfl⟩
      have HJ := Lib.hid hv; clear hv
      go_wp2_with fail
      go_ret
      exact ⟨_, l.take j, rfl, ⟨⟨_, _, _, rfl, HRD.out.take hj, HFR.out⟩, HBEL.out⟩, by rw [HJ.out, HV.out], by have := HLL.out; rw [List.length_take]; omega⟩
end Go.Proofs.Ytghbhaoogcgbfaa
