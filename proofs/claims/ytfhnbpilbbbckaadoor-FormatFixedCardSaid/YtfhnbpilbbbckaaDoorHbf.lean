/- Merged by program: T1RefB, T1RefC. -/
import Derived.Laws.OwnMore
import Derived.Deep.QuietTactic
import Derived.BigQuiet
import Derived.Deep.DeepCutAuto
import Derived.Deep.CutBlock
import Derived.Test.YtfhnbpilbbbckaaDoorHbe
/- Contracts of the document's answers for numbers: sums and differences of digits. -/
namespace Go.Proofs.YtfhnbpilbbbckaaDoor.T1
open Go.Proofs.YtfhnbpilbbbckaaDoor Go.Proofs
open Go.RowKit

def ints (l : List Nat) : List Value := l.map fun (d : Nat) => Value.int .i64 (d : Int)
theorem info_int : (Tryd.prog.info? 3).map (fun i => (i.zero, i.size, i.bytes)) = some (some (.int .i64 0), 1, 8) := by kernel_rfl

set_option maxRecDepth 100000 in
/-- A row of the call's own reads as its digits. -/
theorem own_rd {w : World} {base : Nat} {v : Value} {l : List Nat} {k : Nat} (h : w.ownsRow base 3 1 v k (ints l)) (hl : k = l.length) (hd : Dl l) (hs : k ≤ 1000) :
    ∃ p c, v = .slice p k c ∧ Rd w p k c l ∧ ∀ x, p = some x → base ≤ x.block := by
  obtain ⟨hlen, ⟨rfl, h0⟩ | ⟨g, cap, cur, rfl, hb, hg, hcap, hm, hsz, hx⟩⟩ := id h
  · subst h0
    have : l = [] := List.length_eq_zero_iff.1 hl.symm
    exact ⟨none, 0, rfl, ⟨hl, by omega, by omega, hd, fun _ => rfl, Or.inl this⟩, fun x h => by simp at h⟩
  · refine ⟨_, cap, rfl, ⟨hl, hcap, hs, hd, fun h => by simp at h, Or.inr ⟨g, 0, rfl, (h.lt g rfl).2, fun i hi => ?_⟩⟩, fun x h => by injection h with h; subst h; exact hb⟩
    rw [Nat.zero_add, h.cellAt i (by omega)]
    unfold ints
    rw [List.getElem?_map, List.getElem?_eq_getElem hi, List.getD_eq_getElem?_getD, List.getElem?_eq_getElem hi]
    rfl

set_option maxRecDepth 100000 in
theorem wp_append_digit {ops : Array Oper} {rest : List Oper} {o : Oper} {a : Act} {Q : Exit → Act → World → Prop} (hgd : o.guard = none) (s x : Operand)
    (ho : o.op = .call { callee := .builtin .append, args := #[s, x], argTypes := #[32, 32] }) (W w : World) (v : Value) (k : Nat) (l : List Nat) (D : Int) (d : Nat)
    (hs : a.eval s = v) (hown : w.ownsRow W.heap.size 3 1 v k (ints l)) (hx : a.eval x = .slice (some ⟨w.heap.size, 0, none⟩) 1 1) (hd : D = d) (hk : k ≤ 1000) (hbel : Below W.heap.size W w)
    (h : ∀ v' w', Hid (w'.ownsRow W.heap.size 3 1 v' (k + 1) (ints (l ++ [d]))) → Hid (Below W.heap.size W w') → wpList Tryd.prog ops Q rest (a.put o.dst v') w') :
    wpList Tryd.prog ops Q (o :: rest) a (w.alloc (.cells #[.int .i64 D] 3)) := by
  obtain ⟨i0, hi, hz0, hz1, hz2⟩ := info_parts info_int
  subst hd
  refine wpList_append_own _ hgd s x 32 ho W.heap.size 3 i0 (.int .i64 0) 1 8 Tryd.underlying32 hi hz0 hz1 hz2 rfl (by decide) v k (ints l) hs (hown.alloc _) ⟨w.heap.size, 0, none⟩ 1 1 [.int .i64 (d : Int)] hx rfl ?_ ?_ ?_ ?_ ?_ ?_
  · intro j u hj
    cases j with
    | zero => simp at hj; subst hj; simp [Addr.add, go_sem]
    | succ j => simp at hj
  · intro u hu; simp at hu; subst hu; rfl
  · simp only [maxLen]; omega
  · omega
  · simp; exact Nat.le_succ_of_le hbel.size
  · intro v' w' hown' hg _
    refine h v' w' (Lib.hid ?_) (Lib.hid ?_)
    · have e : ints (l ++ [d]) = ints l ++ [.int .i64 (d : Int)] := by simp [ints]
      rw [e]; exact hown'
    · exact (hbel.alloc hbel.size _).grown hg (by simp; exact Nat.le_succ_of_le hbel.size) (fun j hj => (hown.lt j hj).1)

structure Got (W : World) (w : World) (v : Value) (l : List Nat) : Prop where
  rd : ∃ p n c, v = .slice p n c ∧ Rd w p n c l ∧ ∀ x, p = some x → W.heap.size ≤ x.block
  below : Below W.heap.size W w

def SumPost (W : World) (z k : Nat) (e : Ending) (w' : World) : Prop :=
  ∃ v l, e = .returned v ∧ Got W w' v l ∧ val l = z ∧ l.length ≤ k

set_option maxRecDepth 100000 in
set_option maxHeartbeats 1000000 in
theorem plus_any (p q : Option Addr) (n m cap cap' : Nat) (a b : List Nat) (w : World) (ha : Rd w p n cap a) (hb : Rd w q m cap' b) (hn : n ≤ 900) (hm : m ≤ 900) :
    Calls Tryd.prog 34 #[.slice p n cap, .slice q m cap'] w (SumPost w (val a + val b) (max n m + 1)) := by
  have HA := Lib.hid ha; clear ha
  have HB := Lib.hid hb; clear hb
  go_enter Tryd.func34, Tryd.ntmps34
  go_wp2_with fail
  have HMX := Lib.hid (Nat.le_max_left n m)
  have HMY := Lib.hid (Nat.le_max_right n m)
  obtain ⟨M, hM⟩ : ∃ M, M = max n m := ⟨_, rfl⟩
  have hMn : n ≤ M := by omega
  have hMm : m ≤ M := by omega
  have hM9 : M ≤ 900 := by omega
  have hMx : M = n ∨ M = m := by omega
  rw [← hM]
  have HMM := Lib.hid hM
  clear HMX HMY hM
  have HMO := Lib.hid hMx; clear hMx
  go_loopw [5, 6, 7] (fun x y z wr => ∃ (l : List Nat) (cy k : Nat), y = .int .i64 cy ∧ z = .int .i64 k ∧ wr.ownsRow w.heap.size 3 1 x k (ints l) ∧ Below w.heap.size w wr ∧ Hid (k = l.length ∧ Dl l ∧ val l + 10 ^ k * cy = pre a k + pre b k) ∧ cy ≤ 1 ∧ k ≤ M + 1 ∧ (k ≤ M ∨ cy ≤ 0)) (fun _ _ z _ => 902 - (intOf z).toNat)
  case atStart =>
    refine ⟨[], 0, 0, rfl, rfl, ?_, (Below.refl _ _).alloc (Nat.le_refl _) _, Lib.hid ⟨rfl, Dl.nil, by simp [val, pre]⟩, by omega, by omega, by omega⟩
    have := World.ownsRow_lit (base := w.heap.size) (e := 3) (size := 1) w #[] 0 (Nat.le_refl _) (by simp) (by simp)
    simpa [ints] using this
  case round =>
    obtain ⟨l, cy, k, rfl, rfl, hown, hbel, hinv, hcy, hk, hkM⟩ := hrel
    have HOWN := Lib.hid hown; clear hown
    have HBEL := Lib.hid hbel; clear hbel
    by_cases hgo : (k < n ∨ k < m) ∨ 0 < cy
    · obtain ⟨x, hx⟩ : ∃ x, x = a.getD k 0 := ⟨_, rfl⟩
      obtain ⟨y, hy⟩ : ∃ y, y = b.getD k 0 := ⟨_, rfl⟩
      have hx9 : x < 10 := by rw [hx]; exact HA.out.digs.getD k
      have hy9 : y < 10 := by rw [hy]; exact HB.out.digs.getD k
      have hxy : k + 1 ≤ M ∨ x + y ≤ 0 := by
        rcases Nat.lt_or_ge k M with h | h
        · exact Or.inl h
        · have h1 := HA.out.len
          have h2 := HB.out.len
          rw [hx, hy, List.getD_eq_getElem?_getD, List.getD_eq_getElem?_getD, List.getElem?_eq_none (by omega), List.getElem?_eq_none (by omega)]
          exact Or.inr (by simp)
      have HXY := Lib.hid hxy; clear hxy
      have CA := Lib.hid (show ∀ w', Below w.heap.size w w' → Calls Tryd.prog 35 #[.slice p n cap, .int .i64 (k : Int)] w' fun e w'' => e = .returned (.int .i64 (x : Int)) ∧ w' = w'' from fun w' e => by rw [hx]; exact digit_any p n cap a k w' (by omega) (HA.out.below e))
      have CB := Lib.hid (show ∀ w', Below w.heap.size w w' → Calls Tryd.prog 35 #[.slice q m cap', .int .i64 (k : Int)] w' fun e w'' => e = .returned (.int .i64 (y : Int)) ∧ w' = w'' from fun w' e => by rw [hy]; exact digit_any q m cap' b k w' (by omega) (HB.out.below e))
      have HX := Lib.hid hx; clear hx
      have HY := Lib.hid hy; clear hy
      go_upto_region 3 with (fail)
      go_cut [22] (fun b wx => b = .bool true ∧ wx = wr)
      case first =>
        rcases (show k < n ∨ (n ≤ k ∧ k < m) ∨ (n ≤ k ∧ m ≤ k ∧ 0 < cy) from by omega) with h | ⟨h, h'⟩ | ⟨h, h', h''⟩
        all_goals
          clear hgo
          go_wp2_with fail
          go_meet
          exact ⟨rfl, rfl⟩
      case rest =>
        obtain ⟨rfl, rfl⟩ := hcut
        go_step
        go_wp2_with fail
        refine (CA.out _ HBEL.out).mono ?_
        rintro e w1 ⟨rfl, rfl⟩
        go_wp2_with fail
        refine (CB.out _ HBEL.out).mono ?_
        rintro e w2 ⟨rfl, rfl⟩
        obtain ⟨d, hd⟩ : ∃ d, d = (cy + x + y) % 10 := ⟨_, rfl⟩
        have hd2 : ((cy : Int) + x + y) % 10 = d := by omega
        have HD2 := Lib.hid hd2; clear hd2
        have HD := Lib.hid hd; clear hd
        go_wp2_with (at_builtin; refine wp_append_digit rfl _ _ rfl w wc u5 k l _ d rfl HOWN.out rfl HD2.out (by omega) HBEL.out ?_; intro v' w' hown' hbel')
        go_roundw
        case rel =>
          refine ⟨l ++ [d], (cy + x + y) / 10, k + 1, by go_num, by go_num, hown'.out, hbel'.out, Lib.hid ?_, by omega, by have := HXY.out; omega, by have := HXY.out; omega⟩
          obtain ⟨h1, h2, h3⟩ := hinv.out
          have h4 := HD.out
          refine ⟨by simp; omega, h2.append (Dl.one (by omega)), ?_⟩
          rw [val_append, pre_succ, pre_succ, ← HX.out, ← HY.out, ← h1, Nat.pow_succ]
          have e : cy + x + y = d + 10 * ((cy + x + y) / 10) := by omega
          generalize (cy + x + y) / 10 = c2 at *
          have e2 : 10 ^ k * (cy + x + y) = 10 ^ k * (d + 10 * c2) := by rw [e]
          simp only [val, Nat.mul_add, Nat.mul_zero, Nat.add_zero] at e2 ⊢
          rw [Nat.mul_assoc]
          omega
        case measure => simp [intOf]; omega
    · have hkk : n ≤ k ∧ m ≤ k ∧ cy ≤ 0 := by omega
      obtain ⟨hk1, hk2, hcy0⟩ := hkk
      obtain rfl : cy = 0 := by omega
      obtain ⟨h1, h2, h3⟩ := hinv.out
      obtain ⟨pp, cc, rfl, hrd, hfr⟩ := own_rd HOWN.out h1 h2 (by omega)
      have hval : val l = val a + val b := by
        rw [pre_all a k (by have := HA.out.len; omega), pre_all b k (by have := HB.out.len; omega)] at h3
        simpa using h3
      have HRD := Lib.hid hrd; clear hrd
      have HFR := Lib.hid hfr; clear hfr
      have HV := Lib.hid hval; clear hval
      clear h1 h2 h3 hgo
      go_wp2_with fail
      refine (trim_any _ _ _ l _ HRD.out).mono ?_
      rintro e w3 ⟨j, hj, rfl, hv, _, rfl⟩
      have HJ := Lib.hid hv; clear hv
      go_wp2_with fail
      go_ret
      exact ⟨_, l.take j, rfl, ⟨⟨_, _, _, rfl, HRD.out.take hj, HFR.out⟩, HBEL.out⟩, by rw [HJ.out, HV.out], by have := HMM.out; rw [List.length_take]; omega⟩
end Go.Proofs.YtfhnbpilbbbckaaDoor.T1

/- Contracts of the document's answers for numbers: differences of digits. -/
namespace Go.Proofs.YtfhnbpilbbbckaaDoor.T1
open Go.Proofs.YtfhnbpilbbbckaaDoor Go.Proofs
open Go.RowKit

theorem quiet_read {P : Program} {f : FuncId} {args : Array Value} {w : World} {n : Nat} {v : Value}
    (h : Calls P f args (w.drewN n) fun e w' => e = .returned v ∧ w.drewN n = w') : Calls P f args (w.drewN n) fun e w'' => e = .returned v ∧ ∃ m, w'' = w.drewN m :=
  h.mono fun _ _ ⟨he, hw⟩ => ⟨he, n, hw.symm⟩

theorem pre_suf (l : List Nat) (k : Nat) : val l = pre l k + 10 ^ k * suf l k := by
  have h1 := val_append (l.take k) (l.drop k)
  rw [List.take_append_drop] at h1
  rw [h1]
  unfold pre suf
  rcases Nat.lt_or_ge k l.length with h | h
  · rw [List.length_take, Nat.min_eq_left (by omega)]
  · rw [List.drop_of_length_le h]; simp [val]

theorem minus_end {a b l : List Nat} {n bo : Nat} (hn : n = a.length) (ha : Dl a) (hl : Dl l) (hln : n = l.length) (h : val l + pre b n = pre a n + 10 ^ n * bo) (hle : val b ≤ val a) :
    val l + val b = val a := by
  have h1 := pre_all a n (by omega)
  have h2 := val_lt ha
  have h3 := val_lt hl
  rw [← hn] at h2
  rw [← hln] at h3
  have h4 := pre_suf b n
  have h5 : suf b n = 0 := by
    rcases Nat.eq_zero_or_pos (suf b n) with h | h
    · exact h
    · have : 10 ^ n * 1 ≤ 10 ^ n * suf b n := Nat.mul_le_mul_left _ h
      omega
  rw [h5] at h4
  rcases Nat.eq_zero_or_pos bo with h6 | h6
  · rw [h6] at h; omega
  · have : 10 ^ n * 1 ≤ 10 ^ n * bo := Nat.mul_le_mul_left _ h6
    omega

set_option maxRecDepth 100000 in
set_option maxHeartbeats 1000000 in
theorem minus_any (p q : Option Addr) (n m cap cap' : Nat) (a b : List Nat) (w : World) (ha : Rd w p n cap a) (hb : Rd w q m cap' b) (hn : n ≤ 900) (hle : val b ≤ val a) :
    Calls Tryd.prog 33 #[.slice p n cap, .slice q m cap'] w (SumPost w (val a - val b) n) := by
  have hcp := ha.cap
  have HA := Lib.hid ha; clear ha
  have HB := Lib.hid hb; clear hb
  have HLE := Lib.hid hle; clear hle
  go_enter Tryd.func33, Tryd.ntmps33
  go_wp2_with fail
  go_loopw [5, 6, 7] (fun x y z wr => ∃ (l : List Nat) (bo k : Nat), y = .int .i64 (-(bo : Int)) ∧ z = .int .i64 k ∧ wr.ownsRow w.heap.size 3 1 x k (ints l) ∧ Below w.heap.size w wr ∧ Hid (k = l.length ∧ Dl l ∧ val l + pre b k = pre a k + 10 ^ k * bo) ∧ bo ≤ 1 ∧ k ≤ n) (fun _ _ z _ => n - (intOf z).toNat)
  case atStart =>
    refine ⟨[], 0, 0, rfl, rfl, ?_, (Below.refl _ _).alloc (Nat.le_refl _) _, Lib.hid ⟨rfl, Dl.nil, by simp [val, pre]⟩, by omega, by omega⟩
    have := World.ownsRow_lit (base := w.heap.size) (e := 3) (size := 1) w #[] 0 (Nat.le_refl _) (by simp) (by simp)
    simpa [ints] using this
  case round =>
    obtain ⟨l, bo, k, rfl, rfl, hown, hbel, hinv, hbo, hk⟩ := hrel
    have HOWN := Lib.hid hown; clear hown
    have HBEL := Lib.hid hbel; clear hbel
    by_cases hgo : k < n
    · rcases HA.out.cells with hx | ⟨ba, off, rfl, hlt, hx⟩
      · exfalso
        have := HA.out.len
        rw [hx] at this; simp at this; omega
      obtain ⟨x, hxe⟩ : ∃ x, x = a.getD k 0 := ⟨_, rfl⟩
      obtain ⟨y, hy⟩ : ∃ y, y = b.getD k 0 := ⟨_, rfl⟩
      have hx9 : x < 10 := by rw [hxe]; exact HA.out.digs.getD k
      have hy9 : y < 10 := by rw [hy]; exact HB.out.digs.getD k
      have hcell : wr.cell? ⟨ba, off + k, none⟩ = some (.int .i64 (x : Int)) := by
        rw [HBEL.out.cell (p := ⟨ba, off + k, none⟩) hlt, hx k (by have := HA.out.len; omega), hxe]
      have CB := Lib.hid (show ∀ w', Below w.heap.size w w' → Calls Tryd.prog 35 #[.slice q m cap', .int .i64 (k : Int)] w' fun e w'' => e = .returned (.int .i64 (y : Int)) ∧ w' = w'' from fun w' e => by rw [hy]; exact digit_any q m cap' b k w' (by omega) (HB.out.below e))
      have HX := Lib.hid hxe; clear hxe
      have HY := Lib.hid hy; clear hy
      clear hx
      go_upto_region 5 with (fail)
      go_cut [6] (fun c wx => c = .int .i64 ((x : Int) - y + -(bo : Int)) ∧ ∃ nq, wx = wr.drewN nq)
      case first =>
        go_quiet ((go_at_call 35; exact quiet_read (CB.out _ (Below.drewN' HBEL.out _))))
        all_goals
          go_wp2_with fail
          go_meet
          exact ⟨rfl, _, rfl⟩
      case rest =>
        obtain ⟨rfl, nq, rfl⟩ := hcut
        have HOW2 := Lib.hid (show (wr.drewN nq).ownsRow w.heap.size 3 1 u5 k (ints l) from HOWN.out)
        have HBE2 := Lib.hid (Below.drewN' HBEL.out nq)
        go_step
        by_cases hneg : (x : Int) - y + -(bo : Int) < 0
        · obtain ⟨d, hd⟩ : ∃ d, d = x + 10 - y - bo := ⟨_, rfl⟩
          have hd2 : ((x : Int) - y + -(bo : Int)) + 10 = d := by omega
          have HD2 := Lib.hid hd2; clear hd2
          have HD := Lib.hid hd; clear hd
          go_wp2_with (at_builtin; refine wp_append_digit rfl _ _ rfl w (wr.drewN nq) u5 k l _ d rfl HOW2.out rfl HD2.out (by omega) HBE2.out ?_; intro v' w' hown' hbel')
          go_roundw
          case rel =>
            refine ⟨l ++ [d], 1, k + 1, by go_num, by go_num, hown'.out, hbel'.out, Lib.hid ?_, by omega, by omega⟩
            obtain ⟨h1, h2, h3⟩ := hinv.out
            have h4 := HD.out
            refine ⟨by simp; omega, h2.append (Dl.one (by omega)), ?_⟩
            rw [val_append, pre_succ, pre_succ, ← HX.out, ← HY.out, ← h1, Nat.pow_succ]
            have e2 : 10 ^ k * (d + y + bo) = 10 ^ k * (x + 10) := by congr 1; omega
            simp only [val, Nat.mul_add, Nat.mul_zero, Nat.add_zero, Nat.mul_one] at e2 ⊢
            omega
          case measure => simp [intOf]; omega
        · obtain ⟨d, hd⟩ : ∃ d, d = x - y - bo := ⟨_, rfl⟩
          have hd2 : ((x : Int) - y + -(bo : Int)) = d := by omega
          have HD2 := Lib.hid hd2; clear hd2
          have hnn : 0 ≤ (x : Int) - y + -(bo : Int) := by omega
          have HD := Lib.hid hd; clear hd
          have HNN := Lib.hid hnn
          go_wp2_with (at_builtin; refine wp_append_digit rfl _ _ rfl w (wr.drewN nq) u5 k l _ d rfl HOW2.out rfl HD2.out (by omega) HBE2.out ?_; intro v' w' hown' hbel')
          go_roundw
          case rel =>
            refine ⟨l ++ [d], 0, k + 1, by go_num, by go_num, hown'.out, hbel'.out, Lib.hid ?_, by omega, by omega⟩
            obtain ⟨h1, h2, h3⟩ := hinv.out
            have h4 := HD.out
            have h5 := HNN.out
            refine ⟨by simp; omega, h2.append (Dl.one (by omega)), ?_⟩
            rw [val_append, pre_succ, pre_succ, ← HX.out, ← HY.out, ← h1]
            have e2 : 10 ^ k * (d + y + bo) = 10 ^ k * x := by congr 1; omega
            simp only [val, Nat.mul_add, Nat.mul_zero, Nat.add_zero] at e2 ⊢
            omega
          case measure => simp [intOf]; omega
    · obtain rfl : k = n := by omega
      obtain ⟨h1, h2, h3⟩ := hinv.out
      obtain ⟨pp, cc, rfl, hrd, hfr⟩ := own_rd HOWN.out h1 h2 (by omega)
      have hval : val l = val a - val b := by
        have := minus_end HA.out.len HA.out.digs h2 h1 h3 HLE.out
        omega
      have HRD := Lib.hid hrd; clear hrd
      have HFR := Lib.hid hfr; clear hfr
      have HV := Lib.hid hval; clear hval
      have HLL := Lib.hid h1
      clear h1 h2 h3 hgo
      go_wp2_with fail
      refine (trim_any _ _ _ l _ HRD.out).mono ?_
      rintro e w3 ⟨j, hj, rfl, hv, _, rfl⟩
      have HJ := Lib.hid hv; clear hv
      go_wp2_with fail
      go_ret
      exact ⟨_, l.take j, rfl, ⟨⟨_, _, _, rfl, HRD.out.take hj, HFR.out⟩, HBEL.out⟩, by rw [HJ.out, HV.out], by have := HLL.out; rw [List.length_take]; omega⟩
end Go.Proofs.YtfhnbpilbbbckaaDoor.T1
