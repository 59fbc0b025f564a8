/- Merged by program: T1RefB, T1RefC, RFixM, T1RefD. -/
import Derived.Laws.OwnMore
import Derived.Deep.QuietTactic
import Derived.BigQuiet
import Derived.Deep.DeepCutAuto
import Derived.Deep.CutBlock
import Derived.Test.YtbbhcbpfffabpaaGreatDoorGaz
import Derived.Test.YtbbhcbpfffabpaaGreatDoorGac
import Derived.Test.YtbbhcbpfffabpaaGreatDoorGap
/- Contracts of the document's answers for numbers: sums and differences of digits. -/
namespace Go.Proofs.YtbbhcbpfffabpaaGreatDoor.T1
open Go.Proofs.YtbbhcbpfffabpaaGreatDoor Go.Proofs
open Go.RowKit

def ints (l : List Nat) : List Value := l.map fun (d : Nat) => Value.int .i64 (d : Int)
theorem info_int : (Tryz.prog.info? 3).map (fun i => (i.zero, i.size, i.bytes)) = some (some (.int .i64 0), 1, 8) := by kernel_rfl

set_option maxRecDepth 100000 in
/-- A row of the call's own reads as its digits. -/
theorem own_rd {w : World} {base : Nat} {v : Value} {l : List Nat} {k : Nat} (h : w.ownsRow base 3 1 v k (ints l)) (hl : k = l.length) (hd : Dl l) (hs : k ≤ 1000) :
    ∃ p c, v = .slice p k c ∧ Rd w p k c l ∧ ∀ x, p = some x → base ≤ x.block := by
  obtain ⟨hlen, ⟨rfl, h0⟩ | ⟨g, cap, cur, rfl, hb, hg, hcap, hm, hsz, hx⟩⟩ := id h
  · subst h0
    have : l = [] := List.length_eq_zero_iff.1 hl.symm
    exact ⟨none, 0, rfl, ⟨hl, by omega, by omega, hd, fun _ => rfl, Or.inl this⟩, fun x h => by simp at h⟩
  · refine ⟨_, cap, rfl, ⟨hl, hcap, hs, hd, fun h => by simp at h, Or.inr ⟨g, 0, rfl, (h.lt g rfl).2, fun i hi => ?_⟩⟩, fun x h => by injection h with h; subst h; exact hb⟩
    rw [Nat.zero_add, h.cellAt i (by omega)]
    unfold ints
    rw [List.getElem?_map, List.getElem?_eq_getElem hi, List.getD_eq_getElem?_getD, List.getElem?_eq_getElem hi]
    rfl

set_option maxRecDepth 100000 in
theorem wp_append_digit {ops : Array Oper} {rest : List Oper} {o : Oper} {a : Act} {Q : Exit → Act → World → Prop} (hgd : o.guard = none) (s x : Operand)
    (ho : o.op = .call { callee := .builtin .append, args := #[s, x], argTypes := #[60, 60] }) (W w : World) (v : Value) (k : Nat) (l : List Nat) (D : Int) (d : Nat)
    (hs : a.eval s = v) (hown : w.ownsRow W.heap.size 3 1 v k (ints l)) (hx : a.eval x = .slice (some ⟨w.heap.size, 0, none⟩) 1 1) (hd : D = d) (hk : k ≤ 1000) (hbel : Below W.heap.size W w)
    (h : ∀ v' w', Hid (w'.ownsRow W.heap.size 3 1 v' (k + 1) (ints (l ++ [d]))) → Hid (Below W.heap.size W w') → wpList Tryz.prog ops Q rest (a.put o.dst v') w') :
    wpList Tryz.prog ops Q (o :: rest) a (w.alloc (.cells #[.int .i64 D] 3)) := by
  obtain ⟨i0, hi, hz0, hz1, hz2⟩ := info_parts info_int
  subst hd
  refine wpList_append_own _ hgd s x 60 ho W.heap.size 3 i0 (.int .i64 0) 1 8 Tryz.underlying60 hi hz0 hz1 hz2 rfl (by decide) v k (ints l) hs (hown.alloc _) ⟨w.heap.size, 0, none⟩ 1 1 [.int .i64 (d : Int)] hx rfl ?_ ?_ ?_ ?_ ?_ ?_
  · intro j u hj
    cases j with
    | zero => simp at hj; subst hj; simp [Addr.add, go_sem]
    | succ j => simp at hj
  · intro u hu; simp at hu; subst hu; rfl
  · simp only [maxLen]; omega
  · omega
  · simp; exact Nat.le_succ_of_le hbel.size
  · intro v' w' hown' hg _
    refine h v' w' (Lib.hid ?_) (Lib.hid ?_)
    · have e : ints (l ++ [d]) = ints l ++ [.int .i64 (d : Int)] := by simp [ints]
      rw [e]; exact hown'
    · exact (hbel.alloc hbel.size _).grown hg (by simp; exact Nat.le_succ_of_le hbel.size) (fun j hj => (hown.lt j hj).1)

structure Got (W : World) (w : World) (v : Value) (l : List Nat) : Prop where
  rd : ∃ p n c, v = .slice p n c ∧ Rd w p n c l ∧ ∀ x, p = some x → W.heap.size ≤ x.block
  below : Below W.heap.size W w

def SumPost (W : World) (z k : Nat) (e : Ending) (w' : World) : Prop :=
  ∃ v l, e = .returned v ∧ Got W w' v l ∧ val l = z ∧ l.length ≤ k

set_option maxRecDepth 100000 in
set_option maxHeartbeats 1000000 in
theorem plus_any (p q : Option Addr) (n m cap cap' : Nat) (a b : List Nat) (w : World) (ha : Rd w p n cap a) (hb : Rd w q m cap' b) (hn : n ≤ 900) (hm : m ≤ 900) :
    Calls Tryz.prog 80 #[.slice p n cap, .slice q m cap'] w (SumPost w (val a + val b) (max n m + 1)) := by
  have HA := Lib.hid ha; clear ha
  have HB := Lib.hid hb; clear hb
  go_enter Tryz.func80, Tryz.ntmps80
  go_wp2_with fail
  have HMX := Lib.hid (Nat.le_max_left n m)
  have HMY := Lib.hid (Nat.le_max_right n m)
  obtain ⟨M, hM⟩ : ∃ M, M = max n m := ⟨_, rfl⟩
  have hMn : n ≤ M := by omega
  have hMm : m ≤ M := by omega
  have hM9 : M ≤ 900 := by omega
  have hMx : M = n ∨ M = m := by omega
  rw [← hM]
  have HMM := Lib.hid hM
  clear HMX HMY hM
  have HMO := Lib.hid hMx; clear hMx
  go_loopw [5, 6, 7] (fun x y z wr => ∃ (l : List Nat) (cy k : Nat), y = .int .i64 cy ∧ z = .int .i64 k ∧ wr.ownsRow w.heap.size 3 1 x k (ints l) ∧ Below w.heap.size w wr ∧ Hid (k = l.length ∧ Dl l ∧ val l + 10 ^ k * cy = pre a k + pre b k) ∧ cy ≤ 1 ∧ k ≤ M + 1 ∧ (k ≤ M ∨ cy ≤ 0)) (fun _ _ z _ => 902 - (intOf z).toNat)
  case atStart =>
    refine ⟨[], 0, 0, rfl, rfl, ?_, (Below.refl _ _).alloc (Nat.le_refl _) _, Lib.hid ⟨rfl, Dl.nil, by simp [val, pre]⟩, by omega, by omega, by omega⟩
    have := World.ownsRow_lit (base := w.heap.size) (e := 3) (size := 1) w #[] 0 (Nat.le_refl _) (by simp) (by simp)
    simpa [ints] using this
  case round =>
    obtain ⟨l, cy, k, rfl, rfl, hown, hbel, hinv, hcy, hk, hkM⟩ := hrel
    have HOWN := Lib.hid hown; clear hown
    have HBEL := Lib.hid hbel; clear hbel
    by_cases hgo : (k < n ∨ k < m) ∨ 0 < cy
    · obtain ⟨x, hx⟩ : ∃ x, x = a.getD k 0 := ⟨_, rfl⟩
      obtain ⟨y, hy⟩ : ∃ y, y = b.getD k 0 := ⟨_, rfl⟩
      have hx9 : x < 10 := by rw [hx]; exact HA.out.digs.getD k
      have hy9 : y < 10 := by rw [hy]; exact HB.out.digs.getD k
      have hxy : k + 1 ≤ M ∨ x + y ≤ 0 := by
        rcases Nat.lt_or_ge k M with h | h
        · exact Or.inl h
        · have h1 := HA.out.len
          have h2 := HB.out.len
          rw [hx, hy, List.getD_eq_getElem?_getD, List.getD_eq_getElem?_getD, List.getElem?_eq_none (by omega), List.getElem?_eq_none (by omega)]
          exact Or.inr (by simp)
      have HXY := Lib.hid hxy; clear hxy
      have CA := Lib.hid (show ∀ w', Below w.heap.size w w' → Calls Tryz.prog 79 #[.slice p n cap, .int .i64 (k : Int)] w' fun e w'' => e = .returned (.int .i64 (x : Int)) ∧ w' = w'' from fun w' e => by rw [hx]; exact digit_any p n cap a k w' (by omega) (HA.out.below e))
      have CB := Lib.hid (show ∀ w', Below w.heap.size w w' → Calls Tryz.prog 79 #[.slice q m cap', .int .i64 (k : Int)] w' fun e w'' => e = .returned (.int .i64 (y : Int)) ∧ w' = w'' from fun w' e => by rw [hy]; exact digit_any q m cap' b k w' (by omega) (HB.out.below e))
      have HX := Lib.hid hx; clear hx
      have HY := Lib.hid hy; clear hy
      go_upto_region 3 with (fail)
      go_cut [22] (fun b wx => b = .bool true ∧ wx = wr)
      case first =>
        rcases (show k < n ∨ (n ≤ k ∧ k < m) ∨ (n ≤ k ∧ m ≤ k ∧ 0 < cy) from by omega) with h | ⟨h, h'⟩ | ⟨h, h', h''⟩
        all_goals
          clear hgo
          go_wp2_with fail
          go_meet
          exact ⟨rfl, rfl⟩
      case rest =>
        obtain ⟨rfl, rfl⟩ := hcut
        go_step
        go_wp2_with fail
        refine (CA.out _ HBEL.out).mono ?_
        rintro e w1 ⟨rfl, rfl⟩
        go_wp2_with fail
        refine (CB.out _ HBEL.out).mono ?_
        rintro e w2 ⟨rfl, rfl⟩
        obtain ⟨d, hd⟩ : ∃ d, d = (cy + x + y) % 10 := ⟨_, rfl⟩
        have hd2 : ((cy : Int) + x + y) % 10 = d := by omega
        have HD2 := Lib.hid hd2; clear hd2
        have HD := Lib.hid hd; clear hd
        go_wp2_with (at_builtin; refine wp_append_digit rfl _ _ rfl w wc u5 k l _ d rfl HOWN.out rfl HD2.out (by omega) HBEL.out ?_; intro v' w' hown' hbel')
        go_roundw
        case rel =>
          refine ⟨l ++ [d], (cy + x + y) / 10, k + 1, by go_num, by go_num, hown'.out, hbel'.out, Lib.hid ?_, by omega, by have := HXY.out; omega, by have := HXY.out; omega⟩
          obtain ⟨h1, h2, h3⟩ := hinv.out
          have h4 := HD.out
          refine ⟨by simp; omega, h2.append (Dl.one (by omega)), ?_⟩
          rw [val_append, pre_succ, pre_succ, ← HX.out, ← HY.out, ← h1, Nat.pow_succ]
          have e : cy + x + y = d + 10 * ((cy + x + y) / 10) := by omega
          generalize (cy + x + y) / 10 = c2 at *
          have e2 : 10 ^ k * (cy + x + y) = 10 ^ k * (d + 10 * c2) := by rw [e]
          simp only [val, Nat.mul_add, Nat.mul_zero, Nat.add_zero] at e2 ⊢
          rw [Nat.mul_assoc]
          omega
        case measure => simp [intOf]; omega
    · have hkk : n ≤ k ∧ m ≤ k ∧ cy ≤ 0 := by omega
      obtain ⟨hk1, hk2, hcy0⟩ := hkk
      obtain rfl : cy = 0 := by omega
      obtain ⟨h1, h2, h3⟩ := hinv.out
      obtain ⟨pp, cc, rfl, hrd, hfr⟩ := own_rd HOWN.out h1 h2 (by omega)
      have hval : val l = val a + val b := by
        rw [pre_all a k (by have := HA.out.len; omega), pre_all b k (by have := HB.out.len; omega)] at h3
        simpa using h3
      have HRD := Lib.hid hrd; clear hrd
      have HFR := Lib.hid hfr; clear hfr
      have HV := Lib.hid hval; clear hval
      clear h1 h2 h3 hgo
      go_wp2_with fail
      refine (trim_any _ _ _ l _ HRD.out).mono ?_
      rintro e w3 ⟨j, hj, rfl, hv, _, rfl⟩
      have HJ := Lib.hid hv; clear hv
      go_wp2_with fail
      go_ret
      exact ⟨_, l.take j, rfl, ⟨⟨_, _, _, rfl, HRD.out.take hj, HFR.out⟩, HBEL.out⟩, by rw [HJ.out, HV.out], by have := HMM.out; rw [List.length_take]; omega⟩
end Go.Proofs.YtbbhcbpfffabpaaGreatDoor.T1

/- Contracts of the document's answers for numbers: differences of digits. -/
namespace Go.Proofs.YtbbhcbpfffabpaaGreatDoor.T1
open Go.Proofs.YtbbhcbpfffabpaaGreatDoor Go.Proofs
open Go.RowKit

theorem quiet_read {P : Program} {f : FuncId} {args : Array Value} {w : World} {n : Nat} {v : Value}
    (h : Calls P f args (w.drewN n) fun e w' => e = .returned v ∧ w.drewN n = w') : Calls P f args (w.drewN n) fun e w'' => e = .returned v ∧ ∃ m, w'' = w.drewN m :=
  h.mono fun _ _ ⟨he, hw⟩ => ⟨he, n, hw.symm⟩

theorem pre_suf (l : List Nat) (k : Nat) : val l = pre l k + 10 ^ k * suf l k := by
  have h1 := val_append (l.take k) (l.drop k)
  rw [List.take_append_drop] at h1
  rw [h1]
  unfold pre suf
  rcases Nat.lt_or_ge k l.length with h | h
  · rw [List.length_take, Nat.min_eq_left (by omega)]
  · rw [List.drop_of_length_le h]; simp [val]

theorem minus_end {a b l : List Nat} {n bo : Nat} (hn : n = a.length) (ha : Dl a) (hl : Dl l) (hln : n = l.length) (h : val l + pre b n = pre a n + 10 ^ n * bo) (hle : val b ≤ val a) :
    val l + val b = val a := by
  have h1 := pre_all a n (by omega)
  have h2 := val_lt ha
  have h3 := val_lt hl
  rw [← hn] at h2
  rw [← hln] at h3
  have h4 := pre_suf b n
  have h5 : suf b n = 0 := by
    rcases Nat.eq_zero_or_pos (suf b n) with h | h
    · exact h
    · have : 10 ^ n * 1 ≤ 10 ^ n * suf b n := Nat.mul_le_mul_left _ h
      omega
  rw [h5] at h4
  rcases Nat.eq_zero_or_pos bo with h6 | h6
  · rw [h6] at h; omega
  · have : 10 ^ n * 1 ≤ 10 ^ n * bo := Nat.mul_le_mul_left _ h6
    omega

set_option maxRecDepth 100000 in
set_option maxHeartbeats 1000000 in
theorem minus_any (p q : Option Addr) (n m cap cap' : Nat) (a b : List Nat) (w : World) (ha : Rd w p n cap a) (hb : Rd w q m cap' b) (hn : n ≤ 900) (hle : val b ≤ val a) :
    Calls Tryz.prog 83 #[.slice p n cap, .slice q m cap'] w (SumPost w (val a - val b) n) := by
  have hcp := ha.cap
  have HA := Lib.hid ha; clear ha
  have HB := Lib.hid hb; clear hb
  have HLE := Lib.hid hle; clear hle
  go_enter Tryz.func83, Tryz.ntmps83
  go_wp2_with fail
  go_loopw [5, 6, 7] (fun x y z wr => ∃ (l : List Nat) (bo k : Nat), y = .int .i64 (-(bo : Int)) ∧ z = .int .i64 k ∧ wr.ownsRow w.heap.size 3 1 x k (ints l) ∧ Below w.heap.size w wr ∧ Hid (k = l.length ∧ Dl l ∧ val l + pre b k = pre a k + 10 ^ k * bo) ∧ bo ≤ 1 ∧ k ≤ n) (fun _ _ z _ => n - (intOf z).toNat)
  case atStart =>
    refine ⟨[], 0, 0, rfl, rfl, ?_, (Below.refl _ _).alloc (Nat.le_refl _) _, Lib.hid ⟨rfl, Dl.nil, by simp [val, pre]⟩, by omega, by omega⟩
    have := World.ownsRow_lit (base := w.heap.size) (e := 3) (size := 1) w #[] 0 (Nat.le_refl _) (by simp) (by simp)
    simpa [ints] using this
  case round =>
    obtain ⟨l, bo, k, rfl, rfl, hown, hbel, hinv, hbo, hk⟩ := hrel
    have HOWN := Lib.hid hown; clear hown
    have HBEL := Lib.hid hbel; clear hbel
    by_cases hgo : k < n
    · rcases HA.out.cells with hx | ⟨ba, off, rfl, hlt, hx⟩
      · exfalso
        have := HA.out.len
        rw [hx] at this; simp at this; omega
      obtain ⟨x, hxe⟩ : ∃ x, x = a.getD k 0 := ⟨_, rfl⟩
      obtain ⟨y, hy⟩ : ∃ y, y = b.getD k 0 := ⟨_, rfl⟩
      have hx9 : x < 10 := by rw [hxe]; exact HA.out.digs.getD k
      have hy9 : y < 10 := by rw [hy]; exact HB.out.digs.getD k
      have hcell : wr.cell? ⟨ba, off + k, none⟩ = some (.int .i64 (x : Int)) := by
        rw [HBEL.out.cell (p := ⟨ba, off + k, none⟩) hlt, hx k (by have := HA.out.len; omega), hxe]
      have CB := Lib.hid (show ∀ w', Below w.heap.size w w' → Calls Tryz.prog 79 #[.slice q m cap', .int .i64 (k : Int)] w' fun e w'' => e = .returned (.int .i64 (y : Int)) ∧ w' = w'' from fun w' e => by rw [hy]; exact digit_any q m cap' b k w' (by omega) (HB.out.below e))
      have HX := Lib.hid hxe; clear hxe
      have HY := Lib.hid hy; clear hy
      clear hx
      go_upto_region 5 with (fail)
      go_cut [6] (fun c wx => c = .int .i64 ((x : Int) - y + -(bo : Int)) ∧ ∃ nq, wx = wr.drewN nq)
      case first =>
        go_quiet ((go_at_call 79; exact quiet_read (CB.out _ (Below.drewN' HBEL.out _))))
        all_goals
          go_wp2_with fail
          go_meet
          exact ⟨rfl, _, rfl⟩
      case rest =>
        obtain ⟨rfl, nq, rfl⟩ := hcut
        have HOW2 := Lib.hid (show (wr.drewN nq).ownsRow w.heap.size 3 1 u5 k (ints l) from HOWN.out)
        have HBE2 := Lib.hid (Below.drewN' HBEL.out nq)
        go_step
        by_cases hneg : (x : Int) - y + -(bo : Int) < 0
        · obtain ⟨d, hd⟩ : ∃ d, d = x + 10 - y - bo := ⟨_, rfl⟩
          have hd2 : ((x : Int) - y + -(bo : Int)) + 10 = d := by omega
          have HD2 := Lib.hid hd2; clear hd2
          have HD := Lib.hid hd; clear hd
          go_wp2_with (at_builtin; refine wp_append_digit rfl _ _ rfl w (wr.drewN nq) u5 k l _ d rfl HOW2.out rfl HD2.out (by omega) HBE2.out ?_; intro v' w' hown' hbel')
          go_roundw
          case rel =>
            refine ⟨l ++ [d], 1, k + 1, by go_num, by go_num, hown'.out, hbel'.out, Lib.hid ?_, by omega, by omega⟩
            obtain ⟨h1, h2, h3⟩ := hinv.out
            have h4 := HD.out
            refine ⟨by simp; omega, h2.append (Dl.one (by omega)), ?_⟩
            rw [val_append, pre_succ, pre_succ, ← HX.out, ← HY.out, ← h1, Nat.pow_succ]
            have e2 : 10 ^ k * (d + y + bo) = 10 ^ k * (x + 10) := by congr 1; omega
            simp only [val, Nat.mul_add, Nat.mul_zero, Nat.add_zero, Nat.mul_one] at e2 ⊢
            omega
          case measure => simp [intOf]; omega
        · obtain ⟨d, hd⟩ : ∃ d, d = x - y - bo := ⟨_, rfl⟩
          have hd2 : ((x : Int) - y + -(bo : Int)) = d := by omega
          have HD2 := Lib.hid hd2; clear hd2
          have hnn : 0 ≤ (x : Int) - y + -(bo : Int) := by omega
          have HD := Lib.hid hd; clear hd
          have HNN := Lib.hid hnn
          go_wp2_with (at_builtin; refine wp_append_digit rfl _ _ rfl w (wr.drewN nq) u5 k l _ d rfl HOW2.out rfl HD2.out (by omega) HBE2.out ?_; intro v' w' hown' hbel')
          go_roundw
          case rel =>
            refine ⟨l ++ [d], 0, k + 1, by go_num, by go_num, hown'.out, hbel'.out, Lib.hid ?_, by omega, by omega⟩
            obtain ⟨h1, h2, h3⟩ := hinv.out
            have h4 := HD.out
            have h5 := HNN.out
            refine ⟨by simp; omega, h2.append (Dl.one (by omega)), ?_⟩
            rw [val_append, pre_succ, pre_succ, ← HX.out, ← HY.out, ← h1]
            have e2 : 10 ^ k * (d + y + bo) = 10 ^ k * x := by congr 1; omega
            simp only [val, Nat.mul_add, Nat.mul_zero, Nat.add_zero] at e2 ⊢
            omega
          case measure => simp [intOf]; omega
    · obtain rfl : k = n := by omega
      obtain ⟨h1, h2, h3⟩ := hinv.out
      obtain ⟨pp, cc, rfl, hrd, hfr⟩ := own_rd HOWN.out h1 h2 (by omega)
      have hval : val l = val a - val b := by
        have := minus_end HA.out.len HA.out.digs h2 h1 h3 HLE.out
        omega
      have HRD := Lib.hid hrd; clear hrd
      have HFR := Lib.hid hfr; clear hfr
      have HV := Lib.hid hval; clear hval
      have HLL := Lib.hid h1
      clear h1 h2 h3 hgo
      go_wp2_with fail
      refine (trim_any _ _ _ l _ HRD.out).mono ?_
      rintro e w3 ⟨j, hj, rfl, hv, _, rfl⟩
      have HJ := Lib.hid hv; clear hv
      go_wp2_with fail
      go_ret
      exact ⟨_, l.take j, rfl, ⟨⟨_, _, _, rfl, HRD.out.take hj, HFR.out⟩, HBEL.out⟩, by rw [HJ.out, HV.out], by have := HLL.out; rw [List.length_take]; omega⟩
end Go.Proofs.YtbbhcbpfffabpaaGreatDoor.T1

/- Digits of a number that is rounded: plain. -/
namespace Go.Proofs.YtbbhcbpfffabpaaGreatDoor
open Go.RowKit

theorem digit_is {l : List Nat} (h : T1.Dl l) (i : Nat) : T1.val l / 10 ^ i % 10 = l.getD i 0 := by
  have h1 := T1.pre_suf l i
  have h2 := T1.pre_lt h i
  have h3 := T1.suf_step l i
  have h4 := h.getD i
  have e : T1.val l / 10 ^ i = T1.suf l i := by
    rw [h1, Nat.add_mul_div_left _ _ (Nat.pow_pos (by omega)), Nat.div_eq_of_lt h2, Nat.zero_add]
  rw [e, h3]
  omega
theorem val_low {l : List Nat} {n : Nat} (h : l.getD n 0 ≠ 0) : 10 ^ n ≤ T1.val l := by
  have h1 := T1.pre_suf l n
  have h3 := T1.suf_step l n
  have h4 : 1 ≤ T1.suf l n := by omega
  have h5 : 10 ^ n * 1 ≤ 10 ^ n * T1.suf l n := Nat.mul_le_mul_left _ h4
  omega
/-- How a rounded number's digits end. -/
theorem grow_done {l : List Nat} {n a many i : Nat} (hn : n = l.length) (hl : T1.Dl l) (ha : a ≤ 9223372036854775808) (hv : T1.val l = roundN a many) (hz : n = 0 ∨ l.getD (n - 1) 0 ≠ 0)
    (h1 : n ≤ i) (h2 : keepN many < i) (h3 : i = n ∨ i = keepN many + 1) :
    growT (keepN many) (roundN a many) i ++ List.replicate (many - keepN many) 48 = fixedT a many := by
  have hr := roundN_le a many
  have hx : T1.val l < 10 ^ i := Nat.lt_of_lt_of_le (T1.val_lt hl) (Nat.pow_le_pow_right (by omega) (by omega))
  have hk : keepN many ≤ 6 := by unfold keepN; omega
  unfold fixedT
  rw [← hv] at *
  congr 1
  have hm : i = keepN many + 1 ∨ 10 ^ (i - 1) ≤ T1.val l := by
    rcases h3 with h3 | h3
    · rcases hz with hz | hz
      · omega
      · exact Or.inr (by rw [h3]; exact val_low hz)
    · exact Or.inl h3
  refine growT_end _ _ i h2 hx hm ?_
  rcases hm with hm | hm
  · omega
  · have h4 : i - 1 < 20 := by
      rcases Nat.lt_or_ge (i - 1) 20 with h | h
      · exact h
      · have := Nat.pow_le_pow_right (n := 10) (by omega) h
        omega
    omega
theorem grow_len (keep x : Nat) : ∀ i, (growT keep x i).length ≤ 2 * i
  | 0 => by rw [growT_zero]; exact Nat.le_refl _
  | i + 1 => by
    have h := grow_len keep x i
    rw [growT_step]
    split
    · simp only [List.length_cons]; omega
    · simp only [List.length_cons]; omega
/-- The unit of what is kept. -/
def unitN (many : Nat) : Nat := 10 ^ (6 - keepN many)
theorem unitN_le (many : Nat) : 1 ≤ unitN many ∧ unitN many ≤ 1000000 := by
  unfold unitN
  exact ⟨Nat.pow_pos (by omega), Nat.pow_le_pow_right (by omega) (by omega : 6 - keepN many ≤ 6)⟩
theorem round_quot (a many : Nat) : ((a : Int) * 2 + (unitN many : Int)).tdiv (2 * (unitN many : Int)) = (roundN a many : Int) := by
  unfold roundN
  have e : ((2 * a + 10 ^ (6 - keepN many)) / (2 * 10 ^ (6 - keepN many)) : Nat) = (2 * a + unitN many) / (2 * unitN many) := rfl
  rw [e, Int.tdiv_eq_ediv_of_nonneg (by omega)]
  rw [Int.natCast_ediv]
  congr 1
  omega
end Go.Proofs.YtbbhcbpfffabpaaGreatDoor

/- Contracts of the document's answers for numbers: a number's digits. -/
namespace Go.Proofs.YtbbhcbpfffabpaaGreatDoor.T1
open Go.Proofs.YtbbhcbpfffabpaaGreatDoor Go.Proofs
open Go.RowKit

structure Two (w : World) (b : Nat) (x y : Value) : Prop where
  c0 : w.cell? ⟨b, 0, none⟩ = some x
  c1 : w.cell? ⟨b, 1, none⟩ = some y
  f0 : w.frozen? ⟨b, 0, none⟩ = false
  f1 : w.frozen? ⟨b, 1, none⟩ = false

theorem Two.below {w w' : World} {b B : Nat} {x y : Value} (h : Two w b x y) (hb : Below B w w') (hlt : b < B) : Two w' b x y :=
  ⟨by rw [hb.cell (p := ⟨b, 0, none⟩) hlt]; exact h.c0, by rw [hb.cell (p := ⟨b, 1, none⟩) hlt]; exact h.c1, by rw [hb.frozen (p := ⟨b, 0, none⟩) hlt]; exact h.f0, by rw [hb.frozen (p := ⟨b, 1, none⟩) hlt]; exact h.f1⟩

theorem two_new (w : World) (x y : Value) (t : TypeId) : Two (w.alloc (.cells #[x, y] t)) w.heap.size x y := by
  refine ⟨?_, ?_, ?_, ?_⟩ <;> simp [go_sem]

theorem Two.other {w : World} {b : Nat} {x y : Value} (h : Two w b x y) {a : Addr} (ha : a.block ≠ b) (v : Value) : Two (w.setCell a v) b x y :=
  ⟨by rw [cell_other (by rintro rfl; exact ha rfl)]; exact h.c0, by rw [cell_other (by rintro rfl; exact ha rfl)]; exact h.c1, by simp [h.f0], by simp [h.f1]⟩

theorem Two.set1 {w : World} {b : Nat} {x y : Value} (h : Two w b x y) (v : Value) : Two (w.setCell ⟨b, 1, none⟩ v) b x v :=
  ⟨by rw [cell_other (by intro e; injection e with e1 e2; omega)]; exact h.c0, cell_same h.c1, by simp [h.f0], by simp [h.f1]⟩
theorem Two.set0 {w : World} {b : Nat} {x y : Value} (h : Two w b x y) (v : Value) : Two (w.setCell ⟨b, 0, none⟩ v) b v y :=
  ⟨cell_same h.c0, by rw [cell_other (by intro e; injection e with e1 e2; omega)]; exact h.c1, by simp [h.f0], by simp [h.f1]⟩

set_option maxRecDepth 100000 in
/-- append of one digit to a row whose block is base or behind. -/
theorem wp_append_base {ops : Array Oper} {rest : List Oper} {o : Oper} {a : Act} {Q : Exit → Act → World → Prop} (hgd : o.guard = none) (s x : Operand)
    (ho : o.op = .call { callee := .builtin .append, args := #[s, x], argTypes := #[60, 60] }) (base : Nat) (w : World) (v : Value) (k : Nat) (l : List Nat) (D : Int) (d : Nat)
    (hs : a.eval s = v) (hown : w.ownsRow base 3 1 v k (ints l)) (hx : a.eval x = .slice (some ⟨w.heap.size, 0, none⟩) 1 1) (hd : D = d) (hk : k ≤ 1000) (hbase : base ≤ w.heap.size)
    (h : ∀ p c w', Hid (w'.ownsRow base 3 1 (.slice p (k + 1) c) (k + 1) (ints (l ++ [d]))) → Hid (Below base w w') → wpList Tryz.prog ops Q rest (a.put o.dst (.slice p (k + 1) c)) w') :
    wpList Tryz.prog ops Q (o :: rest) a (w.alloc (.cells #[.int .i64 D] 3)) := by
  obtain ⟨i0, hi, hz0, hz1, hz2⟩ := info_parts info_int
  subst hd
  refine wpList_append_own _ hgd s x 60 ho base 3 i0 (.int .i64 0) 1 8 Tryz.underlying60 hi hz0 hz1 hz2 rfl (by decide) v k (ints l) hs (hown.alloc _) ⟨w.heap.size, 0, none⟩ 1 1 [.int .i64 (d : Int)] hx rfl ?_ ?_ ?_ ?_ ?_ ?_
  · intro j u hj
    cases j with
    | zero => simp at hj; subst hj; simp [Addr.add, go_sem]
    | succ j => simp at hj
  · intro u hu; simp at hu; subst hu; rfl
  · simp only [maxLen]; omega
  · omega
  · simp; exact Nat.le_succ_of_le hbase
  · intro v' w' hown' hg _
    have e : ints (l ++ [d]) = ints l ++ [.int .i64 (d : Int)] := by simp [ints]
    rw [← e] at hown'
    obtain ⟨p, c, rfl⟩ : ∃ p c, v' = .slice p (k + 1) c := by
      rcases hown'.2 with ⟨_, h0⟩ | ⟨g, cap, cur, hv, _⟩
      · omega
      · exact ⟨_, _, hv⟩
    refine h p c w' (Lib.hid hown') (Lib.hid ?_)
    · exact ((Below.refl base w).alloc hbase _).grown hg (by simp; exact Nat.le_succ_of_le hbase) (fun j hj => (hown.lt j hj).1)

set_option maxRecDepth 100000 in
theorem own_slice {w : World} {base : Nat} {p : Option Addr} {c : Nat} {l : List Nat} {k : Nat} (h : w.ownsRow base 3 1 (.slice p k c) k (ints l)) (hl : k = l.length) (hd : Dl l) (hs : k ≤ 1000) :
    Rd w p k c l := by
  obtain ⟨p', c', e, hr, _⟩ := own_rd h hl hd hs
  injection e with e1 _ e2
  subst e1; subst e2
  exact hr

/-- The digits of n, in at most k places. -/
def dg : Nat → Nat → List Nat
  | 0, _ => []
  | k + 1, n => if n = 0 then [] else n % 10 :: dg k (n / 10)

theorem dg_dl : ∀ k n, Dl (dg k n)
  | 0, _ => Dl.nil
  | k + 1, n => by
    unfold dg
    split
    · exact Dl.nil
    · intro d hd
      rcases List.mem_cons.1 hd with h | h
      · omega
      · exact dg_dl k _ d h
theorem dg_val : ∀ k n, n < 10 ^ k → val (dg k n) = n
  | 0, n, h => by simp at h; subst h; rfl
  | k + 1, n, h => by
    unfold dg
    split
    · rename_i h0; subst h0; rfl
    · rw [Nat.pow_succ] at h
      simp only [val]
      rw [dg_val k (n / 10) (by omega)]
      omega
theorem dg_len : ∀ k n, (dg k n).length ≤ k
  | 0, _ => by simp [dg]
  | k + 1, n => by
    unfold dg
    split
    · simp
    · have := dg_len k (n / 10); simp; omega
theorem dg_zero (k : Nat) : dg k 0 = [] := by cases k <;> simp [dg]

def OfPost (a : Int) (W : World) (e : Ending) (w' : World) : Prop :=
  ∃ p n c, e = .returned (.agg #[.bool (decide (a < 0)), .slice p n c]) ∧ Rd w' p n c (dg 20 a.natAbs) ∧ Below W.heap.size W w'

structure OfInv (w wr : World) (m : Bool) (N : Nat) (n : Nat) : Prop where
  res : Two wr w.heap.size (.bool false) (.slice none 0 0)
  below : Below w.heap.size w wr
  size : w.heap.size + 2 ≤ wr.heap.size
  rest : ∃ v l j, Two wr (w.heap.size + 1) (.bool m) v ∧ wr.ownsRow (w.heap.size + 2) 3 1 v l.length (ints l) ∧ l ++ dg j n = dg 20 N ∧ l.length + j ≤ 20 ∧ n < 10 ^ j

theorem of_start (w : World) (m : Bool) (N : Nat) (hN : N < 10 ^ 20) : OfInv w ((w.alloc (.cells #[.bool false, .slice none 0 0] 62)).alloc (.cells #[.bool m, .slice none 0 0] 62)) m N N := by
  refine ⟨(two_new w _ _ _).below ((Below.refl _ _).alloc (Nat.le_refl _) _) (by simp), ((Below.refl _ _).alloc (Nat.le_refl _) _).alloc (by simp) _, by simp, .slice none 0 0, [], 20, ?_, World.ownsRow_nil _ _ _ _, rfl, by simp, hN⟩
  have := two_new (w.alloc (.cells #[.bool false, .slice none 0 0] 62)) (.bool m) (.slice none 0 0) 62
  simpa using this

theorem of_next {w wr w' : World} {m : Bool} {N n : Nat} {v v' : Value} {l : List Nat} {j : Nat} (h : OfInv w wr m N n) (hn : n ≠ 0)
    (h2 : Two wr (w.heap.size + 1) (.bool m) v) (he : l ++ dg j n = dg 20 N) (hlj : l.length + j ≤ 20) (hnj : n < 10 ^ j)
    (hown : w'.ownsRow (w.heap.size + 2) 3 1 v' (l.length + 1) (ints (l ++ [n % 10]))) (hb : Below (w.heap.size + 2) wr w') :
    OfInv w (w'.setCell ⟨w.heap.size + 1, 1, none⟩ v') m N (n / 10) := by
  obtain ⟨i, rfl⟩ : ∃ i, j = i + 1 := by
    cases j with
    | zero => simp at hnj; omega
    | succ i => exact ⟨i, rfl⟩
  refine ⟨(h.res.below hb (by omega)).other (by simp) _, (h.below.trans (hb.mono (by omega))).setCell (by simp) _, ?_, v', l ++ [n % 10], i, (h2.below hb (by omega)).set1 _, ?_, ?_, ?_, ?_⟩
  · simp [World.setCell]; exact Nat.le_trans h.size hb.size
  · have := ownsRow_setCell_below hown (a := ⟨w.heap.size + 1, 1, none⟩) (by simp) v'
    simpa using this
  · rw [← he]; simp [dg, hn]
  · simp; omega
  · rw [Nat.pow_succ] at hnj; omega

set_option maxHeartbeats 1000000 in
theorem of_any (a : Int) (w : World) (ha : Fits a) :
    Calls Tryz.prog 51 #[.int .i64 a] w (OfPost a w) := by
  obtain ⟨m, hm⟩ : ∃ m, m = decide (a < 0) := ⟨_, rfl⟩
  have hsg : a = sgn m a.natAbs := by
    rw [hm]; unfold sgn; split <;> simp_all <;> omega
  have hN : a.natAbs < 10 ^ 20 := by unfold Fits at ha; omega
  have h19 : a.natAbs ≤ 9223372036854775808 := by unfold Fits at ha; omega
  have HS := Lib.hid (of_start w m a.natAbs hN)
  have HSG := Lib.hid hsg; clear hsg
  have HM := Lib.hid hm
  unfold Fits at ha
  obtain ⟨a1, a2⟩ := ha
  go_enter Tryz.func51, Tryz.ntmps51
  go_wp2_with fail
  rw [← hm]
  clear hm hN
  go_loopw [0, 4] (fun x _ wr => ∃ n : Nat, x = .int .i64 (sgn m n) ∧ n ≤ 9223372036854775808 ∧ (m = false → n ≤ 9223372036854775807) ∧ Hid (OfInv w wr m a.natAbs n)) (fun x _ _ => (intOf x).natAbs)
  case atStart => exact ⟨a.natAbs, by rw [← HSG.out], h19, by intro h; have := HM.out; rw [h] at this; simp at this; omega, HS⟩
  case round =>
    obtain ⟨n, rfl, hn19, hn19', hinv⟩ := hrel
    obtain ⟨res, hbel, hsz, v, l, j, h2, hown, he, hlj, hnj⟩ := id hinv.out
    have r0 := res.c0; have r1 := res.c1; have r2 := res.f0; have r3 := res.f1
    have n0 := h2.c0; have n1 := h2.c1; have n2 := h2.f1
    have H2 := Lib.hid h2; clear h2
    have HO := Lib.hid hown; clear hown
    have HE := Lib.hid he; clear he
    have HB := Lib.hid hbel; clear hbel
    have HR := Lib.hid res; clear res
    by_cases hn0 : n = 0
    · subst hn0
      have hz : sgn m 0 = 0 := by cases m <;> rfl
      have hll : l = dg 20 a.natAbs := by have := HE.out; rw [dg_zero] at this; simpa using this
      have HLL := Lib.hid hll; clear hll
      obtain ⟨pp, cc, rfl, hrd, _⟩ := own_rd HO.out rfl (by rw [HLL.out]; exact dg_dl _ _) (by omega)
      have HRD := Lib.hid hrd; clear hrd
      rw [hz]
      clear hz hn19'
      go_wp2_with fail
      have t2 := (HR.out.set0 (.bool m)).set1 (.slice pp l.length cc)
      have tc0 := t2.c0
      have tc1 := t2.c1
      have own2 := ownsRow_setCell_below (ownsRow_setCell_below HO.out (a := ⟨w.heap.size, 0, none⟩) (by simp) (.bool m)) (a := ⟨w.heap.size, 1, none⟩) (by simp) (.slice pp l.length cc)
      have rd2 := own_slice own2 rfl (by rw [HLL.out]; exact dg_dl _ _) (by omega)
      have bl2 := (HB.out.setCell (p := ⟨w.heap.size, 0, none⟩) (by simp) (.bool m)).setCell (p := ⟨w.heap.size, 1, none⟩) (by simp) (.slice pp l.length cc)
      refine bodyPost_ret (v := .agg #[.bool m, .slice pp l.length cc]) (by simp [results, Tryz.results51, go_sem, tc0, tc1]) rfl ⟨pp, l.length, cc, by rw [HM.out], by rw [← HLL.out]; exact rd2, bl2⟩
    · obtain ⟨d, hd⟩ : ∃ d, d = n % 10 := ⟨_, rfl⟩
      obtain ⟨r, hr⟩ : ∃ r, r = n / 10 := ⟨_, rfl⟩
      have hd9 : d < 10 := by omega
      have hnx := fun v' w' o b => of_next (v' := v') (w' := w') hinv.out hn0 H2.out HE.out hlj hnj o b
      rw [← hd, ← hr] at hnx
      have HNX := Lib.hid hnx; clear hnx
      have hl20 : l.length + 1 ≤ 1000 := by omega
      have hrn : r < n := by omega
      have hr19 : r ≤ 9223372036854775807 := by omega
      cases m
      · have hn19'' := hn19' rfl
        clear hn19'
        have em : (n : Int) % 10 = d := by omega
        have eq : (n : Int) / 10 = r := by omega
        have hb : ((n : Int) != 0) = true := by rw [bne_iff_ne]; omega
        have EM := Lib.hid em; clear em
        have EQ := Lib.hid eq; clear eq
        clear hn0 hd hr hinv
        show Code.wp _ _ _ _ _
        rw [show sgn false n = (n : Int) from rfl]
        go_wp2_with (at_builtin; refine wp_append_base rfl _ _ rfl (w.heap.size + 2) wr v l.length l _ d rfl HO.out rfl EM.out (by omega) hsz ?_; intro vp vc w' hown' hbel'; have i0 := (H2.out.below hbel'.out (by omega)).c1; have i1 := (H2.out.below hbel'.out (by omega)).f1)
        go_roundw
        case rel => exact ⟨r, congrArg _ EQ.out, by omega, fun _ => by omega, Lib.hid (HNX.out _ _ hown'.out hbel'.out)⟩
        case measure => have := EQ.out; simp [intOf]; omega
      · have em : (-(n : Int)).tmod 10 = -(d : Int) := by rw [Int.neg_tmod, Int.tmod_eq_emod_of_nonneg (by omega)]; omega
        have eq : (-(n : Int)).tdiv 10 = -(r : Int) := by rw [Int.neg_tdiv, Int.tdiv_eq_ediv_of_nonneg (by omega)]; omega
        have hb : (-(n : Int) != 0) = true := by rw [bne_iff_ne]; omega
        clear hn19' hn0 hd hr hinv
        rw [show sgn true n = -(n : Int) from rfl]
        by_cases hd0 : d = 0
        · subst hd0
          have ED := Lib.hid (show (0 : Int) = ((0 : Nat) : Int) from rfl)
          go_wp2_with (at_builtin; refine wp_append_base rfl _ _ rfl (w.heap.size + 2) wr v l.length l _ 0 rfl HO.out rfl ED.out (by omega) hsz ?_; intro vp vc w' hown' hbel'; have i0 := (H2.out.below hbel'.out (by omega)).c1; have i1 := (H2.out.below hbel'.out (by omega)).f1)
          go_roundw
          case rel => exact ⟨r, rfl, by omega, fun h => by simp at h, Lib.hid (HNX.out _ _ hown'.out hbel'.out)⟩
          case measure => simp [intOf]; omega
        · have ED := Lib.hid (show (d : Int) = ((d : Nat) : Int) from rfl)
          go_wp2_with (at_builtin; refine wp_append_base rfl _ _ rfl (w.heap.size + 2) wr v l.length l _ d rfl HO.out rfl ED.out (by omega) hsz ?_; intro vp vc w' hown' hbel'; have i0 := (H2.out.below hbel'.out (by omega)).c1; have i1 := (H2.out.below hbel'.out (by omega)).f1)
          go_roundw
          case rel => exact ⟨r, rfl, by omega, fun h => by simp at h, Lib.hid (HNX.out _ _ hown'.out hbel'.out)⟩
          case measure => simp [intOf]; omega
end Go.Proofs.YtbbhcbpfffabpaaGreatDoor.T1
