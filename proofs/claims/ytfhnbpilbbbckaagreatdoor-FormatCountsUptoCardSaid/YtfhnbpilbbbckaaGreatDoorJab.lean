/- Merged by program: JoinsW. -/
import Derived.Test.YtfhnbpilbbbckaaGreatDoorHbh
import Derived.Test.YtfhnbpilbbbckaaGreatDoorHax
/- FormatJoins: a walk. -/
namespace Go.Proofs.YtfhnbpilbbbckaaGreatDoor
open Go.RowKit

theorem elem_cells : Tryz.prog.elem 22 = 30 := by kernel_rfl
theorem add_zero_at (a : Addr) : a.add 0 = a := by simp [Addr.add]
set_option maxRecDepth 100000 in
/-- The first cells of a slice, sliced. -/
theorem slice_front (q : Option Addr) (N c m : Nat) (h : m ≤ c) : ∀ W, (Instr.sliceAt 22 (.slice q N c) none (some (.int .i64 (m : Int))) none).run Tryz.prog W = .ok (.slice q m c) W := fun W => by
  rw [run_sliceAt_slice _ _ _ _ _ _ Tryz.underlying22, run_slice_h _ _ _ _ _ Tryz.underlying22 .i64 (m : Int) (by omega) (by omega)]
  have e : (if c = 0 then q else q.map (·.add (0 * 3))) = q := by
    split
    · rfl
    · cases q with
      | none => rfl
      | some a => rw [Nat.zero_mul]; exact congrArg some (add_zero_at a)
  have e2 : sliced q 0 m c 3 = .slice q m c := by
    unfold sliced
    rw [e, Nat.sub_zero, Nat.sub_zero]
  rw [elem_cells, Tryz.sizeOf30]
  simp only [Result.andThen, Int.toNat_natCast]
  rw [e2]
set_option maxRecDepth 100000 in
/-- The cells behind the first ones of a slice, sliced. -/
theorem slice_back (q : Option Addr) (N c m : Nat) (h : m ≤ N) (hc : N ≤ c) (hb : c ≤ 9223372036854775807) : ∃ q2 c2, (∀ W, (Instr.sliceAt 22 (.slice q N c) (some (.int .i64 (m : Int))) none none).run Tryz.prog W = .ok (.slice q2 (N - m) c2) W) ∧ ∀ w l, CellsAt w q N c l → CellsAt w q2 (N - m) c2 (l.drop m) := by
  refine ⟨if c = m then q else q.map (·.add (m * 3)), c - m, fun W => ?_, fun w l hC => ?_⟩
  · rw [run_sliceAt_slice _ _ _ _ _ _ Tryz.underlying22, run_slice_l _ _ _ _ _ Tryz.underlying22 .i64 (m : Int) (by omega) (by omega)]
    rw [elem_cells, Tryz.sizeOf30]
    simp only [Result.andThen, Int.toNat_natCast]
    rfl
  · have hl := hC.len
    by_cases hcm : c = m
    · have hN : N = m := by omega
      rw [if_pos hcm]
      refine ⟨by rw [List.length_drop]; omega, by omega, by omega, fun e => by omega, Or.inl (List.drop_eq_nil_of_le (by omega))⟩
    · rw [if_neg hcm]
      refine ⟨by rw [List.length_drop]; omega, by omega, by omega, fun e => ?_, ?_⟩
      · have : q = none := by
          cases q with
          | none => rfl
          | some a => exact absurd e (by simp)
        have := hC.nil this
        omega
      · rcases hC.cells with h0 | ⟨b, off, hp, hcc⟩
        · exact Or.inl (by rw [h0]; exact List.drop_nil)
        · refine Or.inr ⟨b, off + m * 3, by rw [hp]; exact congrArg some (addr_add b off (m * 3)), fun i x hi => ?_⟩
          rw [List.getElem?_drop] at hi
          have := hcc (m + i) x hi
          have e : off + m * 3 + i * 3 = off + (m + i) * 3 := by omega
          rw [e]
          exact this
theorem dirT_size (d : Dir) {cs : List Cel} (h : AllOk cs) : (dirT d cs).1.size ≤ 600 := by
  rw [dirT_err]
  split
  · exact Nat.zero_le _
  split
  · exact (by decide : (1 : Nat) ≤ 600)
  · exact make_size _ _ ((h.fill d.wide).fill d.prec).hd
theorem doL_size : ∀ (q : Nat) (l : List UInt8), l.length ≤ q → ∀ (cs : List Cel), AllOk cs → (doL l cs).1.size ≤ 1000 * l.length
  | _, [], _, cs, _ => by rw [doL_nil]; exact Nat.le_refl _
  | 0, b :: r, hq, _, _ => absurd hq (by simp)
  | q + 1, b :: r, hq, cs, h => by
    have hq' : r.length ≤ q := by simpa using hq
    have hcat : ∀ (a : ByteArray) (x : ByteArray × Int), (catS a x).1.size ≤ a.size + x.1.size := by
      intro a x
      unfold catS
      split
      · rw [ByteArray.size_append]; exact Nat.le_refl _
      · exact Nat.zero_le _
    by_cases hb : b.toNat = 37
    · cases hr : readS r with
      | none => rw [doL_none hr _ hb]; exact Nat.zero_le _
      | some p =>
        obtain ⟨d, k⟩ := p
        rw [doL_some hr _ hb]
        split
        · exact Nat.zero_le _
        · have h1 := hcat (dirT d cs).1 (doL (r.drop k) (dirC d cs))
          have h2 := dirT_size d h
          have h3 := doL_size q (r.drop k) (by rw [List.length_drop]; omega) (dirC d cs) (h.dir d)
          rw [List.length_drop] at h3
          simp only [List.length_cons]
          omega
    · rw [doL_other hb]
      have h1 := hcat (ofL [b]) (doL r cs)
      have h2 : (ofL [b]).size = 1 := rfl
      have h3 := doL_size q r hq' cs h
      simp only [List.length_cons]
      omega
def plainB (l : List UInt8) : Bool := l.all fun b => b.toNat != 37
theorem plain_no {l : List UInt8} (h : plainB l = true) : NoPct l := fun b hb => bne_iff_ne.1 (List.all_eq_true.1 h b hb)
theorem plain_succ {f : ByteArray} {i : Nat} (h : i < f.size) : plainB (f.data.toList.take (i + 1)) = (plainB (f.data.toList.take i) && ((f[i].toNat : Int) != 37)) := by
  have hl : i < f.data.toList.length := by rw [← Lib.size_eq]; exact h
  unfold plainB
  rw [List.take_succ_eq_append_getElem hl, List.all_append]
  congr 1
  show ((f[i].toNat != 37) && true) = _
  rw [Bool.and_true]
  by_cases e : f[i].toNat = 37
  · rw [e]; rfl
  · rw [bne_iff_ne.2 e]; exact (bne_iff_ne.2 (by omega)).symm

set_option maxRecDepth 100000 in
set_option maxHeartbeats 4000000 in
theorem walkJoins (f g : ByteArray) (l : List Cel) (p : Option Addr) (n cap : Nat) (w : World) (hA : ArgC w p n l) (hE : Env w) :
    Calls Tryz.prog 5 #[.string f, .string g, .slice p n cap] w fun e w' => e = .returned (.bool true) ∧ Below w.heap.size w w' := by
  have HL := Lib.hid (fun (W : World) (hb : Below w.heap.size w W) => lives_any W (hE.after hb))
  have HE := Lib.hid (fun (W : World) (hb : Below w.heap.size w W) => hE.after hb)
  by_cases h100 : 100 < f.size
  · have d1 : decide ((100 : Int) < (f.size : Int)) = true := decide_eq_true (by omega)
    go_enter Tryz.func5, Tryz.ntmps5
    go_wp2_with fail
    refine (HL.out _ (Below.refl _ _)).mono ?_
    rintro e w1 ⟨rfl, b1⟩
    have B1 := Lib.hid b1
    clear b1
    go_wp2_with fail
    go_ret
    exact ⟨rfl, B1.out⟩
  have d1 : decide ((100 : Int) < (f.size : Int)) = false := decide_eq_false (by omega)
  by_cases g100 : 100 < g.size
  · have d2 : decide ((100 : Int) < (g.size : Int)) = true := decide_eq_true (by omega)
    go_enter Tryz.func5, Tryz.ntmps5
    go_wp2_with fail
    refine (HL.out _ (Below.refl _ _)).mono ?_
    rintro e w1 ⟨rfl, b1⟩
    have B1 := Lib.hid b1
    clear b1
    go_wp2_with fail
    go_ret
    exact ⟨rfl, B1.out⟩
  have d2 : decide ((100 : Int) < (g.size : Int)) = false := decide_eq_false (by omega)
  have hf : f.size ≤ 100 := by omega
  have hg : g.size ≤ 100 := by omega
  have HC := Lib.hid (lawCells_any l p n cap w hA.big hA.len hA.cells)
  have hok := pick_ok hA.fits
  have hpl := pick_len l
  unfold CellsOut at HC
  obtain ⟨L, hL⟩ : ∃ L, L = pickC l := ⟨_, rfl⟩
  rw [← hL] at HC hok hpl
  obtain ⟨N, hN⟩ : ∃ N, N = L.length := ⟨_, rfl⟩
  rw [← hN] at HC hpl
  have HDo : Hid (∀ (t : ByteArray), t.size ≤ 1000 → ∀ (m : List Cel), AllOk m → ∀ (q : Option Addr) (k c : Nat) (W : World), Below w.heap.size w W → CellsAt W q k c m → (∀ a, q = some a → a.block < W.heap.size) → Calls Tryz.prog 8 #[.string t, .slice q k c] W (StrErr (doL t.data.toList m) W)) := Lib.hid (fun t ht m hm q k c W hb hC hlow => doP_text t ht m q k c W (HE.out W hb) hC hlow (Fed.all hm _))
  have HCnt := Lib.hid (fun W => refCount_any f (by omega) W)
  have HN := Lib.hid hN
  have HOk := Lib.hid hok
  clear hok hL hN hA h100 g100 hE
  go_enter Tryz.func5, Tryz.ntmps5
  go_wp2_with fail
  refine HC.out.mono ?_
  rintro e w1 ⟨q, c, rfl, ho, b1⟩
  have C1 := Lib.hid (own_read ho.out HN.out)
  have B1 := Lib.hid b1
  have Q1 := Lib.hid (own_low ho.out)
  clear ho b1
  go_wp2_with fail
  go_loopw [7, 8] (fun x y wr => ∃ (b : Bool) (i : Nat), x = .bool b ∧ y = .int .i64 (i : Int) ∧ i ≤ f.size ∧ Hid (b = plainB (f.data.toList.take i)) ∧ wr = w1) (fun _ y _ => f.size - (intOf y).toNat)
  case atStart => exact ⟨true, 0, rfl, rfl, Nat.zero_le _, Lib.hid rfl, rfl⟩
  case round =>
  obtain ⟨b, i, rfl, rfl, hi, HB, hwr⟩ := hrel
  subst hwr
  by_cases hlt : i < f.size
  · have dt : decide ((i : Int) < (f.size : Int)) = true := decide_eq_true (by omega)
    have HP := Lib.hid (plain_succ hlt)
    rw [← HB.out] at HP
    obtain ⟨z, hz⟩ : ∃ z, z = ((f[i].toNat : Int) != 37) := ⟨_, rfl⟩
    rw [← hz] at HP
    have hz' := hz.symm
    clear hz HB
    cases b with
    | true =>
      go_wp2_with fail
      go_roundw
      case rel => exact ⟨z, i + 1, rfl, by go_num, by omega, Lib.hid (by rw [HP.out, Bool.true_and]), trivial⟩
      case measure => simp [intOf]; omega
    | false =>
      go_wp2_with fail
      go_roundw
      case rel => exact ⟨false, i + 1, rfl, by go_num, by omega, Lib.hid (by rw [HP.out, Bool.false_and]), trivial⟩
      case measure => simp [intOf]; omega
  have dt : decide ((i : Int) < (f.size : Int)) = false := decide_eq_false (by omega)
  have HPl : Hid (b = plainB f.data.toList) := Lib.hid (by rw [HB.out, List.take_of_length_le (by rw [← Lib.size_eq]; omega)])
  clear HB
  have hcap := C1.out.room
  have hbd := C1.out.bound
  cases hcn : countL f.data.toList with
  | none =>
    have HX : Hid (cntN f.data.toList = 0 ∧ cntE f.data.toList = 100) := Lib.hid ⟨by unfold cntN; rw [hcn]; rfl, by unfold cntE; rw [if_pos hcn]⟩
    unfold CountOut at HCnt
    rw [HX.out.1, HX.out.2] at HCnt
    clear HX hcn
    go_wp2_with fail
    refine (HCnt.out _).mono ?_
    rintro e w2 ⟨rfl, b2⟩
    have B2 := Lib.hid (Below.step B1.out b2)
    clear b2
    go_wp2_with fail
    refine (HL.out _ B2.out).mono ?_
    rintro e w3 ⟨rfl, b3⟩
    have B3 := Lib.hid (Below.step B2.out b3)
    clear b3
    go_wp2_with fail
    go_ret
    exact ⟨rfl, B3.out⟩
  | some m =>
  have HX : Hid (cntN f.data.toList = m ∧ cntE f.data.toList = 0) := Lib.hid ⟨by unfold cntN; rw [hcn]; rfl, by unfold cntE; rw [if_neg (by rw [hcn]; simp)]⟩
  unfold CountOut at HCnt
  rw [HX.out.1, HX.out.2] at HCnt
  have HCn := Lib.hid hcn
  clear HX hcn
  by_cases hm : N < m
  · have d3 : decide ((N : Int) < (m : Int)) = true := decide_eq_true (by omega)
    go_wp2_with fail
    refine (HCnt.out _).mono ?_
    rintro e w2 ⟨rfl, b2⟩
    have B2 := Lib.hid (Below.step B1.out b2)
    clear b2
    go_wp2_with fail
    refine (HL.out _ B2.out).mono ?_
    rintro e w3 ⟨rfl, b3⟩
    have B3 := Lib.hid (Below.step B2.out b3)
    clear b3
    go_wp2_with fail
    go_ret
    exact ⟨rfl, B3.out⟩
  have d3 : decide ((N : Int) < (m : Int)) = false := decide_eq_false (by omega)
  have hmN : m ≤ N := by omega
  have HJ := Lib.hid (doL_join (l := f.data.toList) (n := m) (cs := L) g.data.toList HCn.out (by rw [← HN.out]; exact hmN))
  have HPD : Hid (b = true → doL f.data.toList (L.take m) = (f, 0)) := Lib.hid (fun h => by
    rw [HPl.out] at h
    rw [doL_all _ _ (plain_no h), ofL_of])
  have hs1 := slice_front q N c m (by omega)
  obtain ⟨q2, c2, hs2, hback⟩ := slice_back q N c m hmN hcap hbd
  have HBk := Lib.hid hback
  obtain ⟨R1, hR1⟩ : ∃ R1, R1 = doL f.data.toList (L.take m) := ⟨_, rfl⟩
  obtain ⟨R2, hR2⟩ : ∃ R2, R2 = doL g.data.toList (L.drop m) := ⟨_, rfl⟩
  obtain ⟨R3, hR3⟩ : ∃ R3, R3 = doL (f ++ g).data.toList L := ⟨_, rfl⟩
  have HD1 := Lib.hid (HDo.out f (by omega) (L.take m) (HOk.out.take m))
  have HD2 := Lib.hid (HDo.out g (by omega) (L.drop m) (HOk.out.drop m))
  have HD3 := Lib.hid (HDo.out (f ++ g) (by rw [ByteArray.size_append]; omega) L HOk.out)
  have hfg : (f ++ g).data.toList = f.data.toList ++ g.data.toList := by simp
  rw [hfg] at hR3
  rw [← hR1, ← hR2, ← hR3] at HJ
  rw [← hfg] at hR3
  rw [← hR1] at HD1 HPD
  rw [← hR2] at HD2
  rw [← hR3] at HD3
  have z1 : R1.1.size ≤ 100000 := by
    have h := doL_size _ f.data.toList (Nat.le_refl _) (L.take m) (HOk.out.take m)
    rw [← hR1, ← Lib.size_eq] at h; omega
  have z2 : R2.1.size ≤ 100000 := by
    have h := doL_size _ g.data.toList (Nat.le_refl _) (L.drop m) (HOk.out.drop m)
    rw [← hR2, ← Lib.size_eq] at h; omega
  clear hback hR1 hR2 hR3 hfg HPl hm
  obtain ⟨s1, x1⟩ := R1
  obtain ⟨s2, x2⟩ := R2
  obtain ⟨s3, x3⟩ := R3
  go_wp2_with fail
  refine (HCnt.out _).mono ?_
  rintro e w2 ⟨rfl, b2⟩
  have B2 := Lib.hid (Below.step B1.out b2)
  have C2 := Lib.hid (C1.out.below b2)
  clear b2 HCnt
  go_wp2_with (at_builtin; (refine wp_copy_cells rfl _ _ rfl w2 q m c (L.take m) rfl rfl (C2.out.front hmN) (by omega) ?_; intro p' c' w3 h3))
  have C3 := Lib.hid h3.out.1
  have L3 := Lib.hid h3.out.2.1
  have B3 := Lib.hid (Below.step B2.out h3.out.2.2.1)
  have K3 := Lib.hid (C2.out.below h3.out.2.2.1)
  clear h3
  go_wp2_with fail
  refine (HD1.out _ _ _ _ B3.out C3.out L3.out).mono ?_
  rintro e w4 ⟨rfl, b4⟩
  have B4 := Lib.hid (Below.step B3.out b4)
  have K4 := Lib.hid (K3.out.below b4)
  clear b4 C3 L3 K3 C2
  have z1' : s1.size ≤ 100000 := z1
  have z2' : s2.size ≤ 100000 := z2
  clear z1 z2
  have n1 : ¬ 9223372036854775807 < f.size + g.size := by omega
  have n2 : ¬ 9223372036854775807 < s1.size + s2.size := by omega
  go_upto_region 13 with (fail)
  go_cut [74] (fun x wx => x = .bool false ∧ wx = w4)
  case first =>
    cases b with
    | true =>
      have h := HPD.out rfl
      injection h with e1 e2
      subst e1 e2
      go_wp2_with fail
      go_meet
      exact ⟨rfl, rfl⟩
    | false =>
      go_wp2_with fail
      go_meet
      exact ⟨rfl, rfl⟩
  case rest =>
  obtain ⟨rfl, hwx⟩ := hcut
  subst hwx
  clear HPD
  go_step
  by_cases hx1 : x1 = 0
  · subst hx1
    go_wp2_with (at_builtin; (refine wp_copy_cells rfl _ _ rfl wc q2 (N - m) c2 (L.drop m) rfl rfl (HBk.out _ _ K4.out) (by omega) ?_; intro p5 c5 w5 h5))
    have C5 := Lib.hid h5.out.1
    have L5 := Lib.hid h5.out.2.1
    have B5 := Lib.hid (Below.step B4.out h5.out.2.2.1)
    have K5 := Lib.hid (K4.out.below h5.out.2.2.1)
    clear h5
    go_wp2_with fail
    refine (HD2.out _ _ _ _ B5.out C5.out L5.out).mono ?_
    rintro e w6 ⟨rfl, b6⟩
    have B6 := Lib.hid (Below.step B5.out b6)
    have K6 := Lib.hid (K5.out.below b6)
    clear b6 C5 L5 K5 K4
    go_wp2_with (at_builtin; (refine wp_copy_cells rfl _ _ rfl w6 q N c L rfl rfl K6.out (by omega) ?_; intro p7 c7 w7 h7))
    have C7 := Lib.hid h7.out.1
    have L7 := Lib.hid h7.out.2.1
    have B7 := Lib.hid (Below.step B6.out h7.out.2.2.1)
    clear h7
    go_wp2_with fail
    refine (HD3.out _ _ _ _ B7.out C7.out L7.out).mono ?_
    rintro e w8 ⟨rfl, b8⟩
    have B8 := Lib.hid (Below.step B7.out b8)
    clear b8 C7 L7 K6
    have hJ : (s3, x3) = catS s1 (s2, x2) := by
      have h := HJ.out
      split at h
      · exact h
      · rename_i hn; exact absurd trivial hn
    by_cases hx2 : x2 = 0
    · subst hx2
      have e : catS s1 (s2, 0) = (s1 ++ s2, 0) := rfl
      rw [e] at hJ
      injection hJ with e1 e2
      subst e1 e2
      clear HJ e
      go_wp2_with fail
      refine (HL.out _ B8.out).mono ?_
      rintro e w9 ⟨rfl, b9⟩
      have B9 := Lib.hid (Below.step B8.out b9)
      clear b9
      go_wp2_with fail
      go_ret
      exact ⟨rfl, B9.out⟩
    · have d4 : (x2 != 0) = true := bne_iff_ne.2 hx2
      have e : catS s1 (s2, x2) = (noTxt, x2) := by
        unfold catS
        rw [if_neg hx2]
      rw [e] at hJ
      clear e
      injection hJ with e1 e2
      subst e1 e2
      clear HJ hx2
      unfold noTxt
      go_wp2_with fail
      refine (HL.out _ B8.out).mono ?_
      rintro e w9 ⟨rfl, b9⟩
      have B9 := Lib.hid (Below.step B8.out b9)
      clear b9
      go_wp2_with fail
      go_ret
      exact ⟨rfl, B9.out⟩
  · have d4 : (x1 != 0) = true := bne_iff_ne.2 hx1
    clear hx1
    go_wp2_with fail
    refine (HL.out _ B4.out).mono ?_
    rintro e w5 ⟨rfl, b5⟩
    have B5 := Lib.hid (Below.step B4.out b5)
    clear b5
    go_wp2_with fail
    go_ret
    exact ⟨rfl, B5.out⟩
end Go.Proofs.YtfhnbpilbbbckaaGreatDoor
