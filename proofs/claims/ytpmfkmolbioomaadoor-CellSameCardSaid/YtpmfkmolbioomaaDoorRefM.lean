/- Contract of the document's Show. -/
import Derived.Test.YtpmfkmolbioomaaDoorRefJ
import Derived.Test.YtpmfkmolbioomaaDoorRefL
namespace Go.Proofs.YtpmfkmolbioomaaDoor
open Go.RowKit

/-- append of a slice that reads to an empty row that was just made. -/
theorem wp_append_copy {ops : Array Oper} {rest : List Oper} {o : Oper} {a : Act} {Q : Exit → Act → World → Prop} (hgd : o.guard = none) (s x : Operand)
    (ho : o.op = .call { callee := .builtin .append, args := #[s, x], argTypes := #[51, 51] }) (w : World) (r : Option Addr) (n t : Nat) (lr : List Nat)
    (hrd : Rd w r n t lr) (hn : n ≤ 500) (hs : a.eval s = .slice (some ⟨w.heap.size, 0, none⟩) 0 0) (hx : a.eval x = .slice r n t)
    (h : ∀ p c w', Hid (w'.ownsRow w.heap.size 3 1 (.slice p n c) n (ints lr)) → Hid (Below w.heap.size w w') → wpList Tryd.prog ops Q rest (a.put o.dst (.slice p n c)) w') :
    wpList Tryd.prog ops Q (o :: rest) a (w.alloc (.cells #[] 3)) := by
  obtain ⟨i0, hi, hz0, hz1, hz2⟩ := info_parts info_int
  have hown := World.ownsRow_lit (base := w.heap.size) (e := 3) (size := 1) w #[] 0 (Nat.le_refl _) (by simp only [maxLen]; omega) (by simp)
  have hb0 := (Below.refl w.heap.size w).alloc (Nat.le_refl _) (.cells #[] 3)
  cases r with
  | none =>
    have ht := hrd.nil rfl
    have hl : lr = [] := by
      rcases hrd.cells with h | ⟨b, off, h, _⟩
      · exact h
      · simp at h
    have hn0 : n = 0 := by rw [hrd.len, hl]; rfl
    subst hl; subst hn0; subst ht
    refine wpList_append_own_none hgd s x 51 ho w.heap.size 3 i0 1 Tryd.underlying51 hi _ 0 _ hs hown hx ?_
    exact h _ 0 _ (Lib.hid (by simpa [ints] using hown)) (Lib.hid hb0)
  | some ad =>
    refine wpList_append_own _ hgd s x 51 ho w.heap.size 3 i0 (.int .i64 0) 1 8 Tryd.underlying51 hi hz0 hz1 hz2 rfl (by decide) _ 0 _ hs hown ad n t (ints lr) hx ?_ ?_ ?_ ?_ ?_ ?_ ?_
    · rw [hrd.len]; simp [ints]
    · intro j u hj
      have hjl : j < lr.length := by
        have := (List.getElem?_eq_some_iff.1 hj).1
        simpa [ints] using this
      rcases hrd.cells with hc | ⟨b, off, hp, hlt, hc⟩
      · rw [hc] at hjl; simp at hjl
      · injection hp with hp
        subst hp
        have ea : Addr.add ⟨b, off, none⟩ j = ⟨b, off + j, none⟩ := by
          unfold Addr.add
          split
          · simp [*]
          · rfl
        rw [ea, World.cell?_alloc_past _ _ _ hlt, hc j hjl, ← hj]
        unfold ints
        rw [List.getElem?_map, List.getElem?_eq_getElem hjl, List.getD_eq_getElem?_getD, List.getElem?_eq_getElem hjl]
        rfl
    · intro u hu
      unfold ints at hu
      obtain ⟨y, _, rfl⟩ := List.mem_map.1 hu
      rfl
    · simp only [maxLen]; omega
    · omega
    · simp
    · intro v' w' hown' hg _
      rw [show (#[] : Array Value).toList = [] from rfl, List.nil_append, Nat.zero_add] at hown'
      obtain ⟨p, c, rfl⟩ : ∃ p c, v' = .slice p n c := by
        rcases hown'.2 with ⟨h0, h1⟩ | ⟨g, cap, cur, hv, _⟩
        · exact ⟨none, 0, by rw [h0, h1]⟩
        · exact ⟨_, _, hv⟩
      exact h p c w' (Lib.hid hown') (Lib.hid (hb0.grown hg (by simp) (fun j hj => (hown.lt j hj).1)))

theorem conv_one (W : World) (X : Int) (d : Nat) (hd : d < 10) (hX : X = 48 + (d : Int)) :
    (convert 55 9 (.slice (some ⟨W.heap.size, 0, none⟩) 1 1)).run Tryd.prog (W.alloc (.cells #[.int .u8 X] 5)) = .ok (.string ⟨#[ddig d]⟩) (W.alloc (.cells #[.int .u8 X] 5)) := by
  have hb : (ddig d).toNat = 48 + d := by
    unfold ddig
    rw [Nat.mod_eq_of_lt hd]
    simp
    omega
  have h := run_convert_bytes_back (P := Tryd.prog) (W.alloc (.cells #[.int .u8 X] 5)) 55 9 5 ⟨W.heap.size, 0, none⟩ 1 [ddig d] Tryd.underlying55 Tryd.underlying5 Tryd.underlying9 ?_
  · exact h
  · intro j hj
    have hj0 : j = 0 := by simpa using hj
    subst hj0
    simp only [Addr.add, List.getElem_cons_zero]
    rw [hb, hX]
    simp [go_sem]

theorem one_data (x : UInt8) (t : ByteArray) : (({ data := #[x] } : ByteArray) ++ t).data.toList = x :: t.data.toList := by
  rw [ByteArray.data_append]; simp
theorem one_size (x : UInt8) (t : ByteArray) : (({ data := #[x] } : ByteArray) ++ t).size = 1 + t.size := by
  rw [ByteArray.size_append]; rfl

theorem grow_next (l : List Nat) (i : Nat) (h : i < l.length) : growS 0 (l.take (i + 1)) [] = stepS i (l.getD i 0) (growS 0 (l.take i) []) := by
  rw [List.take_succ_eq_append_getElem h, growS_snoc, List.length_take, Nat.min_eq_left (by omega), Nat.zero_add]
  rw [List.getD_eq_getElem?_getD, List.getElem?_eq_getElem h]
  rfl

def padded (N : Nat) : List Nat := dg 20 N ++ List.replicate (7 - (dg 20 N).length) 0

def RShow (a : Int) (W : World) (e : Ending) (w' : World) : Prop := ∃ t : ByteArray, t.data.toList = (if a < 0 then 45 :: growS 0 (padded a.natAbs) [] else growS 0 (padded a.natAbs) []) ∧ e = .returned (.string t) ∧ Below W.heap.size W w'

set_option maxRecDepth 100000 in
set_option maxHeartbeats 1000000 in
theorem refShow_grow (a : Int) (w : World) (ha : Fits a) :
    Calls Tryd.prog 22 #[.int .i64 a] w (RShow a w) := by
  have HO := Lib.hid (fun w' => of_any a w' ha)
  go_enter Tryd.func22, Tryd.ntmps22
  go_wp2_with fail
  refine (HO.out _).mono ?_
  rintro e w1 ⟨p, n, c, rfl, hrd, hb⟩
  have HB := Lib.hid hb; clear hb
  have HR := Lib.hid hrd; clear hrd
  go_upto_region 2 with (fail)
  obtain ⟨m, hm⟩ : ∃ m, m = decide (a < 0) := ⟨_, rfl⟩
  rw [← hm]
  have HM := Lib.hid hm; clear hm
  obtain ⟨D, hD⟩ : ∃ D, D = dg 20 a.natAbs := ⟨_, rfl⟩
  rw [← hD] at HR
  have hD20 : D.length ≤ 20 := by rw [hD]; exact dg_len _ _
  have HD := Lib.hid hD; clear hD
  obtain ⟨B1, hB1⟩ : ∃ B1, B1 = w1.heap.size := ⟨_, rfl⟩
  have T2 := two_new w1 (.bool m) (.slice p n c) 53
  have b12 := (Below.refl w1.heap.size w1).alloc (Nat.le_refl _) (.cells #[.bool m, .slice p n c] 53)
  have R2 := Lib.hid (HR.out.below b12)
  have B2 := Lib.hid (Below.step HB.out b12); clear b12
  have z2 : (w1.alloc (.cells #[.bool m, .slice p n c] 53)).heap.size = B1 + 1 := by simp [hB1]
  rw [← hB1] at T2 ⊢
  generalize w1.alloc (.cells #[.bool m, .slice p n c] 53) = w2 at *
  have t0 := T2.c0; have t1 := T2.c1
  have HT2 := Lib.hid T2; clear T2
  have Z2 := Lib.hid z2; clear z2 hB1 HR HB
  have hn20 : n ≤ 20 := by have := R2.out.len; omega
  have t2 := (HT2.out.below ((Below.refl w2.heap.size w2).alloc (Nat.le_refl _) (.cells #[] 3)) (by rw [Z2.out]; omega)).c1
  go_wp2_with (at_builtin; refine wp_append_copy rfl _ _ rfl w2 p n c D R2.out (by omega) rfl rfl ?_; intro dp dc w3 hown hbel)
  have HT3 := Lib.hid (HT2.out.below hbel.out (by rw [Z2.out]; omega))
  have B3 := Lib.hid (Below.step B2.out hbel.out)
  clear t0 t1 t2
  go_loopw [5] (fun v wr => ∃ (l : List Nat) (j : Nat) (q : Option Addr) (k : Nat) (e : Nat), v = .slice q k e ∧ Hid (l = D ++ List.replicate j 0) ∧ Hid (wr.ownsRow w2.heap.size 3 1 (.slice q k e) k (ints l)) ∧ Hid (Below w2.heap.size w2 wr) ∧ Hid (k = D.length + j) ∧ (j ≤ 0 ∨ k ≤ 7)) (fun v _ => match v with | .slice _ k _ => 7 - k | _ => 0)
  case atStart => exact ⟨D, 0, dp, n, dc, rfl, Lib.hid (by simp), Lib.hid hown.out, hbel, Lib.hid (by rw [R2.out.len]; rfl), by omega⟩
  case round =>
    obtain ⟨l, j, q, k, e, rfl, hl, hown2, hbel2, hk, hj7⟩ := hrel
    by_cases hk7 : k < 7
    · have hz := Lib.hid (show (0 : Int) = ((0 : Nat) : Int) from rfl)
      go_wp2_with (at_builtin; refine wp_append_base rfl _ _ rfl w2.heap.size wr (.slice q k e) k l _ 0 rfl hown2.out rfl hz.out (by omega) hbel2.out.size ?_; intro vp vc w' hown3 hbel3)
      go_roundw
      case rel => exact ⟨l ++ [0], j + 1, vp, k + 1, vc, rfl, Lib.hid (by rw [hl.out, List.append_assoc, ← List.replicate_succ']), hown3, Lib.hid (hbel2.out.trans hbel3.out), Lib.hid (by rw [hk.out]; omega), by omega⟩
      case measure => simp; omega
    · have hlp : l = padded a.natAbs := by
        have h1 := hk.out
        have h2 := HD.out
        unfold padded
        rw [hl.out, ← h2]
        congr 2
        omega
      have hdl : Dl l := by rw [hl.out, HD.out]; exact (dg_dl _ _).append (Dl.zeros j)
      have hkl : k = l.length := by rw [hl.out, hk.out]; simp
      have RD := Lib.hid (own_slice hown2.out hkl hdl (by have := hk.out; omega))
      have hk20 : k ≤ 20 := by have := hk.out; omega
      have HLP := Lib.hid hlp; clear hlp
      have HKL := Lib.hid hkl; clear hkl
      have HDL := Lib.hid hdl; clear hdl
      have HB4 := Lib.hid (Below.step B2.out hbel2.out)
      have HT4 := Lib.hid (HT2.out.below hbel2.out (by rw [Z2.out]; omega))
      obtain ⟨w4, rfl⟩ : ∃ w4 : World, w4 = wr := ⟨_, rfl⟩
      go_wp2_with fail
      go_loopw [4, 6] (fun sv z wr => ∃ (t : ByteArray) (i : Nat), sv = .string t ∧ z = .int .i64 i ∧ i ≤ k ∧ t.size ≤ 2 * i ∧ Hid (t.data.toList = growS 0 (l.take i) []) ∧ Hid (Below w4.heap.size w4 wr)) (fun _ z _ => k - (intOf z).toNat)
      case atStart => exact ⟨⟨#[]⟩, 0, rfl, rfl, by omega, by simp [ByteArray.size], Lib.hid (by simp [growS]), Lib.hid (Below.refl _ _)⟩
      case round =>
        obtain ⟨t, i, rfl, rfl, hik, hts, htx, hbw⟩ := hrel
        by_cases hlt : i < k
        · have hrdw := Lib.hid (RD.out.below hbw.out)
          rcases hrdw.out.cells with hx | ⟨ba, off, rfl, hblt, hx⟩
          · exfalso
            have := HKL.out
            rw [hx] at this; simp at this; omega
          obtain ⟨d, hde⟩ : ∃ d, d = l.getD i 0 := ⟨_, rfl⟩
          have hcell := hx i (by have := HKL.out; omega)
          rw [← hde] at hcell
          have hd9 : d < 10 := by rw [hde]; exact HDL.out.getD i
          have HGN := Lib.hid (grow_next l i (by have := HKL.out; omega))
          rw [← hde] at HGN
          have HDE := Lib.hid hde; clear hde hx
          rcases (show i < 6 ∨ i = 6 ∨ 6 < i from by omega) with h6 | h6 | h6
          · have hb6 : ((i : Int) == 6) = false := by rw [beq_eq_false_iff_ne]; omega
            have hcv := conv_one wr (48 + (d : Int)) d hd9 rfl
            by_cases he : t.toList = []
            · have hs0 := Lib.hid (show growS 0 (l.take i) [] = [] from by rw [← htx.out, ← ByteArray.toList_eq]; exact he)
              by_cases hd0 : d = 0
              · subst hd0
                go_wp2_with fail
                refine ⟨⟨t, i + 1, rfl, by go_num, by omega, by omega, Lib.hid ?_, hbw⟩, by simp [intOf]; omega⟩
                rw [HGN.out, htx.out, hs0.out]
                simp [stepS, show ¬ 6 ≤ i from by omega, show ¬ i = 6 from by omega]
              · have hd1 : 0 < d := by omega
                go_wp2_with fail
                refine ⟨⟨_, i + 1, rfl, by go_num, by omega, by rw [one_size]; omega, Lib.hid ?_, Lib.hid (hbw.out.alloc hbw.out.size _)⟩, by simp [intOf]; omega⟩
                rw [one_data, HGN.out, htx.out, hs0.out]
                simp [stepS, show ¬ i = 6 from by omega, hd1]
            · have hs0 := Lib.hid (show growS 0 (l.take i) [] ≠ [] from by rw [← htx.out, ← ByteArray.toList_eq]; exact he)
              go_wp2_with fail
              refine ⟨⟨_, i + 1, rfl, by go_num, by omega, by rw [one_size]; omega, Lib.hid ?_, Lib.hid (hbw.out.alloc hbw.out.size _)⟩, by simp [intOf]; omega⟩
              rw [one_data, HGN.out, htx.out]
              have := hs0.out
              simp [stepS, show ¬ i = 6 from by omega, this]
          · subst h6
            have hcv := conv_one wr (48 + (d : Int)) d hd9 rfl
            by_cases he : t.toList = []
            · have hs0 := Lib.hid (show growS 0 (l.take 6) [] = [] from by rw [← htx.out, ← ByteArray.toList_eq]; exact he)
              go_wp2_with fail
              refine ⟨⟨_, 6 + 1, rfl, by go_num, by omega, by rw [one_size]; omega, Lib.hid ?_, Lib.hid (hbw.out.alloc hbw.out.size _)⟩, by simp [intOf]; omega⟩
              rw [one_data, HGN.out, htx.out, hs0.out]
              simp [stepS]
            · have hs0 := Lib.hid (show growS 0 (l.take 6) [] ≠ [] from by rw [← htx.out, ← ByteArray.toList_eq]; exact he)
              have hne : (!t.toList.isEmpty) = true := by simp [he]
              go_wp2_with fail
              refine ⟨⟨_, 6 + 1, rfl, by go_num, by omega, by rw [one_size, one_size]; omega, Lib.hid ?_, Lib.hid (hbw.out.alloc hbw.out.size _)⟩, by simp [intOf]; omega⟩
              rw [one_data, one_data, HGN.out, htx.out]
              have := hs0.out
              simp [stepS, this]
          · have hb6 : ((i : Int) == 6) = false := by rw [beq_eq_false_iff_ne]; omega
            have hcv := conv_one wr (48 + (d : Int)) d hd9 rfl
            go_wp2_with fail
            refine ⟨⟨_, i + 1, rfl, by go_num, by omega, by rw [one_size]; omega, Lib.hid ?_, Lib.hid (hbw.out.alloc hbw.out.size _)⟩, by simp [intOf]; omega⟩
            rw [one_data, HGN.out, htx.out]
            simp [stepS, show 6 ≤ i from by omega, show ¬ i = 6 from by omega]
        · obtain rfl : i = k := by omega
          have T5 := HT4.out.below hbw.out (by have := Z2.out; have := hbel2.out.size; omega)
          have t0 := T5.c0
          have BF := Lib.hid (Below.step HB4.out hbw.out)
          have hfin := htx.out
          rw [List.take_of_length_le (by have := HKL.out; omega), HLP.out] at hfin
          have HFI := Lib.hid hfin; clear hfin T5
          cases m
          · have hneg : ¬ a < 0 := by have := HM.out; simp at this; omega
            have HNG := Lib.hid hneg; clear hneg
            go_wp2_with fail
            go_ret
            exact ⟨_, by rw [if_neg (by have := HNG.out; omega)]; exact HFI.out, rfl, BF.out⟩
          · have hneg : a < 0 := by have := HM.out; simpa using this.symm
            have HNG := Lib.hid hneg; clear hneg
            go_wp2_with fail
            go_ret
            exact ⟨_, by rw [if_pos HNG.out, one_data, HFI.out], rfl, BF.out⟩
end Go.Proofs.YtpmfkmolbioomaaDoor
