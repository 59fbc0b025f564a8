/- Merged by program: T3RefM, T3RefN, T3RefShow, T3RefP. -/
import Derived.Test.YtbbhcbpfffabpaaGreatDoorGal
import Derived.Test.YtbbhcbpfffabpaaGreatDoorGai
/- Contract of the document's Show. -/
namespace Go.Proofs.YtbbhcbpfffabpaaGreatDoor.T3
open Go.Proofs.YtbbhcbpfffabpaaGreatDoor Go.Proofs
open Go.RowKit

set_option maxRecDepth 100000 in
/-- append of a slice that reads to an empty row that was just made. -/
theorem wp_append_copy {ops : Array Oper} {rest : List Oper} {o : Oper} {a : Act} {Q : Exit → Act → World → Prop} (hgd : o.guard = none) (s x : Operand)
    (ho : o.op = .call { callee := .builtin .append, args := #[s, x], argTypes := #[60, 60] }) (w : World) (r : Option Addr) (n t : Nat) (lr : List Nat)
    (hrd : Rd w r n t lr) (hn : n ≤ 500) (hs : a.eval s = .slice (some ⟨w.heap.size, 0, none⟩) 0 0) (hx : a.eval x = .slice r n t)
    (h : ∀ p c w', Hid (w'.ownsRow w.heap.size 3 1 (.slice p n c) n (ints lr)) → Hid (Below w.heap.size w w') → wpList Tryz.prog ops Q rest (a.put o.dst (.slice p n c)) w') :
    wpList Tryz.prog ops Q (o :: rest) a (w.alloc (.cells #[] 3)) := by
  obtain ⟨i0, hi, hz0, hz1, hz2⟩ := info_parts info_int
  have hown := World.ownsRow_lit (base := w.heap.size) (e := 3) (size := 1) w #[] 0 (Nat.le_refl _) (by simp only [maxLen]; omega) (by simp)
  have hb0 := (Below.refl w.heap.size w).alloc (Nat.le_refl _) (.cells #[] 3)
  cases r with
  | none =>
    have ht := hrd.nil rfl
    have hl : lr = [] := by
      rcases hrd.cells with h | ⟨b, off, h, _⟩
      · exact h
      · simp at h
    have hn0 : n = 0 := by rw [hrd.len, hl]; rfl
    subst hl; subst hn0; subst ht
    refine wpList_append_own_none hgd s x 60 ho w.heap.size 3 i0 1 Tryz.underlying60 hi _ 0 _ hs hown hx ?_
    exact h _ 0 _ (Lib.hid (by simpa [ints] using hown)) (Lib.hid hb0)
  | some ad =>
    refine wpList_append_own _ hgd s x 60 ho w.heap.size 3 i0 (.int .i64 0) 1 8 Tryz.underlying60 hi hz0 hz1 hz2 rfl (by decide) _ 0 _ hs hown ad n t (ints lr) hx ?_ ?_ ?_ ?_ ?_ ?_ ?_
    · rw [hrd.len]; simp [ints]
    · intro j u hj
      have hjl : j < lr.length := by
        have := (List.getElem?_eq_some_iff.1 hj).1
        simpa [ints] using this
      rcases hrd.cells with hc | ⟨b, off, hp, hlt, hc⟩
      · rw [hc] at hjl; simp at hjl
      · injection hp with hp
        subst hp
        have ea : Addr.add ⟨b, off, none⟩ j = ⟨b, off + j, none⟩ := by
          unfold Addr.add
          split
          · simp [*]
          · rfl
        rw [ea, World.cell?_alloc_past _ _ _ hlt, hc j hjl, ← hj]
        unfold ints
        rw [List.getElem?_map, List.getElem?_eq_getElem hjl, List.getD_eq_getElem?_getD, List.getElem?_eq_getElem hjl]
        rfl
    · intro u hu
      unfold ints at hu
      obtain ⟨y, _, rfl⟩ := List.mem_map.1 hu
      rfl
    · simp only [maxLen]; omega
    · omega
    · simp
    · intro v' w' hown' hg _
      rw [show (#[] : Array Value).toList = [] from rfl, List.nil_append, Nat.zero_add] at hown'
      obtain ⟨p, c, rfl⟩ : ∃ p c, v' = .slice p n c := by
        rcases hown'.2 with ⟨h0, h1⟩ | ⟨g, cap, cur, hv, _⟩
        · exact ⟨none, 0, by rw [h0, h1]⟩
        · exact ⟨_, _, hv⟩
      exact h p c w' (Lib.hid hown') (Lib.hid (hb0.grown hg (by simp) (fun j hj => (hown.lt j hj).1)))

theorem conv_one (W : World) (X : Int) (d : Nat) (hd : d < 10) (hX : X = 48 + (d : Int)) :
    (convert 66 9 (.slice (some ⟨W.heap.size, 0, none⟩) 1 1)).run Tryz.prog (W.alloc (.cells #[.int .u8 X] 5)) = .ok (.string ⟨#[ddig d]⟩) (W.alloc (.cells #[.int .u8 X] 5)) := by
  have hb : (ddig d).toNat = 48 + d := by
    unfold ddig
    rw [Nat.mod_eq_of_lt hd]
    simp
    omega
  have h := run_convert_bytes_back (P := Tryz.prog) (W.alloc (.cells #[.int .u8 X] 5)) 66 9 5 ⟨W.heap.size, 0, none⟩ 1 [ddig d] Tryz.underlying66 Tryz.underlying5 Tryz.underlying9 ?_
  · exact h
  · intro j hj
    have hj0 : j = 0 := by simpa using hj
    subst hj0
    simp only [Addr.add, List.getElem_cons_zero]
    rw [hb, hX]
    simp [go_sem]

theorem one_data (x : UInt8) (t : ByteArray) : (({ data := #[x] } : ByteArray) ++ t).data.toList = x :: t.data.toList := by
  rw [ByteArray.data_append]; simp
theorem one_size (x : UInt8) (t : ByteArray) : (({ data := #[x] } : ByteArray) ++ t).size = 1 + t.size := by
  rw [ByteArray.size_append]; rfl

theorem grow_next (l : List Nat) (i : Nat) (h : i < l.length) : growS 0 (l.take (i + 1)) [] = stepS i (l.getD i 0) (growS 0 (l.take i) []) := by
  rw [List.take_succ_eq_append_getElem h, growS_snoc, List.length_take, Nat.min_eq_left (by omega), Nat.zero_add]
  rw [List.getD_eq_getElem?_getD, List.getElem?_eq_getElem h]
  rfl

def padded (N : Nat) : List Nat := dg 20 N ++ List.replicate (7 - (dg 20 N).length) 0

def RShow (a : Int) (W : World) (e : Ending) (w' : World) : Prop := ∃ t : ByteArray, t.data.toList = (if a < 0 then 45 :: growS 0 (padded a.natAbs) [] else growS 0 (padded a.natAbs) []) ∧ e = .returned (.string t) ∧ Below W.heap.size W w'

set_option maxRecDepth 100000 in
set_option maxHeartbeats 1000000 in
theorem refShow_grow (a : Int) (w : World) (ha : Fits a) :
    Calls Tryz.prog 48 #[.int .i64 a] w (RShow a w) := by
  have HO := Lib.hid (fun w' => of_any a w' ha)
  go_enter Tryz.func48, Tryz.ntmps48
  go_wp2_with fail
  refine (HO.out _).mono ?_
  rintro e w1 ⟨p, n, c, rfl, hrd, hb⟩
  have HB := Lib.hid hb; clear hb
  have HR := Lib.hid hrd; clear hrd
  go_upto_region 2 with (fail)
  obtain ⟨m, hm⟩ : ∃ m, m = decide (a < 0) := ⟨_, rfl⟩
  rw [← hm]
  have HM := Lib.hid hm; clear hm
  obtain ⟨D, hD⟩ : ∃ D, D = dg 20 a.natAbs := ⟨_, rfl⟩
  rw [← hD] at HR
  have hD20 : D.length ≤ 20 := by rw [hD]; exact dg_len _ _
  have HD := Lib.hid hD; clear hD
  obtain ⟨B1, hB1⟩ : ∃ B1, B1 = w1.heap.size := ⟨_, rfl⟩
  have T2 := two_new w1 (.bool m) (.slice p n c) 62
  have b12 := (Below.refl w1.heap.size w1).alloc (Nat.le_refl _) (.cells #[.bool m, .slice p n c] 62)
  have R2 := Lib.hid (HR.out.below b12)
  have B2 := Lib.hid (Below.step HB.out b12); clear b12
  have z2 : (w1.alloc (.cells #[.bool m, .slice p n c] 62)).heap.size = B1 + 1 := by simp [hB1]
  rw [← hB1] at T2 ⊢
  generalize w1.alloc (.cells #[.bool m, .slice p n c] 62) = w2 at *
  have t0 := T2.c0; have t1 := T2.c1
  have HT2 := Lib.hid T2; clear T2
  have Z2 := Lib.hid z2; clear z2 hB1 HR HB
  have hn20 : n ≤ 20 := by have := R2.out.len; omega
  have t2 := (HT2.out.below ((Below.refl w2.heap.size w2).alloc (Nat.le_refl _) (.cells #[] 3)) (by rw [Z2.out]; omega)).c1
  go_wp2_with (at_builtin; refine wp_append_copy rfl _ _ rfl w2 p n c D R2.out (by omega) rfl rfl ?_; intro dp dc w3 hown hbel)
  have HT3 := Lib.hid (HT2.out.below hbel.out (by rw [Z2.out]; omega))
  have B3 := Lib.hid (Below.step B2.out hbel.out)
  clear t0 t1 t2
  go_loopw [5] (fun v wr => ∃ (l : List Nat) (j : Nat) (q : Option Addr) (k : Nat) (e : Nat), v = .slice q k e ∧ Hid (l = D ++ List.replicate j 0) ∧ Hid (wr.ownsRow w2.heap.size 3 1 (.slice q k e) k (ints l)) ∧ Hid (Below w2.heap.size w2 wr) ∧ Hid (k = D.length + j) ∧ (j ≤ 0 ∨ k ≤ 7)) (fun v _ => match v with | .slice _ k _ => 7 - k | _ => 0)
  case atStart => exact ⟨D, 0, dp, n, dc, rfl, Lib.hid (by simp), Lib.hid hown.out, hbel, Lib.hid (by rw [R2.out.len]; rfl), by omega⟩
  case round =>
    obtain ⟨l, j, q, k, e, rfl, hl, hown2, hbel2, hk, hj7⟩ := hrel
    by_cases hk7 : k < 7
    · have hz := Lib.hid (show (0 : Int) = ((0 : Nat) : Int) from rfl)
      go_wp2_with (at_builtin; refine wp_append_base rfl _ _ rfl w2.heap.size wr (.slice q k e) k l _ 0 rfl hown2.out rfl hz.out (by omega) hbel2.out.size ?_; intro vp vc w' hown3 hbel3)
      go_roundw
      case rel => exact ⟨l ++ [0], j + 1, vp, k + 1, vc, rfl, Lib.hid (by rw [hl.out, List.append_assoc, ← List.replicate_succ']), hown3, Lib.hid (hbel2.out.trans hbel3.out), Lib.hid (by rw [hk.out]; omega), by omega⟩
      case measure => simp; omega
    · have hlp : l = padded a.natAbs := by
        have h1 := hk.out
        have h2 := HD.out
        unfold padded
        rw [hl.out, ← h2]
        congr 2
        omega
      have hdl : Dl l := by rw [hl.out, HD.out]; exact (dg_dl _ _).append (Dl.zeros j)
      have hkl : k = l.length := by rw [hl.out, hk.out]; simp
      have RD := Lib.hid (own_slice hown2.out hkl hdl (by have := hk.out; omega))
      have hk20 : k ≤ 20 := by have := hk.out; omega
      have HLP := Lib.hid hlp; clear hlp
      have HKL := Lib.hid hkl; clear hkl
      have HDL := Lib.hid hdl; clear hdl
      have HB4 := Lib.hid (Below.step B2.out hbel2.out)
      have HT4 := Lib.hid (HT2.out.below hbel2.out (by rw [Z2.out]; omega))
      obtain ⟨w4, rfl⟩ : ∃ w4 : World, w4 = wr := ⟨_, rfl⟩
      go_wp2_with fail
      go_loopw [4, 6] (fun sv z wr => ∃ (t : ByteArray) (i : Nat), sv = .string t ∧ z = .int .i64 i ∧ i ≤ k ∧ t.size ≤ 2 * i ∧ Hid (t.data.toList = growS 0 (l.take i) []) ∧ Hid (Below w4.heap.size w4 wr)) (fun _ z _ => k - (intOf z).toNat)
      case atStart => exact ⟨⟨#[]⟩, 0, rfl, rfl, by omega, by simp [ByteArray.size], Lib.hid (by simp [growS]), Lib.hid (Below.refl _ _)⟩
      case round =>
        obtain ⟨t, i, rfl, rfl, hik, hts, htx, hbw⟩ := hrel
        by_cases hlt : i < k
        · have hrdw := Lib.hid (RD.out.below hbw.out)
          rcases hrdw.out.cells with hx | ⟨ba, off, rfl, hblt, hx⟩
          · exfalso
            have := HKL.out
            rw [hx] at this; simp at this; omega
          obtain ⟨d, hde⟩ : ∃ d, d = l.getD i 0 := ⟨_, rfl⟩
          have hcell := hx i (by have := HKL.out; omega)
          rw [← hde] at hcell
          have hd9 : d < 10 := by rw [hde]; exact HDL.out.getD i
          have HGN := Lib.hid (grow_next l i (by have := HKL.out; omega))
          rw [← hde] at HGN
          have HDE := Lib.hid hde; clear hde hx
          rcases (show i < 6 ∨ i = 6 ∨ 6 < i from by omega) with h6 | h6 | h6
          · have hb6 : ((i : Int) == 6) = false := by rw [beq_eq_false_iff_ne]; omega
            have hcv := conv_one wr (48 + (d : Int)) d hd9 rfl
            by_cases he : t.toList = []
            · have hs0 := Lib.hid (show growS 0 (l.take i) [] = [] from by rw [← htx.out, ← ByteArray.toList_eq]; exact he)
              by_cases hd0 : d = 0
              · subst hd0
                go_wp2_with fail
                refine ⟨⟨t, i + 1, rfl, by go_num, by omega, by omega, Lib.hid ?_, hbw⟩, by simp [intOf]; omega⟩
                rw [HGN.out, htx.out, hs0.out]
                simp [stepS, show ¬ 6 ≤ i from by omega, show ¬ i = 6 from by omega]
              · have hd1 : 0 < d := by omega
                go_wp2_with fail
                refine ⟨⟨_, i + 1, rfl, by go_num, by omega, by rw [one_size]; omega, Lib.hid ?_, Lib.hid (hbw.out.alloc hbw.out.size _)⟩, by simp [intOf]; omega⟩
                rw [one_data, HGN.out, htx.out, hs0.out]
                simp [stepS, show ¬ i = 6 from by omega, hd1]
            · have hs0 := Lib.hid (show growS 0 (l.take i) [] ≠ [] from by rw [← htx.out, ← ByteArray.toList_eq]; exact he)
              go_wp2_with fail
              refine ⟨⟨_, i + 1, rfl, by go_num, by omega, by rw [one_size]; omega, Lib.hid ?_, Lib.hid (hbw.out.alloc hbw.out.size _)⟩, by simp [intOf]; omega⟩
              rw [one_data, HGN.out, htx.out]
              have := hs0.out
              simp [stepS, show ¬ i = 6 from by omega, this]
          · subst h6
            have hcv := conv_one wr (48 + (d : Int)) d hd9 rfl
            by_cases he : t.toList = []
            · have hs0 := Lib.hid (show growS 0 (l.take 6) [] = [] from by rw [← htx.out, ← ByteArray.toList_eq]; exact he)
              go_wp2_with fail
              refine ⟨⟨_, 6 + 1, rfl, by go_num, by omega, by rw [one_size]; omega, Lib.hid ?_, Lib.hid (hbw.out.alloc hbw.out.size _)⟩, by simp [intOf]; omega⟩
              rw [one_data, HGN.out, htx.out, hs0.out]
              simp [stepS]
            · have hs0 := Lib.hid (show growS 0 (l.take 6) [] ≠ [] from by rw [← htx.out, ← ByteArray.toList_eq]; exact he)
              have hne : (!t.toList.isEmpty) = true := by simp [he]
              go_wp2_with fail
              refine ⟨⟨_, 6 + 1, rfl, by go_num, by omega, by rw [one_size, one_size]; omega, Lib.hid ?_, Lib.hid (hbw.out.alloc hbw.out.size _)⟩, by simp [intOf]; omega⟩
              rw [one_data, one_data, HGN.out, htx.out]
              have := hs0.out
              simp [stepS, this]
          · have hb6 : ((i : Int) == 6) = false := by rw [beq_eq_false_iff_ne]; omega
            have hcv := conv_one wr (48 + (d : Int)) d hd9 rfl
            go_wp2_with fail
            refine ⟨⟨_, i + 1, rfl, by go_num, by omega, by rw [one_size]; omega, Lib.hid ?_, Lib.hid (hbw.out.alloc hbw.out.size _)⟩, by simp [intOf]; omega⟩
            rw [one_data, HGN.out, htx.out]
            simp [stepS, show 6 ≤ i from by omega, show ¬ i = 6 from by omega]
        · obtain rfl : i = k := by omega
          have T5 := HT4.out.below hbw.out (by have := Z2.out; have := hbel2.out.size; omega)
          have t0 := T5.c0
          have BF := Lib.hid (Below.step HB4.out hbw.out)
          have hfin := htx.out
          rw [List.take_of_length_le (by have := HKL.out; omega), HLP.out] at hfin
          have HFI := Lib.hid hfin; clear hfin T5
          cases m
          · have hneg : ¬ a < 0 := by have := HM.out; simp at this; omega
            have HNG := Lib.hid hneg; clear hneg
            go_wp2_with fail
            go_ret
            exact ⟨_, by rw [if_neg (by have := HNG.out; omega)]; exact HFI.out, rfl, BF.out⟩
          · have hneg : a < 0 := by have := HM.out; simpa using this.symm
            have HNG := Lib.hid hneg; clear hneg
            go_wp2_with fail
            go_ret
            exact ⟨_, by rw [if_pos HNG.out, one_data, HFI.out], rfl, BF.out⟩
end Go.Proofs.YtbbhcbpfffabpaaGreatDoor.T3

/- The document's text of a number is dec's: plain mathematics. -/
namespace Go.Proofs.YtbbhcbpfffabpaaGreatDoor.T3
open Go.Proofs.YtbbhcbpfffabpaaGreatDoor Go.Proofs
open Go.RowKit

theorem dg_getD : ∀ (j n k : Nat), n < 10 ^ j → (dg j n).getD k 0 = n / 10 ^ k % 10
  | 0, n, k, h => by
    simp at h; subst h; simp [dg]
  | j + 1, n, k, h => by
    unfold dg
    split
    · rename_i h0; subst h0; simp
    · cases k with
      | zero => simp
      | succ k =>
        rw [Nat.pow_succ] at h
        have := dg_getD j (n / 10) k (by omega)
        rw [List.getD_cons_succ, this, Nat.div_div_eq_div_mul, ← Nat.pow_succ']

theorem dg_drop : ∀ (k j n : Nat), (dg (j + k) n).drop k = dg j (n / 10 ^ k)
  | 0, j, n => by simp
  | k + 1, j, n => by
    rw [show j + (k + 1) = j + k + 1 from rfl]
    rw [show dg (j + k + 1) n = if n = 0 then [] else n % 10 :: dg (j + k) (n / 10) from rfl]
    split
    · rename_i h0; subst h0; rw [Nat.zero_div, dg_zero]; simp
    · rw [List.drop_succ_cons, dg_drop k j (n / 10), Nat.div_div_eq_div_mul, ← Nat.pow_succ']

theorem dg_more : ∀ (k n : Nat), n < 10 ^ k → dg (k + 1) n = dg k n
  | 0, n, h => by simp at h; subst h; simp [dg]
  | k + 1, n, h => by
    rw [Nat.pow_succ] at h
    rw [dg, show dg (k + 1) n = if n = 0 then [] else n % 10 :: dg k (n / 10) from rfl, dg_more k (n / 10) (by omega)]

theorem decZ_dg : ∀ (k n : Nat), decZ k n = ((dg k n).map ddig).reverse
  | 0, n => by simp [decZ, dg]
  | k + 1, n => by
    unfold decZ dg
    split
    · simp
    · rw [decZ_dg k (n / 10)]; simp [ddig_mod]

theorem padded_getD (N k : Nat) (h : N < 10 ^ 20) : (padded N).getD k 0 = N / 10 ^ k % 10 := by
  have h1 := dg_getD 20 N k h
  unfold padded
  rw [← h1]
  simp only [List.getD_eq_getElem?_getD]
  rcases Nat.lt_or_ge k (dg 20 N).length with h2 | h2
  · rw [List.getElem?_append_left h2]
  · rw [List.getElem?_append_right h2, List.getElem?_eq_none h2, List.getElem?_replicate]
    split <;> rfl

theorem padded_len (N : Nat) : 7 ≤ (padded N).length := by
  unfold padded; simp; omega

theorem padded_drop (N : Nat) : (padded N).drop 7 = dg 13 (N / 10 ^ 7) := by
  have h := dg_drop 7 13 N
  rw [← h]
  unfold padded
  rw [List.drop_append]
  rcases Nat.lt_or_ge (dg 20 N).length 7 with h2 | h2
  · rw [List.drop_of_length_le (by omega)]; simp
  · rw [show 7 - (dg 20 N).length = 0 from by omega]; simp

theorem grow_frac (N : Nat) (h : N < 10 ^ 20) : ∀ k, k ≤ 6 → growS 0 ((padded N).take k) [] = stripZ k (N % 10 ^ k)
  | 0, _ => by simp [growS, stripZ, Nat.mod_one]
  | k + 1, hk => by
    have hl := padded_len N
    rw [grow_next _ _ (by omega), grow_frac N h k (by omega), padded_getD N k h]
    have hp : N % 10 ^ (k + 1) < 10 ^ (k + 1) := Nat.mod_lt _ (Nat.pow_pos (by decide))
    rw [stripZ_top k _ hp]
    have e1 : N % 10 ^ (k + 1) % 10 ^ k = N % 10 ^ k := by
      rw [Nat.pow_succ, Nat.mod_mul_right_mod]
    have e2 : N % 10 ^ (k + 1) / 10 ^ k = N / 10 ^ k % 10 := by
      rw [Nat.pow_succ, Nat.mod_mul_right_div_self]
    rw [e1, e2]
    generalize N / 10 ^ k % 10 = d
    generalize stripZ k (N % 10 ^ k) = s
    unfold stepS
    simp only [show ¬ k = 6 from by omega, show ¬ 6 ≤ k from by omega, false_and, if_false, false_or]
    split
    · rfl
    · rename_i hn
      simp at hn
      exact hn.1

theorem grow_high : ∀ (l : List Nat) (i : Nat) (s : List UInt8), 6 < i → growS i l s = (l.map ddig).reverse ++ s
  | [], i, s, _ => by simp [growS]
  | d :: l, i, s, h => by
    rw [growS, grow_high l (i + 1) _ (by omega)]
    unfold stepS
    simp [show ¬ i = 6 from by omega, show 6 ≤ i from by omega]

theorem grow_plain (N : Nat) (h : N ≤ 9223372036854775808) : growS 0 (padded N) [] = showPlain N := by
  have h20 : N < 10 ^ 20 := by omega
  have hl := padded_len N
  have hg7 : growS 0 ((padded N).take 7) [] = ddig (N / 1000000) :: showFrac (N % 1000000) := by
    rw [grow_next _ 6 (by omega), grow_frac N h20 6 (by omega), padded_getD N 6 h20]
    rw [show (10 : Nat) ^ 6 = 1000000 from rfl]
    have hp : N % 1000000 < 10 ^ 6 := by have := Nat.mod_lt N (show 0 < 1000000 by decide); simpa using this
    have e : ddig (N / 1000000 % 10) = ddig (N / 1000000) := ddig_mod _
    unfold stepS showFrac
    by_cases h0 : N % 1000000 = 0
    · simp [h0, stripZ, e]
    · have hne := stripZ_ne h0 hp
      rw [if_neg h0]
      have e2 : stripZ 6 (N % 1000000) = strip 6 (N % 1000000) := by unfold stripZ; rw [if_neg h0]
      rw [e2] at hne ⊢
      simp [hne, e]
  have hs := growS_append ((padded N).take 7) ((padded N).drop 7) 0 []
  rw [List.take_append_drop] at hs
  rw [hs, hg7, List.length_take, Nat.min_eq_left hl, grow_high _ _ _ (by omega), padded_drop]
  unfold showPlain
  have h12 : N / 10 ^ 7 < 10 ^ 12 := by
    rw [Nat.div_lt_iff_lt_mul (by decide)]
    omega
  rw [dg_more 12 _ h12, decZ_dg, Nat.div_div_eq_div_mul]
  simp
end Go.Proofs.YtbbhcbpfffabpaaGreatDoor.T3

/- The document's text of a number is dec's; its length. -/
namespace Go.Proofs.YtbbhcbpfffabpaaGreatDoor.T3
open Go.Proofs.YtbbhcbpfffabpaaGreatDoor Go.Proofs
open Go.RowKit
theorem decZ_len : ∀ k n, (decZ k n).length ≤ k
  | 0, _ => by simp [decZ]
  | k + 1, n => by
    unfold decZ
    split
    · simp
    · have := decZ_len k (n / 10); simp; omega
theorem showText_len (a : Int) : (showText a).length ≤ 21 := by
  have h : ∀ n, (showPlain n).length ≤ 20 := by
    intro n
    have h1 := decZ_len 12 (n / 1000000 / 10)
    have h2 := frac_len (n % 1000000)
    unfold showPlain
    simp only [List.length_append, List.length_singleton]
    omega
  have := h a.natAbs
  unfold showText
  split <;> simp <;> omega

theorem refShow_any (a : Int) (w : World) (ha : Fits a) :
    Calls Tryz.prog 48 #[.int .i64 a] w (ShowPost a w) :=
  (refShow_grow a w ha).mono fun e w' ⟨t, ht, he, hb⟩ => ⟨t, by
    rw [ht, grow_plain _ (by unfold Fits at ha; omega)]
    rfl, he, hb⟩

theorem clean_nil : Clean [] := ⟨fun c h => by simp at h⟩

theorem bytes_eq {t u : ByteArray} (h : t.data.toList = u.data.toList) : t = u := by
  apply ByteArray.ext
  exact Array.toList_inj.1 h

end Go.Proofs.YtbbhcbpfffabpaaGreatDoor.T3

/- Contract of the document's Parse: what it reads, byte by byte. -/
namespace Go.Proofs.YtbbhcbpfffabpaaGreatDoor.T3
open Go.Proofs.YtbbhcbpfffabpaaGreatDoor Go.Proofs
open Go.RowKit

def dn (c : UInt8) : Nat := c.toNat - 48
/-- The digits of a text, the lowest first. -/
def low (l : List UInt8) : List Nat := (l.map dn).reverse

theorem low_snoc (l : List UInt8) (c : UInt8) : low (l ++ [c]) = dn c :: low l := by simp [low]
theorem low_len (l : List UInt8) : (low l).length = l.length := by simp [low]
theorem val_low (l : List UInt8) : val (low l) = dval l := by
  have h : ∀ n (l : List UInt8), l.length = n → val (low l) = dval l := by
    intro n
    induction n with
    | zero => intro l hl; rw [List.length_eq_zero_iff.1 hl]; rfl
    | succ n ih =>
      intro l hl
      have hne : l ≠ [] := by intro e; rw [e] at hl; simp at hl
      have e := List.dropLast_concat_getLast hne
      rw [← e, low_snoc, dval_snoc, val, ih _ (by simp [hl])]
      unfold dn
      omega
  exact h _ l rfl
theorem low_dl (l : List UInt8) (h : ∀ c ∈ l, isDig c = true) : Dl (low l) := by
  intro d hd
  unfold low at hd
  rw [List.mem_reverse, List.mem_map] at hd
  obtain ⟨c, hc, rfl⟩ := hd
  have := isDig_yes (h c hc)
  unfold dn
  omega

set_option maxHeartbeats 400000 in
theorem num_any (c : UInt8) (w : World) :
    Calls Tryz.prog 82 #[.int .u8 (c.toNat : Int)] w fun e w' => e = .returned (.bool (isDig c)) ∧ w = w' := by
  have hc : c.toNat < 256 := c.toNat_lt
  have h : isDig c = (decide (48 ≤ c.toNat) && decide (c.toNat ≤ 57)) := rfl
  rw [h]; clear h
  generalize c.toNat = n at *
  rcases (show n < 48 ∨ (48 ≤ n ∧ n ≤ 57) ∨ (48 ≤ n ∧ 57 < n) from by omega) with h | ⟨h, h'⟩ | ⟨h, h'⟩
  · rw [show (decide (48 ≤ n) && decide (n ≤ 57)) = false from by simp; omega]
    have g : decide ((48 : Int) ≤ (n : Int)) = false := by simp; omega
    go_enter Tryz.func82, Tryz.ntmps82
    go_wp2
    go_ret
    exact ⟨rfl, rfl⟩
  · rw [show (decide (48 ≤ n) && decide (n ≤ 57)) = true from by simp; omega]
    have g : decide ((48 : Int) ≤ (n : Int)) = true := by simp; omega
    have g' : decide ((n : Int) ≤ 57) = true := by simp; omega
    go_enter Tryz.func82, Tryz.ntmps82
    go_wp2
    go_ret
    exact ⟨rfl, rfl⟩
  · rw [show (decide (48 ≤ n) && decide (n ≤ 57)) = false from by simp; omega]
    have g : decide ((48 : Int) ≤ (n : Int)) = true := by simp; omega
    have g' : decide ((n : Int) ≤ 57) = false := by simp; omega
    go_enter Tryz.func82, Tryz.ntmps82
    go_wp2
    go_ret
    exact ⟨rfl, rfl⟩

theorem blank_cases (c : UInt8) : (isBl c = true ∧ (((c.toNat : Int) == 32) = true ∨ (((c.toNat : Int) == 32) = false ∧ ((c.toNat : Int) == 9) = true) ∨ (((c.toNat : Int) == 32) = false ∧ ((c.toNat : Int) == 9) = false ∧ ((c.toNat : Int) == 10) = true))) ∨
    (isBl c = false ∧ ((c.toNat : Int) == 32) = false ∧ ((c.toNat : Int) == 9) = false ∧ ((c.toNat : Int) == 10) = false) := by
  unfold isBl
  by_cases h1 : c.toNat = 32
  · rw [h1]; decide
  by_cases h2 : c.toNat = 9
  · rw [h2]; decide
  by_cases h3 : c.toNat = 10
  · rw [h3]; decide
  refine Or.inr ⟨by simp [h1, h2, h3], ?_, ?_, ?_⟩ <;> (rw [beq_eq_false_iff_ne]; omega)
theorem sign_cases (s : ByteArray) (D : Nat) : (∃ h : D < s.size, ((s[D].toNat : Int) == 45) = true ∧ signOf (s.data.toList.drop D) = (true, 1)) ∨
    (∃ h : D < s.size, ((s[D].toNat : Int) == 45) = false ∧ ((s[D].toNat : Int) == 43) = true ∧ signOf (s.data.toList.drop D) = (false, 1)) ∨
    (∃ h : D < s.size, ((s[D].toNat : Int) == 45) = false ∧ ((s[D].toNat : Int) == 43) = false ∧ signOf (s.data.toList.drop D) = (false, 0)) ∨ (¬ D < s.size ∧ signOf (s.data.toList.drop D) = (false, 0)) := by
  rw [signOf_drop]
  by_cases h : D < s.size
  · rw [at_some s D h]
    by_cases h45 : s[D].toNat = 45
    · exact Or.inl ⟨h, by rw [h45]; rfl, by rw [if_pos (toNat_eq rfl h45)]⟩
    by_cases h43 : s[D].toNat = 43
    · exact Or.inr (Or.inl ⟨h, by rw [beq_eq_false_iff_ne]; omega, by rw [h43]; rfl, by rw [if_neg (toNat_ne rfl h45), if_pos (toNat_eq rfl h43)]⟩)
    · exact Or.inr (Or.inr (Or.inl ⟨h, by rw [beq_eq_false_iff_ne]; omega, by rw [beq_eq_false_iff_ne]; omega, by rw [if_neg (toNat_ne rfl h45), if_neg (toNat_ne rfl h43)]⟩))
  · rw [at_none s D h]
    exact Or.inr (Or.inr (Or.inr ⟨h, rfl⟩))

/-- The bytes of a run of digits that begins at B. -/
theorem run_at (s : ByteArray) (B : Nat) (W : List UInt8) (hW : W = (s.data.toList.drop B).takeWhile isDig) : ∀ j, ∀ hj : j < W.length, ∃ h : B + j < s.size, isDig s[B + j] = true ∧ W[j] = s[B + j] := by
  intro j hj
  have h1 := tw_le (p := isDig) (s.data.toList.drop B)
  rw [← hW] at h1
  have hlen : (s.data.toList.drop B).length = s.size - B := by simp
  have hlt : B + j < s.size := by omega
  have e1 : W[j] = (s.data.toList.drop B)[j]'(by omega) := by
    subst hW
    have := tw_take (p := isDig) (s.data.toList.drop B)
    have h2 : ((s.data.toList.drop B).takeWhile isDig)[j]? = ((s.data.toList.drop B).take ((s.data.toList.drop B).takeWhile isDig).length)[j]? := by rw [this]
    rw [List.getElem?_take_of_lt hj, List.getElem?_eq_getElem hj, List.getElem?_eq_getElem (by omega)] at h2
    exact Option.some.inj h2
  have e2 : (s.data.toList.drop B)[j]'(by omega) = s[B + j] := by
    rw [List.getElem_drop]; rfl
  refine ⟨hlt, ?_, e1.trans e2⟩
  have h3 := tw_lt (p := isDig) (l := s.data.toList.drop B) (k := j) (by rw [← hW]; exact hj) (by omega)
  rw [e2] at h3
  exact h3

theorem run_end (s : ByteArray) (B : Nat) (W : List UInt8) (hW : W = (s.data.toList.drop B).takeWhile isDig) : ∀ h : B + W.length < s.size, isDig s[B + W.length] = false := by
  intro h
  subst hW
  have hlen : (s.data.toList.drop B).length = s.size - B := by simp
  have h3 := tw_end (p := isDig) (l := s.data.toList.drop B) (by omega)
  rw [List.getElem_drop] at h3
  exact h3

theorem dot_cases (s : ByteArray) (C : Nat) : (∃ h : C < s.size, ((s[C].toNat : Int) == 46) = true ∧ dotOf s.data.toList C = ((s.data.toList.drop (C + 1)).takeWhile isDig, 1)) ∨
    (∃ h : C < s.size, ((s[C].toNat : Int) == 46) = false ∧ dotOf s.data.toList C = ([], 0)) ∨ (¬ C < s.size ∧ dotOf s.data.toList C = ([], 0)) := by
  by_cases h : C < s.size
  · by_cases h46 : s[C].toNat = 46
    · exact Or.inl ⟨h, by rw [h46]; rfl, by unfold dotOf; rw [at_some s C h, if_pos (toNat_eq rfl h46)]⟩
    · exact Or.inr (Or.inl ⟨h, by rw [beq_eq_false_iff_ne]; omega, by unfold dotOf; rw [at_some s C h, if_neg (toNat_ne rfl h46)]⟩)
  · exact Or.inr (Or.inr ⟨h, by unfold dotOf; rw [at_none s C h]; rfl⟩)

theorem parse_parts {l : List UInt8} {D B C : Nat} {sg : Bool × Nat} {W : List UInt8} {dt : List UInt8 × Nat}
    (hD : D = parseAt l) (hsg : sg = signOf (l.drop D)) (hB : B = D + sg.2) (hW : W = (l.drop B).takeWhile isDig) (hC : C = B + W.length) (hdt : dt = dotOf l C) :
    (W.length + dt.1.length = 0 → parseAns l = num3 (0, 0) 0) ∧ (¬ W.length + dt.1.length = 0 → parseAns l = num3 (back (sgn sg.1 (mval W dt.1))) (C + (dt.2 + dt.1.length))) := by
  subst hD hsg
  have eB : parseB l = B := by rw [hB]; rfl
  have eW : parseWhole l = W := by unfold parseWhole; rw [eB, hW]
  have eC : parseC l = C := by unfold parseC; rw [eB, eW, hC]
  have eP : parsePart l = dt := by unfold parsePart; rw [eC, hdt]
  have eN : parseNone l = (W.length + dt.1.length == 0) := by unfold parseNone; rw [eW, eP]
  constructor
  · intro h
    unfold parseAns
    rw [eN, h]
    rfl
  · intro h
    unfold parseAns
    rw [eN, if_neg (by simpa using h)]
    unfold parseVal parseEnd
    rw [eC, eP, eW]

end Go.Proofs.YtbbhcbpfffabpaaGreatDoor.T3
