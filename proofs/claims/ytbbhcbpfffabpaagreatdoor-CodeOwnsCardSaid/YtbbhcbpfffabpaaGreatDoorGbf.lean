/- Merged by program: RDo, LawBase. -/
import Derived.Test.YtbbhcbpfffabpaaGreatDoorGay
import Derived.Test.YtbbhcbpfffabpaaGreatDoorGaz
import Derived.Test.YtbbhcbpfffabpaaGreatDoorGbe
import Derived.Test.YtbbhcbpfffabpaaGreatDoorGau
import Derived.Test.YtbbhcbpfffabpaaGreatDoorGav
/- The document's Do: a walk. -/
namespace Go.Proofs.YtbbhcbpfffabpaaGreatDoor
open Go.RowKit

theorem make1_any (d : Dir) (hd : -1 ≤ d.prec ∧ d.prec ≤ 200) (c : Cel) (hc : COk c) (w : World) :
    Calls Tryz.prog 58 #[d.val, c.val] w (StrErr (makeS d c) w) := by
  by_cases h1 : d.letter = 99
  · exact make1_c d hd c hc h1 w
  by_cases h2 : d.letter = 115
  · exact make1_s d hd c hc h2 w
  by_cases h3 : d.letter = 102
  · exact make1_f d hd c hc h3 w
  · exact make1_n d hd c hc h1 h2 h3 w
theorem AllOk.drop {cs : List Cel} (h : AllOk cs) (k : Nat) : AllOk (cs.drop k) := fun c hc => h c (List.mem_of_mem_drop hc)
theorem drop_tail (cs : List Cel) (k : Nat) : (cs.drop k).tail = cs.drop (k + 1) := by rw [List.tail_drop]
theorem catS_bad (out : ByteArray) {x : Int} (h : x ≠ 0) : catS out (noTxt, x) = (noTxt, x) := by unfold catS; rw [if_neg h]
theorem starS_err (c : Cel) : (starS c).2 = 0 ∨ ((starS c).2 ≠ 0 ∧ ((starS c).2 != 0) = true) := by
  by_cases h : (starS c).2 = 0
  · exact Or.inl h
  · exact Or.inr ⟨h, bne_iff_ne.2 h⟩
theorem ext_one {f : ByteArray} {i : Nat} (h : i < f.size) : ofL [f[i]] = f.extract i (i + 1) := T2.bytes_ext (by
  rw [ofL_list]
  have hl : i < f.data.toList.length := by rw [← Lib.size_eq]; exact h
  have e : (f.extract i (i + 1)).data.toList = (f.data.toList.drop i).take 1 := by simp
  rw [e, List.drop_eq_getElem_cons hl]
  rfl)

set_option maxRecDepth 100000 in
set_option maxHeartbeats 4000000 in
theorem refDo_any (f : ByteArray) (hf : f.size ≤ 1000) (cs : List Cel) (p : Option Addr) (n cap : Nat) (w : World) (hC : CellsAt w p n cap cs) (hok : AllOk cs) :
    Calls Tryz.prog 29 #[.string f, .slice p n cap] w (StrErr (doL f.data.toList cs) w) := by
  obtain ⟨l, hl⟩ : ∃ l, l = f.data.toList := ⟨_, rfl⟩
  rw [← hl]
  have HL := Lib.hid hl
  clear hl
  have fin : ∀ (s : ByteArray) (x : Int) w', doL l cs = (s, x) → Below w.heap.size w w' → StrErr (doL l cs) w (.returned (.tuple #[.string s, .int .i64 x])) w' := fun s x w' h1 h2 => by
    rw [h1]; exact ⟨rfl, h2⟩
  have FIN := Lib.hid fin
  have RAt := Lib.hid (fun (k : Nat) (hk : k ≤ 1000000) (W : World) (hb : Below w.heap.size w W) => refAt_any p n cap cs k W (hC.below hb) hk)
  have ROk := Lib.hid (fun (k : Nat) => (hok.drop k).hd)
  have RSt := Lib.hid (fun (k : Nat) (W : World) => refStar_any (hdC (cs.drop k)) ((hok.drop k).hd) W)
  clear fin hC hok
  go_enter Tryz.func29, Tryz.ntmps29
  go_wp2_with fail
  go_loopw [6, 7, 8] (fun x y z wr => ∃ (out : ByteArray) (k i : Nat), x = .string out ∧ y = .int .i64 k ∧ z = .int .i64 i ∧ i ≤ f.size ∧ k ≤ 3 * i ∧ out.size ≤ 1000 * i ∧ Hid (doL l cs = catS out (doL (f.data.toList.drop i) (cs.drop k)) ∧ Below w.heap.size w wr)) (fun _ _ z _ => f.size - (intOf z).toNat)
  case atStart => exact ⟨⟨#[]⟩, 0, 0, rfl, rfl, rfl, Nat.zero_le _, Nat.zero_le _, Nat.zero_le _, Lib.hid ⟨by rw [List.drop_zero, List.drop_zero, ← HL.out]; exact (catS_nil _ (doL_err l cs)).symm, Below.refl _ _⟩⟩
  case round =>
    obtain ⟨out, k, i, rfl, rfl, rfl, hi, hk, hout, HA⟩ := hrel
    by_cases hlt : i < f.size
    · have dt : decide ((i : Int) < (f.size : Int)) = true := decide_eq_true (by omega)
      have hdr := drop_get hlt
      by_cases h37 : f[i].toNat = 37
      · have d1 : ((f[i].toNat : Int) != 37) = false := by rw [h37]; rfl
        have HNx := Lib.hid (next_of f (i + 1) (by omega) (by omega) wr)
        have HC : Hid (∀ d k2, readS (f.data.toList.drop (i + 1)) = some (d, k2) → doL l cs = catS out (if (dirT d (cs.drop k)).2 ≠ 0 then (noTxt, (dirT d (cs.drop k)).2) else catS (dirT d (cs.drop k)).1 (doL (f.data.toList.drop (i + 1 + k2)) (dirC d (cs.drop k)))) ∧ i + 1 + k2 ≤ f.size) := Lib.hid (fun d k2 hs => by
          have hb := (readS_bd hs).2.2
          rw [List.length_drop, ← Lib.size_eq] at hb
          exact ⟨by rw [HA.out.1, hdr, doL_some hs _ h37, List.drop_drop], by omega⟩)
        have HCn : Hid (readS (f.data.toList.drop (i + 1)) = none → doL l cs = (noTxt, 100)) := Lib.hid (fun hs => by
          rw [HA.out.1, hdr, doL_none hs _ h37]; exact catS_bad _ (by decide))
        have HB := Lib.hid HA.out.2
        obtain ⟨r, hr⟩ : ∃ r, r = f.data.toList.drop (i + 1) := ⟨_, rfl⟩
        rw [← hr] at HNx HC HCn
        clear HA hdr h37 hr
        go_wp2_with fail
        refine HNx.out.mono ?_
        rintro e w1 ⟨⟨hno, d, k2, rfl⟩ | ⟨d, k2, hd, rfl⟩, b1⟩
        · have B1 := Lib.hid (Below.step HB.out b1)
          have HNo := Lib.hid (HCn.out hno)
          unfold Dir.val
          clear b1 hno HNx HC HCn
          go_wp2_with fail
          go_ret2
          exact FIN.out _ _ _ HNo.out (Below.step B1.out (below_new _ _))
        · obtain ⟨hc1, hc2⟩ := HC.out d k2 hd
          have hbd := readS_bd hd
          have HC1 := Lib.hid hc1
          have B1 := Lib.hid (Below.step HB.out b1)
          obtain ⟨j, hj⟩ : ∃ j, j = i + 1 + k2 := ⟨_, rfl⟩
          rw [← hj] at HC1 hc2 ⊢
          have hij2 : i + 2 ≤ j := by have := (readS_some hd).2; omega
          obtain ⟨hw, hp, _⟩ := hbd
          obtain ⟨D, hD⟩ : ∃ D, D = w1.heap.size := ⟨_, rfl⟩
          have hDw : w.heap.size ≤ D := by rw [hD]; exact B1.out.size
          obtain ⟨w2, hw2⟩ : ∃ w2, w2 = w1.alloc (.cells #[.bool d.left, .bool d.plus, .bool d.blank, .bool d.zero, .int .i64 d.wide, .int .i64 d.prec, .int .u8 (d.letter : Int)] 70) := ⟨_, rfl⟩
          have B2 : Hid (Below w.heap.size w w2) := Lib.hid (by rw [hw2]; exact Below.step B1.out (below_new _ _))
          have D2 : Hid (DRow w2 D d) := Lib.hid (by rw [hw2, hD]; exact heap_alloc_last _ _)
          have HNo := Lib.hid hw2
          unfold Dir.val
          clear b1 hd HNx HC HCn hc1 hj HB
          go_upto_region 9 with (fail)
          rw [← hw2, ← hD]
          clear hw2 HNo B1 hD
          clear w1
          obtain ⟨k1, hk1⟩ : ∃ k1, k1 = if d.wide = -2 then k + 1 else k := ⟨_, rfl⟩
          have HK1 : Hid (fillC d.wide (cs.drop k) = cs.drop k1) := Lib.hid (by
            unfold fillC; rw [hk1]; split
            · exact drop_tail cs k
            · rfl)
          have hk1b : k ≤ k1 ∧ k1 ≤ k + 1 := by rw [hk1]; split <;> omega
          obtain ⟨v1, hv1⟩ : ∃ v1, v1 = fillV d.wide (cs.drop k) := ⟨_, rfl⟩
          obtain ⟨E1, hE1⟩ : ∃ E1, E1 = fillE d.wide (cs.drop k) := ⟨_, rfl⟩
          have hv1b : -1 ≤ v1 ∧ v1 ≤ 200 := by rw [hv1]; exact fillV_ok _ _ hw
          have HX1 : Hid (E1 ≠ 0 → doL l cs = (noTxt, E1)) := Lib.hid (fun h => by
            have e : dirT d (cs.drop k) = (noTxt, E1) := by unfold dirT; rw [← hE1, if_pos h]
            rw [HC1.out, e, if_pos h]; exact catS_bad _ h)
          have c4 := D2.out.c4
          have z4 := D2.out.z 4
          have hDl := D2.out.lt
          go_upto_if 48 with (fail)
          go_cut [7] (fun x wx => x = .int .i64 (k1 : Int) ∧ Hid (E1 = 0 ∧ DRow wx D { d with wide := v1 } ∧ Below w.heap.size w wx))
          case first =>
            by_cases g1 : d.wide = -2
            · have e1 : (d.wide == -2) = true := beq_iff_eq.2 g1
              have hk1' : k1 = k + 1 := by rw [hk1, if_pos g1]
              have HV1 : Hid (starS (hdC (cs.drop k)) = (v1, E1)) := Lib.hid (by rw [hv1, hE1]; unfold fillV fillE; rw [if_pos g1, if_pos g1])
              have HSt := Lib.hid (fun W => RSt.out k W)
              rw [HV1.out] at HSt
              have HAt := Lib.hid (RAt.out k (by omega) w2 B2.out)
              clear g1 hk1 hv1 hE1 HC1
              go_wp2_with fail
              refine HAt.out.mono ?_
              rintro e w3 ⟨rfl, b3⟩
              have B3 := Lib.hid (Below.step B2.out b3)
              have D3 := Lib.hid (D2.out.below b3)
              clear b3 c4 z4 hDl
              go_wp2_with fail
              refine (HSt.out _).mono ?_
              rintro e w4 ⟨rfl, b4⟩
              have B4 := Lib.hid (Below.step B3.out b4)
              have D4 := Lib.hid (D3.out.below b4)
              have c4 := D4.out.c4
              have z4 := D4.out.z 4
              have hDl := D4.out.lt
              clear b4
              by_cases g2 : E1 = 0
              · have e2 : (E1 != 0) = false := by rw [g2]; rfl
                have HE0 := Lib.hid g2
                clear g2
                go_wp2_with fail
                go_meet
                exact ⟨by rw [hk1']; go_num, Lib.hid ⟨HE0.out, (D4.out.put4 v1), B4.out.setCell (p := ⟨D, 4, none⟩) hDw _⟩⟩
              · have e2 : (E1 != 0) = true := bne_iff_ne.2 g2
                have HR := Lib.hid (HX1.out g2)
                clear g2
                go_wp2_with fail
                go_ret2
                exact FIN.out _ _ _ HR.out B4.out
            · have e1 : (d.wide == -2) = false := beq_eq_false_iff_ne.2 g1
              have hk1' : k1 = k := by rw [hk1, if_neg g1]
              have HV1 : Hid (v1 = d.wide ∧ E1 = 0) := Lib.hid (by rw [hv1, hE1]; unfold fillV fillE; rw [if_neg g1, if_neg g1]; exact ⟨rfl, rfl⟩)
              clear g1 hk1 hv1 hE1
              go_wp2_with fail
              go_meet
              exact ⟨by rw [hk1'], Lib.hid ⟨HV1.out.2, by rw [HV1.out.1]; exact D2.out, B2.out⟩⟩
          case rest =>
          obtain ⟨rfl, HW⟩ := hcut
          have HE1z := Lib.hid HW.out.1
          have D3 := Lib.hid HW.out.2.1
          have B3 := Lib.hid HW.out.2.2
          clear D2 B2 HW HX1 c4 z4 hDl
          obtain ⟨k2', hk2⟩ : ∃ k2', k2' = if d.prec = -2 then k1 + 1 else k1 := ⟨_, rfl⟩
          have HK2 : Hid (leftC d (cs.drop k) = cs.drop k2') := Lib.hid (by
            unfold leftC; rw [HK1.out]; unfold fillC; rw [hk2]; split
            · exact drop_tail cs k1
            · rfl)
          have hk2b : k1 ≤ k2' ∧ k2' ≤ k1 + 1 := by rw [hk2]; split <;> omega
          obtain ⟨v2, hv2⟩ : ∃ v2, v2 = fillV d.prec (cs.drop k1) := ⟨_, rfl⟩
          obtain ⟨E2, hE2⟩ : ∃ E2, E2 = fillE d.prec (cs.drop k1) := ⟨_, rfl⟩
          have hv2b : -1 ≤ v2 ∧ v2 ≤ 200 := by rw [hv2]; exact fillV_ok _ _ hp
          have HTold : Hid (toldD d (cs.drop k) = { d with wide := v1, prec := v2 }) := Lib.hid (by unfold toldD; rw [HK1.out, ← hv1, ← hv2])
          have HX2 : Hid (E2 ≠ 0 → doL l cs = (noTxt, E2)) := Lib.hid (fun h => by
            have e : dirT d (cs.drop k) = (noTxt, E2) := by unfold dirT; rw [← hE1, if_neg (fun h => h HE1z.out), HK1.out, ← hE2, if_pos h]
            rw [HC1.out, e, if_pos h]; exact catS_bad _ h)
          have HDt : Hid (E2 = 0 → dirT d (cs.drop k) = if d.letter = 37 then (ofL [37], 0) else makeS { d with wide := v1, prec := v2 } (hdC (cs.drop k2'))) := Lib.hid (fun h => by
            unfold dirT
            rw [← hE1, if_neg (fun h => h HE1z.out), HK1.out, ← hE2, if_neg (fun h2 => h2 h), HTold.out, HK2.out])
          have HDc : Hid (dirC d (cs.drop k) = if d.letter = 37 then cs.drop k2' else cs.drop (k2' + 1)) := Lib.hid (by
            unfold dirC; rw [HK2.out, drop_tail])
          clear hv1 hE1 hk1
          go_step
          have c5 := D3.out.c5
          have z5 := D3.out.z 5
          have hDl := D3.out.lt
          dsimp only at c5
          go_upto_if 65 with (fail)
          go_cut [7] (fun x wx => x = .int .i64 (k2' : Int) ∧ Hid (E2 = 0 ∧ DRow wx D { d with wide := v1, prec := v2 } ∧ Below w.heap.size w wx))
          case first =>
            by_cases g1 : d.prec = -2
            · have e1 : (d.prec == -2) = true := beq_iff_eq.2 g1
              have hk1' : k2' = k1 + 1 := by rw [hk2, if_pos g1]
              have HV1 : Hid (starS (hdC (cs.drop k1)) = (v2, E2)) := Lib.hid (by rw [hv2, hE2]; unfold fillV fillE; rw [if_pos g1, if_pos g1])
              have HSt := Lib.hid (fun W => RSt.out k1 W)
              rw [HV1.out] at HSt
              have HAt := Lib.hid (RAt.out k1 (by omega) wc B3.out)
              clear g1 hk2 hv2 hE2 HC1
              go_wp2_with fail
              refine HAt.out.mono ?_
              rintro e w3 ⟨rfl, b3⟩
              have B4 := Lib.hid (Below.step B3.out b3)
              have D4 := Lib.hid (D3.out.below b3)
              clear b3 c5 z5 hDl
              go_wp2_with fail
              refine (HSt.out _).mono ?_
              rintro e w4 ⟨rfl, b4⟩
              have B5 := Lib.hid (Below.step B4.out b4)
              have D5 := Lib.hid (D4.out.below b4)
              have c5 := D5.out.c5
              have z5 := D5.out.z 5
              have hDl := D5.out.lt
              clear b4
              by_cases g2 : E2 = 0
              · have e2 : (E2 != 0) = false := by rw [g2]; rfl
                have HE0 := Lib.hid g2
                clear g2
                go_wp2_with fail
                go_meet
                exact ⟨by rw [hk1']; go_num, Lib.hid ⟨HE0.out, (D5.out.put5 v2), B5.out.setCell (p := ⟨D, 5, none⟩) hDw _⟩⟩
              · have e2 : (E2 != 0) = true := bne_iff_ne.2 g2
                have HR := Lib.hid (HX2.out g2)
                clear g2
                go_wp2_with fail
                go_ret2
                exact FIN.out _ _ _ HR.out B5.out
            · have e1 : (d.prec == -2) = false := beq_eq_false_iff_ne.2 g1
              have hk1' : k2' = k1 := by rw [hk2, if_neg g1]
              have HV1 : Hid (v2 = d.prec ∧ E2 = 0) := Lib.hid (by rw [hv2, hE2]; unfold fillV fillE; rw [if_neg g1, if_neg g1]; exact ⟨rfl, rfl⟩)
              clear g1 hk2 hv2 hE2
              go_wp2_with fail
              go_meet
              exact ⟨by rw [hk1'], Lib.hid ⟨HV1.out.2, by rw [HV1.out.1]; exact D3.out, B3.out⟩⟩
          case rest =>
          obtain ⟨rfl, HW⟩ := hcut
          have hDt := HDt.out HW.out.1
          have D4 := Lib.hid HW.out.2.1
          have B4 := Lib.hid HW.out.2.2
          clear D3 B3 HW HX2 HDt hk2 hv2 hE2 HK1 HK2 HTold HE1z c5 z5 hDl
          obtain ⟨c0, c1, c2, c3, c4, c5, c6⟩ := D4.out.all
          dsimp only at c0 c1 c2 c3 c4 c5 c6
          have hDl := D4.out.lt
          go_step
          by_cases g3 : d.letter = 37
          · have e3 : ((d.letter : Int) == 37) = true := by rw [g3]; rfl
            rw [if_pos g3] at hDt
            have HN : Hid (doL l cs = catS (out ++ ⟨#[37]⟩) (doL (f.data.toList.drop j) (cs.drop k2'))) := Lib.hid (by
              rw [HC1.out, hDt, if_neg (by decide), HDc.out, if_pos g3, catS_cat]; rfl)
            have n1 : ¬ 9223372036854775807 < out.size + 1 := by omega
            have HNs : Hid ((out ++ ⟨#[37]⟩ : ByteArray).size ≤ 1000 * j) := Lib.hid (by rw [ByteArray.size_append]; show out.size + 1 ≤ _; omega)
            clear g3 hDt HC1 HDc
            go_wp2_with fail
            go_roundw
            case rel => exact ⟨_, k2', j, rfl, rfl, rfl, hc2, by omega, HNs.out, Lib.hid ⟨HN.out, B4.out⟩⟩
            case measure => simp [intOf]; omega
          · have e3 : ((d.letter : Int) == 37) = false := beq_eq_false_iff_ne.2 (by omega)
            rw [if_neg g3] at hDt
            obtain ⟨t, ht⟩ : ∃ t : Dir, t = { d with wide := v1, prec := v2 } := ⟨_, rfl⟩
            have hsz := make_size t (hdC (cs.drop k2')) (ROk.out k2')
            have HMk := Lib.hid (fun W => make1_any t (by rw [ht]; exact hv2b) (hdC (cs.drop k2')) (ROk.out k2') W)
            rw [← ht] at hDt
            obtain ⟨S, hS⟩ : ∃ S, S = makeS t (hdC (cs.drop k2')) := ⟨_, rfl⟩
            rw [← hS] at hDt hsz HMk
            obtain ⟨s, x⟩ := S
            dsimp only at hsz
            have HN : Hid (doL l cs = if x ≠ 0 then (noTxt, x) else catS (out ++ s) (doL (f.data.toList.drop j) (cs.drop (k2' + 1)))) := Lib.hid (by
              rw [HC1.out, hDt, HDc.out, if_neg g3]
              by_cases hx : x ≠ 0
              · rw [if_pos hx, if_pos hx]; exact catS_bad _ hx
              · rw [if_neg hx, if_neg hx, catS_cat])
            have HAt := Lib.hid (fun (W : World) (hb : Below w.heap.size w W) => RAt.out k2' (by omega) W hb)
            have K4 : Hid (Hid (Below w.heap.size w wc) ∧ wc.cell? ⟨D, 0, none⟩ = some (.bool t.left) ∧ wc.cell? ⟨D, 1, none⟩ = some (.bool t.plus) ∧ wc.cell? ⟨D, 2, none⟩ = some (.bool t.blank) ∧ wc.cell? ⟨D, 3, none⟩ = some (.bool t.zero) ∧ wc.cell? ⟨D, 4, none⟩ = some (.int .i64 t.wide) ∧ wc.cell? ⟨D, 5, none⟩ = some (.int .i64 t.prec) ∧ wc.cell? ⟨D, 6, none⟩ = some (.int .u8 (t.letter : Int))) := Lib.hid (by
              rw [ht]; exact ⟨B4, c0, c1, c2, c3, c4, c5, c6⟩)
            have e4 : ((t.letter : Int) == 37) = false := by rw [ht]; exact e3
            clear c0 c1 c2 c3 c4 c5 c6
            obtain ⟨_, c0, c1, c2, c3, c4, c5, c6⟩ := K4.out
            unfold Dir.val at HMk
            clear g3 hDt HC1 HDc ht hS
            go_wp2_with fail
            go_region_held3 (fun w' => Hid (Below w.heap.size w w') ∧ w'.cell? ⟨D, 0, none⟩ = some (.bool t.left) ∧ w'.cell? ⟨D, 1, none⟩ = some (.bool t.plus) ∧ w'.cell? ⟨D, 2, none⟩ = some (.bool t.blank) ∧ w'.cell? ⟨D, 3, none⟩ = some (.bool t.zero) ∧ w'.cell? ⟨D, 4, none⟩ = some (.int .i64 t.wide) ∧ w'.cell? ⟨D, 5, none⟩ = some (.int .i64 t.prec) ∧ w'.cell? ⟨D, 6, none⟩ = some (.int .u8 (t.letter : Int))) (first | exact keep7 K4.out (below_drew _) | exact keep7 (by assumption) (by assumption) | assumption)
              (first
                | (go_at_call 57; refine (HAt.out _ (by exact (show Hid (Below w.heap.size w _) ∧ _ by assumption).1.out)).mono ?_; rintro e v1 ⟨rfl, a1⟩)
                | (go_at_call 58; refine (HMk.out _).mono ?_; rintro e v2 ⟨rfl, a1⟩))
            have K5 : Hid (Below w.heap.size w v2) := (show Hid (Below w.heap.size w v2) ∧ _ by assumption).1
            by_cases hx : x = 0
            · have e5 : (x != 0) = false := by rw [hx]; rfl
              have HN2 : Hid (doL l cs = catS (out ++ s) (doL (f.data.toList.drop j) (cs.drop (k2' + 1)))) := Lib.hid (by rw [HN.out, if_neg (fun h => h hx)])
              have n1 : ¬ 9223372036854775807 < out.size + s.size := by omega
              have HNs : Hid ((out ++ s).size ≤ 1000 * j) := Lib.hid (by rw [ByteArray.size_append]; omega)
              clear hx HN
              go_wp2_with fail
              go_roundw
              case rel => exact ⟨_, k2' + 1, j, rfl, by go_num, rfl, hc2, by omega, HNs.out, Lib.hid ⟨HN2.out, K5.out⟩⟩
              case measure => simp [intOf]; omega
            · have e5 : (x != 0) = true := bne_iff_ne.2 hx
              have HN2 : Hid (doL l cs = (noTxt, x)) := Lib.hid (by rw [HN.out, if_pos hx])
              clear hx HN
              go_wp2_with fail
              go_ret2
              exact FIN.out _ _ _ HN2.out K5.out
      · have d1 : ((f[i].toNat : Int) != 37) = true := bne_iff_ne.2 (by omega)
        have HC : Hid (doL l cs = catS (out ++ f.extract i (i + 1)) (doL (f.data.toList.drop (i + 1)) (cs.drop k))) := Lib.hid (by
          rw [HA.out.1, hdr, doL_other h37, catS_cat, ext_one hlt])
        have HB := Lib.hid HA.out.2
        have hx1 : (f.extract i (i + 1)).size = 1 := (T2.part_size f i (i + 1) (by omega)).trans (by omega)
        have n1 : ¬ 9223372036854775807 < out.size + (f.extract i (i + 1)).size := by omega
        have n2 : ¬ 9223372036854775807 < out.size + 1 := by omega
        have HNs : Hid ((out ++ f.extract i (i + 1)).size ≤ 1000 * (i + 1)) := Lib.hid (by rw [ByteArray.size_append]; omega)
        have hI1 : (i : Int) ≤ (i : Int) + 1 := by omega
        have hI2 : (i : Int) + 1 ≤ (f.size : Int) := by omega
        clear HA hdr h37
        go_wp2_with fail
        go_roundw
        case rel => exact ⟨_, k, i + 1, rfl, rfl, by go_num, by omega, by omega, HNs.out, Lib.hid ⟨HC.out, HB.out⟩⟩
        case measure => simp [intOf]; omega
    · have dt : decide ((i : Int) < (f.size : Int)) = false := decide_eq_false (by omega)
      have HS : Hid (doL l cs = (out, 0)) := Lib.hid (by
        rw [HA.out.1, List.drop_eq_nil_of_le (by rw [← Lib.size_eq]; omega), doL_nil]
        unfold catS
        rw [if_pos rfl]
        have e : out ++ noTxt = out := T2.bytes_ext (by simp [noTxt])
        rw [e])
      have HB := Lib.hid HA.out.2
      clear HA
      go_wp2_with fail
      go_ret2
      exact FIN.out _ _ _ HS.out HB.out
end Go.Proofs.YtbbhcbpfffabpaaGreatDoor

/- What the laws of formats stand on: cells that are copied, and what their calls tell. -/
namespace Go.Proofs.YtbbhcbpfffabpaaGreatDoor
open Go.RowKit

theorem own_below {w w' : World} {base : Nat} {e : TypeId} {size n : Nat} {v : Value} {xs : List Value} (h : w.ownsRow base e size v n xs) (hb : Below w.heap.size w w') : w'.ownsRow base e size v n xs := by
  refine ⟨h.1, ?_⟩
  rcases h.2 with h0 | ⟨g, cap, cur, hv, hg, hh, rest⟩
  · exact Or.inl h0
  · refine Or.inr ⟨g, cap, cur, hv, hg, ?_, rest⟩
    rw [hb.block g (Array.getElem?_eq_some_iff.1 hh).1]
    exact hh
/-- Cells as an argument. -/
structure ArgC (w : World) (p : Option Addr) (n : Nat) (l : List Cel) : Prop where
  big : n ≤ 9223372036854775807
  len : n = l.length
  cells : l = [] ∨ ∃ b off, p = some ⟨b, off, none⟩ ∧ ∀ i c, l[i]? = some c → w.cell? ⟨b, off + i * 3, none⟩ = some (.int .i64 c.k) ∧ w.cell? ⟨b, off + i * 3 + 1, none⟩ = some (.int .i64 c.n) ∧ w.cell? ⟨b, off + i * 3 + 2, none⟩ = some (.string c.s)
  fits : ∀ c ∈ l, T3.Fits c.n
theorem ArgC.below {w w' : World} {p : Option Addr} {n : Nat} {l : List Cel} (h : ArgC w p n l) (hb : Below w.heap.size w w') : ArgC w' p n l := by
  refine ⟨h.big, h.len, ?_, h.fits⟩
  rcases h.cells with h0 | ⟨b, off, hp, hc⟩
  · exact Or.inl h0
  · have key : ∀ (o : Nat) (v : Value), w.cell? ⟨b, o, none⟩ = some v → w'.cell? ⟨b, o, none⟩ = some v := fun o v hv => by
      rw [hb.cell (p := ⟨b, o, none⟩) (cell_lt hv)]; exact hv
    exact Or.inr ⟨b, off, hp, fun i c hi => ⟨key _ _ (hc i c hi).1, key _ _ (hc i c hi).2.1, key _ _ (hc i c hi).2.2⟩⟩
theorem AllOk.take {cs : List Cel} (h : AllOk cs) (k : Nat) : AllOk (cs.take k) := fun c hc => h c (List.mem_of_mem_take hc)
/-- A call's own row, read as cells. -/
theorem own_read {w : World} {base k c : Nat} {p : Option Addr} {l : List Cel} (h : w.ownsRow base 25 3 (.slice p k c) k (cvals l)) (hk : k = l.length) : CellsAt w p k c l := by
  refine own_cells h hk ?_
  rcases h.2 with ⟨hv, h0⟩ | ⟨g, cap, cur, hv, hg, hh, hkc, hcm, _⟩
  · injection hv with e1 e2 e3
    omega
  · injection hv with e1 e2 e3
    simp only [maxLen] at hcm
    omega
/-- The first cells of a slice, and those behind them. -/
theorem CellsAt.front {w : World} {p : Option Addr} {n cap k : Nat} {l : List Cel} (h : CellsAt w p n cap l) (hk : k ≤ n) : CellsAt w p k cap (l.take k) := by
  have hl := h.len
  refine ⟨by rw [List.length_take]; omega, by have := h.room; omega, h.bound, h.nil, ?_⟩
  rcases h.cells with h0 | ⟨b, off, hp, hc⟩
  · exact Or.inl (by rw [h0]; exact List.take_nil)
  · refine Or.inr ⟨b, off, hp, fun i c hi => ?_⟩
    rw [List.getElem?_take] at hi
    split at hi
    · exact hc i c hi
    · exact absurd hi (by simp)
theorem new_own (W : World) : (W.alloc (.cells #[] 25)).ownsRow W.heap.size 25 3 (.slice (some ⟨W.heap.size, 0, none⟩) 0 0) 0 (cvals []) :=
  World.ownsRow_lit (base := W.heap.size) (e := 25) (size := 3) W #[] 0 (Nat.le_refl _) (by simp only [maxLen]; omega) (by simp)

/-- The program's Do, of a text. -/
theorem doP_text (f : ByteArray) (hf : f.size ≤ 1000) (cs : List Cel) (p : Option Addr) (n cap : Nat) (w : World) (hE : Env w) (hC : CellsAt w p n cap cs) (hlow : ∀ a, p = some a → a.block < w.heap.size) (hF : Fed f.data.toList cs) :
    Calls Tryz.prog 47 #[.string f, .slice p n cap] w (StrErr (doL f.data.toList cs) w) := by
  have h := doP_any f.data.toList (by rw [← Lib.size_eq]; exact hf) cs p n cap w hE hC hlow hF
  rwa [ofL_of] at h
/-- append([]Cell{}, l..): a copy of cells. -/
theorem wp_copy_cells {ops : Array Oper} {rest : List Oper} {o : Oper} {a : Act} {Q : Exit → Act → World → Prop} (hgd : o.guard = none) (s x : Operand)
    (ho : o.op = .call { callee := .builtin .append, args := #[s, x], argTypes := #[22, 22] }) (W : World) (q : Option Addr) (n c : Nat) (m : List Cel)
    (hs : a.eval s = .slice (some ⟨W.heap.size, 0, none⟩) 0 0) (hx : a.eval x = .slice q n c) (hm : CellsAt W q n c m) (hk : n ≤ 1000000)
    (h : ∀ p' c' w', Hid (CellsAt w' p' n c' m ∧ (∀ b, p' = some b → b.block < w'.heap.size) ∧ Below W.heap.size W w' ∧ w'.ownsRow W.heap.size 25 3 (.slice p' n c') n (cvals m)) → wpList Tryz.prog ops Q rest (a.put o.dst (.slice p' n c')) w') :
    wpList Tryz.prog ops Q (o :: rest) a (W.alloc (.cells #[] 25)) := by
  have hO := new_own W
  have hB := below_new W (.cells #[] 25)
  refine wp_append_cells hgd s x ho W.heap.size _ _ 0 [] q n c m hs hO hx (hm.below hB) (by omega) hB.size ?_
  intro p' c' w' ho' hg
  rw [Nat.zero_add]
  rw [Nat.zero_add, List.nil_append] at ho'
  refine h p' c' w' (Lib.hid ⟨own_read ho'.out hm.len, fun b hb => (own_low ho'.out b hb).1, hB.grown hg.out hB.size (fun j hj => (hO.lt j hj).1), ho'.out⟩)
end Go.Proofs.YtbbhcbpfffabpaaGreatDoor
