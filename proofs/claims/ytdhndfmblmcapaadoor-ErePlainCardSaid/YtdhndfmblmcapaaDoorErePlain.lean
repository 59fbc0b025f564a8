/- ErePlain: for any text the law returns true, and the text reads as before. No condition besides what the row takes of the three tables as the program's text lays them. -/
import Derived.Test.YtdhndfmblmcapaaDoorPost
import Derived.Test.YtdhndfmblmcapaaDoorPlainT
namespace Go.Proofs.YtdhndfmblmcapaaDoor.erePlain
open Go.ChangeShapes Go.WideShapes Go.ChangeAt Go.RowKit Go.ChangeMaps

set_option maxRecDepth 100000 in
set_option maxHeartbeats 1000000 in
theorem walk_long (s : ByteArray) (hs : 200 < s.size) (w : World) :
    Calls Tryd.prog 5 #[.string s] w fun e w' => e = .returned (.bool true) ∧ Below w.heap.size w w' := by
  have HV := Lib.hid (fun w => lives_spec w)
  go_enter Tryd.func5, Tryd.ntmps5
  go_wp2_with fail
  refine (HV.out _).mono ?_
  rintro e w1 ⟨rfl, b1⟩
  have B1 := Lib.hid b1; clear b1
  go_wp2_with fail
  go_ret
  exact ⟨rfl, B1.out⟩

set_option maxRecDepth 100000 in
set_option maxHeartbeats 1000000 in
theorem walk_two (s : ByteArray) (hs : s.size ≤ 200) (h2 : 2 ≤ s.size) (w : World) :
    Calls Tryd.prog 5 #[.string s] w fun e w' => e = .returned (.bool true) ∧ Below w.heap.size w w' := by
  have hsl : s.data.toList.length = s.size := by simp
  have hpl : (⟨(plainL s.data.toList).toArray⟩ : ByteArray).size ≤ 400 := by
    have := plainL_len s.data.toList
    show (plainL s.data.toList).toArray.size ≤ 400
    simp only [List.size_toArray]
    omega
  have HV := Lib.hid (fun w => lives_spec w)
  have HPL := Lib.hid (fun w => plain_spec s hs w)
  have HP := Lib.hid (fun w => parse_go (plainL s.data.toList) (textT s.data.toList) 0 (text_parse _ (by omega)) (by omega) ⟨(plainL s.data.toList).toArray⟩ rfl hpl w)
  have HL := Lib.hid (fun w cs S h => least_spec (textT s.data.toList) _ (text_least _ (by omega)) cs S w h (text_good _ (by omega)))
  rw [hsl] at HL
  have HT : Hid (textT s.data.toList = .mk 4 zero4 0 0 (bytesT s.data.toList)) := Lib.hid (by
    match hl : s.data.toList, hsl with
    | [], hsl => rw [← hsl] at h2; exact absurd h2 (by simp)
    | [c], hsl => rw [← hsl] at h2; exact absurd h2 (by simp)
    | c :: d :: r, _ => rfl)
  rw [HT.out] at HP HL
  have HBL : Hid ((bytesT s.data.toList).length = s.size) := Lib.hid (by unfold bytesT; rw [List.length_map, hsl])
  clear hsl hpl
  go_enter Tryd.func5, Tryd.ntmps5
  go_wp2_with fail
  refine (HPL.out _).mono ?_
  rintro e w1 ⟨rfl, b1⟩
  have B1 := Lib.hid b1; clear b1
  go_wp2_with fail
  refine (HP.out _).mono ?_
  rintro e w2 ⟨ds, rfl, hat, b2⟩
  have B2 := Lib.hid (Below.step B1.out b2)
  have A2 := Lib.hid hat
  obtain ⟨a, c, e, hsa⟩ := hat.opens
  have SA := Lib.hid hsa
  simp only [Tree.k, Tree.f, Tree.lo, Tree.hi, Tree.kids] at e
  subst e
  rw [HBL.out] at A2 ⊢
  have SA2 : Hid (SlAt w2 (Up w1.heap.size) (bytesT s.data.toList) (.slice a s.size c)) := Lib.hid (by have h := SA.out; simp only [Tree.kids] at h; rwa [HBL.out] at h)
  clear b2 hat hsa SA
  simp only [reC]
  go_upto_region 5 with (fail)
  obtain ⟨V, hV, hY, hBV, _⟩ := re_box w2 (reC 4 zero4 0 0 (.slice a s.size c))
  change Code.wp _ _ _ _ (w2.alloc (Obj.cells (reC 4 zero4 0 0 (.slice a s.size c)) 27))
  rw [← hV]
  clear hV
  have B3 := Lib.hid (Below.step B2.out hBV.out)
  have H3 := Lib.hid (HL.out V _ _ (A2.out.after hBV.out))
  obtain ⟨c0, c1, c2, c3, c4, c5, c6, c7⟩ := eight_re hY.out.eight
  go_wp2_with fail
  refine H3.out.mono ?_
  rintro e w3 ⟨rfl, b3⟩
  have Y3 := Lib.hid (hY.out.after b3)
  have B4 := Lib.hid (Below.step B3.out b3)
  have SA3 := Lib.hid ((SA2.out.after hBV.out).after b3)
  clear b3 c0 c1 c2 c3 c4 c5 c6 c7
  obtain ⟨c0, c1, c2, c3, c4, c5, c6, c7⟩ := eight_re Y3.out.eight
  go_upto_region 8 with (fail)
  obtain ⟨U, hU, hZ, hBU, _⟩ := re_box w3 (reC 4 zero4 0 0 (.slice a s.size c))
  change Code.wp _ _ _ _ (w3.alloc (Obj.cells (reC 4 zero4 0 0 (.slice a s.size c)) 27))
  rw [← hU]
  clear hU c0 c1 c2 c3 c4 c5 c6 c7
  have Y4 := Lib.hid (Y3.out.after hBU.out)
  have B5 := Lib.hid (Below.step B4.out hBU.out)
  have SA4 := Lib.hid (SA3.out.after hBU.out)
  obtain ⟨c0, c1, c2, c3, c4, c5, c6, c7⟩ := eight_re Y4.out.eight
  have hn0 : ((s.size : Int) == 0) = false := beq_eq_false_iff_ne.2 (by omega)
  have hn1 : decide ((1 : Int) < s.size) = true := decide_eq_true (by omega)
  go_wp2_with fail
  rcases SA4.out with ⟨e, _⟩ | ⟨_, b, off, c', cs, e, hc, hBb, h8, hat⟩
  · have h := HBL.out
    rw [e] at h
    simp at h
    omega
  rw [HBL.out] at e hc h8
  simp only [Value.slice.injEq] at e
  obtain ⟨rfl, _, rfl⟩ := e
  have H8 := Lib.hid h8
  have HAT := Lib.hid (fun (i : Nat) (hi : i < s.size) => show At U _ (oneT s[i].toNat) (cs i) by
    have h := hat i (by rw [HBL.out]; exact hi)
    have e : (bytesT s.data.toList)[i]'(by rw [HBL.out]; exact hi) = oneT s[i].toNat := by simp only [bytesT, List.getElem_map]; rfl
    rwa [e] at h)
  clear h8 hat hBb
  clear c0 c1 c2 c3 c4 c5 c6 c7
  go_loopw [8] (fun y wr => ∃ i : Nat, y = .int .i64 i ∧ i ≤ s.size ∧ Hid (Below U.heap.size U wr)) (fun y _ => s.size - (intOf y).toNat)
  case atStart => exact ⟨0, rfl, by omega, Lib.hid (Below.refl _ _)⟩
  case round =>
    obtain ⟨i, rfl, hi, hb⟩ := hrel
    by_cases hgo : i < s.size
    · have hT := HAT.out i hgo
      obtain ⟨ai, ci, e, _⟩ := hT.opens
      have h8i := (H8.out i hgo).after hT.size hb.out
      rw [e] at h8i
      simp only [oneT, Tree.k, Tree.f, Tree.lo, Tree.hi, Tree.kids] at h8i
      have E8 := Lib.hid h8i
      have hbl := h8i.lt rfl
      clear e h8i hT
      have hq : ∀ w, (Op.equalIn 10000 24 (.agg #[.int .u64 (oneF s[i].toNat 0), .int .u64 (oneF s[i].toNat 1), .int .u64 (oneF s[i].toNat 2), .int .u64 (oneF s[i].toNat 3)]) (.agg #[.int .u64 (oneF s[i].toNat 0), .int .u64 (oneF s[i].toNat 1), .int .u64 (oneF s[i].toNat 2), .int .u64 (oneF s[i].toNat 3)])).run Tryd.prog w = .ok true w := fun w => equal_words _ _ w true (by simp)
      have HQ := Lib.hid hq
      clear hq
      go_upto_region 18 with (fail)
      obtain ⟨V', hV', Q, HB', hsz'⟩ : ∃ V', V' = wr.alloc (.cells (words zero4) 24) ∧ Hid (Quad V' wr.heap.size zero4) ∧ Hid (Below wr.heap.size wr V') ∧ Hid (V'.heap.size = wr.heap.size + 1) := ⟨_, rfl, Lib.hid (quad_new wr zero4 _), Lib.hid (below_new _ _), Lib.hid (World.size_alloc _ _)⟩
      change Code.wp _ _ _ _ (wr.alloc (Obj.cells (words zero4) 24))
      rw [← hV']
      clear hV'
      have hk4 : s[i].toNat / 64 < 4 := by have := UInt8.toNat_lt s[i]; omega
      have hc0 := Q.out.c (s[i].toNat / 64) hk4
      have hz0 := Q.out.z (s[i].toNat / 64) hk4
      have hi0 : (0 : Int) ≤ i := by omega
      have hi1 : (i : Int) < s.size := by omega
      go_region
      have hpw : IntKind.u64.wrap ((2 : Int) ^ (s[i].toNat % 64)) = ((2 ^ (s[i].toNat % 64) : Nat) : Int) := by
        obtain ⟨pw, hp⟩ : ∃ pw : Nat, pw = 2 ^ (s[i].toNat % 64) := ⟨_, rfl⟩
        have hl : pw < 18446744073709551616 := by rw [hp]; exact pow_lt64 _
        have e2 : ((2 : Int) ^ (s[i].toNat % 64)) = (pw : Int) := by rw [hp]; push_cast; rfl
        rw [e2, ← hp, IntKind.wrap_u64]
        clear hp e2
        omega
      rw [hpw]
      clear hpw hc0 hz0
      obtain ⟨D, hD, QD, BD⟩ : ∃ D, D = (V'.setCell ⟨wr.heap.size, s[i].toNat / 64, none⟩ (.int .u64 ((2 ^ (s[i].toNat % 64) : Nat) : Int))).drew ∧ Hid (Quad D wr.heap.size (oneF s[i].toNat)) ∧ Hid (Below wr.heap.size wr D) :=
        ⟨_, rfl, Lib.hid (((Q.out.set hk4 _).congr (g := oneF s[i].toNat) (fun j _ => by unfold oneF zero4; by_cases e : j = s[i].toNat / 64 <;> simp [e])).after (below_drew _)), Lib.hid ((HB'.out.setCell (by simp) _).drew)⟩
      rw [← hD]
      clear hD
      have h8D := E8.out.keep (BD.out.block b hbl)
      obtain ⟨d0, d1, d2, d3, d4, d5, d6, d7⟩ := eight_re h8D
      have q0 := QD.out.c 0 (by omega); have q1 := QD.out.c 1 (by omega); have q2 := QD.out.c 2 (by omega); have q3 := QD.out.c 3 (by omega)
      have hq := HQ.out
      clear h8D
      go_wp2_with fail
      go_quiet (fail)
      clear d0 d1 d2 d3 d4 d5 d6 d7 q0 q1 q2 q3 hq
      go_wp2_with fail
      go_roundw
      case rel => exact ⟨i + 1, by go_num, by omega, Lib.hid (Below.step hb.out (Below.drewN' BD.out _))⟩
      case measure => simp [intOf]; omega
    · go_wp2_with fail
      refine (HV.out _).mono ?_
      rintro e w5 ⟨rfl, b5⟩
      have B9 := Lib.hid (Below.step (Below.step B5.out hb.out) b5)
      clear b5
      go_wp2_with fail
      go_ret
      exact ⟨rfl, B9.out⟩
set_option maxRecDepth 100000 in
set_option maxHeartbeats 1000000 in
theorem walk_one (s : ByteArray) (hs : s.size ≤ 200) (h1 : Hid (s.size = 1)) (hi0 : 0 < s.size) (w : World) :
    Calls Tryd.prog 5 #[.string s] w fun e w' => e = .returned (.bool true) ∧ Below w.heap.size w w' := by
  have hsl : s.data.toList.length = s.size := by simp
  have hpl : (⟨(plainL s.data.toList).toArray⟩ : ByteArray).size ≤ 400 := by
    have := plainL_len s.data.toList
    show (plainL s.data.toList).toArray.size ≤ 400
    simp only [List.size_toArray]
    omega
  have HV := Lib.hid (fun w => lives_spec w)
  have HPL := Lib.hid (fun w => plain_spec s hs w)
  have HP := Lib.hid (fun w => parse_go (plainL s.data.toList) (textT s.data.toList) 0 (text_parse _ (by omega)) (by omega) ⟨(plainL s.data.toList).toArray⟩ rfl hpl w)
  have HL := Lib.hid (fun w cs S h => least_spec (textT s.data.toList) _ (text_least _ (by omega)) cs S w h (text_good _ (by omega)))
  rw [hsl] at HL
  obtain ⟨ch, hch⟩ : ∃ ch, s.data.toList = [ch] := by
    match hl : s.data.toList, hsl with
    | [], hsl => have h := hsl.trans h1.out; simp at h
    | [c], _ => exact ⟨c, rfl⟩
    | c :: d :: r, hsl => have h := hsl.trans h1.out; simp at h
  have hs0 : s[0].toNat = ch.toNat := by
    have : s.data.toList[0]? = some s[0] := by rw [List.getElem?_eq_getElem (by rw [hsl]; exact hi0)]; rfl
    rw [hch] at this
    simp at this
    rw [this]
  have HT : Hid (textT s.data.toList = oneT s[0].toNat) := Lib.hid (by rw [hch, hs0]; rfl)
  rw [HT.out] at HP HL
  clear hch hs0
  clear hsl hpl
  go_enter Tryd.func5, Tryd.ntmps5
  go_wp2_with fail
  refine (HPL.out _).mono ?_
  rintro e w1 ⟨rfl, b1⟩
  have B1 := Lib.hid b1; clear b1
  go_wp2_with fail
  refine (HP.out _).mono ?_
  rintro e w2 ⟨ds, rfl, hat, b2⟩
  have B2 := Lib.hid (Below.step B1.out b2)
  have A2 := Lib.hid hat
  obtain ⟨a, c, e, _⟩ := hat.opens
  simp only [oneT, Tree.k, Tree.f, Tree.lo, Tree.hi, Tree.kids, List.length_nil] at e
  subst e
  clear b2 hat
  simp only [reC]
  go_upto_region 5 with (fail)
  obtain ⟨V, hV, hY, hBV, _⟩ := re_box w2 (reC 1 (oneF s[0].toNat) 0 0 (.slice a 0 c))
  change Code.wp _ _ _ _ (w2.alloc (Obj.cells (reC 1 (oneF s[0].toNat) 0 0 (.slice a 0 c)) 27))
  rw [← hV]
  clear hV
  have B3 := Lib.hid (Below.step B2.out hBV.out)
  have H3 := Lib.hid (HL.out V _ _ (A2.out.after hBV.out))
  obtain ⟨c0, c1, c2, c3, c4, c5, c6, c7⟩ := eight_re hY.out.eight
  have hn0 : ((s.size : Int) == 0) = false := beq_eq_false_iff_ne.2 (by have := h1.out; omega)
  have hn1 : decide ((1 : Int) < s.size) = false := decide_eq_false (by have := h1.out; omega)
  have hn2 : ((1 : Int) == s.size) = true := beq_iff_eq.2 (by have := h1.out; omega)
  have hn3 : ((1 : Int) != s.size) = false := by have := h1.out; simp; omega
  go_wp2_with fail
  refine H3.out.mono ?_
  rintro e w3 ⟨rfl, b3⟩
  have Y3 := Lib.hid (hY.out.after b3)
  have B4 := Lib.hid (Below.step B3.out b3)
  clear b3 c0 c1 c2 c3 c4 c5 c6 c7
  obtain ⟨c0, c1, c2, c3, c4, c5, c6, c7⟩ := eight_re Y3.out.eight
  go_upto_region 8 with (fail)
  obtain ⟨U, hU, hZ, hBU, _⟩ := re_box w3 (reC 1 (oneF s[0].toNat) 0 0 (.slice a 0 c))
  change Code.wp _ _ _ _ (w3.alloc (Obj.cells (reC 1 (oneF s[0].toNat) 0 0 (.slice a 0 c)) 27))
  rw [← hU]
  clear hU c0 c1 c2 c3 c4 c5 c6 c7
  have B5 := Lib.hid (Below.step B4.out hBU.out)
  go_wp2_with fail
  refine wp_loop_rounds 2 ?_
  rw [rounds_succ]
  have hbl := hZ.out.lt
  have HQ : Hid (∀ w, (Op.equalIn 10000 24 (.agg #[.int .u64 (oneF s[0].toNat 0), .int .u64 (oneF s[0].toNat 1), .int .u64 (oneF s[0].toNat 2), .int .u64 (oneF s[0].toNat 3)]) (.agg #[.int .u64 (oneF s[0].toNat 0), .int .u64 (oneF s[0].toNat 1), .int .u64 (oneF s[0].toNat 2), .int .u64 (oneF s[0].toNat 3)])).run Tryd.prog w = .ok true w) := Lib.hid fun w => equal_words _ _ w true (by simp)
  go_upto_region 18 with (fail)
  obtain ⟨V', hV', Q, HB', hsz'⟩ : ∃ V', V' = U.alloc (.cells (words zero4) 24) ∧ Hid (Quad V' U.heap.size zero4) ∧ Hid (Below U.heap.size U V') ∧ Hid (V'.heap.size = U.heap.size + 1) := ⟨_, rfl, Lib.hid (quad_new U zero4 _), Lib.hid (below_new _ _), Lib.hid (World.size_alloc _ _)⟩
  change Code.wp _ _ _ _ (U.alloc (Obj.cells (words zero4) 24))
  rw [← hV']
  clear hV'
  have hk4 : s[0].toNat / 64 < 4 := by have := UInt8.toNat_lt s[0]; omega
  have hc0 := Q.out.c (s[0].toNat / 64) hk4
  have hz0 := Q.out.z (s[0].toNat / 64) hk4
  have hi1 : (0 : Int) < s.size := by omega
  go_region
  have hpw : IntKind.u64.wrap ((2 : Int) ^ (s[0].toNat % 64)) = ((2 ^ (s[0].toNat % 64) : Nat) : Int) := by
    obtain ⟨pw, hp⟩ : ∃ pw : Nat, pw = 2 ^ (s[0].toNat % 64) := ⟨_, rfl⟩
    have hl : pw < 18446744073709551616 := by rw [hp]; exact pow_lt64 _
    have e2 : ((2 : Int) ^ (s[0].toNat % 64)) = (pw : Int) := by rw [hp]; push_cast; rfl
    rw [e2, ← hp, IntKind.wrap_u64]
    clear hp e2
    omega
  rw [hpw]
  clear hpw hc0 hz0
  obtain ⟨D, hD, QD, BD⟩ : ∃ D, D = (V'.setCell ⟨U.heap.size, s[0].toNat / 64, none⟩ (.int .u64 ((2 ^ (s[0].toNat % 64) : Nat) : Int))).drew ∧ Hid (Quad D U.heap.size (oneF s[0].toNat)) ∧ Hid (Below U.heap.size U D) :=
    ⟨_, rfl, Lib.hid (((Q.out.set hk4 _).congr (g := oneF s[0].toNat) (fun j _ => by unfold oneF zero4; by_cases e : j = s[0].toNat / 64 <;> simp [e])).after (below_drew _)), Lib.hid ((HB'.out.setCell (by simp) _).drew)⟩
  rw [← hD]
  clear hD
  have h8D := (hZ.out.after BD.out).eight
  obtain ⟨d0, d1, d2, d3, d4, d5, d6, d7⟩ := eight_re h8D
  have q0 := QD.out.c 0 (by omega); have q1 := QD.out.c 1 (by omega); have q2 := QD.out.c 2 (by omega); have q3 := QD.out.c 3 (by omega)
  have hq := HQ.out
  clear h8D
  go_wp2_with fail
  go_quiet (fail)
  clear d0 d1 d2 d3 d4 d5 d6 d7 q0 q1 q2 q3 hq
  go_wp2_with fail
  rw [rounds_succ]
  go_wp2_with fail
  refine (HV.out _).mono ?_
  rintro e w5 ⟨rfl, b5⟩
  have B9 := Lib.hid (Below.step (Below.step B5.out (Below.drewN' BD.out _)) b5)
  clear b5
  go_wp2_with fail
  go_ret
  exact ⟨rfl, B9.out⟩

set_option maxRecDepth 100000 in
set_option maxHeartbeats 1000000 in
theorem walk_zero (s : ByteArray) (hs : s.size ≤ 200) (h1 : s.size = 0) (w : World) :
    Calls Tryd.prog 5 #[.string s] w fun e w' => e = .returned (.bool true) ∧ Below w.heap.size w w' := by
  have hsl : s.data.toList.length = s.size := by simp
  have hpl : (⟨(plainL s.data.toList).toArray⟩ : ByteArray).size ≤ 400 := by
    have := plainL_len s.data.toList
    show (plainL s.data.toList).toArray.size ≤ 400
    simp only [List.size_toArray]
    omega
  have HV := Lib.hid (fun w => lives_spec w)
  have HPL := Lib.hid (fun w => plain_spec s hs w)
  have HP := Lib.hid (fun w => parse_go (plainL s.data.toList) (textT s.data.toList) 0 (text_parse _ (by omega)) (by omega) ⟨(plainL s.data.toList).toArray⟩ rfl hpl w)
  have HL := Lib.hid (fun w cs S h => least_spec (textT s.data.toList) _ (text_least _ (by omega)) cs S w h (text_good _ (by omega)))
  rw [hsl] at HL
  have hnil : s.data.toList = [] := List.eq_nil_of_length_eq_zero (by omega)
  have HT : Hid (textT s.data.toList = emptyT) := Lib.hid (by rw [hnil]; rfl)
  rw [HT.out] at HP HL
  clear hnil
  clear hsl hpl
  go_enter Tryd.func5, Tryd.ntmps5
  go_wp2_with fail
  refine (HPL.out _).mono ?_
  rintro e w1 ⟨rfl, b1⟩
  have B1 := Lib.hid b1; clear b1
  go_wp2_with fail
  refine (HP.out _).mono ?_
  rintro e w2 ⟨ds, rfl, hat, b2⟩
  have B2 := Lib.hid (Below.step B1.out b2)
  have A2 := Lib.hid hat
  obtain ⟨a, c, e, _⟩ := hat.opens
  simp only [emptyT, Tree.k, Tree.f, Tree.lo, Tree.hi, Tree.kids, List.length_nil] at e
  subst e
  clear b2 hat
  simp only [reC]
  go_upto_region 5 with (fail)
  obtain ⟨V, hV, hY, hBV, _⟩ := re_box w2 (reC 0 zero4 0 0 (.slice a 0 c))
  change Code.wp _ _ _ _ (w2.alloc (Obj.cells (reC 0 zero4 0 0 (.slice a 0 c)) 27))
  rw [← hV]
  clear hV
  have B3 := Lib.hid (Below.step B2.out hBV.out)
  have H3 := Lib.hid (HL.out V _ _ (A2.out.after hBV.out))
  obtain ⟨c0, c1, c2, c3, c4, c5, c6, c7⟩ := eight_re hY.out.eight
  have hn0 : ((s.size : Int) == 0) = true := beq_iff_eq.2 (by omega)
  have hn1 : decide ((1 : Int) < s.size) = false := decide_eq_false (by omega)
  have hn2 : ((0 : Int) == s.size) = true := beq_iff_eq.2 (by omega)
  have hn3 : ((0 : Int) != s.size) = false := by simp; omega
  clear h1
  go_wp2_with fail
  refine H3.out.mono ?_
  rintro e w3 ⟨rfl, b3⟩
  have Y3 := Lib.hid (hY.out.after b3)
  have B4 := Lib.hid (Below.step B3.out b3)
  clear b3 c0 c1 c2 c3 c4 c5 c6 c7
  obtain ⟨c0, c1, c2, c3, c4, c5, c6, c7⟩ := eight_re Y3.out.eight
  go_upto_region 8 with (fail)
  obtain ⟨U, hU, hZ, hBU, _⟩ := re_box w3 (reC 0 zero4 0 0 (.slice a 0 c))
  change Code.wp _ _ _ _ (w3.alloc (Obj.cells (reC 0 zero4 0 0 (.slice a 0 c)) 27))
  rw [← hU]
  clear hU c0 c1 c2 c3 c4 c5 c6 c7
  have B5 := Lib.hid (Below.step B4.out hBU.out)
  go_wp2_with fail
  refine wp_loop_rounds 1 ?_
  rw [rounds_succ]
  go_wp2_with fail
  refine (HV.out _).mono ?_
  rintro e w5 ⟨rfl, b5⟩
  have B9 := Lib.hid (Below.step (Below.step B5.out (below_new U _)) b5)
  clear b5
  go_wp2_with fail
  go_ret
  exact ⟨rfl, B9.out⟩

theorem walk (s : ByteArray) (_ : s.size ≤ maxLen) (w : World) :
    Calls Tryd.prog 5 #[.string s] w fun e w' => e = .returned (.bool true) ∧ Below w.heap.size w w' := by
  rcases Nat.lt_or_ge 200 s.size with h | h
  · exact walk_long s h w
  · have h3 : s.size = 0 ∨ s.size = 1 ∨ 2 ≤ s.size := by omega
    rcases h3 with h0 | h1 | h2
    · exact walk_zero s h h0 w
    · exact walk_one s h (Lib.hid h1) (by omega) w
    · exact walk_two s h h2 w

theorem laid_met (os : Os) : laidMet Tryd.prog Rows.erePlainRow.laid ((laidWorld os).forCall (fun _ _ => 0) ⟨#[], #[.string ⟨#[]⟩], []⟩).memory :=
  laidMet_of_run' 8 (by kernel_rfl) (by kernel_rfl)
theorem reads (os : Os) {H : Type} (enc : TypeId × Value → H) : ∃ places, DataW.whole enc Tryd.prog ((laidWorld os).forCall (fun _ _ => 0) ⟨#[], #[.string ⟨#[]⟩], []⟩).memory Tryd.f5.params.toList Rows.erePlainSpec.vars false #[.string ⟨#[]⟩].toList 8 = some ([.lit (.string [])], [], places) :=
  ⟨[], by kernel_rfl⟩

set_option maxRecDepth 100000 in
theorem lifted (os : Os) (started : os.Started) (H : Type) (enc : TypeId × Value → H) (F : Stop.Interp) :
    ReturnsInHanded {} Tryd.checked os 5 .any ((OpenSpec.ofChange Rows.erePlainSpec).preRow enc Tryd.prog Tryd.f5 Rows.erePlainRow.domain false Rows.erePlainRow.laid) (((OpenSpec.ofChange Rows.erePlainSpec).at F).post enc Tryd.prog Tryd.f5 false true false false) := by
  obtain ⟨places, hx⟩ := reads os enc
  refine returnsInHanded_of_row (C := Tryd.checked) (s := (OpenSpec.ofChange Rows.erePlainSpec)) own started (by kernel_rfl) Tryd.func5
    (witness_row_at (enc := enc) (C := Tryd.checked) false (laidWorld os) #[.string ⟨#[]⟩] rfl (by kernel_rfl) (by kernel_rfl) (by kernel_rfl)
      (OpenSpec.preRow_of_cond 8 hx (by kernel_rfl) (fun k hk => by cases hk) (by kernel_rfl) (laid_met os))) ?_
  intro W base args ds gs before hval0 hW _ _ _ _ _ _
  have hval : ∀ (j : Nat) t v, Tryd.f5.params[j]? = some t → args[j]? = some v → Value.okWide Tryd.prog W .any base t v := hval0
  have hW' := hW
  obtain ⟨p, q, hA0, hV, rfl, hfz, hnd⟩ := hW
  have hA : DataW.TrodAll enc Tryd.prog W 0 (fun _ => true) true Tryd.f5.params.toList args.toList ds p := hA0
  rw [Tryd.params5] at hA hval
  obtain ⟨v0, vs0, d0, ds0, p0, q0, hargs, rfl, rfl, h0, r0⟩ := trodAll_cons hA
  obtain ⟨rfl, rfl, rfl⟩ := trodAll_nil r0
  obtain rfl : args = #[v0] := by cases args; simp_all
  obtain ⟨rfl, rfl⟩ := trodVars_none hV
  obtain ⟨a0, rfl, rfl, rfl, w0⟩ := open_string Tryd.underlying9 (hval 0 9 v0 rfl rfl) h0
  clear hA0 hval0
  simp only [List.append_nil] at hW'
  refine (walk a0 w0 W).mono fun e W' ⟨he, hg⟩ => ?_
  subst he
  exact ⟨_, rfl, post_bare hW' (fun _ _ _ => (trodAll_cons_mk (shut_bool Tryd.underlying4 _) trodAll_mk0)) (fun sp => (trodAll_cons_mk (shut_string Tryd.underlying9 w0) trodAll_mk0)) (fun _ => rfl) hg⟩

theorem said : Rows.ErePlainSaid :=
  OpenClaim.holds_of_cond 5 Tryd.f5 rfl rfl rfl rfl rfl rfl rfl ⟨rfl, rfl, rfl, rfl, rfl⟩ rfl rfl rfl rfl rfl (by kernel_rfl) Tryd.func5 (by kernel_rfl)
    (of_decide_eq_true (by kernel_rfl)) (by unfold Func.isWrapper; first | (rw [if_pos (by decide +kernel)]; kernel_rfl) | (rw [if_neg (by decide +kernel)]; exact ⟨rfl, rfl⟩))
    (fun os started H enc _ F => by rw [OpenClaim.pre_eq_preRow]; exact lifted os started H enc F)

theorem plain (f : FuncId) (fn : Func) (hf : Tryd.pinned.checked.prog.funcNamed "auklet/aukletlaw05.ErePlain" = some f) (hfn : Tryd.pinned.checked.prog.funcs[f]? = some fn) :
    true = Tryd.pinned.checked.prog.looks [] ∧ ∀ (j : Nat) t, fn.params[j]? = some t → Tryd.pinned.checked.prog.wantsStandIn t = false := by
  obtain rfl : f = 5 := Option.some.inj ((show Tryd.prog.funcNamed "auklet/aukletlaw05.ErePlain" = some 5 by kernel_rfl).symm.trans hf) |>.symm
  obtain rfl : fn = Tryd.f5 := (Option.some.inj (Tryd.func5.symm.trans hfn)).symm
  refine ⟨by kernel_rfl, fun j t ht => ?_⟩
  rw [Tryd.params5] at ht
  have hm := Array.mem_of_getElem? ht
  simp only [List.mem_toArray, List.mem_cons, List.mem_nil_iff, or_false] at hm
  subst hm
  exact (show Tryd.prog.wantsStandIn 9 = false by kernel_rfl)

theorem proved : Rows.ErePlainCardSaid :=
  Claim7.holds_tied_plain_at .later [] _ _ _ _ said (fun _ h => by cases h) (by kernel_rfl) (fun _ h => by cases h) erePlain_row_tie rfl ⟨rfl, rfl⟩ (by kernel_rfl) rfl plain (by kernel_rfl)
#print axioms proved
end Go.Proofs.YtdhndfmblmcapaaDoor.erePlain
