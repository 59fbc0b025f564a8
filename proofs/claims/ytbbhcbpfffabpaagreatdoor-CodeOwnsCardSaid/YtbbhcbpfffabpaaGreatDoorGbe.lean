/- Merged by program: RMakeF, RMakeN. -/
import Derived.Test.YtbbhcbpfffabpaaGreatDoorGay
import Derived.Test.YtbbhcbpfffabpaaGreatDoorGbd
import Derived.Test.YtbbhcbpfffabpaaGreatDoorGae
/- The document's make1 at the letter f: a walk. -/
namespace Go.Proofs.YtbbhcbpfffabpaaGreatDoor
open Go.RowKit

theorem fixed_pos {m : Int} (h : 0 ≤ m) (dg : Int) : ofL (fixedS m dg) = ofL (fixedT m.natAbs (clampN dg)) := by
  unfold fixedS
  rw [if_neg (by omega), List.nil_append]
theorem fixed_neg {m : Int} (h : m < 0) (d : Dir) (dg : Int) : ofL (fixedS m dg) = signS d true ++ ofL (fixedT m.natAbs (clampN dg)) := by
  unfold fixedS
  rw [if_pos h]
  exact T2.bytes_ext (by simp [signS, ofL])
theorem ofL_eq {s : ByteArray} {l : List UInt8} (h : s.data.toList = l) : s = ofL l := by rw [← h, ofL_of]
theorem fixedS_len (m dg : Int) : (fixedS m dg).length ≤ 300 := by
  have h1 := baseS_len 10 false 20 (roundN m.natAbs (clampN dg) / 10 ^ keepN (clampN dg))
  have h2 : (fracT (keepN (clampN dg)) (roundN m.natAbs (clampN dg))).length ≤ 7 := by
    unfold fracT
    split
    · simp
    · rw [List.length_cons, fixT_len]; unfold keepN; omega
  have h3 := clampN_le dg
  unfold fixedS fixedT
  simp only [List.length_append, List.length_replicate]
  split <;> simp <;> omega

set_option maxRecDepth 100000 in
set_option maxHeartbeats 2000000 in
theorem make1_f (d : Dir) (hd : -1 ≤ d.prec ∧ d.prec ≤ 200) (c : Cel) (hc : COk c) (hl : d.letter = 102) (w : World) :
    Calls Tryz.prog 58 #[d.val, c.val] w (StrErr (makeS d c) w) := by
  have H0 := Lib.hid (box10R w d c)
  have HS := Lib.hid (fun W => refCStr_any c hc W)
  have hsz := cstr_size c hc
  have hbs := body_size d c hc
  have HPd := Lib.hid (fun (t : ByteArray) (ht : t.size ≤ 400) (z : Bool) (W : World) => refPad_any t (by omega) d.wide d.left z W)
  have fin : ∀ t e w', makeS d c = t → StrErr t w e w' → StrErr (makeS d c) w e w' := fun t e w' h h2 => by rw [h]; exact h2
  have FIN := Lib.hid fin
  clear fin
  have HN := Lib.hid (fun W => refNum_any c hc W)
  have hnc := num_cases c hc.n
  have hz : zeroB d = d.zero := by unfold zeroB; rw [hl]; simp
  have d1 : ((d.letter : Int) == 99) = false := by rw [hl]; rfl
  have d2 : ((d.letter : Int) == 115) = false := by rw [hl]; rfl
  have d3 : ((d.letter : Int) == 102) = true := by rw [hl]; rfl
  have hbody : bodyS d c = if c.err ≠ 0 then (noTxt, c.err) else (signS d (decide (c.num < 0)) ++ ofL (fixedT c.num.natAbs (clampN (if d.prec = -1 then 6 else d.prec))), 0) := by
    unfold bodyS; rw [if_neg (by omega), if_neg (by omega), if_pos hl]
  obtain ⟨E, hE⟩ : ∃ E, E = c.err := ⟨_, rfl⟩
  obtain ⟨m, hm⟩ : ∃ m, m = c.num := ⟨_, rfl⟩
  rw [← hE, ← hm] at hbody HN hnc
  obtain ⟨P, hP⟩ : ∃ P : Int, P = if d.prec = -1 then 6 else d.prec := ⟨_, rfl⟩
  rw [← hP] at hbody
  have HP := Lib.hid hP
  have HFx := Lib.hid (fun (hf : -9223372036854775808 ≤ m ∧ m ≤ 9223372036854775807) (W : World) => refFixed_any m hf P W)
  have HSg := Lib.hid (fun W => refSign_any d false W)
  unfold Dir.val at HSg ⊢
  unfold Cel.val at HS HN ⊢
  clear hl hE hm hP
  rcases hnc with ⟨rfl, hf⟩ | ⟨rfl, rfl⟩
  · rw [if_neg (by omega)] at hbody
    have HFy := Lib.hid (HFx.out (by unfold T3.Fits at hf; exact hf))
    obtain ⟨X, hX⟩ : ∃ X, X = ofL (fixedS m P) := ⟨_, rfl⟩
    have hXs : X.size ≤ 300 := by rw [hX, ofL_size]; exact fixedS_len m P
    have HXf : Hid (∀ W, Calls Tryz.prog 85 #[.int .i64 m, .int .i64 P] W fun e w' => e = .returned (.string X) ∧ Below W.heap.size W w') := Lib.hid (fun W => (HFy.out W).mono fun e w' ⟨s, h1, h2, h3⟩ => ⟨by rw [h1, ofL_eq h2.out, ← hX], h3⟩)
    obtain ⟨Y, hY⟩ : ∃ Y, Y = signS d (decide (m < 0)) ++ ofL (fixedT m.natAbs (clampN P)) := ⟨_, rfl⟩
    rw [← hY] at hbody
    have hYs : Y.size ≤ 400 := by rw [hbody] at hbs; exact hbs
    have HR : Hid (makeS d c = (padS Y d.wide d.left d.zero, 0)) := Lib.hid (by rw [make_good hbody, hz])
    have HXY : Hid (if 0 ≤ m then Y = signS d false ++ X else Y = X) := Lib.hid (by
      by_cases h0 : 0 ≤ m
      · rw [if_pos h0, hY, hX, fixed_pos h0, decide_eq_false (by omega)]
      · rw [if_neg h0, hY, hX, fixed_neg (by omega) d, decide_eq_true (by omega)])
    have hsg : (signS d false).size ≤ 1 := by unfold signS; rw [if_neg (by decide)]; split; exact Nat.le_refl _; split; exact Nat.le_refl _; exact Nat.zero_le _
    clear hbody hz hX hY hf HFy HFx
    go_enter Tryz.func58, Tryz.ntmps58
    go_wp2_with fail
    refine (HS.out _).mono ?_
    rintro e w1 ⟨rfl, b1⟩
    have K1 := Lib.hid (keep10 H0.out b1)
    obtain ⟨_, c0, c1, c2, c3, c4, c5, c6, e0, e1, e2⟩ := K1.out
    have B1 := Lib.hid K1.out.1.out
    clear b1
    go_wp2_with fail
    refine (HN.out _).mono ?_
    rintro e w2 ⟨rfl, b2⟩
    have K2 := Lib.hid (keep10 K1.out b2)
    clear c0 c1 c2 c3 c4 c5 c6 e0 e1 e2
    obtain ⟨_, c0, c1, c2, c3, c4, c5, c6, e0, e1, e2⟩ := K2.out
    have B2 := Lib.hid K2.out.1.out
    clear b2
    go_upto_region 32 with (fail)
    go_step
    go_upto_if 123 with (fail)
    go_cut [11] (fun v wx => v = .int .i64 P ∧ wx = w2)
    case first =>
      by_cases hp : d.prec = -1
      · have d4 : decide (d.prec < 0) = true := decide_eq_true (by omega)
        have e1 : Hid (P = 6) := Lib.hid (by rw [HP.out, if_pos hp])
        go_wp2_with fail
        go_meet
        exact ⟨by rw [e1.out], rfl⟩
      · have d4 : decide (d.prec < 0) = false := decide_eq_false (by omega)
        have e1 : Hid (P = d.prec) := Lib.hid (by rw [HP.out, if_neg hp])
        go_wp2_with fail
        go_meet
        exact ⟨by rw [e1.out], rfl⟩
    case rest =>
    obtain ⟨rfl, hw1⟩ := hcut
    subst hw1
    go_step
    go_upto_region 35 with (fail)
    go_region_held3 (fun w' => Hid (Below w.heap.size w w') ∧ w'.cell? ⟨w.heap.size, 0, none⟩ = some (.bool d.left) ∧ w'.cell? ⟨w.heap.size, 1, none⟩ = some (.bool d.plus) ∧ w'.cell? ⟨w.heap.size, 2, none⟩ = some (.bool d.blank) ∧ w'.cell? ⟨w.heap.size, 3, none⟩ = some (.bool d.zero) ∧ w'.cell? ⟨w.heap.size, 4, none⟩ = some (.int .i64 d.wide) ∧ w'.cell? ⟨w.heap.size, 5, none⟩ = some (.int .i64 d.prec) ∧ w'.cell? ⟨w.heap.size, 6, none⟩ = some (.int .u8 (d.letter : Int)) ∧ w'.cell? ⟨w.heap.size + 1, 0, none⟩ = some (.int .i64 c.k) ∧ w'.cell? ⟨w.heap.size + 1, 1, none⟩ = some (.int .i64 c.n) ∧ w'.cell? ⟨w.heap.size + 1, 2, none⟩ = some (.string c.s)) (first | exact keep10 K2.out (below_drew _) | exact keep10 (by assumption) (by assumption) | assumption)
      (first | (go_at_call 85; refine (HXf.out _).mono ?_; rintro e v1 ⟨rfl, a1⟩))
    have K3 := Lib.hid (show Hid (Below w.heap.size w v1) ∧ v1.cell? ⟨w.heap.size, 0, none⟩ = some (.bool d.left) ∧ v1.cell? ⟨w.heap.size, 1, none⟩ = some (.bool d.plus) ∧ v1.cell? ⟨w.heap.size, 2, none⟩ = some (.bool d.blank) ∧ v1.cell? ⟨w.heap.size, 3, none⟩ = some (.bool d.zero) ∧ v1.cell? ⟨w.heap.size, 4, none⟩ = some (.int .i64 d.wide) ∧ v1.cell? ⟨w.heap.size, 5, none⟩ = some (.int .i64 d.prec) ∧ v1.cell? ⟨w.heap.size, 6, none⟩ = some (.int .u8 (d.letter : Int)) ∧ v1.cell? ⟨w.heap.size + 1, 0, none⟩ = some (.int .i64 c.k) ∧ v1.cell? ⟨w.heap.size + 1, 1, none⟩ = some (.int .i64 c.n) ∧ v1.cell? ⟨w.heap.size + 1, 2, none⟩ = some (.string c.s) by assumption)
    clear c0 c1 c2 c3 c4 c5 c6 e0 e1 e2
    obtain ⟨_, c0, c1, c2, c3, c4, c5, c6, e0, e1, e2⟩ := K3.out
    have B3 := Lib.hid K3.out.1.out
    by_cases h0 : 0 ≤ m
    · have d5 : decide (0 ≤ m) = true := decide_eq_true h0
      have HYX : Hid (Y = signS d false ++ X) := Lib.hid (by have := HXY.out; rwa [if_pos h0] at this)
      have HR2 : Hid (makeS d c = (padS (signS d false ++ X) d.wide d.left d.zero, 0)) := Lib.hid (by rw [HR.out, HYX.out])
      have n1 : ¬ 9223372036854775807 < (signS d false).size + X.size := by omega
      have ht : (signS d false ++ X).size ≤ 400 := by rw [ByteArray.size_append]; omega
      clear HXY HYX HR
      go_wp2_with fail
      refine (HSg.out _).mono ?_
      rintro e w4 ⟨rfl, b4⟩
      have K4 := Lib.hid (keep10 K3.out b4)
      clear c0 c1 c2 c3 c4 c5 c6 e0 e1 e2
      obtain ⟨_, c0, c1, c2, c3, c4, c5, c6, e0, e1, e2⟩ := K4.out
      have B4 := Lib.hid K4.out.1.out
      clear b4
      go_wp2_with fail
      refine (HPd.out _ ht _ _).mono ?_
      rintro e w9 ⟨rfl, b9⟩
      have B9 := Lib.hid (Below.step B4.out b9)
      clear b9
      go_wp2_with fail
      go_ret2
      exact FIN.out _ _ _ HR2.out ⟨rfl, B9.out⟩
    · have d5 : decide (0 ≤ m) = false := decide_eq_false h0
      have HYX : Hid (Y = X) := Lib.hid (by have := HXY.out; rwa [if_neg h0] at this)
      have HR2 : Hid (makeS d c = (padS X d.wide d.left d.zero, 0)) := Lib.hid (by rw [HR.out, HYX.out])
      have ht : X.size ≤ 400 := by omega
      clear HXY HYX HR
      go_wp2_with fail
      refine (HPd.out _ ht _ _).mono ?_
      rintro e w9 ⟨rfl, b9⟩
      have B9 := Lib.hid (Below.step B3.out b9)
      clear b9
      go_wp2_with fail
      go_ret2
      exact FIN.out _ _ _ HR2.out ⟨rfl, B9.out⟩
  · rw [if_pos (by omega)] at hbody
    have HR : Hid (makeS d c = (noTxt, 10)) := Lib.hid (make_bad hbody (by decide))
    clear hbody hz HFx
    go_enter Tryz.func58, Tryz.ntmps58
    go_wp2_with fail
    refine (HS.out _).mono ?_
    rintro e w1 ⟨rfl, b1⟩
    have K1 := Lib.hid (keep10 H0.out b1)
    obtain ⟨_, c0, c1, c2, c3, c4, c5, c6, e0, e1, e2⟩ := K1.out
    have B1 := Lib.hid K1.out.1.out
    clear b1
    go_wp2_with fail
    refine (HN.out _).mono ?_
    rintro e w2 ⟨rfl, b2⟩
    have B2 := Lib.hid (Below.step B1.out b2)
    clear b2
    go_wp2_with fail
    go_ret2
    exact FIN.out _ _ _ HR.out ⟨rfl, B2.out⟩
end Go.Proofs.YtbbhcbpfffabpaaGreatDoor

/- The document's make1 at the letters of whole numbers: a walk. -/
namespace Go.Proofs.YtbbhcbpfffabpaaGreatDoor
open Go.RowKit

/-- The base that a letter asks for. -/
def baseD (d : Dir) : Nat := if d.letter = 111 then 8 else if d.letter = 120 ∨ d.letter = 88 then 16 else 10
theorem body_whole (d : Dir) (c : Cel) (h1 : d.letter ≠ 99) (h2 : d.letter ≠ 115) (h3 : d.letter ≠ 102) :
    bodyS d c = if c.err ≠ 0 then (noTxt, c.err) else (if baseD d = 10 then signS d (decide (c.num ≤ -1000000)) ++ digS c.num 10 false d.prec else digS c.num (baseD d) (d.letter == 88) d.prec, 0) := by
  unfold bodyS baseD
  rw [if_neg h1, if_neg h2, if_neg h3]
  by_cases he : c.err ≠ 0
  · rw [if_pos he, if_pos he]
  · rw [if_neg he, if_neg he]
    by_cases g1 : d.letter = 111
    · rw [if_pos g1, if_pos g1, if_neg (show ¬ (8 : Nat) = 10 by decide), beq_eq_false_iff_ne.2 (show ¬ d.letter = 88 by omega)]
    · rw [if_neg g1, if_neg g1]
      by_cases g2 : d.letter = 120
      · rw [if_pos g2, if_pos (Or.inl g2), if_neg (show ¬ (16 : Nat) = 10 by decide), beq_eq_false_iff_ne.2 (show ¬ d.letter = 88 by omega)]
      · rw [if_neg g2]
        by_cases g3 : d.letter = 88
        · rw [if_pos g3, if_pos (Or.inr g3), if_neg (show ¬ (16 : Nat) = 10 by decide), beq_iff_eq.2 g3]
        · rw [if_neg g3, if_neg (show ¬ (d.letter = 120 ∨ d.letter = 88) by omega), if_pos rfl]
theorem whole_zero {m : Int} (hm : T3.Fits m) {b : Nat} (hb : b = 8 ∨ b = 10 ∨ b = 16) (g : Bool) : wholeS m b g = [48] ↔ m.tdiv 1000000 = 0 := by
  have hq := tdiv_bd m hm
  unfold wholeS
  constructor
  · intro h
    have hw : wholeN m b < b := by
      rcases Nat.lt_or_ge (wholeN m b) b with h0 | h0
      · exact h0
      · exfalso
        have e : baseS b g 64 (wholeN m b) = baseS b g 63 (wholeN m b / b) ++ [bdig g (wholeN m b % b)] := by
          show (if _ then _ else _) = _
          rw [if_neg (by omega)]
        have h2 : 1 ≤ (baseS b g 63 (wholeN m b / b)).length := by
          show 1 ≤ (if _ then _ else _ : List UInt8).length
          split <;> simp
        rw [e] at h
        have h3 := congrArg List.length h
        simp only [List.length_append, List.length_singleton] at h3
        omega
    have e : baseS b g 64 (wholeN m b) = [bdig g (wholeN m b)] := by
      show (if _ then _ else _) = _
      rw [if_pos hw]
    rw [e] at h
    injection h with h _
    have h0 : wholeN m b = 0 := by
      have hw16 : wholeN m b < 16 := by omega
      generalize wholeN m b = x at h hw16
      revert h
      have : ∀ x : Fin 16, bdig g x.val = 48 → x.val = 0 := by cases g <;> decide
      exact this ⟨x, hw16⟩
    unfold wholeN at h0
    split at h0 <;> omega
  · intro h
    have e : wholeN m b = 0 := by unfold wholeN; rw [h]; split <;> rfl
    rw [e]
    show (if _ then _ else _) = _
    rw [if_pos (by omega)]
    cases g <;> rfl

set_option maxRecDepth 100000 in
set_option maxHeartbeats 2000000 in
theorem make1_n (d : Dir) (hd : -1 ≤ d.prec ∧ d.prec ≤ 200) (c : Cel) (hc : COk c) (h1 : d.letter ≠ 99) (h2 : d.letter ≠ 115) (h3 : d.letter ≠ 102) (w : World) :
    Calls Tryz.prog 58 #[d.val, c.val] w (StrErr (makeS d c) w) := by
  have H0 := Lib.hid (box10R w d c)
  have HS := Lib.hid (fun W => refCStr_any c hc W)
  have hsz := cstr_size c hc
  have hbs := body_size d c hc
  have HPd := Lib.hid (fun (t : ByteArray) (ht : t.size ≤ 400) (z : Bool) (W : World) => refPad_any t (by omega) d.wide d.left z W)
  have fin : ∀ t e w', makeS d c = t → StrErr t w e w' → StrErr (makeS d c) w e w' := fun t e w' h h2 => by rw [h]; exact h2
  have FIN := Lib.hid fin
  clear fin
  have HN := Lib.hid (fun W => refNum_any c hc W)
  have hnc := num_cases c hc.n
  have hz : zeroB d = (d.zero && (d.prec == -1)) := by unfold zeroB; rw [if_neg h3, if_neg (by omega)]
  have d1 : ((d.letter : Int) == 99) = false := beq_eq_false_iff_ne.2 (by omega)
  have d2 : ((d.letter : Int) == 115) = false := beq_eq_false_iff_ne.2 (by omega)
  have d3 : ((d.letter : Int) == 102) = false := beq_eq_false_iff_ne.2 (by omega)
  have hbody := body_whole d c h1 h2 h3
  obtain ⟨E, hE⟩ : ∃ E, E = c.err := ⟨_, rfl⟩
  obtain ⟨m, hm⟩ : ∃ m, m = c.num := ⟨_, rfl⟩
  rw [← hE, ← hm] at hbody HN hnc
  obtain ⟨b, hb⟩ : ∃ b, b = baseD d := ⟨_, rfl⟩
  have HBs : Hid (b = if d.letter = 111 then 8 else if d.letter = 120 ∨ d.letter = 88 then 16 else 10) := Lib.hid hb
  have hb3 : b = 8 ∨ b = 10 ∨ b = 16 := by rw [hb]; unfold baseD; split; exact Or.inl rfl; split; exact Or.inr (Or.inr rfl); exact Or.inr (Or.inl rfl)
  have hbg : b = 10 → (d.letter == 88) = false := by
    intro e; rw [hb] at e; unfold baseD at e
    refine beq_eq_false_iff_ne.2 (fun e2 => ?_)
    rw [if_neg (by omega), if_pos (Or.inr e2)] at e
    omega
  rw [← hb] at hbody
  have hbq : ((d.letter : Int) == 88) = (d.letter == 88) := by
    rw [Bool.eq_iff_iff, beq_iff_eq, beq_iff_eq]; omega
  obtain ⟨G, hG⟩ : ∃ G, G = (d.letter == 88) := ⟨_, rfl⟩
  rw [← hG] at hbody hbg hbq
  have HSg := Lib.hid (fun (x : Bool) W => refSign_any d x W)
  have hsg : ∀ x, (signS d x).size ≤ 1 := by
    intro x
    unfold signS
    split; exact Nat.le_refl _; split; exact Nat.le_refl _; split; exact Nat.le_refl _; exact Nat.zero_le _
  unfold Dir.val at HSg ⊢
  unfold Cel.val at HS HN ⊢
  clear hE hm hb hG h1 h2 h3
  rcases hnc with ⟨rfl, hf⟩ | ⟨rfl, rfl⟩
  · rw [if_neg (by omega)] at hbody
    obtain ⟨L, hL⟩ : ∃ L, L = wholeS m b G := ⟨_, rfl⟩
    have hLlen : L.length ≤ 64 := by rw [hL]; exact baseS_len _ _ _ _
    have HW : Hid (∀ W, Calls Tryz.prog 87 #[.int .i64 m, .int .i64 b, .bool G] W fun e w' => e = .returned (.string (ofL L)) ∧ Below W.heap.size W w') := Lib.hid (fun W => (whole_any10 m (by unfold T3.Fits at hf; exact hf) b (by omega) G W).mono fun e w' ⟨s, h1, h2, h3⟩ => ⟨by rw [h1, ofL_eq h2.out, ← hL], h3⟩)
    obtain ⟨Z, hZ⟩ : ∃ Z : Bool, Z = decide (d.prec = 0 ∧ L = [48]) := ⟨_, rfl⟩
    have hZq : (d.prec = 0 ∧ m.tdiv 1000000 = 0) ↔ Z = true := by
      rw [hZ, decide_eq_true_iff, hL, whole_zero hf hb3 G]
    obtain ⟨T, hT⟩ : ∃ T, T = if Z then noTxt else ofL L := ⟨_, rfl⟩
    have hTs : T.size ≤ 64 := by
      rw [hT]; split
      · exact Nat.zero_le _
      · rw [ofL_size]; exact hLlen
    obtain ⟨R, hR⟩ : ∃ R, R = fillS 48 (d.prec - (T.size : Int)).toNat ++ T := ⟨_, rfl⟩
    have hRd : digS m b G d.prec = R := by
      unfold digS
      rw [hR, hT]
      by_cases hz2 : Z = true
      · rw [if_pos (hZq.2 hz2), if_pos hz2, (hZq.2 hz2).1]
        rfl
      · rw [if_neg (fun h => hz2 (hZq.1 h)), if_neg hz2, ofL_size, ← hL]
        have e : (d.prec - (L.length : Int)).toNat = clampN d.prec - L.length := by
          unfold clampN; split; omega; split <;> omega
        rw [e]
    have hRs : R.size ≤ 300 := by rw [hR, ByteArray.size_append, fillS_size]; omega
    obtain ⟨Y, hY⟩ : ∃ Y, Y = if b = 10 then signS d (decide (m ≤ -1000000)) ++ R else R := ⟨_, rfl⟩
    have hYb : bodyS d c = (Y, 0) := by
      rw [hbody, hY]
      by_cases h10 : b = 10
      · rw [if_pos h10, if_pos h10, ← hRd, hbg h10, h10]
      · rw [if_neg h10, if_neg h10, hRd]
    have hYs : Y.size ≤ 400 := by rw [hYb] at hbs; exact hbs
    obtain ⟨z, hzz⟩ : ∃ z, z = (d.zero && (d.prec == -1)) := ⟨_, rfl⟩
    have HR : Hid (makeS d c = (padS Y d.wide d.left z, 0)) := Lib.hid (by rw [make_good hYb, hz, hzz])
    have HT := Lib.hid hT
    have HZ := Lib.hid hZ
    have HRR := Lib.hid hR
    have HY := Lib.hid hY
    have HZZ := Lib.hid hzz
    clear hbody hz hYb hRd hZq hT hZ hR hY hzz hL hbg hbs hf
    go_enter Tryz.func58, Tryz.ntmps58
    go_wp2_with fail
    refine (HS.out _).mono ?_
    rintro e w1 ⟨rfl, b1⟩
    have K1 := Lib.hid (keep10 H0.out b1)
    obtain ⟨_, c0, c1, c2, c3, c4, c5, c6, e0, e1, e2⟩ := K1.out
    have B1 := Lib.hid K1.out.1.out
    clear b1
    go_wp2_with fail
    refine (HN.out _).mono ?_
    rintro e w2 ⟨rfl, b2⟩
    have K2 := Lib.hid (keep10 K1.out b2)
    clear c0 c1 c2 c3 c4 c5 c6 e0 e1 e2
    obtain ⟨_, c0, c1, c2, c3, c4, c5, c6, e0, e1, e2⟩ := K2.out
    have B2 := Lib.hid K2.out.1.out
    clear b2
    go_upto_region 6 with (fail)
    go_step
    go_upto_region 7 with (fail)
    go_step
    go_simp
    go_upto_if 29 with (fail)
    go_cut [14] (fun v wx => v = .int .i64 (b : Int) ∧ wx = w2)
    case first =>
      by_cases g1 : d.letter = 111
      · have d4 : ((d.letter : Int) == 111) = true := by rw [g1]; rfl
        have e9 : Hid (b = 8) := Lib.hid (by rw [HBs.out, if_pos g1])
        clear g1
        go_wp2_with fail
        go_meet
        exact ⟨by rw [e9.out]; rfl, rfl⟩
      · have d4 : ((d.letter : Int) == 111) = false := beq_eq_false_iff_ne.2 (by omega)
        by_cases g2 : d.letter = 120
        · have d5 : ((d.letter : Int) == 120) = true := by rw [g2]; rfl
          have e9 : Hid (b = 16) := Lib.hid (by rw [HBs.out, if_neg g1, if_pos (Or.inl g2)])
          clear g1 g2
          go_wp2_with fail
          go_meet
          exact ⟨by rw [e9.out]; rfl, rfl⟩
        · have d5 : ((d.letter : Int) == 120) = false := beq_eq_false_iff_ne.2 (by omega)
          by_cases g3 : d.letter = 88
          · have d6 : ((d.letter : Int) == 88) = true := by rw [g3]; rfl
            have e9 : Hid (b = 16) := Lib.hid (by rw [HBs.out, if_neg g1, if_pos (Or.inr g3)])
            clear g1 g2 g3 hbq
            go_wp2_with fail
            go_meet
            exact ⟨by rw [e9.out]; rfl, rfl⟩
          · have d6 : ((d.letter : Int) == 88) = false := beq_eq_false_iff_ne.2 (by omega)
            have e9 : Hid (b = 10) := Lib.hid (by rw [HBs.out, if_neg g1, if_neg (show ¬ (d.letter = 120 ∨ d.letter = 88) by omega)])
            clear g1 g2 g3 hbq
            go_wp2_with fail
            go_meet
            exact ⟨by rw [e9.out]; rfl, rfl⟩
    case rest =>
    obtain ⟨rfl, hw1⟩ := hcut
    subst hw1
    go_step
    go_wp2_with fail
    refine (HW.out _).mono ?_
    rintro e w3 ⟨rfl, b3⟩
    have K3 := Lib.hid (keep10 K2.out b3)
    clear c0 c1 c2 c3 c4 c5 c6 e0 e1 e2
    obtain ⟨_, c0, c1, c2, c3, c4, c5, c6, e0, e1, e2⟩ := K3.out
    have B3 := Lib.hid K3.out.1.out
    clear b3
    go_upto_region 12 with (fail)
    go_cut [50] (fun x wx => x = .bool Z ∧ wx = w3)
    case first =>
      by_cases g1 : d.prec = 0
      · have d4 : (d.prec == 0) = true := beq_iff_eq.2 g1
        by_cases g2 : L = [48]
        · have d6 : (ofL L).toList = [48] := by rw [Lib.toList_data, ofL_list, g2]
          have d5 : ((ofL L).toList == [48]) = true := by rw [d6]; rfl
          have e9 : Hid (Z = true) := Lib.hid (by rw [HZ.out]; exact decide_eq_true ⟨g1, g2⟩)
          clear g1 g2
          go_wp2_with fail
          go_meet
          exact ⟨by rw [e9.out], rfl⟩
        · have hne : (ofL L).toList ≠ [48] := fun h => g2 (by
            rwa [Lib.toList_data, ofL_list] at h)
          have d5 : ((ofL L).toList == [48]) = false := beq_eq_false_iff_ne.2 hne
          have e9 : Hid (Z = false) := Lib.hid (by rw [HZ.out]; exact decide_eq_false (fun h => g2 h.2))
          clear g1 g2
          go_wp2_with fail
          go_meet
          exact ⟨by rw [e9.out], rfl⟩
      · have d4 : (d.prec == 0) = false := beq_eq_false_iff_ne.2 g1
        have e9 : Hid (Z = false) := Lib.hid (by rw [HZ.out]; exact decide_eq_false (fun h => g1 h.1))
        clear g1
        go_wp2_with fail
        go_meet
        exact ⟨by rw [e9.out], rfl⟩
    case rest =>
    obtain ⟨rfl, hw1⟩ := hcut
    subst hw1
    go_step
    go_upto_if 50 with (fail)
    go_cut [6] (fun x wx => x = .string T ∧ wx = wc)
    case first =>
      cases Z with
      | true =>
        have e9 : Hid (T = ⟨#[]⟩) := Lib.hid (by rw [HT.out]; rfl)
        go_wp2_with fail
        go_meet
        exact ⟨by rw [e9.out], rfl⟩
      | false =>
        have e9 : Hid (T = ofL L) := Lib.hid (by rw [HT.out]; rfl)
        go_wp2_with fail
        go_meet
        exact ⟨by rw [e9.out], rfl⟩
    case rest =>
    obtain ⟨rfl, hw1⟩ := hcut
    subst hw1
    go_step
    have HFl : Hid (∀ W, Calls Tryz.prog 88 #[.string ⟨#[48]⟩, .int .i64 (d.prec - (T.size : Int))] W fun e w' => e = .returned (.string (fillS 48 (d.prec - (T.size : Int)).toNat)) ∧ w' = W) := Lib.hid (fun W => (fill_any 48 (d.prec - (T.size : Int)) (by omega) W).mono fun e w' ⟨h1, h2⟩ => ⟨by rw [h1]; rfl, h2⟩)
    obtain ⟨FQ, hFQ⟩ : ∃ FQ, FQ = fillS 48 (d.prec - (T.size : Int)).toNat := ⟨_, rfl⟩
    have hFs : FQ.size ≤ 200 := by rw [hFQ, fillS_size]; omega
    rw [← hFQ] at HFl HRR
    have n1 : ¬ 9223372036854775807 < FQ.size + T.size := by omega
    have n2 : ∀ x, ¬ 9223372036854775807 < (signS d x).size + R.size := fun x => by have := hsg x; omega
    clear hFQ
    go_upto_region 14 with (fail)
    go_step
    go_wp2_with fail
    refine (HFl.out _).mono ?_
    rintro e w5 ⟨rfl, rfl⟩
    go_upto_if 60 with (fail)
    rw [← HRR.out]
    go_cut [6] (fun x wx => x = .string Y ∧ (Hid (Below w.heap.size w wx) ∧ wx.cell? ⟨w.heap.size, 0, none⟩ = some (.bool d.left) ∧ wx.cell? ⟨w.heap.size, 1, none⟩ = some (.bool d.plus) ∧ wx.cell? ⟨w.heap.size, 2, none⟩ = some (.bool d.blank) ∧ wx.cell? ⟨w.heap.size, 3, none⟩ = some (.bool d.zero) ∧ wx.cell? ⟨w.heap.size, 4, none⟩ = some (.int .i64 d.wide) ∧ wx.cell? ⟨w.heap.size, 5, none⟩ = some (.int .i64 d.prec) ∧ wx.cell? ⟨w.heap.size, 6, none⟩ = some (.int .u8 (d.letter : Int)) ∧ wx.cell? ⟨w.heap.size + 1, 0, none⟩ = some (.int .i64 c.k) ∧ wx.cell? ⟨w.heap.size + 1, 1, none⟩ = some (.int .i64 c.n) ∧ wx.cell? ⟨w.heap.size + 1, 2, none⟩ = some (.string c.s)))
    case first =>
      by_cases h10 : b = 10
      · have d8 : ((b : Int) == 10) = true := by rw [h10]; rfl
        have HY2 : Hid (Y = signS d (decide (m ≤ -1000000)) ++ R) := Lib.hid (by rw [HY.out, if_pos h10])
        have n3 := n2 (decide (m ≤ -1000000))
        clear h10
        go_wp2_with fail
        refine (HSg.out _ _).mono ?_
        rintro e w6 ⟨rfl, b6⟩
        have K6 := keep10 K3.out b6
        clear b6
        go_wp2_with fail
        go_meet
        exact ⟨by rw [HY2.out], K6⟩
      · have d8 : ((b : Int) == 10) = false := beq_eq_false_iff_ne.2 (by omega)
        have HY2 : Hid (Y = R) := Lib.hid (by rw [HY.out, if_neg h10])
        clear h10
        go_wp2_with fail
        go_meet
        exact ⟨by rw [HY2.out], K3.out⟩
    case rest =>
    obtain ⟨rfl, hbx⟩ := hcut
    have K7 := Lib.hid hbx
    clear c0 c1 c2 c3 c4 c5 c6 e0 e1 e2 hbx
    obtain ⟨_, c0, c1, c2, c3, c4, c5, c6, e0, e1, e2⟩ := K7.out
    have B7 := Lib.hid K7.out.1.out
    go_step
    cases hdz : d.zero with
    | true =>
      rw [hdz] at c3
      by_cases hp : d.prec = -1
      · have d9 : decide (d.prec < 0) = true := decide_eq_true (by omega)
        have e9 : Hid (z = true) := Lib.hid (by rw [HZZ.out, hdz, hp]; rfl)
        have HR2 : Hid (makeS d c = (padS Y d.wide d.left true, 0)) := Lib.hid (by rw [HR.out, e9.out])
        clear hp e9 hdz
        go_wp2_with fail
        refine (HPd.out _ hYs _ _).mono ?_
        rintro e w9 ⟨rfl, b9⟩
        have B9 := Lib.hid (Below.step B7.out b9)
        clear b9
        go_wp2_with fail
        go_ret2
        exact FIN.out _ _ _ HR2.out ⟨rfl, B9.out⟩
      · have d9 : decide (d.prec < 0) = false := decide_eq_false (by omega)
        have e9 : Hid (z = false) := Lib.hid (by rw [HZZ.out, hdz, beq_eq_false_iff_ne.2 hp]; rfl)
        have HR2 : Hid (makeS d c = (padS Y d.wide d.left false, 0)) := Lib.hid (by rw [HR.out, e9.out])
        clear hp e9 hdz
        go_wp2_with fail
        refine (HPd.out _ hYs _ _).mono ?_
        rintro e w9 ⟨rfl, b9⟩
        have B9 := Lib.hid (Below.step B7.out b9)
        clear b9
        go_wp2_with fail
        go_ret2
        exact FIN.out _ _ _ HR2.out ⟨rfl, B9.out⟩
    | false =>
      rw [hdz] at c3
      have e9 : Hid (z = false) := Lib.hid (by rw [HZZ.out, hdz]; rfl)
      have HR2 : Hid (makeS d c = (padS Y d.wide d.left false, 0)) := Lib.hid (by rw [HR.out, e9.out])
      clear e9 hdz
      go_wp2_with fail
      refine (HPd.out _ hYs _ _).mono ?_
      rintro e w9 ⟨rfl, b9⟩
      have B9 := Lib.hid (Below.step B7.out b9)
      clear b9
      go_wp2_with fail
      go_ret2
      exact FIN.out _ _ _ HR2.out ⟨rfl, B9.out⟩
  · rw [if_pos (by omega)] at hbody
    have HR : Hid (makeS d c = (noTxt, 10)) := Lib.hid (make_bad hbody (by decide))
    clear hbody hz
    go_enter Tryz.func58, Tryz.ntmps58
    go_wp2_with fail
    refine (HS.out _).mono ?_
    rintro e w1 ⟨rfl, b1⟩
    have K1 := Lib.hid (keep10 H0.out b1)
    obtain ⟨_, c0, c1, c2, c3, c4, c5, c6, e0, e1, e2⟩ := K1.out
    have B1 := Lib.hid K1.out.1.out
    clear b1
    go_wp2_with fail
    refine (HN.out _).mono ?_
    rintro e w2 ⟨rfl, b2⟩
    have B2 := Lib.hid (Below.step B1.out b2)
    clear b2
    go_wp2_with fail
    go_ret2
    exact FIN.out _ _ _ HR.out ⟨rfl, B2.out⟩
end Go.Proofs.YtbbhcbpfffabpaaGreatDoor
