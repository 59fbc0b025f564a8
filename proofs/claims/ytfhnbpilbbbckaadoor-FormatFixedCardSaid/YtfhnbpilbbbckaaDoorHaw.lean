/- Merged by program: NumP, BodyP. -/
import Derived.Test.YtfhnbpilbbbckaaDoorHav
/- format.directive's number: a walk. -/
namespace Go.Proofs.YtfhnbpilbbbckaaDoor
open Go.RowKit

theorem trim_minus (t : List UInt8) : Lib.trimPrefix ([45] ++ t) [45] = t := by
  simp [Lib.trimPrefix, Lib.hasPrefix, List.isPrefixOf]
theorem trim_none (b : UInt8) (t : List UInt8) (h : b ≠ 45) : Lib.trimPrefix (b :: t) [45] = b :: t := by
  have e : (45 == b) = false := beq_eq_false_iff_ne.2 (fun e => h e.symm)
  simp [Lib.trimPrefix, Lib.hasPrefix, List.isPrefixOf, e]
theorem fixedT_head (a many : Nat) : ∃ b t, fixedT a many = b :: t ∧ b ≠ 45 := by
  have hp := baseS_pos 10 false 19 (roundN a many / 10 ^ keepN many)
  have hd := baseS_dig 10 (by omega) (by omega) false 20 (roundN a many / 10 ^ keepN many)
  unfold fixedT
  cases e : baseS 10 false 20 (roundN a many / 10 ^ keepN many) with
  | nil => rw [e] at hp; simp at hp
  | cons b l =>
    rw [e] at hd
    refine ⟨b, l ++ fracT (keepN many) (roundN a many) ++ List.replicate (many - keepN many) 48, by simp, fun hb => ?_⟩
    have := (hd b (by simp)).2.1
    rw [hb] at this
    exact this (by decide)
theorem trim_fixed (n dg : Int) : Lib.trimPrefix (fixedS n dg) [45] = fixedT n.natAbs (clampN dg) := by
  unfold fixedS
  split
  · exact trim_minus _
  · obtain ⟨b, t, h1, h2⟩ := fixedT_head n.natAbs (clampN dg)
    rw [List.nil_append, h1]
    exact trim_none b t h2
theorem fixedT_len (a many : Nat) (h : many ≤ 200) : (fixedT a many).length ≤ 300 := by
  unfold fixedT fracT
  have h1 := baseS_len 10 false 20 (roundN a many / 10 ^ keepN many)
  have h2 : keepN many ≤ 6 := by unfold keepN; omega
  rw [List.length_append, List.length_append]
  split
  · simp; omega
  · rw [List.length_cons, fixT_len]; simp; omega
theorem signS_size (d : Dir) (m : Bool) : (signS d m).size ≤ 1 := by
  unfold signS
  split
  · exact Nat.le_refl _
  split
  · exact Nat.le_refl _
  split
  · exact Nat.le_refl _
  · exact Nat.zero_le _
theorem digS_size (n : Int) (b : Nat) (g : Bool) (p : Int) : (digS n b g p).size ≤ 264 := by
  have h1 : (wholeS n b g).length ≤ 64 := baseS_len _ _ _ _
  have h2 := clampN_le p
  unfold digS
  split
  · exact Nat.zero_le _
  · rw [ByteArray.size_append, fillS_size, ofL_size]; omega

/-- What a directive makes of a number. -/
def numS (d : Dir) (n : Int) : ByteArray :=
  if d.letter = 102 then signS d (decide (n < 0)) ++ ofL (fixedT n.natAbs (clampN (manyF d)))
  else if d.letter = 111 then digS n 8 false d.prec
  else if d.letter = 120 then digS n 16 false d.prec
  else if d.letter = 88 then digS n 16 true d.prec
  else signS d (decide (n ≤ -1000000)) ++ digS n 10 false d.prec
theorem int_sign (n : Int) (hn : T3.Fits n) : decide (n.tdiv 1000000 * 1000000 < 0) = decide (n ≤ -1000000) := by
  have h := Int.tmod_add_mul_tdiv n 1000000
  obtain ⟨h1, _⟩ := tmod_near' n hn
  rw [decide_eq_decide]
  by_cases h0 : 0 ≤ n
  · have := Int.tdiv_eq_ediv_of_nonneg h0 (b := 1000000)
    omega
  · have e : n.tdiv 1000000 = -((-n) / 1000000) := by rw [← Int.tdiv_eq_ediv_of_nonneg (by omega), Int.neg_tdiv, Int.neg_neg]
    omega

set_option maxRecDepth 100000 in
set_option maxHeartbeats 2000000 in
theorem number_any (d : Dir) (n : Int) (hn : T3.Fits n) (w : World) (hE : Env w) :
    Calls Tryd.prog 73 #[d.val, .int .i64 n] w (StrOut (numS d n) w) := by
  have B0 := Lib.hid (below_new w (.cells #[.bool d.left, .bool d.plus, .bool d.blank, .bool d.zero, .int .i64 d.wide, .int .i64 d.prec, .int .u8 (d.letter : Int)] 70))
  have H0 := Lib.hid (box7 w d)
  have HD := Lib.hid (fun (b : Nat) (hb : b = 8 ∨ b = 10 ∨ b = 16) (W : World) (h : Below w.heap.size w W) => digits_any d n hn b hb W (hE.after h))
  have HF := Lib.hid (fun (W : World) (h : Below w.heap.size w W) => fixed_any d n hn W (hE.after h))
  have HS := Lib.hid (fun m (W : World) => sign_any d m W)
  have HI := Lib.hid (fun W => dint_any n hn W)
  have HT := Lib.hid (fun W => by
    have h := Tryd.strings_TrimPrefix (ofL (fixedS n (manyF d))) ⟨#[45]⟩ W
    rw [ofL_list, show (⟨#[45]⟩ : ByteArray).data.toList = [45] from rfl, trim_fixed] at h
    exact h)
  have hQ : numS d n = numS d n := rfl
  have fin : ∀ t e w', numS d n = t → StrOut t w e w' → StrOut (numS d n) w e w' := fun t e w' h h2 => by rw [h]; exact h2
  have FIN := Lib.hid fin
  unfold Dir.val at HD HF HS ⊢
  clear fin hQ hE
  by_cases h1 : d.letter = 111
  · have HR : Hid (numS d n = digS n 8 (d.letter == 88) d.prec) := Lib.hid (by unfold numS; rw [if_neg (by omega), if_pos h1, h1]; rfl)
    have d1 : ((d.letter : Int) == 111) = true := by rw [h1]; rfl
    clear h1
    go_enter Tryd.func73, Tryd.ntmps73
    go_wp2_with fail
    refine (HD.out 8 (by omega) _ B0.out).mono ?_
    rintro e w1 ⟨rfl, b1⟩
    have B1 := Lib.hid (Below.step B0.out b1)
    clear b1
    go_wp2_with fail
    go_ret
    exact FIN.out _ _ _ HR.out ⟨rfl, B1.out⟩
  have d1 : ((d.letter : Int) == 111) = false := beq_eq_false_iff_ne.2 (by omega)
  by_cases h2 : d.letter = 120
  · have HR : Hid (numS d n = digS n 16 (d.letter == 88) d.prec) := Lib.hid (by unfold numS; rw [if_neg (by omega), if_neg h1, if_pos h2, h2]; rfl)
    have d2 : ((d.letter : Int) == 120) = true := by rw [h2]; rfl
    clear h1 h2
    go_enter Tryd.func73, Tryd.ntmps73
    go_wp2_with fail
    refine (HD.out 16 (by omega) _ B0.out).mono ?_
    rintro e w1 ⟨rfl, b1⟩
    have B1 := Lib.hid (Below.step B0.out b1)
    clear b1
    go_wp2_with fail
    go_ret
    exact FIN.out _ _ _ HR.out ⟨rfl, B1.out⟩
  have d2 : ((d.letter : Int) == 120) = false := beq_eq_false_iff_ne.2 (by omega)
  by_cases h3 : d.letter = 88
  · have HR : Hid (numS d n = digS n 16 (d.letter == 88) d.prec) := Lib.hid (by unfold numS; rw [if_neg (by omega), if_neg h1, if_neg h2, if_pos h3, h3]; rfl)
    have d3 : ((d.letter : Int) == 88) = true := by rw [h3]; rfl
    clear h1 h2 h3
    go_enter Tryd.func73, Tryd.ntmps73
    go_wp2_with fail
    refine (HD.out 16 (by omega) _ B0.out).mono ?_
    rintro e w1 ⟨rfl, b1⟩
    have B1 := Lib.hid (Below.step B0.out b1)
    clear b1
    go_wp2_with fail
    go_ret
    exact FIN.out _ _ _ HR.out ⟨rfl, B1.out⟩
  have d3 : ((d.letter : Int) == 88) = false := beq_eq_false_iff_ne.2 (by omega)
  by_cases h4 : d.letter = 102
  · have HR : Hid (numS d n = signS d (decide (n < 0)) ++ ofL (fixedT n.natAbs (clampN (manyF d)))) := Lib.hid (by unfold numS; rw [if_pos h4])
    have d4 : ((d.letter : Int) == 102) = true := by rw [h4]; rfl
    have HS1 := Lib.hid (fun W => HS.out n W)
    have hz1 := signS_size d (decide (n < 0))
    have hz2 : (ofL (fixedT n.natAbs (clampN (manyF d)))).size ≤ 300 := by rw [ofL_size]; exact fixedT_len _ _ (clampN_le _)
    obtain ⟨X, hX⟩ : ∃ X, X = signS d (decide (n < 0)) := ⟨_, rfl⟩
    obtain ⟨Y, hY⟩ : ∃ Y, Y = ofL (fixedT n.natAbs (clampN (manyF d))) := ⟨_, rfl⟩
    have HT' : Hid (∀ W, Calls Tryd.prog 86 #[.string (ofL (fixedS n (manyF d))), .string ⟨#[45]⟩] W fun e w' => e = .returned (.string Y) ∧ w' = W) := Lib.hid (by rw [hY]; exact HT.out)
    rw [← hX] at HS1 HR hz1
    rw [← hY] at HR hz2
    have n1 : ¬ 9223372036854775807 < X.size + Y.size := by omega
    clear h1 h2 h3 h4 HT HS HI HD hX hY hz1 hz2
    go_enter Tryd.func73, Tryd.ntmps73
    go_wp2_with fail
    go_region_held3 (fun w' => Hid (Below w.heap.size w w') ∧ w'.cell? ⟨w.heap.size, 0, none⟩ = some (.bool d.left) ∧ w'.cell? ⟨w.heap.size, 1, none⟩ = some (.bool d.plus) ∧ w'.cell? ⟨w.heap.size, 2, none⟩ = some (.bool d.blank) ∧ w'.cell? ⟨w.heap.size, 3, none⟩ = some (.bool d.zero) ∧ w'.cell? ⟨w.heap.size, 4, none⟩ = some (.int .i64 d.wide) ∧ w'.cell? ⟨w.heap.size, 5, none⟩ = some (.int .i64 d.prec) ∧ w'.cell? ⟨w.heap.size, 6, none⟩ = some (.int .u8 (d.letter : Int))) (first | exact keep7 H0.out (below_drew _) | exact keep7 (by assumption) (by assumption) | assumption)
      (first
        | (go_at_call 85; refine (HS1.out _).mono ?_; rintro e v1 ⟨rfl, a1⟩)
        | (go_at_call 87; refine (HF.out _ (by first | exact B0.out | exact (show Hid (Below w.heap.size w _) ∧ _ by assumption).1.out)).mono ?_; rintro e v1 ⟨rfl, a1⟩)
        | (go_at_call 86; refine (HT'.out _).mono ?_; rintro e v1 ⟨rfl, rfl⟩))
    have HH := (show Hid (Below w.heap.size w _) ∧ _ by assumption).1.out
    go_wp2_with fail
    go_ret
    exact FIN.out _ _ _ HR.out ⟨rfl, HH⟩
  have d4 : ((d.letter : Int) == 102) = false := beq_eq_false_iff_ne.2 (by omega)
  have HR : Hid (numS d n = signS d (decide (n.tdiv 1000000 * 1000000 < 0)) ++ digS n 10 (d.letter == 88) d.prec) := Lib.hid (by
    rw [int_sign n hn]
    unfold numS; rw [if_neg h4, if_neg h1, if_neg h2, if_neg h3, beq_eq_false_iff_ne.2 h3])
  have HS1 := Lib.hid (fun W => HS.out (n.tdiv 1000000 * 1000000) W)
  have HD1 := Lib.hid (fun W h => HD.out 10 (by omega) W h)
  have hz1 := signS_size d (decide (n.tdiv 1000000 * 1000000 < 0))
  have hz2 := digS_size n 10 (d.letter == 88) d.prec
  obtain ⟨X, hX⟩ : ∃ X, X = signS d (decide (n.tdiv 1000000 * 1000000 < 0)) := ⟨_, rfl⟩
  obtain ⟨Y, hY⟩ : ∃ Y, Y = digS n 10 (d.letter == 88) d.prec := ⟨_, rfl⟩
  obtain ⟨q, hq⟩ : ∃ q, q = n.tdiv 1000000 * 1000000 := ⟨_, rfl⟩
  rw [← hX] at HS1 HR hz1
  rw [← hY] at HR hz2 HD1
  rw [← hq] at HS1 HI
  have n1 : ¬ 9223372036854775807 < X.size + Y.size := by omega
  clear h1 h2 h3 h4 HT HS HD hX hY hz1 hz2 hq HF
  go_enter Tryd.func73, Tryd.ntmps73
  go_wp2_with fail
  go_region_held3 (fun w' => Hid (Below w.heap.size w w') ∧ w'.cell? ⟨w.heap.size, 0, none⟩ = some (.bool d.left) ∧ w'.cell? ⟨w.heap.size, 1, none⟩ = some (.bool d.plus) ∧ w'.cell? ⟨w.heap.size, 2, none⟩ = some (.bool d.blank) ∧ w'.cell? ⟨w.heap.size, 3, none⟩ = some (.bool d.zero) ∧ w'.cell? ⟨w.heap.size, 4, none⟩ = some (.int .i64 d.wide) ∧ w'.cell? ⟨w.heap.size, 5, none⟩ = some (.int .i64 d.prec) ∧ w'.cell? ⟨w.heap.size, 6, none⟩ = some (.int .u8 (d.letter : Int))) (first | exact keep7 H0.out (below_drew _) | exact keep7 (by assumption) (by assumption) | assumption)
    (first
      | (go_at_call 88; refine (HI.out _).mono ?_; rintro e v1 ⟨rfl, rfl⟩)
      | (go_at_call 85; refine (HS1.out _).mono ?_; rintro e v1 ⟨rfl, a1⟩)
      | (go_at_call 84; refine (HD1.out _ (by first | exact B0.out | exact (show Hid (Below w.heap.size w _) ∧ _ by assumption).1.out)).mono ?_; rintro e v1 ⟨rfl, a1⟩))
  have HH := (show Hid (Below w.heap.size w _) ∧ _ by assumption).1.out
  go_wp2_with fail
  go_ret
  exact FIN.out _ _ _ HR.out ⟨rfl, HH⟩
end Go.Proofs.YtfhnbpilbbbckaaDoor

/- format.directive's body: a walk. -/
namespace Go.Proofs.YtfhnbpilbbbckaaDoor
open Go.RowKit

theorem keep10 {w0 W W' : World} {b c : Nat} {x0 x1 x2 x3 x4 x5 x6 y0 y1 y2 : Value} (h : Hid (Below w0.heap.size w0 W) ∧ W.cell? ⟨b, 0, none⟩ = some (x0) ∧ W.cell? ⟨b, 1, none⟩ = some (x1) ∧ W.cell? ⟨b, 2, none⟩ = some (x2) ∧ W.cell? ⟨b, 3, none⟩ = some (x3) ∧ W.cell? ⟨b, 4, none⟩ = some (x4) ∧ W.cell? ⟨b, 5, none⟩ = some (x5) ∧ W.cell? ⟨b, 6, none⟩ = some (x6) ∧ W.cell? ⟨c, 0, none⟩ = some (y0) ∧ W.cell? ⟨c, 1, none⟩ = some (y1) ∧ W.cell? ⟨c, 2, none⟩ = some (y2)) (hb : Below W.heap.size W W') :
    Hid (Below w0.heap.size w0 W') ∧ W'.cell? ⟨b, 0, none⟩ = some (x0) ∧ W'.cell? ⟨b, 1, none⟩ = some (x1) ∧ W'.cell? ⟨b, 2, none⟩ = some (x2) ∧ W'.cell? ⟨b, 3, none⟩ = some (x3) ∧ W'.cell? ⟨b, 4, none⟩ = some (x4) ∧ W'.cell? ⟨b, 5, none⟩ = some (x5) ∧ W'.cell? ⟨b, 6, none⟩ = some (x6) ∧ W'.cell? ⟨c, 0, none⟩ = some (y0) ∧ W'.cell? ⟨c, 1, none⟩ = some (y1) ∧ W'.cell? ⟨c, 2, none⟩ = some (y2) := by
  obtain ⟨h, c0, c1, c2, c3, c4, c5, c6, d0, d1, d2⟩ := h
  have key : ∀ (b o : Nat) (v : Value), W.cell? ⟨b, o, none⟩ = some v → W'.cell? ⟨b, o, none⟩ = some v := fun b o v hv => by
    rw [hb.cell (p := ⟨b, o, none⟩) (cell_lt hv)]; exact hv
  exact ⟨keep0 h hb, key _ _ _ c0, key _ _ _ c1, key _ _ _ c2, key _ _ _ c3, key _ _ _ c4, key _ _ _ c5, key _ _ _ c6, key _ _ _ d0, key _ _ _ d1, key _ _ _ d2⟩
set_option maxRecDepth 100000 in
theorem box10 (w : World) (d : Dir) (c : Cel) : Hid (Below w.heap.size w ((w.alloc (.cells #[.bool d.left, .bool d.plus, .bool d.blank, .bool d.zero, .int .i64 d.wide, .int .i64 d.prec, .int .u8 (d.letter : Int)] 70)).alloc (.cells #[.int .i64 c.k, .int .i64 c.n, .string c.s] 44))) ∧ ((w.alloc (.cells #[.bool d.left, .bool d.plus, .bool d.blank, .bool d.zero, .int .i64 d.wide, .int .i64 d.prec, .int .u8 (d.letter : Int)] 70)).alloc (.cells #[.int .i64 c.k, .int .i64 c.n, .string c.s] 44)).cell? ⟨w.heap.size, 0, none⟩ = some (.bool d.left) ∧ ((w.alloc (.cells #[.bool d.left, .bool d.plus, .bool d.blank, .bool d.zero, .int .i64 d.wide, .int .i64 d.prec, .int .u8 (d.letter : Int)] 70)).alloc (.cells #[.int .i64 c.k, .int .i64 c.n, .string c.s] 44)).cell? ⟨w.heap.size, 1, none⟩ = some (.bool d.plus) ∧ ((w.alloc (.cells #[.bool d.left, .bool d.plus, .bool d.blank, .bool d.zero, .int .i64 d.wide, .int .i64 d.prec, .int .u8 (d.letter : Int)] 70)).alloc (.cells #[.int .i64 c.k, .int .i64 c.n, .string c.s] 44)).cell? ⟨w.heap.size, 2, none⟩ = some (.bool d.blank) ∧ ((w.alloc (.cells #[.bool d.left, .bool d.plus, .bool d.blank, .bool d.zero, .int .i64 d.wide, .int .i64 d.prec, .int .u8 (d.letter : Int)] 70)).alloc (.cells #[.int .i64 c.k, .int .i64 c.n, .string c.s] 44)).cell? ⟨w.heap.size, 3, none⟩ = some (.bool d.zero) ∧ ((w.alloc (.cells #[.bool d.left, .bool d.plus, .bool d.blank, .bool d.zero, .int .i64 d.wide, .int .i64 d.prec, .int .u8 (d.letter : Int)] 70)).alloc (.cells #[.int .i64 c.k, .int .i64 c.n, .string c.s] 44)).cell? ⟨w.heap.size, 4, none⟩ = some (.int .i64 d.wide) ∧ ((w.alloc (.cells #[.bool d.left, .bool d.plus, .bool d.blank, .bool d.zero, .int .i64 d.wide, .int .i64 d.prec, .int .u8 (d.letter : Int)] 70)).alloc (.cells #[.int .i64 c.k, .int .i64 c.n, .string c.s] 44)).cell? ⟨w.heap.size, 5, none⟩ = some (.int .i64 d.prec) ∧ ((w.alloc (.cells #[.bool d.left, .bool d.plus, .bool d.blank, .bool d.zero, .int .i64 d.wide, .int .i64 d.prec, .int .u8 (d.letter : Int)] 70)).alloc (.cells #[.int .i64 c.k, .int .i64 c.n, .string c.s] 44)).cell? ⟨w.heap.size, 6, none⟩ = some (.int .u8 (d.letter : Int)) ∧ ((w.alloc (.cells #[.bool d.left, .bool d.plus, .bool d.blank, .bool d.zero, .int .i64 d.wide, .int .i64 d.prec, .int .u8 (d.letter : Int)] 70)).alloc (.cells #[.int .i64 c.k, .int .i64 c.n, .string c.s] 44)).cell? ⟨(w.heap.size + 1), 0, none⟩ = some (.int .i64 c.k) ∧ ((w.alloc (.cells #[.bool d.left, .bool d.plus, .bool d.blank, .bool d.zero, .int .i64 d.wide, .int .i64 d.prec, .int .u8 (d.letter : Int)] 70)).alloc (.cells #[.int .i64 c.k, .int .i64 c.n, .string c.s] 44)).cell? ⟨(w.heap.size + 1), 1, none⟩ = some (.int .i64 c.n) ∧ ((w.alloc (.cells #[.bool d.left, .bool d.plus, .bool d.blank, .bool d.zero, .int .i64 d.wide, .int .i64 d.prec, .int .u8 (d.letter : Int)] 70)).alloc (.cells #[.int .i64 c.k, .int .i64 c.n, .string c.s] 44)).cell? ⟨(w.heap.size + 1), 2, none⟩ = some (.string c.s) :=
  ⟨Lib.hid (Below.step (below_new _ _) (below_new _ _)), by simp [go_sem], by simp [go_sem], by simp [go_sem], by simp [go_sem], by simp [go_sem], by simp [go_sem], by simp [go_sem], by simp [go_sem], by simp [go_sem], by simp [go_sem]⟩

theorem body_num (d : Dir) (c : Cel) (h1 : d.letter ≠ 99) (h2 : d.letter ≠ 115) : bodyS d c = if c.err ≠ 0 then (noTxt, c.err) else (numS d c.num, 0) := by
  unfold bodyS numS manyF
  rw [if_neg h1, if_neg h2]
  split
  · rfl
  split
  · rfl
  split
  · rfl
  split
  · rfl
  split
  · rfl
  · rfl

set_option maxRecDepth 100000 in
set_option maxHeartbeats 2000000 in
theorem body_any (d : Dir) (hd : -1 ≤ d.prec ∧ d.prec ≤ 200) (c : Cel) (hc : COk c) (w : World) (hE : Env w) :
    Calls Tryd.prog 55 #[d.val, c.val] w (StrErr (bodyS d c) w) := by
  have H0 := Lib.hid (box10 w d c)
  have B0 := Lib.hid H0.out.1.out
  have HC := Lib.hid (fun W => character_any c hc W)
  have HS := Lib.hid (fun W => cstr_any c hc W)
  have hsz := cstr_size c hc
  have HB := Lib.hid (fun W => beginning_any d hd c.str hsz W)
  have HN := Lib.hid (fun W => cnum_any c hc W)
  have hnc := num_cases c hc.n
  have HNum := Lib.hid (fun (hf : T3.Fits c.num) (W : World) (h : Below w.heap.size w W) => number_any d c.num hf W (hE.after h))
  have fin : ∀ t e w', bodyS d c = t → StrErr t w e w' → StrErr (bodyS d c) w e w' := fun t e w' h h2 => by rw [h]; exact h2
  have FIN := Lib.hid fin
  unfold Dir.val at HB HNum ⊢
  unfold Cel.val at HC HS HN ⊢
  clear fin hE hsz
  by_cases h1 : d.letter = 99
  · obtain ⟨R, hR⟩ : ∃ R, R = (if c.k = 1 then chrS (c.n.tdiv 1000000) else (T2.subB c.str 1 1, 0)) := ⟨_, rfl⟩
    have HR : Hid (bodyS d c = R) := Lib.hid (by unfold bodyS; rw [if_pos h1, hR])
    rw [← hR] at HC
    have d1 : ((d.letter : Int) == 99) = true := by rw [h1]; rfl
    clear h1 hR
    obtain ⟨r1, r2⟩ := R
    go_enter Tryd.func55, Tryd.ntmps55
    go_wp2_with fail
    refine (HC.out _).mono ?_
    rintro e w1 ⟨rfl, b1⟩
    have B1 := Lib.hid (Below.step B0.out b1)
    clear b1
    go_wp2_with fail
    go_ret2
    exact FIN.out _ _ _ HR.out ⟨rfl, B1.out⟩
  have d1 : ((d.letter : Int) == 99) = false := beq_eq_false_iff_ne.2 (by omega)
  by_cases h2 : d.letter = 115
  · have HR : Hid (bodyS d c = (cutS d c.str, 0)) := Lib.hid (by unfold bodyS; rw [if_neg h1, if_pos h2]; rfl)
    have d2 : ((d.letter : Int) == 115) = true := by rw [h2]; rfl
    clear h1 h2
    go_enter Tryd.func55, Tryd.ntmps55
    go_wp2_with fail
    go_region_held3 (fun w' => Hid (Below w.heap.size w w') ∧ w'.cell? ⟨w.heap.size, 0, none⟩ = some (.bool d.left) ∧ w'.cell? ⟨w.heap.size, 1, none⟩ = some (.bool d.plus) ∧ w'.cell? ⟨w.heap.size, 2, none⟩ = some (.bool d.blank) ∧ w'.cell? ⟨w.heap.size, 3, none⟩ = some (.bool d.zero) ∧ w'.cell? ⟨w.heap.size, 4, none⟩ = some (.int .i64 d.wide) ∧ w'.cell? ⟨w.heap.size, 5, none⟩ = some (.int .i64 d.prec) ∧ w'.cell? ⟨w.heap.size, 6, none⟩ = some (.int .u8 (d.letter : Int)) ∧ w'.cell? ⟨w.heap.size + 1, 0, none⟩ = some (.int .i64 c.k) ∧ w'.cell? ⟨w.heap.size + 1, 1, none⟩ = some (.int .i64 c.n) ∧ w'.cell? ⟨w.heap.size + 1, 2, none⟩ = some (.string c.s)) (first | exact keep10 H0.out (below_drew _) | exact keep10 (by assumption) (by assumption) | assumption)
      (first
        | (go_at_call 71; refine (HS.out _).mono ?_; rintro e v1 ⟨rfl, a1⟩)
        | (go_at_call 70; refine (HB.out _).mono ?_; rintro e v1 ⟨rfl, a1⟩))
    have HH := (show Hid (Below w.heap.size w _) ∧ _ by assumption).1.out
    go_wp2_with fail
    go_ret2
    exact FIN.out _ _ _ HR.out ⟨rfl, HH⟩
  have d2 : ((d.letter : Int) == 115) = false := beq_eq_false_iff_ne.2 (by omega)
  have hR := body_num d c h1 h2
  obtain ⟨E, hE⟩ : ∃ E, E = c.err := ⟨_, rfl⟩
  obtain ⟨m, hm⟩ : ∃ m, m = c.num := ⟨_, rfl⟩
  rw [← hE, ← hm] at hR HN hnc
  rw [← hm] at HNum
  clear h1 h2 hE hm HC HS HB hc
  rcases hnc with ⟨rfl, hf⟩ | ⟨rfl, rfl⟩
  · have HR : Hid (bodyS d c = (numS d m, 0)) := Lib.hid (by rw [hR, if_neg (by omega)])
    have HM := Lib.hid (HNum.out hf)
    clear hR HNum hf
    go_enter Tryd.func55, Tryd.ntmps55
    go_wp2_with fail
    refine (HN.out _).mono ?_
    rintro e w1 ⟨rfl, b1⟩
    have K1 := Lib.hid (keep10 H0.out b1)
    have k1 := K1.out
    obtain ⟨_, c0, c1, c2, c3, c4, c5, c6, e0, e1, e2⟩ := k1
    have B1 := Lib.hid K1.out.1.out
    clear b1
    go_wp2_with fail
    refine (HM.out _ B1.out).mono ?_
    rintro e w2 ⟨rfl, b2⟩
    have B2 := Lib.hid (Below.step B1.out b2)
    clear b2
    go_wp2_with fail
    go_ret2
    exact FIN.out _ _ _ HR.out ⟨rfl, B2.out⟩
  · have HR : Hid (bodyS d c = (noTxt, 10)) := Lib.hid (by rw [hR, if_pos (by omega)])
    clear hR HNum
    go_enter Tryd.func55, Tryd.ntmps55
    go_wp2_with fail
    refine (HN.out _).mono ?_
    rintro e w1 ⟨rfl, b1⟩
    have B1 := Lib.hid (Below.step B0.out b1)
    clear b1
    go_wp2_with fail
    go_ret2
    exact FIN.out _ _ _ HR.out ⟨rfl, B1.out⟩
end Go.Proofs.YtfhnbpilbbbckaaDoor
