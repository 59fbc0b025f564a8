/- Merged by program: DirP, NumP. -/
import Derived.Test.YtbbhcbpfffabpaaGreatDoorGap
/- The methods of format.directive that read it alone: walks. -/
namespace Go.Proofs.YtbbhcbpfffabpaaGreatDoor
open Go.RowKit

def Dir.cells (d : Dir) : Array Value := #[.bool d.left, .bool d.plus, .bool d.blank, .bool d.zero, .int .i64 d.wide, .int .i64 d.prec, .int .u8 (d.letter : Int)]
def Dir.val (d : Dir) : Value := .agg #[.bool d.left, .bool d.plus, .bool d.blank, .bool d.zero, .int .i64 d.wide, .int .i64 d.prec, .int .u8 (d.letter : Int)]
theorem keep7 {w0 W W' : World} {b : Nat} {x0 x1 x2 x3 x4 x5 x6 : Value} (h : Hid (Below w0.heap.size w0 W) ∧ W.cell? ⟨b, 0, none⟩ = some (x0) ∧ W.cell? ⟨b, 1, none⟩ = some (x1) ∧ W.cell? ⟨b, 2, none⟩ = some (x2) ∧ W.cell? ⟨b, 3, none⟩ = some (x3) ∧ W.cell? ⟨b, 4, none⟩ = some (x4) ∧ W.cell? ⟨b, 5, none⟩ = some (x5) ∧ W.cell? ⟨b, 6, none⟩ = some (x6)) (hb : Below W.heap.size W W') :
    Hid (Below w0.heap.size w0 W') ∧ W'.cell? ⟨b, 0, none⟩ = some (x0) ∧ W'.cell? ⟨b, 1, none⟩ = some (x1) ∧ W'.cell? ⟨b, 2, none⟩ = some (x2) ∧ W'.cell? ⟨b, 3, none⟩ = some (x3) ∧ W'.cell? ⟨b, 4, none⟩ = some (x4) ∧ W'.cell? ⟨b, 5, none⟩ = some (x5) ∧ W'.cell? ⟨b, 6, none⟩ = some (x6) := by
  obtain ⟨h, c0, c1, c2, c3, c4, c5, c6⟩ := h
  have key : ∀ (o : Nat) (v : Value), W.cell? ⟨b, o, none⟩ = some v → W'.cell? ⟨b, o, none⟩ = some v := fun o v hv => by
    rw [hb.cell (p := ⟨b, o, none⟩) (cell_lt hv)]; exact hv
  exact ⟨keep0 h hb, key _ _ c0, key _ _ c1, key _ _ c2, key _ _ c3, key _ _ c4, key _ _ c5, key _ _ c6⟩
theorem box7 (w : World) (d : Dir) : Hid (Below w.heap.size w (w.alloc (.cells #[.bool d.left, .bool d.plus, .bool d.blank, .bool d.zero, .int .i64 d.wide, .int .i64 d.prec, .int .u8 (d.letter : Int)] 97))) ∧ (w.alloc (.cells #[.bool d.left, .bool d.plus, .bool d.blank, .bool d.zero, .int .i64 d.wide, .int .i64 d.prec, .int .u8 (d.letter : Int)] 97)).cell? ⟨w.heap.size, 0, none⟩ = some (.bool d.left) ∧ (w.alloc (.cells #[.bool d.left, .bool d.plus, .bool d.blank, .bool d.zero, .int .i64 d.wide, .int .i64 d.prec, .int .u8 (d.letter : Int)] 97)).cell? ⟨w.heap.size, 1, none⟩ = some (.bool d.plus) ∧ (w.alloc (.cells #[.bool d.left, .bool d.plus, .bool d.blank, .bool d.zero, .int .i64 d.wide, .int .i64 d.prec, .int .u8 (d.letter : Int)] 97)).cell? ⟨w.heap.size, 2, none⟩ = some (.bool d.blank) ∧ (w.alloc (.cells #[.bool d.left, .bool d.plus, .bool d.blank, .bool d.zero, .int .i64 d.wide, .int .i64 d.prec, .int .u8 (d.letter : Int)] 97)).cell? ⟨w.heap.size, 3, none⟩ = some (.bool d.zero) ∧ (w.alloc (.cells #[.bool d.left, .bool d.plus, .bool d.blank, .bool d.zero, .int .i64 d.wide, .int .i64 d.prec, .int .u8 (d.letter : Int)] 97)).cell? ⟨w.heap.size, 4, none⟩ = some (.int .i64 d.wide) ∧ (w.alloc (.cells #[.bool d.left, .bool d.plus, .bool d.blank, .bool d.zero, .int .i64 d.wide, .int .i64 d.prec, .int .u8 (d.letter : Int)] 97)).cell? ⟨w.heap.size, 5, none⟩ = some (.int .i64 d.prec) ∧ (w.alloc (.cells #[.bool d.left, .bool d.plus, .bool d.blank, .bool d.zero, .int .i64 d.wide, .int .i64 d.prec, .int .u8 (d.letter : Int)] 97)).cell? ⟨w.heap.size, 6, none⟩ = some (.int .u8 (d.letter : Int)) :=
  ⟨Lib.hid (below_new _ _), by simp [go_sem], by simp [go_sem], by simp [go_sem], by simp [go_sem], by simp [go_sem], by simp [go_sem], by simp [go_sem]⟩

set_option maxRecDepth 100000 in
theorem sign_any (d : Dir) (n : Int) (w : World) : Calls Tryz.prog 137 #[d.val, .int .i64 n] w (StrOut (signS d (decide (n < 0))) w) := by
  have B0 := Lib.hid (below_new w (.cells #[.bool d.left, .bool d.plus, .bool d.blank, .bool d.zero, .int .i64 d.wide, .int .i64 d.prec, .int .u8 (d.letter : Int)] 97))
  unfold Dir.val
  by_cases h : n < 0
  · have d1 : decide (n < 0) = true := decide_eq_true h
    have HS : Hid (signS d true = ofL [45]) := Lib.hid rfl
    rw [d1]
    go_enter Tryz.func137, Tryz.ntmps137
    go_wp2_with fail
    go_ret
    rw [HS.out]
    exact ⟨rfl, B0.out⟩
  · have d1 : decide (n < 0) = false := decide_eq_false h
    have HS : Hid (signS d false = if d.plus then ofL [43] else if d.blank then ofL [32] else noTxt) := Lib.hid rfl
    rw [d1]
    obtain ⟨l, p, b, z, wd, pr, lt⟩ := d
    dsimp only at HS B0 ⊢
    cases p with
    | true =>
      go_enter Tryz.func137, Tryz.ntmps137
      go_wp2_with fail
      go_ret
      rw [HS.out]
      exact ⟨rfl, B0.out⟩
    | false =>
      cases b with
      | true =>
        go_enter Tryz.func137, Tryz.ntmps137
        go_wp2_with fail
        go_ret
        rw [HS.out]
        exact ⟨rfl, B0.out⟩
      | false =>
        go_enter Tryz.func137, Tryz.ntmps137
        go_wp2_with fail
        go_ret
        rw [HS.out]
        exact ⟨rfl, B0.out⟩

/-- The digits behind the point that a directive asks for. -/
def manyF (d : Dir) : Int := if d.prec = -1 then 6 else d.prec
set_option maxRecDepth 100000 in
theorem fixed_any (d : Dir) (n : Int) (hn : T3.Fits n) (w : World) (hE : Env w) : Calls Tryz.prog 139 #[d.val, .int .i64 n] w (StrOut (ofL (fixedS n (manyF d))) w) := by
  have B0 := Lib.hid (below_new w (.cells #[.bool d.left, .bool d.plus, .bool d.blank, .bool d.zero, .int .i64 d.wide, .int .i64 d.prec, .int .u8 (d.letter : Int)] 97))
  have HF := Lib.hid (fun (dg : Int) (W : World) (h : Below w.heap.size w W) => fixedP_any n hn dg W (hE.after h))
  unfold Dir.val
  by_cases h : d.prec = -1
  · have HM : Hid (manyF d = 6) := Lib.hid (by unfold manyF; rw [if_pos h])
    have d1 : (d.prec == -1) = true := beq_iff_eq.2 h
    clear h
    go_enter Tryz.func139, Tryz.ntmps139
    go_wp2_with fail
    refine (HF.out _ _ B0.out).mono ?_
    rintro e w1 ⟨rfl, b1⟩
    have B1 := Lib.hid (Below.step B0.out b1)
    clear b1
    go_wp2_with fail
    go_ret
    rw [HM.out]
    exact ⟨rfl, B1.out⟩
  · have HM : Hid (manyF d = d.prec) := Lib.hid (by unfold manyF; rw [if_neg h])
    have d1 : (d.prec == -1) = false := beq_eq_false_iff_ne.2 h
    clear h
    go_enter Tryz.func139, Tryz.ntmps139
    go_wp2_with fail
    refine (HF.out _ _ B0.out).mono ?_
    rintro e w1 ⟨rfl, b1⟩
    have B1 := Lib.hid (Below.step B0.out b1)
    clear b1
    go_wp2_with fail
    go_ret
    rw [HM.out]
    exact ⟨rfl, B1.out⟩

/-- The text that a precision leaves. -/
def cutS (d : Dir) (s : ByteArray) : ByteArray := if d.prec = -1 then s else T2.subB s 1 d.prec
set_option maxRecDepth 100000 in
theorem beginning_any (d : Dir) (hd : -1 ≤ d.prec ∧ d.prec ≤ 200) (s : ByteArray) (hs : s.size ≤ 300) (w : World) : Calls Tryz.prog 126 #[d.val, .string s] w (StrOut (cutS d s) w) := by
  have B0 := Lib.hid (below_new w (.cells #[.bool d.left, .bool d.plus, .bool d.blank, .bool d.zero, .int .i64 d.wide, .int .i64 d.prec, .int .u8 (d.letter : Int)] 97))
  have HF := Lib.hid (fun (W : World) => T2.sub_any s 1 d.prec (by unfold maxLen; omega) (by omega) (by omega) W)
  unfold Dir.val
  by_cases h : d.prec = -1
  · have HM : Hid (cutS d s = s) := Lib.hid (by unfold cutS; rw [if_pos h])
    have d1 : (d.prec == -1) = true := beq_iff_eq.2 h
    clear h
    go_enter Tryz.func126, Tryz.ntmps126
    go_wp2_with fail
    go_ret
    rw [HM.out]
    exact ⟨rfl, B0.out⟩
  · have HM : Hid (cutS d s = T2.subB s 1 d.prec) := Lib.hid (by unfold cutS; rw [if_neg h])
    have d1 : (d.prec == -1) = false := beq_eq_false_iff_ne.2 h
    clear h
    go_enter Tryz.func126, Tryz.ntmps126
    go_wp2_with fail
    refine (HF.out _).mono ?_
    rintro e w1 ⟨rfl, b1⟩
    have B1 := Lib.hid (Below.step B0.out b1)
    clear b1
    go_wp2_with fail
    go_ret
    rw [HM.out]
    exact ⟨rfl, B1.out⟩

def mayB (d : Dir) : Bool := if d.letter = 102 then true else if d.letter = 99 ∨ d.letter = 115 then false else d.prec == -1
set_option maxRecDepth 100000 in
theorem mayZero_any (d : Dir) (w : World) : Calls Tryz.prog 109 #[d.val] w fun e w' => e = .returned (.bool (mayB d)) ∧ Below w.heap.size w w' := by
  have B0 := Lib.hid (below_new w (.cells #[.bool d.left, .bool d.plus, .bool d.blank, .bool d.zero, .int .i64 d.wide, .int .i64 d.prec, .int .u8 (d.letter : Int)] 97))
  unfold Dir.val
  by_cases h1 : d.letter = 102
  · have HM : Hid (mayB d = true) := Lib.hid (by unfold mayB; rw [if_pos h1])
    have d1 : ((d.letter : Int) == 102) = true := by rw [h1]; rfl
    clear h1
    go_enter Tryz.func109, Tryz.ntmps109
    go_wp2_with fail
    go_ret
    rw [HM.out]
    exact ⟨rfl, B0.out⟩
  have d1 : ((d.letter : Int) == 102) = false := beq_eq_false_iff_ne.2 (by omega)
  by_cases h2 : d.letter = 99
  · have HM : Hid (mayB d = false) := Lib.hid (by unfold mayB; rw [if_neg h1, if_pos (Or.inl h2)])
    have d2 : ((d.letter : Int) == 99) = true := by rw [h2]; rfl
    clear h1 h2
    go_enter Tryz.func109, Tryz.ntmps109
    go_wp2_with fail
    go_ret
    rw [HM.out]
    exact ⟨rfl, B0.out⟩
  have d2 : ((d.letter : Int) == 99) = false := beq_eq_false_iff_ne.2 (by omega)
  by_cases h3 : d.letter = 115
  · have HM : Hid (mayB d = false) := Lib.hid (by unfold mayB; rw [if_neg h1, if_pos (Or.inr h3)])
    have d3 : ((d.letter : Int) == 115) = true := by rw [h3]; rfl
    clear h1 h2 h3
    go_enter Tryz.func109, Tryz.ntmps109
    go_wp2_with fail
    go_ret
    rw [HM.out]
    exact ⟨rfl, B0.out⟩
  have d3 : ((d.letter : Int) == 115) = false := beq_eq_false_iff_ne.2 (by omega)
  have HM : Hid (mayB d = (d.prec == -1)) := Lib.hid (by unfold mayB; rw [if_neg h1, if_neg (by omega)])
  clear h1 h2 h3
  go_enter Tryz.func109, Tryz.ntmps109
  go_wp2_with fail
  go_ret
  rw [HM.out]
  exact ⟨rfl, B0.out⟩

set_option maxRecDepth 100000 in
set_option maxHeartbeats 1000000 in
theorem digits_any (d : Dir) (n : Int) (hn : T3.Fits n) (b : Nat) (hb : b = 8 ∨ b = 10 ∨ b = 16) (w : World) (hE : Env w) :
    Calls Tryz.prog 136 #[d.val, .int .i64 n, .int .i64 b] w (StrOut (digS n b (d.letter == 88) d.prec) w) := by
  have B0 := Lib.hid (below_new w (.cells #[.bool d.left, .bool d.plus, .bool d.blank, .bool d.zero, .int .i64 d.wide, .int .i64 d.prec, .int .u8 (d.letter : Int)] 97))
  have H0 := Lib.hid (box7 w d)
  have HI := Lib.hid (fun w => dint_any n hn w)
  have HW := Lib.hid (fun (W : World) (h : Below w.heap.size w W) => wholeP_any n hn b hb (d.letter == 88) W (hE.after h))
  have hlen : (wholeS n b (d.letter == 88)).length ≤ 64 := baseS_len _ _ _ _
  have hdig : ∀ x ∈ wholeS n b (d.letter == 88), DigB x := baseS_dig b (by omega) (by omega) _ 64 _
  have HP : Hid (∀ W, Calls Tryz.prog 108 #[.string ⟨(wholeS n b (d.letter == 88)).toArray⟩, .int .i64 d.prec, .bool false, .bool true] W (StrOut (fillS 48 (clampN d.prec - (wholeS n b (d.letter == 88)).length) ++ ofL (wholeS n b (d.letter == 88))) W)) := Lib.hid (fun W => by
    have h := padP_any (ofL (wholeS n b (d.letter == 88))) (by rw [ofL_size]; omega) d.prec false true W
    rw [pad_digs hdig] at h
    exact h)
  have HQ : Hid (digS n b (d.letter == 88) d.prec = if d.prec = 0 ∧ n.tdiv 1000000 = 0 then noTxt else fillS 48 (clampN d.prec - (wholeS n b (d.letter == 88)).length) ++ ofL (wholeS n b (d.letter == 88))) := Lib.hid rfl
  have hbq : ((d.letter : Int) == 88) = (d.letter == 88) := by
    rw [Bool.eq_iff_iff, beq_iff_eq, beq_iff_eq]; omega
  obtain ⟨G, hG⟩ : ∃ G, G = (d.letter == 88) := ⟨_, rfl⟩
  rw [← hG] at HW HP HQ hbq ⊢
  obtain ⟨L, hL⟩ : ∃ L, L = wholeS n b G := ⟨_, rfl⟩
  rw [← hL] at HW HP HQ
  obtain ⟨q, hq⟩ : ∃ q, q = n.tdiv 1000000 := ⟨_, rfl⟩
  rw [← hq] at HQ HI
  clear hlen hdig hG hL hq hE
  unfold Dir.val
  by_cases hz : d.prec = 0 ∧ q = 0
  · have HR : Hid (digS n b G d.prec = noTxt) := Lib.hid (by rw [HQ.out, if_pos hz])
    have d1 : (d.prec == 0) = true := beq_iff_eq.2 hz.1
    have HI0 : Hid (∀ w, Calls Tryz.prog 44 #[.int .i64 n] w fun e w' => e = .returned (.int .i64 0) ∧ w = w') := Lib.hid (by
      have := HI.out
      rw [hz.2] at this
      exact this)
    clear hz hbq HI
    go_enter Tryz.func136, Tryz.ntmps136
    go_wp2_with fail
    refine (HI0.out _).mono ?_
    rintro e w1 ⟨rfl, rfl⟩
    go_wp2_with fail
    go_ret
    rw [HR.out]
    exact ⟨rfl, B0.out⟩
  · have HR : Hid (digS n b G d.prec = fillS 48 (clampN d.prec - L.length) ++ ofL L) := Lib.hid (by rw [HQ.out, if_neg hz])
    by_cases hp : d.prec = 0
    · have d1 : (d.prec == 0) = true := beq_iff_eq.2 hp
      have hq0 : q ≠ 0 := fun e => hz ⟨hp, e⟩
      have d2 : (q * 1000000 == 0) = false := beq_eq_false_iff_ne.2 (by omega)
      clear hz hp hq0
      go_enter Tryz.func136, Tryz.ntmps136
      go_wp2_with fail
      refine (HI.out _).mono ?_
      rintro e w1 ⟨rfl, rfl⟩
      go_wp2_with fail
      go_region_held3 (fun w' => Hid (Below w.heap.size w w') ∧ w'.cell? ⟨w.heap.size, 0, none⟩ = some (.bool d.left) ∧ w'.cell? ⟨w.heap.size, 1, none⟩ = some (.bool d.plus) ∧ w'.cell? ⟨w.heap.size, 2, none⟩ = some (.bool d.blank) ∧ w'.cell? ⟨w.heap.size, 3, none⟩ = some (.bool d.zero) ∧ w'.cell? ⟨w.heap.size, 4, none⟩ = some (.int .i64 d.wide) ∧ w'.cell? ⟨w.heap.size, 5, none⟩ = some (.int .i64 d.prec) ∧ w'.cell? ⟨w.heap.size, 6, none⟩ = some (.int .u8 (d.letter : Int))) (first | exact keep7 H0.out (below_drew _) | exact keep7 (by assumption) (by assumption) | assumption)
        (first
          | (go_at_call 146; refine (HW.out _ (by first | exact B0.out | exact (show Hid (Below w.heap.size w _) ∧ _ by assumption).1.out)).mono ?_; rintro e v1 ⟨rfl, a1⟩)
          | (go_at_call 108; refine (HP.out _).mono ?_; rintro e v1 ⟨rfl, a1⟩))
      have HH := (show Hid (Below w.heap.size w _) ∧ _ by assumption).1.out
      go_wp2_with fail
      go_ret
      rw [HR.out]
      exact ⟨rfl, HH⟩
    · have d1 : (d.prec == 0) = false := beq_eq_false_iff_ne.2 hp
      clear hz hp
      go_enter Tryz.func136, Tryz.ntmps136
      go_wp2_with fail
      go_region_held3 (fun w' => Hid (Below w.heap.size w w') ∧ w'.cell? ⟨w.heap.size, 0, none⟩ = some (.bool d.left) ∧ w'.cell? ⟨w.heap.size, 1, none⟩ = some (.bool d.plus) ∧ w'.cell? ⟨w.heap.size, 2, none⟩ = some (.bool d.blank) ∧ w'.cell? ⟨w.heap.size, 3, none⟩ = some (.bool d.zero) ∧ w'.cell? ⟨w.heap.size, 4, none⟩ = some (.int .i64 d.wide) ∧ w'.cell? ⟨w.heap.size, 5, none⟩ = some (.int .i64 d.prec) ∧ w'.cell? ⟨w.heap.size, 6, none⟩ = some (.int .u8 (d.letter : Int))) (first | exact keep7 H0.out (below_drew _) | exact keep7 (by assumption) (by assumption) | assumption)
        (first
          | (go_at_call 146; refine (HW.out _ (by first | exact B0.out | exact (show Hid (Below w.heap.size w _) ∧ _ by assumption).1.out)).mono ?_; rintro e v1 ⟨rfl, a1⟩)
          | (go_at_call 108; refine (HP.out _).mono ?_; rintro e v1 ⟨rfl, a1⟩))
      have HH := (show Hid (Below w.heap.size w _) ∧ _ by assumption).1.out
      go_wp2_with fail
      go_ret
      rw [HR.out]
      exact ⟨rfl, HH⟩
end Go.Proofs.YtbbhcbpfffabpaaGreatDoor

/- format.directive's number: a walk. -/
namespace Go.Proofs.YtbbhcbpfffabpaaGreatDoor
open Go.RowKit

theorem trim_minus (t : List UInt8) : Lib.trimPrefix ([45] ++ t) [45] = t := by
  simp [Lib.trimPrefix, Lib.hasPrefix, List.isPrefixOf]
theorem trim_none (b : UInt8) (t : List UInt8) (h : b ≠ 45) : Lib.trimPrefix (b :: t) [45] = b :: t := by
  have e : (45 == b) = false := beq_eq_false_iff_ne.2 (fun e => h e.symm)
  simp [Lib.trimPrefix, Lib.hasPrefix, List.isPrefixOf, e]
theorem fixedT_head (a many : Nat) : ∃ b t, fixedT a many = b :: t ∧ b ≠ 45 := by
  have hp := baseS_pos 10 false 19 (roundN a many / 10 ^ keepN many)
  have hd := baseS_dig 10 (by omega) (by omega) false 20 (roundN a many / 10 ^ keepN many)
  unfold fixedT
  cases e : baseS 10 false 20 (roundN a many / 10 ^ keepN many) with
  | nil => rw [e] at hp; simp at hp
  | cons b l =>
    rw [e] at hd
    refine ⟨b, l ++ fracT (keepN many) (roundN a many) ++ List.replicate (many - keepN many) 48, by simp, fun hb => ?_⟩
    have := (hd b (by simp)).2.1
    rw [hb] at this
    exact this (by decide)
theorem trim_fixed (n dg : Int) : Lib.trimPrefix (fixedS n dg) [45] = fixedT n.natAbs (clampN dg) := by
  unfold fixedS
  split
  · exact trim_minus _
  · obtain ⟨b, t, h1, h2⟩ := fixedT_head n.natAbs (clampN dg)
    rw [List.nil_append, h1]
    exact trim_none b t h2
theorem fixedT_len (a many : Nat) (h : many ≤ 200) : (fixedT a many).length ≤ 300 := by
  unfold fixedT fracT
  have h1 := baseS_len 10 false 20 (roundN a many / 10 ^ keepN many)
  have h2 : keepN many ≤ 6 := by unfold keepN; omega
  rw [List.length_append, List.length_append]
  split
  · simp; omega
  · rw [List.length_cons, fixT_len]; simp; omega
theorem signS_size (d : Dir) (m : Bool) : (signS d m).size ≤ 1 := by
  unfold signS
  split
  · exact Nat.le_refl _
  split
  · exact Nat.le_refl _
  split
  · exact Nat.le_refl _
  · exact Nat.zero_le _
theorem digS_size (n : Int) (b : Nat) (g : Bool) (p : Int) : (digS n b g p).size ≤ 264 := by
  have h1 : (wholeS n b g).length ≤ 64 := baseS_len _ _ _ _
  have h2 := clampN_le p
  unfold digS
  split
  · exact Nat.zero_le _
  · rw [ByteArray.size_append, fillS_size, ofL_size]; omega

/-- What a directive makes of a number. -/
def numS (d : Dir) (n : Int) : ByteArray :=
  if d.letter = 102 then signS d (decide (n < 0)) ++ ofL (fixedT n.natAbs (clampN (manyF d)))
  else if d.letter = 111 then digS n 8 false d.prec
  else if d.letter = 120 then digS n 16 false d.prec
  else if d.letter = 88 then digS n 16 true d.prec
  else signS d (decide (n ≤ -1000000)) ++ digS n 10 false d.prec
theorem int_sign (n : Int) (hn : T3.Fits n) : decide (n.tdiv 1000000 * 1000000 < 0) = decide (n ≤ -1000000) := by
  have h := Int.tmod_add_mul_tdiv n 1000000
  obtain ⟨h1, _⟩ := tmod_near' n hn
  rw [decide_eq_decide]
  by_cases h0 : 0 ≤ n
  · have := Int.tdiv_eq_ediv_of_nonneg h0 (b := 1000000)
    omega
  · have e : n.tdiv 1000000 = -((-n) / 1000000) := by rw [← Int.tdiv_eq_ediv_of_nonneg (by omega), Int.neg_tdiv, Int.neg_neg]
    omega

set_option maxRecDepth 100000 in
set_option maxHeartbeats 2000000 in
theorem number_any (d : Dir) (n : Int) (hn : T3.Fits n) (w : World) (hE : Env w) :
    Calls Tryz.prog 127 #[d.val, .int .i64 n] w (StrOut (numS d n) w) := by
  have B0 := Lib.hid (below_new w (.cells #[.bool d.left, .bool d.plus, .bool d.blank, .bool d.zero, .int .i64 d.wide, .int .i64 d.prec, .int .u8 (d.letter : Int)] 97))
  have H0 := Lib.hid (box7 w d)
  have HD := Lib.hid (fun (b : Nat) (hb : b = 8 ∨ b = 10 ∨ b = 16) (W : World) (h : Below w.heap.size w W) => digits_any d n hn b hb W (hE.after h))
  have HF := Lib.hid (fun (W : World) (h : Below w.heap.size w W) => fixed_any d n hn W (hE.after h))
  have HS := Lib.hid (fun m (W : World) => sign_any d m W)
  have HI := Lib.hid (fun W => dint_any n hn W)
  have HT := Lib.hid (fun W => by
    have h := Tryz.strings_TrimPrefix (ofL (fixedS n (manyF d))) ⟨#[45]⟩ W
    rw [ofL_list, show (⟨#[45]⟩ : ByteArray).data.toList = [45] from rfl, trim_fixed] at h
    exact h)
  have hQ : numS d n = numS d n := rfl
  have fin : ∀ t e w', numS d n = t → StrOut t w e w' → StrOut (numS d n) w e w' := fun t e w' h h2 => by rw [h]; exact h2
  have FIN := Lib.hid fin
  unfold Dir.val at HD HF HS ⊢
  clear fin hQ hE
  by_cases h1 : d.letter = 111
  · have HR : Hid (numS d n = digS n 8 (d.letter == 88) d.prec) := Lib.hid (by unfold numS; rw [if_neg (by omega), if_pos h1, h1]; rfl)
    have d1 : ((d.letter : Int) == 111) = true := by rw [h1]; rfl
    clear h1
    go_enter Tryz.func127, Tryz.ntmps127
    go_wp2_with fail
    refine (HD.out 8 (by omega) _ B0.out).mono ?_
    rintro e w1 ⟨rfl, b1⟩
    have B1 := Lib.hid (Below.step B0.out b1)
    clear b1
    go_wp2_with fail
    go_ret
    exact FIN.out _ _ _ HR.out ⟨rfl, B1.out⟩
  have d1 : ((d.letter : Int) == 111) = false := beq_eq_false_iff_ne.2 (by omega)
  by_cases h2 : d.letter = 120
  · have HR : Hid (numS d n = digS n 16 (d.letter == 88) d.prec) := Lib.hid (by unfold numS; rw [if_neg (by omega), if_neg h1, if_pos h2, h2]; rfl)
    have d2 : ((d.letter : Int) == 120) = true := by rw [h2]; rfl
    clear h1 h2
    go_enter Tryz.func127, Tryz.ntmps127
    go_wp2_with fail
    refine (HD.out 16 (by omega) _ B0.out).mono ?_
    rintro e w1 ⟨rfl, b1⟩
    have B1 := Lib.hid (Below.step B0.out b1)
    clear b1
    go_wp2_with fail
    go_ret
    exact FIN.out _ _ _ HR.out ⟨rfl, B1.out⟩
  have d2 : ((d.letter : Int) == 120) = false := beq_eq_false_iff_ne.2 (by omega)
  by_cases h3 : d.letter = 88
  · have HR : Hid (numS d n = digS n 16 (d.letter == 88) d.prec) := Lib.hid (by unfold numS; rw [if_neg (by omega), if_neg h1, if_neg h2, if_pos h3, h3]; rfl)
    have d3 : ((d.letter : Int) == 88) = true := by rw [h3]; rfl
    clear h1 h2 h3
    go_enter Tryz.func127, Tryz.ntmps127
    go_wp2_with fail
    refine (HD.out 16 (by omega) _ B0.out).mono ?_
    rintro e w1 ⟨rfl, b1⟩
    have B1 := Lib.hid (Below.step B0.out b1)
    clear b1
    go_wp2_with fail
    go_ret
    exact FIN.out _ _ _ HR.out ⟨rfl, B1.out⟩
  have d3 : ((d.letter : Int) == 88) = false := beq_eq_false_iff_ne.2 (by omega)
  by_cases h4 : d.letter = 102
  · have HR : Hid (numS d n = signS d (decide (n < 0)) ++ ofL (fixedT n.natAbs (clampN (manyF d)))) := Lib.hid (by unfold numS; rw [if_pos h4])
    have d4 : ((d.letter : Int) == 102) = true := by rw [h4]; rfl
    have HS1 := Lib.hid (fun W => HS.out n W)
    have hz1 := signS_size d (decide (n < 0))
    have hz2 : (ofL (fixedT n.natAbs (clampN (manyF d)))).size ≤ 300 := by rw [ofL_size]; exact fixedT_len _ _ (clampN_le _)
    obtain ⟨X, hX⟩ : ∃ X, X = signS d (decide (n < 0)) := ⟨_, rfl⟩
    obtain ⟨Y, hY⟩ : ∃ Y, Y = ofL (fixedT n.natAbs (clampN (manyF d))) := ⟨_, rfl⟩
    have HT' : Hid (∀ W, Calls Tryz.prog 138 #[.string (ofL (fixedS n (manyF d))), .string ⟨#[45]⟩] W fun e w' => e = .returned (.string Y) ∧ w' = W) := Lib.hid (by rw [hY]; exact HT.out)
    rw [← hX] at HS1 HR hz1
    rw [← hY] at HR hz2
    have n1 : ¬ 9223372036854775807 < X.size + Y.size := by omega
    clear h1 h2 h3 h4 HT HS HI HD hX hY hz1 hz2
    go_enter Tryz.func127, Tryz.ntmps127
    go_wp2_with fail
    go_region_held3 (fun w' => Hid (Below w.heap.size w w') ∧ w'.cell? ⟨w.heap.size, 0, none⟩ = some (.bool d.left) ∧ w'.cell? ⟨w.heap.size, 1, none⟩ = some (.bool d.plus) ∧ w'.cell? ⟨w.heap.size, 2, none⟩ = some (.bool d.blank) ∧ w'.cell? ⟨w.heap.size, 3, none⟩ = some (.bool d.zero) ∧ w'.cell? ⟨w.heap.size, 4, none⟩ = some (.int .i64 d.wide) ∧ w'.cell? ⟨w.heap.size, 5, none⟩ = some (.int .i64 d.prec) ∧ w'.cell? ⟨w.heap.size, 6, none⟩ = some (.int .u8 (d.letter : Int))) (first | exact keep7 H0.out (below_drew _) | exact keep7 (by assumption) (by assumption) | assumption)
      (first
        | (go_at_call 137; refine (HS1.out _).mono ?_; rintro e v1 ⟨rfl, a1⟩)
        | (go_at_call 139; refine (HF.out _ (by first | exact B0.out | exact (show Hid (Below w.heap.size w _) ∧ _ by assumption).1.out)).mono ?_; rintro e v1 ⟨rfl, a1⟩)
        | (go_at_call 138; refine (HT'.out _).mono ?_; rintro e v1 ⟨rfl, rfl⟩))
    have HH := (show Hid (Below w.heap.size w _) ∧ _ by assumption).1.out
    go_wp2_with fail
    go_ret
    exact FIN.out _ _ _ HR.out ⟨rfl, HH⟩
  have d4 : ((d.letter : Int) == 102) = false := beq_eq_false_iff_ne.2 (by omega)
  have HR : Hid (numS d n = signS d (decide (n.tdiv 1000000 * 1000000 < 0)) ++ digS n 10 (d.letter == 88) d.prec) := Lib.hid (by
    rw [int_sign n hn]
    unfold numS; rw [if_neg h4, if_neg h1, if_neg h2, if_neg h3, beq_eq_false_iff_ne.2 h3])
  have HS1 := Lib.hid (fun W => HS.out (n.tdiv 1000000 * 1000000) W)
  have HD1 := Lib.hid (fun W h => HD.out 10 (by omega) W h)
  have hz1 := signS_size d (decide (n.tdiv 1000000 * 1000000 < 0))
  have hz2 := digS_size n 10 (d.letter == 88) d.prec
  obtain ⟨X, hX⟩ : ∃ X, X = signS d (decide (n.tdiv 1000000 * 1000000 < 0)) := ⟨_, rfl⟩
  obtain ⟨Y, hY⟩ : ∃ Y, Y = digS n 10 (d.letter == 88) d.prec := ⟨_, rfl⟩
  obtain ⟨q, hq⟩ : ∃ q, q = n.tdiv 1000000 * 1000000 := ⟨_, rfl⟩
  rw [← hX] at HS1 HR hz1
  rw [← hY] at HR hz2 HD1
  rw [← hq] at HS1 HI
  have n1 : ¬ 9223372036854775807 < X.size + Y.size := by omega
  clear h1 h2 h3 h4 HT HS HD hX hY hz1 hz2 hq HF
  go_enter Tryz.func127, Tryz.ntmps127
  go_wp2_with fail
  go_region_held3 (fun w' => Hid (Below w.heap.size w w') ∧ w'.cell? ⟨w.heap.size, 0, none⟩ = some (.bool d.left) ∧ w'.cell? ⟨w.heap.size, 1, none⟩ = some (.bool d.plus) ∧ w'.cell? ⟨w.heap.size, 2, none⟩ = some (.bool d.blank) ∧ w'.cell? ⟨w.heap.size, 3, none⟩ = some (.bool d.zero) ∧ w'.cell? ⟨w.heap.size, 4, none⟩ = some (.int .i64 d.wide) ∧ w'.cell? ⟨w.heap.size, 5, none⟩ = some (.int .i64 d.prec) ∧ w'.cell? ⟨w.heap.size, 6, none⟩ = some (.int .u8 (d.letter : Int))) (first | exact keep7 H0.out (below_drew _) | exact keep7 (by assumption) (by assumption) | assumption)
    (first
      | (go_at_call 44; refine (HI.out _).mono ?_; rintro e v1 ⟨rfl, rfl⟩)
      | (go_at_call 137; refine (HS1.out _).mono ?_; rintro e v1 ⟨rfl, a1⟩)
      | (go_at_call 136; refine (HD1.out _ (by first | exact B0.out | exact (show Hid (Below w.heap.size w _) ∧ _ by assumption).1.out)).mono ?_; rintro e v1 ⟨rfl, a1⟩))
  have HH := (show Hid (Below w.heap.size w _) ∧ _ by assumption).1.out
  go_wp2_with fail
  go_ret
  exact FIN.out _ _ _ HR.out ⟨rfl, HH⟩
end Go.Proofs.YtbbhcbpfffabpaaGreatDoor
