/- Merged by program: RCount, RCel, RPad, RMakeB. -/
import Derived.Deep.DeepCutAuto
import Derived.Deep.CutBlock
import Derived.Test.YtbbhcbpfffabpaaGreatDoorGav
import Derived.Test.YtbbhcbpfffabpaaGreatDoorGax
import Derived.Test.YtbbhcbpfffabpaaGreatDoorGap
import Derived.Test.YtbbhcbpfffabpaaGreatDoorGaq
import Derived.Test.YtbbhcbpfffabpaaGreatDoorGar
import Derived.Test.YtbbhcbpfffabpaaGreatDoorGao
import Derived.Test.YtbbhcbpfffabpaaGreatDoorGag
import Derived.Test.YtbbhcbpfffabpaaGreatDoorGaw
import Derived.Test.YtbbhcbpfffabpaaGreatDoorGas
/- The document's Count: a walk. -/
namespace Go.Proofs.YtbbhcbpfffabpaaGreatDoor
open Go.RowKit

theorem readS_bd {l : List UInt8} {d : Dir} {k : Nat} (h : readS l = some (d, k)) : (-2 ≤ d.wide ∧ d.wide ≤ 200) ∧ (-2 ≤ d.prec ∧ d.prec ≤ 200) ∧ k ≤ l.length := by
  obtain ⟨hl, hk⟩ := readS_some h
  have h1 := (numR_le (l.drop (flagsR l ⟨false, false, false, false, 0, -1, 0⟩).2)).2.1
  have h2 := (pointR_le (l.drop ((flagsR l ⟨false, false, false, false, 0, -1, 0⟩).2 + (numR (l.drop (flagsR l ⟨false, false, false, false, 0, -1, 0⟩).2)).2))).2.1
  have e1 : -2 ≤ (headR l).1.wide := h1
  have e2 : -2 ≤ (headR l).1.prec := h2
  unfold readS at h
  rw [List.drop_eq_getElem_cons hl] at h
  dsimp only at h
  split at h
  · exact absurd h (by simp)
  · rename_i hn
    injection h with h
    injection h with h _
    rw [← h]
    refine ⟨⟨e1, ?_⟩, ⟨e2, ?_⟩, by omega⟩
    · exact Int.not_lt.1 (fun g => hn (Or.inl g))
    · exact Int.not_lt.1 (fun g => hn (Or.inr (Or.inl g)))

end Go.Proofs.YtbbhcbpfffabpaaGreatDoor

/- What the document tells of cells: a cell's number, a width that a cell tells, the cell at a place, a sign: walks. -/
namespace Go.Proofs.YtbbhcbpfffabpaaGreatDoor
open Go.RowKit

theorem refParseT (s : ByteArray) (hs : s.size ≤ 300) (w : World) :
    Calls Tryz.prog 53 #[.string s] w fun e w' => e = .returned (.tuple #[.int .i64 (T3.pN s.data.toList), .int .i64 (T3.pE s.data.toList : Int), .int .i64 (T3.pR s.data.toList)]) ∧ Below w.heap.size w w' := by
  refine (T3.refParse_any s w hs).mono ?_
  rintro e w' ⟨rfl, hb⟩
  exact ⟨by rw [T3.parse_three], hb⟩

set_option maxRecDepth 100000 in
theorem refNum_any (c : Cel) (h : COk c) (w : World) : Calls Tryz.prog 27 #[c.val] w (TwoOut c.num c.err w) := by
  have B0 := Lib.hid (below_new w (.cells #[.int .i64 c.k, .int .i64 c.n, .string c.s] 25))
  have hs := h.s
  clear h
  unfold Cel.val
  obtain ⟨k, n, s⟩ := c
  dsimp only at hs B0 ⊢
  rcases T3.kind_cases k with rfl | rfl | rfl | rfl | ⟨g0, g1, g2, g3⟩
  · show Calls _ _ _ _ (TwoOut 0 0 w)
    go_enter Tryz.func27, Tryz.ntmps27
    go_wp2_with fail
    go_ret2
    exact ⟨rfl, B0.out⟩
  · show Calls _ _ _ _ (TwoOut n 0 w)
    go_enter Tryz.func27, Tryz.ntmps27
    go_wp2_with fail
    go_ret2
    exact ⟨rfl, B0.out⟩
  · show Calls _ _ _ _ (TwoOut (T3.pN s.data.toList) (T3.pR s.data.toList) w)
    have HL := Lib.hid (fun w => refParseT s hs w)
    obtain ⟨a, ha⟩ : ∃ a, a = T3.pN s.data.toList := ⟨_, rfl⟩
    obtain ⟨b, hb⟩ : ∃ b, b = T3.pR s.data.toList := ⟨_, rfl⟩
    rw [← ha, ← hb] at HL ⊢
    clear ha hb
    go_enter Tryz.func27, Tryz.ntmps27
    go_wp2_with fail
    refine (HL.out _).mono ?_
    rintro e w1 ⟨rfl, b1⟩
    have B1 := Lib.hid (Below.step B0.out b1)
    clear b1
    go_wp2_with fail
    go_ret2
    exact ⟨rfl, B1.out⟩
  · show Calls _ _ _ _ (TwoOut n 0 w)
    go_enter Tryz.func27, Tryz.ntmps27
    go_wp2_with fail
    go_ret2
    exact ⟨rfl, B0.out⟩
  · have e : TwoOut (Cel.num ⟨k, n, s⟩) (Cel.err ⟨k, n, s⟩) w = TwoOut 0 0 w := by
      rw [beq_eq_false_iff_ne] at g1 g2 g3
      unfold Cel.num Cel.err
      dsimp only
      rw [if_neg g2, if_neg g2, if_neg (by simp [g1, g3])]
    rw [e]; clear e
    go_enter Tryz.func27, Tryz.ntmps27
    go_wp2_with fail
    go_ret2
    exact ⟨rfl, B0.out⟩

theorem refCStr_any (c : Cel) (h : COk c) (w : World) : Calls Tryz.prog 21 #[c.val] w (StrOut c.str w) :=
  (T3.refStr_any c.k c.n c.s h.n w).mono fun _ _ h => h

set_option maxRecDepth 100000 in
theorem refStar_any (c : Cel) (h : COk c) (w : World) : Calls Tryz.prog 56 #[c.val] w (TwoOut (starS c).1 (starS c).2 w) := by
  have HN := Lib.hid (fun w => refNum_any c h w)
  have hnc := num_cases c h.n
  have HS : Hid (starS c = if c.err ≠ 0 then (0, c.err) else if c.num.tdiv 1000000 < 0 ∨ 200 < c.num.tdiv 1000000 then (0, 100) else (c.num.tdiv 1000000, 0)) := Lib.hid rfl
  obtain ⟨E, hE⟩ : ∃ E, E = c.err := ⟨_, rfl⟩
  obtain ⟨M, hM⟩ : ∃ M, M = c.num := ⟨_, rfl⟩
  rw [← hE, ← hM] at HN hnc HS
  have B0 := Lib.hid (below_new w (.cells #[.int .i64 c.k, .int .i64 c.n, .string c.s] 25))
  have hv : c.val = .agg #[.int .i64 c.k, .int .i64 c.n, .string c.s] := rfl
  rw [hv] at HN
  rw [hv]
  have fin : ∀ a b e w', starS c = (a, b) → TwoOut a b w e w' → TwoOut (starS c).1 (starS c).2 w e w' := fun a b e w' h1 h2 => by rw [h1]; exact h2
  have FIN := Lib.hid fin
  clear fin hE hM hv
  rcases hnc with ⟨hE, hM⟩ | ⟨hE, hM⟩
  · obtain ⟨q, hq⟩ : ∃ q, q = M.tdiv 1000000 := ⟨_, rfl⟩
    have hqb := tdiv_bd M hM
    rw [← hq] at HS hqb
    rw [hE] at HS HN
    have HN' : Hid (∀ w, Calls Tryz.prog 27 #[.agg #[.int .i64 c.k, .int .i64 c.n, .string c.s]] w (TwoOut M 0 w)) := HN
    clear HN hE
    have wM : wrap64 (M.tdiv 1000000) = q := by rw [← hq]; unfold wrap64; omega
    clear hq
    by_cases h1 : q < 0
    · have d1 : decide (q < 0) = true := decide_eq_true h1
      have HR : Hid (starS c = (0, 100)) := Lib.hid (by rw [HS.out, if_neg (by omega), if_pos (Or.inl h1)])
      go_enter Tryz.func56, Tryz.ntmps56
      go_wp2_with fail
      refine (HN'.out _).mono ?_
      rintro e w1 ⟨rfl, b1⟩
      have B1 := Lib.hid (Below.step B0.out b1)
      clear b1
      go_wp2_with fail
      go_ret2
      exact FIN.out _ _ _ _ HR.out ⟨rfl, B1.out⟩
    · have d1 : decide (q < 0) = false := decide_eq_false h1
      by_cases h2 : 200 < q
      · have d2 : decide (200 < q) = true := decide_eq_true h2
        have HR : Hid (starS c = (0, 100)) := Lib.hid (by rw [HS.out, if_neg (by omega), if_pos (Or.inr h2)])
        go_enter Tryz.func56, Tryz.ntmps56
        go_wp2_with fail
        refine (HN'.out _).mono ?_
        rintro e w1 ⟨rfl, b1⟩
        have B1 := Lib.hid (Below.step B0.out b1)
        clear b1
        go_wp2_with fail
        go_ret2
        exact FIN.out _ _ _ _ HR.out ⟨rfl, B1.out⟩
      · have d2 : decide (200 < q) = false := decide_eq_false h2
        have HR : Hid (starS c = (q, 0)) := Lib.hid (by rw [HS.out, if_neg (by omega), if_neg (by omega)])
        go_enter Tryz.func56, Tryz.ntmps56
        go_wp2_with fail
        refine (HN'.out _).mono ?_
        rintro e w1 ⟨rfl, b1⟩
        have B1 := Lib.hid (Below.step B0.out b1)
        clear b1
        go_wp2_with fail
        go_ret2
        exact FIN.out _ _ _ _ HR.out ⟨by show Ending.returned (.tuple #[.int .i64 (wrap64 (M.tdiv 1000000)), .int .i64 0]) = _; rw [wM], B1.out⟩
  · rw [hE, hM] at HN
    have HR : Hid (starS c = (0, 10)) := Lib.hid (by rw [HS.out, hE, if_pos (by omega)])
    clear hE hM
    go_enter Tryz.func56, Tryz.ntmps56
    go_wp2_with fail
    refine (HN.out _).mono ?_
    rintro e w1 ⟨rfl, b1⟩
    have B1 := Lib.hid (Below.step B0.out b1)
    clear b1
    go_wp2_with fail
    go_ret2
    exact FIN.out _ _ _ _ HR.out ⟨rfl, B1.out⟩

set_option maxRecDepth 100000 in
theorem refSign_any (d : Dir) (m : Bool) (w : World) : Calls Tryz.prog 86 #[d.val, .bool m] w (StrOut (signS d m) w) := by
  have B0 := Lib.hid (below_new w (.cells #[.bool d.left, .bool d.plus, .bool d.blank, .bool d.zero, .int .i64 d.wide, .int .i64 d.prec, .int .u8 (d.letter : Int)] 70))
  unfold Dir.val
  cases m with
  | true =>
    have HS : Hid (signS d true = ofL [45]) := Lib.hid rfl
    go_enter Tryz.func86, Tryz.ntmps86
    go_wp2_with fail
    go_ret
    rw [HS.out]
    exact ⟨rfl, B0.out⟩
  | false =>
    have HS : Hid (signS d false = if d.plus then ofL [43] else if d.blank then ofL [32] else noTxt) := Lib.hid rfl
    obtain ⟨l, p, b, z, wd, pr, lt⟩ := d
    dsimp only at HS B0 ⊢
    cases p with
    | true =>
      go_enter Tryz.func86, Tryz.ntmps86
      go_wp2_with fail
      go_ret
      rw [HS.out]
      exact ⟨rfl, B0.out⟩
    | false =>
      cases b with
      | true =>
        go_enter Tryz.func86, Tryz.ntmps86
        go_wp2_with fail
        go_ret
        rw [HS.out]
        exact ⟨rfl, B0.out⟩
      | false =>
        go_enter Tryz.func86, Tryz.ntmps86
        go_wp2_with fail
        go_ret
        rw [HS.out]
        exact ⟨rfl, B0.out⟩

/-- The cell at a place; Nothing beyond. -/
theorem hdC_drop (l : List Cel) (i : Nat) : hdC (l.drop i) = (l[i]?).getD noCel := by
  unfold hdC
  rw [List.headD_eq_head?_getD, List.head?_drop]

set_option maxRecDepth 100000 in
theorem refAt_any (p : Option Addr) (n cap : Nat) (l : List Cel) (i : Nat) (w : World) (h : CellsAt w p n cap l) (_ : i ≤ 1000000) :
    Calls Tryz.prog 57 #[.slice p n cap, .int .i64 i] w fun e w' => e = .returned (hdC (l.drop i)).val ∧ Below w.heap.size w w' := by
  have hlen := h.len
  have hcap := h.room
  have hmax := h.bound
  by_cases hlt : i < n
  · have dt : decide ((i : Int) < (n : Int)) = true := decide_eq_true (by omega)
    have hil : i < l.length := by omega
    have hx := List.getElem?_eq_getElem hil
    obtain ⟨x, hxe⟩ : ∃ x, x = l[i] := ⟨_, rfl⟩
    rw [← hxe] at hx
    have HX : Hid (hdC (l.drop i) = x) := Lib.hid (by rw [hdC_drop, hx]; rfl)
    obtain ⟨b, off, rfl, hc⟩ : ∃ b off, p = some ⟨b, off, none⟩ ∧ ∀ i c, l[i]? = some c → w.cell? ⟨b, off + i * 3, none⟩ = some (.int .i64 c.k) ∧ w.cell? ⟨b, off + i * 3 + 1, none⟩ = some (.int .i64 c.n) ∧ w.cell? ⟨b, off + i * 3 + 2, none⟩ = some (.string c.s) := by
      rcases h.cells with h0 | h0
      · rw [h0] at hil; simp at hil
      · exact h0
    obtain ⟨e0, e1, e2⟩ := hc i x hx
    have hb := cell_lt e0
    clear h hc hx hxe hil hlen
    go_enter Tryz.func57, Tryz.ntmps57
    go_wp2_with fail
    refine bodyPost_ret (v := .agg #[.int .i64 x.k, .int .i64 x.n, .string x.s]) (by simp [results, Tryz.results57, go_sem]) rfl ⟨by rw [HX.out]; rfl, ?_⟩
    first
    | exact Below.step (below_new _ _) (below_new _ _)
    | exact below_new _ _
    | exact Below.refl _ _
  · have dt : decide ((i : Int) < (n : Int)) = false := decide_eq_false (by omega)
    have HX : Hid (hdC (l.drop i) = noCel) := Lib.hid (by rw [hdC_drop, List.getElem?_eq_none (by omega)]; rfl)
    clear h hlen
    go_enter Tryz.func57, Tryz.ntmps57
    go_wp2_with fail
    refine bodyPost_ret (v := .agg #[.int .i64 0, .int .i64 0, .string ⟨#[]⟩]) (by simp [results, Tryz.results57, go_sem]) rfl ⟨by rw [HX.out]; rfl, ?_⟩
    first
    | exact Below.step (below_new _ _) (below_new _ _)
    | exact below_new _ _
    | exact Below.refl _ _
end Go.Proofs.YtbbhcbpfffabpaaGreatDoor

/- The document's Pad: a walk. -/
namespace Go.Proofs.YtbbhcbpfffabpaaGreatDoor
open Go.RowKit

theorem signed_none {s : ByteArray} (h : s.size = 0) : signed s = false := by
  unfold signed
  have e : s.data.toList = [] := List.eq_nil_of_length_eq_zero (by rw [← Lib.size_eq]; exact h)
  rw [e]
theorem signed_some {s : ByteArray} (h : 0 < s.size) : signed s = (s[0].toNat == 45 || s[0].toNat == 43 || s[0].toNat == 32) := by
  unfold signed
  rw [head_of h]

set_option maxRecDepth 100000 in
set_option maxHeartbeats 1000000 in
theorem refPad_any (s : ByteArray) (hs : s.size ≤ 1000000) (wide : Int) (left zero : Bool) (w : World) :
    Calls Tryz.prog 89 #[.string s, .int .i64 wide, .bool left, .bool zero] w (StrOut (padS s wide left zero) w) := by
  have RC := Lib.hid (fun w => T2.refChars_any s (by omega) w)
  have hc : T2.cnt s 0 ≤ s.size := T2.cnt_le s s.size 0 (by omega)
  have hw := clampN_le wide
  obtain ⟨D1, hD1⟩ : ∃ D1 : Int, D1 = if 200 < wide then 200 else wide := ⟨_, rfl⟩
  obtain ⟨W, hWe⟩ : ∃ W, W = clampN wide := ⟨_, rfl⟩
  have hMD : (if D1 < 0 then 0 else D1) = (W : Int) := by
    rw [hWe, hD1]; unfold clampN; split <;> split <;> (try split) <;> omega
  obtain ⟨C, hCe⟩ : ∃ C, C = T2.cnt s 0 := ⟨_, rfl⟩
  rw [← hWe] at hw
  rw [← hCe] at hc
  obtain ⟨nI, hnI⟩ : ∃ nI : Int, nI = (W : Int) - (C : Int) := ⟨_, rfl⟩
  obtain ⟨M, hMe⟩ : ∃ M, M = nI.toNat := ⟨_, rfl⟩
  have hM : lackN s wide = M := by unfold lackN; rw [← hWe, ← hCe]; omega
  have hM200 : M ≤ 200 := by omega
  have hn1 : nI ≤ 200 := by omega
  have HP : Hid (padS s wide left zero = if left then s ++ fillS 32 M else if zero then s.extract 0 (signAt s) ++ fillS 48 M ++ s.extract (signAt s) s.size else fillS 32 M ++ s) := Lib.hid (by unfold padS; rw [hM])
  have HF : Hid (∀ (x : UInt8) (w : World), Calls Tryz.prog 88 #[.string ⟨#[x]⟩, .int .i64 nI] w fun e w' => e = .returned (.string (fillS x M)) ∧ w' = w) := Lib.hid (fun x w => (fill_any x nI (by omega) w).mono fun e w' ⟨h1, h2⟩ => ⟨by rw [h1, ← hMe]; rfl, h2⟩)
  have fin : ∀ t e w', padS s wide left zero = t → StrOut t w e w' → StrOut (padS s wide left zero) w e w' := fun t e w' h h2 => by rw [h]; exact h2
  have FIN := Lib.hid fin
  have HD1 := Lib.hid hD1
  have HMD := Lib.hid hMD
  have HC := Lib.hid hCe
  have HNI := Lib.hid hnI
  clear fin hM hMe hWe hCe hD1 hMD hnI
  go_enter Tryz.func89, Tryz.ntmps89
  go_upto_if 11 with (fail)
  go_cut [1] (fun v wx => v = .int .i64 D1 ∧ wx = w)
  case first =>
    by_cases h : 200 < wide
    · have d0 : decide (200 < wide) = true := decide_eq_true h
      have e1 : Hid (D1 = 200) := Lib.hid (by rw [HD1.out, if_pos h])
      go_wp2_with fail
      go_meet
      exact ⟨by rw [e1.out], rfl⟩
    · have d0 : decide (200 < wide) = false := decide_eq_false h
      have e1 : Hid (D1 = wide) := Lib.hid (by rw [HD1.out, if_neg h])
      go_wp2_with fail
      go_meet
      exact ⟨by rw [e1.out], rfl⟩
  case rest =>
  obtain ⟨rfl, hw1⟩ := hcut
  have hw2 := hw1.symm
  subst hw2
  go_step
  go_upto_if 13 with (fail)
  go_cut [1] (fun v wx => v = .int .i64 W ∧ wx = w)
  case first =>
    by_cases h : D1 < 0
    · have d0 : decide (D1 < 0) = true := decide_eq_true h
      have e1 : Hid ((W : Int) = 0) := Lib.hid (by rw [← HMD.out, if_pos h])
      go_wp2_with fail
      go_meet
      exact ⟨by rw [e1.out], rfl⟩
    · have d0 : decide (D1 < 0) = false := decide_eq_false h
      have e1 : Hid ((W : Int) = D1) := Lib.hid (by rw [← HMD.out, if_neg h])
      go_wp2_with fail
      go_meet
      exact ⟨by rw [e1.out], rfl⟩
  case rest =>
  obtain ⟨rfl, hw1⟩ := hcut
  have hw2 := hw1.symm
  subst hw2
  go_step
  clear HMD HD1 D1
  go_wp2_with fail
  refine (RC.out _).mono ?_
  rintro e w1 ⟨p, n, c, rfl, hr, hn, hb⟩
  have B1 := Lib.hid hb
  have hnC : n = C := by rw [hn, HC.out]
  subst hnC
  clear hr hn hb RC
  go_upto_region 6 with (fail)
  rw [← HNI.out]
  clear HNI
  cases left with
  | true =>
    have n1 : ¬ 9223372036854775807 < s.size + (fillS 32 M).size := by rw [fillS_size]; omega
    go_wp2_with fail
    refine (HF.out 32 _).mono ?_
    rintro e w2 ⟨rfl, rfl⟩
    go_wp2_with fail
    go_ret
    exact FIN.out _ _ _ (by rw [HP.out]; rfl) ⟨rfl, B1.out⟩
  | false =>
    cases zero with
    | false =>
      have n1 : ¬ 9223372036854775807 < (fillS 32 M).size + s.size := by rw [fillS_size]; omega
      go_wp2_with fail
      refine (HF.out 32 _).mono ?_
      rintro e w2 ⟨rfl, rfl⟩
      go_wp2_with fail
      go_ret
      exact FIN.out _ _ _ (by rw [HP.out]; rfl) ⟨rfl, B1.out⟩
    | true =>
      obtain ⟨A, hA⟩ : ∃ A, A = signed s := ⟨_, rfl⟩
      have hSA : signAt s = if A then 1 else 0 := by unfold signAt; rw [hA]
      rw [hSA] at HP
      clear hSA
      go_upto_region 10 with (fail)
      go_cut [47] (fun x wx => x = .bool A ∧ wx = w1)
      case first =>
        by_cases h0 : s.size = 0
        · have db : A = false := by rw [hA, signed_none h0]
          have d1 : decide ((0 : Int) < (s.size : Int)) = false := decide_eq_false (by omega)
          clear hA
          subst db
          go_wp2_with fail
          go_meet
          exact ⟨rfl, rfl⟩
        · have h1 : 0 < s.size := by omega
          have d1 : decide ((0 : Int) < (s.size : Int)) = true := decide_eq_true (by omega)
          have db := hA
          rw [signed_some h1] at db
          clear hA
          by_cases g0 : s[0].toNat = 45
          · have b0 : ((s[0].toNat : Int) == 45) = true := by rw [g0]; rfl
            rw [g0] at db
            have db' : A = true := db
            clear db g0
            subst db'
            go_wp2_with fail
            go_meet
            exact ⟨rfl, rfl⟩
          · have b0 : ((s[0].toNat : Int) == 45) = false := beq_eq_false_iff_ne.2 (by omega)
            by_cases g1 : s[0].toNat = 43
            · have b1 : ((s[0].toNat : Int) == 43) = true := by rw [g1]; rfl
              rw [g1] at db
              have db' : A = true := db
              clear db g0 g1
              subst db'
              go_wp2_with fail
              go_meet
              exact ⟨rfl, rfl⟩
            · have b1 : ((s[0].toNat : Int) == 43) = false := beq_eq_false_iff_ne.2 (by omega)
              by_cases g2 : s[0].toNat = 32
              · have b2 : ((s[0].toNat : Int) == 32) = true := by rw [g2]; rfl
                rw [g2] at db
                have db' : A = true := db
                clear db g0 g1 g2
                subst db'
                go_wp2_with fail
                go_meet
                exact ⟨rfl, rfl⟩
              · have b2 : ((s[0].toNat : Int) == 32) = false := beq_eq_false_iff_ne.2 (by omega)
                have db' : A = false := by
                  rw [db, beq_eq_false_iff_ne.2 g0, beq_eq_false_iff_ne.2 g1, beq_eq_false_iff_ne.2 g2]; rfl
                clear db g0 g1 g2
                subst db'
                go_wp2_with fail
                go_meet
                exact ⟨rfl, rfl⟩
      case rest =>
      obtain ⟨rfl, hwx⟩ := hcut
      subst hwx
      go_step
      cases A with
      | false =>
        have n1 : ¬ 9223372036854775807 < (fillS 48 M).size + s.size := by rw [fillS_size]; omega
        have HQ : Hid (padS s wide false true = fillS 48 M ++ s) := Lib.hid (by
          rw [HP.out]
          show s.extract 0 0 ++ fillS 48 M ++ s.extract 0 s.size = _
          rw [T2.part_all s]
          exact T2.bytes_ext (by simp))
        clear hA
        go_wp2_with fail
        refine (HF.out 48 _).mono ?_
        rintro e w2 ⟨rfl, rfl⟩
        go_wp2_with fail
        go_ret
        exact FIN.out _ _ _ HQ.out ⟨rfl, B1.out⟩
      | true =>
        have h1 : 1 ≤ s.size := by
          by_cases h0 : s.size = 0
          · rw [signed_none h0] at hA; exact absurd hA (by decide)
          · omega
        clear hA
        have HQ : Hid (padS s wide false true = s.extract 0 1 ++ fillS 48 M ++ s.extract 1 s.size) := Lib.hid (by
          rw [HP.out]; rfl)
        have z1 : (s.extract 0 1).size = 1 := (T2.part_size s 0 1 h1).trans (by omega)
        have z2 : (s.extract 1 s.size).size = s.size - 1 := T2.part_size s 1 s.size (Nat.le_refl _)
        have n1 : ¬ 9223372036854775807 < (s.extract 0 1).size + (fillS 48 M).size := by rw [fillS_size, z1]; omega
        have n2 : ¬ 9223372036854775807 < (s.extract 0 1).size + (fillS 48 M).size + (s.extract 1 s.size).size := by rw [fillS_size, z1, z2]; omega
        have hmin : min 1 s.size = 1 := by omega
        have n3 : ¬ 9223372036854775807 < 1 + (fillS 48 M).size := by rw [fillS_size]; omega
        have n4 : ¬ 9223372036854775807 < 1 + (fillS 48 M).size + (s.size - 1) := by rw [fillS_size]; omega
        clear z1 z2
        have hI1 : (1 : Int) ≤ (s.size : Int) := by omega
        go_wp2_with fail
        go_region_held3 (fun w' => Hid (Below w.heap.size w w')) (first | exact keep0 B1 (below_drew _) | exact keep0 (by assumption) (by assumption) | assumption)
          (first | (go_at_call 88; refine (HF.out 48 _).mono ?_; rintro e v1 ⟨rfl, a1⟩; subst a1))
        have HH : Hid (Below w.heap.size w wc.drew) := by assumption
        go_wp2_with fail
        go_ret
        exact FIN.out _ _ _ HQ.out ⟨rfl, HH.out⟩
end Go.Proofs.YtbbhcbpfffabpaaGreatDoor

/- What the document's make1 stands on: the boxes of a directive and a cell. -/
namespace Go.Proofs.YtbbhcbpfffabpaaGreatDoor
open Go.RowKit

theorem box10R (w : World) (d : Dir) (c : Cel) : Hid (Below w.heap.size w ((w.alloc (.cells #[.bool d.left, .bool d.plus, .bool d.blank, .bool d.zero, .int .i64 d.wide, .int .i64 d.prec, .int .u8 (d.letter : Int)] 70)).alloc (.cells #[.int .i64 c.k, .int .i64 c.n, .string c.s] 25))) ∧ ((w.alloc (.cells #[.bool d.left, .bool d.plus, .bool d.blank, .bool d.zero, .int .i64 d.wide, .int .i64 d.prec, .int .u8 (d.letter : Int)] 70)).alloc (.cells #[.int .i64 c.k, .int .i64 c.n, .string c.s] 25)).cell? ⟨w.heap.size, 0, none⟩ = some (.bool d.left) ∧ ((w.alloc (.cells #[.bool d.left, .bool d.plus, .bool d.blank, .bool d.zero, .int .i64 d.wide, .int .i64 d.prec, .int .u8 (d.letter : Int)] 70)).alloc (.cells #[.int .i64 c.k, .int .i64 c.n, .string c.s] 25)).cell? ⟨w.heap.size, 1, none⟩ = some (.bool d.plus) ∧ ((w.alloc (.cells #[.bool d.left, .bool d.plus, .bool d.blank, .bool d.zero, .int .i64 d.wide, .int .i64 d.prec, .int .u8 (d.letter : Int)] 70)).alloc (.cells #[.int .i64 c.k, .int .i64 c.n, .string c.s] 25)).cell? ⟨w.heap.size, 2, none⟩ = some (.bool d.blank) ∧ ((w.alloc (.cells #[.bool d.left, .bool d.plus, .bool d.blank, .bool d.zero, .int .i64 d.wide, .int .i64 d.prec, .int .u8 (d.letter : Int)] 70)).alloc (.cells #[.int .i64 c.k, .int .i64 c.n, .string c.s] 25)).cell? ⟨w.heap.size, 3, none⟩ = some (.bool d.zero) ∧ ((w.alloc (.cells #[.bool d.left, .bool d.plus, .bool d.blank, .bool d.zero, .int .i64 d.wide, .int .i64 d.prec, .int .u8 (d.letter : Int)] 70)).alloc (.cells #[.int .i64 c.k, .int .i64 c.n, .string c.s] 25)).cell? ⟨w.heap.size, 4, none⟩ = some (.int .i64 d.wide) ∧ ((w.alloc (.cells #[.bool d.left, .bool d.plus, .bool d.blank, .bool d.zero, .int .i64 d.wide, .int .i64 d.prec, .int .u8 (d.letter : Int)] 70)).alloc (.cells #[.int .i64 c.k, .int .i64 c.n, .string c.s] 25)).cell? ⟨w.heap.size, 5, none⟩ = some (.int .i64 d.prec) ∧ ((w.alloc (.cells #[.bool d.left, .bool d.plus, .bool d.blank, .bool d.zero, .int .i64 d.wide, .int .i64 d.prec, .int .u8 (d.letter : Int)] 70)).alloc (.cells #[.int .i64 c.k, .int .i64 c.n, .string c.s] 25)).cell? ⟨w.heap.size, 6, none⟩ = some (.int .u8 (d.letter : Int)) ∧ ((w.alloc (.cells #[.bool d.left, .bool d.plus, .bool d.blank, .bool d.zero, .int .i64 d.wide, .int .i64 d.prec, .int .u8 (d.letter : Int)] 70)).alloc (.cells #[.int .i64 c.k, .int .i64 c.n, .string c.s] 25)).cell? ⟨(w.heap.size + 1), 0, none⟩ = some (.int .i64 c.k) ∧ ((w.alloc (.cells #[.bool d.left, .bool d.plus, .bool d.blank, .bool d.zero, .int .i64 d.wide, .int .i64 d.prec, .int .u8 (d.letter : Int)] 70)).alloc (.cells #[.int .i64 c.k, .int .i64 c.n, .string c.s] 25)).cell? ⟨(w.heap.size + 1), 1, none⟩ = some (.int .i64 c.n) ∧ ((w.alloc (.cells #[.bool d.left, .bool d.plus, .bool d.blank, .bool d.zero, .int .i64 d.wide, .int .i64 d.prec, .int .u8 (d.letter : Int)] 70)).alloc (.cells #[.int .i64 c.k, .int .i64 c.n, .string c.s] 25)).cell? ⟨(w.heap.size + 1), 2, none⟩ = some (.string c.s) :=
  ⟨Lib.hid (Below.step (below_new _ _) (below_new _ _)), by simp [go_sem], by simp [go_sem], by simp [go_sem], by simp [go_sem], by simp [go_sem], by simp [go_sem], by simp [go_sem], by simp [go_sem], by simp [go_sem], by simp [go_sem]⟩
theorem make_bad {d : Dir} {c : Cel} {x : Int} (h : bodyS d c = (noTxt, x)) (hx : x ≠ 0) : makeS d c = (noTxt, x) := by
  unfold makeS
  rw [h, if_pos hx]
theorem make_good {d : Dir} {c : Cel} {t : ByteArray} (h : bodyS d c = (t, 0)) : makeS d c = (padS t d.wide d.left (zeroB d), 0) := by
  unfold makeS
  rw [h]
  rfl
end Go.Proofs.YtbbhcbpfffabpaaGreatDoor
