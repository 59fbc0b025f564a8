/- Merged by program: CountP, CountW, G10Join, DRow. -/
import Derived.Test.YtfhnbpilbbbckaaGreatDoorHau
import Derived.Test.YtfhnbpilbbbckaaGreatDoorHat
import Derived.Test.YtfhnbpilbbbckaaGreatDoorHao
/- format.directive's takes, format.Count: walks. -/
namespace Go.Proofs.YtfhnbpilbbbckaaGreatDoor
open Go.RowKit

theorem idx2i (a b : Value) (w : World) : (Instr.index 86 (.agg #[a, b]) (.int .i64 0)).run Tryz.prog w = .ok a w ∧ (Instr.index 86 (.agg #[a, b]) (.int .i64 1)).run Tryz.prog w = .ok b w := ⟨by kernel_rfl, by kernel_rfl⟩

set_option maxRecDepth 100000 in
set_option maxHeartbeats 1000000 in
theorem takes_any (d : Dir) (w : World) : Calls Tryz.prog 23 #[d.val] w fun e w' => e = .returned (.int .i64 (takesD d : Nat)) ∧ Below w.heap.size w w' := by
  have B0 := Lib.hid (below_new w (.cells #[.bool d.left, .bool d.plus, .bool d.blank, .bool d.zero, .int .i64 d.wide, .int .i64 d.prec, .int .u8 (d.letter : Int)] 49))
  have hI := idx2i (.int .i64 d.wide) (.int .i64 d.prec)
  obtain ⟨a, ha⟩ : ∃ a : Nat, a = if d.wide = -2 then 1 else 0 := ⟨_, rfl⟩
  obtain ⟨b, hb⟩ : ∃ b : Nat, b = if d.prec = -2 then 1 else 0 := ⟨_, rfl⟩
  have HT : Hid (takesD d = a + b + if d.letter = 37 then 0 else 1) := Lib.hid (by unfold takesD; rw [ha, hb])
  have hb1 : b ≤ 1 := by rw [hb]; split <;> omega
  have ha1 : a ≤ 1 := by rw [ha]; split <;> omega
  have HAB := Lib.hid (⟨ha, hb⟩ : _ ∧ _)
  clear ha hb
  unfold Dir.val
  go_enter Tryz.func23, Tryz.ntmps23
  go_wp2_with fail
  go_loop [3, 11] (fun x z => ∃ i n : Nat, x = .int .i64 n ∧ z = .int .i64 i ∧ i ≤ 2 ∧ Hid (n = if i = 0 then 0 else if i = 1 then a else a + b)) (fun _ z => 2 - (intOf z).toNat)
  case atStart => exact ⟨0, 0, rfl, rfl, by omega, Lib.hid rfl⟩
  case round =>
    obtain ⟨i, n, rfl, rfl, hi, HN⟩ := hrel
    have hi3 : i = 0 ∨ i = 1 ∨ i = 2 := by omega
    have hn2 : n ≤ 2 := by rw [HN.out]; split; omega; split <;> omega
    rcases hi3 with rfl | rfl | rfl
    · by_cases hs : d.wide = -2
      · have d1 : (d.wide == -2) = true := beq_iff_eq.2 hs
        have hs' := Lib.hid hs
        clear hs
        go_wp2_with fail
        go_round
        case rel => exact ⟨1, n + 1, by go_num, rfl, by omega, Lib.hid (by rw [HN.out, HAB.out.1, if_pos hs'.out]; rfl)⟩
        case measure => simp [intOf]
      · have d1 : (d.wide == -2) = false := beq_eq_false_iff_ne.2 hs
        have hs' := Lib.hid hs
        clear hs
        go_wp2_with fail
        go_round
        case rel => exact ⟨1, n, by go_num, rfl, by omega, Lib.hid (by rw [HN.out, HAB.out.1, if_neg hs'.out]; rfl)⟩
        case measure => simp [intOf]
    · by_cases hs : d.prec = -2
      · have d1 : (d.prec == -2) = true := beq_iff_eq.2 hs
        have hs' := Lib.hid hs
        clear hs
        go_wp2_with fail
        go_round
        case rel => exact ⟨2, n + 1, by go_num, rfl, by omega, Lib.hid (by rw [HN.out, HAB.out.2, if_pos hs'.out]; rfl)⟩
        case measure => simp [intOf]
      · have d1 : (d.prec == -2) = false := beq_eq_false_iff_ne.2 hs
        have hs' := Lib.hid hs
        clear hs
        go_wp2_with fail
        go_round
        case rel => exact ⟨2, n, by go_num, rfl, by omega, Lib.hid (by rw [HN.out, HAB.out.2, if_neg hs'.out]; rfl)⟩
        case measure => simp [intOf]
    · by_cases hl : d.letter = 37
      · have d1 : ((d.letter : Int) != 37) = false := by rw [hl]; rfl
        have HR : Hid (((takesD d : Nat) : Int) = (n : Int)) := Lib.hid (by rw [HT.out, HN.out, if_pos hl]; rfl)
        clear hl
        go_wp2_with fail
        go_ret
        exact ⟨T2.ret_i64 HR.out.symm, B0.out⟩
      · have d1 : ((d.letter : Int) != 37) = true := bne_iff_ne.2 (by omega)
        have HR : Hid (((takesD d : Nat) : Int) = (n : Int) + 1) := Lib.hid (by rw [HT.out, HN.out, if_neg hl]; rfl)
        clear hl
        go_wp2_with fail
        go_ret
        exact ⟨T2.ret_i64 HR.out.symm, B0.out⟩
end Go.Proofs.YtfhnbpilbbbckaaGreatDoor

/- format.Count: a walk. -/
namespace Go.Proofs.YtfhnbpilbbbckaaGreatDoor
open Go.RowKit

def cntN (l : List UInt8) : Nat := (countL l).getD 0
def cntE (l : List UInt8) : Int := if countL l = none then 100 else 0
/-- What Count tells. -/
def CountOut (l : List UInt8) (w : World) (e : Ending) (w' : World) : Prop := e = .returned (.tuple #[.int .i64 (cntN l : Nat), .int .i64 (cntE l)]) ∧ Below w.heap.size w w'
theorem takes_le (d : Dir) : takesD d ≤ 3 := by
  unfold takesD
  split <;> split <;> split <;> omega

set_option maxRecDepth 100000 in
set_option maxHeartbeats 2000000 in
theorem countP_any (l : List UInt8) (hl : l.length ≤ 100000) (w : World) (hE : Env w) :
    Calls Tryz.prog 11 #[.string (ofL l)] w (CountOut l w) := by
  have HE := Lib.hid hE
  have fin : ∀ (n : Int) (x : Int) w', ((cntN l : Nat) : Int) = n → cntE l = x → Below w.heap.size w w' → CountOut l w (.returned (.tuple #[.int .i64 n, .int .i64 x])) w' := fun n x w' h1 h2 h3 => ⟨by rw [h1, h2], h3⟩
  have FIN := Lib.hid fin
  clear hE fin
  go_enter Tryz.func11, Tryz.ntmps11
  go_wp2_with fail
  go_loopw [0, 4] (fun x y wr => ∃ (r : List UInt8) (n : Nat), x = .string (ofL r) ∧ y = .int .i64 n ∧ n + 3 * r.length ≤ 300000 ∧ r.length ≤ 100000 ∧ Hid (countL l = (countL r).map (· + n) ∧ Below w.heap.size w wr)) (fun x _ _ => lenOf x)
  case atStart => exact ⟨l, 0, rfl, rfl, by omega, hl, Lib.hid ⟨by cases countL l <;> rfl, Below.refl _ _⟩⟩
  case round =>
    obtain ⟨r, n, rfl, rfl, hn, hr, HA⟩ := hrel
    have HC := Lib.hid (cut_of r hr wr (HE.out.after HA.out.2))
    go_wp2_with fail
    refine HC.out.mono ?_
    rintro e w1 ⟨⟨P, R, h1, h2, rfl⟩ | ⟨h1, rfl⟩, b1⟩
    · have B1 := Lib.hid (Below.step HA.out.2 b1)
      have H1 := Lib.hid (⟨h1, h2⟩ : _ ∧ _)
      have hRl : R.length + 1 ≤ r.length := by rw [h1]; simp
      have HRd := Lib.hid (read_any R (by omega) w1)
      clear b1 h1 h2 HC
      go_wp2_with fail
      refine HRd.out.mono ?_
      rintro e w2 ⟨⟨hno, rfl⟩ | ⟨d, k, hd, rfl⟩, b2⟩
      · have B2 := Lib.hid (Below.step B1.out b2)
        have HNo : Hid (countL l = none) := Lib.hid (by
          have hs : readS R = none := by
            rcases read_same R with ⟨_, h⟩ | ⟨d, d', k, h, _⟩
            · exact h
            · rw [hno] at h; exact absurd h (by simp)
          rw [HA.out.1, H1.out.1, countL_plain _ _ H1.out.2, countL_none hs rfl]; rfl)
        unfold Dir.val
        clear b2 hno HRd
        go_wp2_with fail
        go_ret2
        exact FIN.out _ _ _ (by unfold cntN; rw [HNo.out]; rfl) (by unfold cntE; rw [if_pos HNo.out]) (Below.step B2.out (below_new _ _))
      · have hk := readP_le hd
        have HSo : Hid (countL l = (countL (R.drop k)).map (· + (n + takesD d))) := Lib.hid (by
          rcases read_same R with ⟨h, _⟩ | ⟨d2, d', k', h, hs, hal⟩
          · rw [hd] at h; exact absurd h (by simp)
          · rw [hd] at h
            injection h with h
            injection h with e1 e2
            subst e1 e2
            have ht := (alike_same hal []).2.2.1
            rw [HA.out.1, H1.out.1, countL_plain _ _ H1.out.2, countL_some hs rfl, ht]
            cases countL (R.drop k) with
            | none => rfl
            | some m =>
              show some (m + takesD d' + n) = some (m + (n + takesD d'))
              rw [Nat.add_assoc, Nat.add_comm (takesD d') n])
        have B2 := Lib.hid (Below.step B1.out b2)
        have HTk := Lib.hid (fun W => takes_any d W)
        have htl := takes_le d
        obtain ⟨tk, htk⟩ : ∃ tk, tk = takesD d := ⟨_, rfl⟩
        rw [← htk] at HSo HTk htl
        unfold Dir.val at HTk ⊢
        have hdl : (R.drop k).length ≤ R.length := by rw [List.length_drop]; omega
        have B3 := Lib.hid (Below.step B2.out (below_new w2 (.cells #[.bool d.left, .bool d.plus, .bool d.blank, .bool d.zero, .int .i64 d.wide, .int .i64 d.prec, .int .u8 (d.letter : Int)] 49)))
        clear b2 hd hk HRd htk
        go_wp2_with fail
        refine (HTk.out _).mono ?_
        rintro e w3 ⟨rfl, b3⟩
        have B4 := Lib.hid (Below.step B3.out b3)
        clear b3
        go_wp2_with fail
        go_roundw
        case rel => exact ⟨R.drop k, n + tk, rfl, by go_num, by omega, by omega, Lib.hid ⟨HSo.out, B4.out⟩⟩
        case measure =>
          show (ofL (R.drop k)).size < (ofL r).size
          rw [ofL_size, ofL_size]; omega
    · have HSo : Hid (countL l = some n) := Lib.hid (by
        rw [HA.out.1, countL_all _ h1]
        show some (0 + n) = _
        rw [Nat.zero_add])
      have B1 := Lib.hid (Below.step HA.out.2 b1)
      clear b1 h1 HC
      go_wp2_with fail
      go_ret2
      exact FIN.out _ _ _ (by unfold cntN; rw [HSo.out]; rfl) (by unfold cntE; rw [HSo.out, if_neg (by simp)]) B1.out
end Go.Proofs.YtfhnbpilbbbckaaGreatDoor

/- Formats one behind the other, and more cells than are taken: plain. -/
namespace Go.Proofs.YtfhnbpilbbbckaaGreatDoor
open Go.RowKit

theorem digs_app : ∀ (l r : List UInt8) (n : Nat), (digs l n).2 < l.length → digs (l ++ r) n = digs l n
  | [], _, _, h => absurd h (by simp)
  | b :: l, r, n, h => by
    rw [List.cons_append]
    by_cases hb : 48 ≤ b.toNat ∧ b.toNat ≤ 57
    · have h' : (digs l (if 200 < n * 10 + (b.toNat - 48) then 201 else n * 10 + (b.toNat - 48))).2 < l.length := by
        rw [digs, if_pos hb] at h
        simp only [List.length_cons] at h
        omega
      rw [digs, if_pos hb, digs, if_pos hb, digs_app l r _ h']
    · rw [digs, if_neg hb, digs, if_neg hb]
theorem flagsR_app : ∀ (l r : List UInt8) (d : Dir), (flagsR l d).2 < l.length → flagsR (l ++ r) d = flagsR l d
  | [], _, _, h => absurd h (by simp)
  | b :: l, r, d, h => by
    rw [List.cons_append]
    by_cases hb : b.toNat = 45 ∨ b.toNat = 43 ∨ b.toNat = 32 ∨ b.toNat = 48
    · have h' : (flagsR l { d with left := d.left || b.toNat == 45, plus := d.plus || b.toNat == 43, blank := d.blank || b.toNat == 32, zero := d.zero || b.toNat == 48 }).2 < l.length := by
        rw [flagsR, if_pos hb] at h
        simp only [List.length_cons] at h
        omega
      rw [flagsR, if_pos hb, flagsR, if_pos hb, flagsR_app l r _ h']
    · rw [flagsR, if_neg hb, flagsR, if_neg hb]
theorem numR_app (l r : List UInt8) (h : (numR l).2 < l.length) : numR (l ++ r) = numR l := by
  cases l with
  | nil => exact absurd h (by simp)
  | cons b l =>
    show (if b.toNat = 42 then _ else _) = (if b.toNat = 42 then _ else _)
    by_cases hb : b.toNat = 42
    · rw [if_pos hb, if_pos hb]
    · have h' : (digs (b :: l) 0).2 < (b :: l).length := by
        have e : numR (b :: l) = (((digs (b :: l) 0).1 : Int), (digs (b :: l) 0).2) := by
          show (if b.toNat = 42 then _ else _) = _
          rw [if_neg hb]
        rw [e] at h
        exact h
      rw [if_neg hb, if_neg hb, show b :: l.append r = (b :: l) ++ r from rfl, digs_app _ r 0 h']
theorem pointR_app (l r : List UInt8) (h : (pointR l).2 < l.length) : pointR (l ++ r) = pointR l := by
  cases l with
  | nil => exact absurd h (by simp)
  | cons b l =>
    show (if b.toNat = 46 then _ else _) = (if b.toNat = 46 then _ else _)
    by_cases hb : b.toNat = 46
    · have e : pointR (b :: l) = ((numR l).1, (numR l).2 + 1) := by
        show (if b.toNat = 46 then _ else _) = _
        rw [if_pos hb]
      have h' : (numR l).2 < l.length := by
        rw [e] at h
        simp only [List.length_cons] at h
        omega
      rw [if_pos hb, if_pos hb, show l.append r = l ++ r from rfl, numR_app l r h']
    · rw [if_neg hb, if_neg hb]
theorem headR_app (l r : List UInt8) (h : (headR l).2 < l.length) : headR (l ++ r) = headR l := by
  obtain ⟨a, ha⟩ : ∃ a, a = flagsR l ⟨false, false, false, false, 0, -1, 0⟩ := ⟨_, rfl⟩
  obtain ⟨w, hw⟩ : ∃ w, w = numR (l.drop a.2) := ⟨_, rfl⟩
  obtain ⟨p, hp⟩ : ∃ p, p = pointR (l.drop (a.2 + w.2)) := ⟨_, rfl⟩
  have e : headR l = ({ a.1 with wide := w.1, prec := p.1 }, a.2 + w.2 + p.2) := by
    unfold headR
    dsimp only
    rw [← ha, ← hw, ← hp]
  rw [e] at h
  dsimp only at h
  have e1 : flagsR (l ++ r) ⟨false, false, false, false, 0, -1, 0⟩ = a := by
    rw [flagsR_app l r _ (by rw [← ha]; omega), ha]
  have e2 : numR ((l ++ r).drop a.2) = w := by
    rw [List.drop_append_of_le_length (by omega), numR_app _ r (by rw [← hw, List.length_drop]; omega), hw]
  have e3 : pointR ((l ++ r).drop (a.2 + w.2)) = p := by
    rw [List.drop_append_of_le_length (by omega), pointR_app _ r (by rw [← hp, List.length_drop]; omega), hp]
  rw [e]
  unfold headR
  dsimp only
  rw [e1, e2, e3]
theorem readS_some {l : List UInt8} {d : Dir} {k : Nat} (h : readS l = some (d, k)) : (headR l).2 < l.length ∧ k = (headR l).2 + 1 := by
  unfold readS at h
  by_cases hl : (headR l).2 < l.length
  · refine ⟨hl, ?_⟩
    rw [List.drop_eq_getElem_cons hl] at h
    dsimp only at h
    split at h
    · exact absurd h (by simp)
    · injection h with h
      injection h with _ h
      exact h.symm
  · rw [List.drop_eq_nil_of_le (by omega)] at h
    exact absurd h (by simp)
theorem readS_app {l : List UInt8} {d : Dir} {k : Nat} (r : List UInt8) (h : readS l = some (d, k)) : readS (l ++ r) = some (d, k) := by
  have hl := (readS_some h).1
  rw [← h]
  unfold readS
  rw [headR_app l r hl, List.drop_append_of_le_length (by omega), List.drop_eq_getElem_cons hl]
  rfl

theorem hdC_app (c : Cel) (l x : List Cel) : hdC (c :: l ++ x) = hdC (c :: l) := rfl
theorem dir_more (d : Dir) (cs x : List Cel) (h : takesD d ≤ cs.length) : dirT d (cs ++ x) = dirT d cs ∧ dirC d (cs ++ x) = dirC d cs ++ x ∧ dirC d cs = cs.drop (takesD d) := by
  unfold takesD at h ⊢
  unfold dirT dirC toldD leftC fillE fillV fillC
  by_cases h1 : d.wide = -2
  · by_cases h2 : d.prec = -2
    · by_cases h3 : d.letter = 37
      · simp only [h1, h2, h3, if_true] at h ⊢
        match cs, h with
        | c1 :: c2 :: cs, _ => exact ⟨rfl, rfl, rfl⟩
      · simp only [h1, h2, h3, if_true, if_false] at h ⊢
        match cs, h with
        | c1 :: c2 :: c3 :: cs, _ => exact ⟨rfl, rfl, rfl⟩
    · by_cases h3 : d.letter = 37
      · simp only [h1, h2, h3, if_true, if_false] at h ⊢
        match cs, h with
        | c1 :: cs, _ => exact ⟨rfl, rfl, rfl⟩
      · simp only [h1, h2, h3, if_true, if_false] at h ⊢
        match cs, h with
        | c1 :: c2 :: cs, _ => exact ⟨rfl, rfl, rfl⟩
  · by_cases h2 : d.prec = -2
    · by_cases h3 : d.letter = 37
      · simp only [h1, h2, h3, if_true, if_false] at h ⊢
        match cs, h with
        | c1 :: cs, _ => exact ⟨rfl, rfl, rfl⟩
      · simp only [h1, h2, h3, if_true, if_false] at h ⊢
        match cs, h with
        | c1 :: c2 :: cs, _ => exact ⟨rfl, rfl, rfl⟩
    · by_cases h3 : d.letter = 37
      · simp only [h1, h2, h3, if_true, if_false]
        exact ⟨trivial, trivial, rfl⟩
      · simp only [h1, h2, h3, if_false] at h ⊢
        match cs, h with
        | c1 :: cs, _ => exact ⟨rfl, rfl, rfl⟩

theorem count_pct {b : UInt8} {r : List UInt8} {n : Nat} (hb : b.toNat = 37) (h : countL (b :: r) = some n) : ∃ d k m, readS r = some (d, k) ∧ countL (r.drop k) = some m ∧ n = m + takesD d ∧ k ≤ r.length := by
  cases hr : readS r with
  | none => rw [countL_none hr hb] at h; exact absurd h (by simp)
  | some p =>
    obtain ⟨d, k⟩ := p
    rw [countL_some hr hb] at h
    obtain ⟨m, hm, e⟩ := Option.map_eq_some_iff.1 h
    have := readS_some hr
    exact ⟨d, k, m, rfl, hm, e.symm, by omega⟩

/-- More cells than a format takes change nothing. -/
theorem do_more : ∀ (q : Nat) (l : List UInt8), l.length ≤ q → ∀ (n : Nat) (cs x : List Cel), countL l = some n → n ≤ cs.length → doL l (cs ++ x) = doL l cs
  | _, [], _, _, _, _, _, _ => rfl
  | 0, b :: r, hq, _, _, _, _, _ => absurd hq (by simp)
  | q + 1, b :: r, hq, n, cs, x, h, hn => by
    have hq' : r.length ≤ q := by simpa using hq
    by_cases hb : b.toNat = 37
    · obtain ⟨d, k, m, hr, hm, rfl, hk⟩ := count_pct hb h
      obtain ⟨e1, e2, e3⟩ := dir_more d cs x (by omega)
      rw [doL_some hr _ hb, doL_some hr _ hb, e1, e2, do_more q (r.drop k) (by rw [List.length_drop]; omega) m (dirC d cs) x hm (by rw [e3, List.length_drop]; omega)]
    · rw [countL_other hb] at h
      rw [doL_other hb, doL_other hb, do_more q r hq' n cs x h hn]

/-- What formats one behind the other make. -/
theorem do_join : ∀ (q : Nat) (l : List UInt8), l.length ≤ q → ∀ (g : List UInt8) (n : Nat) (cs : List Cel), countL l = some n → n ≤ cs.length →
    doL (l ++ g) cs = if (doL l cs).2 = 0 then catS (doL l cs).1 (doL g (cs.drop n)) else doL l cs
  | _, [], _, g, n, cs, h, _ => by
    have e : n = 0 := by rw [countL_nil] at h; injection h with h; exact h.symm
    subst e
    rw [List.nil_append, doL_nil, if_pos rfl, List.drop_zero]
    exact (catS_nil _ (doL_err g cs)).symm
  | 0, b :: r, hq, _, _, _, _, _ => absurd hq (by simp)
  | q + 1, b :: r, hq, g, n, cs, h, hn => by
    have hq' : r.length ≤ q := by simpa using hq
    rw [List.cons_append]
    by_cases hb : b.toNat = 37
    · obtain ⟨d, k, m, hr, hm, rfl, hk⟩ := count_pct hb h
      obtain ⟨_, _, e3⟩ := dir_more d cs [] (by omega)
      rw [doL_some (readS_app g hr) _ hb, doL_some hr _ hb, List.drop_append_of_le_length hk]
      by_cases he : (dirT d cs).2 ≠ 0
      · rw [if_pos he, if_pos he, if_neg he]
      · rw [if_neg he, if_neg he, do_join q (r.drop k) (by rw [List.length_drop]; omega) g m (dirC d cs) hm (by rw [e3, List.length_drop]; omega), e3, List.drop_drop, Nat.add_comm (takesD d) m]
        by_cases h2 : (doL (r.drop k) (cs.drop (takesD d))).2 = 0
        · rw [if_pos h2]
          have e : catS (dirT d cs).1 (doL (r.drop k) (cs.drop (takesD d))) = ((dirT d cs).1 ++ (doL (r.drop k) (cs.drop (takesD d))).1, 0) := by
            unfold catS; rw [if_pos h2]
          rw [e, if_pos rfl, catS_cat]
        · rw [if_neg h2]
          have e : catS (dirT d cs).1 (doL (r.drop k) (cs.drop (takesD d))) = (noTxt, (doL (r.drop k) (cs.drop (takesD d))).2) := by
            unfold catS; rw [if_neg h2]
          rw [e, if_neg h2]
    · rw [countL_other hb] at h
      rw [doL_other hb, doL_other hb, do_join q r hq' g n cs h hn]
      by_cases h2 : (doL r cs).2 = 0
      · rw [if_pos h2]
        have e : catS (ofL [b]) (doL r cs) = (ofL [b] ++ (doL r cs).1, 0) := by
          unfold catS; rw [if_pos h2]
        rw [e, if_pos rfl, catS_cat]
      · rw [if_neg h2]
        have e : catS (ofL [b]) (doL r cs) = (noTxt, (doL r cs).2) := by
          unfold catS; rw [if_neg h2]
        rw [e, if_neg h2]
theorem doL_more {l : List UInt8} {n : Nat} {cs x : List Cel} (h : countL l = some n) (hn : n ≤ cs.length) : doL l (cs ++ x) = doL l cs := do_more l.length l (Nat.le_refl _) n cs x h hn
theorem doL_join {l : List UInt8} {n : Nat} {cs : List Cel} (g : List UInt8) (h : countL l = some n) (hn : n ≤ cs.length) :
    doL (l ++ g) cs = if (doL l (cs.take n)).2 = 0 then catS (doL l (cs.take n)).1 (doL g (cs.drop n)) else doL l (cs.take n) := by
  have e : doL l cs = doL l (cs.take n) := by
    have := doL_more (l := l) (n := n) (cs := cs.take n) (x := cs.drop n) h (by rw [List.length_take]; omega)
    rwa [List.take_append_drop] at this
  rw [do_join l.length l (Nat.le_refl _) g n cs h hn, e]
end Go.Proofs.YtfhnbpilbbbckaaGreatDoor

/- The document's directive in memory. -/
namespace Go.Proofs.YtfhnbpilbbbckaaGreatDoor
open Go.RowKit

/-- The block D holds a directive of the document's. -/
def DRow (w : World) (D : Nat) (d : Dir) : Prop := w.heap[D]? = some (.cells d.cells 55 (0, 0))
theorem DRow.lt {w : World} {D : Nat} {d : Dir} (h : DRow w D d) : D < w.heap.size := (Array.getElem?_eq_some_iff.1 h).1
theorem DRow.but {w w' : World} {D : Nat} {d : Dir} (h : DRow w D d) {P : Nat → Prop} (hb : But P w w') (hD : ¬ P D) : DRow w' D d := by
  unfold DRow
  rw [hb.block D h.lt hD]; exact h
theorem DRow.below {w w' : World} {D : Nat} {d : Dir} (h : DRow w D d) (hb : Below w.heap.size w w') : DRow w' D d :=
  h.but (P := fun _ => False) (But.of hb) id
theorem DRow.z {w : World} {D : Nat} {d : Dir} (h : DRow w D d) (j : Nat) : w.frozen? ⟨D, j, none⟩ = false := frozen_of_row _ _ j _ _ h
theorem DRow.c0 {w : World} {D : Nat} {d : Dir} (h : DRow w D d) : w.cell? ⟨D, 0, none⟩ = some (.bool d.left) := cell_of_row _ _ 0 _ _ _ h
theorem DRow.put0 {w : World} {D : Nat} {d : Dir} (h : DRow w D d) (x : Bool) : DRow (w.setCell ⟨D, 0, none⟩ (.bool x)) D { d with left := x } := by
  unfold DRow
  rw [heap_setCell_same _ _ 0 _ _ _ h]; rfl
theorem DRow.c1 {w : World} {D : Nat} {d : Dir} (h : DRow w D d) : w.cell? ⟨D, 1, none⟩ = some (.bool d.plus) := cell_of_row _ _ 1 _ _ _ h
theorem DRow.put1 {w : World} {D : Nat} {d : Dir} (h : DRow w D d) (x : Bool) : DRow (w.setCell ⟨D, 1, none⟩ (.bool x)) D { d with plus := x } := by
  unfold DRow
  rw [heap_setCell_same _ _ 1 _ _ _ h]; rfl
theorem DRow.c2 {w : World} {D : Nat} {d : Dir} (h : DRow w D d) : w.cell? ⟨D, 2, none⟩ = some (.bool d.blank) := cell_of_row _ _ 2 _ _ _ h
theorem DRow.put2 {w : World} {D : Nat} {d : Dir} (h : DRow w D d) (x : Bool) : DRow (w.setCell ⟨D, 2, none⟩ (.bool x)) D { d with blank := x } := by
  unfold DRow
  rw [heap_setCell_same _ _ 2 _ _ _ h]; rfl
theorem DRow.c3 {w : World} {D : Nat} {d : Dir} (h : DRow w D d) : w.cell? ⟨D, 3, none⟩ = some (.bool d.zero) := cell_of_row _ _ 3 _ _ _ h
theorem DRow.put3 {w : World} {D : Nat} {d : Dir} (h : DRow w D d) (x : Bool) : DRow (w.setCell ⟨D, 3, none⟩ (.bool x)) D { d with zero := x } := by
  unfold DRow
  rw [heap_setCell_same _ _ 3 _ _ _ h]; rfl
theorem DRow.c4 {w : World} {D : Nat} {d : Dir} (h : DRow w D d) : w.cell? ⟨D, 4, none⟩ = some (.int .i64 d.wide) := cell_of_row _ _ 4 _ _ _ h
theorem DRow.put4 {w : World} {D : Nat} {d : Dir} (h : DRow w D d) (x : Int) : DRow (w.setCell ⟨D, 4, none⟩ (.int .i64 x)) D { d with wide := x } := by
  unfold DRow
  rw [heap_setCell_same _ _ 4 _ _ _ h]; rfl
theorem DRow.c5 {w : World} {D : Nat} {d : Dir} (h : DRow w D d) : w.cell? ⟨D, 5, none⟩ = some (.int .i64 d.prec) := cell_of_row _ _ 5 _ _ _ h
theorem DRow.put5 {w : World} {D : Nat} {d : Dir} (h : DRow w D d) (x : Int) : DRow (w.setCell ⟨D, 5, none⟩ (.int .i64 x)) D { d with prec := x } := by
  unfold DRow
  rw [heap_setCell_same _ _ 5 _ _ _ h]; rfl
theorem DRow.c6 {w : World} {D : Nat} {d : Dir} (h : DRow w D d) : w.cell? ⟨D, 6, none⟩ = some (.int .u8 (d.letter : Int)) := cell_of_row _ _ 6 _ _ _ h
theorem DRow.put6 {w : World} {D : Nat} {d : Dir} (h : DRow w D d) (x : Nat) : DRow (w.setCell ⟨D, 6, none⟩ (.int .u8 (x : Int))) D { d with letter := x } := by
  unfold DRow
  rw [heap_setCell_same _ _ 6 _ _ _ h]; rfl
theorem DRow.all {w : World} {D : Nat} {T : Dir} (h : DRow w D T) : w.cell? ⟨D, 0, none⟩ = some (.bool T.left) ∧ w.cell? ⟨D, 1, none⟩ = some (.bool T.plus) ∧ w.cell? ⟨D, 2, none⟩ = some (.bool T.blank) ∧ w.cell? ⟨D, 3, none⟩ = some (.bool T.zero) ∧ w.cell? ⟨D, 4, none⟩ = some (.int .i64 T.wide) ∧ w.cell? ⟨D, 5, none⟩ = some (.int .i64 T.prec) ∧ w.cell? ⟨D, 6, none⟩ = some (.int .u8 (T.letter : Int)) :=
  ⟨h.c0, h.c1, h.c2, h.c3, h.c4, h.c5, h.c6⟩
theorem info_D : (Tryz.prog.info? 55).map (·.size) = some 7 := by kernel_rfl
/-- A directive that says nothing yet. -/
def newD : Dir := ⟨false, false, false, false, 0, -1, 0⟩
/-- How far a directive is read: its block, what is w but for new blocks. -/
structure RdN (w wx : World) (d : Dir) : Prop where
  dir : DRow wx (w.heap.size + 1) d
  res : wx.heap[w.heap.size]? = some (.cells zeroD.cells 55 (0, 0))
  below : Below w.heap.size w wx
theorem RdN.lt {w wx : World} {d : Dir} (h : RdN w wx d) : w.heap.size + 1 < wx.heap.size := h.dir.lt
theorem RdN.next {w wx w' : World} {d : Dir} (h : RdN w wx d) (hb : Below wx.heap.size wx w') : RdN w w' d := by
  have := h.lt
  exact ⟨h.dir.below hb, by rw [hb.block _ (by omega)]; exact h.res, Below.step h.below hb⟩
theorem RdN.but {w wx w' : World} {d d' : Dir} (h : RdN w wx d) (hb : But (· = w.heap.size + 1) wx w') (hd : DRow w' (w.heap.size + 1) d') : RdN w w' d' := by
  have := h.lt
  exact ⟨hd, by rw [hb.block _ (by omega) (by omega)]; exact h.res, But.below h.below hb (fun k hk => by omega) (by omega)⟩
theorem rdn_start (w : World) (d : Dir) : RdN w ((w.alloc (.cells #[.bool false, .bool false, .bool false, .bool false, .int .i64 0, .int .i64 0, .int .u8 0] 55)).alloc (.cells d.cells 55)) d := by
  have h1 := heap_alloc_last w (.cells #[.bool false, .bool false, .bool false, .bool false, .int .i64 0, .int .i64 0, .int .u8 0] 55)
  have h2 := heap_alloc_last (w.alloc (.cells #[.bool false, .bool false, .bool false, .bool false, .int .i64 0, .int .i64 0, .int .u8 0] 55)) (.cells d.cells 55)
  rw [World.size_alloc] at h2
  have hb := below_new (w.alloc (.cells #[.bool false, .bool false, .bool false, .bool false, .int .i64 0, .int .i64 0, .int .u8 0] 55)) (.cells d.cells 55)
  exact ⟨h2, by rw [hb.block _ (by rw [World.size_alloc]; omega)]; exact h1, Below.step (below_new _ _) hb⟩
end Go.Proofs.YtfhnbpilbbbckaaGreatDoor
