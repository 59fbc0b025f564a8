/- Merged by program: FlagP, SizeP. -/
import Derived.Test.YtfhnbpilbbbckaaDoorHay
/- format.directive's flags: a walk. -/
namespace Go.Proofs.YtfhnbpilbbbckaaDoor
open Go.RowKit

theorem DirAt.c0 {w : World} {D : Nat} {d : Dir} (h : DirAt w D d) : w.cell? ⟨D, 0, none⟩ = some (.bool d.left) := cell_of_row _ _ 0 _ _ _ h
theorem DirAt.c1 {w : World} {D : Nat} {d : Dir} (h : DirAt w D d) : w.cell? ⟨D, 1, none⟩ = some (.bool d.plus) := cell_of_row _ _ 1 _ _ _ h
theorem DirAt.c2 {w : World} {D : Nat} {d : Dir} (h : DirAt w D d) : w.cell? ⟨D, 2, none⟩ = some (.bool d.blank) := cell_of_row _ _ 2 _ _ _ h
theorem DirAt.c3 {w : World} {D : Nat} {d : Dir} (h : DirAt w D d) : w.cell? ⟨D, 3, none⟩ = some (.bool d.zero) := cell_of_row _ _ 3 _ _ _ h
theorem DirAt.put0 {w : World} {D : Nat} {d : Dir} (h : DirAt w D d) (x : Bool) : DirAt (w.setCell ⟨D, 0, none⟩ (.bool x)) D { d with left := x } := by
  unfold DirAt
  rw [heap_setCell_same _ _ 0 _ _ _ h]; rfl
theorem DirAt.put1 {w : World} {D : Nat} {d : Dir} (h : DirAt w D d) (x : Bool) : DirAt (w.setCell ⟨D, 1, none⟩ (.bool x)) D { d with plus := x } := by
  unfold DirAt
  rw [heap_setCell_same _ _ 1 _ _ _ h]; rfl
theorem DirAt.put2 {w : World} {D : Nat} {d : Dir} (h : DirAt w D d) (x : Bool) : DirAt (w.setCell ⟨D, 2, none⟩ (.bool x)) D { d with blank := x } := by
  unfold DirAt
  rw [heap_setCell_same _ _ 2 _ _ _ h]; rfl
theorem DirAt.put3 {w : World} {D : Nat} {d : Dir} (h : DirAt w D d) (x : Bool) : DirAt (w.setCell ⟨D, 3, none⟩ (.bool x)) D { d with zero := x } := by
  unfold DirAt
  rw [heap_setCell_same _ _ 3 _ _ _ h]; rfl

/-- One flag. -/
def flag1 (b : UInt8) (d : Dir) : Dir := { d with left := d.left || b.toNat == 45, plus := d.plus || b.toNat == 43, blank := d.blank || b.toNat == 32, zero := d.zero || b.toNat == 48 }
theorem flagsR_cons (b : UInt8) (l : List UInt8) (d : Dir) (h : b.toNat = 45 ∨ b.toNat = 43 ∨ b.toNat = 32 ∨ b.toNat = 48) :
    flagsR (b :: l) d = ((flagsR l (flag1 b d)).1, (flagsR l (flag1 b d)).2 + 1) := by
  show (if _ then _ else _) = _
  rw [if_pos h]; rfl
theorem flagsR_stop (b : UInt8) (l : List UInt8) (d : Dir) (h : ¬ (b.toNat = 45 ∨ b.toNat = 43 ∨ b.toNat = 32 ∨ b.toNat = 48)) : flagsR (b :: l) d = (d, 0) := by
  show (if _ then _ else _) = _
  rw [if_neg h]
theorem drop_get {s : ByteArray} {i : Nat} (h : i < s.size) : s.data.toList.drop i = s[i] :: s.data.toList.drop (i + 1) := by
  have h1 : i < s.data.toList.length := by rw [← Lib.size_eq]; exact h
  rw [List.drop_eq_getElem_cons h1]; rfl

/-- What flags leaves. -/
def FlagOut (D : Nat) (s : ByteArray) (r : Dir × Nat) (w : World) (e : Ending) (w' : World) : Prop :=
  e = .returned (.string (s.extract r.2 s.size)) ∧ DirAt w' D r.1 ∧ But (· = D) w w'

set_option maxRecDepth 100000 in
set_option maxHeartbeats 2000000 in
theorem flags_any (D : Nat) (d : Dir) (s : ByteArray) (hs : s.size ≤ 1000000) (w : World) (hD : DirAt w D d) :
    Calls Tryd.prog 51 #[.pointer (some ⟨D, 0, none⟩), .string s] w (FlagOut D s (flagsR s.data.toList d) w) := by
  have H0 := Lib.hid hD
  obtain ⟨R, hR⟩ : ∃ R, R = flagsR s.data.toList d := ⟨_, rfl⟩
  rw [← hR]
  have HR := Lib.hid hR
  clear hR hD
  have fin : ∀ t (r : Dir × Nat) w', R = r → t = s.extract r.2 s.size → DirAt w' D r.1 → But (· = D) w w' → FlagOut D s R w (.returned (.string t)) w' := fun t r w' h1 h2 h3 h4 => by
    rw [h1]; exact ⟨by rw [h2], h3, h4⟩
  have FIN := Lib.hid fin
  clear fin
  go_enter Tryd.func51, Tryd.ntmps51
  go_wp2_with fail
  go_loopw [8] (fun z wr => ∃ (i : Nat) (t : Dir), z = .int .i64 i ∧ i ≤ s.size ∧ Hid (DirAt wr D t ∧ But (· = D) w wr ∧ R = ((flagsR (s.data.toList.drop i) t).1, i + (flagsR (s.data.toList.drop i) t).2))) (fun z _ => s.size - (intOf z).toNat)
  case atStart => exact ⟨0, d, rfl, by omega, Lib.hid ⟨H0.out, But.refl _ _, by rw [HR.out]; simp⟩⟩
  case round =>
    obtain ⟨i, t, rfl, hi, HA⟩ := hrel
    by_cases hlt : i < s.size
    · have dt : decide ((i : Int) < (s.size : Int)) = true := decide_eq_true (by omega)
      have hdr := drop_get hlt
      have hDw := HA.out.1.lt
      by_cases g0 : s[i].toNat = 45
      · have b0 : ((s[i].toNat : Int) == 45) = true := by rw [g0]; rfl
        have c0 := HA.out.1.c0
        have z0 := HA.out.1.z 0
        have HX : Hid (R = ((flagsR (s.data.toList.drop (i + 1)) (flag1 s[i] t)).1, i + 1 + (flagsR (s.data.toList.drop (i + 1)) (flag1 s[i] t)).2)) := Lib.hid (by
          rw [HA.out.2.2, hdr, flagsR_cons _ _ _ (by omega)]
          exact congrArg (Prod.mk _) (by dsimp only; omega))
        have HT : Hid ({ t with left := true } = flag1 s[i] t) := Lib.hid (by unfold flag1; rw [g0]; obtain ⟨a, b, c, e, f, g, h⟩ := t; simp)
        clear hdr g0
        go_wp2_with fail
        go_roundw
        case rel => exact ⟨i + 1, flag1 s[i] t, by go_num, by omega, Lib.hid ⟨by rw [← HT.out]; exact HA.out.1.put0 true, HA.out.2.1.trans (But.set (· = D) D 0 rfl wr _), HX.out⟩⟩
        case measure => simp [intOf]; omega
      have b0 : ((s[i].toNat : Int) == 45) = false := beq_eq_false_iff_ne.2 (by omega)
      by_cases g1 : s[i].toNat = 43
      · have b1 : ((s[i].toNat : Int) == 43) = true := by rw [g1]; rfl
        have c1 := HA.out.1.c1
        have z1 := HA.out.1.z 1
        have HX : Hid (R = ((flagsR (s.data.toList.drop (i + 1)) (flag1 s[i] t)).1, i + 1 + (flagsR (s.data.toList.drop (i + 1)) (flag1 s[i] t)).2)) := Lib.hid (by
          rw [HA.out.2.2, hdr, flagsR_cons _ _ _ (by omega)]
          exact congrArg (Prod.mk _) (by dsimp only; omega))
        have HT : Hid ({ t with plus := true } = flag1 s[i] t) := Lib.hid (by unfold flag1; rw [g1]; obtain ⟨a, b, c, e, f, g, h⟩ := t; simp)
        clear hdr g1
        go_wp2_with fail
        go_roundw
        case rel => exact ⟨i + 1, flag1 s[i] t, by go_num, by omega, Lib.hid ⟨by rw [← HT.out]; exact HA.out.1.put1 true, HA.out.2.1.trans (But.set (· = D) D 1 rfl wr _), HX.out⟩⟩
        case measure => simp [intOf]; omega
      have b1 : ((s[i].toNat : Int) == 43) = false := beq_eq_false_iff_ne.2 (by omega)
      by_cases g2 : s[i].toNat = 32
      · have b2 : ((s[i].toNat : Int) == 32) = true := by rw [g2]; rfl
        have c2 := HA.out.1.c2
        have z2 := HA.out.1.z 2
        have HX : Hid (R = ((flagsR (s.data.toList.drop (i + 1)) (flag1 s[i] t)).1, i + 1 + (flagsR (s.data.toList.drop (i + 1)) (flag1 s[i] t)).2)) := Lib.hid (by
          rw [HA.out.2.2, hdr, flagsR_cons _ _ _ (by omega)]
          exact congrArg (Prod.mk _) (by dsimp only; omega))
        have HT : Hid ({ t with blank := true } = flag1 s[i] t) := Lib.hid (by unfold flag1; rw [g2]; obtain ⟨a, b, c, e, f, g, h⟩ := t; simp)
        clear hdr g2
        go_wp2_with fail
        go_roundw
        case rel => exact ⟨i + 1, flag1 s[i] t, by go_num, by omega, Lib.hid ⟨by rw [← HT.out]; exact HA.out.1.put2 true, HA.out.2.1.trans (But.set (· = D) D 2 rfl wr _), HX.out⟩⟩
        case measure => simp [intOf]; omega
      have b2 : ((s[i].toNat : Int) == 32) = false := beq_eq_false_iff_ne.2 (by omega)
      by_cases g3 : s[i].toNat = 48
      · have b3 : ((s[i].toNat : Int) == 48) = true := by rw [g3]; rfl
        have c3 := HA.out.1.c3
        have z3 := HA.out.1.z 3
        have HX : Hid (R = ((flagsR (s.data.toList.drop (i + 1)) (flag1 s[i] t)).1, i + 1 + (flagsR (s.data.toList.drop (i + 1)) (flag1 s[i] t)).2)) := Lib.hid (by
          rw [HA.out.2.2, hdr, flagsR_cons _ _ _ (by omega)]
          exact congrArg (Prod.mk _) (by dsimp only; omega))
        have HT : Hid ({ t with zero := true } = flag1 s[i] t) := Lib.hid (by unfold flag1; rw [g3]; obtain ⟨a, b, c, e, f, g, h⟩ := t; simp)
        clear hdr g3
        go_wp2_with fail
        go_roundw
        case rel => exact ⟨i + 1, flag1 s[i] t, by go_num, by omega, Lib.hid ⟨by rw [← HT.out]; exact HA.out.1.put3 true, HA.out.2.1.trans (But.set (· = D) D 3 rfl wr _), HX.out⟩⟩
        case measure => simp [intOf]; omega
      have b3 : ((s[i].toNat : Int) == 48) = false := beq_eq_false_iff_ne.2 (by omega)
      have HX : Hid (R = (t, i)) := Lib.hid (by
        rw [HA.out.2.2, hdr, flagsR_stop _ _ _ (by omega)]; rfl)
      clear hdr g0 g1 g2 g3
      go_wp2_with fail
      go_ret
      exact FIN.out _ _ _ HX.out rfl HA.out.1 HA.out.2.1
    · have dt : decide ((i : Int) < (s.size : Int)) = false := decide_eq_false (by omega)
      obtain rfl : i = s.size := by omega
      have hdr : s.data.toList.drop s.size = [] := List.drop_eq_nil_of_le (by rw [← Lib.size_eq]; exact Nat.le_refl _)
      have HX : Hid (R = (t, s.size)) := Lib.hid (by rw [HA.out.2.2, hdr]; rfl)
      clear hdr
      go_wp2_with fail
      go_ret
      exact FIN.out _ _ _ HX.out (T2.part_none s s.size s.size (Nat.le_refl _)).symm HA.out.1 HA.out.2.1
end Go.Proofs.YtfhnbpilbbbckaaDoor

/- format's size: a walk. -/
namespace Go.Proofs.YtfhnbpilbbbckaaDoor
open Go.RowKit

/-- A width that is read: -2 a star, -1 none. -/
def sizeP (l : List UInt8) : Int × Nat := match l with
  | [] => (-1, 0)
  | b :: r => if b.toNat = 42 then (-2, 1) else if (digs (b :: r) 0).2 = 0 then (-1, 0) else (((digs (b :: r) 0).1 : Int), (digs (b :: r) 0).2)
theorem digs_dig (b : UInt8) (l : List UInt8) (n : Nat) (h : 48 ≤ b.toNat ∧ b.toNat ≤ 57) (m : Nat) (hm : m = min (n * 10 + (b.toNat - 48)) 201) : digs (b :: l) n = ((digs l m).1, (digs l m).2 + 1) := by
  show (if _ then _ else _) = _
  rw [if_pos h]
  have e : (if 200 < n * 10 + (b.toNat - 48) then 201 else n * 10 + (b.toNat - 48)) = m := by
    rw [hm]; split <;> omega
  rw [e]
theorem digs_stop (b : UInt8) (l : List UInt8) (n : Nat) (h : ¬ (48 ≤ b.toNat ∧ b.toNat ≤ 57)) : digs (b :: l) n = (n, 0) := by
  show (if _ then _ else _) = _
  rw [if_neg h]

theorem pre_one (b c : UInt8) (l : List UInt8) (h : b = c) : Lib.hasPrefix (b :: l) [c] = true ∧ Lib.trimPrefix (b :: l) [c] = l := by
  subst h
  simp [Lib.trimPrefix, Lib.hasPrefix, List.isPrefixOf]
theorem pre_not (b c : UInt8) (l : List UInt8) (h : b ≠ c) : Lib.hasPrefix (b :: l) [c] = false := by
  have e : (c == b) = false := beq_eq_false_iff_ne.2 (fun e => h e.symm)
  simp [Lib.hasPrefix, List.isPrefixOf, e]
theorem ofL_drop (s : ByteArray) (k : Nat) : ofL (s.data.toList.drop k) = s.extract k s.size := T2.bytes_ext (by rw [ofL_list, Lib.extract_to_end])

/-- strings.CutPrefix at one byte. -/
theorem cutOne_yes (s : ByteArray) (c : UInt8) (h : ∃ r, s.data.toList = c :: r) (w : World) :
    Calls Tryd.prog 53 #[.string s, .string ⟨#[c]⟩] w fun e w' => e = .returned (.tuple #[.string (s.extract 1 s.size), .bool true]) ∧ w = w' := by
  obtain ⟨r, hr⟩ := h
  refine (Tryd.strings_CutPrefix s ⟨#[c]⟩ w).mono ?_
  rintro e w' ⟨rfl, rfl⟩
  refine ⟨?_, rfl⟩
  have h1 := pre_one c c r rfl
  rw [show (⟨#[c]⟩ : ByteArray).data.toList = [c] from rfl, hr, h1.1, h1.2]
  have e : (⟨r.toArray⟩ : ByteArray) = s.extract 1 s.size := by
    rw [← ofL_drop, hr]; rfl
  rw [e]
theorem cutOne_no (s : ByteArray) (c : UInt8) (h : ∀ r, s.data.toList ≠ c :: r) (w : World) :
    Calls Tryd.prog 53 #[.string s, .string ⟨#[c]⟩] w fun e w' => (∃ t : ByteArray, e = .returned (.tuple #[.string t, .bool false])) ∧ w = w' := by
  refine (Tryd.strings_CutPrefix s ⟨#[c]⟩ w).mono ?_
  rintro e w' ⟨rfl, rfl⟩
  have h1 : Lib.hasPrefix s.data.toList [c] = false := by
    cases hl : s.data.toList with
    | nil => rfl
    | cons b r => exact pre_not b c r (fun e => h r (by rw [hl, e]))
  rw [show (⟨#[c]⟩ : ByteArray).data.toList = [c] from rfl, h1]
  exact ⟨⟨_, rfl⟩, rfl⟩

/-- What size tells. -/
def SizeOut (s : ByteArray) (r : Int × Nat) (w : World) (e : Ending) (w' : World) : Prop :=
  e = .returned (.tuple #[.int .i64 r.1, .string (s.extract r.2 s.size)]) ∧ Below w.heap.size w w'

set_option maxRecDepth 100000 in
set_option maxHeartbeats 2000000 in
theorem size_any (s : ByteArray) (hs : s.size ≤ 1000000) (w : World) :
    Calls Tryd.prog 52 #[.string s] w (SizeOut s (sizeP s.data.toList) w) := by
  obtain ⟨R, hR⟩ : ∃ R, R = sizeP s.data.toList := ⟨_, rfl⟩
  rw [← hR]
  have fin : ∀ (v : Int) (t : ByteArray) (k : Nat) w', R = (v, k) → t = s.extract k s.size → Below w.heap.size w w' → SizeOut s R w (.returned (.tuple #[.int .i64 v, .string t])) w' := fun v t k w' h1 h2 h3 => by
    rw [h1]; exact ⟨by rw [h2], h3⟩
  have FIN := Lib.hid fin
  clear fin
  by_cases hst : ∃ r, s.data.toList = 42 :: r
  · have HC := Lib.hid (fun w => cutOne_yes s 42 hst w)
    have HX : Hid (R = (-2, 1)) := Lib.hid (by
      obtain ⟨r, hr⟩ := hst
      rw [hR, hr]; rfl)
    clear hR hst
    go_enter Tryd.func52, Tryd.ntmps52
    go_wp2_with fail
    refine (HC.out _).mono ?_
    rintro e w1 ⟨rfl, rfl⟩
    go_wp2_with fail
    go_ret2
    exact FIN.out _ _ _ _ HX.out rfl (Below.refl _ _)
  · have HC := Lib.hid (fun w => cutOne_no s 42 (fun r h => hst ⟨r, h⟩) w)
    have HX : Hid (R = if (digs s.data.toList 0).2 = 0 then (-1, 0) else (((digs s.data.toList 0).1 : Int), (digs s.data.toList 0).2)) := Lib.hid (by
      rw [hR]
      cases hl : s.data.toList with
      | nil => rfl
      | cons b r =>
        show (if b.toNat = 42 then _ else _) = _
        rw [if_neg (fun h => hst ⟨r, by rw [hl]; exact congrArg (· :: r) (UInt8.toNat_inj.1 (by rw [h]; rfl))⟩)])
    clear hR hst
    obtain ⟨T, hT⟩ : ∃ T, T = digs s.data.toList 0 := ⟨_, rfl⟩
    rw [← hT] at HX
    have HT := Lib.hid hT
    clear hT
    go_enter Tryd.func52, Tryd.ntmps52
    go_wp2_with fail
    refine (HC.out _).mono ?_
    rintro e w1 ⟨⟨t, rfl⟩, rfl⟩
    go_wp2_with fail
    go_loop [6, 7] (fun x y => ∃ n i : Nat, x = .int .i64 n ∧ y = .int .i64 i ∧ i ≤ s.size ∧ n ≤ 201 ∧ Hid (T = ((digs (s.data.toList.drop i) n).1, i + (digs (s.data.toList.drop i) n).2))) (fun _ y => s.size - (intOf y).toNat)
    case atStart => exact ⟨0, 0, rfl, rfl, by omega, by omega, Lib.hid (by rw [HT.out]; simp)⟩
    case round =>
      obtain ⟨n, i, rfl, rfl, hi, hn, HA⟩ := hrel
      by_cases hd : ∃ h : i < s.size, 48 ≤ s[i].toNat ∧ s[i].toNat ≤ 57
      · obtain ⟨hlt, h1, h2⟩ := hd
        have dt : decide (i < s.size) = true := decide_eq_true hlt
        have d1 : decide ((48 : Int) ≤ (s[i].toNat : Int)) = true := decide_eq_true (by omega)
        have d2 : decide ((s[i].toNat : Int) ≤ 57) = true := decide_eq_true (by omega)
        obtain ⟨m, hm⟩ : ∃ m, m = min (n * 10 + (s[i].toNat - 48)) 201 := ⟨_, rfl⟩
        have HX2 : Hid (T = ((digs (s.data.toList.drop (i + 1)) m).1, i + 1 + (digs (s.data.toList.drop (i + 1)) m).2)) := Lib.hid (by
          rw [HA.out, drop_get hlt, digs_dig _ _ _ ⟨h1, h2⟩ m hm]
          exact congrArg (Prod.mk _) (by dsimp only; omega))
        have hmin : min (10 * (n : Int) + ((s[i].toNat : Int) - 48)) 201 = (m : Int) := by rw [hm]; omega
        have hm201 : m ≤ 201 := by omega
        clear hm HA
        go_wp2_with fail
        go_round
        case rel => exact ⟨m, i + 1, by go_num, by go_num, by omega, hm201, HX2⟩
        case measure => simp [intOf]; omega
      · have HX2 : Hid (T = (n, i)) := Lib.hid (by
          rw [HA.out]
          by_cases hlt : i < s.size
          · rw [drop_get hlt, digs_stop _ _ _ (fun h => hd ⟨hlt, h⟩)]; rfl
          · rw [List.drop_eq_nil_of_le (by rw [← Lib.size_eq]; omega)]; rfl)
        by_cases hlt : i < s.size
        · have dt : decide (i < s.size) = true := decide_eq_true hlt
          by_cases h1 : 48 ≤ s[i].toNat
          · have d1 : decide ((48 : Int) ≤ (s[i].toNat : Int)) = true := decide_eq_true (by omega)
            have d2 : decide ((s[i].toNat : Int) ≤ 57) = false := decide_eq_false (fun h => hd ⟨hlt, h1, by omega⟩)
            clear hd
            by_cases h0 : i = 0
            · subst h0
              have HF : Hid (R = (-1, 0)) := Lib.hid (by rw [HX.out, HX2.out, if_pos rfl])
              clear HA
              go_wp2_with fail
              go_ret2
              exact FIN.out _ _ _ _ HF.out (T2.part_all s).symm (Below.refl _ _)
            · have e0 : ((i : Int) == 0) = false := beq_eq_false_iff_ne.2 (by omega)
              have HF : Hid (R = ((n : Int), i)) := Lib.hid (by rw [HX.out, HX2.out, if_neg h0])
              clear HA h0
              go_wp2_with fail
              go_quiet (fail)
              go_wp2_with fail
              go_ret2
              exact FIN.out _ _ _ _ HF.out rfl (Below.drewN' (Below.refl _ _) _)
          · have d1 : decide ((48 : Int) ≤ (s[i].toNat : Int)) = false := decide_eq_false (by omega)
            clear hd
            by_cases h0 : i = 0
            · subst h0
              have HF : Hid (R = (-1, 0)) := Lib.hid (by rw [HX.out, HX2.out, if_pos rfl])
              clear HA
              go_wp2_with fail
              go_ret2
              exact FIN.out _ _ _ _ HF.out (T2.part_all s).symm (Below.refl _ _)
            · have e0 : ((i : Int) == 0) = false := beq_eq_false_iff_ne.2 (by omega)
              have HF : Hid (R = ((n : Int), i)) := Lib.hid (by rw [HX.out, HX2.out, if_neg h0])
              clear HA h0
              go_wp2_with fail
              go_quiet (fail)
              go_wp2_with fail
              go_ret2
              exact FIN.out _ _ _ _ HF.out rfl (Below.drewN' (Below.refl _ _) _)
        · have dt : decide (i < s.size) = false := decide_eq_false hlt
          clear hd
          by_cases h0 : i = 0
          · subst h0
            have HF : Hid (R = (-1, 0)) := Lib.hid (by rw [HX.out, HX2.out, if_pos rfl])
            clear HA
            go_wp2_with fail
            go_ret2
            exact FIN.out _ _ _ _ HF.out (T2.part_all s).symm (Below.refl _ _)
          · have e0 : ((i : Int) == 0) = false := beq_eq_false_iff_ne.2 (by omega)
            have HF : Hid (R = ((n : Int), i)) := Lib.hid (by rw [HX.out, HX2.out, if_neg h0])
            clear HA h0
            go_wp2_with fail
            go_quiet (fail)
            go_wp2_with fail
            go_ret2
            exact FIN.out _ _ _ _ HF.out rfl (Below.drewN' (Below.refl _ _) _)
end Go.Proofs.YtfhnbpilbbbckaaDoor
