/- Merged by program: MakeP, FlagP. -/
import Derived.StillTailTactics
import Derived.Test.YtbbhcbpfffabpaaGreatDoorGar
/- format.directive's makes: a walk. -/
namespace Go.Proofs.YtbbhcbpfffabpaaGreatDoor
open Go.RowKit

theorem DirAt.all {w : World} {D : Nat} {T : Dir} (h : DirAt w D T) : w.cell? ⟨D, 0, none⟩ = some (.bool T.left) ∧ w.cell? ⟨D, 1, none⟩ = some (.bool T.plus) ∧ w.cell? ⟨D, 2, none⟩ = some (.bool T.blank) ∧ w.cell? ⟨D, 3, none⟩ = some (.bool T.zero) ∧ w.cell? ⟨D, 4, none⟩ = some (.int .i64 T.wide) ∧ w.cell? ⟨D, 5, none⟩ = some (.int .i64 T.prec) ∧ w.cell? ⟨D, 6, none⟩ = some (.int .u8 (T.letter : Int)) :=
  ⟨cell_of_row _ _ 0 _ _ _ h, cell_of_row _ _ 1 _ _ _ h, cell_of_row _ _ 2 _ _ _ h, cell_of_row _ _ 3 _ _ _ h, cell_of_row _ _ 4 _ _ _ h, cell_of_row _ _ 5 _ _ _ h, cell_of_row _ _ 6 _ _ _ h⟩
theorem keep7B {w0 W W' : World} {L b : Nat} {x0 x1 x2 x3 x4 x5 x6 : Value} (hn : ¬ b = L) (h : Hid (But (· = L) w0 W) ∧ W.cell? ⟨b, 0, none⟩ = some (x0) ∧ W.cell? ⟨b, 1, none⟩ = some (x1) ∧ W.cell? ⟨b, 2, none⟩ = some (x2) ∧ W.cell? ⟨b, 3, none⟩ = some (x3) ∧ W.cell? ⟨b, 4, none⟩ = some (x4) ∧ W.cell? ⟨b, 5, none⟩ = some (x5) ∧ W.cell? ⟨b, 6, none⟩ = some (x6)) (hb : But (· = L) W W') :
    Hid (But (· = L) w0 W') ∧ W'.cell? ⟨b, 0, none⟩ = some (x0) ∧ W'.cell? ⟨b, 1, none⟩ = some (x1) ∧ W'.cell? ⟨b, 2, none⟩ = some (x2) ∧ W'.cell? ⟨b, 3, none⟩ = some (x3) ∧ W'.cell? ⟨b, 4, none⟩ = some (x4) ∧ W'.cell? ⟨b, 5, none⟩ = some (x5) ∧ W'.cell? ⟨b, 6, none⟩ = some (x6) := by
  obtain ⟨h, c0, c1, c2, c3, c4, c5, c6⟩ := h
  exact ⟨Lib.hid (h.out.trans hb), hb.cell hn c0, hb.cell hn c1, hb.cell hn c2, hb.cell hn c3, hb.cell hn c4, hb.cell hn c5, hb.cell hn c6⟩

/-- The facts on the world stay, whatever is done from block B on. -/
def EnvB (B : Nat) (w : World) : Prop := ∀ W, Below B w W → Env W
theorem EnvB.here {B : Nat} {w : World} (h : EnvB B w) : Env w := h w (Below.refl _ _)
theorem EnvB.on {B : Nat} {w w' : World} (h : EnvB B w) (hb : Below B w w') : EnvB B w' := fun W h2 => h W (hb.trans h2)
theorem EnvB.of {w : World} (h : Env w) : EnvB w.heap.size w := fun _ hb => h.after hb
theorem EnvB.but {B : Nat} {w w' : World} (h : EnvB B w) {P : Nat → Prop} (hb : But P w w') (hB : ∀ k, P k → B ≤ k) (hw : B ≤ w.heap.size) : EnvB B w' := h.on (But.below (Below.refl _ _) hb hB hw)

/-- What makes tells. -/
def MakeOut (B L : Nat) (d : Dir) (cs : List Cel) (w : World) (e : Ending) (w' : World) : Prop :=
  e = .returned (.tuple #[.string (dirT d cs).1, .int .i64 (dirT d cs).2]) ∧ But (· = L) w w' ∧ ((dirT d cs).2 = 0 → Left w' B L (dirC d cs))
theorem dirT_err (d : Dir) (cs : List Cel) : dirT d cs = if fillErr d cs ≠ 0 then (noTxt, fillErr d cs) else if d.letter = 37 then (ofL [37], 0) else makeS (toldD d cs) (hdC (leftC d cs)) := by
  unfold dirT fillErr
  by_cases h1 : fillE d.wide cs ≠ 0
  · rw [if_pos h1, if_pos h1, if_pos h1]
  · rw [if_neg h1, if_neg h1]
theorem starS_ok (c : Cel) : 0 ≤ (starS c).1 ∧ (starS c).1 ≤ 200 := by
  unfold starS
  by_cases h1 : c.err ≠ 0
  · rw [if_pos h1]; omega
  · rw [if_neg h1]
    by_cases h2 : c.num.tdiv 1000000 < 0 ∨ 200 < c.num.tdiv 1000000
    · rw [if_pos h2]; omega
    · rw [if_neg h2]; omega
theorem fillV_ok (x : Int) (cs : List Cel) (hx : -2 ≤ x ∧ x ≤ 200) : -1 ≤ fillV x cs ∧ fillV x cs ≤ 200 := by
  unfold fillV
  split
  · have := starS_ok (hdC cs)
    omega
  · omega
theorem fillErr_zero {d : Dir} {cs : List Cel} (h : fillErr d cs = 0) : fillE d.wide cs = 0 ∧ fillE d.prec (fillC d.wide cs) = 0 := by
  unfold fillErr at h
  split at h
  · rename_i h1; exact absurd h h1
  · rename_i h1; exact ⟨Decidable.not_not.1 h1, h⟩

theorem encode_size (q : Int) : (Utf8.encode q).size ≤ 4 := by
  have key : ∀ c : Nat, (if c < 0x80 then (⟨#[UInt8.ofNat c]⟩ : ByteArray)
      else if c < 0x800 then ⟨#[UInt8.ofNat (0xC0 + c / 64), UInt8.ofNat (0x80 + c % 64)]⟩
      else if c < 0x10000 then ⟨#[UInt8.ofNat (0xE0 + c / 4096), UInt8.ofNat (0x80 + c / 64 % 64), UInt8.ofNat (0x80 + c % 64)]⟩
      else ⟨#[UInt8.ofNat (0xF0 + c / 262144), UInt8.ofNat (0x80 + c / 4096 % 64), UInt8.ofNat (0x80 + c / 64 % 64), UInt8.ofNat (0x80 + c % 64)]⟩).size ≤ 4 := fun c => by
    split
    · exact (by decide : (1 : Nat) ≤ 4)
    split
    · exact (by decide : (2 : Nat) ≤ 4)
    split
    · exact (by decide : (3 : Nat) ≤ 4)
    · exact (by decide : (4 : Nat) ≤ 4)
  exact key _
theorem subB_size (s : ByteArray) (f m : Int) : (T2.subB s f m).size ≤ s.size := by
  unfold T2.subB
  split
  · exact Nat.zero_le _
  split
  · split
    · exact Nat.zero_le _
    · unfold T2.subN; simp [ByteArray.size_extract]; omega
  · unfold T2.subN; simp [ByteArray.size_extract]; omega
theorem numS_size (d : Dir) (n : Int) : (numS d n).size ≤ 400 := by
  unfold numS
  have h1 := fun m => signS_size d m
  have h2 := fun b g => digS_size n b g d.prec
  split
  · rw [ByteArray.size_append, ofL_size]
    have := fixedT_len n.natAbs (clampN (manyF d)) (clampN_le _)
    have := h1 (decide (n < 0))
    omega
  split
  · have := h2 8 false; omega
  split
  · have := h2 16 false; omega
  split
  · have := h2 16 true; omega
  · rw [ByteArray.size_append]
    have := h2 10 false
    have := h1 (decide (n ≤ -1000000))
    omega
theorem body_size (d : Dir) (c : Cel) (hc : COk c) : (bodyS d c).1.size ≤ 400 := by
  have hs := cstr_size c hc
  by_cases h1 : d.letter = 99
  · unfold bodyS
    rw [if_pos h1]
    split
    · unfold chrS
      split
      · exact Nat.zero_le _
      · have := encode_size (c.n.tdiv 1000000); dsimp only; omega
    · have := subB_size c.str 1 1; dsimp only; omega
  by_cases h2 : d.letter = 115
  · unfold bodyS
    rw [if_neg h1, if_pos h2]
    dsimp only
    split
    · omega
    · have := subB_size c.str 1 d.prec; omega
  · rw [body_num d c h1 h2]
    split
    · exact Nat.zero_le _
    · exact numS_size _ _
theorem make_size (d : Dir) (c : Cel) (hc : COk c) : (makeS d c).1.size ≤ 600 := by
  have h := body_size d c hc
  unfold makeS
  split
  · exact Nat.zero_le _
  · have := padS_size (bodyS d c).1 d.wide d.left (zeroB d)
    dsimp only; omega

set_option maxRecDepth 100000 in
set_option maxHeartbeats 2000000 in
theorem makes_any (B L : Nat) (d : Dir) (cs : List Cel) (w : World) (hE : EnvB B w) (hL : Left w B L cs) (hB : B ≤ w.heap.size) (hd : -2 ≤ d.prec ∧ d.prec ≤ 200)
    (hc1 : d.wide = -2 → COk (hdC cs)) (hc2 : d.prec = -2 → COk (hdC (fillC d.wide cs))) (hc3 : d.letter ≠ 37 → COk (hdC (leftC d cs))) :
    Calls Tryz.prog 77 #[d.val, .pointer (some ⟨L, 0, none⟩)] w (MakeOut B L d cs w) := by
  have hLw : L < w.heap.size := by obtain ⟨p, n, cap, h⟩ := hL; exact h.lt
  have hne : w.heap.size ≠ L := by omega
  have hBL : B ≤ L := by obtain ⟨p, n, cap, h⟩ := hL; exact h.base
  have B0 := below_new w (.cells #[.bool d.left, .bool d.plus, .bool d.blank, .bool d.zero, .int .i64 d.wide, .int .i64 d.prec, .int .u8 (d.letter : Int)] 97)
  have hD0 : DirAt (w.alloc (.cells #[.bool d.left, .bool d.plus, .bool d.blank, .bool d.zero, .int .i64 d.wide, .int .i64 d.prec, .int .u8 (d.letter : Int)] 97)) w.heap.size d := heap_alloc_last w _
  have HF := Lib.hid (fill_dir B w.heap.size L d cs (w.alloc (.cells #[.bool d.left, .bool d.plus, .bool d.blank, .bool d.zero, .int .i64 d.wide, .int .i64 d.prec, .int .u8 (d.letter : Int)] 97)) hD0 (hL.below B0) hB hne hc1 hc2)
  have HB0 : Hid (But (DL w.heap.size L) w (w.alloc (.cells #[.bool d.left, .bool d.plus, .bool d.blank, .bool d.zero, .int .i64 d.wide, .int .i64 d.prec, .int .u8 (d.letter : Int)] 97))) := Lib.hid (But.of B0)
  have hT := dirT_err d cs
  have hpo : fillErr d cs = 0 → -1 ≤ (toldD d cs).prec ∧ (toldD d cs).prec ≤ 200 := fun _ => fillV_ok d.prec _ hd
  obtain ⟨E, hEe⟩ : ∃ E, E = fillErr d cs := ⟨_, rfl⟩
  obtain ⟨T, hTt⟩ : ∃ T, T = toldD d cs := ⟨_, rfl⟩
  obtain ⟨lc, hlc⟩ : ∃ lc, lc = leftC d cs := ⟨_, rfl⟩
  have hll : T.letter = d.letter := by rw [hTt]; rfl
  have HC : Hid (dirC d cs = if d.letter = 37 then lc else lc.tail) := Lib.hid (by rw [hlc]; rfl)
  rw [← hlc] at hc3
  rw [← hEe, ← hTt, ← hlc] at hT
  rw [← hEe, ← hTt] at hpo
  have HF' : Hid (Calls Tryz.prog 105 #[.pointer (some ⟨w.heap.size, 0, none⟩), .pointer (some ⟨L, 0, none⟩)] (w.alloc (.cells #[.bool d.left, .bool d.plus, .bool d.blank, .bool d.zero, .int .i64 d.wide, .int .i64 d.prec, .int .u8 (d.letter : Int)] 97)) fun e w' => e = .returned (.int .i64 E) ∧ But (DL w.heap.size L) (w.alloc (.cells #[.bool d.left, .bool d.plus, .bool d.blank, .bool d.zero, .int .i64 d.wide, .int .i64 d.prec, .int .u8 (d.letter : Int)] 97)) w' ∧ (E = 0 → DirAt w' w.heap.size T ∧ Left w' B L lc)) := Lib.hid (by
    rw [hEe, hTt, hlc]; exact HF.out)
  have HE := Lib.hid hE
  have HT := Lib.hid hT
  have HPO := Lib.hid hpo
  have H3 := Lib.hid hc3
  -- what is w but for block L, out of what is w but for D and L, D new
  have hnar : ∀ W, But (DL w.heap.size L) w W → But (· = L) w W := fun W h => ⟨h.os, h.tape, h.output, h.size, fun k hk hn => h.block k hk (fun hp => by
    rcases hp with hp | hp
    · omega
    · exact hn hp)⟩
  have HNar := Lib.hid hnar
  have fin : ∀ s x e w', dirT d cs = (s, x) → e = .returned (.tuple #[.string s, .int .i64 x]) → But (· = L) w w' → (x = 0 → Left w' B L (dirC d cs)) → MakeOut B L d cs w e w' := fun s x e w' h1 h2 h3 h4 => by
    unfold MakeOut
    rw [h1]; exact ⟨h2, h3, h4⟩
  have FIN := Lib.hid fin
  unfold Dir.val
  clear hE hL hc1 hc2 hc3 B0 hD0 HF hT hpo hEe hTt hlc hnar fin
  go_enter Tryz.func77, Tryz.ntmps77
  go_wp2_with fail
  refine HF'.out.mono ?_
  rintro e w1 ⟨rfl, hb1, hz1⟩
  have N1 := Lib.hid (HB0.out.trans hb1)
  have Z1 := Lib.hid hz1
  clear hb1 hz1 HF' HB0
  by_cases he : E = 0
  · subst he
    obtain ⟨hD1, hL1⟩ := Z1.out rfl
    have D1 := Lib.hid hD1
    have L1 := Lib.hid hL1
    have hD1lt := hD1.lt
    obtain ⟨q0, q1, q2, q3, q4, q5, q6⟩ := hD1.all
    clear hD1 hL1 Z1
    by_cases hlt : d.letter = 37
    · have hR : dirT d cs = (ofL [37], 0) := by rw [HT.out, if_neg (by omega), if_pos hlt]
      have d1 : ((T.letter : Int) == 37) = true := by rw [hll, hlt]; rfl
      have HR := Lib.hid hR
      have HCC : Hid (dirC d cs = lc) := Lib.hid (by rw [HC.out, if_pos hlt])
      clear hR hlt hll
      go_wp2_with fail
      go_ret2
      exact FIN.out _ _ _ _ HR.out rfl (HNar.out _ N1.out) (fun _ => by rw [HCC.out]; exact L1.out)
    · have hR : dirT d cs = makeS T (hdC lc) := by rw [HT.out, if_neg (by omega), if_neg hlt]
      have d1 : ((T.letter : Int) == 37) = false := beq_eq_false_iff_ne.2 (by omega)
      have hcc := H3.out hlt
      have HCC : Hid (dirC d cs = lc.tail) := Lib.hid (by rw [HC.out, if_neg hlt])
      have HBd := Lib.hid (fun (W : World) (h : But (· = L) w1 W) => body_any T (HPO.out rfl) (hdC lc) hcc W (HE.out.but ((HNar.out _ N1.out).trans h) (fun k hk => by omega) hB).here)
      have hbs := body_size T (hdC lc) hcc
      have HNx := Lib.hid (fun (W : World) (h : Left W B L lc) => next_any B L lc W h)
      obtain ⟨Z, hzz⟩ : ∃ Z, T.zero = Z := ⟨_, rfl⟩
      rw [hzz] at q3
      have H0 : Hid (Hid (But (· = L) w1 w1) ∧ w1.cell? ⟨w.heap.size, 0, none⟩ = some (.bool T.left) ∧ w1.cell? ⟨w.heap.size, 1, none⟩ = some (.bool T.plus) ∧ w1.cell? ⟨w.heap.size, 2, none⟩ = some (.bool T.blank) ∧ w1.cell? ⟨w.heap.size, 3, none⟩ = some (.bool Z) ∧ w1.cell? ⟨w.heap.size, 4, none⟩ = some (.int .i64 T.wide) ∧ w1.cell? ⟨w.heap.size, 5, none⟩ = some (.int .i64 T.prec) ∧ w1.cell? ⟨w.heap.size, 6, none⟩ = some (.int .u8 (T.letter : Int))) := Lib.hid ⟨Lib.hid (But.refl _ _), q0, q1, q2, q3, q4, q5, q6⟩
      obtain ⟨R, hRe⟩ : ∃ R, R = bodyS T (hdC lc) := ⟨_, rfl⟩
      have HM : Hid (makeS T (hdC lc) = if R.2 ≠ 0 then (noTxt, R.2) else (padS R.1 T.wide T.left (T.zero && mayB T), 0)) := Lib.hid (by rw [hRe]; rfl)
      rw [← hRe] at HBd hbs
      have hcv : (hdC lc).val = .agg #[.int .i64 (hdC lc).k, .int .i64 (hdC lc).n, .string (hdC lc).s] := rfl
      rw [hcv] at HBd
      obtain ⟨s, x⟩ := R
      dsimp only at HBd hbs HM
      have HR := Lib.hid hR
      clear hRe hR hlt hll hcc
      unfold Dir.val at HBd
      rw [hzz] at HBd
      have HZZ := Lib.hid hzz
      clear hzz
      have hne' : ¬ w.heap.size = L := hne
      go_wp2_with fail
      go_region_held3 (fun w' => Hid (But (· = L) w1 w') ∧ w'.cell? ⟨w.heap.size, 0, none⟩ = some (.bool T.left) ∧ w'.cell? ⟨w.heap.size, 1, none⟩ = some (.bool T.plus) ∧ w'.cell? ⟨w.heap.size, 2, none⟩ = some (.bool T.blank) ∧ w'.cell? ⟨w.heap.size, 3, none⟩ = some (.bool Z) ∧ w'.cell? ⟨w.heap.size, 4, none⟩ = some (.int .i64 T.wide) ∧ w'.cell? ⟨w.heap.size, 5, none⟩ = some (.int .i64 T.prec) ∧ w'.cell? ⟨w.heap.size, 6, none⟩ = some (.int .u8 (T.letter : Int))) (first | exact keep7B hne' H0.out (But.of (below_drew _)) | exact keep7B hne' (by assumption) (by assumption) | exact keep7B hne' (by assumption) (But.of (by assumption)) | assumption)
        (first
          | (go_at_call 107; refine (HNx.out _ (by first | exact L1.out.below (below_drew _) | exact L1.out)).mono ?_; rintro e v1 ⟨rfl, hL2, a1⟩; rw [hcv])
          | (go_at_call 106; refine (HBd.out _ (show Hid (But (· = L) w1 _) ∧ _ by assumption).1.out).mono ?_; rintro e v2 ⟨rfl, a2⟩))
      have HS2 := (show Hid (But (· = L) w1 v2) ∧ _ by assumption)
      have N2 := Lib.hid HS2.1.out
      have L2 := Lib.hid hL2
      have A2 := Lib.hid a2
      obtain ⟨_, r0, r1, r2, r3, r4, r5, r6⟩ := HS2
      clear hL2 a1 a2
      by_cases hx : x = 0
      · subst hx
        have HMz := Lib.hid (fun W => mayZero_any T W)
        unfold Dir.val at HMz
        rw [HZZ.out] at HMz
        cases Z with
        | true =>
          have HPd := Lib.hid (fun W => padP_any s (by omega) T.wide T.left (mayB T) W)
          have HRR : Hid (dirT d cs = (padS s T.wide T.left (mayB T), 0)) := Lib.hid (by rw [HR.out, HM.out, if_neg (by decide), HZZ.out]; rw [Bool.true_and])
          go_wp2_with fail
          have H9 : Hid (Hid (Below v2.heap.size v2 v2) ∧ v2.cell? ⟨w.heap.size, 0, none⟩ = some (.bool T.left) ∧ v2.cell? ⟨w.heap.size, 1, none⟩ = some (.bool T.plus) ∧ v2.cell? ⟨w.heap.size, 2, none⟩ = some (.bool T.blank) ∧ v2.cell? ⟨w.heap.size, 3, none⟩ = some (.bool true) ∧ v2.cell? ⟨w.heap.size, 4, none⟩ = some (.int .i64 T.wide) ∧ v2.cell? ⟨w.heap.size, 5, none⟩ = some (.int .i64 T.prec) ∧ v2.cell? ⟨w.heap.size, 6, none⟩ = some (.int .u8 (T.letter : Int))) := Lib.hid ⟨Lib.hid (Below.refl _ _), r0, r1, r2, r3, r4, r5, r6⟩
          clear r0 r1 r2 r3 r4 r5 r6
          go_region_held3 (fun w' => Hid (Below v2.heap.size v2 w') ∧ w'.cell? ⟨w.heap.size, 0, none⟩ = some (.bool T.left) ∧ w'.cell? ⟨w.heap.size, 1, none⟩ = some (.bool T.plus) ∧ w'.cell? ⟨w.heap.size, 2, none⟩ = some (.bool T.blank) ∧ w'.cell? ⟨w.heap.size, 3, none⟩ = some (.bool true) ∧ w'.cell? ⟨w.heap.size, 4, none⟩ = some (.int .i64 T.wide) ∧ w'.cell? ⟨w.heap.size, 5, none⟩ = some (.int .i64 T.prec) ∧ w'.cell? ⟨w.heap.size, 6, none⟩ = some (.int .u8 (T.letter : Int))) (first | exact keep7 H9.out (below_drew _) | exact keep7 (by assumption) (by assumption) | assumption)
            (first
              | (go_at_call 109; refine (HMz.out _).mono ?_; rintro e v3 ⟨rfl, a3⟩)
              | (go_at_call 108; refine (HPd.out _).mono ?_; rintro e v4 ⟨rfl, a4⟩))
          have HH := (show Hid (Below v2.heap.size v2 _) ∧ _ by assumption).1.out
          go_wp2_with fail
          go_ret2
          exact FIN.out _ _ _ _ HRR.out rfl (HNar.out _ (N1.out.trans ((N2.out.wide (fun k _ h => Or.inr h)).trans (But.of HH)))) (fun _ => by rw [HCC.out]; exact (L2.out.below A2.out).below HH)
        | false =>
          have HPd := Lib.hid (fun W => padP_any s (by omega) T.wide T.left false W)
          have HRR : Hid (dirT d cs = (padS s T.wide T.left false, 0)) := Lib.hid (by rw [HR.out, HM.out, if_neg (by decide), HZZ.out]; rw [Bool.false_and])
          go_wp2_with fail
          go_still_tail 11, (by kernel_rfl)
          change wpList _ _ _ _ _ v2.drew
          clear r0 r1 r2 r3 r4 r5 r6
          go_wp2_with fail
          refine (HPd.out _).mono ?_
          rintro e v4 ⟨rfl, a4⟩
          have HH := Lib.hid (Below.step (below_drew v2) a4)
          clear a4
          go_wp2_with fail
          go_ret2
          exact FIN.out _ _ _ _ HRR.out rfl (HNar.out _ (N1.out.trans ((N2.out.wide (fun k _ h => Or.inr h)).trans (But.of HH.out)))) (fun _ => by rw [HCC.out]; exact (L2.out.below A2.out).below HH.out)
      · have HRR : Hid (dirT d cs = (noTxt, x)) := Lib.hid (by rw [HR.out, HM.out, if_pos hx])
        have d2 : (x != 0) = true := bne_iff_ne.2 hx
        have HX := Lib.hid hx
        clear hx
        go_wp2_with fail
        go_ret2
        exact FIN.out _ _ _ _ HRR.out rfl (HNar.out _ (N1.out.trans (N2.out.wide (fun k _ h => Or.inr h)))) (fun h => absurd h HX.out)
  · have hR : dirT d cs = (noTxt, E) := by rw [HT.out, if_pos he]
    have d1 : (E != 0) = true := bne_iff_ne.2 he
    have HR := Lib.hid hR
    have HEE := Lib.hid he
    clear hR he
    go_wp2_with fail
    go_ret2
    exact FIN.out _ _ _ _ HR.out rfl (HNar.out _ N1.out) (fun h => absurd h HEE.out)
end Go.Proofs.YtbbhcbpfffabpaaGreatDoor

/- format.directive's flags: a walk. -/
namespace Go.Proofs.YtbbhcbpfffabpaaGreatDoor
open Go.RowKit

theorem DirAt.c0 {w : World} {D : Nat} {d : Dir} (h : DirAt w D d) : w.cell? ⟨D, 0, none⟩ = some (.bool d.left) := cell_of_row _ _ 0 _ _ _ h
theorem DirAt.c1 {w : World} {D : Nat} {d : Dir} (h : DirAt w D d) : w.cell? ⟨D, 1, none⟩ = some (.bool d.plus) := cell_of_row _ _ 1 _ _ _ h
theorem DirAt.c2 {w : World} {D : Nat} {d : Dir} (h : DirAt w D d) : w.cell? ⟨D, 2, none⟩ = some (.bool d.blank) := cell_of_row _ _ 2 _ _ _ h
theorem DirAt.c3 {w : World} {D : Nat} {d : Dir} (h : DirAt w D d) : w.cell? ⟨D, 3, none⟩ = some (.bool d.zero) := cell_of_row _ _ 3 _ _ _ h
theorem DirAt.put0 {w : World} {D : Nat} {d : Dir} (h : DirAt w D d) (x : Bool) : DirAt (w.setCell ⟨D, 0, none⟩ (.bool x)) D { d with left := x } := by
  unfold DirAt
  rw [heap_setCell_same _ _ 0 _ _ _ h]; rfl
theorem DirAt.put1 {w : World} {D : Nat} {d : Dir} (h : DirAt w D d) (x : Bool) : DirAt (w.setCell ⟨D, 1, none⟩ (.bool x)) D { d with plus := x } := by
  unfold DirAt
  rw [heap_setCell_same _ _ 1 _ _ _ h]; rfl
theorem DirAt.put2 {w : World} {D : Nat} {d : Dir} (h : DirAt w D d) (x : Bool) : DirAt (w.setCell ⟨D, 2, none⟩ (.bool x)) D { d with blank := x } := by
  unfold DirAt
  rw [heap_setCell_same _ _ 2 _ _ _ h]; rfl
theorem DirAt.put3 {w : World} {D : Nat} {d : Dir} (h : DirAt w D d) (x : Bool) : DirAt (w.setCell ⟨D, 3, none⟩ (.bool x)) D { d with zero := x } := by
  unfold DirAt
  rw [heap_setCell_same _ _ 3 _ _ _ h]; rfl

/-- One flag. -/
def flag1 (b : UInt8) (d : Dir) : Dir := { d with left := d.left || b.toNat == 45, plus := d.plus || b.toNat == 43, blank := d.blank || b.toNat == 32, zero := d.zero || b.toNat == 48 }
theorem flagsR_cons (b : UInt8) (l : List UInt8) (d : Dir) (h : b.toNat = 45 ∨ b.toNat = 43 ∨ b.toNat = 32 ∨ b.toNat = 48) :
    flagsR (b :: l) d = ((flagsR l (flag1 b d)).1, (flagsR l (flag1 b d)).2 + 1) := by
  show (if _ then _ else _) = _
  rw [if_pos h]; rfl
theorem flagsR_stop (b : UInt8) (l : List UInt8) (d : Dir) (h : ¬ (b.toNat = 45 ∨ b.toNat = 43 ∨ b.toNat = 32 ∨ b.toNat = 48)) : flagsR (b :: l) d = (d, 0) := by
  show (if _ then _ else _) = _
  rw [if_neg h]
theorem drop_get {s : ByteArray} {i : Nat} (h : i < s.size) : s.data.toList.drop i = s[i] :: s.data.toList.drop (i + 1) := by
  have h1 : i < s.data.toList.length := by rw [← Lib.size_eq]; exact h
  rw [List.drop_eq_getElem_cons h1]; rfl

/-- What flags leaves. -/
def FlagOut (D : Nat) (s : ByteArray) (r : Dir × Nat) (w : World) (e : Ending) (w' : World) : Prop :=
  e = .returned (.string (s.extract r.2 s.size)) ∧ DirAt w' D r.1 ∧ But (· = D) w w'

set_option maxRecDepth 100000 in
set_option maxHeartbeats 2000000 in
theorem flags_any (D : Nat) (d : Dir) (s : ByteArray) (hs : s.size ≤ 1000000) (w : World) (hD : DirAt w D d) :
    Calls Tryz.prog 101 #[.pointer (some ⟨D, 0, none⟩), .string s] w (FlagOut D s (flagsR s.data.toList d) w) := by
  have H0 := Lib.hid hD
  obtain ⟨R, hR⟩ : ∃ R, R = flagsR s.data.toList d := ⟨_, rfl⟩
  rw [← hR]
  have HR := Lib.hid hR
  clear hR hD
  have fin : ∀ t (r : Dir × Nat) w', R = r → t = s.extract r.2 s.size → DirAt w' D r.1 → But (· = D) w w' → FlagOut D s R w (.returned (.string t)) w' := fun t r w' h1 h2 h3 h4 => by
    rw [h1]; exact ⟨by rw [h2], h3, h4⟩
  have FIN := Lib.hid fin
  clear fin
  go_enter Tryz.func101, Tryz.ntmps101
  go_wp2_with fail
  go_loopw [8] (fun z wr => ∃ (i : Nat) (t : Dir), z = .int .i64 i ∧ i ≤ s.size ∧ Hid (DirAt wr D t ∧ But (· = D) w wr ∧ R = ((flagsR (s.data.toList.drop i) t).1, i + (flagsR (s.data.toList.drop i) t).2))) (fun z _ => s.size - (intOf z).toNat)
  case atStart => exact ⟨0, d, rfl, by omega, Lib.hid ⟨H0.out, But.refl _ _, by rw [HR.out]; simp⟩⟩
  case round =>
    obtain ⟨i, t, rfl, hi, HA⟩ := hrel
    by_cases hlt : i < s.size
    · have dt : decide ((i : Int) < (s.size : Int)) = true := decide_eq_true (by omega)
      have hdr := drop_get hlt
      have hDw := HA.out.1.lt
      by_cases g0 : s[i].toNat = 45
      · have b0 : ((s[i].toNat : Int) == 45) = true := by rw [g0]; rfl
        have c0 := HA.out.1.c0
        have z0 := HA.out.1.z 0
        have HX : Hid (R = ((flagsR (s.data.toList.drop (i + 1)) (flag1 s[i] t)).1, i + 1 + (flagsR (s.data.toList.drop (i + 1)) (flag1 s[i] t)).2)) := Lib.hid (by
          rw [HA.out.2.2, hdr, flagsR_cons _ _ _ (by omega)]
          exact congrArg (Prod.mk _) (by dsimp only; omega))
        have HT : Hid ({ t with left := true } = flag1 s[i] t) := Lib.hid (by unfold flag1; rw [g0]; obtain ⟨a, b, c, e, f, g, h⟩ := t; simp)
        clear hdr g0
        go_wp2_with fail
        go_roundw
        case rel => exact ⟨i + 1, flag1 s[i] t, by go_num, by omega, Lib.hid ⟨by rw [← HT.out]; exact HA.out.1.put0 true, HA.out.2.1.trans (But.set (· = D) D 0 rfl wr _), HX.out⟩⟩
        case measure => simp [intOf]; omega
      have b0 : ((s[i].toNat : Int) == 45) = false := beq_eq_false_iff_ne.2 (by omega)
      by_cases g1 : s[i].toNat = 43
      · have b1 : ((s[i].toNat : Int) == 43) = true := by rw [g1]; rfl
        have c1 := HA.out.1.c1
        have z1 := HA.out.1.z 1
        have HX : Hid (R = ((flagsR (s.data.toList.drop (i + 1)) (flag1 s[i] t)).1, i + 1 + (flagsR (s.data.toList.drop (i + 1)) (flag1 s[i] t)).2)) := Lib.hid (by
          rw [HA.out.2.2, hdr, flagsR_cons _ _ _ (by omega)]
          exact congrArg (Prod.mk _) (by dsimp only; omega))
        have HT : Hid ({ t with plus := true } = flag1 s[i] t) := Lib.hid (by unfold flag1; rw [g1]; obtain ⟨a, b, c, e, f, g, h⟩ := t; simp)
        clear hdr g1
        go_wp2_with fail
        go_roundw
        case rel => exact ⟨i + 1, flag1 s[i] t, by go_num, by omega, Lib.hid ⟨by rw [← HT.out]; exact HA.out.1.put1 true, HA.out.2.1.trans (But.set (· = D) D 1 rfl wr _), HX.out⟩⟩
        case measure => simp [intOf]; omega
      have b1 : ((s[i].toNat : Int) == 43) = false := beq_eq_false_iff_ne.2 (by omega)
      by_cases g2 : s[i].toNat = 32
      · have b2 : ((s[i].toNat : Int) == 32) = true := by rw [g2]; rfl
        have c2 := HA.out.1.c2
        have z2 := HA.out.1.z 2
        have HX : Hid (R = ((flagsR (s.data.toList.drop (i + 1)) (flag1 s[i] t)).1, i + 1 + (flagsR (s.data.toList.drop (i + 1)) (flag1 s[i] t)).2)) := Lib.hid (by
          rw [HA.out.2.2, hdr, flagsR_cons _ _ _ (by omega)]
          exact congrArg (Prod.mk _) (by dsimp only; omega))
        have HT : Hid ({ t with blank := true } = flag1 s[i] t) := Lib.hid (by unfold flag1; rw [g2]; obtain ⟨a, b, c, e, f, g, h⟩ := t; simp)
        clear hdr g2
        go_wp2_with fail
        go_roundw
        case rel => exact ⟨i + 1, flag1 s[i] t, by go_num, by omega, Lib.hid ⟨by rw [← HT.out]; exact HA.out.1.put2 true, HA.out.2.1.trans (But.set (· = D) D 2 rfl wr _), HX.out⟩⟩
        case measure => simp [intOf]; omega
      have b2 : ((s[i].toNat : Int) == 32) = false := beq_eq_false_iff_ne.2 (by omega)
      by_cases g3 : s[i].toNat = 48
      · have b3 : ((s[i].toNat : Int) == 48) = true := by rw [g3]; rfl
        have c3 := HA.out.1.c3
        have z3 := HA.out.1.z 3
        have HX : Hid (R = ((flagsR (s.data.toList.drop (i + 1)) (flag1 s[i] t)).1, i + 1 + (flagsR (s.data.toList.drop (i + 1)) (flag1 s[i] t)).2)) := Lib.hid (by
          rw [HA.out.2.2, hdr, flagsR_cons _ _ _ (by omega)]
          exact congrArg (Prod.mk _) (by dsimp only; omega))
        have HT : Hid ({ t with zero := true } = flag1 s[i] t) := Lib.hid (by unfold flag1; rw [g3]; obtain ⟨a, b, c, e, f, g, h⟩ := t; simp)
        clear hdr g3
        go_wp2_with fail
        go_roundw
        case rel => exact ⟨i + 1, flag1 s[i] t, by go_num, by omega, Lib.hid ⟨by rw [← HT.out]; exact HA.out.1.put3 true, HA.out.2.1.trans (But.set (· = D) D 3 rfl wr _), HX.out⟩⟩
        case measure => simp [intOf]; omega
      have b3 : ((s[i].toNat : Int) == 48) = false := beq_eq_false_iff_ne.2 (by omega)
      have HX : Hid (R = (t, i)) := Lib.hid (by
        rw [HA.out.2.2, hdr, flagsR_stop _ _ _ (by omega)]; rfl)
      clear hdr g0 g1 g2 g3
      go_wp2_with fail
      go_ret
      exact FIN.out _ _ _ HX.out rfl HA.out.1 HA.out.2.1
    · have dt : decide ((i : Int) < (s.size : Int)) = false := decide_eq_false (by omega)
      obtain rfl : i = s.size := by omega
      have hdr : s.data.toList.drop s.size = [] := List.drop_eq_nil_of_le (by rw [← Lib.size_eq]; exact Nat.le_refl _)
      have HX : Hid (R = (t, s.size)) := Lib.hid (by rw [HA.out.2.2, hdr]; rfl)
      clear hdr
      go_wp2_with fail
      go_ret
      exact FIN.out _ _ _ HX.out (T2.part_none s s.size s.size (Nat.le_refl _)).symm HA.out.1 HA.out.2.1
end Go.Proofs.YtbbhcbpfffabpaaGreatDoor
