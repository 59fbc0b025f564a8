/- Merged by program: BodyP, Left, FillP. -/
import Derived.Test.YtbbhcbpfffabpaaGreatDoorGaq
/- format.directive's body: a walk. -/
namespace Go.Proofs.YtbbhcbpfffabpaaGreatDoor
open Go.RowKit

theorem keep10 {w0 W W' : World} {b c : Nat} {x0 x1 x2 x3 x4 x5 x6 y0 y1 y2 : Value} (h : Hid (Below w0.heap.size w0 W) ∧ W.cell? ⟨b, 0, none⟩ = some (x0) ∧ W.cell? ⟨b, 1, none⟩ = some (x1) ∧ W.cell? ⟨b, 2, none⟩ = some (x2) ∧ W.cell? ⟨b, 3, none⟩ = some (x3) ∧ W.cell? ⟨b, 4, none⟩ = some (x4) ∧ W.cell? ⟨b, 5, none⟩ = some (x5) ∧ W.cell? ⟨b, 6, none⟩ = some (x6) ∧ W.cell? ⟨c, 0, none⟩ = some (y0) ∧ W.cell? ⟨c, 1, none⟩ = some (y1) ∧ W.cell? ⟨c, 2, none⟩ = some (y2)) (hb : Below W.heap.size W W') :
    Hid (Below w0.heap.size w0 W') ∧ W'.cell? ⟨b, 0, none⟩ = some (x0) ∧ W'.cell? ⟨b, 1, none⟩ = some (x1) ∧ W'.cell? ⟨b, 2, none⟩ = some (x2) ∧ W'.cell? ⟨b, 3, none⟩ = some (x3) ∧ W'.cell? ⟨b, 4, none⟩ = some (x4) ∧ W'.cell? ⟨b, 5, none⟩ = some (x5) ∧ W'.cell? ⟨b, 6, none⟩ = some (x6) ∧ W'.cell? ⟨c, 0, none⟩ = some (y0) ∧ W'.cell? ⟨c, 1, none⟩ = some (y1) ∧ W'.cell? ⟨c, 2, none⟩ = some (y2) := by
  obtain ⟨h, c0, c1, c2, c3, c4, c5, c6, d0, d1, d2⟩ := h
  have key : ∀ (b o : Nat) (v : Value), W.cell? ⟨b, o, none⟩ = some v → W'.cell? ⟨b, o, none⟩ = some v := fun b o v hv => by
    rw [hb.cell (p := ⟨b, o, none⟩) (cell_lt hv)]; exact hv
  exact ⟨keep0 h hb, key _ _ _ c0, key _ _ _ c1, key _ _ _ c2, key _ _ _ c3, key _ _ _ c4, key _ _ _ c5, key _ _ _ c6, key _ _ _ d0, key _ _ _ d1, key _ _ _ d2⟩
set_option maxRecDepth 100000 in
theorem box10 (w : World) (d : Dir) (c : Cel) : Hid (Below w.heap.size w ((w.alloc (.cells #[.bool d.left, .bool d.plus, .bool d.blank, .bool d.zero, .int .i64 d.wide, .int .i64 d.prec, .int .u8 (d.letter : Int)] 97)).alloc (.cells #[.int .i64 c.k, .int .i64 c.n, .string c.s] 25))) ∧ ((w.alloc (.cells #[.bool d.left, .bool d.plus, .bool d.blank, .bool d.zero, .int .i64 d.wide, .int .i64 d.prec, .int .u8 (d.letter : Int)] 97)).alloc (.cells #[.int .i64 c.k, .int .i64 c.n, .string c.s] 25)).cell? ⟨w.heap.size, 0, none⟩ = some (.bool d.left) ∧ ((w.alloc (.cells #[.bool d.left, .bool d.plus, .bool d.blank, .bool d.zero, .int .i64 d.wide, .int .i64 d.prec, .int .u8 (d.letter : Int)] 97)).alloc (.cells #[.int .i64 c.k, .int .i64 c.n, .string c.s] 25)).cell? ⟨w.heap.size, 1, none⟩ = some (.bool d.plus) ∧ ((w.alloc (.cells #[.bool d.left, .bool d.plus, .bool d.blank, .bool d.zero, .int .i64 d.wide, .int .i64 d.prec, .int .u8 (d.letter : Int)] 97)).alloc (.cells #[.int .i64 c.k, .int .i64 c.n, .string c.s] 25)).cell? ⟨w.heap.size, 2, none⟩ = some (.bool d.blank) ∧ ((w.alloc (.cells #[.bool d.left, .bool d.plus, .bool d.blank, .bool d.zero, .int .i64 d.wide, .int .i64 d.prec, .int .u8 (d.letter : Int)] 97)).alloc (.cells #[.int .i64 c.k, .int .i64 c.n, .string c.s] 25)).cell? ⟨w.heap.size, 3, none⟩ = some (.bool d.zero) ∧ ((w.alloc (.cells #[.bool d.left, .bool d.plus, .bool d.blank, .bool d.zero, .int .i64 d.wide, .int .i64 d.prec, .int .u8 (d.letter : Int)] 97)).alloc (.cells #[.int .i64 c.k, .int .i64 c.n, .string c.s] 25)).cell? ⟨w.heap.size, 4, none⟩ = some (.int .i64 d.wide) ∧ ((w.alloc (.cells #[.bool d.left, .bool d.plus, .bool d.blank, .bool d.zero, .int .i64 d.wide, .int .i64 d.prec, .int .u8 (d.letter : Int)] 97)).alloc (.cells #[.int .i64 c.k, .int .i64 c.n, .string c.s] 25)).cell? ⟨w.heap.size, 5, none⟩ = some (.int .i64 d.prec) ∧ ((w.alloc (.cells #[.bool d.left, .bool d.plus, .bool d.blank, .bool d.zero, .int .i64 d.wide, .int .i64 d.prec, .int .u8 (d.letter : Int)] 97)).alloc (.cells #[.int .i64 c.k, .int .i64 c.n, .string c.s] 25)).cell? ⟨w.heap.size, 6, none⟩ = some (.int .u8 (d.letter : Int)) ∧ ((w.alloc (.cells #[.bool d.left, .bool d.plus, .bool d.blank, .bool d.zero, .int .i64 d.wide, .int .i64 d.prec, .int .u8 (d.letter : Int)] 97)).alloc (.cells #[.int .i64 c.k, .int .i64 c.n, .string c.s] 25)).cell? ⟨(w.heap.size + 1), 0, none⟩ = some (.int .i64 c.k) ∧ ((w.alloc (.cells #[.bool d.left, .bool d.plus, .bool d.blank, .bool d.zero, .int .i64 d.wide, .int .i64 d.prec, .int .u8 (d.letter : Int)] 97)).alloc (.cells #[.int .i64 c.k, .int .i64 c.n, .string c.s] 25)).cell? ⟨(w.heap.size + 1), 1, none⟩ = some (.int .i64 c.n) ∧ ((w.alloc (.cells #[.bool d.left, .bool d.plus, .bool d.blank, .bool d.zero, .int .i64 d.wide, .int .i64 d.prec, .int .u8 (d.letter : Int)] 97)).alloc (.cells #[.int .i64 c.k, .int .i64 c.n, .string c.s] 25)).cell? ⟨(w.heap.size + 1), 2, none⟩ = some (.string c.s) :=
  ⟨Lib.hid (Below.step (below_new _ _) (below_new _ _)), by simp [go_sem], by simp [go_sem], by simp [go_sem], by simp [go_sem], by simp [go_sem], by simp [go_sem], by simp [go_sem], by simp [go_sem], by simp [go_sem], by simp [go_sem]⟩

theorem body_num (d : Dir) (c : Cel) (h1 : d.letter ≠ 99) (h2 : d.letter ≠ 115) : bodyS d c = if c.err ≠ 0 then (noTxt, c.err) else (numS d c.num, 0) := by
  unfold bodyS numS manyF
  rw [if_neg h1, if_neg h2]
  split
  · rfl
  split
  · rfl
  split
  · rfl
  split
  · rfl
  split
  · rfl
  · rfl

set_option maxRecDepth 100000 in
set_option maxHeartbeats 2000000 in
theorem body_any (d : Dir) (hd : -1 ≤ d.prec ∧ d.prec ≤ 200) (c : Cel) (hc : COk c) (w : World) (hE : Env w) :
    Calls Tryz.prog 106 #[d.val, c.val] w (StrErr (bodyS d c) w) := by
  have H0 := Lib.hid (box10 w d c)
  have B0 := Lib.hid H0.out.1.out
  have HC := Lib.hid (fun W => character_any c hc W)
  have HS := Lib.hid (fun W => cstr_any c hc W)
  have hsz := cstr_size c hc
  have HB := Lib.hid (fun W => beginning_any d hd c.str hsz W)
  have HN := Lib.hid (fun W => cnum_any c hc W)
  have hnc := num_cases c hc.n
  have HNum := Lib.hid (fun (hf : T3.Fits c.num) (W : World) (h : Below w.heap.size w W) => number_any d c.num hf W (hE.after h))
  have fin : ∀ t e w', bodyS d c = t → StrErr t w e w' → StrErr (bodyS d c) w e w' := fun t e w' h h2 => by rw [h]; exact h2
  have FIN := Lib.hid fin
  unfold Dir.val at HB HNum ⊢
  unfold Cel.val at HC HS HN ⊢
  clear fin hE hsz
  by_cases h1 : d.letter = 99
  · obtain ⟨R, hR⟩ : ∃ R, R = (if c.k = 1 then chrS (c.n.tdiv 1000000) else (T2.subB c.str 1 1, 0)) := ⟨_, rfl⟩
    have HR : Hid (bodyS d c = R) := Lib.hid (by unfold bodyS; rw [if_pos h1, hR])
    rw [← hR] at HC
    have d1 : ((d.letter : Int) == 99) = true := by rw [h1]; rfl
    clear h1 hR
    obtain ⟨r1, r2⟩ := R
    go_enter Tryz.func106, Tryz.ntmps106
    go_wp2_with fail
    refine (HC.out _).mono ?_
    rintro e w1 ⟨rfl, b1⟩
    have B1 := Lib.hid (Below.step B0.out b1)
    clear b1
    go_wp2_with fail
    go_ret2
    exact FIN.out _ _ _ HR.out ⟨rfl, B1.out⟩
  have d1 : ((d.letter : Int) == 99) = false := beq_eq_false_iff_ne.2 (by omega)
  by_cases h2 : d.letter = 115
  · have HR : Hid (bodyS d c = (cutS d c.str, 0)) := Lib.hid (by unfold bodyS; rw [if_neg h1, if_pos h2]; rfl)
    have d2 : ((d.letter : Int) == 115) = true := by rw [h2]; rfl
    clear h1 h2
    go_enter Tryz.func106, Tryz.ntmps106
    go_wp2_with fail
    go_region_held3 (fun w' => Hid (Below w.heap.size w w') ∧ w'.cell? ⟨w.heap.size, 0, none⟩ = some (.bool d.left) ∧ w'.cell? ⟨w.heap.size, 1, none⟩ = some (.bool d.plus) ∧ w'.cell? ⟨w.heap.size, 2, none⟩ = some (.bool d.blank) ∧ w'.cell? ⟨w.heap.size, 3, none⟩ = some (.bool d.zero) ∧ w'.cell? ⟨w.heap.size, 4, none⟩ = some (.int .i64 d.wide) ∧ w'.cell? ⟨w.heap.size, 5, none⟩ = some (.int .i64 d.prec) ∧ w'.cell? ⟨w.heap.size, 6, none⟩ = some (.int .u8 (d.letter : Int)) ∧ w'.cell? ⟨w.heap.size + 1, 0, none⟩ = some (.int .i64 c.k) ∧ w'.cell? ⟨w.heap.size + 1, 1, none⟩ = some (.int .i64 c.n) ∧ w'.cell? ⟨w.heap.size + 1, 2, none⟩ = some (.string c.s)) (first | exact keep10 H0.out (below_drew _) | exact keep10 (by assumption) (by assumption) | assumption)
      (first
        | (go_at_call 11; refine (HS.out _).mono ?_; rintro e v1 ⟨rfl, a1⟩)
        | (go_at_call 126; refine (HB.out _).mono ?_; rintro e v1 ⟨rfl, a1⟩))
    have HH := (show Hid (Below w.heap.size w _) ∧ _ by assumption).1.out
    go_wp2_with fail
    go_ret2
    exact FIN.out _ _ _ HR.out ⟨rfl, HH⟩
  have d2 : ((d.letter : Int) == 115) = false := beq_eq_false_iff_ne.2 (by omega)
  have hR := body_num d c h1 h2
  obtain ⟨E, hE⟩ : ∃ E, E = c.err := ⟨_, rfl⟩
  obtain ⟨m, hm⟩ : ∃ m, m = c.num := ⟨_, rfl⟩
  rw [← hE, ← hm] at hR HN hnc
  rw [← hm] at HNum
  clear h1 h2 hE hm HC HS HB hc
  rcases hnc with ⟨rfl, hf⟩ | ⟨rfl, rfl⟩
  · have HR : Hid (bodyS d c = (numS d m, 0)) := Lib.hid (by rw [hR, if_neg (by omega)])
    have HM := Lib.hid (HNum.out hf)
    clear hR HNum hf
    go_enter Tryz.func106, Tryz.ntmps106
    go_wp2_with fail
    refine (HN.out _).mono ?_
    rintro e w1 ⟨rfl, b1⟩
    have K1 := Lib.hid (keep10 H0.out b1)
    have k1 := K1.out
    obtain ⟨_, c0, c1, c2, c3, c4, c5, c6, e0, e1, e2⟩ := k1
    have B1 := Lib.hid K1.out.1.out
    clear b1
    go_wp2_with fail
    refine (HM.out _ B1.out).mono ?_
    rintro e w2 ⟨rfl, b2⟩
    have B2 := Lib.hid (Below.step B1.out b2)
    clear b2
    go_wp2_with fail
    go_ret2
    exact FIN.out _ _ _ HR.out ⟨rfl, B2.out⟩
  · have HR : Hid (bodyS d c = (noTxt, 10)) := Lib.hid (by rw [hR, if_pos (by omega)])
    clear hR HNum
    go_enter Tryz.func106, Tryz.ntmps106
    go_wp2_with fail
    refine (HN.out _).mono ?_
    rintro e w1 ⟨rfl, b1⟩
    have B1 := Lib.hid (Below.step B0.out b1)
    clear b1
    go_wp2_with fail
    go_ret2
    exact FIN.out _ _ _ HR.out ⟨rfl, B1.out⟩
end Go.Proofs.YtbbhcbpfffabpaaGreatDoor

/- The cells that are left to be taken: how they lie in memory; format's next: a walk. -/
namespace Go.Proofs.YtbbhcbpfffabpaaGreatDoor
open Go.RowKit

/-- w' is w, but for new blocks and what stands in the blocks of P. -/
structure But (P : Nat → Prop) (w w' : World) : Prop where
  os : w'.os = w.os
  tape : w'.tape = w.tape
  output : w'.output = w.output
  size : w.heap.size ≤ w'.heap.size
  block : ∀ k, k < w.heap.size → ¬ P k → w'.heap[k]? = w.heap[k]?
theorem But.refl (P : Nat → Prop) (w : World) : But P w w := ⟨rfl, rfl, rfl, Nat.le_refl _, fun _ _ _ => rfl⟩
theorem But.trans {P : Nat → Prop} {a b c : World} (h : But P a b) (k : But P b c) : But P a c :=
  ⟨k.os.trans h.os, k.tape.trans h.tape, k.output.trans h.output, Nat.le_trans h.size k.size, fun i hi hn => (k.block i (Nat.lt_of_lt_of_le hi h.size) hn).trans (h.block i hi hn)⟩
theorem But.wide {P Q : Nat → Prop} {w w' : World} (h : But P w w') (hPQ : ∀ k, k < w.heap.size → P k → Q k) : But Q w w' :=
  ⟨h.os, h.tape, h.output, h.size, fun k hk hn => h.block k hk (fun hp => hn (hPQ k hk hp))⟩
theorem But.of {P : Nat → Prop} {w w' : World} (h : Below w.heap.size w w') : But P w w' := ⟨h.os, h.tape, h.output, h.size, fun k hk _ => h.block k hk⟩
theorem But.set (P : Nat → Prop) (L o : Nat) (hL : P L) (w : World) (v : Value) : But P w (w.setCell ⟨L, o, none⟩ v) := by
  have h := (Below.refl L w).setCell (p := ⟨L, o, none⟩) (Nat.le_refl _) v
  refine ⟨h.os, h.tape, h.output, h.size, fun k hk hn => ?_⟩
  exact heap_setCell_other w ⟨L, o, none⟩ k v (fun e => hn (by rw [e]; exact hL))
theorem But.below {P : Nat → Prop} {B : Nat} {w0 w w' : World} (h : Below B w0 w) (hb : But P w w') (hB : ∀ k, P k → B ≤ k) (hw : B ≤ w.heap.size) : Below B w0 w' :=
  h.trans ⟨hb.os, hb.tape, hb.output, hb.size, fun k hk => hb.block k (by omega) (fun hp => by have := hB k hp; omega)⟩
theorem But.cell {P : Nat → Prop} {w w' : World} (h : But P w w') {b o : Nat} {v : Value} (hn : ¬ P b) (hv : w.cell? ⟨b, o, none⟩ = some v) : w'.cell? ⟨b, o, none⟩ = some v := by
  have hlt : b < w.heap.size := cell_lt hv
  have := h.block b hlt hn
  rw [← hv]
  unfold World.cell?
  dsimp only
  rw [this]

/-- A slice of cells in memory. -/
structure CellsAt (w : World) (p : Option Addr) (n cap : Nat) (l : List Cel) : Prop where
  len : n = l.length
  room : n ≤ cap
  bound : cap ≤ 9223372036854775807
  nil : p = none → cap = 0
  cells : l = [] ∨ ∃ b off, p = some ⟨b, off, none⟩ ∧ ∀ i c, l[i]? = some c → w.cell? ⟨b, off + i * 3, none⟩ = some (.int .i64 c.k) ∧ w.cell? ⟨b, off + i * 3 + 1, none⟩ = some (.int .i64 c.n) ∧ w.cell? ⟨b, off + i * 3 + 2, none⟩ = some (.string c.s)
/-- The block L holds the cells that are left, which lie below block B. -/
structure LeftAt (w : World) (B L : Nat) (l : List Cel) (p : Option Addr) (n cap : Nat) : Prop where
  row : w.heap[L]? = some (.cells #[.slice p n cap] 88 (0, 0))
  at_ : CellsAt w p n cap l
  low : ∀ a, p = some a → a.block < B
  base : B ≤ L
def Left (w : World) (B L : Nat) (l : List Cel) : Prop := ∃ p n cap, LeftAt w B L l p n cap

theorem LeftAt.lt {w : World} {B L : Nat} {l : List Cel} {p : Option Addr} {n cap : Nat} (h : LeftAt w B L l p n cap) : L < w.heap.size := (Array.getElem?_eq_some_iff.1 h.row).1
theorem CellsAt.but {w w' : World} {p : Option Addr} {n cap : Nat} {l : List Cel} (h : CellsAt w p n cap l) {P : Nat → Prop} (ha : ∀ a, p = some a → ¬ P a.block) (hb : But P w w') : CellsAt w' p n cap l := by
  refine ⟨h.len, h.room, h.bound, h.nil, ?_⟩
  rcases h.cells with h0 | ⟨b, off, hp, hc⟩
  · exact Or.inl h0
  · refine Or.inr ⟨b, off, hp, fun i c hi => ?_⟩
    have hn : ¬ P b := ha _ hp
    obtain ⟨h1, h2, h3⟩ := hc i c hi
    exact ⟨hb.cell hn h1, hb.cell hn h2, hb.cell hn h3⟩
theorem CellsAt.below {w w' : World} {p : Option Addr} {n cap : Nat} {l : List Cel} (h : CellsAt w p n cap l) (hb : Below w.heap.size w w') : CellsAt w' p n cap l :=
  h.but (P := fun _ => False) (fun _ _ h => h) (But.of hb)
/-- What is left stays where a change lies from B on, and not at L. -/
theorem Left.but {w w' : World} {B L : Nat} {l : List Cel} (h : Left w B L l) {P : Nat → Prop} (hb : But P w w') (hP : ∀ k, P k → B ≤ k) (hL : ¬ P L) : Left w' B L l := by
  obtain ⟨p, n, cap, h⟩ := h
  exact ⟨p, n, cap, by rw [hb.block L h.lt hL]; exact h.row, h.at_.but (fun a ha hp => by have := h.low a ha; have := hP _ hp; omega) hb, h.low, h.base⟩
theorem Left.below {w w' : World} {B L : Nat} {l : List Cel} (h : Left w B L l) (hb : Below w.heap.size w w') : Left w' B L l :=
  h.but (P := fun _ => False) (But.of hb) (fun _ h => absurd h id) id
theorem Left.put {w : World} {B L : Nat} {c : Cel} {l : List Cel} {b off cap : Nat} (h : LeftAt w B L (c :: l) (some ⟨b, off, none⟩) (l.length + 1) cap) (o' m k : Nat) (hm : m = l.length) (hk : k + 1 = cap) (ho : l = [] ∨ o' = off + 3) :
    Left (w.setCell ⟨L, 0, none⟩ (.slice (some ⟨b, o', none⟩) m k)) B L l := by
  subst hm
  have hbB : b < B := h.low _ rfl
  have hBL := h.base
  have hr := h.at_.room
  have hx := h.at_.bound
  refine ⟨some ⟨b, o', none⟩, l.length, k, by rw [heap_setCell_same _ _ 0 _ _ _ h.row]; rfl, ⟨rfl, by omega, by omega, fun e => by simp at e, ?_⟩, fun a ha => by injection ha with ha; rw [← ha]; exact hbB, hBL⟩
  rcases ho with h0 | h0
  · exact Or.inl h0
  · subst h0
    obtain ⟨b', off', hp, hc⟩ : ∃ b' off', (some ⟨b, off, none⟩ : Option Addr) = some ⟨b', off', none⟩ ∧ ∀ i x, (c :: l)[i]? = some x → w.cell? ⟨b', off' + i * 3, none⟩ = some (.int .i64 x.k) ∧ w.cell? ⟨b', off' + i * 3 + 1, none⟩ = some (.int .i64 x.n) ∧ w.cell? ⟨b', off' + i * 3 + 2, none⟩ = some (.string x.s) := by
      rcases h.at_.cells with h0 | h0
      · exact absurd h0 (by simp)
      · exact h0
    injection hp with hp
    injection hp with hp1 hp2
    subst hp1 hp2
    refine Or.inr ⟨b, off + 3, rfl, fun i x hi => ?_⟩
    obtain ⟨h1, h2, h3⟩ := hc (i + 1) x (by simpa using hi)
    have hB := But.set (· = L) L 0 rfl w (.slice (some ⟨b, off + 3, none⟩) l.length k)
    have ei : off + (i + 1) * 3 = off + 3 + i * 3 := by omega
    rw [ei] at h1 h2 h3
    have hbL : ¬ b = L := by omega
    exact ⟨hB.cell hbL h1, hB.cell hbL h2, hB.cell hbL h3⟩

/-- What next tells. -/
def NextOut (B L : Nat) (l : List Cel) (w : World) (e : Ending) (w' : World) : Prop := e = .returned (hdC l).val ∧ Left w' B L l.tail ∧ But (· = L) w w'

set_option maxRecDepth 100000 in
theorem next_any (B L : Nat) (l : List Cel) (w : World) (h : Left w B L l) :
    Calls Tryz.prog 107 #[.pointer (some ⟨L, 0, none⟩)] w (NextOut B L l w) := by
  obtain ⟨p, n, cap, h⟩ := h
  have hlt := h.lt
  have c0 : w.cell? ⟨L, 0, none⟩ = some (.slice p n cap) := cell_of_row _ _ 0 _ _ _ h.row
  have f0 : w.frozen? ⟨L, 0, none⟩ = false := frozen_of_row _ _ 0 _ _ h.row
  have hlen := h.at_.len
  have hcap := h.at_.room
  have hmax := h.at_.bound
  have H := Lib.hid h
  cases l with
  | nil =>
    have hn : n = 0 := hlen
    subst hn
    clear h hlen
    go_enter Tryz.func107, Tryz.ntmps107
    go_wp2_with fail
    refine bodyPost_ret (v := .agg #[.int .i64 0, .int .i64 0, .string ⟨#[]⟩]) (by simp [results, Tryz.results107, go_sem]) rfl ⟨rfl, ?_, ?_⟩
    · exact Left.below ⟨p, 0, cap, H.out⟩ (below_new _ _)
    · exact But.of (below_new _ _)
  | cons c l =>
    have hn : n = l.length + 1 := hlen
    subst hn
    obtain ⟨b, off, rfl, hc⟩ : ∃ b off, p = some ⟨b, off, none⟩ ∧ ∀ i x, (c :: l)[i]? = some x → w.cell? ⟨b, off + i * 3, none⟩ = some (.int .i64 x.k) ∧ w.cell? ⟨b, off + i * 3 + 1, none⟩ = some (.int .i64 x.n) ∧ w.cell? ⟨b, off + i * 3 + 2, none⟩ = some (.string x.s) := by
      rcases h.at_.cells with h0 | h0
      · exact absurd h0 (by simp)
      · exact h0
    obtain ⟨e0, e1, e2⟩ := hc 0 c rfl
    rw [Nat.zero_mul, Nat.add_zero] at e0 e1 e2
    have hbL : b ≠ L := by have h1 := h.low _ rfl; have h2 := h.base; dsimp only at h1; omega
    have hbs : b < w.heap.size := cell_lt e0
    clear h hlen hc
    by_cases h1 : cap = 1
    · subst h1
      go_enter Tryz.func107, Tryz.ntmps107
      go_wp2_with fail
      refine bodyPost_ret (v := .agg #[.int .i64 c.k, .int .i64 c.n, .string c.s]) (by simp [results, Tryz.results107, go_sem]) rfl ⟨rfl, ?_, ?_⟩
      · exact (Left.put H.out off 0 0 (by omega) rfl (Or.inl (List.eq_nil_of_length_eq_zero (by omega)))).below (Below.step (below_new _ _) (below_new _ _))
      · exact (But.set (· = L) L 0 rfl w _).trans (But.of (Below.step (below_new _ _) (below_new _ _)))
    · have hc2 : 2 ≤ cap := by omega
      obtain ⟨k, rfl⟩ : ∃ k, cap = k + 2 := ⟨cap - 2, by omega⟩
      go_enter Tryz.func107, Tryz.ntmps107
      go_wp2_with fail
      refine bodyPost_ret (v := .agg #[.int .i64 c.k, .int .i64 c.n, .string c.s]) (by simp [results, Tryz.results107, go_sem]) rfl ⟨rfl, ?_, ?_⟩
      · exact (Left.put H.out (off + 3) l.length (k + 1) rfl rfl (Or.inr rfl)).below (Below.step (below_new _ _) (below_new _ _))
      · exact (But.set (· = L) L 0 rfl w _).trans (But.of (Below.step (below_new _ _) (below_new _ _)))
end Go.Proofs.YtbbhcbpfffabpaaGreatDoor

/- format.directive's fill: a walk. -/
namespace Go.Proofs.YtbbhcbpfffabpaaGreatDoor
open Go.RowKit

/-- The block D holds a directive. -/
def DirAt (w : World) (D : Nat) (d : Dir) : Prop := w.heap[D]? = some (.cells d.cells 97 (0, 0))
theorem DirAt.lt {w : World} {D : Nat} {d : Dir} (h : DirAt w D d) : D < w.heap.size := (Array.getElem?_eq_some_iff.1 h).1
theorem DirAt.but {w w' : World} {D : Nat} {d : Dir} (h : DirAt w D d) {P : Nat → Prop} (hb : But P w w') (hD : ¬ P D) : DirAt w' D d := by
  unfold DirAt
  rw [hb.block D h.lt hD]; exact h
theorem DirAt.below {w w' : World} {D : Nat} {d : Dir} (h : DirAt w D d) (hb : Below w.heap.size w w') : DirAt w' D d :=
  h.but (P := fun _ => False) (But.of hb) id
theorem DirAt.c4 {w : World} {D : Nat} {d : Dir} (h : DirAt w D d) : w.cell? ⟨D, 4, none⟩ = some (.int .i64 d.wide) := cell_of_row _ _ 4 _ _ _ h
theorem DirAt.c5 {w : World} {D : Nat} {d : Dir} (h : DirAt w D d) : w.cell? ⟨D, 5, none⟩ = some (.int .i64 d.prec) := cell_of_row _ _ 5 _ _ _ h
theorem DirAt.z {w : World} {D : Nat} {d : Dir} (h : DirAt w D d) (j : Nat) : w.frozen? ⟨D, j, none⟩ = false := frozen_of_row _ _ j _ _ h
theorem DirAt.put4 {w : World} {D : Nat} {d : Dir} (h : DirAt w D d) (x : Int) : DirAt (w.setCell ⟨D, 4, none⟩ (.int .i64 x)) D { d with wide := x } := by
  unfold DirAt
  rw [heap_setCell_same _ _ 4 _ _ _ h]; rfl
theorem DirAt.put5 {w : World} {D : Nat} {d : Dir} (h : DirAt w D d) (x : Int) : DirAt (w.setCell ⟨D, 5, none⟩ (.int .i64 x)) D { d with prec := x } := by
  unfold DirAt
  rw [heap_setCell_same _ _ 5 _ _ _ h]; rfl

def fillErr (d : Dir) (cs : List Cel) : Int := if fillE d.wide cs ≠ 0 then fillE d.wide cs else fillE d.prec (fillC d.wide cs)
def DL (D L : Nat) (k : Nat) : Prop := k = D ∨ k = L
/-- What fill leaves. -/
def FillOut (B D L : Nat) (d : Dir) (cs : List Cel) (w : World) (e : Ending) (w' : World) : Prop :=
  e = .returned (.int .i64 (fillErr d cs)) ∧ But (DL D L) w w' ∧ (fillErr d cs = 0 → DirAt w' D (toldD d cs) ∧ Left w' B L (leftC d cs))

/-- After so many stars. -/
def dirI (d : Dir) (cs : List Cel) : Nat → Dir
  | 0 => d
  | 1 => { d with wide := fillV d.wide cs }
  | _ => toldD d cs
def celI (d : Dir) (cs : List Cel) : Nat → List Cel
  | 0 => cs
  | 1 => fillC d.wide cs
  | _ => leftC d cs
structure FillAt (B D L : Nat) (d : Dir) (cs : List Cel) (w wr : World) (i : Nat) : Prop where
  dir : DirAt wr D (dirI d cs i)
  left : Left wr B L (celI d cs i)
  but : But (DL D L) w wr

theorem idx2 (a b : Value) (w : World) : (Instr.index 141 (.agg #[a, b]) (.int .i64 0)).run Tryz.prog w = .ok a w ∧ (Instr.index 141 (.agg #[a, b]) (.int .i64 1)).run Tryz.prog w = .ok b w := ⟨by kernel_rfl, by kernel_rfl⟩

theorem FillAt.below {B D L : Nat} {d : Dir} {cs : List Cel} {w wr w' : World} {i : Nat} (h : FillAt B D L d cs w wr i) (hb : Below wr.heap.size wr w') : FillAt B D L d cs w w' i :=
  ⟨h.dir.below hb, h.left.below hb, h.but.trans (But.of hb)⟩
theorem fillV_star {x : Int} (h : x = -2) (cs : List Cel) : fillV x cs = (starS (hdC cs)).1 := by unfold fillV; rw [if_pos h]
theorem fillE_star {x : Int} (h : x = -2) (cs : List Cel) : fillE x cs = (starS (hdC cs)).2 := by unfold fillE; rw [if_pos h]
theorem fillC_star {x : Int} (h : x = -2) (cs : List Cel) : fillC x cs = cs.tail := by unfold fillC; rw [if_pos h]
theorem fillV_no {x : Int} (h : x ≠ -2) (cs : List Cel) : fillV x cs = x := by unfold fillV; rw [if_neg h]
theorem fillE_no {x : Int} (h : x ≠ -2) (cs : List Cel) : fillE x cs = 0 := by unfold fillE; rw [if_neg h]
theorem fillC_no {x : Int} (h : x ≠ -2) (cs : List Cel) : fillC x cs = cs := by unfold fillC; rw [if_neg h]

set_option maxRecDepth 100000 in
set_option maxHeartbeats 2000000 in
theorem fill_dir (B D L : Nat) (d : Dir) (cs : List Cel) (w : World) (hD : DirAt w D d) (hL : Left w B L cs) (hB : B ≤ D) (hne : D ≠ L) (hc1 : d.wide = -2 → COk (hdC cs)) (hc2 : d.prec = -2 → COk (hdC (fillC d.wide cs))) :
    Calls Tryz.prog 105 #[.pointer (some ⟨D, 0, none⟩), .pointer (some ⟨L, 0, none⟩)] w (FillOut B D L d cs w) := by
  have HA0 : Hid (FillAt B D L d cs w w 0) := Lib.hid ⟨hD, hL, But.refl _ _⟩
  have hI := idx2 (.pointer (some ⟨D, 4, none⟩)) (.pointer (some ⟨D, 5, none⟩))
  have H1 := Lib.hid hc1
  have H2 := Lib.hid hc2
  have hDw := hD.lt
  clear hD hL hc1 hc2
  go_enter Tryz.func105, Tryz.ntmps105
  go_wp2_with fail
  go_quiet (fail)
  go_wp2_with fail
  go_loopw [16] (fun z wr => ∃ i : Nat, z = .int .i64 i ∧ i ≤ 2 ∧ Hid (FillAt B D L d cs w wr i ∧ (1 ≤ i → fillE d.wide cs = 0) ∧ (2 ≤ i → fillE d.prec (fillC d.wide cs) = 0))) (fun z _ => 2 - (intOf z).toNat)
  case atStart => exact ⟨0, rfl, by omega, Lib.hid ⟨HA0.out.below (Below.drewN' (Below.refl _ _) _), fun h => absurd h (by omega), fun h => absurd h (by omega)⟩⟩
  case round =>
    obtain ⟨i, rfl, hi, HA⟩ := hrel
    have hi3 : i = 0 ∨ i = 1 ∨ i = 2 := by omega
    rcases hi3 with rfl | rfl | rfl
    · -- round 0
      have c4 := HA.out.1.dir.c4
      have z4 := HA.out.1.dir.z 4
      have hDr := HA.out.1.dir.lt
      by_cases hs : d.wide = -2
      · have d1 : (d.wide != -2) = false := by rw [hs]; rfl
        have HN := Lib.hid (fun W (h : Left W B L (cs)) => next_any B L (cs) W h)
        have HBd := Lib.hid (fun W => bounded_any (hdC (cs)) (H1.out hs) W)
        have HS := Lib.hid (⟨fillV_star hs (cs), fillE_star hs (cs), fillC_star hs (cs)⟩ : _ ∧ _ ∧ _)
        obtain ⟨v, hv⟩ : ∃ v, v = (starS (hdC (cs))).1 := ⟨_, rfl⟩
        obtain ⟨E, hE⟩ : ∃ E, E = (starS (hdC (cs))).2 := ⟨_, rfl⟩
        rw [← hv, ← hE] at HS HBd
        have hcv : (hdC (cs)).val = .agg #[.int .i64 (hdC (cs)).k, .int .i64 (hdC (cs)).n, .string (hdC (cs)).s] := rfl
        rw [hcv] at HBd
        clear hv hE
        have c4' : wr.cell? ⟨D, 4, none⟩ = some (.int .i64 (-2)) := by rw [c4]; exact congrArg (fun x => some (Value.int .i64 x)) hs
        clear c4 hs
        go_wp2_with fail
        refine (HN.out _ HA.out.1.left).mono ?_
        rintro e w1 ⟨rfl, hL1, hB1⟩
        rw [hcv]
        clear hcv
        have hne1 : ¬ D = L := hne
        have D1 := Lib.hid (HA.out.1.dir.but hB1 hne1)
        have L1 := Lib.hid hL1
        have N1 := Lib.hid (HA.out.1.but.trans (hB1.wide (Q := DL D L) (fun k _ h => Or.inr h)))
        clear hL1 hB1
        go_wp2_with fail
        refine (HBd.out _).mono ?_
        rintro e w2 ⟨rfl, b2⟩
        have D2 := Lib.hid (D1.out.below b2)
        have L2 := Lib.hid (L1.out.below b2)
        have N2 := Lib.hid (N1.out.trans (But.of b2))
        clear b2
        by_cases he : E = 0
        · subst he
          have q4 := D2.out.c4
          have qz := D2.out.z 4
          have hD2 := D2.out.lt
          go_wp2_with fail
          go_roundw
          case rel =>
            refine ⟨1, rfl, by omega, Lib.hid ⟨⟨?_, ?_, N2.out.trans (But.set (DL D L) D 4 (Or.inl rfl) _ _)⟩, ?_⟩⟩
            · have h := D2.out.put4 v
              rw [← HS.out.1] at h
              rw [← HS.out.1]
              exact h
            · have h := L2.out.but (But.set (· = D) D 4 rfl w2 (.int .i64 v)) (fun k hk => by omega) (fun h => hne h.symm)
              rw [← HS.out.2.2] at h
              exact h
            · exact ⟨fun _ => HS.out.2.1, fun h => absurd h (by omega)⟩
          case measure => simp [intOf]
        · have d2 : (E != 0) = true := bne_iff_ne.2 he
          have HE := Lib.hid he
          clear he
          go_wp2_with fail
          go_ret
          have hf : fillErr d cs = E := by
            unfold fillErr
            rw [if_pos (by rw [HS.out.2.1]; exact HE.out), HS.out.2.1]
          exact ⟨by rw [hf]; rfl, N2.out, fun h => absurd (hf.symm.trans h) HE.out⟩
      · have d1 : (d.wide != -2) = true := bne_iff_ne.2 hs
        have d2 : (d.wide == -2) = false := beq_eq_false_iff_ne.2 hs
        have c4' : wr.cell? ⟨D, 4, none⟩ = some (.int .i64 d.wide) := c4
        clear c4
        have HS := Lib.hid (⟨fillV_no hs (cs), fillE_no hs (cs), fillC_no hs (cs)⟩ : _ ∧ _ ∧ _)
        clear hs
        go_wp2_with fail
        go_roundw
        case rel =>
          refine ⟨1, rfl, by omega, Lib.hid ⟨⟨?_, ?_, HA.out.1.but⟩, ?_⟩⟩
          · have h := HA.out.1.dir
            show DirAt wr D { d with wide := fillV d.wide cs }
            rw [HS.out.1]
            exact h
          · have h := HA.out.1.left
            show Left wr B L (fillC d.wide cs)
            rw [HS.out.2.2]
            exact h
          · exact ⟨fun _ => HS.out.2.1, fun h => absurd h (by omega)⟩
        case measure => simp [intOf]
    · -- round 1
      have c4 := HA.out.1.dir.c5
      have z4 := HA.out.1.dir.z 5
      have hDr := HA.out.1.dir.lt
      by_cases hs : d.prec = -2
      · have d1 : (d.prec != -2) = false := by rw [hs]; rfl
        have HN := Lib.hid (fun W (h : Left W B L (fillC d.wide cs)) => next_any B L (fillC d.wide cs) W h)
        have HBd := Lib.hid (fun W => bounded_any (hdC (fillC d.wide cs)) (H2.out hs) W)
        have HS := Lib.hid (⟨fillV_star hs (fillC d.wide cs), fillE_star hs (fillC d.wide cs), fillC_star hs (fillC d.wide cs)⟩ : _ ∧ _ ∧ _)
        obtain ⟨v, hv⟩ : ∃ v, v = (starS (hdC (fillC d.wide cs))).1 := ⟨_, rfl⟩
        obtain ⟨E, hE⟩ : ∃ E, E = (starS (hdC (fillC d.wide cs))).2 := ⟨_, rfl⟩
        rw [← hv, ← hE] at HS HBd
        have hcv : (hdC (fillC d.wide cs)).val = .agg #[.int .i64 (hdC (fillC d.wide cs)).k, .int .i64 (hdC (fillC d.wide cs)).n, .string (hdC (fillC d.wide cs)).s] := rfl
        rw [hcv] at HBd
        clear hv hE
        have c4' : wr.cell? ⟨D, 5, none⟩ = some (.int .i64 (-2)) := by rw [c4]; exact congrArg (fun x => some (Value.int .i64 x)) hs
        clear c4 hs
        go_wp2_with fail
        refine (HN.out _ HA.out.1.left).mono ?_
        rintro e w1 ⟨rfl, hL1, hB1⟩
        rw [hcv]
        clear hcv
        have hne1 : ¬ D = L := hne
        have D1 := Lib.hid (HA.out.1.dir.but hB1 hne1)
        have L1 := Lib.hid hL1
        have N1 := Lib.hid (HA.out.1.but.trans (hB1.wide (Q := DL D L) (fun k _ h => Or.inr h)))
        clear hL1 hB1
        go_wp2_with fail
        refine (HBd.out _).mono ?_
        rintro e w2 ⟨rfl, b2⟩
        have D2 := Lib.hid (D1.out.below b2)
        have L2 := Lib.hid (L1.out.below b2)
        have N2 := Lib.hid (N1.out.trans (But.of b2))
        clear b2
        by_cases he : E = 0
        · subst he
          have q4 := D2.out.c5
          have qz := D2.out.z 5
          have hD2 := D2.out.lt
          go_wp2_with fail
          go_roundw
          case rel =>
            refine ⟨2, rfl, by omega, Lib.hid ⟨⟨?_, ?_, N2.out.trans (But.set (DL D L) D 5 (Or.inl rfl) _ _)⟩, ?_⟩⟩
            · have h := D2.out.put5 v
              rw [← HS.out.1] at h
              rw [← HS.out.1]
              exact h
            · have h := L2.out.but (But.set (· = D) D 5 rfl w2 (.int .i64 v)) (fun k hk => by omega) (fun h => hne h.symm)
              rw [← HS.out.2.2] at h
              exact h
            · exact ⟨fun _ => HA.out.2.1 (by omega), fun _ => HS.out.2.1⟩
          case measure => simp [intOf]
        · have d2 : (E != 0) = true := bne_iff_ne.2 he
          have HE := Lib.hid he
          clear he
          go_wp2_with fail
          go_ret
          have hf : fillErr d cs = E := by
            unfold fillErr
            rw [if_neg (by rw [HA.out.2.1 (by omega)]; exact fun h => h rfl)]; exact HS.out.2.1
          exact ⟨by rw [hf]; rfl, N2.out, fun h => absurd (hf.symm.trans h) HE.out⟩
      · have d1 : (d.prec != -2) = true := bne_iff_ne.2 hs
        have d2 : (d.prec == -2) = false := beq_eq_false_iff_ne.2 hs
        have c4' : wr.cell? ⟨D, 5, none⟩ = some (.int .i64 d.prec) := c4
        clear c4
        have HS := Lib.hid (⟨fillV_no hs (fillC d.wide cs), fillE_no hs (fillC d.wide cs), fillC_no hs (fillC d.wide cs)⟩ : _ ∧ _ ∧ _)
        clear hs
        go_wp2_with fail
        go_roundw
        case rel =>
          refine ⟨2, rfl, by omega, Lib.hid ⟨⟨?_, ?_, HA.out.1.but⟩, ?_⟩⟩
          · have h := HA.out.1.dir
            show DirAt wr D { d with wide := fillV d.wide cs, prec := fillV d.prec (fillC d.wide cs) }
            rw [HS.out.1]
            exact h
          · have h := HA.out.1.left
            show Left wr B L (fillC d.prec (fillC d.wide cs))
            rw [HS.out.2.2]
            exact h
          · exact ⟨fun _ => HA.out.2.1 (by omega), fun _ => HS.out.2.1⟩
        case measure => simp [intOf]
    · -- the end
      go_wp2_with fail
      go_ret
      have hf : fillErr d cs = 0 := by
        unfold fillErr
        rw [if_neg (by rw [HA.out.2.1 (by omega)]; exact fun h => h rfl)]
        exact HA.out.2.2 (by omega)
      exact ⟨by rw [hf]; rfl, HA.out.1.but, fun _ => ⟨HA.out.1.dir, HA.out.1.left⟩⟩
end Go.Proofs.YtbbhcbpfffabpaaGreatDoor
