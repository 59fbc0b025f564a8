/- Merged by program: Left, FillP. -/
import Derived.Test.YtfhnbpilbbbckaaDoorHaw
/- The cells that are left to be taken: how they lie in memory; format's next: a walk. -/
namespace Go.Proofs.YtfhnbpilbbbckaaDoor
open Go.RowKit

/-- w' is w, but for new blocks and what stands in the blocks of P. -/
structure But (P : Nat → Prop) (w w' : World) : Prop where
  os : w'.os = w.os
  tape : w'.tape = w.tape
  output : w'.output = w.output
  size : w.heap.size ≤ w'.heap.size
  block : ∀ k, k < w.heap.size → ¬ P k → w'.heap[k]? = w.heap[k]?
theorem But.refl (P : Nat → Prop) (w : World) : But P w w := ⟨rfl, rfl, rfl, Nat.le_refl _, fun _ _ _ => rfl⟩
theorem But.trans {P : Nat → Prop} {a b c : World} (h : But P a b) (k : But P b c) : But P a c :=
  ⟨k.os.trans h.os, k.tape.trans h.tape, k.output.trans h.output, Nat.le_trans h.size k.size, fun i hi hn => (k.block i (Nat.lt_of_lt_of_le hi h.size) hn).trans (h.block i hi hn)⟩
theorem But.wide {P Q : Nat → Prop} {w w' : World} (h : But P w w') (hPQ : ∀ k, k < w.heap.size → P k → Q k) : But Q w w' :=
  ⟨h.os, h.tape, h.output, h.size, fun k hk hn => h.block k hk (fun hp => hn (hPQ k hk hp))⟩
theorem But.of {P : Nat → Prop} {w w' : World} (h : Below w.heap.size w w') : But P w w' := ⟨h.os, h.tape, h.output, h.size, fun k hk _ => h.block k hk⟩
theorem But.set (P : Nat → Prop) (L o : Nat) (hL : P L) (w : World) (v : Value) : But P w (w.setCell ⟨L, o, none⟩ v) := by
  have h := (Below.refl L w).setCell (p := ⟨L, o, none⟩) (Nat.le_refl _) v
  refine ⟨h.os, h.tape, h.output, h.size, fun k hk hn => ?_⟩
  exact heap_setCell_other w ⟨L, o, none⟩ k v (fun e => hn (by rw [e]; exact hL))
theorem But.below {P : Nat → Prop} {B : Nat} {w0 w w' : World} (h : Below B w0 w) (hb : But P w w') (hB : ∀ k, P k → B ≤ k) (hw : B ≤ w.heap.size) : Below B w0 w' :=
  h.trans ⟨hb.os, hb.tape, hb.output, hb.size, fun k hk => hb.block k (by omega) (fun hp => by have := hB k hp; omega)⟩
theorem But.cell {P : Nat → Prop} {w w' : World} (h : But P w w') {b o : Nat} {v : Value} (hn : ¬ P b) (hv : w.cell? ⟨b, o, none⟩ = some v) : w'.cell? ⟨b, o, none⟩ = some v := by
  have hlt : b < w.heap.size := cell_lt hv
  have := h.block b hlt hn
  rw [← hv]
  unfold World.cell?
  dsimp only
  rw [this]

/-- A slice of cells in memory. -/
structure CellsAt (w : World) (p : Option Addr) (n cap : Nat) (l : List Cel) : Prop where
  len : n = l.length
  room : n ≤ cap
  bound : cap ≤ 9223372036854775807
  nil : p = none → cap = 0
  cells : l = [] ∨ ∃ b off, p = some ⟨b, off, none⟩ ∧ ∀ i c, l[i]? = some c → w.cell? ⟨b, off + i * 3, none⟩ = some (.int .i64 c.k) ∧ w.cell? ⟨b, off + i * 3 + 1, none⟩ = some (.int .i64 c.n) ∧ w.cell? ⟨b, off + i * 3 + 2, none⟩ = some (.string c.s)
/-- The block L holds the cells that are left, which lie below block B. -/
structure LeftAt (w : World) (B L : Nat) (l : List Cel) (p : Option Addr) (n cap : Nat) : Prop where
  row : w.heap[L]? = some (.cells #[.slice p n cap] 66 (0, 0))
  at_ : CellsAt w p n cap l
  low : ∀ a, p = some a → a.block < B
  base : B ≤ L
def Left (w : World) (B L : Nat) (l : List Cel) : Prop := ∃ p n cap, LeftAt w B L l p n cap

theorem LeftAt.lt {w : World} {B L : Nat} {l : List Cel} {p : Option Addr} {n cap : Nat} (h : LeftAt w B L l p n cap) : L < w.heap.size := (Array.getElem?_eq_some_iff.1 h.row).1
theorem CellsAt.but {w w' : World} {p : Option Addr} {n cap : Nat} {l : List Cel} (h : CellsAt w p n cap l) {P : Nat → Prop} (ha : ∀ a, p = some a → ¬ P a.block) (hb : But P w w') : CellsAt w' p n cap l := by
  refine ⟨h.len, h.room, h.bound, h.nil, ?_⟩
  rcases h.cells with h0 | ⟨b, off, hp, hc⟩
  · exact Or.inl h0
  · refine Or.inr ⟨b, off, hp, fun i c hi => ?_⟩
    have hn : ¬ P b := ha _ hp
    obtain ⟨h1, h2, h3⟩ := hc i c hi
    exact ⟨hb.cell hn h1, hb.cell hn h2, hb.cell hn h3⟩
theorem CellsAt.below {w w' : World} {p : Option Addr} {n cap : Nat} {l : List Cel} (h : CellsAt w p n cap l) (hb : Below w.heap.size w w') : CellsAt w' p n cap l :=
  h.but (P := fun _ => False) (fun _ _ h => h) (But.of hb)
/-- What is left stays where a change lies from B on, and not at L. -/
theorem Left.but {w w' : World} {B L : Nat} {l : List Cel} (h : Left w B L l) {P : Nat → Prop} (hb : But P w w') (hP : ∀ k, P k → B ≤ k) (hL : ¬ P L) : Left w' B L l := by
  obtain ⟨p, n, cap, h⟩ := h
  exact ⟨p, n, cap, by rw [hb.block L h.lt hL]; exact h.row, h.at_.but (fun a ha hp => by have := h.low a ha; have := hP _ hp; omega) hb, h.low, h.base⟩
theorem Left.below {w w' : World} {B L : Nat} {l : List Cel} (h : Left w B L l) (hb : Below w.heap.size w w') : Left w' B L l :=
  h.but (P := fun _ => False) (But.of hb) (fun _ h => absurd h id) id
theorem Left.put {w : World} {B L : Nat} {c : Cel} {l : List Cel} {b off cap : Nat} (h : LeftAt w B L (c :: l) (some ⟨b, off, none⟩) (l.length + 1) cap) (o' m k : Nat) (hm : m = l.length) (hk : k + 1 = cap) (ho : l = [] ∨ o' = off + 3) :
    Left (w.setCell ⟨L, 0, none⟩ (.slice (some ⟨b, o', none⟩) m k)) B L l := by
  subst hm
  have hbB : b < B := h.low _ rfl
  have hBL := h.base
  have hr := h.at_.room
  have hx := h.at_.bound
  refine ⟨some ⟨b, o', none⟩, l.length, k, by rw [heap_setCell_same _ _ 0 _ _ _ h.row]; rfl, ⟨rfl, by omega, by omega, fun e => by simp at e, ?_⟩, fun a ha => by injection ha with ha; rw [← ha]; exact hbB, hBL⟩
  rcases ho with h0 | h0
  · exact Or.inl h0
  · subst h0
    obtain ⟨b', off', hp, hc⟩ : ∃ b' off', (some ⟨b, off, none⟩ : Option Addr) = some ⟨b', off', none⟩ ∧ ∀ i x, (c :: l)[i]? = some x → w.cell? ⟨b', off' + i * 3, none⟩ = some (.int .i64 x.k) ∧ w.cell? ⟨b', off' + i * 3 + 1, none⟩ = some (.int .i64 x.n) ∧ w.cell? ⟨b', off' + i * 3 + 2, none⟩ = some (.string x.s) := by
      rcases h.at_.cells with h0 | h0
      · exact absurd h0 (by simp)
      · exact h0
    injection hp with hp
    injection hp with hp1 hp2
    subst hp1 hp2
    refine Or.inr ⟨b, off + 3, rfl, fun i x hi => ?_⟩
    obtain ⟨h1, h2, h3⟩ := hc (i + 1) x (by simpa using hi)
    have hB := But.set (· = L) L 0 rfl w (.slice (some ⟨b, off + 3, none⟩) l.length k)
    have ei : off + (i + 1) * 3 = off + 3 + i * 3 := by omega
    rw [ei] at h1 h2 h3
    have hbL : ¬ b = L := by omega
    exact ⟨hB.cell hbL h1, hB.cell hbL h2, hB.cell hbL h3⟩

/-- What next tells. -/
def NextOut (B L : Nat) (l : List Cel) (w : World) (e : Ending) (w' : World) : Prop := e = .returned (hdC l).val ∧ Left w' B L l.tail ∧ But (· = L) w w'

set_option maxRecDepth 100000 in
theorem next_any (B L : Nat) (l : List Cel) (w : World) (h : Left w B L l) :
    Calls Tryd.prog 56 #[.pointer (some ⟨L, 0, none⟩)] w (NextOut B L l w) := by
  obtain ⟨p, n, cap, h⟩ := h
  have hlt := h.lt
  have c0 : w.cell? ⟨L, 0, none⟩ = some (.slice p n cap) := cell_of_row _ _ 0 _ _ _ h.row
  have f0 : w.frozen? ⟨L, 0, none⟩ = false := frozen_of_row _ _ 0 _ _ h.row
  have hlen := h.at_.len
  have hcap := h.at_.room
  have hmax := h.at_.bound
  have H := Lib.hid h
  cases l with
  | nil =>
    have hn : n = 0 := hlen
    subst hn
    clear h hlen
    go_enter Tryd.func56, Tryd.ntmps56
    go_wp2_with fail
    refine bodyPost_ret (v := .agg #[.int .i64 0, .int .i64 0, .string ⟨#[]⟩]) (by simp [results, Tryd.results56, go_sem]) rfl ⟨rfl, ?_, ?_⟩
    · exact Left.below ⟨p, 0, cap, H.out⟩ (below_new _ _)
    · exact But.of (below_new _ _)
  | cons c l =>
    have hn : n = l.length + 1 := hlen
    subst hn
    obtain ⟨b, off, rfl, hc⟩ : ∃ b off, p = some ⟨b, off, none⟩ ∧ ∀ i x, (c :: l)[i]? = some x → w.cell? ⟨b, off + i * 3, none⟩ = some (.int .i64 x.k) ∧ w.cell? ⟨b, off + i * 3 + 1, none⟩ = some (.int .i64 x.n) ∧ w.cell? ⟨b, off + i * 3 + 2, none⟩ = some (.string x.s) := by
      rcases h.at_.cells with h0 | h0
      · exact absurd h0 (by simp)
      · exact h0
    obtain ⟨e0, e1, e2⟩ := hc 0 c rfl
    rw [Nat.zero_mul, Nat.add_zero] at e0 e1 e2
    have hbL : b ≠ L := by have h1 := h.low _ rfl; have h2 := h.base; dsimp only at h1; omega
    have hbs : b < w.heap.size := cell_lt e0
    clear h hlen hc
    by_cases h1 : cap = 1
    · subst h1
      go_enter Tryd.func56, Tryd.ntmps56
      go_wp2_with fail
      refine bodyPost_ret (v := .agg #[.int .i64 c.k, .int .i64 c.n, .string c.s]) (by simp [results, Tryd.results56, go_sem]) rfl ⟨rfl, ?_, ?_⟩
      · exact (Left.put H.out off 0 0 (by omega) rfl (Or.inl (List.eq_nil_of_length_eq_zero (by omega)))).below (Below.step (below_new _ _) (below_new _ _))
      · exact (But.set (· = L) L 0 rfl w _).trans (But.of (Below.step (below_new _ _) (below_new _ _)))
    · have hc2 : 2 ≤ cap := by omega
      obtain ⟨k, rfl⟩ : ∃ k, cap = k + 2 := ⟨cap - 2, by omega⟩
      go_enter Tryd.func56, Tryd.ntmps56
      go_wp2_with fail
      refine bodyPost_ret (v := .agg #[.int .i64 c.k, .int .i64 c.n, .string c.s]) (by simp [results, Tryd.results56, go_sem]) rfl ⟨rfl, ?_, ?_⟩
      · exact (Left.put H.out (off + 3) l.length (k + 1) rfl rfl (Or.inr rfl)).below (Below.step (below_new _ _) (below_new _ _))
      · exact (But.set (· = L) L 0 rfl w _).trans (But.of (Below.step (below_new _ _) (below_new _ _)))
end Go.Proofs.YtfhnbpilbbbckaaDoor

/- format.directive's fill: a walk. -/
namespace Go.Proofs.YtfhnbpilbbbckaaDoor
open Go.RowKit

/-- The block D holds a directive. -/
def DirAt (w : World) (D : Nat) (d : Dir) : Prop := w.heap[D]? = some (.cells d.cells 70 (0, 0))
theorem DirAt.lt {w : World} {D : Nat} {d : Dir} (h : DirAt w D d) : D < w.heap.size := (Array.getElem?_eq_some_iff.1 h).1
theorem DirAt.but {w w' : World} {D : Nat} {d : Dir} (h : DirAt w D d) {P : Nat → Prop} (hb : But P w w') (hD : ¬ P D) : DirAt w' D d := by
  unfold DirAt
  rw [hb.block D h.lt hD]; exact h
theorem DirAt.below {w w' : World} {D : Nat} {d : Dir} (h : DirAt w D d) (hb : Below w.heap.size w w') : DirAt w' D d :=
  h.but (P := fun _ => False) (But.of hb) id
theorem DirAt.c4 {w : World} {D : Nat} {d : Dir} (h : DirAt w D d) : w.cell? ⟨D, 4, none⟩ = some (.int .i64 d.wide) := cell_of_row _ _ 4 _ _ _ h
theorem DirAt.c5 {w : World} {D : Nat} {d : Dir} (h : DirAt w D d) : w.cell? ⟨D, 5, none⟩ = some (.int .i64 d.prec) := cell_of_row _ _ 5 _ _ _ h
theorem DirAt.z {w : World} {D : Nat} {d : Dir} (h : DirAt w D d) (j : Nat) : w.frozen? ⟨D, j, none⟩ = false := frozen_of_row _ _ j _ _ h
theorem DirAt.put4 {w : World} {D : Nat} {d : Dir} (h : DirAt w D d) (x : Int) : DirAt (w.setCell ⟨D, 4, none⟩ (.int .i64 x)) D { d with wide := x } := by
  unfold DirAt
  rw [heap_setCell_same _ _ 4 _ _ _ h]; rfl
theorem DirAt.put5 {w : World} {D : Nat} {d : Dir} (h : DirAt w D d) (x : Int) : DirAt (w.setCell ⟨D, 5, none⟩ (.int .i64 x)) D { d with prec := x } := by
  unfold DirAt
  rw [heap_setCell_same _ _ 5 _ _ _ h]; rfl

def fillErr (d : Dir) (cs : List Cel) : Int := if fillE d.wide cs ≠ 0 then fillE d.wide cs else fillE d.prec (fillC d.wide cs)
def DL (D L : Nat) (k : Nat) : Prop := k = D ∨ k = L
/-- What fill leaves. -/
def FillOut (B D L : Nat) (d : Dir) (cs : List Cel) (w : World) (e : Ending) (w' : World) : Prop :=
  e = .returned (.int .i64 (fillErr d cs)) ∧ But (DL D L) w w' ∧ (fillErr d cs = 0 → DirAt w' D (toldD d cs) ∧ Left w' B L (leftC d cs))

/-- After so many stars. -/
def dirI (d : Dir) (cs : List Cel) : Nat → Dir
  | 0 => d
  | 1 => { d with wide := fillV d.wide cs }
  | _ => toldD d cs
def celI (d : Dir) (cs : List Cel) : Nat → List Cel
  | 0 => cs
  | 1 => fillC d.wide cs
  | _ => leftC d cs
structure FillAt (B D L : Nat) (d : Dir) (cs : List Cel) (w wr : World) (i : Nat) : Prop where
  dir : DirAt wr D (dirI d cs i)
  left : Left wr B L (celI d cs i)
  but : But (DL D L) w wr

theorem idx2 (a b : Value) (w : World) : (Instr.index 106 (.agg #[a, b]) (.int .i64 0)).run Tryd.prog w = .ok a w ∧ (Instr.index 106 (.agg #[a, b]) (.int .i64 1)).run Tryd.prog w = .ok b w := ⟨by kernel_rfl, by kernel_rfl⟩

theorem FillAt.below {B D L : Nat} {d : Dir} {cs : List Cel} {w wr w' : World} {i : Nat} (h : FillAt B D L d cs w wr i) (hb : Below wr.heap.size wr w') : FillAt B D L d cs w w' i :=
  ⟨h.dir.below hb, h.left.below hb, h.but.trans (But.of hb)⟩
theorem fillV_star {x : Int} (h : x = -2) (cs : List Cel) : fillV x cs = (starS (hdC cs)).1 := by unfold fillV; rw [if_pos h]
theorem fillE_star {x : Int} (h : x = -2) (cs : List Cel) : fillE x cs = (starS (hdC cs)).2 := by unfold fillE; rw [if_pos h]
theorem fillC_star {x : Int} (h : x = -2) (cs : List Cel) : fillC x cs = cs.tail := by unfold fillC; rw [if_pos h]
theorem fillV_no {x : Int} (h : x ≠ -2) (cs : List Cel) : fillV x cs = x := by unfold fillV; rw [if_neg h]
theorem fillE_no {x : Int} (h : x ≠ -2) (cs : List Cel) : fillE x cs = 0 := by unfold fillE; rw [if_neg h]
theorem fillC_no {x : Int} (h : x ≠ -2) (cs : List Cel) : fillC x cs = cs := by unfold fillC; rw [if_neg h]

set_option maxRecDepth 100000 in
set_option maxHeartbeats 2000000 in
theorem fill_dir (B D L : Nat) (d : Dir) (cs : List Cel) (w : World) (hD : DirAt w D d) (hL : Left w B L cs) (hB : B ≤ D) (hne : D ≠ L) (hc1 : d.wide = -2 → COk (hdC cs)) (hc2 : d.prec = -2 → COk (hdC (fillC d.wide cs))) :
    Calls Tryd.prog 54 #[.pointer (some ⟨D, 0, none⟩), .pointer (some ⟨L, 0, none⟩)] w (FillOut B D L d cs w) := by
  have HA0 : Hid (FillAt B D L d cs w w 0) := Lib.hid ⟨hD, hL, But.refl _ _⟩
  have hI := idx2 (.pointer (some ⟨D, 4, none⟩)) (.pointer (some ⟨D, 5, none⟩))
  have H1 := Lib.hid hc1
  have H2 := Lib.hid hc2
  have hDw := hD.lt
  clear hD hL hc1 hc2
  go_enter Tryd.func54, Tryd.ntmps54
  go_wp2_with fail
  go_quiet (fail)
  go_wp2_with fail
  go_loopw [16] (fun z wr => ∃ i : Nat, z = .int .i64 i ∧ i ≤ 2 ∧ Hid (FillAt B D L d cs w wr i ∧ (1 ≤ i → fillE d.wide cs = 0) ∧ (2 ≤ i → fillE d.prec (fillC d.wide cs) = 0))) (fun z _ => 2 - (intOf z).toNat)
  case atStart => exact ⟨0, rfl, by omega, Lib.hid ⟨HA0.out.below (Below.drewN' (Below.refl _ _) _), fun h => absurd h (by omega), fun h => absurd h (by omega)⟩⟩
  case round =>
    obtain ⟨i, rfl, hi, HA⟩ := hrel
    have hi3 : i = 0 ∨ i = 1 ∨ i = 2 := by omega
    rcases hi3 with rfl | rfl | rfl
    · -- round 0
      have c4 := HA.out.1.dir.c4
      have z4 := HA.out.1.dir.z 4
      have hDr := HA.out.1.dir.lt
      by_cases hs : d.wide = -2
      · have d1 : (d.wide != -2) = false := by rw [hs]; rfl
        have HN := Lib.hid (fun W (h : Left W B L (cs)) => next_any B L (cs) W h)
        have HBd := Lib.hid (fun W => bounded_any (hdC (cs)) (H1.out hs) W)
        have HS := Lib.hid (⟨fillV_star hs (cs), fillE_star hs (cs), fillC_star hs (cs)⟩ : _ ∧ _ ∧ _)
        obtain ⟨v, hv⟩ : ∃ v, v = (starS (hdC (cs))).1 := ⟨_, rfl⟩
        obtain ⟨E, hE⟩ : ∃ E, E = (starS (hdC (cs))).2 := ⟨_, rfl⟩
        rw [← hv, ← hE] at HS HBd
        have hcv : (hdC (cs)).val = .agg #[.int .i64 (hdC (cs)).k, .int .i64 (hdC (cs)).n, .string (hdC (cs)).s] := rfl
        rw [hcv] at HBd
        clear hv hE
        have c4' : wr.cell? ⟨D, 4, none⟩ = some (.int .i64 (-2)) := by rw [c4]; exact congrArg (fun x => some (Value.int .i64 x)) hs
        clear c4 hs
        go_wp2_with fail
        refine (HN.out _ HA.out.1.left).mono ?_
        rintro e w1 ⟨rfl, hL1, hB1⟩
        rw [hcv]
        clear hcv
        have hne1 : ¬ D = L := hne
        have D1 := Lib.hid (HA.out.1.dir.but hB1 hne1)
        have L1 := Lib.hid hL1
        have N1 := Lib.hid (HA.out.1.but.trans (hB1.wide (Q := DL D L) (fun k _ h => Or.inr h)))
        clear hL1 hB1
        go_wp2_with fail
        refine (HBd.out _).mono ?_
        rintro e w2 ⟨rfl, b2⟩
        have D2 := Lib.hid (D1.out.below b2)
        have L2 := Lib.hid (L1.out.below b2)
        have N2 := Lib.hid (N1.out.trans (But.of b2))
        clear b2
        by_cases he : E = 0
        · subst he
          have q4 := D2.out.c4
          have qz := D2.out.z 4
          have hD2 := D2.out.lt
          go_wp2_with fail
          go_roundw
          case rel =>
            refine ⟨1, rfl, by omega, Lib.hid ⟨⟨?_, ?_, N2.out.trans (But.set (DL D L) D 4 (Or.inl rfl) _ _)⟩, ?_⟩⟩
            · have h := D2.out.put4 v
              rw [← HS.out.1] at h
              rw [← HS.out.1]
              exact h
            · have h := L2.out.but (But.set (· = D) D 4 rfl w2 (.int .i64 v)) (fun k hk => by omega) (fun h => hne h.symm)
              rw [← HS.out.2.2] at h
              exact h
            · exact ⟨fun _ => HS.out.2.1, fun h => absurd h (by omega)⟩
          case measure => simp [intOf]
        · have d2 : (E != 0) = true := bne_iff_ne.2 he
          have HE := Lib.hid he
          clear he
          go_wp2_with fail
          go_ret
          have hf : fillErr d cs = E := by
            unfold fillErr
            rw [if_pos (by rw [HS.out.2.1]; exact HE.out), HS.out.2.1]
          exact ⟨by rw [hf]; rfl, N2.out, fun h => absurd (hf.symm.trans h) HE.out⟩
      · have d1 : (d.wide != -2) = true := bne_iff_ne.2 hs
        have d2 : (d.wide == -2) = false := beq_eq_false_iff_ne.2 hs
        have c4' : wr.cell? ⟨D, 4, none⟩ = some (.int .i64 d.wide) := c4
        clear c4
        have HS := Lib.hid (⟨fillV_no hs (cs), fillE_no hs (cs), fillC_no hs (cs)⟩ : _ ∧ _ ∧ _)
        clear hs
        go_wp2_with fail
        go_roundw
        case rel =>
          refine ⟨1, rfl, by omega, Lib.hid ⟨⟨?_, ?_, HA.out.1.but⟩, ?_⟩⟩
          · have h := HA.out.1.dir
            show DirAt wr D { d with wide := fillV d.wide cs }
            rw [HS.out.1]
            exact h
          · have h := HA.out.1.left
            show Left wr B L (fillC d.wide cs)
            rw [HS.out.2.2]
            exact h
          · exact ⟨fun _ => HS.out.2.1, fun h => absurd h (by omega)⟩
        case measure => simp [intOf]
    · -- round 1
      have c4 := HA.out.1.dir.c5
      have z4 := HA.out.1.dir.z 5
      have hDr := HA.out.1.dir.lt
      by_cases hs : d.prec = -2
      · have d1 : (d.prec != -2) = false := by rw [hs]; rfl
        have HN := Lib.hid (fun W (h : Left W B L (fillC d.wide cs)) => next_any B L (fillC d.wide cs) W h)
        have HBd := Lib.hid (fun W => bounded_any (hdC (fillC d.wide cs)) (H2.out hs) W)
        have HS := Lib.hid (⟨fillV_star hs (fillC d.wide cs), fillE_star hs (fillC d.wide cs), fillC_star hs (fillC d.wide cs)⟩ : _ ∧ _ ∧ _)
        obtain ⟨v, hv⟩ : ∃ v, v = (starS (hdC (fillC d.wide cs))).1 := ⟨_, rfl⟩
        obtain ⟨E, hE⟩ : ∃ E, E = (starS (hdC (fillC d.wide cs))).2 := ⟨_, rfl⟩
        rw [← hv, ← hE] at HS HBd
        have hcv : (hdC (fillC d.wide cs)).val = .agg #[.int .i64 (hdC (fillC d.wide cs)).k, .int .i64 (hdC (fillC d.wide cs)).n, .string (hdC (fillC d.wide cs)).s] := rfl
        rw [hcv] at HBd
        clear hv hE
        have c4' : wr.cell? ⟨D, 5, none⟩ = some (.int .i64 (-2)) := by rw [c4]; exact congrArg (fun x => some (Value.int .i64 x)) hs
        clear c4 hs
        go_wp2_with fail
        refine (HN.out _ HA.out.1.left).mono ?_
        rintro e w1 ⟨rfl, hL1, hB1⟩
        rw [hcv]
        clear hcv
        have hne1 : ¬ D = L := hne
        have D1 := Lib.hid (HA.out.1.dir.but hB1 hne1)
        have L1 := Lib.hid hL1
        have N1 := Lib.hid (HA.out.1.but.trans (hB1.wide (Q := DL D L) (fun k _ h => Or.inr h)))
        clear hL1 hB1
        go_wp2_with fail
        refine (HBd.out _).mono ?_
        rintro e w2 ⟨rfl, b2⟩
        have D2 := Lib.hid (D1.out.below b2)
        have L2 := Lib.hid (L1.out.below b2)
        have N2 := Lib.hid (N1.out.trans (But.of b2))
        clear b2
        by_cases he : E = 0
        · subst he
          have q4 := D2.out.c5
          have qz := D2.out.z 5
          have hD2 := D2.out.lt
          go_wp2_with fail
          go_roundw
          case rel =>
            refine ⟨2, rfl, by omega, Lib.hid ⟨⟨?_, ?_, N2.out.trans (But.set (DL D L) D 5 (Or.inl rfl) _ _)⟩, ?_⟩⟩
            · have h := D2.out.put5 v
              rw [← HS.out.1] at h
              rw [← HS.out.1]
              exact h
            · have h := L2.out.but (But.set (· = D) D 5 rfl w2 (.int .i64 v)) (fun k hk => by omega) (fun h => hne h.symm)
              rw [← HS.out.2.2] at h
              exact h
            · exact ⟨fun _ => HA.out.2.1 (by omega), fun _ => HS.out.2.1⟩
          case measure => simp [intOf]
        · have d2 : (E != 0) = true := bne_iff_ne.2 he
          have HE := Lib.hid he
          clear he
          go_wp2_with fail
          go_ret
          have hf : fillErr d cs = E := by
            unfold fillErr
            rw [if_neg (by rw [HA.out.2.1 (by omega)]; exact fun h => h rfl)]; exact HS.out.2.1
          exact ⟨by rw [hf]; rfl, N2.out, fun h => absurd (hf.symm.trans h) HE.out⟩
      · have d1 : (d.prec != -2) = true := bne_iff_ne.2 hs
        have d2 : (d.prec == -2) = false := beq_eq_false_iff_ne.2 hs
        have c4' : wr.cell? ⟨D, 5, none⟩ = some (.int .i64 d.prec) := c4
        clear c4
        have HS := Lib.hid (⟨fillV_no hs (fillC d.wide cs), fillE_no hs (fillC d.wide cs), fillC_no hs (fillC d.wide cs)⟩ : _ ∧ _ ∧ _)
        clear hs
        go_wp2_with fail
        go_roundw
        case rel =>
          refine ⟨2, rfl, by omega, Lib.hid ⟨⟨?_, ?_, HA.out.1.but⟩, ?_⟩⟩
          · have h := HA.out.1.dir
            show DirAt wr D { d with wide := fillV d.wide cs, prec := fillV d.prec (fillC d.wide cs) }
            rw [HS.out.1]
            exact h
          · have h := HA.out.1.left
            show Left wr B L (fillC d.prec (fillC d.wide cs))
            rw [HS.out.2.2]
            exact h
          · exact ⟨fun _ => HA.out.2.1 (by omega), fun _ => HS.out.2.1⟩
        case measure => simp [intOf]
    · -- the end
      go_wp2_with fail
      go_ret
      have hf : fillErr d cs = 0 := by
        unfold fillErr
        rw [if_neg (by rw [HA.out.2.1 (by omega)]; exact fun h => h rfl)]
        exact HA.out.2.2 (by omega)
      exact ⟨by rw [hf]; rfl, HA.out.1.but, fun _ => ⟨HA.out.1.dir, HA.out.1.left⟩⟩
end Go.Proofs.YtfhnbpilbbbckaaDoor
