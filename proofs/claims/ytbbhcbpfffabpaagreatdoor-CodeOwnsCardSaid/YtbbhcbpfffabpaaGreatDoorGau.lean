/- Merged by program: Writer, DoM, FTakeW, ReadW. -/
import Derived.Laws.Tables
import Derived.Test.YtbbhcbpfffabpaaGreatDoorGat
import Derived.Test.YtbbhcbpfffabpaaGreatDoorGas
import Derived.Test.YtbbhcbpfffabpaaGreatDoorGaa
/- strings.Builder's WriteString, Reset: walks; a builder that holds bytes. -/
namespace Go.Proofs.YtbbhcbpfffabpaaGreatDoor
open Go.RowKit

theorem byteCells_snoc (l : List UInt8) (c : UInt8) : Lib.byteCells (l ++ [c]) = Lib.byteCells l ++ [.int .u8 (c.toNat : Int)] := by simp [Lib.byteCells]
set_option maxHeartbeats 2000000 in
set_option maxRecDepth 100000 in
theorem writeString_k (B b : Nat) (bs : List Value) (s : ByteArray) (w : World) (h : Lib.IsBuilderF 87 5 B b bs w) (hlen : bs.length + s.size ≤ 140737488355328) (hBw : B ≤ w.heap.size) :
    Calls Tryz.prog 74 #[.pointer (some ⟨b, 0, none⟩), .string s] w fun e w' => e = .returned (.tuple #[.int .i64 s.size, .nilIface]) ∧ (Lib.BuilderAtF 87 5 B b (.pointer (some ⟨b, 0, none⟩)) (bs ++ Lib.strCells s) w' ∧ Below B w w' ∧ Lib.OthersKept 5 (some b) w w') := by
  obtain ⟨i0, hi, hz0, hz1, hz2⟩ := info_parts info_byte
  go_enter Tryz.func74, Tryz.ntmps74
  go_wp2_with (go_at_call 100; refine (copyCheck_k B b bs _ h).mono ?_)
  rintro e w1 ⟨rfl, h1, hb1, hk1⟩
  obtain ⟨hB, v, hbk, hown, hne⟩ := h1
  have c0 : w1.cell? ⟨b, 0, none⟩ = some (.pointer (some ⟨b, 0, none⟩)) := by rw [Lib.cell_of_heap hbk]; rfl
  have c1 : w1.cell? ⟨b, 1, none⟩ = some v := by rw [Lib.cell_of_heap hbk]; rfl
  have hs1 := hb1.size
  go_wp2_with (at_builtin; refine Lib.wpList_append_own_stringF _ rfl _ _ 66 9 rfl B 5 i0 Tryz.underlying66 Tryz.underlying9 hi hz0 hz1 hz2 _ _ _ rfl hown s rfl ?c1 hlen ?c2 ?_)
  case c1 => unfold maxLen; omega
  case c2 => omega
  intro v' w2 hown' hgrow hnil
  have hlt : b < w1.heap.size := by
    rcases Nat.lt_or_ge b w1.heap.size with h' | h'
    · exact h'
    · simp [Array.getElem?_eq_none h'] at hbk
  have hb2 : w2.heap[b]? = some (.cells #[.pointer (some ⟨b, 0, none⟩), v] 87 (0, 0)) := by
    rw [hgrow.block b hlt (fun e => hne e.symm)]
    exact hbk
  have d0 : w2.cell? ⟨b, 0, none⟩ = some (.pointer (some ⟨b, 0, none⟩)) := by rw [Lib.cell_of_heap hb2]; rfl
  have d1 : w2.cell? ⟨b, 1, none⟩ = some v := by rw [Lib.cell_of_heap hb2]; rfl
  have f1 : w2.frozen? ⟨b, 1, none⟩ = false := Lib.frozen_of_heap hb2 1
  obtain ⟨ad, n', cap, rfl⟩ : ∃ ad n' cap, v' = .slice ad n' cap := by
    rcases hown'.2 with ⟨hv, h0⟩ | ⟨g, cap, cur, fz, hv, _⟩
    · exact ⟨_, _, _, hv⟩
    · exact ⟨_, _, _, hv⟩
  go_wp2
  go_ret2
  have hl : (Lib.strCells s).length = s.size := by simp [Lib.strCells]
  refine ⟨rfl, ?_, ?_, (hk1.grown hgrow (Lib.ownsRowF_kind hown)).setCell ⟨b, 1, none⟩ rfl _⟩
  · exact Lib.BuilderAtF.put (T := 87) (e := 5) hB hb2 (bs' := bs ++ Lib.strCells s) (by rw [List.length_append, hl]; exact hown') (by decide)
  · exact (hb1.grown hgrow (by omega) (fun k hk => (hown.lt k hk).1)).setCell (p := ⟨b, 1, none⟩) hB _

/-- A builder that holds those bytes. -/
structure BOk (B b : Nat) (l : List UInt8) (w : World) : Prop where
  is : Lib.IsBuilderF 87 5 B b (Lib.byteCells l) w
  le : B ≤ w.heap.size
/-- What writing leaves. -/
structure Wrote (B b : Nat) (l : List UInt8) (w w' : World) : Prop where
  ok : BOk B b l w'
  below : Below B w w'
  others : Lib.OthersKept 5 (some b) w w'
theorem Wrote.trans {B b : Nat} {l m : List UInt8} {w w1 w2 : World} (h : Wrote B b l w w1) (g : Wrote B b m w1 w2) : Wrote B b m w w2 := ⟨g.ok, h.below.trans g.below, h.others.trans g.others⟩
theorem Wrote.refl {B b : Nat} {l : List UInt8} {w : World} (h : BOk B b l w) : Wrote B b l w w := ⟨h, Below.refl _ _, Lib.OthersKept.refl _ _ _⟩
theorem BOk.alloc {B b : Nat} {l : List UInt8} {w : World} (h : BOk B b l w) (o : Obj) : BOk B b l (w.alloc o) := ⟨h.is.alloc o, by have := h.le; rw [World.size_alloc]; omega⟩
theorem Wrote.alloc {B b : Nat} {l : List UInt8} {w w1 : World} (h : Wrote B b l w w1) (o : Obj) : Wrote B b l w (w1.alloc o) := ⟨h.ok.alloc o, h.below.alloc h.ok.le o, h.others.alloc o⟩
theorem BOk.row {B b : Nat} {l : List UInt8} {w : World} (h : BOk B b l w) : B ≤ b ∧ ∃ c, w.heap[b]? = some (.cells c 87 (0, 0)) := by
  rcases h.is with ⟨h1, v, h2, _⟩ | ⟨h1, v, h2, _⟩
  · exact ⟨h1, _, h2⟩
  · exact ⟨h1, _, h2⟩
theorem text_spec (B b : Nat) (l : List UInt8) (s : ByteArray) (w : World) (h : BOk B b l w) (hlen : l.length + s.size ≤ 140737488355328) :
    Calls Tryz.prog 74 #[.pointer (some ⟨b, 0, none⟩), .string s] w fun e w' => e = .returned (.tuple #[.int .i64 s.size, .nilIface]) ∧ Wrote B b (l ++ s.data.toList) w w' := by
  refine (writeString_k B b (Lib.byteCells l) s w h.is (by rw [Lib.byteCells_length]; exact hlen) h.le).mono ?_
  rintro e w' ⟨rfl, h1, h2, h3⟩
  refine ⟨rfl, ⟨Or.inr ?_, by have := h2.size; have := h.le; omega⟩, h2, h3⟩
  have e : Lib.byteCells (l ++ s.data.toList) = Lib.byteCells l ++ Lib.strCells s := by simp [Lib.byteCells, Lib.strCells]
  rw [e]
  exact h1

end Go.Proofs.YtbbhcbpfffabpaaGreatDoor

/- What a format takes: cells that can be walked; what stands beside a builder. -/
namespace Go.Proofs.YtbbhcbpfffabpaaGreatDoor
open Go.RowKit

theorem ok_none : COk noCel := ⟨by unfold T3.Fits noCel; dsimp only; omega, Nat.zero_le _⟩
def AllOk (cs : List Cel) : Prop := ∀ c ∈ cs, COk c
theorem AllOk.hd {cs : List Cel} (h : AllOk cs) : COk (hdC cs) := by
  cases cs with
  | nil => exact ok_none
  | cons c l => exact h c (by simp)
theorem AllOk.tl {cs : List Cel} (h : AllOk cs) : AllOk cs.tail := fun c hc => h c (List.mem_of_mem_tail hc)
theorem AllOk.fill {cs : List Cel} (h : AllOk cs) (x : Int) : AllOk (fillC x cs) := by
  unfold fillC
  split
  · exact h.tl
  · exact h
theorem AllOk.dir {cs : List Cel} (h : AllOk cs) (d : Dir) : AllOk (dirC d cs) := by
  unfold dirC leftC
  split
  · exact (h.fill _).fill _
  · exact ((h.fill _).fill _).tl

/-- The cells that a directive takes can be walked. -/
structure FedD (d : Dir) (cs : List Cel) : Prop where
  c1 : d.wide = -2 → COk (hdC cs)
  c2 : d.prec = -2 → COk (hdC (fillC d.wide cs))
  c3 : d.letter ≠ 37 → COk (hdC (leftC d cs))
/-- The cells that a format takes can be walked. -/
def fedS : Nat → List UInt8 → List Cel → Prop
  | 0, _, _ => True
  | _ + 1, [], _ => True
  | n + 1, b :: r, cs => if b.toNat = 37 then (match readS r with
      | none => True
      | some (d, k) => FedD d cs ∧ fedS n (r.drop k) (dirC d cs))
    else fedS n r cs
def Fed (l : List UInt8) (cs : List Cel) : Prop := fedS l.length l cs
theorem fedS_fuel : ∀ (m n : Nat) (l : List UInt8) (cs : List Cel), l.length ≤ m → l.length ≤ n → (fedS m l cs ↔ fedS n l cs)
  | 0, 0, _, _, _, _ => Iff.rfl
  | 0, n + 1, [], _, _, _ => Iff.rfl
  | 0, _ + 1, b :: r, _, h, _ => absurd h (by simp)
  | _ + 1, 0, [], _, _, _ => Iff.rfl
  | _ + 1, 0, b :: r, _, _, h => absurd h (by simp)
  | m + 1, n + 1, [], _, _, _ => Iff.rfl
  | m + 1, n + 1, b :: r, cs, h1, h2 => by
    have g1 : r.length ≤ m := by simpa using h1
    have g2 : r.length ≤ n := by simpa using h2
    unfold fedS
    split
    · split
      · exact Iff.rfl
      · rename_i d k _
        rw [fedS_fuel m n (r.drop k) _ (by simp; omega) (by simp; omega)]
    · rw [fedS_fuel m n r cs g1 g2]
theorem fed_other {b : UInt8} (h : b.toNat ≠ 37) (r : List UInt8) (cs : List Cel) : Fed (b :: r) cs ↔ Fed r cs := by
  unfold Fed
  show (if b.toNat = 37 then _ else _) ↔ _
  rw [if_neg h]
theorem fed_some {r : List UInt8} {d : Dir} {k : Nat} (h : readS r = some (d, k)) (cs : List Cel) {b : UInt8} (hb : b.toNat = 37) : Fed (b :: r) cs ↔ FedD d cs ∧ Fed (r.drop k) (dirC d cs) := by
  unfold Fed
  show (if b.toNat = 37 then _ else _) ↔ _
  rw [if_pos hb, h]
  dsimp only
  rw [fedS_fuel r.length (r.drop k).length (r.drop k) _ (by simp) (Nat.le_refl _)]
theorem fed_plain : ∀ (P rest : List UInt8) (cs : List Cel), NoPct P → (Fed (P ++ rest) cs ↔ Fed rest cs)
  | [], _, _, _ => Iff.rfl
  | b :: P, rest, cs, h => by
    rw [List.cons_append, fed_other (h b (by simp)), fed_plain P rest cs (fun x hx => h x (by simp [hx]))]
theorem fed_all : ∀ (n : Nat) (l : List UInt8) (cs : List Cel), AllOk cs → fedS n l cs
  | 0, _, _, _ => trivial
  | _ + 1, [], _, _ => trivial
  | n + 1, b :: r, cs, h' => by
    unfold fedS
    split
    · split
      · trivial
      · rename_i d k _
        exact ⟨⟨fun _ => h'.hd, fun _ => (h'.fill _).hd, fun _ => ((h'.fill _).fill _).hd⟩, fed_all n (r.drop k) (dirC d cs) (h'.dir d)⟩
    · exact fed_all n r cs h'
theorem Fed.all {cs : List Cel} (h : AllOk cs) (l : List UInt8) : Fed l cs := fed_all _ l cs h

theorem BOk.but {B b : Nat} {l : List UInt8} {w w' : World} {P : Nat → Prop} (h : BOk B b l w) (hb : But P w w') (h1 : ¬ P b) (h2 : ∀ g, P g → ∀ c fz, w.heap[g]? ≠ some (.cells c 5 fz)) : BOk B b l w' := by
  have key : ∀ p, Lib.BuilderAtF 87 5 B b p (Lib.byteCells l) w → Lib.BuilderAtF 87 5 B b p (Lib.byteCells l) w' := by
    rintro p ⟨hB, v, hrow, hown, hne⟩
    refine ⟨hB, v, ?_, ⟨hown.1, ?_⟩, hne⟩
    · rw [hb.block b (Array.getElem?_eq_some_iff.1 hrow).1 h1]
      exact hrow
    · rcases hown.2 with h0 | ⟨g, cap, cur, fz, hv, hg, hgg, rest⟩
      · exact Or.inl h0
      · refine Or.inr ⟨g, cap, cur, fz, hv, hg, ?_, rest⟩
        rw [hb.block g (Array.getElem?_eq_some_iff.1 hgg).1 (fun hp => h2 g hp _ _ hgg)]
        exact hgg
  refine ⟨?_, Nat.le_trans h.le hb.size⟩
  rcases h.is with h3 | h3
  · exact Or.inl (key _ h3)
  · exact Or.inr (key _ h3)
theorem Left.wrote {w w' : World} {B L b : Nat} {l : List Cel} {m : List UInt8} (h : Left w B L l) (hb : b ≠ L) (hw : Wrote B b m w w') : Left w' B L l := by
  obtain ⟨p, n, cap, h⟩ := h
  refine ⟨p, n, cap, hw.others L _ h.row (fun e => hb (Option.some.inj e).symm) (fun c fz e => ?_), ⟨h.at_.len, h.at_.room, h.at_.bound, h.at_.nil, ?_⟩, h.low, h.base⟩
  · injection e with _ e2 _
    exact absurd e2 (by decide)
  · rcases h.at_.cells with h0 | ⟨bb, off, hp, hc⟩
    · exact Or.inl h0
    · refine Or.inr ⟨bb, off, hp, fun i c hi => ?_⟩
      have hlow : bb < B := h.low _ hp
      have key : ∀ (o : Nat) (v : Value), w.cell? ⟨bb, o, none⟩ = some v → w'.cell? ⟨bb, o, none⟩ = some v := fun o v hv => by
        rw [hw.below.cell (p := ⟨bb, o, none⟩) hlow]; exact hv
      obtain ⟨h1, h2, h3⟩ := hc i c hi
      exact ⟨key _ _ h1, key _ _ h2, key _ _ h3⟩
theorem Left.kind {w : World} {B L : Nat} {l : List Cel} (h : Left w B L l) : ∀ g, g = L → ∀ c fz, w.heap[g]? ≠ some (.cells c 5 fz) := by
  obtain ⟨p, n, cap, h⟩ := h
  intro g hg c fz e
  rw [hg, h.row] at e
  injection e with e
  injection e with _ e2 _
  exact absurd e2 (by decide)
end Go.Proofs.YtbbhcbpfffabpaaGreatDoor

/- An operation of a drawn region taken first. -/
namespace Go.Proofs.YtbbhcbpfffabpaaGreatDoor
open Go.RowKit

section
variable {P : Program} {ops : Array Oper} {Q : Exit → Act → World → Prop} {md : Region.Mode} {S : World → Prop}
/-- An operation of a drawn region that its guard wants, taken first. -/
theorem takeF {i d : Nat} {oi : Oper} {v : Value} {fuel : Nat} {listed : Array Bool} {a : Act} {w : World} (hi : ops[i]? = some oi) (hd : oi.dst = some d)
    (hs : Region.noSelect ops = true) (hf : Region.free md ops listed i = true) (hr : (Region.ready md ops listed).contains i = true)
    (hQ : ∀ c a w, Q (.panic c) (a.put (some d) v) w → Q (.panic c) a w) (hw : Region.wanted oi (yielded ops a.tmps) = true) (hx : ∀ w, S w → (execOp a.eval oi).run P w = .ok (.value v) w) (hS : S w)
    (h : wpAnyH P md ops Q S fuel (listed.setIfInBounds i true) ⟨a.tmps.setIfInBounds d v, a.defers⟩ w) : wpAnyH P md ops Q S (fuel + 1) listed a w :=
  wpAnyH_take hi hs hf hr (by rw [hd]; exact hQ) (Or.inl ⟨hw, hx⟩) hS (by rw [hd]; exact h)
end
end Go.Proofs.YtbbhcbpfffabpaaGreatDoor

/- format's read: a walk. -/
namespace Go.Proofs.YtbbhcbpfffabpaaGreatDoor
open Go.RowKit

theorem flags_of (D : Nat) (d : Dir) (l : List UInt8) (hl : l.length ≤ 1000000) (w : World) (hD : DirAt w D d) :
    Calls Tryz.prog 101 #[.pointer (some ⟨D, 0, none⟩), .string (ofL l)] w fun e w' => e = .returned (.string (ofL (l.drop (flagsR l d).2))) ∧ DirAt w' D (flagsR l d).1 ∧ But (· = D) w w' := by
  have h := flags_any D d (ofL l) (by rw [ofL_size]; exact hl) w hD
  unfold FlagOut at h
  rw [← ofL_drop, ofL_list] at h
  exact h
theorem size_of (l : List UInt8) (hl : l.length ≤ 1000000) (w : World) :
    Calls Tryz.prog 102 #[.string (ofL l)] w fun e w' => e = .returned (.tuple #[.int .i64 (sizeP l).1, .string (ofL (l.drop (sizeP l).2))]) ∧ Below w.heap.size w w' := by
  have h := size_any (ofL l) (by rw [ofL_size]; exact hl) w
  unfold SizeOut at h
  rw [← ofL_drop, ofL_list] at h
  exact h
theorem dot_yes (r : List UInt8) (w : World) :
    Calls Tryz.prog 103 #[.string (ofL (46 :: r)), .string ⟨#[46]⟩] w fun e w' => e = .returned (.tuple #[.string (ofL r), .bool true]) ∧ w = w' := by
  have h := cutOne_yes (ofL (46 :: r)) 46 ⟨r, ofL_list _⟩ w
  rw [← ofL_drop, ofL_list] at h
  exact h
theorem dot_no (l : List UInt8) (hl : ∀ r, l ≠ 46 :: r) (w : World) :
    Calls Tryz.prog 103 #[.string (ofL l), .string ⟨#[46]⟩] w fun e w' => (∃ t : ByteArray, e = .returned (.tuple #[.string t, .bool false])) ∧ w = w' :=
  cutOne_no (ofL l) 46 (by rw [ofL_list]; exact hl) w

theorem DirAt.c6 {w : World} {D : Nat} {d : Dir} (h : DirAt w D d) : w.cell? ⟨D, 6, none⟩ = some (.int .u8 (d.letter : Int)) := cell_of_row _ _ 6 _ _ _ h
theorem DirAt.put6 {w : World} {D : Nat} {d : Dir} (h : DirAt w D d) (x : Nat) : DirAt (w.setCell ⟨D, 6, none⟩ (.int .u8 (x : Int))) D { d with letter := x } := by
  unfold DirAt
  rw [heap_setCell_same _ _ 6 _ _ _ h]; rfl
theorem info_dir : (Tryz.prog.info? 97).map (·.size) = some 7 := by kernel_rfl
theorem dir_one (d : Dir) : d.cells.all (·.oneCell') = true := by
  unfold Dir.cells
  simp [Value.oneCell']
theorem below_setRow7 {B : Nat} {w w' : World} (h : Below B w w') {b : Nat} (hb : B ≤ b) (q : Array Value) : Below B w (w'.setRow b q) :=
  ⟨h.os, h.tape, h.output, by have := h.size; simpa [World.setRow] using this, fun k hk => by rw [Go.setRow_other _ _ _ _ (by omega)]; exact h.block k hk⟩
/-- What stands behind a directive's head. -/
def lastP (h : Dir) (k : Nat) (l : List UInt8) : Option (Dir × Nat) := match l with
  | [] => none
  | b :: _ => if 200 < h.wide ∨ 200 < h.prec ∨ isLetter b.toNat = false then none else some ({ h with letter := b.toNat }, k + 1)
theorem readP_last (l : List UInt8) : readP l = lastP (headP l).1 (headP l).2 (l.drop (headP l).2) := rfl
/-- What read tells. -/
def ReadOut (l : List UInt8) (w : World) (e : Ending) (w' : World) : Prop :=
  ((readP l = none ∧ e = .returned (.tuple #[zeroD.val, .string noTxt, .bool false])) ∨ ∃ d k, readP l = some (d, k) ∧ e = .returned (.tuple #[d.val, .string (ofL (l.drop k)), .bool true])) ∧ Below w.heap.size w w'

/-- How far a directive is read: its block, what is w but for new blocks. -/
structure RdAt (w wx : World) (d : Dir) : Prop where
  dir : DirAt wx (w.heap.size + 1) d
  res : wx.heap[w.heap.size]? = some (.cells zeroD.cells 97 (0, 0))
  below : Below w.heap.size w wx
theorem RdAt.lt {w wx : World} {d : Dir} (h : RdAt w wx d) : w.heap.size + 1 < wx.heap.size := h.dir.lt
theorem RdAt.next {w wx w' : World} {d : Dir} (h : RdAt w wx d) (hb : Below wx.heap.size wx w') : RdAt w w' d := by
  have := h.lt
  exact ⟨h.dir.below hb, by rw [hb.block _ (by omega)]; exact h.res, Below.step h.below hb⟩
theorem RdAt.but {w wx w' : World} {d d' : Dir} (h : RdAt w wx d) (hb : But (· = w.heap.size + 1) wx w') (hd : DirAt w' (w.heap.size + 1) d') : RdAt w w' d' := by
  have := h.lt
  exact ⟨hd, by rw [hb.block _ (by omega) (by omega)]; exact h.res, But.below h.below hb (fun k hk => by omega) (by omega)⟩
theorem rd_start (w : World) : RdAt w ((w.alloc (.cells #[.bool false, .bool false, .bool false, .bool false, .int .i64 0, .int .i64 0, .int .u8 0] 97)).alloc (.cells #[.bool false, .bool false, .bool false, .bool false, .int .i64 0, .int .i64 0, .int .u8 0] 97)) zeroD := by
  have h1 := heap_alloc_last w (.cells #[.bool false, .bool false, .bool false, .bool false, .int .i64 0, .int .i64 0, .int .u8 0] 97)
  have h2 := heap_alloc_last (w.alloc (.cells #[.bool false, .bool false, .bool false, .bool false, .int .i64 0, .int .i64 0, .int .u8 0] 97)) (.cells #[.bool false, .bool false, .bool false, .bool false, .int .i64 0, .int .i64 0, .int .u8 0] 97)
  rw [World.size_alloc] at h2
  have hb := below_new (w.alloc (.cells #[.bool false, .bool false, .bool false, .bool false, .int .i64 0, .int .i64 0, .int .u8 0] 97)) (.cells #[.bool false, .bool false, .bool false, .bool false, .int .i64 0, .int .i64 0, .int .u8 0] 97)
  exact ⟨h2, by rw [hb.block _ (by rw [World.size_alloc]; omega)]; exact h1, Below.step (below_new _ _) hb⟩

set_option maxRecDepth 100000 in
set_option maxHeartbeats 2000000 in
theorem read_any (l : List UInt8) (hl : l.length ≤ 100000) (w : World) :
    Calls Tryz.prog 76 #[.string (ofL l)] w (ReadOut l w) := by
  have R0 := Lib.hid (rd_start w)
  have HF := Lib.hid (fun W h => flags_of (w.heap.size + 1) zeroD l (by omega) W h)
  obtain ⟨a, ha⟩ : ∃ a, a = flagsR l zeroD := ⟨_, rfl⟩
  rw [← ha] at HF
  obtain ⟨l1, hl1⟩ : ∃ l1, l1 = l.drop a.2 := ⟨_, rfl⟩
  rw [← hl1] at HF
  have hll1 : l1.length ≤ 100000 := by rw [hl1, List.length_drop]; omega
  have HS1 := Lib.hid (fun W => size_of l1 (by omega) W)
  obtain ⟨sp, hsp⟩ : ∃ sp, sp = sizeP l1 := ⟨_, rfl⟩
  rw [← hsp] at HS1
  obtain ⟨l2, hl2⟩ : ∃ l2, l2 = l1.drop sp.2 := ⟨_, rfl⟩
  rw [← hl2] at HS1
  have hll2 : l2.length ≤ 100000 := by rw [hl2, List.length_drop]; omega
  have hl2e : l.drop (a.2 + sp.2) = l2 := by rw [hl2, hl1, List.drop_drop]
  have HH : Hid (headP l = ({ a.1 with wide := sp.1, prec := (pointP l2).1 }, a.2 + sp.2 + (pointP l2).2)) := Lib.hid (by
    unfold headP
    dsimp only
    rw [← ha, ← hl1, ← hsp, hl2e])
  have HL2 := Lib.hid hl2e
  obtain ⟨ad, ak⟩ := a
  obtain ⟨sv, sk⟩ := sp
  dsimp only at HF HS1 HH HL2
  clear ha hl1 hsp hl2 hl2e
  go_enter Tryz.func76, Tryz.ntmps76
  go_wp2_with fail
  refine (HF.out _ R0.out.dir).mono ?_
  rintro e w1 ⟨rfl, hd1, hb1⟩
  have R1 := Lib.hid (R0.out.but hb1 hd1)
  clear hd1 hb1 R0
  go_wp2_with fail
  refine (HS1.out _).mono ?_
  rintro e w2 ⟨rfl, hb2⟩
  have R2 := Lib.hid (R1.out.next hb2)
  clear hb2 R1
  have c4 := R2.out.dir.c4
  have c5 := R2.out.dir.c5
  have z4 := R2.out.dir.z 4
  have z5 := R2.out.dir.z 5
  have hlt2 := R2.out.lt
  go_upto_region 5 with (fail)
  obtain ⟨V, hV⟩ : ∃ V, V = (w2.setCell ⟨w.heap.size + 1, 4, none⟩ (.int .i64 sv)).setCell ⟨w.heap.size + 1, 5, none⟩ (.int .i64 (-1)) := ⟨_, rfl⟩
  have RV : Hid (RdAt w V { ad with wide := sv, prec := -1 }) := Lib.hid (by
    rw [hV]
    exact (R2.out.but (But.set (· = w.heap.size + 1) _ 4 rfl w2 _) (R2.out.dir.put4 sv)).but (But.set (· = w.heap.size + 1) _ 5 rfl _ _) ((R2.out.dir.put4 sv).put5 (-1)))
  rw [← hV]
  clear c4 c5 z4 z5 hlt2 hV R2
  have HDot : Hid (l2 = [] ∨ ∃ b r, l2 = b :: r) := Lib.hid (by cases l2 with
    | nil => exact Or.inl rfl
    | cons b r => exact Or.inr ⟨b, r, rfl⟩)
  go_cut [6, 7] (fun x y wx => ∃ (B : Bool) (t : ByteArray), x = .string t ∧ y = .bool B ∧ wx = V ∧ Hid ((B = true → ∃ r, l2 = 46 :: r ∧ t = ofL r) ∧ (B = false → ∀ r, l2 ≠ 46 :: r)))
  case first =>
    by_cases hd : ∃ r, l2 = 46 :: r
    · have H5 : Hid (∀ W, ∃ r, l2 = 46 :: r ∧ Calls Tryz.prog 103 #[.string (ofL l2), .string ⟨#[46]⟩] W fun e w' => e = .returned (.tuple #[.string (ofL r), .bool true]) ∧ W = w') := Lib.hid (fun W => by
        obtain ⟨r, hr⟩ := hd
        exact ⟨r, hr, by rw [hr]; exact dot_yes r W⟩)
      clear hd
      obtain ⟨r, hr, hcall⟩ := H5.out V
      have HR := Lib.hid hr
      clear hr
      go_wp2_with fail
      refine hcall.mono ?_
      rintro e w3 ⟨rfl, rfl⟩
      clear hcall
      go_wp2_with fail
      go_meet
      exact ⟨true, ofL r, rfl, rfl, rfl, Lib.hid ⟨fun _ => ⟨r, HR.out, rfl⟩, fun h => absurd h (by decide)⟩⟩
    · have H5 := Lib.hid (fun W => dot_no l2 (fun r h => hd ⟨r, h⟩) W)
      have HD := Lib.hid (fun r h => hd ⟨r, h⟩ : ∀ r, l2 ≠ 46 :: r)
      clear hd
      go_wp2_with fail
      refine (H5.out _).mono ?_
      rintro e w3 ⟨⟨t, rfl⟩, rfl⟩
      go_wp2_with fail
      go_meet
      exact ⟨false, t, rfl, rfl, rfl, Lib.hid ⟨fun h => absurd h (by decide), fun _ => HD.out⟩⟩
  case rest =>
    obtain ⟨B, t, rfl, rfl, hwx, HB⟩ := hcut
    subst hwx
    go_step
    go_upto_if 22 with (fail)
    obtain ⟨h, hh⟩ : ∃ h, h = (headP l).1 := ⟨_, rfl⟩
    obtain ⟨l3, hl3⟩ : ∃ l3, l3 = l.drop (headP l).2 := ⟨_, rfl⟩
    have HH1 : Hid (h = { ad with wide := sv, prec := (pointP l2).1 } ∧ l3 = l2.drop (pointP l2).2) := Lib.hid ⟨by rw [hh, HH.out], by rw [hl3, HH.out, ← HL2.out, List.drop_drop]⟩
    have HLL := Lib.hid (⟨hh, hl3⟩ : _ ∧ _)
    have hll3 : l3.length ≤ 100000 := by rw [hl3, List.length_drop]; omega
    clear hh hl3
    go_cut [0] (fun x wx => x = .string (ofL l3) ∧ Hid (RdAt w wx h))
    case first =>
      cases B with
      | true =>
        obtain ⟨r, hr, rfl⟩ := HB.out.1 rfl
        have hrl : r.length ≤ 100000 := by have := congrArg List.length hr; rw [List.length_cons] at this; omega
        have HSr := Lib.hid (fun W => size_of r (by omega) W)
        have HPt : Hid (pointP l2 = (if (sizeP r).1 = -1 then 0 else (sizeP r).1, (sizeP r).2 + 1)) := Lib.hid (by rw [hr]; rfl)
        have HDr : Hid (∀ k, l2.drop (k + 1) = r.drop k) := Lib.hid (fun k => by rw [hr]; rfl)
        obtain ⟨v, hv⟩ : ∃ v, v = (sizeP r).1 := ⟨_, rfl⟩
        obtain ⟨k, hk⟩ : ∃ k, k = (sizeP r).2 := ⟨_, rfl⟩
        rw [← hv, ← hk] at HSr HPt
        clear hr hv hk
        have hlt2 := RV.out.lt
        go_wp2_with fail
        refine (HSr.out _).mono ?_
        rintro e w3 ⟨rfl, hb3⟩
        have R3 := Lib.hid (RV.out.next hb3)
        clear hb3
        have c5 := R3.out.dir.c5
        have z5 := R3.out.dir.z 5
        have hlt3 := R3.out.lt
        have HL3 : Hid (l3 = r.drop k) := Lib.hid (by rw [HH1.out.2, HPt.out]; exact HDr.out k)
        by_cases hv : v = -1
        · have d1 : (v == -1) = true := beq_iff_eq.2 hv
          have HP0 : Hid (h = { ad with wide := sv, prec := 0 }) := Lib.hid (by rw [HH1.out.1, HPt.out, if_pos hv])
          have hv' := Lib.hid hv
          clear hv
          go_wp2_with fail
          go_meet
          exact ⟨by rw [HL3.out], Lib.hid (by
            rw [HP0.out]
            exact (R3.out.but (But.set (· = w.heap.size + 1) _ 5 rfl w3 _) (R3.out.dir.put5 v)).but (But.set (· = w.heap.size + 1) _ 5 rfl _ _) ((R3.out.dir.put5 v).put5 0))⟩
        · have d1 : (v == -1) = false := beq_eq_false_iff_ne.2 hv
          have HP0 : Hid (h = { ad with wide := sv, prec := v }) := Lib.hid (by rw [HH1.out.1, HPt.out, if_neg hv])
          clear hv
          go_wp2_with fail
          go_meet
          exact ⟨by rw [HL3.out], Lib.hid (by
            rw [HP0.out]
            exact R3.out.but (But.set (· = w.heap.size + 1) _ 5 rfl w3 _) (R3.out.dir.put5 v))⟩
      | false =>
        have HPt : Hid (pointP l2 = (-1, 0)) := Lib.hid (by
          have hno := HB.out.2 rfl
          rcases HDot.out with h0 | ⟨b, r, h0⟩
          · rw [h0]; rfl
          · rw [h0]
            show (if b.toNat = 46 then _ else _) = _
            rw [if_neg (fun hb => hno r (by rw [h0]; exact congrArg (· :: r) (UInt8.toNat_inj.1 (by rw [hb]; rfl))))])
        go_wp2_with fail
        go_meet
        exact ⟨by rw [HH1.out.2, HPt.out]; rfl, Lib.hid (by rw [HH1.out.1, HPt.out]; exact RV.out)⟩
    case rest =>
      obtain ⟨rfl, RX⟩ := hcut
      go_step
      have c4 := RX.out.dir.c4
      have c5 := RX.out.dir.c5
      have c6 := RX.out.dir.c6
      have z6 := RX.out.dir.z 6
      have hltx := RX.out.lt
      have HRes := Lib.hid RX.out.res
      have HBel := Lib.hid RX.out.below
      have HQ : Hid (readP l = lastP h (headP l).2 l3) := Lib.hid (by
        rw [readP_last, HLL.out.1, HLL.out.2])
      have hcase : l3 = [] ∨ ∃ b r, l3 = b :: r := by
        cases l3 with
        | nil => exact Or.inl rfl
        | cons b r => exact Or.inr ⟨b, r, rfl⟩
      rcases hcase with h0 | ⟨b, r, h0⟩
      · have HNone : Hid (readP l = none) := Lib.hid (by rw [HQ.out, h0]; rfl)
        obtain ⟨g0, g1, g2⟩ := emp_of (s := ofL l3) (by rw [h0]; rfl)
        clear h0
        go_wp2_with (refine wpList_store_row rfl 97 (.tmp 2) (.tmp 51) rfl w.heap.size zeroD.cells rfl rfl 97 zeroD.cells HRes.out info_dir rfl (dir_one _) ?_)
        obtain ⟨e0, e1, e2, e3, e4, e5, e6⟩ := DirAt.all (T := zeroD) (show DirAt _ _ zeroD from Go.setRow_heap _ _ _ _ _ _ HRes.out)
        exact bodyPost_ret (v := .tuple #[zeroD.val, .string ⟨#[]⟩, .bool false]) (by simp [results, Tryz.results76, go_sem, e0, e1, e2, e3, e4, e5, e6]; rfl) rfl ⟨Or.inl ⟨HNone.out, rfl⟩, below_setRow7 HBel.out (Nat.le_refl _) _⟩
      · have hsz : 0 < (ofL l3).size := by rw [h0, ofL_size]; simp
        have HQ2 : Hid (readP l = if 200 < h.wide ∨ 200 < h.prec ∨ isLetter b.toNat = false then none else some ({ h with letter := b.toNat }, (headP l).2 + 1)) := Lib.hid (by rw [HQ.out, h0]; rfl)
        have hX0 : (ofL l3)[0] = b := by
          have h2 := h0.symm.trans ((ofL_list l3).symm.trans (head_of hsz))
          injection h2 with h3
          exact h3.symm
        have HDrop : Hid (l.drop ((headP l).2 + 1) = l3.drop 1) := Lib.hid (by rw [← List.drop_drop, HLL.out.2])
        have HOL : Hid (ofL (l3.drop 1) = (ofL l3).extract 1 (ofL l3).size) := Lib.hid (by
          have := ofL_drop (ofL l3) 1
          rw [ofL_list] at this
          exact this)
        have hXs : (ofL l3).size ≤ 100000 := by rw [ofL_size]; exact hll3
        obtain ⟨X, hX⟩ : ∃ X, X = ofL l3 := ⟨_, rfl⟩
        obtain ⟨I, hI⟩ : ∃ I, I = Lib.indexByte [100, 105, 111, 120, 88, 99, 115, 102, 37] b := ⟨_, rfl⟩
        have HI : Hid (decide (I < 0) = !isLetter b.toNat) := Lib.hid (by rw [hI]; exact letter_index b)
        simp only [← hX] at hsz hX0 hXs HOL ⊢
        have HK : Hid (∀ w, Calls Tryz.prog 104 #[.string ⟨#[100, 105, 111, 120, 88, 99, 115, 102, 37]⟩, .int .u8 (b.toNat : Int)] w fun e w' => e = .returned (.int .i64 I) ∧ w = w') := Lib.hid (fun w => by
          have h1 := Tryz.strings_IndexByte ⟨#[100, 105, 111, 120, 88, 99, 115, 102, 37]⟩ (b.toNat : Int) w
          have e3 : ((b.toNat : Int)).toNat.toUInt8 = b := by simp
          rw [e3, show (⟨#[100, 105, 111, 120, 88, 99, 115, 102, 37]⟩ : ByteArray).data.toList = [100, 105, 111, 120, 88, 99, 115, 102, 37] from rfl, ← hI] at h1
          exact h1.mono fun e w' ⟨p, q⟩ => ⟨p, q.symm⟩)
        obtain ⟨g1, g2⟩ := ne_of hsz
        have hbt : (X[0].toNat : Int) = (b.toNat : Int) := by rw [hX0]
        clear h0 hX hI HQ hX0
        by_cases hi : I < 0
        · have d1 : decide (I < 0) = true := decide_eq_true hi
          have HNone : Hid (readP l = none) := Lib.hid (by
            have h1 := HI.out
            rw [d1] at h1
            rw [HQ2.out, if_pos (Or.inr (Or.inr (by simpa using h1.symm)))])
          clear hi
          go_wp2_with (first
            | (go_at_call 104; refine (HK.out _).mono ?_; rintro e w' ⟨rfl, rfl⟩)
            | (refine wpList_store_row rfl 97 (.tmp 2) (.tmp 51) rfl w.heap.size zeroD.cells rfl rfl 97 zeroD.cells HRes.out info_dir rfl (dir_one _) ?_))
          obtain ⟨e0, e1, e2, e3, e4, e5, e6⟩ := DirAt.all (T := zeroD) (show DirAt _ _ zeroD from Go.setRow_heap _ _ _ _ _ _ HRes.out)
          exact bodyPost_ret (v := .tuple #[zeroD.val, .string ⟨#[]⟩, .bool false]) (by simp [results, Tryz.results76, go_sem, e0, e1, e2, e3, e4, e5, e6]; rfl) rfl ⟨Or.inl ⟨HNone.out, rfl⟩, below_setRow7 HBel.out (Nat.le_refl _) _⟩
        · have d1 : decide (I < 0) = false := decide_eq_false hi
          have hlet : isLetter b.toNat = true := by
            have h1 := HI.out
            rw [d1] at h1
            simpa using h1.symm
          have HLet := Lib.hid hlet
          clear hi hlet
          by_cases hw : 200 < h.wide
          · have d2 : decide (200 < h.wide) = true := decide_eq_true hw
            have HNone : Hid (readP l = none) := Lib.hid (by rw [HQ2.out, if_pos (Or.inl hw)])
            clear hw
            go_wp2_with (first
              | (go_at_call 104; refine (HK.out _).mono ?_; rintro e w' ⟨rfl, rfl⟩)
              | (refine wpList_store_row rfl 97 (.tmp 2) (.tmp 51) rfl w.heap.size zeroD.cells rfl rfl 97 zeroD.cells HRes.out info_dir rfl (dir_one _) ?_))
            obtain ⟨e0, e1, e2, e3, e4, e5, e6⟩ := DirAt.all (T := zeroD) (show DirAt _ _ zeroD from Go.setRow_heap _ _ _ _ _ _ HRes.out)
            exact bodyPost_ret (v := .tuple #[zeroD.val, .string ⟨#[]⟩, .bool false]) (by simp [results, Tryz.results76, go_sem, e0, e1, e2, e3, e4, e5, e6]; rfl) rfl ⟨Or.inl ⟨HNone.out, rfl⟩, below_setRow7 HBel.out (Nat.le_refl _) _⟩
          · have d2 : decide (200 < h.wide) = false := decide_eq_false hw
            by_cases hp : 200 < h.prec
            · have d3 : decide (200 < h.prec) = true := decide_eq_true hp
              have HNone : Hid (readP l = none) := Lib.hid (by rw [HQ2.out, if_pos (Or.inr (Or.inl hp))])
              clear hw hp
              go_wp2_with (first
                | (go_at_call 104; refine (HK.out _).mono ?_; rintro e w' ⟨rfl, rfl⟩)
                | (refine wpList_store_row rfl 97 (.tmp 2) (.tmp 51) rfl w.heap.size zeroD.cells rfl rfl 97 zeroD.cells HRes.out info_dir rfl (dir_one _) ?_))
              obtain ⟨e0, e1, e2, e3, e4, e5, e6⟩ := DirAt.all (T := zeroD) (show DirAt _ _ zeroD from Go.setRow_heap _ _ _ _ _ _ HRes.out)
              exact bodyPost_ret (v := .tuple #[zeroD.val, .string ⟨#[]⟩, .bool false]) (by simp [results, Tryz.results76, go_sem, e0, e1, e2, e3, e4, e5, e6]; rfl) rfl ⟨Or.inl ⟨HNone.out, rfl⟩, below_setRow7 HBel.out (Nat.le_refl _) _⟩
            · have d3 : decide (200 < h.prec) = false := decide_eq_false hp
              have HSome : Hid (readP l = some ({ h with letter := b.toNat }, (headP l).2 + 1)) := Lib.hid (by
                rw [HQ2.out, if_neg (by rw [HLet.out]; simp only [Bool.true_eq_false, or_false]; omega)])
              clear hw hp
              go_upto_region 13 with (go_at_call 104; refine (HK.out _).mono ?_; rintro e w' ⟨rfl, rfl⟩)
              obtain ⟨V2, hV2⟩ : ∃ V2, V2 = wc.setCell ⟨w.heap.size + 1, 6, none⟩ (.int .u8 (b.toNat : Int)) := ⟨_, rfl⟩
              have R2 : Hid (RdAt w V2 { h with letter := b.toNat }) := Lib.hid (by
                rw [hV2]
                exact RX.out.but (But.set (· = w.heap.size + 1) _ 6 rfl wc _) (RX.out.dir.put6 b.toNat))
              rw [← hV2]
              clear hV2 c4 c5 c6 z6 hltx HRes HBel
              obtain ⟨q0, q1, q2, q3, q4, q5, q6⟩ := R2.out.dir.all
              dsimp only at q0 q1 q2 q3 q4 q5 q6
              have hltx := R2.out.lt
              have hx1 : 1 ≤ X.size := hsz
              have hx2 : (1 : Int) ≤ (X.size : Int) := by omega
              have hres : ofL (l.drop ((headP l).2 + 1)) = X.extract 1 X.size := by rw [HDrop.out, HOL.out]
              have HResT := Lib.hid hres
              clear hres
              obtain ⟨Y, hY⟩ : ∃ Y, Y = X.extract 1 X.size := ⟨_, rfl⟩
              rw [← hY] at HResT
              have hD : (fun w' : World => Hid (Below w.heap.size w w') ∧ (∃ old : Array Value, w'.heap[w.heap.size]? = some (.cells old 97 (0, 0)) ∧ old.size = 7) ∧ w'.cell? ⟨w.heap.size + 1, 0, none⟩ = some (.bool h.left) ∧ w'.cell? ⟨w.heap.size + 1, 1, none⟩ = some (.bool h.plus) ∧ w'.cell? ⟨w.heap.size + 1, 2, none⟩ = some (.bool h.blank) ∧ w'.cell? ⟨w.heap.size + 1, 3, none⟩ = some (.bool h.zero) ∧ w'.cell? ⟨w.heap.size + 1, 4, none⟩ = some (.int .i64 h.wide) ∧ w'.cell? ⟨w.heap.size + 1, 5, none⟩ = some (.int .i64 h.prec) ∧ w'.cell? ⟨w.heap.size + 1, 6, none⟩ = some (.int .u8 (b.toNat : Int))) V2.drew :=
                ⟨Lib.hid (Below.step R2.out.below (below_drew _)), ⟨zeroD.cells, R2.out.res, rfl⟩, q0, q1, q2, q3, q4, q5, q6⟩
              refine wp_region_held_drew (S := fun w' => Hid (Below w.heap.size w w') ∧ (∃ old : Array Value, w'.heap[w.heap.size]? = some (.cells old 97 (0, 0)) ∧ old.size = 7) ∧ w'.cell? ⟨w.heap.size + 1, 0, none⟩ = some (.bool h.left) ∧ w'.cell? ⟨w.heap.size + 1, 1, none⟩ = some (.bool h.plus) ∧ w'.cell? ⟨w.heap.size + 1, 2, none⟩ = some (.bool h.blank) ∧ w'.cell? ⟨w.heap.size + 1, 3, none⟩ = some (.bool h.zero) ∧ w'.cell? ⟨w.heap.size + 1, 4, none⟩ = some (.int .i64 h.wide) ∧ w'.cell? ⟨w.heap.size + 1, 5, none⟩ = some (.int .i64 h.prec) ∧ w'.cell? ⟨w.heap.size + 1, 6, none⟩ = some (.int .u8 (b.toNat : Int))) (by kernel_rfl) hD (fun hS => ?_)
              clear hS q0 q1 q2 q3 q4 q5 q6
              obtain ⟨U, hU⟩ : ∃ U, U = V2.drew := ⟨_, rfl⟩
              rw [← hU] at hD ⊢
              clear hU
              refine takeF (i := 0) (d := 55) (v := .agg #[.bool h.left, .bool h.plus, .bool h.blank, .bool h.zero, .int .i64 h.wide, .int .i64 h.prec, .int .u8 (b.toNat : Int)]) rfl rfl (by kernel_rfl) (by kernel_rfl) (by kernel_rfl) (fun _ _ _ h => h) (by rfl) (fun w' hSw => by obtain ⟨_, _, q0, q1, q2, q3, q4, q5, q6⟩ := hSw; go_simp) hD ?_
              simp only [List.setIfInBounds_toArray, List.set_cons_zero, List.set_cons_succ]
              refine takeF (i := 1) (d := 56) (v := .string X) rfl rfl (by kernel_rfl) (by kernel_rfl) (by kernel_rfl) (fun _ _ _ h => h) (by rfl) (fun w' hSw => by obtain ⟨_, _, q0, q1, q2, q3, q4, q5, q6⟩ := hSw; go_simp) hD ?_
              simp only [List.setIfInBounds_toArray, List.set_cons_zero, List.set_cons_succ]
              refine takeF (i := 2) (d := 57) (v := .string Y) rfl rfl (by kernel_rfl) (by kernel_rfl) (by kernel_rfl) (fun _ _ _ h => h) (by rfl) (fun w' hSw => by obtain ⟨_, _, q0, q1, q2, q3, q4, q5, q6⟩ := hSw; rw [hY]; go_simp) hD ?_
              simp only [List.setIfInBounds_toArray, List.set_cons_zero, List.set_cons_succ]
              refine wpAnyH_ready (rs := [3]) (by kernel_rfl) (by simp) ?_
              refine AllReadyH.cons rfl (fun K hK => ?_) AllReadyH.nil
              rw [if_pos (by rfl)]
              obtain ⟨old, hold, holds⟩ := hD.2.1
              refine wp_store_row 97 (.tmp 2) (.tmp 55) rfl w.heap.size (Dir.cells { h with letter := b.toNat }) rfl rfl 97 _ hold info_dir (holds.trans rfl) (dir_one _) ?_
              have hD2 : (fun w' : World => Hid (Below w.heap.size w w') ∧ (∃ old : Array Value, w'.heap[w.heap.size]? = some (.cells old 97 (0, 0)) ∧ old.size = 7) ∧ w'.cell? ⟨w.heap.size + 1, 0, none⟩ = some (.bool h.left) ∧ w'.cell? ⟨w.heap.size + 1, 1, none⟩ = some (.bool h.plus) ∧ w'.cell? ⟨w.heap.size + 1, 2, none⟩ = some (.bool h.blank) ∧ w'.cell? ⟨w.heap.size + 1, 3, none⟩ = some (.bool h.zero) ∧ w'.cell? ⟨w.heap.size + 1, 4, none⟩ = some (.int .i64 h.wide) ∧ w'.cell? ⟨w.heap.size + 1, 5, none⟩ = some (.int .i64 h.prec) ∧ w'.cell? ⟨w.heap.size + 1, 6, none⟩ = some (.int .u8 (b.toNat : Int))) (U.setRow w.heap.size (Dir.cells { h with letter := b.toNat })) := by
                obtain ⟨k0, _, q0, q1, q2, q3, q4, q5, q6⟩ := hD
                have key : ∀ (o : Nat) (v : Value), U.cell? ⟨w.heap.size + 1, o, none⟩ = some v → (U.setRow w.heap.size (Dir.cells { h with letter := b.toNat })).cell? ⟨w.heap.size + 1, o, none⟩ = some v := fun o v hv => by
                  rw [cell_setRow_other U w.heap.size _ ⟨w.heap.size + 1, o, none⟩ (by dsimp only; omega)]; exact hv
                exact ⟨Lib.hid (below_setRow7 k0.out (Nat.le_refl _) _), ⟨_, Go.setRow_heap _ _ _ _ _ _ hold, rfl⟩, key _ _ q0, key _ _ q1, key _ _ q2, key _ _ q3, key _ _ q4, key _ _ q5, key _ _ q6⟩
              have HRow : Hid ((U.setRow w.heap.size (Dir.cells { h with letter := b.toNat })).heap[w.heap.size]? = some (.cells (Dir.cells { h with letter := b.toNat }) 97 (0, 0))) := Lib.hid (Go.setRow_heap _ _ _ _ _ _ hold)
              refine hK.out _ _ hD2 (fun _ => ?_)
              clear hK K hold holds
              refine takeF (i := 4) (d := 3) (v := .string Y) rfl rfl (by kernel_rfl) (by kernel_rfl) (by kernel_rfl) (fun _ _ _ h => h) (by rfl) (fun w' hSw => by obtain ⟨_, _, q0, q1, q2, q3, q4, q5, q6⟩ := hSw; go_simp) hD2 ?_
              simp only [Act.put, List.setIfInBounds_toArray]
              refine takeF (i := 5) (d := 4) (v := .bool true) rfl rfl (by kernel_rfl) (by kernel_rfl) (by kernel_rfl) (fun _ _ _ h => h) (by rfl) (fun w' hSw => by obtain ⟨_, _, q0, q1, q2, q3, q4, q5, q6⟩ := hSw; go_simp) hD2 ?_
              dsimp only
              refine wpAnyH_done (by kernel_rfl) ?_ _
              obtain ⟨Z, hZ⟩ : ∃ Z, Z = U.setRow w.heap.size (Dir.cells { h with letter := b.toNat }) := ⟨_, rfl⟩
              rw [← hZ] at hD2 HRow ⊢
              clear hZ hD
              have HBelZ := hD2.1
              clear hD2
              go_wp2_with fail
              obtain ⟨e0, e1, e2, e3, e4, e5, e6⟩ := DirAt.all (T := { h with letter := b.toNat }) (show DirAt _ _ { h with letter := b.toNat } from HRow.out)
              exact bodyPost_ret (v := .tuple #[Dir.val { h with letter := b.toNat }, .string Y, .bool true]) (by simp [results, Tryz.results76, go_sem, e0, e1, e2, e3, e4, e5, e6]; exact ⟨rfl, hY.symm⟩) rfl ⟨Or.inr ⟨_, _, HSome.out, by rw [HResT.out]⟩, HBelZ.out⟩
end Go.Proofs.YtbbhcbpfffabpaaGreatDoor
