/- Merged by program: Writer, DoM, FTakeW. -/
import Derived.Test.YtfhnbpilbbbckaaDoorHba
import Derived.Test.YtfhnbpilbbbckaaDoorHay
import Derived.Test.YtfhnbpilbbbckaaDoorHaa
/- strings.Builder's WriteString, Reset: walks; a builder that holds bytes. -/
namespace Go.Proofs.YtfhnbpilbbbckaaDoor
open Go.RowKit

theorem byteCells_snoc (l : List UInt8) (c : UInt8) : Lib.byteCells (l ++ [c]) = Lib.byteCells l ++ [.int .u8 (c.toNat : Int)] := by simp [Lib.byteCells]
set_option maxHeartbeats 2000000 in
set_option maxRecDepth 100000 in
theorem writeString_k (B b : Nat) (bs : List Value) (s : ByteArray) (w : World) (h : Lib.IsBuilderF 53 5 B b bs w) (hlen : bs.length + s.size ≤ 140737488355328) (hBw : B ≤ w.heap.size) :
    Calls Tryd.prog 28 #[.pointer (some ⟨b, 0, none⟩), .string s] w fun e w' => e = .returned (.tuple #[.int .i64 s.size, .nilIface]) ∧ (Lib.BuilderAtF 53 5 B b (.pointer (some ⟨b, 0, none⟩)) (bs ++ Lib.strCells s) w' ∧ Below B w w' ∧ Lib.OthersKept 5 (some b) w w') := by
  obtain ⟨i0, hi, hz0, hz1, hz2⟩ := info_parts info_byte
  go_enter Tryd.func28, Tryd.ntmps28
  go_wp2_with (go_at_call 48; refine (copyCheck_k B b bs _ h).mono ?_)
  rintro e w1 ⟨rfl, h1, hb1, hk1⟩
  obtain ⟨hB, v, hbk, hown, hne⟩ := h1
  have c0 : w1.cell? ⟨b, 0, none⟩ = some (.pointer (some ⟨b, 0, none⟩)) := by rw [Lib.cell_of_heap hbk]; rfl
  have c1 : w1.cell? ⟨b, 1, none⟩ = some v := by rw [Lib.cell_of_heap hbk]; rfl
  have hs1 := hb1.size
  go_wp2_with (at_builtin; refine Lib.wpList_append_own_stringF _ rfl _ _ 37 9 rfl B 5 i0 Tryd.underlying37 Tryd.underlying9 hi hz0 hz1 hz2 _ _ _ rfl hown s rfl ?c1 hlen ?c2 ?_)
  case c1 => unfold maxLen; omega
  case c2 => omega
  intro v' w2 hown' hgrow hnil
  have hlt : b < w1.heap.size := by
    rcases Nat.lt_or_ge b w1.heap.size with h' | h'
    · exact h'
    · simp [Array.getElem?_eq_none h'] at hbk
  have hb2 : w2.heap[b]? = some (.cells #[.pointer (some ⟨b, 0, none⟩), v] 53 (0, 0)) := by
    rw [hgrow.block b hlt (fun e => hne e.symm)]
    exact hbk
  have d0 : w2.cell? ⟨b, 0, none⟩ = some (.pointer (some ⟨b, 0, none⟩)) := by rw [Lib.cell_of_heap hb2]; rfl
  have d1 : w2.cell? ⟨b, 1, none⟩ = some v := by rw [Lib.cell_of_heap hb2]; rfl
  have f1 : w2.frozen? ⟨b, 1, none⟩ = false := Lib.frozen_of_heap hb2 1
  obtain ⟨ad, n', cap, rfl⟩ : ∃ ad n' cap, v' = .slice ad n' cap := by
    rcases hown'.2 with ⟨hv, h0⟩ | ⟨g, cap, cur, fz, hv, _⟩
    · exact ⟨_, _, _, hv⟩
    · exact ⟨_, _, _, hv⟩
  go_wp2
  go_ret2
  have hl : (Lib.strCells s).length = s.size := by simp [Lib.strCells]
  refine ⟨rfl, ?_, ?_, (hk1.grown hgrow (Lib.ownsRowF_kind hown)).setCell ⟨b, 1, none⟩ rfl _⟩
  · exact Lib.BuilderAtF.put (T := 53) (e := 5) hB hb2 (bs' := bs ++ Lib.strCells s) (by rw [List.length_append, hl]; exact hown') (by decide)
  · exact (hb1.grown hgrow (by omega) (fun k hk => (hown.lt k hk).1)).setCell (p := ⟨b, 1, none⟩) hB _

/-- A builder that holds those bytes. -/
structure BOk (B b : Nat) (l : List UInt8) (w : World) : Prop where
  is : Lib.IsBuilderF 53 5 B b (Lib.byteCells l) w
  le : B ≤ w.heap.size
/-- What writing leaves. -/
structure Wrote (B b : Nat) (l : List UInt8) (w w' : World) : Prop where
  ok : BOk B b l w'
  below : Below B w w'
  others : Lib.OthersKept 5 (some b) w w'
theorem Wrote.trans {B b : Nat} {l m : List UInt8} {w w1 w2 : World} (h : Wrote B b l w w1) (g : Wrote B b m w1 w2) : Wrote B b m w w2 := ⟨g.ok, h.below.trans g.below, h.others.trans g.others⟩
theorem Wrote.refl {B b : Nat} {l : List UInt8} {w : World} (h : BOk B b l w) : Wrote B b l w w := ⟨h, Below.refl _ _, Lib.OthersKept.refl _ _ _⟩
theorem BOk.alloc {B b : Nat} {l : List UInt8} {w : World} (h : BOk B b l w) (o : Obj) : BOk B b l (w.alloc o) := ⟨h.is.alloc o, by have := h.le; rw [World.size_alloc]; omega⟩
theorem Wrote.alloc {B b : Nat} {l : List UInt8} {w w1 : World} (h : Wrote B b l w w1) (o : Obj) : Wrote B b l w (w1.alloc o) := ⟨h.ok.alloc o, h.below.alloc h.ok.le o, h.others.alloc o⟩
theorem BOk.row {B b : Nat} {l : List UInt8} {w : World} (h : BOk B b l w) : B ≤ b ∧ ∃ c, w.heap[b]? = some (.cells c 53 (0, 0)) := by
  rcases h.is with ⟨h1, v, h2, _⟩ | ⟨h1, v, h2, _⟩
  · exact ⟨h1, _, h2⟩
  · exact ⟨h1, _, h2⟩
theorem text_spec (B b : Nat) (l : List UInt8) (s : ByteArray) (w : World) (h : BOk B b l w) (hlen : l.length + s.size ≤ 140737488355328) :
    Calls Tryd.prog 28 #[.pointer (some ⟨b, 0, none⟩), .string s] w fun e w' => e = .returned (.tuple #[.int .i64 s.size, .nilIface]) ∧ Wrote B b (l ++ s.data.toList) w w' := by
  refine (writeString_k B b (Lib.byteCells l) s w h.is (by rw [Lib.byteCells_length]; exact hlen) h.le).mono ?_
  rintro e w' ⟨rfl, h1, h2, h3⟩
  refine ⟨rfl, ⟨Or.inr ?_, by have := h2.size; have := h.le; omega⟩, h2, h3⟩
  have e : Lib.byteCells (l ++ s.data.toList) = Lib.byteCells l ++ Lib.strCells s := by simp [Lib.byteCells, Lib.strCells]
  rw [e]
  exact h1

end Go.Proofs.YtfhnbpilbbbckaaDoor

/- What a format takes: cells that can be walked; what stands beside a builder. -/
namespace Go.Proofs.YtfhnbpilbbbckaaDoor
open Go.RowKit

theorem ok_none : COk noCel := ⟨by unfold T3.Fits noCel; dsimp only; omega, Nat.zero_le _⟩
def AllOk (cs : List Cel) : Prop := ∀ c ∈ cs, COk c
theorem AllOk.hd {cs : List Cel} (h : AllOk cs) : COk (hdC cs) := by
  cases cs with
  | nil => exact ok_none
  | cons c l => exact h c (by simp)
theorem AllOk.tl {cs : List Cel} (h : AllOk cs) : AllOk cs.tail := fun c hc => h c (List.mem_of_mem_tail hc)
theorem AllOk.fill {cs : List Cel} (h : AllOk cs) (x : Int) : AllOk (fillC x cs) := by
  unfold fillC
  split
  · exact h.tl
  · exact h
theorem AllOk.dir {cs : List Cel} (h : AllOk cs) (d : Dir) : AllOk (dirC d cs) := by
  unfold dirC leftC
  split
  · exact (h.fill _).fill _
  · exact ((h.fill _).fill _).tl

/-- The cells that a directive takes can be walked. -/
structure FedD (d : Dir) (cs : List Cel) : Prop where
  c1 : d.wide = -2 → COk (hdC cs)
  c2 : d.prec = -2 → COk (hdC (fillC d.wide cs))
  c3 : d.letter ≠ 37 → COk (hdC (leftC d cs))
/-- The cells that a format takes can be walked. -/
def fedS : Nat → List UInt8 → List Cel → Prop
  | 0, _, _ => True
  | _ + 1, [], _ => True
  | n + 1, b :: r, cs => if b.toNat = 37 then (match readS r with
      | none => True
      | some (d, k) => FedD d cs ∧ fedS n (r.drop k) (dirC d cs))
    else fedS n r cs
def Fed (l : List UInt8) (cs : List Cel) : Prop := fedS l.length l cs
theorem fedS_fuel : ∀ (m n : Nat) (l : List UInt8) (cs : List Cel), l.length ≤ m → l.length ≤ n → (fedS m l cs ↔ fedS n l cs)
  | 0, 0, _, _, _, _ => Iff.rfl
  | 0, n + 1, [], _, _, _ => Iff.rfl
  | 0, _ + 1, b :: r, _, h, _ => absurd h (by simp)
  | _ + 1, 0, [], _, _, _ => Iff.rfl
  | _ + 1, 0, b :: r, _, _, h => absurd h (by simp)
  | m + 1, n + 1, [], _, _, _ => Iff.rfl
  | m + 1, n + 1, b :: r, cs, h1, h2 => by
    have g1 : r.length ≤ m := by simpa using h1
    have g2 : r.length ≤ n := by simpa using h2
    unfold fedS
    split
    · split
      · exact Iff.rfl
      · rename_i d k _
        rw [fedS_fuel m n (r.drop k) _ (by simp; omega) (by simp; omega)]
    · rw [fedS_fuel m n r cs g1 g2]
theorem fed_other {b : UInt8} (h : b.toNat ≠ 37) (r : List UInt8) (cs : List Cel) : Fed (b :: r) cs ↔ Fed r cs := by
  unfold Fed
  show (if b.toNat = 37 then _ else _) ↔ _
  rw [if_neg h]
theorem fed_some {r : List UInt8} {d : Dir} {k : Nat} (h : readS r = some (d, k)) (cs : List Cel) {b : UInt8} (hb : b.toNat = 37) : Fed (b :: r) cs ↔ FedD d cs ∧ Fed (r.drop k) (dirC d cs) := by
  unfold Fed
  show (if b.toNat = 37 then _ else _) ↔ _
  rw [if_pos hb, h]
  dsimp only
  rw [fedS_fuel r.length (r.drop k).length (r.drop k) _ (by simp) (Nat.le_refl _)]
theorem fed_plain : ∀ (P rest : List UInt8) (cs : List Cel), NoPct P → (Fed (P ++ rest) cs ↔ Fed rest cs)
  | [], _, _, _ => Iff.rfl
  | b :: P, rest, cs, h => by
    rw [List.cons_append, fed_other (h b (by simp)), fed_plain P rest cs (fun x hx => h x (by simp [hx]))]
theorem fed_all : ∀ (n : Nat) (l : List UInt8) (cs : List Cel), AllOk cs → fedS n l cs
  | 0, _, _, _ => trivial
  | _ + 1, [], _, _ => trivial
  | n + 1, b :: r, cs, h' => by
    unfold fedS
    split
    · split
      · trivial
      · rename_i d k _
        exact ⟨⟨fun _ => h'.hd, fun _ => (h'.fill _).hd, fun _ => ((h'.fill _).fill _).hd⟩, fed_all n (r.drop k) (dirC d cs) (h'.dir d)⟩
    · exact fed_all n r cs h'
theorem Fed.all {cs : List Cel} (h : AllOk cs) (l : List UInt8) : Fed l cs := fed_all _ l cs h

theorem BOk.but {B b : Nat} {l : List UInt8} {w w' : World} {P : Nat → Prop} (h : BOk B b l w) (hb : But P w w') (h1 : ¬ P b) (h2 : ∀ g, P g → ∀ c fz, w.heap[g]? ≠ some (.cells c 5 fz)) : BOk B b l w' := by
  have key : ∀ p, Lib.BuilderAtF 53 5 B b p (Lib.byteCells l) w → Lib.BuilderAtF 53 5 B b p (Lib.byteCells l) w' := by
    rintro p ⟨hB, v, hrow, hown, hne⟩
    refine ⟨hB, v, ?_, ⟨hown.1, ?_⟩, hne⟩
    · rw [hb.block b (Array.getElem?_eq_some_iff.1 hrow).1 h1]
      exact hrow
    · rcases hown.2 with h0 | ⟨g, cap, cur, fz, hv, hg, hgg, rest⟩
      · exact Or.inl h0
      · refine Or.inr ⟨g, cap, cur, fz, hv, hg, ?_, rest⟩
        rw [hb.block g (Array.getElem?_eq_some_iff.1 hgg).1 (fun hp => h2 g hp _ _ hgg)]
        exact hgg
  refine ⟨?_, Nat.le_trans h.le hb.size⟩
  rcases h.is with h3 | h3
  · exact Or.inl (key _ h3)
  · exact Or.inr (key _ h3)
theorem Left.wrote {w w' : World} {B L b : Nat} {l : List Cel} {m : List UInt8} (h : Left w B L l) (hb : b ≠ L) (hw : Wrote B b m w w') : Left w' B L l := by
  obtain ⟨p, n, cap, h⟩ := h
  refine ⟨p, n, cap, hw.others L _ h.row (fun e => hb (Option.some.inj e).symm) (fun c fz e => ?_), ⟨h.at_.len, h.at_.room, h.at_.bound, h.at_.nil, ?_⟩, h.low, h.base⟩
  · injection e with _ e2 _
    exact absurd e2 (by decide)
  · rcases h.at_.cells with h0 | ⟨bb, off, hp, hc⟩
    · exact Or.inl h0
    · refine Or.inr ⟨bb, off, hp, fun i c hi => ?_⟩
      have hlow : bb < B := h.low _ hp
      have key : ∀ (o : Nat) (v : Value), w.cell? ⟨bb, o, none⟩ = some v → w'.cell? ⟨bb, o, none⟩ = some v := fun o v hv => by
        rw [hw.below.cell (p := ⟨bb, o, none⟩) hlow]; exact hv
      obtain ⟨h1, h2, h3⟩ := hc i c hi
      exact ⟨key _ _ h1, key _ _ h2, key _ _ h3⟩
theorem Left.kind {w : World} {B L : Nat} {l : List Cel} (h : Left w B L l) : ∀ g, g = L → ∀ c fz, w.heap[g]? ≠ some (.cells c 5 fz) := by
  obtain ⟨p, n, cap, h⟩ := h
  intro g hg c fz e
  rw [hg, h.row] at e
  injection e with e
  injection e with _ e2 _
  exact absurd e2 (by decide)
end Go.Proofs.YtfhnbpilbbbckaaDoor

/- An operation of a drawn region taken first. -/
namespace Go.Proofs.YtfhnbpilbbbckaaDoor
open Go.RowKit

section
variable {P : Program} {ops : Array Oper} {Q : Exit → Act → World → Prop} {md : Region.Mode} {S : World → Prop}
/-- An operation of a drawn region that its guard wants, taken first. -/
theorem takeF {i d : Nat} {oi : Oper} {v : Value} {fuel : Nat} {listed : Array Bool} {a : Act} {w : World} (hi : ops[i]? = some oi) (hd : oi.dst = some d)
    (hs : Region.noSelect ops = true) (hf : Region.free md ops listed i = true) (hr : (Region.ready md ops listed).contains i = true)
    (hQ : ∀ c a w, Q (.panic c) (a.put (some d) v) w → Q (.panic c) a w) (hw : Region.wanted oi (yielded ops a.tmps) = true) (hx : ∀ w, S w → (execOp a.eval oi).run P w = .ok (.value v) w) (hS : S w)
    (h : wpAnyH P md ops Q S fuel (listed.setIfInBounds i true) ⟨a.tmps.setIfInBounds d v, a.defers⟩ w) : wpAnyH P md ops Q S (fuel + 1) listed a w :=
  wpAnyH_take hi hs hf hr (by rw [hd]; exact hQ) (Or.inl ⟨hw, hx⟩) hS (by rw [hd]; exact h)
end
end Go.Proofs.YtfhnbpilbbbckaaDoor
