/- Merged by program: Can, Build, E5Joined. -/
import Derived.Laws.Externs
import Derived.Lib.FrozenHead2
import Derived.Test.YtimipfdknfdbdaaGreatQsaf
import Derived.Test.YtimipfdknfdbdaaGreatQsab
import Derived.Test.YtimipfdknfdbdaaGreatQsaa
/- Trees that can be; ere.canLie, ere.Can at these: walks. -/
namespace Go.Proofs.YtimipfdknfdbdaaGreat
open Go.RowKit

/-- What a tree's own cells must be, within one of a kind. -/
structure FitT (within : Int) (t : Tree) : Prop where
  fits : Fits t.f
  k0 : 0 ≤ t.k
  k6 : t.k ≤ 6
  set : t.k ≠ 1 → ∀ i, i < 4 → t.f i = 0
  times : t.k ≠ 6 → t.lo = 0 ∧ t.hi = 0
  alone : t.k < 4 → t.kids = []
  empty : t.k = 0 → within ≠ 4
  parts : t.k = 4 ∨ t.k = 5 → t.k ≠ within ∧ 2 ≤ t.kids.length
  rep : t.k = 6 → t.kids.length = 1 ∧ 0 ≤ t.lo ∧ t.lo ≤ 50 ∧ (t.hi = -1 ∨ (t.lo ≤ t.hi ∧ t.hi ≤ 50))
  few : t.kids.length ≤ 1000000

/-- A tree that can be, of at most so many storeys. -/
def Good : Nat → Int → Tree → Prop
  | 0, _, _ => False
  | n + 1, within, t => FitT within t ∧ ∀ c, c ∈ t.kids → Good n t.k c

theorem Good.fit {n : Nat} {within : Int} {t : Tree} (h : Good n within t) : FitT within t := by
  cases n with
  | zero => exact h.elim
  | succ n => exact h.1

theorem isFit_spec (within : Int) (t : Tree) (cs : Array Value) (B : Nat → Prop) (w : World) (h : At w B t cs) (hf : FitT within t) (hk : ∀ c, c ∈ t.kids → FitT t.k c) :
    Calls Tryz.prog 52 #[.agg cs] w fun e w' => e = .returned (.bool true) ∧ Below w.heap.size w w' := by
  obtain ⟨sl, rfl, hsl⟩ := h.open
  by_cases h1 : t.k = 1
  · have hs := hf.alone (by omega)
    obtain ⟨e1, e2⟩ := hf.times (by omega)
    rw [hs] at hsl
    rcases hsl with ⟨_, a, c, rfl⟩ | ⟨hl, _⟩
    · rw [h1, e1, e2]; exact fit_set t.f a c w
    · exact absurd rfl hl
  · rw [reC_congr t.k t.lo t.hi sl (g := zero4) (hf.set h1)]
    by_cases h6 : t.k = 6
    · obtain ⟨e1, e2, e3, e4⟩ := hf.rep h6
      rcases hsl with ⟨hl, _⟩ | ⟨hl, b, off, c, _, rfl, _⟩
      · rw [hl] at e1; exact absurd e1 (by decide)
      · rw [h6, e1]; exact fit_rep t.lo t.hi e2 e3 e4 _ _ w
    · obtain ⟨e1, e2⟩ := hf.times h6
      rw [e1, e2]
      by_cases h4 : t.k = 4
      · rw [h4]
        refine fit_cat t.kids sl B w hsl (hf.parts (Or.inl h4)).2 hf.few fun c hc => ?_
        have hc' := hk c hc
        rw [h4] at hc'
        have n4 : c.k ≠ 4 := fun e => (hc'.parts (Or.inl e)).1 e
        have n0 : c.k ≠ 0 := fun e => hc'.empty e rfl
        simp [among, n4, n0]
      · by_cases h5 : t.k = 5
        · rw [h5]
          refine fit_alt t.kids sl B w hsl (hf.parts (Or.inr h5)).2 hf.few fun c hc => ?_
          have hc' := hk c hc
          rw [h5] at hc'
          have n5 : c.k ≠ 5 := fun e => (hc'.parts (Or.inr e)).1 e
          simp [among, n5]
        · have hk0 := hf.k0
          have hk6 := hf.k6
          have hs := hf.alone (by omega)
          rw [hs] at hsl
          rcases hsl with ⟨_, a, c, rfl⟩ | ⟨hl, _⟩
          · exact fit_small t.k (by omega) a c w
          · exact absurd rfl hl

set_option maxRecDepth 100000 in
theorem canLie_spec (n : Nat) : ∀ (within : Int) (t : Tree) (cs : Array Value) (B : Nat → Prop) (deep : Nat) (w : World), At w B t cs → Good n within t → deep + n ≤ 101 →
    Calls Tryz.prog 35 #[.agg cs, .int .i64 deep] w fun e w' => e = .returned (.bool true) ∧ Below w.heap.size w w' := by
  induction n with
  | zero => intro within t cs B deep w _ hg _; exact hg.elim
  | succ n ih =>
    intro within t cs B deep w h hg hd
    have HT := Lib.hid h
    have HF := Lib.hid fun (w : World) (h : At w B t cs) => isFit_spec within t cs B w h hg.1 fun c hc => (hg.2 c hc).fit
    obtain ⟨sl, rfl, hsl⟩ := h.open
    have HI := Lib.hid ih; clear ih
    have HG := Lib.hid hg.2
    have hfew := hg.1.few
    have hdeep : deep ≤ 100 := by omega
    have hsh := hsl.shape
    clear hg
    go_enter Tryz.func35, Tryz.ntmps35
    go_upto_region 1 with (fail)
    obtain ⟨W, hW, hX, hB, _⟩ := re_box w (reC t.k t.f t.lo t.hi sl)
    rw [← hW]
    clear hW
    obtain ⟨c0, c1, c2, c3, c4, c5, c6, c7⟩ := eight_re hX.out.eight
    have HF1 := Lib.hid (HF.out W (HT.out.after hB.out))
    have hs1 := Lib.hid (hsl.after hB.out)
    clear hsl
    go_wp2_with fail
    refine HF1.out.mono ?_
    rintro e w1 ⟨rfl, b1⟩
    have X1 := Lib.hid (hX.out.after b1)
    have S1 := Lib.hid (hs1.out.after b1)
    have B1 := Lib.hid (Below.step hB.out b1)
    clear b1 c0 c1 c2 c3 c4 c5 c6 c7
    obtain ⟨c0, c1, c2, c3, c4, c5, c6, c7⟩ := eight_re X1.out.eight
    obtain ⟨a, c, rfl⟩ := hsh
    go_wp2_with fail
    go_loopw [17] (fun y wr => ∃ i : Nat, y = .int .i64 i ∧ i ≤ t.kids.length ∧ Hid (Below w1.heap.size w1 wr)) (fun y _ => t.kids.length - (intOf y).toNat)
    case atStart => exact ⟨0, rfl, by omega, Lib.hid (Below.refl _ _)⟩
    case round =>
      obtain ⟨i, rfl, hi, hb⟩ := hrel
      clear c0 c1 c2 c3 c4 c5 c6 c7
      by_cases hgo : i < t.kids.length
      · rcases S1.out with ⟨e, _⟩ | ⟨hl, b, off, c', cs, e, hc, hBb, h8, hat⟩
        · rw [e] at hgo; exact absurd hgo (by simp)
        · simp only [Value.slice.injEq] at e
          obtain ⟨rfl, _, rfl⟩ := e
          have hT := hat i hgo
          have hT' := hT.after hb.out
          obtain ⟨ai, ci, e, _⟩ := hT.opens
          have h8i := (h8 i hgo).after hT.size hb.out
          rw [e] at h8i hT'
          obtain ⟨c0, c1, c2, c3, c4, c5, c6, c7⟩ := eight_re h8i
          have hT2 := hT'.after (below_new wr (.cells (reC t.kids[i].k t.kids[i].f t.kids[i].lo t.kids[i].hi (.slice ai t.kids[i].kids.length ci)) 38))
          have HC := Lib.hid (HI.out t.k t.kids[i] _ B (deep + 1) _ hT2 (HG.out _ (List.getElem_mem hgo)) (by omega))
          have BX := Lib.hid (Below.step hb.out (below_new wr (.cells (reC t.kids[i].k t.kids[i].f t.kids[i].lo t.kids[i].hi (.slice ai t.kids[i].kids.length ci)) 38)))
          clear h8i e hT hT' hT2 h8 hat
          go_upto_region 6 with (fail)
          obtain ⟨V, hV, hY, _, _⟩ := re_box wr (reC t.kids[i].k t.kids[i].f t.kids[i].lo t.kids[i].hi (.slice ai t.kids[i].kids.length ci))
          change Code.wp _ _ _ _ (wr.alloc (Obj.cells (reC t.kids[i].k t.kids[i].f t.kids[i].lo t.kids[i].hi (.slice ai t.kids[i].kids.length ci)) 38))
          rw [← hV]
          rw [← hV] at HC BX
          clear hV c0 c1 c2 c3 c4 c5 c6 c7
          obtain ⟨c0, c1, c2, c3, c4, c5, c6, c7⟩ := eight_re hY.out.eight
          go_wp2_with fail
          refine HC.out.mono ?_
          rintro e w2 ⟨rfl, b2⟩
          have B2 := Lib.hid (Below.step BX.out b2)
          clear b2
          go_wp2_with fail
          go_roundw
          case rel => exact ⟨i + 1, by go_num, by omega, B2⟩
          case measure => simp [intOf]; omega
      · have hi' : i = t.kids.length := by omega
        subst hi'
        go_wp2_with fail
        go_ret
        exact ⟨rfl, Below.step B1.out hb.out⟩

set_option maxRecDepth 100000 in
theorem can_spec (t : Tree) (cs : Array Value) (B : Nat → Prop) (w : World) (h : At w B t cs) (hg : Good 100 (-1) t) :
    Calls Tryz.prog 19 #[.agg cs] w fun e w' => e = .returned (.bool true) ∧ Below w.heap.size w w' := by
  obtain ⟨W, hW, hX, hB, _⟩ := re_box w cs
  have HC := Lib.hid (canLie_spec 100 (-1) t cs B 0 W (h.after hB.out) hg (by omega))
  obtain ⟨a, c, rfl, _⟩ := h.opens
  clear h hg
  go_enter Tryz.func19, Tryz.ntmps19
  go_upto_region 1 with (fail)
  rw [← hW]
  clear hW
  obtain ⟨c0, c1, c2, c3, c4, c5, c6, c7⟩ := eight_re hX.out.eight
  go_wp2_with fail
  refine HC.out.mono ?_
  rintro e w1 ⟨rfl, b1⟩
  have B1 := Lib.hid (Below.step hB.out b1)
  clear b1
  go_wp2_with fail
  go_ret
  exact ⟨rfl, B1.out⟩
end Go.Proofs.YtimipfdknfdbdaaGreat

/- strings.Builder's copyCheck and WriteByte: walks (the dump's copyCheck has no panic's text: the shelf's laying does not fit). -/
namespace Go.Proofs.YtimipfdknfdbdaaGreat
open Go.RowKit

theorem info_builder : (Tryz.prog.info? 75).map (·.size) = some 2 := by kernel_rfl
theorem lies_builder : liesAt Tryz.prog Tryz.prog.depth 75 (2 / Tryz.prog.cellsOf 75) 0 75 1 = true := by kernel_rfl
theorem info_byte : (Tryz.prog.info? 5).map (fun i => (i.zero, i.size, i.bytes)) = some (some (.int .u8 0), 1, 1) := by kernel_rfl

set_option maxHeartbeats 1000000 in
set_option maxRecDepth 100000 in
theorem copy_used (b : Nat) (w : World) (h0 : w.cell? ⟨b, 0, none⟩ = some (.pointer (some ⟨b, 0, none⟩))) :
    Calls Tryz.prog 43 #[.pointer (some ⟨b, 0, none⟩)] w fun e w' => e = .returned (.tuple #[]) ∧ w' = w := by
  obtain ⟨j, hj, _⟩ := Option.map_eq_some_iff.1 info_builder
  go_enter Tryz.func43, Tryz.ntmps43
  go_wp2
  rw [Lib.run_neq_ptr_same w _ Tryz.underlying72 hj]
  go_wp2
  go_end0
  exact ⟨rfl, rfl⟩

set_option maxHeartbeats 1000000 in
set_option maxRecDepth 100000 in
theorem copy_fresh (b : Nat) (w : World) (h0 : w.cell? ⟨b, 0, none⟩ = some (.pointer none)) (hsh : w.shape? b = some (75, 2)) (hfz : w.frozen? ⟨b, 0, none⟩ = false) :
    Calls Tryz.prog 43 #[.pointer (some ⟨b, 0, none⟩)] w fun e w' => e = .returned (.tuple #[]) ∧ w' = w.setCell ⟨b, 0, none⟩ (.pointer (some ⟨b, 0, none⟩)) := by
  obtain ⟨j, hj, hjs⟩ := Option.map_eq_some_iff.1 info_builder
  go_enter Tryz.func43, Tryz.ntmps43
  go_wp2
  rw [Lib.run_to_unsafe w ⟨b, 0, none⟩ Tryz.underlying72 Tryz.underlying106 hj (by rw [hjs]; decide) hsh (Nat.zero_lt_succ 1)]
  simp only [Result.andThen]
  rw [Oper.upon_value]
  go_wp2
  rw [run_callFunc_extern Tryz.func55 (by kernel_rfl) (by kernel_rfl) (by kernel_rfl) (e := Extern.AbiNoEscape.same) (by kernel_rfl)]
  rw [Lib.run_noEscape]
  simp only [Result.andThen]
  rw [Oper.upon_value]
  go_wp2
  rw [Lib.run_from_unsafe w ⟨b, 0, none⟩ Tryz.underlying106 Tryz.underlying72 hj hsh lies_builder]
  simp only [Result.andThen]
  rw [Oper.upon_value]
  go_wp2
  go_end0
  exact ⟨rfl, rfl⟩

theorem copyCheck_k (B b : Nat) (bs : List Value) (w : World) (h : Lib.IsBuilderF 75 5 B b bs w) :
    Calls Tryz.prog 43 #[.pointer (some ⟨b, 0, none⟩)] w fun e w' => e = .returned (.tuple #[]) ∧ (Lib.BuilderAtF 75 5 B b (.pointer (some ⟨b, 0, none⟩)) bs w' ∧ Below B w w' ∧ Lib.OthersKept 5 (some b) w w') := by
  rcases h with h | h
  · refine (copy_fresh b w h.cell0 h.shape h.frozen0).mono ?_
    rintro e w' ⟨rfl, rfl⟩
    exact ⟨rfl, h.used _, (Below.refl B w).setCell (p := ⟨b, 0, none⟩) h.1 _, (Lib.OthersKept.refl _ _ w).setCell ⟨b, 0, none⟩ rfl _⟩
  · refine (copy_used b w h.cell0).mono ?_
    rintro e w' ⟨rfl, rfl⟩
    exact ⟨rfl, h, Below.refl B _, Lib.OthersKept.refl _ _ _⟩

set_option maxHeartbeats 2000000 in
set_option maxRecDepth 100000 in
theorem writeByte_k (B b : Nat) (bs : List Value) (c : Int) (w : World) (h : Lib.IsBuilderF 75 5 B b bs w) (hlen : bs.length + 1 ≤ 140737488355328) (hBw : B ≤ w.heap.size) :
    Calls Tryz.prog 42 #[.pointer (some ⟨b, 0, none⟩), .int .u8 c] w fun e w' => e = .returned .nilIface ∧ (Lib.BuilderAtF 75 5 B b (.pointer (some ⟨b, 0, none⟩)) (bs ++ [.int .u8 c]) w' ∧ Below B w w' ∧ Lib.OthersKept 5 (some b) w w') := by
  obtain ⟨i0, hi, hz0, hz1, hz2⟩ := info_parts info_byte
  go_enter Tryz.func42, Tryz.ntmps42
  go_wp2_with (go_at_call 43; refine (copyCheck_k B b bs _ h).mono ?_)
  rintro e w1 ⟨rfl, h1, hb1, hk1⟩
  obtain ⟨hB, v, hbk, hown, hne⟩ := h1
  have c0 : w1.cell? ⟨b, 0, none⟩ = some (.pointer (some ⟨b, 0, none⟩)) := by rw [Lib.cell_of_heap hbk]; rfl
  have c1 : w1.cell? ⟨b, 1, none⟩ = some v := by rw [Lib.cell_of_heap hbk]; rfl
  go_wp2_with (at_builtin; refine wpList_append_ownF _ rfl _ _ 73 rfl B 5 i0 (.int .u8 0) 1 1 Tryz.underlying73 hi hz0 hz1 hz2 rfl (by decide) _ _ _ rfl (hown.alloc _) ⟨w1.heap.size, 0, none⟩ 1 1 [.int .u8 c] rfl rfl ?c1 ?c2 ?c3 ?c4 ?c5 ?_)
  case c1 =>
    intro j u hj
    match j, hj with
    | 0, hj => simp at hj; subst hj; simp [Addr.add]
  case c2 => intro u hu; simp at hu; subst hu; rfl
  case c3 => unfold maxLen; omega
  case c4 => omega
  case c5 => have := hb1.size; simp; omega
  intro v' w2 hown' hgrow _
  have hlt : b < w1.heap.size := by
    rcases Nat.lt_or_ge b w1.heap.size with h' | h'
    · exact h'
    · simp [Array.getElem?_eq_none h'] at hbk
  have hb2 : w2.heap[b]? = some (.cells #[.pointer (some ⟨b, 0, none⟩), v] 75 (0, 0)) := by
    rw [hgrow.block b (by simp; omega) (fun e => hne e.symm), Lib.alloc_old w1 _ b hlt]
    exact hbk
  have d0 : w2.cell? ⟨b, 0, none⟩ = some (.pointer (some ⟨b, 0, none⟩)) := by rw [Lib.cell_of_heap hb2]; rfl
  have d1 : w2.cell? ⟨b, 1, none⟩ = some v := by rw [Lib.cell_of_heap hb2]; rfl
  have f1 : w2.frozen? ⟨b, 1, none⟩ = false := Lib.frozen_of_heap hb2 1
  obtain ⟨g, cap, rfl⟩ : ∃ g cap, v' = .slice (some ⟨g, 0, none⟩) (bs.length + 1) cap := by
    rcases hown'.2 with ⟨_, h0⟩ | ⟨g, cap, cur, fz, hv, _⟩
    · omega
    · exact ⟨g, cap, hv⟩
  go_wp2
  go_ret
  refine ⟨rfl, ?_, ?_, ((hk1.alloc _).grown hgrow (Lib.ownsRowF_kind (hown.alloc _))).setCell ⟨b, 1, none⟩ rfl _⟩
  · exact Lib.BuilderAtF.put (T := 75) (e := 5) hB hb2 (bs' := bs ++ [.int .u8 c]) (by simpa using hown') (by decide)
  · exact ((hb1.alloc (by have := hb1.size; omega) _).grown hgrow (by have := hb1.size; simp; omega) (fun k hk => (hown.lt k hk).1)).setCell (p := ⟨b, 1, none⟩) hB _
end Go.Proofs.YtimipfdknfdbdaaGreat

/- ere.joined at parts none of which is of that kind, or dropped: walks. -/
namespace Go.Proofs.YtimipfdknfdbdaaGreat.E5
open Go.Proofs.YtimipfdknfdbdaaGreat Go.Proofs
open Go.RowKit

def emptyT : Tree := .mk 0 zero4 0 0 []
def joinT (kind : Int) : List Tree → Tree
  | [] => emptyT
  | [t] => t
  | t :: u :: r => .mk kind zero4 0 0 (t :: u :: r)

theorem info_re3 : (Tryz.prog.info? 38).map (fun i => (i.zero, i.size, i.bytes)) = some (some (.agg #[.int .i64 0, .int .u64 0, .int .u64 0, .int .u64 0, .int .u64 0, .int .i64 0, .int .i64 0, .slice none 0 0]), 8, 80) := by kernel_rfl

theorem owns_after {w w' : World} {base : Nat} {e : TypeId} {size : Nat} {v : Value} {n : Nat} {xs : List Value} (h : w.ownsRow base e size v n xs) (hb : Below w.heap.size w w') : w'.ownsRow base e size v n xs :=
  h.kept (row := none) ⟨hb.os, hb.tape, hb.output, hb.size, fun k hk _ => hb.block k hk⟩ (by cases v.ownBlock <;> simp)

/-- The cells of the first so many parts. -/
def flatC (cs : Nat → Array Value) (n : Nat) : List Value := (List.range n).flatMap fun j => (cs j).toList
theorem flatC_succ (cs : Nat → Array Value) (n : Nat) : flatC cs (n + 1) = flatC cs n ++ (cs n).toList := by
  unfold flatC
  rw [List.range_succ, List.flatMap_append]
  simp
theorem flatC_len (cs : Nat → Array Value) (n : Nat) (h : ∀ j, j < n → (cs j).size = 8) : (flatC cs n).length = n * 8 := by
  induction n with
  | zero => rfl
  | succ n ih =>
    rw [flatC_succ, List.length_append, ih fun j hj => h j (by omega)]
    have := h n (by omega)
    simp only [Array.length_toList, this]
    omega
theorem flatC_get (cs : Nat → Array Value) (n : Nat) (h : ∀ j, j < n → (cs j).size = 8) (i : Nat) (hi : i < n) (j : Nat) (hj : j < 8) : (flatC cs n)[i * 8 + j]? = (cs i)[j]? := by
  induction n with
  | zero => omega
  | succ n ih =>
    rw [flatC_succ]
    have hl := flatC_len cs n fun j hj => h j (by omega)
    by_cases e : i < n
    · rw [List.getElem?_append_left (by omega)]
      exact ih (fun j hj => h j (by omega)) e
    · obtain rfl : i = n := by omega
      rw [List.getElem?_append_right (by omega), hl]
      simp
/-- A slice that the call owns, of trees' cells. -/
theorem owns_eight {w : World} {base g n cap : Nat} {cs : Nat → Array Value} (h : w.ownsRow base 38 8 (.slice (some ⟨g, 0, none⟩) n cap) n (flatC cs n)) (hc : ∀ j, j < n → (cs j).size = 8) (i : Nat) (hi : i < n) : Eight w g (0 + i * 8) (cs i) := by
  intro j hj
  rw [Nat.zero_add, h.cellAt (i * 8 + j) (by omega)]
  exact flatC_get cs n hc i hi j hj

set_option maxRecDepth 100000 in
theorem joined_none (kind : Int) (a : Option Addr) (c : Nat) (dv : Value) (w : World) :
    Calls Tryz.prog 34 #[.int .i64 kind, .slice a 0 c, dv] w fun e w' => e = .returned (.agg zeroR) ∧ Below w.heap.size w w' := by
  have HI := info_re
  go_enter Tryz.func34, Tryz.ntmps34
  go_upto_region 1 with (fail)
  obtain ⟨W, hW, hX, hB, hsz⟩ := re_box w zeroR
  change Code.wp _ _ _ _ (w.alloc (Obj.cells zeroR 38))
  rw [← hW]
  clear hW
  go_wp2_with fail
  refine wp_loop_rounds 1 ?_
  rw [rounds_succ]
  go_wp2_with (refine wpList_store_row rfl 38 (.tmp 6) (.tmp 39) rfl w.heap.size zeroR rfl rfl 38 zeroR hX.out.row HI rfl (re_one _ _ _ _ _ _ _) ?_)
  refine bodyPost_ret (v := .agg zeroR) (results_cell_row (by rfl) _ _ w.heap.size 38 _ (0, 0) _ (by rfl) (hX.out.setRow _).row Tryz.underlying38 (by rfl) HI) rfl ⟨rfl, ?_⟩
  exact below_setRow hB.out (Nat.le_refl _) _

set_option maxRecDepth 100000 in
theorem joined_some (kind : Int) (l : List Tree) (b off c : Nat) (cs : Nat → Array Value) (S : Nat → Prop) (dv : Value) (ks : List Int) (w : World) (hl : 0 < l.length) (hlen : l.length ≤ 400)
    (h8 : ∀ i, i < l.length → Eight w b (off + i * 8) (cs i)) (hat : ∀ i (h : i < l.length), At w S l[i] (cs i)) (hk : ∀ t, t ∈ l → t.k ≠ kind) (hd : NoneOf ks l) (hv : IntsAt w dv ks) :
    Calls Tryz.prog 34 #[.int .i64 kind, .slice (some ⟨b, off, none⟩) l.length c, dv] w fun e w' =>
      ∃ ds, e = .returned (.agg ds) ∧ At w' (fun k => S k ∨ w.heap.size ≤ k) (joinT kind l) ds ∧ Below w.heap.size w w' := by
  have HI := info_re
  have HK := Lib.hid hk
  have HDr := Lib.hid hd
  have HV := Lib.hid hv
  have H8 := Lib.hid h8
  have HAT := Lib.hid hat
  have hsz8 : ∀ j, j < l.length → (cs j).size = 8 := fun j hj => (hat j hj).size
  have HS8 := Lib.hid hsz8
  have hbl : b < w.heap.size := (h8 0 hl).lt (hsz8 0 hl)
  clear hk hd hv h8 hat hsz8
  go_enter Tryz.func34, Tryz.ntmps34
  go_upto_region 1 with (fail)
  obtain ⟨W, hW, hX, hB, hsz⟩ := re_box w zeroR
  change Code.wp _ _ _ _ (w.alloc (Obj.cells zeroR 38))
  rw [← hW]
  clear hW
  go_wp2_with fail
  go_loopw [7, 12] (fun lv y wr => ∃ i : Nat, y = .int .i64 i ∧ i ≤ l.length ∧ Hid (wr.ownsRow (w.heap.size + 1) 38 8 lv i (flatC cs i)) ∧ Hid (Below w.heap.size w wr) ∧ Hid (Box wr w.heap.size zeroR)) (fun _ y _ => l.length - (intOf y).toNat)
  case atStart => exact ⟨0, rfl, by omega, Lib.hid (World.ownsRow_nil _ _ _ _), hB, hX⟩
  case round =>
    obtain ⟨i, rfl, hi, hown, hb, hx⟩ := hrel
    by_cases hgo : i < l.length
    · obtain ⟨ai, ci, e, _⟩ := (HAT.out i hgo).opens
      have h8i := (H8.out i hgo).keep (hb.out.block b hbl)
      have hki := HK.out l[i] (List.getElem_mem hgo)
      have hdi := HDr.out l[i] (List.getElem_mem hgo)
      obtain ⟨k0, f0, lo0, hi0, n0, e'⟩ : ∃ k0 f0 lo0 hi0 n0, cs i = reC k0 f0 lo0 hi0 (.slice ai n0 ci) ∧ k0 = l[i].k := ⟨_, _, _, _, _, e, rfl⟩
      rw [← e'.2] at hki hdi
      rw [e'.1] at h8i
      have EC := Lib.hid e'.1
      clear e e'
      have hko : among [kind] k0 = false := by simp [among, hki]
      obtain ⟨c0, c1, c2, c3, c4, c5, c6, c7⟩ := eight_re h8i
      clear h8i hki
      go_upto_region 5 with (fail)
      obtain ⟨V, hV, hY, hBV, hszV⟩ := re_box wr (reC k0 f0 lo0 hi0 (.slice ai n0 ci))
      change Code.wp _ _ _ _ (wr.alloc (Obj.cells (reC k0 f0 lo0 hi0 (.slice ai n0 ci)) 38))
      rw [← hV]
      clear hV c0 c1 c2 c3 c4 c5 c6 c7
      have own1 := Lib.hid (owns_after hown.out hBV.out)
      have hb1 := Lib.hid (Below.step hb.out hBV.out)
      have hx1 := Lib.hid (hx.out.after hBV.out)
      obtain ⟨c0, c1, c2, c3, c4, c5, c6, c7⟩ := eight_re hY.out.eight
      have bK := below_new V (.cells #[.int .i64 kind] 3)
      have HO := Lib.hid (isOf_spec k0 f0 lo0 hi0 (.slice ai n0 ci) (.slice (some ⟨V.heap.size, 0, none⟩) 1 1) [kind] (V.alloc (.cells #[.int .i64 kind] 3)) (Or.inr ⟨_, _, rfl, by simp, heap_alloc_last V _⟩))
      rw [hko] at HO
      clear hko
      have own2 := Lib.hid (owns_after own1.out bK)
      have hb2 := Lib.hid (Below.step hb1.out bK)
      have hx2 := Lib.hid (hx1.out.after bK)
      have hY2 := Lib.hid (hY.out.after bK)
      clear bK
      go_wp2_with fail
      refine HO.out.mono ?_
      rintro e w2 ⟨rfl, b2⟩
      have own3 := Lib.hid (owns_after own2.out b2)
      have hb3 := Lib.hid (Below.step hb2.out b2)
      have hx3 := Lib.hid (hx2.out.after b2)
      have hY3 := Lib.hid (hY2.out.after b2)
      clear b2 c0 c1 c2 c3 c4 c5 c6 c7
      obtain ⟨c0, c1, c2, c3, c4, c5, c6, c7⟩ := eight_re hY3.out.eight
      have HO2 := Lib.hid (isOf_spec k0 f0 lo0 hi0 (.slice ai n0 ci) dv ks w2 (HV.out.after hb3.out))
      rw [hdi] at HO2
      clear hdi
      go_wp2_with fail
      refine HO2.out.mono ?_
      rintro e w3 ⟨rfl, b3⟩
      have own4 := Lib.hid (owns_after own3.out b3)
      have hb4 := Lib.hid (Below.step hb3.out b3)
      have hx4 := Lib.hid (hx3.out.after b3)
      have hY4 := Lib.hid (hY3.out.after b3)
      clear b3 c0 c1 c2 c3 c4 c5 c6 c7
      obtain ⟨c0, c1, c2, c3, c4, c5, c6, c7⟩ := eight_re hY4.out.eight
      have own5 := owns_after own4.out (below_new w3 (.cells (reC k0 f0 lo0 hi0 (.slice ai n0 ci)) 38))
      have hsz5 : (w3.alloc (.cells (reC k0 f0 lo0 hi0 (.slice ai n0 ci)) 38)).heap.size = w3.heap.size + 1 := World.size_alloc _ _
      have hge := hb4.out.size
      have row5 : (w3.alloc (.cells (reC k0 f0 lo0 hi0 (.slice ai n0 ci)) 38)).heap[w3.heap.size]? = some (.cells (reC k0 f0 lo0 hi0 (.slice ai n0 ci)) 38 (0, 0)) := heap_alloc_last w3 _
      obtain ⟨i0, hi0', hz0, hz1, hz2⟩ := info_parts info_re3
      have O5 := Lib.hid own5
      have R5 := Lib.hid row5
      clear own5 row5
      go_wp2_with (at_builtin; refine wpList_append_own _ rfl _ _ 36 rfl (w.heap.size + 1) 38 i0 (.agg #[.int .i64 0, .int .u64 0, .int .u64 0, .int .u64 0, .int .u64 0, .int .i64 0, .int .i64 0, .slice none 0 0]) 8 80 Tryz.underlying36 hi0' hz0 hz1 hz2 rfl (by decide) _ _ _ rfl O5.out ⟨w3.heap.size, 0, none⟩ 1 1 (reC k0 f0 lo0 hi0 (.slice ai n0 ci)).toList rfl rfl ?c1 ?c2 ?c3 ?c4 ?c5 ?_)
      case c1 =>
        intro j u hj
        have e : (⟨w3.heap.size, 0, none⟩ : Addr).add j = ⟨w3.heap.size, j, none⟩ := by unfold Addr.add; split <;> simp_all
        rw [e]
        exact (cell_of_row _ _ j _ _ _ R5.out).trans (by simpa using hj)
      case c2 =>
        intro u hu
        have h := re_one k0 f0 lo0 hi0 ai n0 ci
        rw [Array.all_eq_true_iff_forall_mem] at h
        exact h u (by simpa using hu)
      case c3 => unfold maxLen; omega
      case c4 => omega
      case c5 => rw [World.size_alloc]; omega
      intro v' w4 hown' hgrow _
      have hgrow' : (w3.alloc (.cells (reC k0 f0 lo0 hi0 (.slice ai n0 ci)) 38)).grownBy w4 _ := hgrow
      have hlt5 := O5.out.lt
      have OW := Lib.hid hown'
      have hx5 := (hx4.out.after (below_new w3 (.cells (reC k0 f0 lo0 hi0 (.slice ai n0 ci)) 38)))
      have hw4 := hgrow'.block w.heap.size (by have := hx5.lt; omega) (fun e => by have := (hlt5 _ e.symm).1; omega)
      have XW : Hid (Box w4 w.heap.size zeroR) := Lib.hid ⟨by rw [hw4]; exact hx5.row⟩
      have BW : Hid (Below w.heap.size w w4) := Lib.hid ((Below.step hb4.out (below_new w3 (.cells (reC k0 f0 lo0 hi0 (.slice ai n0 ci)) 38))).grown hgrow' (by omega) (fun k hk => by have := (hlt5 k hk).1; omega))
      clear hown' hgrow hgrow' hlt5 hx5 hw4
      go_wp2_with fail
      go_roundw
      case rel => exact ⟨i + 1, by go_num, by omega, Lib.hid (by rw [flatC_succ, EC.out]; exact OW.out), BW, XW⟩
      case measure => simp [intOf]; omega
    · obtain rfl : i = l.length := by omega
      have hshape : ∃ nb cap, u7 = Value.slice (some ⟨nb, 0, none⟩) l.length cap ∧ w.heap.size + 1 ≤ nb ∧ l.length ≤ cap := by
        rcases hown.out.2 with ⟨_, h0⟩ | ⟨nb, cap, cur, hv', hb', _, hcap, _⟩
        · omega
        · exact ⟨nb, cap, hv', hb', hcap⟩
      obtain ⟨nb, cap, rfl, hnb, hcap⟩ := hshape
      have h0 : ((l.length : Int) == 0) = false := beq_eq_false_iff_ne.2 (by omega)
      have E8 := Lib.hid (fun i hi => owns_eight hown.out HS8.out i hi)
      by_cases h1 : l.length = 1
      · have hq1 : ((l.length : Int) == 1) = true := beq_iff_eq.2 (by omega)
        obtain ⟨a0, c0, e, _⟩ := (HAT.out 0 hl).opens
        have h80 := E8.out 0 hl
        rw [e] at h80
        rw [show 0 + 0 * 8 = 0 from rfl] at h80
        obtain ⟨d0, d1, d2, d3, d4, d5, d6, d7⟩ := eight_re h80
        have EC := Lib.hid e
        have H1 := Lib.hid h1
        clear e h80 h1
        go_wp2_with (refine wpList_store_row rfl 38 (.tmp 6) (.tmp 44) rfl w.heap.size (reC l[0].k l[0].f l[0].lo l[0].hi (.slice a0 l[0].kids.length c0)) rfl rfl 38 zeroR hx.out.row HI rfl (re_one _ _ _ _ _ _ _) ?_)
        refine bodyPost_ret (v := .agg (reC l[0].k l[0].f l[0].lo l[0].hi (.slice a0 l[0].kids.length c0))) (results_cell_row (by rfl) _ _ w.heap.size 38 _ (0, 0) _ (by rfl) (hx.out.setRow _).row Tryz.underlying38 (by rfl) HI) rfl ⟨_, rfl, ?_, below_setRow hb.out (Nat.le_refl _) _⟩
        have hj : joinT kind l = l[0] := by
          match l, H1.out with
          | [t], _ => rfl
        rw [hj, ← EC.out]
        exact ((HAT.out 0 hl).after (below_setRow hb.out (Nat.le_refl _) _)).weakS fun k hk => Or.inl hk
      · have hq1 : ((l.length : Int) == 1) = false := beq_eq_false_iff_ne.2 (by omega)
        have H1 := Lib.hid h1
        clear h1
        go_wp2_with (refine wpList_store_row rfl 38 (.tmp 6) (.tmp 47) rfl w.heap.size (reC kind zero4 0 0 (.slice (some ⟨nb, 0, none⟩) l.length cap)) rfl rfl 38 zeroR hx.out.row HI rfl (re_one _ _ _ _ _ _ _) ?_)
        refine bodyPost_ret (v := .agg (reC kind zero4 0 0 (.slice (some ⟨nb, 0, none⟩) l.length cap))) (results_cell_row (by rfl) _ _ w.heap.size 38 _ (0, 0) _ (by rfl) (hx.out.setRow _).row Tryz.underlying38 (by rfl) HI) rfl ⟨_, rfl, ?_, below_setRow hb.out (Nat.le_refl _) _⟩
        have hj : joinT kind l = .mk kind zero4 0 0 l := by
          match l, hl, H1.out with
          | [t], _, h => exact absurd rfl h
          | t :: u :: r, _, _ => rfl
        rw [hj]
        refine .node kind zero4 0 0 l nb 0 cap cs (fun e => by rw [e] at hl; exact absurd hl (by simp)) hcap (Or.inr (by omega)) (fun i hi => ?_) (fun i hi => ?_)
        · exact (E8.out i hi).keep (Go.setRow_other _ _ _ _ (by omega))
        · exact ((HAT.out i hi).after (below_setRow hb.out (Nat.le_refl _) _)).weakS fun k hk => Or.inl hk
end Go.Proofs.YtimipfdknfdbdaaGreat.E5
