/- Merged by program: Fit, Can, Build. -/
import Derived.Laws.Externs
import Derived.Lib.FrozenHead2
import Derived.Test.YtimipfdknfdbdaaGreatDoorQjah
import Derived.Test.YtimipfdknfdbdaaGreatDoorQjab
import Derived.Test.YtimipfdknfdbdaaGreatDoorQjaa
/- ere.isFit: walks, kind by kind. -/
namespace Go.Proofs.YtimipfdknfdbdaaGreatDoor
open Go.RowKit

theorem zero_same : ∀ w, (Op.equalIn 10000 45 (.agg #[.int .u64 0, .int .u64 0, .int .u64 0, .int .u64 0]) (.agg #[.int .u64 0, .int .u64 0, .int .u64 0, .int .u64 0])).run Tryz.prog w = .ok true w :=
  fun w => equal_words zero4 zero4 w true (by simp)

set_option maxRecDepth 100000 in
theorem fit_small (k : Int) (h : k = 0 ∨ k = 2 ∨ k = 3) (a : Option Addr) (c : Nat) (w : World) :
    Calls Tryz.prog 59 #[.agg (reC k zero4 0 0 (.slice a 0 c))] w fun e w' => e = .returned (.bool true) ∧ Below w.heap.size w w' := by
  have hq := zero_same
  rcases h with rfl | rfl | rfl
  all_goals
    go_enter Tryz.func59, Tryz.ntmps59
    go_upto_region 1 with (fail)
    obtain ⟨W, hW, hX, hB, _⟩ := re_box w (reC _ zero4 0 0 (.slice a 0 c))
    rw [← hW]
    clear hW
    obtain ⟨c0, c1, c2, c3, c4, c5, c6, c7⟩ := eight_zero hX.out.eight
    go_wp2_with fail
    go_ret
    exact ⟨rfl, hB.out⟩

set_option maxRecDepth 100000 in
theorem fit_set (f : Nat → Nat) (a : Option Addr) (c : Nat) (w : World) :
    Calls Tryz.prog 59 #[.agg (reC 1 f 0 0 (.slice a 0 c))] w fun e w' => e = .returned (.bool true) ∧ Below w.heap.size w w' := by
  go_enter Tryz.func59, Tryz.ntmps59
  go_upto_region 1 with (fail)
  obtain ⟨W, hW, hX, hB, _⟩ := re_box w (reC 1 f 0 0 (.slice a 0 c))
  rw [← hW]
  clear hW
  obtain ⟨c0, c1, c2, c3, c4, c5, c6, c7⟩ := eight_re hX.out.eight
  go_wp2_with fail
  go_ret
  exact ⟨rfl, hB.out⟩

set_option maxRecDepth 100000 in
theorem fit_rep (lo hi : Int) (h0 : 0 ≤ lo) (h1 : lo ≤ 50) (h : hi = -1 ∨ (lo ≤ hi ∧ hi ≤ 50)) (a : Option Addr) (c : Nat) (w : World) :
    Calls Tryz.prog 59 #[.agg (reC 6 zero4 lo hi (.slice a 1 c))] w fun e w' => e = .returned (.bool true) ∧ Below w.heap.size w w' := by
  have hq := zero_same
  have HT := Lib.hid (areTimes_spec lo hi h0 h1 h)
  clear h0 h1 h
  go_enter Tryz.func59, Tryz.ntmps59
  go_upto_region 1 with (fail)
  obtain ⟨W, hW, hX, hB, _⟩ := re_box w (reC 6 zero4 lo hi (.slice a 1 c))
  rw [← hW]
  clear hW
  obtain ⟨c0, c1, c2, c3, c4, c5, c6, c7⟩ := eight_zero hX.out.eight
  go_wp2_with fail
  refine (HT.out _).mono ?_
  rintro e w1 ⟨rfl, rfl⟩
  go_wp2_with fail
  go_ret
  exact ⟨rfl, hB.out⟩

set_option maxRecDepth 100000 in
theorem fit_cat (l : List Tree) (sl : Value) (B : Nat → Prop) (w : World) (hsl : SlAt w B l sl) (h2 : 2 ≤ l.length) (hlen : l.length ≤ 1000000) (hk : NoneOf [4, 0] l) :
    Calls Tryz.prog 59 #[.agg (reC 4 zero4 0 0 sl)] w fun e w' => e = .returned (.bool true) ∧ Below w.heap.size w w' := by
  have hq := zero_same
  obtain ⟨a, c, rfl⟩ : ∃ a c, sl = .slice a l.length c := by
    rcases hsl with ⟨rfl, a, c, rfl⟩ | ⟨hl, b, off, c, cs, rfl, _⟩
    · exact ⟨_, _, rfl⟩
    · exact ⟨_, _, rfl⟩
  go_enter Tryz.func59, Tryz.ntmps59
  go_upto_region 1 with (fail)
  obtain ⟨W, hW, hX, hB, _⟩ := re_box w (reC 4 zero4 0 0 (.slice a l.length c))
  rw [← hW]
  clear hW
  obtain ⟨c0, c1, c2, c3, c4, c5, c6, c7⟩ := eight_zero hX.out.eight
  have hb := below_new W (.cells #[.int .i64 4, .int .i64 0] 3)
  have HN := Lib.hid (hasNone_spec l _ (.slice (some ⟨W.heap.size, 0, none⟩) 2 2) [4, 0] B _ ((hsl.after hB.out).after hb) hlen ⟨_, _, _, rfl⟩ (Or.inr ⟨_, _, rfl, by decide, heap_alloc_last W _⟩) hk)
  have HB := Lib.hid (Below.step hB.out hb)
  clear hb hsl hk
  go_wp2_with fail
  refine HN.out.mono ?_
  rintro e w1 ⟨rfl, b1⟩
  have B1 := Lib.hid (Below.step HB.out b1)
  clear b1
  go_wp2_with fail
  go_ret
  exact ⟨rfl, B1.out⟩

set_option maxRecDepth 100000 in
theorem fit_alt (l : List Tree) (sl : Value) (B : Nat → Prop) (w : World) (hsl : SlAt w B l sl) (h2 : 2 ≤ l.length) (hlen : l.length ≤ 1000000) (hk : NoneOf [5] l) :
    Calls Tryz.prog 59 #[.agg (reC 5 zero4 0 0 sl)] w fun e w' => e = .returned (.bool true) ∧ Below w.heap.size w w' := by
  have hq := zero_same
  obtain ⟨a, c, rfl⟩ : ∃ a c, sl = .slice a l.length c := by
    rcases hsl with ⟨rfl, a, c, rfl⟩ | ⟨hl, b, off, c, cs, rfl, _⟩
    · exact ⟨_, _, rfl⟩
    · exact ⟨_, _, rfl⟩
  go_enter Tryz.func59, Tryz.ntmps59
  go_upto_region 1 with (fail)
  obtain ⟨W, hW, hX, hB, _⟩ := re_box w (reC 5 zero4 0 0 (.slice a l.length c))
  rw [← hW]
  clear hW
  obtain ⟨c0, c1, c2, c3, c4, c5, c6, c7⟩ := eight_zero hX.out.eight
  have hb := below_new W (.cells #[.int .i64 5] 3)
  have HN := Lib.hid (hasNone_spec l _ (.slice (some ⟨W.heap.size, 0, none⟩) 1 1) [5] B _ ((hsl.after hB.out).after hb) hlen ⟨_, _, _, rfl⟩ (Or.inr ⟨_, _, rfl, by decide, heap_alloc_last W _⟩) hk)
  have HB := Lib.hid (Below.step hB.out hb)
  clear hb hsl hk
  go_wp2_with fail
  refine HN.out.mono ?_
  rintro e w1 ⟨rfl, b1⟩
  have B1 := Lib.hid (Below.step HB.out b1)
  clear b1
  go_wp2_with fail
  go_ret
  exact ⟨rfl, B1.out⟩
end Go.Proofs.YtimipfdknfdbdaaGreatDoor

/- Trees that can be; ere.canLie, ere.Can at these: walks. -/
namespace Go.Proofs.YtimipfdknfdbdaaGreatDoor
open Go.RowKit

/-- What a tree's own cells must be, within one of a kind. -/
structure FitT (within : Int) (t : Tree) : Prop where
  fits : Fits t.f
  k0 : 0 ≤ t.k
  k6 : t.k ≤ 6
  set : t.k ≠ 1 → ∀ i, i < 4 → t.f i = 0
  times : t.k ≠ 6 → t.lo = 0 ∧ t.hi = 0
  alone : t.k < 4 → t.kids = []
  empty : t.k = 0 → within ≠ 4
  parts : t.k = 4 ∨ t.k = 5 → t.k ≠ within ∧ 2 ≤ t.kids.length
  rep : t.k = 6 → t.kids.length = 1 ∧ 0 ≤ t.lo ∧ t.lo ≤ 50 ∧ (t.hi = -1 ∨ (t.lo ≤ t.hi ∧ t.hi ≤ 50))
  few : t.kids.length ≤ 1000000

/-- A tree that can be, of at most so many storeys. -/
def Good : Nat → Int → Tree → Prop
  | 0, _, _ => False
  | n + 1, within, t => FitT within t ∧ ∀ c, c ∈ t.kids → Good n t.k c

theorem Good.fit {n : Nat} {within : Int} {t : Tree} (h : Good n within t) : FitT within t := by
  cases n with
  | zero => exact h.elim
  | succ n => exact h.1

theorem isFit_spec (within : Int) (t : Tree) (cs : Array Value) (B : Nat → Prop) (w : World) (h : At w B t cs) (hf : FitT within t) (hk : ∀ c, c ∈ t.kids → FitT t.k c) :
    Calls Tryz.prog 59 #[.agg cs] w fun e w' => e = .returned (.bool true) ∧ Below w.heap.size w w' := by
  obtain ⟨sl, rfl, hsl⟩ := h.open
  by_cases h1 : t.k = 1
  · have hs := hf.alone (by omega)
    obtain ⟨e1, e2⟩ := hf.times (by omega)
    rw [hs] at hsl
    rcases hsl with ⟨_, a, c, rfl⟩ | ⟨hl, _⟩
    · rw [h1, e1, e2]; exact fit_set t.f a c w
    · exact absurd rfl hl
  · rw [reC_congr t.k t.lo t.hi sl (g := zero4) (hf.set h1)]
    by_cases h6 : t.k = 6
    · obtain ⟨e1, e2, e3, e4⟩ := hf.rep h6
      rcases hsl with ⟨hl, _⟩ | ⟨hl, b, off, c, _, rfl, _⟩
      · rw [hl] at e1; exact absurd e1 (by decide)
      · rw [h6, e1]; exact fit_rep t.lo t.hi e2 e3 e4 _ _ w
    · obtain ⟨e1, e2⟩ := hf.times h6
      rw [e1, e2]
      by_cases h4 : t.k = 4
      · rw [h4]
        refine fit_cat t.kids sl B w hsl (hf.parts (Or.inl h4)).2 hf.few fun c hc => ?_
        have hc' := hk c hc
        rw [h4] at hc'
        have n4 : c.k ≠ 4 := fun e => (hc'.parts (Or.inl e)).1 e
        have n0 : c.k ≠ 0 := fun e => hc'.empty e rfl
        simp [among, n4, n0]
      · by_cases h5 : t.k = 5
        · rw [h5]
          refine fit_alt t.kids sl B w hsl (hf.parts (Or.inr h5)).2 hf.few fun c hc => ?_
          have hc' := hk c hc
          rw [h5] at hc'
          have n5 : c.k ≠ 5 := fun e => (hc'.parts (Or.inr e)).1 e
          simp [among, n5]
        · have hk0 := hf.k0
          have hk6 := hf.k6
          have hs := hf.alone (by omega)
          rw [hs] at hsl
          rcases hsl with ⟨_, a, c, rfl⟩ | ⟨hl, _⟩
          · exact fit_small t.k (by omega) a c w
          · exact absurd rfl hl

set_option maxRecDepth 100000 in
theorem canLie_spec (n : Nat) : ∀ (within : Int) (t : Tree) (cs : Array Value) (B : Nat → Prop) (deep : Nat) (w : World), At w B t cs → Good n within t → deep + n ≤ 101 →
    Calls Tryz.prog 40 #[.agg cs, .int .i64 deep] w fun e w' => e = .returned (.bool true) ∧ Below w.heap.size w w' := by
  induction n with
  | zero => intro within t cs B deep w _ hg _; exact hg.elim
  | succ n ih =>
    intro within t cs B deep w h hg hd
    have HT := Lib.hid h
    have HF := Lib.hid fun (w : World) (h : At w B t cs) => isFit_spec within t cs B w h hg.1 fun c hc => (hg.2 c hc).fit
    obtain ⟨sl, rfl, hsl⟩ := h.open
    have HI := Lib.hid ih; clear ih
    have HG := Lib.hid hg.2
    have hfew := hg.1.few
    have hdeep : deep ≤ 100 := by omega
    have hsh := hsl.shape
    clear hg
    go_enter Tryz.func40, Tryz.ntmps40
    go_upto_region 1 with (fail)
    obtain ⟨W, hW, hX, hB, _⟩ := re_box w (reC t.k t.f t.lo t.hi sl)
    rw [← hW]
    clear hW
    obtain ⟨c0, c1, c2, c3, c4, c5, c6, c7⟩ := eight_re hX.out.eight
    have HF1 := Lib.hid (HF.out W (HT.out.after hB.out))
    have hs1 := Lib.hid (hsl.after hB.out)
    clear hsl
    go_wp2_with fail
    refine HF1.out.mono ?_
    rintro e w1 ⟨rfl, b1⟩
    have X1 := Lib.hid (hX.out.after b1)
    have S1 := Lib.hid (hs1.out.after b1)
    have B1 := Lib.hid (Below.step hB.out b1)
    clear b1 c0 c1 c2 c3 c4 c5 c6 c7
    obtain ⟨c0, c1, c2, c3, c4, c5, c6, c7⟩ := eight_re X1.out.eight
    obtain ⟨a, c, rfl⟩ := hsh
    go_wp2_with fail
    go_loopw [17] (fun y wr => ∃ i : Nat, y = .int .i64 i ∧ i ≤ t.kids.length ∧ Hid (Below w1.heap.size w1 wr)) (fun y _ => t.kids.length - (intOf y).toNat)
    case atStart => exact ⟨0, rfl, by omega, Lib.hid (Below.refl _ _)⟩
    case round =>
      obtain ⟨i, rfl, hi, hb⟩ := hrel
      clear c0 c1 c2 c3 c4 c5 c6 c7
      by_cases hgo : i < t.kids.length
      · rcases S1.out with ⟨e, _⟩ | ⟨hl, b, off, c', cs, e, hc, hBb, h8, hat⟩
        · rw [e] at hgo; exact absurd hgo (by simp)
        · simp only [Value.slice.injEq] at e
          obtain ⟨rfl, _, rfl⟩ := e
          have hT := hat i hgo
          have hT' := hT.after hb.out
          obtain ⟨ai, ci, e, _⟩ := hT.opens
          have h8i := (h8 i hgo).after hT.size hb.out
          rw [e] at h8i hT'
          obtain ⟨c0, c1, c2, c3, c4, c5, c6, c7⟩ := eight_re h8i
          have hT2 := hT'.after (below_new wr (.cells (reC t.kids[i].k t.kids[i].f t.kids[i].lo t.kids[i].hi (.slice ai t.kids[i].kids.length ci)) 48))
          have HC := Lib.hid (HI.out t.k t.kids[i] _ B (deep + 1) _ hT2 (HG.out _ (List.getElem_mem hgo)) (by omega))
          have BX := Lib.hid (Below.step hb.out (below_new wr (.cells (reC t.kids[i].k t.kids[i].f t.kids[i].lo t.kids[i].hi (.slice ai t.kids[i].kids.length ci)) 48)))
          clear h8i e hT hT' hT2 h8 hat
          go_upto_region 6 with (fail)
          obtain ⟨V, hV, hY, _, _⟩ := re_box wr (reC t.kids[i].k t.kids[i].f t.kids[i].lo t.kids[i].hi (.slice ai t.kids[i].kids.length ci))
          change Code.wp _ _ _ _ (wr.alloc (Obj.cells (reC t.kids[i].k t.kids[i].f t.kids[i].lo t.kids[i].hi (.slice ai t.kids[i].kids.length ci)) 48))
          rw [← hV]
          rw [← hV] at HC BX
          clear hV c0 c1 c2 c3 c4 c5 c6 c7
          obtain ⟨c0, c1, c2, c3, c4, c5, c6, c7⟩ := eight_re hY.out.eight
          go_wp2_with fail
          refine HC.out.mono ?_
          rintro e w2 ⟨rfl, b2⟩
          have B2 := Lib.hid (Below.step BX.out b2)
          clear b2
          go_wp2_with fail
          go_roundw
          case rel => exact ⟨i + 1, by go_num, by omega, B2⟩
          case measure => simp [intOf]; omega
      · have hi' : i = t.kids.length := by omega
        subst hi'
        go_wp2_with fail
        go_ret
        exact ⟨rfl, Below.step B1.out hb.out⟩

set_option maxRecDepth 100000 in
theorem can_spec (t : Tree) (cs : Array Value) (B : Nat → Prop) (w : World) (h : At w B t cs) (hg : Good 100 (-1) t) :
    Calls Tryz.prog 28 #[.agg cs] w fun e w' => e = .returned (.bool true) ∧ Below w.heap.size w w' := by
  obtain ⟨W, hW, hX, hB, _⟩ := re_box w cs
  have HC := Lib.hid (canLie_spec 100 (-1) t cs B 0 W (h.after hB.out) hg (by omega))
  obtain ⟨a, c, rfl, _⟩ := h.opens
  clear h hg
  go_enter Tryz.func28, Tryz.ntmps28
  go_upto_region 1 with (fail)
  rw [← hW]
  clear hW
  obtain ⟨c0, c1, c2, c3, c4, c5, c6, c7⟩ := eight_re hX.out.eight
  go_wp2_with fail
  refine HC.out.mono ?_
  rintro e w1 ⟨rfl, b1⟩
  have B1 := Lib.hid (Below.step hB.out b1)
  clear b1
  go_wp2_with fail
  go_ret
  exact ⟨rfl, B1.out⟩
end Go.Proofs.YtimipfdknfdbdaaGreatDoor

/- strings.Builder's copyCheck and WriteByte: walks (the dump's copyCheck has no panic's text: the shelf's laying does not fit). -/
namespace Go.Proofs.YtimipfdknfdbdaaGreatDoor
open Go.RowKit

theorem info_builder : (Tryz.prog.info? 40).map (·.size) = some 2 := by kernel_rfl
theorem lies_builder : liesAt Tryz.prog Tryz.prog.depth 40 (2 / Tryz.prog.cellsOf 40) 0 40 1 = true := by kernel_rfl
theorem info_byte : (Tryz.prog.info? 5).map (fun i => (i.zero, i.size, i.bytes)) = some (some (.int .u8 0), 1, 1) := by kernel_rfl

set_option maxHeartbeats 1000000 in
set_option maxRecDepth 100000 in
theorem copy_used (b : Nat) (w : World) (h0 : w.cell? ⟨b, 0, none⟩ = some (.pointer (some ⟨b, 0, none⟩))) :
    Calls Tryz.prog 36 #[.pointer (some ⟨b, 0, none⟩)] w fun e w' => e = .returned (.tuple #[]) ∧ w' = w := by
  obtain ⟨j, hj, _⟩ := Option.map_eq_some_iff.1 info_builder
  go_enter Tryz.func36, Tryz.ntmps36
  go_wp2
  rw [Lib.run_neq_ptr_same w _ Tryz.underlying38 hj]
  go_wp2
  go_end0
  exact ⟨rfl, rfl⟩

set_option maxHeartbeats 1000000 in
set_option maxRecDepth 100000 in
theorem copy_fresh (b : Nat) (w : World) (h0 : w.cell? ⟨b, 0, none⟩ = some (.pointer none)) (hsh : w.shape? b = some (40, 2)) (hfz : w.frozen? ⟨b, 0, none⟩ = false) :
    Calls Tryz.prog 36 #[.pointer (some ⟨b, 0, none⟩)] w fun e w' => e = .returned (.tuple #[]) ∧ w' = w.setCell ⟨b, 0, none⟩ (.pointer (some ⟨b, 0, none⟩)) := by
  obtain ⟨j, hj, hjs⟩ := Option.map_eq_some_iff.1 info_builder
  go_enter Tryz.func36, Tryz.ntmps36
  go_wp2
  rw [Lib.run_to_unsafe w ⟨b, 0, none⟩ Tryz.underlying38 Tryz.underlying111 hj (by rw [hjs]; decide) hsh (Nat.zero_lt_succ 1)]
  simp only [Result.andThen]
  rw [Oper.upon_value]
  go_wp2
  rw [run_callFunc_extern Tryz.func56 (by kernel_rfl) (by kernel_rfl) (by kernel_rfl) (e := Extern.AbiNoEscape.same) (by kernel_rfl)]
  rw [Lib.run_noEscape]
  simp only [Result.andThen]
  rw [Oper.upon_value]
  go_wp2
  rw [Lib.run_from_unsafe w ⟨b, 0, none⟩ Tryz.underlying111 Tryz.underlying38 hj hsh lies_builder]
  simp only [Result.andThen]
  rw [Oper.upon_value]
  go_wp2
  go_end0
  exact ⟨rfl, rfl⟩

theorem copyCheck_k (B b : Nat) (bs : List Value) (w : World) (h : Lib.IsBuilderF 40 5 B b bs w) :
    Calls Tryz.prog 36 #[.pointer (some ⟨b, 0, none⟩)] w fun e w' => e = .returned (.tuple #[]) ∧ (Lib.BuilderAtF 40 5 B b (.pointer (some ⟨b, 0, none⟩)) bs w' ∧ Below B w w' ∧ Lib.OthersKept 5 (some b) w w') := by
  rcases h with h | h
  · refine (copy_fresh b w h.cell0 h.shape h.frozen0).mono ?_
    rintro e w' ⟨rfl, rfl⟩
    exact ⟨rfl, h.used _, (Below.refl B w).setCell (p := ⟨b, 0, none⟩) h.1 _, (Lib.OthersKept.refl _ _ w).setCell ⟨b, 0, none⟩ rfl _⟩
  · refine (copy_used b w h.cell0).mono ?_
    rintro e w' ⟨rfl, rfl⟩
    exact ⟨rfl, h, Below.refl B _, Lib.OthersKept.refl _ _ _⟩

set_option maxHeartbeats 2000000 in
set_option maxRecDepth 100000 in
theorem writeByte_k (B b : Nat) (bs : List Value) (c : Int) (w : World) (h : Lib.IsBuilderF 40 5 B b bs w) (hlen : bs.length + 1 ≤ 140737488355328) (hBw : B ≤ w.heap.size) :
    Calls Tryz.prog 48 #[.pointer (some ⟨b, 0, none⟩), .int .u8 c] w fun e w' => e = .returned .nilIface ∧ (Lib.BuilderAtF 40 5 B b (.pointer (some ⟨b, 0, none⟩)) (bs ++ [.int .u8 c]) w' ∧ Below B w w' ∧ Lib.OthersKept 5 (some b) w w') := by
  obtain ⟨i0, hi, hz0, hz1, hz2⟩ := info_parts info_byte
  go_enter Tryz.func48, Tryz.ntmps48
  go_wp2_with (go_at_call 36; refine (copyCheck_k B b bs _ h).mono ?_)
  rintro e w1 ⟨rfl, h1, hb1, hk1⟩
  obtain ⟨hB, v, hbk, hown, hne⟩ := h1
  have c0 : w1.cell? ⟨b, 0, none⟩ = some (.pointer (some ⟨b, 0, none⟩)) := by rw [Lib.cell_of_heap hbk]; rfl
  have c1 : w1.cell? ⟨b, 1, none⟩ = some v := by rw [Lib.cell_of_heap hbk]; rfl
  go_wp2_with (at_builtin; refine wpList_append_ownF _ rfl _ _ 23 rfl B 5 i0 (.int .u8 0) 1 1 Tryz.underlying23 hi hz0 hz1 hz2 rfl (by decide) _ _ _ rfl (hown.alloc _) ⟨w1.heap.size, 0, none⟩ 1 1 [.int .u8 c] rfl rfl ?c1 ?c2 ?c3 ?c4 ?c5 ?_)
  case c1 =>
    intro j u hj
    match j, hj with
    | 0, hj => simp at hj; subst hj; simp [Addr.add]
  case c2 => intro u hu; simp at hu; subst hu; rfl
  case c3 => unfold maxLen; omega
  case c4 => omega
  case c5 => have := hb1.size; simp; omega
  intro v' w2 hown' hgrow _
  have hlt : b < w1.heap.size := by
    rcases Nat.lt_or_ge b w1.heap.size with h' | h'
    · exact h'
    · simp [Array.getElem?_eq_none h'] at hbk
  have hb2 : w2.heap[b]? = some (.cells #[.pointer (some ⟨b, 0, none⟩), v] 40 (0, 0)) := by
    rw [hgrow.block b (by simp; omega) (fun e => hne e.symm), Lib.alloc_old w1 _ b hlt]
    exact hbk
  have d0 : w2.cell? ⟨b, 0, none⟩ = some (.pointer (some ⟨b, 0, none⟩)) := by rw [Lib.cell_of_heap hb2]; rfl
  have d1 : w2.cell? ⟨b, 1, none⟩ = some v := by rw [Lib.cell_of_heap hb2]; rfl
  have f1 : w2.frozen? ⟨b, 1, none⟩ = false := Lib.frozen_of_heap hb2 1
  obtain ⟨g, cap, rfl⟩ : ∃ g cap, v' = .slice (some ⟨g, 0, none⟩) (bs.length + 1) cap := by
    rcases hown'.2 with ⟨_, h0⟩ | ⟨g, cap, cur, fz, hv, _⟩
    · omega
    · exact ⟨g, cap, hv⟩
  go_wp2
  go_ret
  refine ⟨rfl, ?_, ?_, ((hk1.alloc _).grown hgrow (Lib.ownsRowF_kind (hown.alloc _))).setCell ⟨b, 1, none⟩ rfl _⟩
  · exact Lib.BuilderAtF.put (T := 40) (e := 5) hB hb2 (bs' := bs ++ [.int .u8 c]) (by simpa using hown') (by decide)
  · exact ((hb1.alloc (by have := hb1.size; omega) _).grown hgrow (by have := hb1.size; simp; omega) (fun k hk => (hown.lt k hk).1)).setCell (p := ⟨b, 1, none⟩) hB _
end Go.Proofs.YtimipfdknfdbdaaGreatDoor
