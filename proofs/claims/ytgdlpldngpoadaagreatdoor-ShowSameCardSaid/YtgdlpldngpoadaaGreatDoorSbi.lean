/- Merged by program: NdOwn. -/
import Derived.Test.YtgdlpldngpoadaaGreatDoorSab
import Derived.Test.YtgdlpldngpoadaaGreatDoorSbh
/- The document's Own: a walk (gen_ndown.py). -/
namespace Go.Proofs.YtgdlpldngpoadaaGreatDoor
open Go.RowKit

/-- A tree without its places. -/
def stripF : Nat → Nd → Nd
  | 0, t => t
  | n + 1, t => .mk t.k t.s t.n 0 (t.kids.map (stripF n)) t.p

theorem sx_on {w V W : World} {t : Nd} {y : Option Addr} {d : Nat} (h : (V.cell? ⟨w.heap.size, 0, none⟩ = some (.int .i64 t.k) ∧ V.cell? ⟨w.heap.size, 1, none⟩ = some (.string t.s) ∧ V.cell? ⟨w.heap.size, 2, none⟩ = some (.int .i64 t.n) ∧ V.cell? ⟨w.heap.size, 5, none⟩ = some (.slice y t.p.length d))) (hb : Below V.heap.size V W) : (W.cell? ⟨w.heap.size, 0, none⟩ = some (.int .i64 t.k) ∧ W.cell? ⟨w.heap.size, 1, none⟩ = some (.string t.s) ∧ W.cell? ⟨w.heap.size, 2, none⟩ = some (.int .i64 t.n) ∧ W.cell? ⟨w.heap.size, 5, none⟩ = some (.slice y t.p.length d)) := by
  obtain ⟨h0, h1, h2, h5⟩ := h
  have key : ∀ (o : Nat) (v : Value), V.cell? ⟨w.heap.size, o, none⟩ = some v → W.cell? ⟨w.heap.size, o, none⟩ = some v := fun o v hv => by
    rw [hb.cell (p := ⟨w.heap.size, o, none⟩) (cell_lt hv)]; exact hv
  exact ⟨key _ _ h0, key _ _ h1, key _ _ h2, key _ _ h5⟩

/-- The variables of Own: its argument, its result, the tree that it makes at ob, whose names are sp. -/
structure OwnJ (w V : World) (cs : Array Value) (t : Nd) (ob base : Nat) (v sp : Value) : Prop where
  arg : Box V w.heap.size cs
  res : Box V (w.heap.size + 1) zeroN
  out : Box V ob (ndC t.k t.s t.n 0 v sp)
  names : PAt V (fun b => w.heap.size + 2 ≤ b ∧ b < base ∧ b ≠ ob) t.p sp
  low : w.heap.size + 2 ≤ ob
  lt : ob < base
  le : base ≤ V.heap.size
  below : Below w.heap.size w V
/-- Two boxes. -/
structure OwnV (w V : World) (cs : Array Value) : Prop where
  arg : Box V w.heap.size cs
  res : Box V (w.heap.size + 1) zeroN
  size : V.heap.size = w.heap.size + 2
  below : Below w.heap.size w V
theorem OwnV.after {w V W : World} {cs : Array Value} (h : OwnV w V cs) (hb : Below V.heap.size V W) : Box W w.heap.size cs ∧ Box W (w.heap.size + 1) zeroN ∧ Below w.heap.size w W := ⟨h.arg.after hb, h.res.after hb, Below.step h.below hb⟩
theorem OwnJ.after {w V W : World} {cs : Array Value} {t : Nd} {ob base : Nat} {v sp : Value} (h : OwnJ w V cs t ob base v sp) (hb : Below V.heap.size V W) : OwnJ w W cs t ob base v sp :=
  ⟨h.arg.after hb, h.res.after hb, h.out.after hb, h.names.after hb, h.low, h.lt, Nat.le_trans h.le hb.size, Below.step h.below hb⟩
/-- .. and the trees that it has made. -/
structure OwnL (w V : World) (cs : Array Value) (t : Nd) (ob base : Nat) (v sp : Value) (ts : List Nd) (fs : Nat → Array Value) : Prop where
  j : OwnJ w V cs t ob base v sp
  own : OwnNds V base v ts fs
theorem OwnL.after {w V W : World} {cs : Array Value} {t : Nd} {ob base : Nat} {v sp : Value} {ts : List Nd} {fs : Nat → Array Value} (h : OwnL w V cs t ob base v sp ts fs) (hb : Below V.heap.size V W) : OwnL w W cs t ob base v sp ts fs := ⟨h.j.after hb, h.own.after hb⟩
theorem nd_slice {w : World} {B : Nat} {e : TypeId} {v : Value} {n sz : Nat} {xs : List Value} (h : w.ownsRow B e sz v n xs) : ∃ a c, v = .slice a n c := by
  rcases h.2 with ⟨rfl, rfl⟩ | ⟨g, cap, cur, rfl, _⟩
  · exact ⟨_, _, rfl⟩
  · exact ⟨_, _, rfl⟩
theorem OwnL.put {w V W : World} {cs ds : Array Value} {t r : Nd} {ob base C : Nat} {v v' sp : Value} {ts : List Nd} {fs : Nat → Array Value} (h : OwnL w V cs t ob base v sp ts fs) (hA : At V (Up C) r ds) (hC : base ≤ C) (hv : ∀ k, v.ownBlock = some k → k < C)
    (hrow : W.ownsRow base 25 6 v' (ts.length + 1) (flatC fs ts.length ++ ds.toList)) (hg : V.grownBy W v.ownBlock) (hb : v'.ownBlock = v.ownBlock ∨ v'.ownBlock = some V.heap.size) :
    OwnL w (W.setCell ⟨ob, 4, none⟩ v') cs t ob base v' sp (ts ++ [r]) (fun j => if j = ts.length then ds else fs j) := by
  have hlow := h.j.low
  have hlt := h.j.lt
  have hle := h.j.le
  have old : ∀ k, k < base → W.heap[k]? = V.heap[k]? := fun k hk => hg.block k (by omega) (fun e => by have := (h.own.row.lt k e.symm).1; omega)
  have other : ∀ k, k ≠ ob → (W.setCell ⟨ob, 4, none⟩ v').heap[k]? = W.heap[k]? := fun k hk => heap_setCell_other _ _ _ _ hk
  have hO := h.own.snoc hA hC hv hrow hg hb
  have hout : W.heap[ob]? = some (.cells (ndC t.k t.s t.n 0 v sp) 25 (0, 0)) := by rw [old _ hlt]; exact h.j.out.row
  have hbelow : Below w.heap.size w W := h.j.below.grown hg (by have := h.j.below.size; omega) (fun k hk => by have := (h.own.row.lt k hk).1; omega)
  refine ⟨⟨⟨by rw [other _ (by omega), old _ (by omega)]; exact h.j.arg.row⟩, ⟨by rw [other _ (by omega), old _ (by omega)]; exact h.j.res.row⟩, ⟨by rw [heap_setCell_same _ _ 4 _ _ _ hout]; rfl⟩,
    h.j.names.keep (fun k hk _ => by rw [other _ hk.2.2, old _ hk.2.1]), hlow, hlt, by rw [World.size_setCell]; exact Nat.le_trans hle hg.size, hbelow.setCell (p := ⟨ob, 4, none⟩) (by show w.heap.size ≤ ob; omega) _⟩, ⟨?_, fun j hj => ?_⟩⟩
  · refine hO.row.kept (row := some ob) ⟨rfl, rfl, rfl, by simp [World.setCell], fun k _ hk => Below.heap_setCell _ _ _ _ (fun e => hk (by simp [e]))⟩ ?_
    cases hv' : v'.ownBlock with
    | none => exact Or.inl rfl
    | some k => exact Or.inr (fun e => by have := (hO.row.lt k hv').1; simp at e; omega)
  · exact (hO.at_ j hj).keep (fun k hk _ => other k (by have := hk.1; omega))
theorem PAt.inW {w : World} {S : Nat → Prop} {p : List ByteArray} {sp : Value} (hp : PAt w S p sp) : PAt w (fun b => S b ∧ b < w.heap.size) p sp := by
  rcases hp with h | ⟨hl, b, off, c, rfl, hc, hB, hk⟩
  · exact Or.inl h
  · have h0 : 0 < p.length := by cases p with | nil => exact absurd rfl hl | cons => simp
    exact Or.inr ⟨hl, b, off, c, rfl, hc, ⟨hB, cell_lt (hk 0 h0)⟩, hk⟩
theorem OwnJ.of {w V W : World} {cs : Array Value} {t : Nd} {ob : Nat} {p : Option Addr} {c : Nat} (h : OwnV w V cs) (hb : Below V.heap.size V W) (hx : Box W ob zeroN) (hp : PAt W (fun b => V.heap.size ≤ b ∧ some b = (Value.slice p t.p.length c).ownBlock) t.p (.slice p t.p.length c)) (hV : V.heap.size ≤ ob) (hl : ob < W.heap.size)
    (hne : some ob ≠ (Value.slice p t.p.length c).ownBlock) : OwnJ w (W.setRow ob (ndC t.k t.s t.n 0 (.slice none 0 0) (.slice p t.p.length c))) cs t ob W.heap.size (.slice none 0 0) (.slice p t.p.length c) := by
  have hs := h.size
  have other : ∀ k, k ≠ ob → (W.setRow ob (ndC t.k t.s t.n 0 (.slice none 0 0) (.slice p t.p.length c))).heap[k]? = W.heap[k]? := fun k hk => Go.setRow_other _ _ _ _ hk
  obtain ⟨a, r, b⟩ := h.after hb
  refine ⟨⟨by rw [other _ (by omega)]; exact a.row⟩, ⟨by rw [other _ (by omega)]; exact r.row⟩, hx.setRow _, ?_, by omega, hl, by simp [World.setRow], below_setRow b (by omega) _⟩
  have hp' := (hp.inW).keep (w' := W.setRow ob (ndC t.k t.s t.n 0 (.slice none 0 0) (.slice p t.p.length c))) (fun k hk _ => other k (fun e => hne (by rw [← e]; exact hk.1.2)))
  exact hp'.weakS fun k hk => ⟨by have := hk.1.1; omega, hk.2, fun e => hne (by rw [← e]; exact hk.1.2)⟩

set_option maxRecDepth 100000 in
set_option maxHeartbeats 4000000 in
theorem own_spec (n : Nat) : ∀ (t : Nd) (cs : Array Value) (S : Nat → Prop) (w : World), At w S t cs → Low n t → PFew 8796093022207 t →
    Calls Tryz.prog 12 #[.agg cs] w fun e w' => ∃ ds, e = .returned (.agg ds) ∧ At w' (Up w.heap.size) (stripF n t) ds ∧ Below w.heap.size w w' := by
  induction n with
  | zero => intro t cs S w _ hg _; exact hg.elim
  | succ n ih =>
    intro t cs S w h hg hf
    have HI0 := Lib.hid ih; clear ih
    have HI := info_nd
    obtain ⟨x, c, y, d, rfl, hs, hp⟩ := h.opens
    have HG := Lib.hid hg.2.2
    have HFK := Lib.hid hf.kids
    have HPL := Lib.hid hf.here
    have hfew := hg.1
    clear h hg hf
    go_enter Tryz.func12, Tryz.ntmps12
    go_upto_region 1 with (fail)
    obtain ⟨W0, hW0, hX0, hB0, hsz⟩ := nd_box w (ndC t.k t.s t.n t.a (.slice x t.kids.length c) (.slice y t.p.length d))
    obtain ⟨V0, hV0, hY0, hBV, hsz2⟩ := nd_box W0 zeroN
    rw [hsz.out] at hY0
    change Code.wp _ _ _ _ ((w.alloc (Obj.cells (ndC t.k t.s t.n t.a (.slice x t.kids.length c) (.slice y t.p.length d)) 25)).alloc (Obj.cells zeroN 25))
    rw [← hW0, ← hV0]
    have HV0 : Hid (OwnV w V0 (ndC t.k t.s t.n t.a (.slice x t.kids.length c) (.slice y t.p.length d))) := Lib.hid ⟨hX0.out.after hBV.out, hY0.out, by rw [hsz2.out, hsz.out], Below.step hB0.out hBV.out⟩
    have S1 := Lib.hid (hs.after HV0.out.below)
    have P1 := Lib.hid (hp.after HV0.out.below)
    have HS := Lib.hid hs
    clear hW0 hV0 hX0 hY0 hB0 hBV hsz hsz2 hs hp W0
    go_cut [3] from 6 to 16 (fun z wx => ∃ ob sp, z = .pointer (some ⟨ob, 0, none⟩) ∧ Hid (∃ base, OwnJ w wx (ndC t.k t.s t.n t.a (.slice x t.kids.length c) (.slice y t.p.length d)) t ob base (.slice none 0 0) sp))
    case first =>
      refine wp_region_held_drew (S := fun W => (W.cell? ⟨w.heap.size, 0, none⟩ = some (.int .i64 t.k) ∧ W.cell? ⟨w.heap.size, 1, none⟩ = some (.string t.s) ∧ W.cell? ⟨w.heap.size, 2, none⟩ = some (.int .i64 t.n) ∧ W.cell? ⟨w.heap.size, 5, none⟩ = some (.slice y t.p.length d))) (by kernel_rfl) ?_ (fun hS0 => ?_)
      · exact sx_on (V := V0) ⟨HV0.out.arg.c 0, HV0.out.arg.c 1, HV0.out.arg.c 2, HV0.out.arg.c 5⟩ (below_drew _)
      obtain ⟨V, hV⟩ : ∃ V, V = V0.drew := ⟨_, rfl⟩
      have HV : Hid (OwnV w V (ndC t.k t.s t.n t.a (.slice x t.kids.length c) (.slice y t.p.length d))) := Lib.hid (by
        obtain ⟨a, r, b⟩ := HV0.out.after (below_drew V0)
        rw [hV]
        exact ⟨a, r, HV0.out.size, b⟩)
      have HP : Hid (PAt V S t.p (.slice y t.p.length d)) := Lib.hid (by rw [hV]; exact P1.out.after (below_drew V0))
      rw [← hV] at hS0 ⊢
      have HX := Lib.hid hS0
      have BV : Hid (Below V.heap.size V V) := Lib.hid (Below.refl _ _)
      clear hV
      refine takeW (i := 0) (d := 6) (v := .pointer (some ⟨w.heap.size, 0, none⟩)) rfl rfl (by kernel_rfl) (by kernel_rfl) (by kernel_rfl) (fun _ _ _ h => h) (by rfl) (fun w' hSw => by obtain ⟨x0, x1, x2, x5⟩ := hSw; go_simp) hS0 ?_
      try simp only [List.setIfInBounds_toArray, List.set_cons_zero, List.set_cons_succ]
      refine takeW (i := 1) (d := 7) (v := .int .i64 t.k) rfl rfl (by kernel_rfl) (by kernel_rfl) (by kernel_rfl) (fun _ _ _ h => h) (by rfl) (fun w' hSw => by obtain ⟨x0, x1, x2, x5⟩ := hSw; go_simp) hS0 ?_
      try simp only [List.setIfInBounds_toArray, List.set_cons_zero, List.set_cons_succ]
      refine takeW (i := 2) (d := 8) (v := .pointer (some ⟨w.heap.size, 1, none⟩)) rfl rfl (by kernel_rfl) (by kernel_rfl) (by kernel_rfl) (fun _ _ _ h => h) (by rfl) (fun w' hSw => by obtain ⟨x0, x1, x2, x5⟩ := hSw; go_simp) hS0 ?_
      try simp only [List.setIfInBounds_toArray, List.set_cons_zero, List.set_cons_succ]
      refine takeW (i := 3) (d := 9) (v := .string t.s) rfl rfl (by kernel_rfl) (by kernel_rfl) (by kernel_rfl) (fun _ _ _ h => h) (by rfl) (fun w' hSw => by obtain ⟨x0, x1, x2, x5⟩ := hSw; go_simp) hS0 ?_
      try simp only [List.setIfInBounds_toArray, List.set_cons_zero, List.set_cons_succ]
      refine takeW (i := 4) (d := 10) (v := .pointer (some ⟨w.heap.size, 2, none⟩)) rfl rfl (by kernel_rfl) (by kernel_rfl) (by kernel_rfl) (fun _ _ _ h => h) (by rfl) (fun w' hSw => by obtain ⟨x0, x1, x2, x5⟩ := hSw; go_simp) hS0 ?_
      try simp only [List.setIfInBounds_toArray, List.set_cons_zero, List.set_cons_succ]
      refine takeW (i := 5) (d := 11) (v := .int .i64 t.n) rfl rfl (by kernel_rfl) (by kernel_rfl) (by kernel_rfl) (fun _ _ _ h => h) (by rfl) (fun w' hSw => by obtain ⟨x0, x1, x2, x5⟩ := hSw; go_simp) hS0 ?_
      try simp only [List.setIfInBounds_toArray, List.set_cons_zero, List.set_cons_succ]
      refine takeW (i := 7) (d := 13) (v := .pointer (some ⟨w.heap.size, 5, none⟩)) rfl rfl (by kernel_rfl) (by kernel_rfl) (by kernel_rfl) (fun _ _ _ h => h) (by rfl) (fun w' hSw => by obtain ⟨x0, x1, x2, x5⟩ := hSw; go_simp) hS0 ?_
      try simp only [List.setIfInBounds_toArray, List.set_cons_zero, List.set_cons_succ]
      refine takeW (i := 8) (d := 14) (v := .slice y t.p.length d) rfl rfl (by kernel_rfl) (by kernel_rfl) (by kernel_rfl) (fun _ _ _ h => h) (by rfl) (fun w' hSw => by obtain ⟨x0, x1, x2, x5⟩ := hSw; go_simp) hS0 ?_
      try simp only [List.setIfInBounds_toArray, List.set_cons_zero, List.set_cons_succ]
      clear hS0
      refine wpAnyH_ready (rs := [6, 11]) (by kernel_rfl) (by simp) ?_
      refine AllReadyH.cons rfl (fun K hK => ?_) (AllReadyH.cons rfl (fun K hK => ?_) AllReadyH.nil)
      · rw [if_pos (by rfl)]
        go_simp
        obtain ⟨N1, hN1⟩ : ∃ N1, N1 = V.alloc (.cells #[] 9) := ⟨_, rfl⟩
        obtain ⟨sb, hsb⟩ : ∃ sb, sb = V.heap.size := ⟨_, rfl⟩
        rw [← hN1]
        try rw [← hsb]
        have BN1 : Hid (Below V.heap.size V N1) := Lib.hid (by rw [hN1]; exact BV.out.alloc BV.out.size _)
        have ON1 : Hid (N1.ownsRow V.heap.size 9 1 (.slice (some ⟨sb, 0, none⟩) 0 0) 0 (([] : List ByteArray).map Value.string)) := Lib.hid (by rw [hN1, hsb]; exact World.ownsRow_lit (base := V.heap.size) (e := 9) (size := 1) V #[] 0 BV.out.size (by simp only [maxLen]; omega) (by simp))
        have hsbV : V.heap.size ≤ sb := by rw [hsb]; exact BV.out.size
        have HEN1 := Lib.hid hN1
        have HSB := Lib.hid hsb
        clear hN1 hsb
        have hSN1 : (N1.cell? ⟨w.heap.size, 0, none⟩ = some (.int .i64 t.k) ∧ N1.cell? ⟨w.heap.size, 1, none⟩ = some (.string t.s) ∧ N1.cell? ⟨w.heap.size, 2, none⟩ = some (.int .i64 t.n) ∧ N1.cell? ⟨w.heap.size, 5, none⟩ = some (.slice y t.p.length d)) := sx_on HX.out BN1.out
        refine hK.out _ _ hSN1 (fun _ => ?_)
        clear hK K
        try simp only [Act.put]
        try simp only [List.setIfInBounds_toArray]
        try simp only [List.set_cons_zero, List.set_cons_succ]
        refine wpAnyH_ready (rs := [9, 11]) (by kernel_rfl) (by simp) ?_
        refine AllReadyH.cons rfl (fun K hK => ?_) (AllReadyH.cons rfl (fun K hK => ?_) AllReadyH.nil)
        · rw [if_pos (by rfl)]
          refine op_append_strs _ _ rfl 15 rfl V.heap.size N1 (.slice (some ⟨sb, 0, none⟩) 0 0) 0 [] (.slice y t.p.length d) t.p S rfl ON1.out rfl (HP.out.after BN1.out) (by have := HPL.out; omega) BN1.out.size ?_
          intro p5 c5 N2 ho hg hwh
          rw [Nat.zero_add] at ho hwh ⊢
          rw [List.nil_append] at ho
          have BN2 : Hid (Below V.heap.size V N2) := Lib.hid (BN1.out.grown hg BN1.out.size (fun j hj => by have := (ON1.out.lt j hj).1; omega))
          have PN2 : Hid (PAt N2 (fun b => V.heap.size ≤ b ∧ some b = (Value.slice p5 t.p.length c5).ownBlock) t.p (.slice p5 t.p.length c5)) := Lib.hid (own_pAt ho)
          have hsb2 : ∀ b, some b = (Value.slice p5 t.p.length c5).ownBlock → b = sb ∨ b = N1.heap.size := fun b hb => by
            rcases hwh with e | e
            · rw [e] at hb; exact Or.inl (by simpa [Value.ownBlock] using hb)
            · rw [e] at hb; exact Or.inr (by simpa using hb)
          have hSN2 : (N2.cell? ⟨w.heap.size, 0, none⟩ = some (.int .i64 t.k) ∧ N2.cell? ⟨w.heap.size, 1, none⟩ = some (.string t.s) ∧ N2.cell? ⟨w.heap.size, 2, none⟩ = some (.int .i64 t.n) ∧ N2.cell? ⟨w.heap.size, 5, none⟩ = some (.slice y t.p.length d)) := sx_on HX.out BN2.out
          refine hK.out _ _ hSN2 (fun _ => ?_)
          clear hK K
          try simp only [List.setIfInBounds_toArray]
          try simp only [List.set_cons_zero, List.set_cons_succ]
          refine takeW (i := 10) (d := 16) (v := .agg #[.int .i64 t.k, .string t.s, .int .i64 t.n, .int .i64 0, .slice none 0 0, .slice p5 t.p.length c5]) rfl rfl (by kernel_rfl) (by kernel_rfl) (by kernel_rfl) (fun _ _ _ h => h) (by rfl) (fun w' hSw => by obtain ⟨x0, x1, x2, x5⟩ := hSw; go_simp) hSN2 ?_
          try simp only [List.setIfInBounds_toArray, List.set_cons_zero, List.set_cons_succ]
          refine wpAnyH_ready (rs := [11]) (by kernel_rfl) (by simp) ?_
          refine AllReadyH.cons rfl (fun K hK => ?_) AllReadyH.nil
          rw [if_pos (by rfl)]
          try go_simp
          obtain ⟨N3, hN3⟩ : ∃ N3, N3 = N2.alloc (.cells zeroN 25) := ⟨_, rfl⟩
          obtain ⟨ob, hob⟩ : ∃ ob, ob = N2.heap.size := ⟨_, rfl⟩
          change K _ (N2.alloc (.cells zeroN 25))
          rw [← hN3]
          try rw [← hob]
          have BN3 : Hid (Below V.heap.size V N3) := Lib.hid (by rw [hN3]; exact BN2.out.alloc BN2.out.size _)
          have XN3 : Hid (Box N3 ob zeroN) := Lib.hid (by rw [hN3, hob]; exact box_new _ _)
          have hobV : V.heap.size ≤ ob := by rw [hob]; exact BN2.out.size
          have HEN3 := Lib.hid hN3
          have HOB := Lib.hid hob
          clear hN3 hob
          have PN3 := Lib.hid (PN2.out.after (w' := N3) (by rw [HEN3.out]; exact below_new _ _))
          have HNE : Hid (some ob ≠ (Value.slice p5 t.p.length c5).ownBlock) := Lib.hid (fun e => by have h1 := hsb2 ob e; have h2 := ho.lt ob e.symm; have h3 := HOB.out; omega)
          clear ho hg hwh hsb2
          have hSN3 : (N3.cell? ⟨w.heap.size, 0, none⟩ = some (.int .i64 t.k) ∧ N3.cell? ⟨w.heap.size, 1, none⟩ = some (.string t.s) ∧ N3.cell? ⟨w.heap.size, 2, none⟩ = some (.int .i64 t.n) ∧ N3.cell? ⟨w.heap.size, 5, none⟩ = some (.slice y t.p.length d)) := sx_on HX.out BN3.out
          refine hK.out _ _ hSN3 (fun _ => ?_)
          clear hK K
          try simp only [Act.put]
          try simp only [List.setIfInBounds_toArray]
          try simp only [List.set_cons_zero, List.set_cons_succ]
          refine wpAnyH_ready (rs := [12]) (by kernel_rfl) (by simp) ?_
          refine AllReadyH.cons rfl (fun K hK => ?_) AllReadyH.nil
          rw [if_pos (by rfl)]
          refine wp_store_row 25 (.tmp 3) (.tmp 16) rfl ob (ndC t.k t.s t.n 0 (.slice none 0 0) (.slice p5 t.p.length c5)) rfl rfl 25 zeroN XN3.out.row HI rfl (nd_one _ _ _ _ _ _ _ _ _ _) ?_
          refine hK.out _ _ (sx_on HX.out (below_setRow BN3.out hobV _)) (fun _ => ?_)
          clear hK K
          try simp only [Act.put]
          refine wpAnyH_done (by kernel_rfl) ?_ _
          go_wp2_with fail
          go_meet
          exact ⟨ob, .slice p5 t.p.length c5, rfl, Lib.hid ⟨_, OwnJ.of HV.out BN3.out XN3.out PN3.out hobV XN3.out.lt HNE.out⟩⟩
        · rw [if_pos (by rfl)]
          try go_simp
          obtain ⟨N2, hN2⟩ : ∃ N2, N2 = N1.alloc (.cells zeroN 25) := ⟨_, rfl⟩
          obtain ⟨ob, hob⟩ : ∃ ob, ob = N1.heap.size := ⟨_, rfl⟩
          change K _ (N1.alloc (.cells zeroN 25))
          rw [← hN2]
          try rw [← hob]
          have BN2 : Hid (Below V.heap.size V N2) := Lib.hid (by rw [hN2]; exact BN1.out.alloc BN1.out.size _)
          have XN2 : Hid (Box N2 ob zeroN) := Lib.hid (by rw [hN2, hob]; exact box_new _ _)
          have hobV : V.heap.size ≤ ob := by rw [hob]; exact BN1.out.size
          have HEN2 := Lib.hid hN2
          have HOB := Lib.hid hob
          clear hN2 hob
          have hSN2 : (N2.cell? ⟨w.heap.size, 0, none⟩ = some (.int .i64 t.k) ∧ N2.cell? ⟨w.heap.size, 1, none⟩ = some (.string t.s) ∧ N2.cell? ⟨w.heap.size, 2, none⟩ = some (.int .i64 t.n) ∧ N2.cell? ⟨w.heap.size, 5, none⟩ = some (.slice y t.p.length d)) := sx_on HX.out BN2.out
          refine hK.out _ _ hSN2 (fun _ => ?_)
          clear hK K
          try simp only [Act.put]
          try simp only [List.setIfInBounds_toArray]
          try simp only [List.set_cons_zero, List.set_cons_succ]
          refine wpAnyH_ready (rs := [9]) (by kernel_rfl) (by simp) ?_
          refine AllReadyH.cons rfl (fun K hK => ?_) AllReadyH.nil
          rw [if_pos (by rfl)]
          have ON2 := Lib.hid (owns_after ON1.out (w' := N2) (by rw [HEN2.out]; exact below_new _ _))
          have hobs : ob ≠ sb ∧ ob < N2.heap.size := ⟨by have := (ON1.out.lt sb rfl).2; have := HOB.out; omega, XN2.out.lt⟩
          refine op_append_strs _ _ rfl 15 rfl V.heap.size N2 (.slice (some ⟨sb, 0, none⟩) 0 0) 0 [] (.slice y t.p.length d) t.p S rfl ON2.out rfl (HP.out.after BN2.out) (by have := HPL.out; omega) BN2.out.size ?_
          intro p5 c5 N3 ho hg hwh
          rw [Nat.zero_add] at ho hwh ⊢
          rw [List.nil_append] at ho
          have BN3 : Hid (Below V.heap.size V N3) := Lib.hid (BN2.out.grown hg BN2.out.size (fun j hj => by have := (ON2.out.lt j hj).1; omega))
          have PN3 : Hid (PAt N3 (fun b => V.heap.size ≤ b ∧ some b = (Value.slice p5 t.p.length c5).ownBlock) t.p (.slice p5 t.p.length c5)) := Lib.hid (own_pAt ho)
          have hsb2 : ∀ b, some b = (Value.slice p5 t.p.length c5).ownBlock → b = sb ∨ b = N2.heap.size := fun b hb => by
            rcases hwh with e | e
            · rw [e] at hb; exact Or.inl (by simpa [Value.ownBlock] using hb)
            · rw [e] at hb; exact Or.inr (by simpa using hb)
          have XN3 : Hid (Box N3 ob zeroN) := Lib.hid ⟨by rw [hg.block _ hobs.2 (fun e => hobs.1 (by simpa [Value.ownBlock] using e))]; exact XN2.out.row⟩
          have HNE : Hid (some ob ≠ (Value.slice p5 t.p.length c5).ownBlock) := Lib.hid (fun e => by have h1 := hsb2 ob e; omega)
          clear ho hg hwh hsb2 hobs
          have hSN3 : (N3.cell? ⟨w.heap.size, 0, none⟩ = some (.int .i64 t.k) ∧ N3.cell? ⟨w.heap.size, 1, none⟩ = some (.string t.s) ∧ N3.cell? ⟨w.heap.size, 2, none⟩ = some (.int .i64 t.n) ∧ N3.cell? ⟨w.heap.size, 5, none⟩ = some (.slice y t.p.length d)) := sx_on HX.out BN3.out
          refine hK.out _ _ hSN3 (fun _ => ?_)
          clear hK K
          try simp only [List.setIfInBounds_toArray]
          try simp only [List.set_cons_zero, List.set_cons_succ]
          refine takeW (i := 10) (d := 16) (v := .agg #[.int .i64 t.k, .string t.s, .int .i64 t.n, .int .i64 0, .slice none 0 0, .slice p5 t.p.length c5]) rfl rfl (by kernel_rfl) (by kernel_rfl) (by kernel_rfl) (fun _ _ _ h => h) (by rfl) (fun w' hSw => by obtain ⟨x0, x1, x2, x5⟩ := hSw; go_simp) hSN3 ?_
          try simp only [List.setIfInBounds_toArray, List.set_cons_zero, List.set_cons_succ]
          refine wpAnyH_ready (rs := [12]) (by kernel_rfl) (by simp) ?_
          refine AllReadyH.cons rfl (fun K hK => ?_) AllReadyH.nil
          rw [if_pos (by rfl)]
          refine wp_store_row 25 (.tmp 3) (.tmp 16) rfl ob (ndC t.k t.s t.n 0 (.slice none 0 0) (.slice p5 t.p.length c5)) rfl rfl 25 zeroN XN3.out.row HI rfl (nd_one _ _ _ _ _ _ _ _ _ _) ?_
          refine hK.out _ _ (sx_on HX.out (below_setRow BN3.out hobV _)) (fun _ => ?_)
          clear hK K
          try simp only [Act.put]
          refine wpAnyH_done (by kernel_rfl) ?_ _
          go_wp2_with fail
          go_meet
          exact ⟨ob, .slice p5 t.p.length c5, rfl, Lib.hid ⟨_, OwnJ.of HV.out BN3.out XN3.out PN3.out hobV XN3.out.lt HNE.out⟩⟩
      · rw [if_pos (by rfl)]
        try go_simp
        obtain ⟨N1, hN1⟩ : ∃ N1, N1 = V.alloc (.cells zeroN 25) := ⟨_, rfl⟩
        obtain ⟨ob, hob⟩ : ∃ ob, ob = V.heap.size := ⟨_, rfl⟩
        change K _ (V.alloc (.cells zeroN 25))
        rw [← hN1]
        try rw [← hob]
        have BN1 : Hid (Below V.heap.size V N1) := Lib.hid (by rw [hN1]; exact BV.out.alloc BV.out.size _)
        have XN1 : Hid (Box N1 ob zeroN) := Lib.hid (by rw [hN1, hob]; exact box_new _ _)
        have hobV : V.heap.size ≤ ob := by rw [hob]; exact BV.out.size
        have HEN1 := Lib.hid hN1
        have HOB := Lib.hid hob
        clear hN1 hob
        have hSN1 : (N1.cell? ⟨w.heap.size, 0, none⟩ = some (.int .i64 t.k) ∧ N1.cell? ⟨w.heap.size, 1, none⟩ = some (.string t.s) ∧ N1.cell? ⟨w.heap.size, 2, none⟩ = some (.int .i64 t.n) ∧ N1.cell? ⟨w.heap.size, 5, none⟩ = some (.slice y t.p.length d)) := sx_on HX.out BN1.out
        refine hK.out _ _ hSN1 (fun _ => ?_)
        clear hK K
        try simp only [Act.put]
        try simp only [List.setIfInBounds_toArray]
        try simp only [List.set_cons_zero, List.set_cons_succ]
        refine wpAnyH_ready (rs := [6]) (by kernel_rfl) (by simp) ?_
        refine AllReadyH.cons rfl (fun K hK => ?_) AllReadyH.nil
        rw [if_pos (by rfl)]
        go_simp
        obtain ⟨N2, hN2⟩ : ∃ N2, N2 = N1.alloc (.cells #[] 9) := ⟨_, rfl⟩
        obtain ⟨sb, hsb⟩ : ∃ sb, sb = N1.heap.size := ⟨_, rfl⟩
        rw [← hN2]
        try rw [← hsb]
        have BN2 : Hid (Below V.heap.size V N2) := Lib.hid (by rw [hN2]; exact BN1.out.alloc BN1.out.size _)
        have ON2 : Hid (N2.ownsRow V.heap.size 9 1 (.slice (some ⟨sb, 0, none⟩) 0 0) 0 (([] : List ByteArray).map Value.string)) := Lib.hid (by rw [hN2, hsb]; exact World.ownsRow_lit (base := V.heap.size) (e := 9) (size := 1) N1 #[] 0 BN1.out.size (by simp only [maxLen]; omega) (by simp))
        have hsbV : V.heap.size ≤ sb := by rw [hsb]; exact BN1.out.size
        have HEN2 := Lib.hid hN2
        have HSB := Lib.hid hsb
        clear hN2 hsb
        have XN2 : Hid (Box N2 ob zeroN) := Lib.hid (by rw [HEN2.out]; exact XN1.out.after (below_new _ _))
        have hSN2 : (N2.cell? ⟨w.heap.size, 0, none⟩ = some (.int .i64 t.k) ∧ N2.cell? ⟨w.heap.size, 1, none⟩ = some (.string t.s) ∧ N2.cell? ⟨w.heap.size, 2, none⟩ = some (.int .i64 t.n) ∧ N2.cell? ⟨w.heap.size, 5, none⟩ = some (.slice y t.p.length d)) := sx_on HX.out BN2.out
        refine hK.out _ _ hSN2 (fun _ => ?_)
        clear hK K
        try simp only [Act.put]
        try simp only [List.setIfInBounds_toArray]
        try simp only [List.set_cons_zero, List.set_cons_succ]
        refine wpAnyH_ready (rs := [9]) (by kernel_rfl) (by simp) ?_
        refine AllReadyH.cons rfl (fun K hK => ?_) AllReadyH.nil
        rw [if_pos (by rfl)]
        have hobs : ob ≠ sb ∧ ob < N2.heap.size := ⟨by have := XN1.out.lt; have := HSB.out; omega, XN2.out.lt⟩
        refine op_append_strs _ _ rfl 15 rfl V.heap.size N2 (.slice (some ⟨sb, 0, none⟩) 0 0) 0 [] (.slice y t.p.length d) t.p S rfl ON2.out rfl (HP.out.after BN2.out) (by have := HPL.out; omega) BN2.out.size ?_
        intro p5 c5 N3 ho hg hwh
        rw [Nat.zero_add] at ho hwh ⊢
        rw [List.nil_append] at ho
        have BN3 : Hid (Below V.heap.size V N3) := Lib.hid (BN2.out.grown hg BN2.out.size (fun j hj => by have := (ON2.out.lt j hj).1; omega))
        have PN3 : Hid (PAt N3 (fun b => V.heap.size ≤ b ∧ some b = (Value.slice p5 t.p.length c5).ownBlock) t.p (.slice p5 t.p.length c5)) := Lib.hid (own_pAt ho)
        have hsb2 : ∀ b, some b = (Value.slice p5 t.p.length c5).ownBlock → b = sb ∨ b = N2.heap.size := fun b hb => by
          rcases hwh with e | e
          · rw [e] at hb; exact Or.inl (by simpa [Value.ownBlock] using hb)
          · rw [e] at hb; exact Or.inr (by simpa using hb)
        have XN3 : Hid (Box N3 ob zeroN) := Lib.hid ⟨by rw [hg.block _ hobs.2 (fun e => hobs.1 (by simpa [Value.ownBlock] using e))]; exact XN2.out.row⟩
        have HNE : Hid (some ob ≠ (Value.slice p5 t.p.length c5).ownBlock) := Lib.hid (fun e => by have h1 := hsb2 ob e; omega)
        clear ho hg hwh hsb2 hobs
        have hSN3 : (N3.cell? ⟨w.heap.size, 0, none⟩ = some (.int .i64 t.k) ∧ N3.cell? ⟨w.heap.size, 1, none⟩ = some (.string t.s) ∧ N3.cell? ⟨w.heap.size, 2, none⟩ = some (.int .i64 t.n) ∧ N3.cell? ⟨w.heap.size, 5, none⟩ = some (.slice y t.p.length d)) := sx_on HX.out BN3.out
        refine hK.out _ _ hSN3 (fun _ => ?_)
        clear hK K
        try simp only [List.setIfInBounds_toArray]
        try simp only [List.set_cons_zero, List.set_cons_succ]
        refine takeW (i := 10) (d := 16) (v := .agg #[.int .i64 t.k, .string t.s, .int .i64 t.n, .int .i64 0, .slice none 0 0, .slice p5 t.p.length c5]) rfl rfl (by kernel_rfl) (by kernel_rfl) (by kernel_rfl) (fun _ _ _ h => h) (by rfl) (fun w' hSw => by obtain ⟨x0, x1, x2, x5⟩ := hSw; go_simp) hSN3 ?_
        try simp only [List.setIfInBounds_toArray, List.set_cons_zero, List.set_cons_succ]
        refine wpAnyH_ready (rs := [12]) (by kernel_rfl) (by simp) ?_
        refine AllReadyH.cons rfl (fun K hK => ?_) AllReadyH.nil
        rw [if_pos (by rfl)]
        refine wp_store_row 25 (.tmp 3) (.tmp 16) rfl ob (ndC t.k t.s t.n 0 (.slice none 0 0) (.slice p5 t.p.length c5)) rfl rfl 25 zeroN XN3.out.row HI rfl (nd_one _ _ _ _ _ _ _ _ _ _) ?_
        refine hK.out _ _ (sx_on HX.out (below_setRow BN3.out hobV _)) (fun _ => ?_)
        clear hK K
        try simp only [Act.put]
        refine wpAnyH_done (by kernel_rfl) ?_ _
        go_wp2_with fail
        go_meet
        exact ⟨ob, .slice p5 t.p.length c5, rfl, Lib.hid ⟨_, OwnJ.of HV.out BN3.out XN3.out PN3.out hobV XN3.out.lt HNE.out⟩⟩
    case rest =>
      obtain ⟨ob, sp, rfl, HJ0⟩ := hcut
      obtain ⟨base, hJ⟩ := HJ0.out
      have HJ := Lib.hid hJ
      clear HJ0 hJ HV0 S1 P1 V0
      obtain ⟨spp, spc, hsp⟩ := HJ.out.names.shape
      subst hsp
      go_wp2_with fail
      go_loopw [4, 5] (fun z _ wr => ∃ (i : Nat) (px : Option Addr) (cx : Nat) (fs : Nat → Array Value), z = .int .i64 i ∧ i ≤ t.kids.length ∧ Hid (OwnL w wr (ndC t.k t.s t.n t.a (.slice x t.kids.length c) (.slice y t.p.length d)) t ob base (.slice px i cx) (.slice spp t.p.length spc) ((t.kids.take i).map (stripF n)) fs)) (fun z _ _ => t.kids.length - (intOf z).toNat)
      case atStart => exact ⟨0, none, 0, fun _ => zeroN, rfl, by omega, Lib.hid ⟨HJ.out, own_nil _ _ _⟩⟩
      case round =>
        obtain ⟨i, px, cx, fs, rfl, hi, HL⟩ := hrel
        have c4 := (six_nd HL.out.j.arg.six).2.2.2.2.1
        by_cases hgo : i < t.kids.length
        · have HSw := Lib.hid (HS.out.after HL.out.j.below)
          rcases HSw.out with ⟨e, _⟩ | ⟨hl, b, off, c', cs, e, hc, hBb, h8, hat⟩
          · rw [e] at hgo; exact absurd hgo (by simp)
          simp only [Value.slice.injEq] at e
          obtain ⟨rfl, en, rfl⟩ := e
          clear en
          have hT := hat i hgo
          have h8i := h8 i hgo
          obtain ⟨q, hq⟩ : ∃ q, q = t.kids[i] := ⟨_, rfl⟩
          have HQ : Hid ((t.kids.take (i + 1)).map (stripF n) = (t.kids.take i).map (stripF n) ++ [stripF n q]) := Lib.hid (by rw [List.take_succ_eq_append_getElem hgo, List.map_append, hq]; rfl)
          have HC0 := Lib.hid (HI0.out q _ S _ (by rw [hq]; exact hT) (by rw [hq]; exact HG.out _ (List.getElem_mem hgo)) (by rw [hq]; exact HFK.out _ (List.getElem_mem hgo)))
          rw [← hq] at hT
          obtain ⟨ai, ci, pi, di, e, _⟩ := hT.opens
          rw [e] at h8i HC0
          obtain ⟨d0, d1, d2, d3, d4, d5⟩ := six_nd h8i
          obtain ⟨r, hr⟩ : ∃ r, r = stripF n q := ⟨_, rfl⟩
          rw [← hr] at HQ HC0
          have hcc := Lib.hid hc
          clear hT h8i hat h8 e hr hq hl hBb HSw
          go_wp2_with fail
          refine HC0.out.mono ?_
          rintro e w2 ⟨ds, rfl, hA, b2⟩
          obtain ⟨aj, cj, pj, dj, hds, _⟩ := hA.opens
          subst hds
          have HA := Lib.hid hA
          have HL2 := Lib.hid (HL.out.after b2)
          have HVL : Hid (∀ k, (Value.slice px i cx).ownBlock = some k → k < wr.heap.size) := Lib.hid (fun k hk => (HL.out.own.row.lt k hk).2)
          have HBL := Lib.hid (Nat.le_trans HL.out.j.le (Nat.le_refl _))
          clear hA b2 c4 d0 d1 d2 d3 d4 d5
          go_upto_region 6 with (refine wpList_store_row rfl 25 (.tmp 5) (.tmp 29) rfl w2.heap.size (ndC r.k r.s r.n r.a (.slice aj r.kids.length cj) (.slice pj r.p.length dj)) rfl rfl 25 zeroN (heap_alloc_last _ _) HI rfl (nd_one _ _ _ _ _ _ _ _ _ _) ?_)
          obtain ⟨W3, hW3, X3, B3, hs3⟩ := nd_boxed w2 zeroN (ndC r.k r.s r.n r.a (.slice aj r.kids.length cj) (.slice pj r.p.length dj))
          change Code.wp _ _ _ _ ((w2.alloc (Obj.cells zeroN 25)).setRow w2.heap.size (ndC r.k r.s r.n r.a (.slice aj r.kids.length cj) (.slice pj r.p.length dj)))
          rw [← hW3]
          obtain ⟨xb, hxb⟩ : ∃ xb, xb = w2.heap.size := ⟨_, rfl⟩
          rw [← hxb] at X3 hs3 ⊢
          have HL3 := Lib.hid (HL2.out.after B3.out)
          have HA3 := Lib.hid (HA.out.after B3.out)
          have c4 := (six_nd HL3.out.j.out.six).2.2.2.2.1
          have z4 := HL3.out.j.out.z 4
          obtain ⟨e0, e1, e2, e3, e4, e5⟩ := six_nd X3.out.six
          have hbe := below_new W3 (.cells (ndC r.k r.s r.n r.a (.slice aj r.kids.length cj) (.slice pj r.p.length dj)) 25)
          have HL4 := Lib.hid (HL3.out.after hbe)
          have HA4 := Lib.hid (HA3.out.after hbe)
          have row5 : Hid ((W3.alloc (.cells (ndC r.k r.s r.n r.a (.slice aj r.kids.length cj) (.slice pj r.p.length dj)) 25)).heap[W3.heap.size]? = some (.cells (ndC r.k r.s r.n r.a (.slice aj r.kids.length cj) (.slice pj r.p.length dj)) 25 (0, 0))) := Lib.hid (heap_alloc_last W3 _)
          have HW3 := Lib.hid hW3
          have HXB := Lib.hid hxb
          clear hW3 hbe hxb
          obtain ⟨i0, hi0', hz0, hz1, hz2⟩ := info_parts info_nd3
          have HM : Hid (((t.kids.take i).map (stripF n)).length = i) := Lib.hid (by simp; omega)
          have HO4 : Hid ((W3.alloc (.cells (ndC r.k r.s r.n r.a (.slice aj r.kids.length cj) (.slice pj r.p.length dj)) 25)).ownsRow base 25 6 (.slice px i cx) i (flatC fs i)) := Lib.hid (by have h := HL4.out.own.row; rw [HM.out] at h; exact h)
          go_wp2_with (at_builtin; refine wpList_append_own_at _ rfl _ _ 22 rfl base 25 i0 (.agg #[.int .i64 0, .string ⟨#[]⟩, .int .i64 0, .int .i64 0, .slice none 0 0, .slice none 0 0]) 6 88 Tryz.underlying22 hi0' hz0 hz1 hz2 rfl (by decide) _ _ _ rfl HO4.out ⟨W3.heap.size, 0, none⟩ 1 1 (ndC r.k r.s r.n r.a (.slice aj r.kids.length cj) (.slice pj r.p.length dj)).toList rfl rfl ?c1 ?c2 ?c3 ?c4 ?c5 ?_)
          case c1 =>
            intro j u hj
            have e : (⟨W3.heap.size, 0, none⟩ : Addr).add j = ⟨W3.heap.size, j, none⟩ := by unfold Addr.add; split <;> simp_all
            rw [e]
            exact (cell_of_row _ _ j _ _ _ row5.out).trans (by simpa using hj)
          case c2 =>
            intro u hu
            have h := nd_one r.k r.s r.n r.a aj r.kids.length cj pj r.p.length dj
            rw [Array.all_eq_true_iff_forall_mem] at h
            exact h u (by simpa using hu)
          case c3 => unfold maxLen; omega
          case c4 => omega
          case c5 => exact HL4.out.j.le
          intro v' w4 hown' hgrow _ hwhere
          obtain ⟨a1, c1, hv'⟩ := nd_slice hown'
          subst hv'
          have HPUT := Lib.hid (HL4.out.put HA4.out HL.out.j.le HVL.out (by rw [HM.out]; exact hown') hgrow (hwhere.imp id (fun h => by rw [World.size_alloc]; exact h)))
          have hoo : w4.heap[ob]? = some (.cells (ndC t.k t.s t.n 0 (.slice px i cx) (.slice spp t.p.length spc)) 25 (0, 0)) := by
            rw [hgrow.block ob HL4.out.j.out.lt (fun e => by have := (HL4.out.own.row.lt ob e.symm).1; have := HL4.out.j.lt; omega)]
            exact HL4.out.j.out.row
          have c4' : w4.cell? ⟨ob, 4, none⟩ = some (.slice px i cx) := cell_of_row _ _ 4 _ _ _ hoo
          have z4' : w4.frozen? ⟨ob, 4, none⟩ = false := frozen_of_row _ _ 4 _ _ hoo
          clear hown' hgrow hwhere hoo hi0' hz0 hz1 hz2 c4 z4 e0 e1 e2 e3 e4 e5
          go_wp2_with fail
          go_roundw
          case rel => exact ⟨i + 1, a1, c1, _, by go_num, by omega, Lib.hid (by rw [HQ.out]; exact HPUT.out)⟩
          case measure => simp [intOf]; omega
        · have hin : i = t.kids.length := by omega
          subst hin
          have HT : Hid ((t.kids.take t.kids.length).map (stripF n) = t.kids.map (stripF n)) := Lib.hid (by rw [List.take_length])
          obtain ⟨e0, e1, e2, e3, e4, e5⟩ := six_nd HL.out.j.out.six
          go_wp2_with (refine wpList_store_row rfl 25 (.tmp 2) (.tmp 36) rfl (w.heap.size + 1) (ndC t.k t.s t.n 0 (.slice px t.kids.length cx) (.slice spp t.p.length spc)) rfl rfl 25 zeroN HL.out.j.res.row HI rfl (nd_one _ _ _ _ _ _ _ _ _ _) ?_)
          refine bodyPost_ret (v := .agg (ndC t.k t.s t.n 0 (.slice px t.kids.length cx) (.slice spp t.p.length spc))) (results_cell_row (by rfl) _ _ (w.heap.size + 1) 25 _ (0, 0) _ (by rfl) (HL.out.j.res.setRow _).row Tryz.underlying25 (by rfl) HI) rfl ?_
          have hlow := HL.out.j.low
          have hlt := HL.out.j.lt
          have hS1 := (HL.out.own.slAt).keep (w' := wr.setRow (w.heap.size + 1) (ndC t.k t.s t.n 0 (.slice px t.kids.length cx) (.slice spp t.p.length spc))) (fun k hk _ => Go.setRow_other _ _ _ _ (by have : base ≤ k := hk; omega))
          have hP1 := (HL.out.j.names).keep (w' := wr.setRow (w.heap.size + 1) (ndC t.k t.s t.n 0 (.slice px t.kids.length cx) (.slice spp t.p.length spc))) (fun k hk _ => Go.setRow_other _ _ _ _ (by omega))
          refine ⟨_, rfl, ?_, below_setRow HL.out.j.below (by omega) _⟩
          have := (hS1.weakS (T := Up w.heap.size) (fun k hk => by have : base ≤ k := hk; show w.heap.size ≤ k; omega)).shut (hP1.weakS (T := Up w.heap.size) (fun k hk => by show w.heap.size ≤ k; omega)) t.k t.s t.n 0
          rw [HT.out] at this
          exact this
end Go.Proofs.YtgdlpldngpoadaaGreatDoor
