/- ref.Same at two lays of one tree: a walk. -/
import Derived.Test.YtdhndfmblmcapaaDoorCan
namespace Go.Proofs.YtdhndfmblmcapaaDoor
open Go.RowKit

/-- So many storeys, none too wide. -/
def Low : Nat → Tree → Prop
  | 0, _ => False
  | n + 1, t => t.kids.length ≤ 1000000 ∧ ∀ c, c ∈ t.kids → Low n c
theorem low_good : ∀ (n : Nat) (within : Int) (t : Tree), Good n within t → Low n t := by
  intro n
  induction n with
  | zero => intro within t h; exact h.elim
  | succ n ih => intro within t h; exact ⟨h.1.few, fun c hc => ih t.k c (h.2 c hc)⟩

theorem keep18 {w0 w1 w2 : World} {a0 a1 a2 a3 a4 a5 a6 a7 a8 a9 a10 a11 a12 a13 a14 a15 a16 a17 : Addr} {v0 v1 v2 v3 v4 v5 v6 v7 v8 v9 v10 v11 v12 v13 v14 v15 v16 v17 : Value} (h : Hid (Below w0.heap.size w0 w1) ∧ w1.cell? a0 = some v0 ∧ w1.cell? a1 = some v1 ∧ w1.cell? a2 = some v2 ∧ w1.cell? a3 = some v3 ∧ w1.cell? a4 = some v4 ∧ w1.cell? a5 = some v5 ∧ w1.cell? a6 = some v6 ∧ w1.cell? a7 = some v7 ∧ w1.cell? a8 = some v8 ∧ w1.cell? a9 = some v9 ∧ w1.cell? a10 = some v10 ∧ w1.cell? a11 = some v11 ∧ w1.cell? a12 = some v12 ∧ w1.cell? a13 = some v13 ∧ w1.cell? a14 = some v14 ∧ w1.cell? a15 = some v15 ∧ w1.cell? a16 = some v16 ∧ w1.cell? a17 = some v17) (hb : Below w1.heap.size w1 w2) :
    Hid (Below w0.heap.size w0 w2) ∧ w2.cell? a0 = some v0 ∧ w2.cell? a1 = some v1 ∧ w2.cell? a2 = some v2 ∧ w2.cell? a3 = some v3 ∧ w2.cell? a4 = some v4 ∧ w2.cell? a5 = some v5 ∧ w2.cell? a6 = some v6 ∧ w2.cell? a7 = some v7 ∧ w2.cell? a8 = some v8 ∧ w2.cell? a9 = some v9 ∧ w2.cell? a10 = some v10 ∧ w2.cell? a11 = some v11 ∧ w2.cell? a12 = some v12 ∧ w2.cell? a13 = some v13 ∧ w2.cell? a14 = some v14 ∧ w2.cell? a15 = some v15 ∧ w2.cell? a16 = some v16 ∧ w2.cell? a17 = some v17 := by
  obtain ⟨h0, e0, e1, e2, e3, e4, e5, e6, e7, e8, e9, e10, e11, e12, e13, e14, e15, e16, e17⟩ := h
  have keep : ∀ {a : Addr} {v : Value}, w1.cell? a = some v → w2.cell? a = some v := fun {a v} e => by rw [hb.cell (p := a) (cell_lt e)]; exact e
  exact ⟨Lib.hid (Below.step h0.out hb), keep e0, keep e1, keep e2, keep e3, keep e4, keep e5, keep e6, keep e7, keep e8, keep e9, keep e10, keep e11, keep e12, keep e13, keep e14, keep e15, keep e16, keep e17⟩

set_option maxRecDepth 100000 in
theorem same_spec (n : Nat) : ∀ (t : Tree) (cs ds : Array Value) (S T : Nat → Prop) (w : World), At w S t cs → At w T t ds → Low n t →
    Calls Tryd.prog 16 #[.agg cs, .agg ds] w fun e w' => e = .returned (.bool true) ∧ Below w.heap.size w w' := by
  induction n with
  | zero => intro t cs ds S T w _ _ hg; exact hg.elim
  | succ n ih =>
    intro t cs ds S T w h g hg
    have HI := Lib.hid ih; clear ih
    obtain ⟨sl, rfl, hsl⟩ := h.open
    obtain ⟨sm, rfl, hsm⟩ := g.open
    have HG := Lib.hid hg.2
    have hfew := hg.1
    clear h g hg
    have hsh := hsl.shape
    have hsh2 := hsm.shape
    have hq : ∀ w, (Op.equalIn 10000 24 (.agg #[.int .u64 (t.f 0), .int .u64 (t.f 1), .int .u64 (t.f 2), .int .u64 (t.f 3)]) (.agg #[.int .u64 (t.f 0), .int .u64 (t.f 1), .int .u64 (t.f 2), .int .u64 (t.f 3)])).run Tryd.prog w = .ok true w :=
      fun w => equal_words t.f t.f w true (by simp)
    go_enter Tryd.func16, Tryd.ntmps16
    go_upto_region 1 with (fail)
    obtain ⟨W, hW, hX, hB, hsz⟩ := re_box w (reC t.k t.f t.lo t.hi sl)
    obtain ⟨V, hV, hY, hBV, _⟩ := re_box W (reC t.k t.f t.lo t.hi sm)
    rw [hsz.out] at hY
    change Code.wp _ _ _ _ ((w.alloc (Obj.cells (reC t.k t.f t.lo t.hi sl) 27)).alloc (Obj.cells (reC t.k t.f t.lo t.hi sm) 27))
    rw [← hW, ← hV]
    have hX2 := Lib.hid (hX.out.after hBV.out)
    have hB2 := Lib.hid (Below.step hB.out hBV.out)
    have S1 := Lib.hid (hsl.after hB2.out)
    have S2 := Lib.hid (hsm.after hB2.out)
    clear hW hV hsl hsm hX hB hBV hsz
    obtain ⟨c0, c1, c2, c3, c4, c5, c6, c7⟩ := eight_re hX2.out.eight
    obtain ⟨d0, d1, d2, d3, d4, d5, d6, d7⟩ := eight_re hY.out.eight
    obtain ⟨a, c, rfl⟩ := hsh
    obtain ⟨a2, c', rfl⟩ := hsh2
    go_wp2_with fail
    go_loopw [5] (fun y wr => ∃ i : Nat, y = .int .i64 i ∧ i ≤ t.kids.length ∧ Hid (Below V.heap.size V wr)) (fun y _ => t.kids.length - (intOf y).toNat)
    case atStart => exact ⟨0, rfl, by omega, Lib.hid (Below.refl _ _)⟩
    case round =>
      obtain ⟨i, rfl, hi, hb⟩ := hrel
      clear c0 c1 c2 c3 c4 c5 c6 c7 d0 d1 d2 d3 d4 d5 d6 d7
      have X3 := Lib.hid (hX2.out.after hb.out)
      have Y3 := Lib.hid (hY.out.after hb.out)
      by_cases hgo : i < t.kids.length
      · rcases S1.out with ⟨e, _⟩ | ⟨hl, b, off, c1', cs, e, hc, hBb, h8, hat⟩
        · rw [e] at hgo; exact absurd hgo (by simp)
        rcases S2.out with ⟨e', _⟩ | ⟨_, b2, off2, c2', cs2, e', hc', hBb2, h8', hat'⟩
        · rw [e'] at hgo; exact absurd hgo (by simp)
        simp only [Value.slice.injEq] at e e'
        obtain ⟨rfl, _, rfl⟩ := e
        obtain ⟨rfl, _, rfl⟩ := e'
        have hT := (hat i hgo).after hb.out
        have hU := (hat' i hgo).after hb.out
        obtain ⟨ai, ci, e, _⟩ := hT.opens
        obtain ⟨aj, cj, e', _⟩ := hU.opens
        have E1 := (h8 i hgo).after hT.size hb.out
        have E2 := (h8' i hgo).after hU.size hb.out
        rw [e] at E1 hT
        rw [e'] at E2 hU
        have HK := Lib.hid (fun V (hv : Below wr.heap.size wr V) => HI.out t.kids[i] _ _ S T V (hT.after hv) (hU.after hv) (HG.out _ (List.getElem_mem hgo)))
        have H0 : Hid (Hid (Below wr.heap.size wr wr) ∧ wr.cell? ⟨w.heap.size, 7, none⟩ = some (.slice (some ⟨b, off, none⟩) t.kids.length c) ∧ wr.cell? ⟨(w.heap.size + 1), 7, none⟩ = some (.slice (some ⟨b2, off2, none⟩) t.kids.length c') ∧ wr.cell? ⟨b, (off + i * 8), none⟩ = some (.int .i64 t.kids[i].k) ∧ wr.cell? ⟨b, (off + i * 8) + 1, none⟩ = some (.int .u64 (t.kids[i].f 0)) ∧ wr.cell? ⟨b, (off + i * 8) + 2, none⟩ = some (.int .u64 (t.kids[i].f 1)) ∧ wr.cell? ⟨b, (off + i * 8) + 3, none⟩ = some (.int .u64 (t.kids[i].f 2)) ∧ wr.cell? ⟨b, (off + i * 8) + 4, none⟩ = some (.int .u64 (t.kids[i].f 3)) ∧ wr.cell? ⟨b, (off + i * 8) + 5, none⟩ = some (.int .i64 t.kids[i].lo) ∧ wr.cell? ⟨b, (off + i * 8) + 6, none⟩ = some (.int .i64 t.kids[i].hi) ∧ wr.cell? ⟨b, (off + i * 8) + 7, none⟩ = some (.slice ai t.kids[i].kids.length ci) ∧ wr.cell? ⟨b2, (off2 + i * 8), none⟩ = some (.int .i64 t.kids[i].k) ∧ wr.cell? ⟨b2, (off2 + i * 8) + 1, none⟩ = some (.int .u64 (t.kids[i].f 0)) ∧ wr.cell? ⟨b2, (off2 + i * 8) + 2, none⟩ = some (.int .u64 (t.kids[i].f 1)) ∧ wr.cell? ⟨b2, (off2 + i * 8) + 3, none⟩ = some (.int .u64 (t.kids[i].f 2)) ∧ wr.cell? ⟨b2, (off2 + i * 8) + 4, none⟩ = some (.int .u64 (t.kids[i].f 3)) ∧ wr.cell? ⟨b2, (off2 + i * 8) + 5, none⟩ = some (.int .i64 t.kids[i].lo) ∧ wr.cell? ⟨b2, (off2 + i * 8) + 6, none⟩ = some (.int .i64 t.kids[i].hi) ∧ wr.cell? ⟨b2, (off2 + i * 8) + 7, none⟩ = some (.slice aj t.kids[i].kids.length cj)) := by
          obtain ⟨p0, p1, p2, p3, p4, p5, p6, p7⟩ := eight_re E1
          obtain ⟨q0, q1, q2, q3, q4, q5, q6, q7⟩ := eight_re E2
          exact Lib.hid ⟨Lib.hid (Below.refl _ _), by simpa using (eight_re X3.out.eight).2.2.2.2.2.2.2, by simpa using (eight_re Y3.out.eight).2.2.2.2.2.2.2, p0, p1, p2, p3, p4, p5, p6, p7, q0, q1, q2, q3, q4, q5, q6, q7⟩
        have hc1 := Lib.hid hc
        clear e e' hT hU h8 hat h8' hat' E1 E2
        obtain ⟨c0, c1, c2, c3, c4, c5, c6, c7⟩ := eight_re X3.out.eight
        go_upto_region 6 with (fail)
        clear c0 c1 c2 c3 c4 c5 c6 c7
        go_region_held3 (fun w' => Hid (Below wr.heap.size wr w') ∧ w'.cell? ⟨w.heap.size, 7, none⟩ = some (.slice (some ⟨b, off, none⟩) t.kids.length c) ∧ w'.cell? ⟨(w.heap.size + 1), 7, none⟩ = some (.slice (some ⟨b2, off2, none⟩) t.kids.length c') ∧ w'.cell? ⟨b, (off + i * 8), none⟩ = some (.int .i64 t.kids[i].k) ∧ w'.cell? ⟨b, (off + i * 8) + 1, none⟩ = some (.int .u64 (t.kids[i].f 0)) ∧ w'.cell? ⟨b, (off + i * 8) + 2, none⟩ = some (.int .u64 (t.kids[i].f 1)) ∧ w'.cell? ⟨b, (off + i * 8) + 3, none⟩ = some (.int .u64 (t.kids[i].f 2)) ∧ w'.cell? ⟨b, (off + i * 8) + 4, none⟩ = some (.int .u64 (t.kids[i].f 3)) ∧ w'.cell? ⟨b, (off + i * 8) + 5, none⟩ = some (.int .i64 t.kids[i].lo) ∧ w'.cell? ⟨b, (off + i * 8) + 6, none⟩ = some (.int .i64 t.kids[i].hi) ∧ w'.cell? ⟨b, (off + i * 8) + 7, none⟩ = some (.slice ai t.kids[i].kids.length ci) ∧ w'.cell? ⟨b2, (off2 + i * 8), none⟩ = some (.int .i64 t.kids[i].k) ∧ w'.cell? ⟨b2, (off2 + i * 8) + 1, none⟩ = some (.int .u64 (t.kids[i].f 0)) ∧ w'.cell? ⟨b2, (off2 + i * 8) + 2, none⟩ = some (.int .u64 (t.kids[i].f 1)) ∧ w'.cell? ⟨b2, (off2 + i * 8) + 3, none⟩ = some (.int .u64 (t.kids[i].f 2)) ∧ w'.cell? ⟨b2, (off2 + i * 8) + 4, none⟩ = some (.int .u64 (t.kids[i].f 3)) ∧ w'.cell? ⟨b2, (off2 + i * 8) + 5, none⟩ = some (.int .i64 t.kids[i].lo) ∧ w'.cell? ⟨b2, (off2 + i * 8) + 6, none⟩ = some (.int .i64 t.kids[i].hi) ∧ w'.cell? ⟨b2, (off2 + i * 8) + 7, none⟩ = some (.slice aj t.kids[i].kids.length cj))
          (first | exact keep18 H0.out (below_drew _) | exact keep18 (by assumption) (by assumption) | assumption)
          (first | (go_at_call 16; refine (HK.out _ ?_).mono ?_; exact below_drew _; rintro e w1 ⟨rfl, b1⟩))
        have HE := Lib.hid (And.left (show Hid (Below wr.heap.size wr _) ∧ _ by assumption))
        have B2 := Lib.hid (Below.step hb.out HE.out.out)
        clear HE
        go_wp2_with fail
        go_roundw
        case rel => exact ⟨i + 1, by go_num, by omega, B2⟩
        case measure => simp [intOf]; omega
      · obtain ⟨c0, c1, c2, c3, c4, c5, c6, c7⟩ := eight_re X3.out.eight
        go_wp2_with fail
        go_ret
        exact ⟨rfl, Below.step hB2.out hb.out⟩
end Go.Proofs.YtdhndfmblmcapaaDoor
