/- Merged by program: CountsW. -/
import Derived.Test.YtfhnbpilbbbckaaGreatDoorHbh
import Derived.Test.YtfhnbpilbbbckaaGreatDoorHax
import Derived.Test.YtfhnbpilbbbckaaGreatDoorJab
import Derived.Test.YtfhnbpilbbbckaaGreatDoorKae
import Derived.Test.YtfhnbpilbbbckaaGreatDoorHau
/- FormatCounts: a walk. -/
namespace Go.Proofs.YtfhnbpilbbbckaaGreatDoor
open Go.RowKit

theorem grown_but {w w' : World} {ob n c : Nat} (hg : w.grownBy w' (Value.slice (some ⟨ob, 0, none⟩) n c).ownBlock) : But (· = ob) w w' :=
  ⟨hg.os, hg.tape, hg.output, hg.size, fun k hk hn => hg.block k hk (fun e => hn (by injection e))⟩
theorem one_more (W : World) (k0 n0 : Int) (s0 : ByteArray) : CellsAt (W.alloc (.cells #[.int .i64 k0, .int .i64 n0, .string s0] 30)) (some ⟨W.heap.size, 0, none⟩) 1 1 [⟨k0, n0, s0⟩] := by
  refine ⟨rfl, by omega, by omega, fun e => by simp at e, Or.inr ⟨W.heap.size, 0, rfl, fun j y hj => ?_⟩⟩
  have hj0 : j = 0 := by have := (List.getElem?_eq_some_iff.1 hj).1; simpa using this
  subst hj0
  simp at hj
  subst hj
  refine ⟨?_, ?_, ?_⟩ <;> simp [go_sem]
theorem box_on {w V W : World} {k0 n0 : Int} {s0 : ByteArray} (h : Hid (V.cell? ⟨w.heap.size, 0, none⟩ = some (.int .i64 k0) ∧ V.cell? ⟨w.heap.size, 1, none⟩ = some (.int .i64 n0) ∧ V.cell? ⟨w.heap.size, 2, none⟩ = some (.string s0))) (hb : Hid (Below V.heap.size V W)) :
    Hid (Below V.heap.size V W) ∧ W.cell? ⟨w.heap.size, 0, none⟩ = some (.int .i64 k0) ∧ W.cell? ⟨w.heap.size, 1, none⟩ = some (.int .i64 n0) ∧ W.cell? ⟨w.heap.size, 2, none⟩ = some (.string s0) := by
  obtain ⟨h0, h1, h2⟩ := h.out
  have key : ∀ (o : Nat) (v : Value), V.cell? ⟨w.heap.size, o, none⟩ = some v → W.cell? ⟨w.heap.size, o, none⟩ = some v := fun o v hv => by
    rw [hb.out.cell (p := ⟨w.heap.size, o, none⟩) (cell_lt hv)]; exact hv
  exact ⟨hb, key _ _ h0, key _ _ h1, key _ _ h2⟩

set_option maxRecDepth 100000 in
/-- append of cells to a row of the call's own, at an operation. -/
theorem op_append_cells {o : Oper} {a : Act} {K : Act → World → Prop} {Q : Exit → Act → World → Prop} (s x : Operand)
    (ho : o.op = .call { callee := .builtin .append, args := #[s, x], argTypes := #[22, 22] }) (base : Nat) (w : World) (v : Value) (k : Nat) (l : List Cel) (q : Option Addr) (n c : Nat) (m : List Cel)
    (hs : a.eval s = v) (hown : w.ownsRow base 30 3 v k (cvals l)) (hx : a.eval x = .slice q n c) (hm : CellsAt w q n c m) (hk : k + n ≤ 1000000) (hbase : base ≤ w.heap.size)
    (h : ∀ p' c' w', w'.ownsRow base 30 3 (.slice p' (k + n) c') (k + n) (cvals (l ++ m)) → w.grownBy w' v.ownBlock → K (a.put o.dst (.slice p' (k + n) c')) w') :
    o.wp Tryz.prog a w K Q := by
  obtain ⟨i0, hi, hz0, hz1, hz2⟩ := info_parts info_cell
  have hlen := hm.len
  cases q with
  | none =>
    have hc0 := hm.nil rfl
    have hn0 : n = 0 := by have := hm.room; omega
    have hml : m = [] := List.eq_nil_of_length_eq_zero (by omega)
    subst hn0 hc0 hml
    obtain ⟨p', c', rfl⟩ : ∃ p' c', v = .slice p' k c' := by
      rcases hown.2 with ⟨hv, h0⟩ | ⟨g, cap, cur, hv, _⟩
      · rw [h0]; exact ⟨_, _, hv⟩
      · exact ⟨_, _, hv⟩
    have hrun := run_append_owned_none (P := Tryz.prog) (w := w) base 22 o.type 30 i0 3 Tryz.underlying22 hi _ k _ hown
    have := h p' c' w (by rw [List.append_nil, Nat.add_zero]; exact hown) (World.grownBy.refl _ _)
    rw [Nat.add_zero] at this
    unfold Oper.wp execOp
    simp only [ho, resolve, invoke, builtin, Sem.run_bind, Sem.run_pure, Result.andThen_ok, List.map_toArray, List.map_cons, List.map_nil, hs, hx, hrun]
    exact this
  | some ad =>
    obtain ⟨v', w', hr, hown', hg, _, _⟩ := run_append_own_at (P := Tryz.prog) (w := w) base 22 o.type 30 i0 (.agg #[.int .i64 0, .int .i64 0, .string ⟨#[]⟩]) 3 32 Tryz.underlying22 hi hz0 hz1 hz2 rfl (by decide) v k (cvals l) hown ad n c (cvals m) (by rw [cvals_len, hlen]) (cells_read hm rfl) (cvals_one m) (by simp only [maxLen]; omega) (by omega) hbase
    rw [← cvals_append] at hown'
    obtain ⟨p', c', rfl⟩ : ∃ p' c', v' = .slice p' (k + n) c' := by
      rcases hown'.2 with ⟨hv, h0⟩ | ⟨g, cap, cur, hv, _⟩
      · rw [h0]; exact ⟨_, _, hv⟩
      · exact ⟨_, _, hv⟩
    unfold Oper.wp execOp
    simp only [ho, resolve, invoke, builtin, Sem.run_bind, Sem.run_pure, Result.andThen_ok, List.map_toArray, List.map_cons, List.map_nil, hs, hx, hr]
    exact h p' c' w' hown' hg

theorem hd_more (d : Dir) (cs x : List Cel) (h : takesD d ≤ cs.length) : (d.wide = -2 → hdC (cs ++ x) = hdC cs) ∧ (d.prec = -2 → hdC (fillC d.wide (cs ++ x)) = hdC (fillC d.wide cs)) ∧ (d.letter ≠ 37 → hdC (leftC d (cs ++ x)) = hdC (leftC d cs)) := by
  unfold takesD at h
  unfold leftC fillC
  by_cases h1 : d.wide = -2
  · by_cases h2 : d.prec = -2
    · by_cases h3 : d.letter = 37
      · simp only [h1, h2, h3, if_true] at h ⊢
        match cs, h with
        | c1 :: c2 :: cs, _ => exact ⟨fun _ => rfl, fun _ => rfl, fun hh => absurd rfl hh⟩
      · simp only [h1, h2, h3, if_true, if_false] at h ⊢
        match cs, h with
        | c1 :: c2 :: c3 :: cs, _ => exact ⟨fun _ => rfl, fun _ => rfl, fun _ => rfl⟩
    · by_cases h3 : d.letter = 37
      · simp only [h1, h2, h3, if_true, if_false] at h ⊢
        match cs, h with
        | c1 :: cs, _ => exact ⟨fun _ => rfl, fun hh => hh.elim, fun hh => absurd rfl hh⟩
      · simp only [h1, h2, h3, if_true, if_false] at h ⊢
        match cs, h with
        | c1 :: c2 :: cs, _ => exact ⟨fun _ => rfl, fun hh => hh.elim, fun _ => rfl⟩
  · by_cases h2 : d.prec = -2
    · by_cases h3 : d.letter = 37
      · simp only [h1, h2, h3, if_true, if_false] at h ⊢
        match cs, h with
        | c1 :: cs, _ => exact ⟨fun hh => hh.elim, fun _ => rfl, fun hh => absurd rfl hh⟩
      · simp only [h1, h2, h3, if_true, if_false] at h ⊢
        match cs, h with
        | c1 :: c2 :: cs, _ => exact ⟨fun hh => hh.elim, fun _ => rfl, fun _ => rfl⟩
    · by_cases h3 : d.letter = 37
      · exact ⟨fun hh => absurd hh h1, fun hh => absurd hh h2, fun hh => absurd h3 hh⟩
      · simp only [h1, h2, h3, if_false] at h ⊢
        match cs, h with
        | c1 :: cs, _ => exact ⟨fun hh => hh.elim, fun hh => hh.elim, fun _ => rfl⟩
/-- What a format takes is fine; so it is with more cells behind. -/
theorem fed_more : ∀ (q : Nat) (l : List UInt8), l.length ≤ q → ∀ (n : Nat) (cs x : List Cel), countL l = some n → n ≤ cs.length → AllOk cs → Fed l (cs ++ x)
  | _, [], _, _, _, _, _, _, _ => trivial
  | 0, b :: r, hq, _, _, _, _, _, _ => absurd hq (by simp)
  | q + 1, b :: r, hq, n, cs, x, h, hn, hok => by
    have hq' : r.length ≤ q := by simpa using hq
    by_cases hb : b.toNat = 37
    · obtain ⟨d, k, m, hr, hm, rfl, hk⟩ := count_pct hb h
      obtain ⟨_, e2, e3⟩ := dir_more d cs x (by omega)
      obtain ⟨g1, g2, g3⟩ := hd_more d cs x (by omega)
      refine (fed_some hr _ hb).2 ⟨⟨fun e => by rw [g1 e]; exact hok.hd, fun e => by rw [g2 e]; exact (hok.fill _).hd, fun e => by rw [g3 e]; exact ((hok.fill _).fill _).hd⟩, ?_⟩
      rw [e2]
      exact fed_more q (r.drop k) (by rw [List.length_drop]; omega) m (dirC d cs) x hm (by rw [e3, List.length_drop]; omega) (hok.dir d)
    · rw [countL_other hb] at h
      exact (fed_other hb r _).2 (fed_more q r hq' n cs x h hn hok)

set_option maxRecDepth 100000 in
set_option maxHeartbeats 4000000 in
theorem walkCounts (f : ByteArray) (l : List Cel) (p : Option Addr) (n cap : Nat) (k0 n0 : Int) (s0 : ByteArray) (w : World) (hA : ArgC w p n l) (hs0 : s0.size ≤ 1048576) (hE : Env w) :
    Calls Tryz.prog 4 #[.string f, .slice p n cap, .agg #[.int .i64 k0, .int .i64 n0, .string s0]] w fun e w' => e = .returned (.bool true) ∧ Below w.heap.size w w' := by
  have HL := Lib.hid (fun (W : World) (hb : Below w.heap.size w W) => lives_any W (hE.after hb))
  have HE := Lib.hid (fun (W : World) (hb : Below w.heap.size w W) => hE.after hb)
  have B0 := Lib.hid (below_new w (.cells #[.int .i64 k0, .int .i64 n0, .string s0] 30))
  have HCan := Lib.hid (fun W => T9.refCan_any k0 n0 s0 hs0 W)
  obtain ⟨G, hG⟩ : ∃ G, G = T3.canB k0 n0 s0 := ⟨_, rfl⟩
  rw [← hG] at HCan
  clear hG hs0
  by_cases h100 : 100 < f.size
  · have d1 : decide ((100 : Int) < (f.size : Int)) = true := decide_eq_true (by omega)
    go_enter Tryz.func4, Tryz.ntmps4
    go_wp2_with fail
    refine (HL.out _ B0.out).mono ?_
    rintro e w1 ⟨rfl, b1⟩
    have B1 := Lib.hid (Below.step B0.out b1)
    clear b1
    go_wp2_with fail
    go_ret
    exact ⟨rfl, B1.out⟩
  have d1 : decide ((100 : Int) < (f.size : Int)) = false := decide_eq_false (by omega)
  cases G with
  | false =>
    go_enter Tryz.func4, Tryz.ntmps4
    go_wp2_with fail
    refine (HCan.out _).mono ?_
    rintro e w1 ⟨rfl, b1⟩
    have B1 := Lib.hid (Below.step B0.out b1)
    clear b1
    go_wp2_with fail
    refine (HL.out _ B1.out).mono ?_
    rintro e w2 ⟨rfl, b2⟩
    have B2 := Lib.hid (Below.step B1.out b2)
    clear b2
    go_wp2_with fail
    go_ret
    exact ⟨rfl, B2.out⟩
  | true =>
  have hf : f.size ≤ 100 := by omega
  have HC := Lib.hid (fun (W : World) (hb : Below w.heap.size w W) => lawCells_any l p n cap W hA.big hA.len (hA.below hb).cells)
  have hok := pick_ok hA.fits
  have hpl := pick_len l
  unfold CellsOut at HC
  obtain ⟨L, hL⟩ : ∃ L, L = pickC l := ⟨_, rfl⟩
  rw [← hL] at HC hok hpl
  obtain ⟨N, hN⟩ : ∃ N, N = L.length := ⟨_, rfl⟩
  rw [← hN] at HC hpl
  have HN := Lib.hid hN
  have HOk := Lib.hid hok
  have HCp := Lib.hid (fun (W : World) (hb : Below w.heap.size w W) => countP_text f (by omega) W (HE.out W hb))
  have HCr := Lib.hid (fun W => refCount_any f (by omega) W)
  unfold CountOut at HCp HCr
  clear hok hL hN hA h100 hE
  go_enter Tryz.func4, Tryz.ntmps4
  go_wp2_with fail
  have x0 : (w.alloc (.cells #[.int .i64 k0, .int .i64 n0, .string s0] 30)).cell? ⟨w.heap.size, 0, none⟩ = some (.int .i64 k0) := by simp [go_sem]
  have x1 : (w.alloc (.cells #[.int .i64 k0, .int .i64 n0, .string s0] 30)).cell? ⟨w.heap.size, 1, none⟩ = some (.int .i64 n0) := by simp [go_sem]
  have x2 : (w.alloc (.cells #[.int .i64 k0, .int .i64 n0, .string s0] 30)).cell? ⟨w.heap.size, 2, none⟩ = some (.string s0) := by simp [go_sem]
  have HX0 := Lib.hid (⟨x0, x1, x2⟩ : _ ∧ _ ∧ _)
  clear x0 x1 x2
  obtain ⟨w0, hw0⟩ : ∃ w0, w0 = w.alloc (.cells #[.int .i64 k0, .int .i64 n0, .string s0] 30) := ⟨_, rfl⟩
  rw [← hw0] at HX0 B0 ⊢
  clear hw0
  refine (HCan.out _).mono ?_
  rintro e w1 ⟨rfl, b1⟩
  have B1 := Lib.hid (Below.step B0.out b1)
  have T1 := Lib.hid b1
  clear b1
  go_wp2_with fail
  refine (HC.out _ B1.out).mono ?_
  rintro e w2 ⟨q, c, rfl, ho, b2⟩
  have C2 := Lib.hid (own_read ho.out HN.out)
  have B2 := Lib.hid (Below.step B1.out b2)
  have T2 := Lib.hid (Below.step T1.out b2)
  clear ho b2 HCan HC
  have hcap := C2.out.room
  have hbd := C2.out.bound
  cases hcn : countL f.data.toList with
  | none =>
    have HX : Hid (cntN f.data.toList = 0 ∧ cntE f.data.toList = 100) := Lib.hid ⟨by unfold cntN; rw [hcn]; rfl, by unfold cntE; rw [if_pos hcn]⟩
    rw [HX.out.1, HX.out.2] at HCp HCr
    clear HX hcn
    go_wp2_with fail
    refine (HCp.out _ B2.out).mono ?_
    rintro e w3 ⟨rfl, b3⟩
    have B3 := Lib.hid (Below.step B2.out b3)
    clear b3
    go_wp2_with fail
    refine (HCr.out _).mono ?_
    rintro e w4 ⟨rfl, b4⟩
    have B4 := Lib.hid (Below.step B3.out b4)
    clear b4
    go_wp2_with fail
    refine (HL.out _ B4.out).mono ?_
    rintro e w5 ⟨rfl, b5⟩
    have B5 := Lib.hid (Below.step B4.out b5)
    clear b5
    go_wp2_with fail
    go_ret
    exact ⟨rfl, B5.out⟩
  | some m =>
  have HX : Hid (cntN f.data.toList = m ∧ cntE f.data.toList = 0) := Lib.hid ⟨by unfold cntN; rw [hcn]; rfl, by unfold cntE; rw [if_neg (by rw [hcn]; simp)]⟩
  rw [HX.out.1, HX.out.2] at HCp HCr
  have HCn := Lib.hid hcn
  clear HX hcn
  by_cases hm : N < m
  · have d3 : decide ((N : Int) < (m : Int)) = true := decide_eq_true (by omega)
    go_wp2_with fail
    refine (HCp.out _ B2.out).mono ?_
    rintro e w3 ⟨rfl, b3⟩
    have B3 := Lib.hid (Below.step B2.out b3)
    clear b3
    go_wp2_with fail
    refine (HCr.out _).mono ?_
    rintro e w4 ⟨rfl, b4⟩
    have B4 := Lib.hid (Below.step B3.out b4)
    clear b4
    go_wp2_with fail
    refine (HL.out _ B4.out).mono ?_
    rintro e w5 ⟨rfl, b5⟩
    have B5 := Lib.hid (Below.step B4.out b5)
    clear b5
    go_wp2_with fail
    go_ret
    exact ⟨rfl, B5.out⟩
  have d3 : decide ((N : Int) < (m : Int)) = false := decide_eq_false (by omega)
  have hmN : m ≤ N := by omega
  have hs1 := slice_front q N c m (by omega)
  obtain ⟨mo, hmo⟩ : ∃ mo : Cel, mo = ⟨k0, n0, s0⟩ := ⟨_, rfl⟩
  obtain ⟨R1, hR1⟩ : ∃ R1, R1 = doL f.data.toList (L.take m) := ⟨_, rfl⟩
  have hlen : m ≤ (L.take m).length := by rw [List.length_take, ← HN.out]; omega
  have HD1 : Hid (∀ (q : Option Addr) (c : Nat) (W : World), Below w.heap.size w W → CellsAt W q m c (L.take m) → (∀ a, q = some a → a.block < W.heap.size) → Calls Tryz.prog 8 #[.string f, .slice q m c] W (StrErr R1 W)) := Lib.hid (fun q c W hb hC hlow => by
    rw [hR1]; exact doP_text f (by omega) _ q m c W (HE.out W hb) hC hlow (Fed.all (HOk.out.take m) _))
  have HD3 : Hid (∀ (q : Option Addr) (c : Nat) (W : World), Below w.heap.size w W → CellsAt W q (m + 1) c (L.take m ++ [mo]) → (∀ a, q = some a → a.block < W.heap.size) → Calls Tryz.prog 8 #[.string f, .slice q (m + 1) c] W (StrErr R1 W)) := Lib.hid (fun q c W hb hC hlow => by
    have h := doP_text f (by omega) _ q (m + 1) c W (HE.out W hb) hC hlow (fed_more _ _ (Nat.le_refl _) m (L.take m) [mo] HCn.out hlen (HOk.out.take m))
    rw [doL_more HCn.out hlen, ← hR1] at h
    exact h)
  have HMo := Lib.hid hmo
  clear hR1 hlen hm hmo
  obtain ⟨s1, x1⟩ := R1
  go_wp2_with fail
  refine (HCp.out _ B2.out).mono ?_
  rintro e w3 ⟨rfl, b3⟩
  have B3 := Lib.hid (Below.step B2.out b3)
  have T3' := Lib.hid (Below.step T2.out b3)
  have C3 := Lib.hid (C2.out.below b3)
  clear b3
  go_wp2_with fail
  refine (HCr.out _).mono ?_
  rintro e w4 ⟨rfl, b4⟩
  have B4 := Lib.hid (Below.step B3.out b4)
  have T4 := Lib.hid (Below.step T3'.out b4)
  have C4 := Lib.hid (C3.out.below b4)
  clear b4 HCp HCr C2 C3 B1 B2 B3 T1 T2 T3'
  go_wp2_with (at_builtin; (refine wp_copy_cells rfl _ _ rfl w4 q m c (L.take m) rfl rfl (C4.out.front hmN) (by omega) ?_; intro p' c' w5 h5))
  have C5 := Lib.hid h5.out.1
  have L5 := Lib.hid h5.out.2.1
  have B5 := Lib.hid (Below.step B4.out h5.out.2.2.1)
  have T5 := Lib.hid (Below.step T4.out h5.out.2.2.1)
  have K5 := Lib.hid (C4.out.below h5.out.2.2.1)
  clear h5
  go_wp2_with fail
  refine (HD1.out _ _ _ B5.out C5.out L5.out).mono ?_
  rintro e w6 ⟨rfl, b6⟩
  have B6 := Lib.hid (Below.step B5.out b6)
  have T6 := Lib.hid (Below.step T5.out b6)
  have K6 := Lib.hid ((K5.out.below b6).front hmN)
  clear b6 C5 L5 K5 C4 B4 B5 T4 T5 HD1
  go_upto_region 11 with (fail)
  go_cut [13, 14] (fun x y wx => x = .string s1 ∧ y = .int .i64 x1 ∧ Hid (Below w.heap.size w wx))
  case first =>
    obtain ⟨V, hV⟩ : ∃ V, V = w6.drew := ⟨_, rfl⟩
    have BV0 : Hid (Below w.heap.size w V) := Lib.hid (by rw [hV]; exact Below.step B6.out (below_drew _))
    have CV : Hid (CellsAt V q m c (L.take m)) := Lib.hid (by rw [hV]; exact K6.out.below (below_drew _))
    have HX : Hid (V.cell? ⟨w.heap.size, 0, none⟩ = some (.int .i64 k0) ∧ V.cell? ⟨w.heap.size, 1, none⟩ = some (.int .i64 n0) ∧ V.cell? ⟨w.heap.size, 2, none⟩ = some (.string s0)) := Lib.hid (by
      have hb : Below w0.heap.size w0 V := by rw [hV]; exact Below.step T6.out (below_drew _)
      obtain ⟨h0, h1, h2⟩ := HX0.out
      have key : ∀ (o : Nat) (v : Value), w0.cell? ⟨w.heap.size, o, none⟩ = some v → V.cell? ⟨w.heap.size, o, none⟩ = some v := fun o v hv => by
        rw [hb.cell (p := ⟨w.heap.size, o, none⟩) (cell_lt hv)]; exact hv
      exact ⟨key _ _ h0, key _ _ h1, key _ _ h2⟩)
    have HD2 : Hid (∀ (q : Option Addr) (c : Nat) (W : World), Below V.heap.size V W → CellsAt W q (m + 1) c (L.take m ++ [mo]) → (∀ a, q = some a → a.block < W.heap.size) → Calls Tryz.prog 8 #[.string f, .slice q (m + 1) c] W (StrErr (s1, x1) W)) := Lib.hid (fun q c W hb hC hlow => HD3.out q c W (BV0.out.trans (hb.mono BV0.out.size)) hC hlow)
    have BV : Hid (Below V.heap.size V V) := Lib.hid (Below.refl _ _)
    have hS0 : Hid (Below V.heap.size V V) ∧ V.cell? ⟨w.heap.size, 0, none⟩ = some (.int .i64 k0) ∧ V.cell? ⟨w.heap.size, 1, none⟩ = some (.int .i64 n0) ∧ V.cell? ⟨w.heap.size, 2, none⟩ = some (.string s0) := box_on HX BV
    rw [hV] at hS0
    refine wp_region_held_drew (S := fun w' => Hid (Below w6.drew.heap.size w6.drew w') ∧ w'.cell? ⟨w.heap.size, 0, none⟩ = some (.int .i64 k0) ∧ w'.cell? ⟨w.heap.size, 1, none⟩ = some (.int .i64 n0) ∧ w'.cell? ⟨w.heap.size, 2, none⟩ = some (.string s0)) (by kernel_rfl) hS0 (fun hS => ?_)
    rw [← hV] at hS ⊢
    clear hS0
    have hmoe := HMo.out
    subst hmoe
    clear hV B6 T6 K6 HD3 HX0
    refine takeF (i := 0) (d := 64) (v := .string f) rfl rfl (by kernel_rfl) (by kernel_rfl) (by kernel_rfl) (fun _ _ _ h => h) (by rfl) (fun w' hSw => by obtain ⟨_, x0, x1, x2⟩ := hSw; go_simp) hS ?_
    simp only [List.setIfInBounds_toArray, List.set_cons_zero, List.set_cons_succ]
    refine takeF (i := 2) (d := 66) (v := .slice q N c) rfl rfl (by kernel_rfl) (by kernel_rfl) (by kernel_rfl) (fun _ _ _ h => h) (by rfl) (fun w' hSw => by obtain ⟨_, x0, x1, x2⟩ := hSw; go_simp) hS ?_
    simp only [List.setIfInBounds_toArray, List.set_cons_zero, List.set_cons_succ]
    refine takeF (i := 3) (d := 67) (v := .int .i64 (m : Int)) rfl rfl (by kernel_rfl) (by kernel_rfl) (by kernel_rfl) (fun _ _ _ h => h) (by rfl) (fun w' hSw => by obtain ⟨_, x0, x1, x2⟩ := hSw; go_simp) hS ?_
    simp only [List.setIfInBounds_toArray, List.set_cons_zero, List.set_cons_succ]
    refine takeF (i := 4) (d := 68) (v := .slice q m c) rfl rfl (by kernel_rfl) (by kernel_rfl) (by kernel_rfl) (fun _ _ _ h => h) (by rfl) (fun w' hSw => by obtain ⟨_, x0, x1, x2⟩ := hSw; go_simp) hS ?_
    simp only [List.setIfInBounds_toArray, List.set_cons_zero, List.set_cons_succ]
    refine takeF (i := 6) (d := 70) (v := .agg #[.int .i64 k0, .int .i64 n0, .string s0]) rfl rfl (by kernel_rfl) (by kernel_rfl) (by kernel_rfl) (fun _ _ _ h => h) (by rfl) (fun w' hSw => by obtain ⟨_, x0, x1, x2⟩ := hSw; go_simp) hS ?_
    simp only [List.setIfInBounds_toArray, List.set_cons_zero, List.set_cons_succ]
    refine wpAnyH_ready (rs := [1, 7]) (by kernel_rfl) (by simp) ?_
    refine AllReadyH.cons rfl (fun K hK => ?_) (AllReadyH.cons rfl (fun K hK => ?_) AllReadyH.nil)
    · rw [if_pos (by rfl)]
      go_simp
      obtain ⟨X1, hX1⟩ : ∃ X1, X1 = V.alloc (.cells #[] 30) := ⟨_, rfl⟩
      obtain ⟨ob, hob⟩ : ∃ ob, ob = V.heap.size := ⟨_, rfl⟩
      rw [← hX1]
      try rw [← hob]
      have BX1 : Hid (Below V.heap.size V X1) := Lib.hid (by rw [hX1]; exact BV.out.alloc BV.out.size _)
      have CX1 : Hid (CellsAt X1 q m c (L.take m)) := Lib.hid (by rw [hX1]; exact CV.out.below (below_new _ _))
      have OX1 : Hid (X1.ownsRow ob 30 3 (.slice (some ⟨ob, 0, none⟩) 0 0) 0 (cvals [])) := Lib.hid (by rw [hX1, hob]; exact new_own _)
      have hobV : V.heap.size ≤ ob := by rw [hob]; exact BV.out.size
      clear hX1 hob
      have hSX1 : Hid (Below V.heap.size V X1) ∧ X1.cell? ⟨w.heap.size, 0, none⟩ = some (.int .i64 k0) ∧ X1.cell? ⟨w.heap.size, 1, none⟩ = some (.int .i64 n0) ∧ X1.cell? ⟨w.heap.size, 2, none⟩ = some (.string s0) := box_on HX BX1
      refine hK.out _ _ hSX1 (fun _ => ?_)
      clear hK K
      try simp only [Act.put]
      try simp only [List.setIfInBounds_toArray]
      try simp only [List.set_cons_zero, List.set_cons_succ]
      refine wpAnyH_ready (rs := [5, 7]) (by kernel_rfl) (by simp) ?_
      refine AllReadyH.cons rfl (fun K hK => ?_) (AllReadyH.cons rfl (fun K hK => ?_) AllReadyH.nil)
      · rw [if_pos (by rfl)]
        refine op_append_cells _ _ rfl ob X1 (.slice (some ⟨ob, 0, none⟩) 0 0) 0 [] q m c (L.take m) rfl OX1.out rfl CX1.out (by omega) (by have := (OX1.out.lt ob rfl).2; omega) ?_
        intro p5 c5 X2 ho hg
        rw [Nat.zero_add] at ho ⊢
        rw [List.nil_append] at ho
        have BX2 : Hid (Below V.heap.size V X2) := Lib.hid (BX1.out.grown hg BX1.out.size (fun j hj => by have := (OX1.out.lt j hj).1; omega))
        have RX2 := Lib.hid ho
        have hgs := hg.size
        clear ho hg
        have hSX2 : Hid (Below V.heap.size V X2) ∧ X2.cell? ⟨w.heap.size, 0, none⟩ = some (.int .i64 k0) ∧ X2.cell? ⟨w.heap.size, 1, none⟩ = some (.int .i64 n0) ∧ X2.cell? ⟨w.heap.size, 2, none⟩ = some (.string s0) := box_on HX BX2
        refine hK.out _ _ hSX2 (fun _ => ?_)
        clear hK K
        try simp only [Act.put]
        try simp only [List.setIfInBounds_toArray]
        try simp only [List.set_cons_zero, List.set_cons_succ]
        refine wpAnyH_ready (rs := [7]) (by kernel_rfl) (by simp) ?_
        refine AllReadyH.cons rfl (fun K hK => ?_) AllReadyH.nil
        rw [if_pos (by rfl)]
        go_simp
        obtain ⟨X3, hX3⟩ : ∃ X3, X3 = X2.alloc (.cells #[.int .i64 k0, .int .i64 n0, .string s0] 30) := ⟨_, rfl⟩
        obtain ⟨mb, hmb⟩ : ∃ mb, mb = X2.heap.size := ⟨_, rfl⟩
        rw [← hX3]
        try rw [← hmb]
        have BX3 : Hid (Below V.heap.size V X3) := Lib.hid (by rw [hX3]; exact BX2.out.alloc BX2.out.size _)
        have MX3 : Hid (CellsAt X3 (some ⟨mb, 0, none⟩) 1 1 [⟨k0, n0, s0⟩]) := Lib.hid (by rw [hX3, hmb]; exact one_more _ k0 n0 s0)
        have RX3 : Hid (X3.ownsRow ob 30 3 (.slice p5 m c5) m (cvals (L.take m))) := Lib.hid (by rw [hX3]; exact RX2.out.alloc _)
        have hobX : ob ≤ X3.heap.size := by have h1 := (OX1.out.lt ob rfl).2; have h2 := hgs; have h3 : X2.heap.size ≤ X3.heap.size := (by rw [hX3, World.size_alloc]; omega); omega
        clear hX3 hmb
        have hSX3 : Hid (Below V.heap.size V X3) ∧ X3.cell? ⟨w.heap.size, 0, none⟩ = some (.int .i64 k0) ∧ X3.cell? ⟨w.heap.size, 1, none⟩ = some (.int .i64 n0) ∧ X3.cell? ⟨w.heap.size, 2, none⟩ = some (.string s0) := box_on HX BX3
        refine hK.out _ _ hSX3 (fun _ => ?_)
        clear hK K
        try simp only [Act.put]
        try simp only [List.setIfInBounds_toArray]
        try simp only [List.set_cons_zero, List.set_cons_succ]
        refine wpAnyH_ready (rs := [8]) (by kernel_rfl) (by simp) ?_
        refine AllReadyH.cons rfl (fun K hK => ?_) AllReadyH.nil
        rw [if_pos (by rfl)]
        refine op_append_cells _ _ rfl ob X3 (.slice p5 m c5) m (L.take m) (some ⟨mb, 0, none⟩) 1 1 [⟨k0, n0, s0⟩] rfl RX3.out rfl MX3.out (by omega) hobX ?_
        intro p8 c8 X8 ho hg
        have BX8 : Hid (Below V.heap.size V X8) := Lib.hid (BX3.out.grown hg BX3.out.size (fun j hj => by have := (RX3.out.lt j hj).1; omega))
        have A8 := Lib.hid (own_read ho (by rw [List.length_append, List.length_take, ← HN.out]; simp; omega))
        have L8 := Lib.hid (own_low ho)
        clear ho hg
        have hSX8 : Hid (Below V.heap.size V X8) ∧ X8.cell? ⟨w.heap.size, 0, none⟩ = some (.int .i64 k0) ∧ X8.cell? ⟨w.heap.size, 1, none⟩ = some (.int .i64 n0) ∧ X8.cell? ⟨w.heap.size, 2, none⟩ = some (.string s0) := box_on HX BX8
        refine hK.out _ _ hSX8 (fun _ => ?_)
        clear hK K
        try simp only [Act.put]
        try simp only [List.setIfInBounds_toArray]
        try simp only [List.set_cons_zero, List.set_cons_succ]
        refine wpAnyH_ready (rs := [9]) (by kernel_rfl) (by simp) ?_
        refine AllReadyH.cons rfl (fun K hK => ?_) AllReadyH.nil
        rw [if_pos (by rfl)]
        go_simp
        refine (HD2.out _ _ X8 BX8.out A8.out (fun a ha => (L8.out a ha).1)).mono ?_
        rintro e X9 ⟨rfl, b9⟩
        have BX9 : Hid (Below V.heap.size V X9) := Lib.hid (Below.step BX8.out b9)
        clear b9
        go_wp2_with fail
        have hSX9 : Hid (Below V.heap.size V X9) ∧ X9.cell? ⟨w.heap.size, 0, none⟩ = some (.int .i64 k0) ∧ X9.cell? ⟨w.heap.size, 1, none⟩ = some (.int .i64 n0) ∧ X9.cell? ⟨w.heap.size, 2, none⟩ = some (.string s0) := box_on HX BX9
        refine hK.out _ _ hSX9 (fun _ => ?_)
        clear hK K
        try simp only [Act.put]
        try simp only [List.setIfInBounds_toArray]
        try simp only [List.set_cons_zero, List.set_cons_succ]
        refine takeF (i := 10) (d := 63) (v := .tuple #[.string s1, .int .i64 x1]) rfl rfl (by kernel_rfl) (by kernel_rfl) (by kernel_rfl) (fun _ _ _ h => h) (by rfl) (fun w' hSw => by clear hSw; go_simp) hSX9 ?_
        simp only [List.setIfInBounds_toArray, List.set_cons_zero, List.set_cons_succ]
        refine takeF (i := 11) (d := 74) (v := .string s1) rfl rfl (by kernel_rfl) (by kernel_rfl) (by kernel_rfl) (fun _ _ _ h => h) (by rfl) (fun w' hSw => by clear hSw; go_simp) hSX9 ?_
        simp only [List.setIfInBounds_toArray, List.set_cons_zero, List.set_cons_succ]
        refine takeF (i := 12) (d := 75) (v := .int .i64 x1) rfl rfl (by kernel_rfl) (by kernel_rfl) (by kernel_rfl) (fun _ _ _ h => h) (by rfl) (fun w' hSw => by clear hSw; go_simp) hSX9 ?_
        simp only [List.setIfInBounds_toArray, List.set_cons_zero, List.set_cons_succ]
        refine takeF (i := 13) (d := 13) (v := .string s1) rfl rfl (by kernel_rfl) (by kernel_rfl) (by kernel_rfl) (fun _ _ _ h => h) (by rfl) (fun w' hSw => by clear hSw; go_simp) hSX9 ?_
        simp only [List.setIfInBounds_toArray, List.set_cons_zero, List.set_cons_succ]
        refine takeF (i := 14) (d := 14) (v := .int .i64 x1) rfl rfl (by kernel_rfl) (by kernel_rfl) (by kernel_rfl) (fun _ _ _ h => h) (by rfl) (fun w' hSw => by clear hSw; go_simp) hSX9 ?_
        simp only [List.setIfInBounds_toArray, List.set_cons_zero, List.set_cons_succ]
        refine wpAnyH_done (by kernel_rfl) ?_ _
        go_wp2_with fail
        go_meet
        exact ⟨rfl, rfl, Lib.hid (BV0.out.trans (BX9.out.mono BV0.out.size))⟩
      · rw [if_pos (by rfl)]
        go_simp
        obtain ⟨X2, hX2⟩ : ∃ X2, X2 = X1.alloc (.cells #[.int .i64 k0, .int .i64 n0, .string s0] 30) := ⟨_, rfl⟩
        obtain ⟨mb, hmb⟩ : ∃ mb, mb = X1.heap.size := ⟨_, rfl⟩
        rw [← hX2]
        try rw [← hmb]
        have BX2 : Hid (Below V.heap.size V X2) := Lib.hid (by rw [hX2]; exact BX1.out.alloc BX1.out.size _)
        have CX2 : Hid (CellsAt X2 q m c (L.take m)) := Lib.hid (by rw [hX2]; exact CX1.out.below (below_new _ _))
        have MX2 : Hid (CellsAt X2 (some ⟨mb, 0, none⟩) 1 1 [⟨k0, n0, s0⟩]) := Lib.hid (by rw [hX2, hmb]; exact one_more _ k0 n0 s0)
        have hmbN : mb < X2.heap.size := by rw [hX2, hmb, World.size_alloc]; omega
        have OX2 : Hid (X2.ownsRow ob 30 3 (.slice (some ⟨ob, 0, none⟩) 0 0) 0 (cvals [])) := Lib.hid (by rw [hX2]; exact OX1.out.alloc _)
        have hmo : mb ≠ ob := by have := (OX1.out.lt ob rfl).2; omega
        clear hX2 hmb
        have hSX2 : Hid (Below V.heap.size V X2) ∧ X2.cell? ⟨w.heap.size, 0, none⟩ = some (.int .i64 k0) ∧ X2.cell? ⟨w.heap.size, 1, none⟩ = some (.int .i64 n0) ∧ X2.cell? ⟨w.heap.size, 2, none⟩ = some (.string s0) := box_on HX BX2
        refine hK.out _ _ hSX2 (fun _ => ?_)
        clear hK K
        try simp only [Act.put]
        try simp only [List.setIfInBounds_toArray]
        try simp only [List.set_cons_zero, List.set_cons_succ]
        refine wpAnyH_ready (rs := [5]) (by kernel_rfl) (by simp) ?_
        refine AllReadyH.cons rfl (fun K hK => ?_) AllReadyH.nil
        rw [if_pos (by rfl)]
        refine op_append_cells _ _ rfl ob X2 (.slice (some ⟨ob, 0, none⟩) 0 0) 0 [] q m c (L.take m) rfl OX2.out rfl CX2.out (by omega) (by have := (OX2.out.lt ob rfl).2; omega) ?_
        intro p5 c5 X3 ho hg
        rw [Nat.zero_add] at ho ⊢
        rw [List.nil_append] at ho
        have BX3 : Hid (Below V.heap.size V X3) := Lib.hid (BX2.out.grown hg BX2.out.size (fun j hj => by have := (OX2.out.lt j hj).1; omega))
        have RX3 := Lib.hid ho
        have hobX : ob ≤ X3.heap.size := by have h1 := (OX2.out.lt ob rfl).2; have h2 := hg.size; omega
        have MX3 : Hid (CellsAt X3 (some ⟨mb, 0, none⟩) 1 1 [⟨k0, n0, s0⟩]) := Lib.hid (MX2.out.but (P := (· = ob)) (fun a ha => by injection ha with ha; rw [← ha]; exact fun e => hmo e) (grown_but hg))
        clear ho hg
        have hSX3 : Hid (Below V.heap.size V X3) ∧ X3.cell? ⟨w.heap.size, 0, none⟩ = some (.int .i64 k0) ∧ X3.cell? ⟨w.heap.size, 1, none⟩ = some (.int .i64 n0) ∧ X3.cell? ⟨w.heap.size, 2, none⟩ = some (.string s0) := box_on HX BX3
        refine hK.out _ _ hSX3 (fun _ => ?_)
        clear hK K
        try simp only [Act.put]
        try simp only [List.setIfInBounds_toArray]
        try simp only [List.set_cons_zero, List.set_cons_succ]
        refine wpAnyH_ready (rs := [8]) (by kernel_rfl) (by simp) ?_
        refine AllReadyH.cons rfl (fun K hK => ?_) AllReadyH.nil
        rw [if_pos (by rfl)]
        refine op_append_cells _ _ rfl ob X3 (.slice p5 m c5) m (L.take m) (some ⟨mb, 0, none⟩) 1 1 [⟨k0, n0, s0⟩] rfl RX3.out rfl MX3.out (by omega) hobX ?_
        intro p8 c8 X8 ho hg
        have BX8 : Hid (Below V.heap.size V X8) := Lib.hid (BX3.out.grown hg BX3.out.size (fun j hj => by have := (RX3.out.lt j hj).1; omega))
        have A8 := Lib.hid (own_read ho (by rw [List.length_append, List.length_take, ← HN.out]; simp; omega))
        have L8 := Lib.hid (own_low ho)
        clear ho hg
        have hSX8 : Hid (Below V.heap.size V X8) ∧ X8.cell? ⟨w.heap.size, 0, none⟩ = some (.int .i64 k0) ∧ X8.cell? ⟨w.heap.size, 1, none⟩ = some (.int .i64 n0) ∧ X8.cell? ⟨w.heap.size, 2, none⟩ = some (.string s0) := box_on HX BX8
        refine hK.out _ _ hSX8 (fun _ => ?_)
        clear hK K
        try simp only [Act.put]
        try simp only [List.setIfInBounds_toArray]
        try simp only [List.set_cons_zero, List.set_cons_succ]
        refine wpAnyH_ready (rs := [9]) (by kernel_rfl) (by simp) ?_
        refine AllReadyH.cons rfl (fun K hK => ?_) AllReadyH.nil
        rw [if_pos (by rfl)]
        go_simp
        refine (HD2.out _ _ X8 BX8.out A8.out (fun a ha => (L8.out a ha).1)).mono ?_
        rintro e X9 ⟨rfl, b9⟩
        have BX9 : Hid (Below V.heap.size V X9) := Lib.hid (Below.step BX8.out b9)
        clear b9
        go_wp2_with fail
        have hSX9 : Hid (Below V.heap.size V X9) ∧ X9.cell? ⟨w.heap.size, 0, none⟩ = some (.int .i64 k0) ∧ X9.cell? ⟨w.heap.size, 1, none⟩ = some (.int .i64 n0) ∧ X9.cell? ⟨w.heap.size, 2, none⟩ = some (.string s0) := box_on HX BX9
        refine hK.out _ _ hSX9 (fun _ => ?_)
        clear hK K
        try simp only [Act.put]
        try simp only [List.setIfInBounds_toArray]
        try simp only [List.set_cons_zero, List.set_cons_succ]
        refine takeF (i := 10) (d := 63) (v := .tuple #[.string s1, .int .i64 x1]) rfl rfl (by kernel_rfl) (by kernel_rfl) (by kernel_rfl) (fun _ _ _ h => h) (by rfl) (fun w' hSw => by clear hSw; go_simp) hSX9 ?_
        simp only [List.setIfInBounds_toArray, List.set_cons_zero, List.set_cons_succ]
        refine takeF (i := 11) (d := 74) (v := .string s1) rfl rfl (by kernel_rfl) (by kernel_rfl) (by kernel_rfl) (fun _ _ _ h => h) (by rfl) (fun w' hSw => by clear hSw; go_simp) hSX9 ?_
        simp only [List.setIfInBounds_toArray, List.set_cons_zero, List.set_cons_succ]
        refine takeF (i := 12) (d := 75) (v := .int .i64 x1) rfl rfl (by kernel_rfl) (by kernel_rfl) (by kernel_rfl) (fun _ _ _ h => h) (by rfl) (fun w' hSw => by clear hSw; go_simp) hSX9 ?_
        simp only [List.setIfInBounds_toArray, List.set_cons_zero, List.set_cons_succ]
        refine takeF (i := 13) (d := 13) (v := .string s1) rfl rfl (by kernel_rfl) (by kernel_rfl) (by kernel_rfl) (fun _ _ _ h => h) (by rfl) (fun w' hSw => by clear hSw; go_simp) hSX9 ?_
        simp only [List.setIfInBounds_toArray, List.set_cons_zero, List.set_cons_succ]
        refine takeF (i := 14) (d := 14) (v := .int .i64 x1) rfl rfl (by kernel_rfl) (by kernel_rfl) (by kernel_rfl) (fun _ _ _ h => h) (by rfl) (fun w' hSw => by clear hSw; go_simp) hSX9 ?_
        simp only [List.setIfInBounds_toArray, List.set_cons_zero, List.set_cons_succ]
        refine wpAnyH_done (by kernel_rfl) ?_ _
        go_wp2_with fail
        go_meet
        exact ⟨rfl, rfl, Lib.hid (BV0.out.trans (BX9.out.mono BV0.out.size))⟩
    · rw [if_pos (by rfl)]
      go_simp
      obtain ⟨X1, hX1⟩ : ∃ X1, X1 = V.alloc (.cells #[.int .i64 k0, .int .i64 n0, .string s0] 30) := ⟨_, rfl⟩
      obtain ⟨mb, hmb⟩ : ∃ mb, mb = V.heap.size := ⟨_, rfl⟩
      rw [← hX1]
      try rw [← hmb]
      have BX1 : Hid (Below V.heap.size V X1) := Lib.hid (by rw [hX1]; exact BV.out.alloc BV.out.size _)
      have CX1 : Hid (CellsAt X1 q m c (L.take m)) := Lib.hid (by rw [hX1]; exact CV.out.below (below_new _ _))
      have MX1 : Hid (CellsAt X1 (some ⟨mb, 0, none⟩) 1 1 [⟨k0, n0, s0⟩]) := Lib.hid (by rw [hX1, hmb]; exact one_more _ k0 n0 s0)
      have hmbN : mb < X1.heap.size := by rw [hX1, hmb, World.size_alloc]; omega
      clear hX1 hmb
      have hSX1 : Hid (Below V.heap.size V X1) ∧ X1.cell? ⟨w.heap.size, 0, none⟩ = some (.int .i64 k0) ∧ X1.cell? ⟨w.heap.size, 1, none⟩ = some (.int .i64 n0) ∧ X1.cell? ⟨w.heap.size, 2, none⟩ = some (.string s0) := box_on HX BX1
      refine hK.out _ _ hSX1 (fun _ => ?_)
      clear hK K
      try simp only [Act.put]
      try simp only [List.setIfInBounds_toArray]
      try simp only [List.set_cons_zero, List.set_cons_succ]
      refine wpAnyH_ready (rs := [1]) (by kernel_rfl) (by simp) ?_
      refine AllReadyH.cons rfl (fun K hK => ?_) AllReadyH.nil
      rw [if_pos (by rfl)]
      go_simp
      obtain ⟨X2, hX2⟩ : ∃ X2, X2 = X1.alloc (.cells #[] 30) := ⟨_, rfl⟩
      obtain ⟨ob, hob⟩ : ∃ ob, ob = X1.heap.size := ⟨_, rfl⟩
      rw [← hX2]
      try rw [← hob]
      have BX2 : Hid (Below V.heap.size V X2) := Lib.hid (by rw [hX2]; exact BX1.out.alloc BX1.out.size _)
      have CX2 : Hid (CellsAt X2 q m c (L.take m)) := Lib.hid (by rw [hX2]; exact CX1.out.below (below_new _ _))
      have OX2 : Hid (X2.ownsRow ob 30 3 (.slice (some ⟨ob, 0, none⟩) 0 0) 0 (cvals [])) := Lib.hid (by rw [hX2, hob]; exact new_own _)
      have hobV : V.heap.size ≤ ob := by rw [hob]; exact BX1.out.size
      have MX2 : Hid (CellsAt X2 (some ⟨mb, 0, none⟩) 1 1 [⟨k0, n0, s0⟩]) := Lib.hid (by rw [hX2]; exact MX1.out.below (below_new _ _))
      have hmo : mb ≠ ob := by omega
      clear hX2 hob
      have hSX2 : Hid (Below V.heap.size V X2) ∧ X2.cell? ⟨w.heap.size, 0, none⟩ = some (.int .i64 k0) ∧ X2.cell? ⟨w.heap.size, 1, none⟩ = some (.int .i64 n0) ∧ X2.cell? ⟨w.heap.size, 2, none⟩ = some (.string s0) := box_on HX BX2
      refine hK.out _ _ hSX2 (fun _ => ?_)
      clear hK K
      try simp only [Act.put]
      try simp only [List.setIfInBounds_toArray]
      try simp only [List.set_cons_zero, List.set_cons_succ]
      refine wpAnyH_ready (rs := [5]) (by kernel_rfl) (by simp) ?_
      refine AllReadyH.cons rfl (fun K hK => ?_) AllReadyH.nil
      rw [if_pos (by rfl)]
      refine op_append_cells _ _ rfl ob X2 (.slice (some ⟨ob, 0, none⟩) 0 0) 0 [] q m c (L.take m) rfl OX2.out rfl CX2.out (by omega) (by have := (OX2.out.lt ob rfl).2; omega) ?_
      intro p5 c5 X3 ho hg
      rw [Nat.zero_add] at ho ⊢
      rw [List.nil_append] at ho
      have BX3 : Hid (Below V.heap.size V X3) := Lib.hid (BX2.out.grown hg BX2.out.size (fun j hj => by have := (OX2.out.lt j hj).1; omega))
      have RX3 := Lib.hid ho
      have hobX : ob ≤ X3.heap.size := by have h1 := (OX2.out.lt ob rfl).2; have h2 := hg.size; omega
      have MX3 : Hid (CellsAt X3 (some ⟨mb, 0, none⟩) 1 1 [⟨k0, n0, s0⟩]) := Lib.hid (MX2.out.but (P := (· = ob)) (fun a ha => by injection ha with ha; rw [← ha]; exact fun e => hmo e) (grown_but hg))
      clear ho hg
      have hSX3 : Hid (Below V.heap.size V X3) ∧ X3.cell? ⟨w.heap.size, 0, none⟩ = some (.int .i64 k0) ∧ X3.cell? ⟨w.heap.size, 1, none⟩ = some (.int .i64 n0) ∧ X3.cell? ⟨w.heap.size, 2, none⟩ = some (.string s0) := box_on HX BX3
      refine hK.out _ _ hSX3 (fun _ => ?_)
      clear hK K
      try simp only [Act.put]
      try simp only [List.setIfInBounds_toArray]
      try simp only [List.set_cons_zero, List.set_cons_succ]
      refine wpAnyH_ready (rs := [8]) (by kernel_rfl) (by simp) ?_
      refine AllReadyH.cons rfl (fun K hK => ?_) AllReadyH.nil
      rw [if_pos (by rfl)]
      refine op_append_cells _ _ rfl ob X3 (.slice p5 m c5) m (L.take m) (some ⟨mb, 0, none⟩) 1 1 [⟨k0, n0, s0⟩] rfl RX3.out rfl MX3.out (by omega) hobX ?_
      intro p8 c8 X8 ho hg
      have BX8 : Hid (Below V.heap.size V X8) := Lib.hid (BX3.out.grown hg BX3.out.size (fun j hj => by have := (RX3.out.lt j hj).1; omega))
      have A8 := Lib.hid (own_read ho (by rw [List.length_append, List.length_take, ← HN.out]; simp; omega))
      have L8 := Lib.hid (own_low ho)
      clear ho hg
      have hSX8 : Hid (Below V.heap.size V X8) ∧ X8.cell? ⟨w.heap.size, 0, none⟩ = some (.int .i64 k0) ∧ X8.cell? ⟨w.heap.size, 1, none⟩ = some (.int .i64 n0) ∧ X8.cell? ⟨w.heap.size, 2, none⟩ = some (.string s0) := box_on HX BX8
      refine hK.out _ _ hSX8 (fun _ => ?_)
      clear hK K
      try simp only [Act.put]
      try simp only [List.setIfInBounds_toArray]
      try simp only [List.set_cons_zero, List.set_cons_succ]
      refine wpAnyH_ready (rs := [9]) (by kernel_rfl) (by simp) ?_
      refine AllReadyH.cons rfl (fun K hK => ?_) AllReadyH.nil
      rw [if_pos (by rfl)]
      go_simp
      refine (HD2.out _ _ X8 BX8.out A8.out (fun a ha => (L8.out a ha).1)).mono ?_
      rintro e X9 ⟨rfl, b9⟩
      have BX9 : Hid (Below V.heap.size V X9) := Lib.hid (Below.step BX8.out b9)
      clear b9
      go_wp2_with fail
      have hSX9 : Hid (Below V.heap.size V X9) ∧ X9.cell? ⟨w.heap.size, 0, none⟩ = some (.int .i64 k0) ∧ X9.cell? ⟨w.heap.size, 1, none⟩ = some (.int .i64 n0) ∧ X9.cell? ⟨w.heap.size, 2, none⟩ = some (.string s0) := box_on HX BX9
      refine hK.out _ _ hSX9 (fun _ => ?_)
      clear hK K
      try simp only [Act.put]
      try simp only [List.setIfInBounds_toArray]
      try simp only [List.set_cons_zero, List.set_cons_succ]
      refine takeF (i := 10) (d := 63) (v := .tuple #[.string s1, .int .i64 x1]) rfl rfl (by kernel_rfl) (by kernel_rfl) (by kernel_rfl) (fun _ _ _ h => h) (by rfl) (fun w' hSw => by clear hSw; go_simp) hSX9 ?_
      simp only [List.setIfInBounds_toArray, List.set_cons_zero, List.set_cons_succ]
      refine takeF (i := 11) (d := 74) (v := .string s1) rfl rfl (by kernel_rfl) (by kernel_rfl) (by kernel_rfl) (fun _ _ _ h => h) (by rfl) (fun w' hSw => by clear hSw; go_simp) hSX9 ?_
      simp only [List.setIfInBounds_toArray, List.set_cons_zero, List.set_cons_succ]
      refine takeF (i := 12) (d := 75) (v := .int .i64 x1) rfl rfl (by kernel_rfl) (by kernel_rfl) (by kernel_rfl) (fun _ _ _ h => h) (by rfl) (fun w' hSw => by clear hSw; go_simp) hSX9 ?_
      simp only [List.setIfInBounds_toArray, List.set_cons_zero, List.set_cons_succ]
      refine takeF (i := 13) (d := 13) (v := .string s1) rfl rfl (by kernel_rfl) (by kernel_rfl) (by kernel_rfl) (fun _ _ _ h => h) (by rfl) (fun w' hSw => by clear hSw; go_simp) hSX9 ?_
      simp only [List.setIfInBounds_toArray, List.set_cons_zero, List.set_cons_succ]
      refine takeF (i := 14) (d := 14) (v := .int .i64 x1) rfl rfl (by kernel_rfl) (by kernel_rfl) (by kernel_rfl) (fun _ _ _ h => h) (by rfl) (fun w' hSw => by clear hSw; go_simp) hSX9 ?_
      simp only [List.setIfInBounds_toArray, List.set_cons_zero, List.set_cons_succ]
      refine wpAnyH_done (by kernel_rfl) ?_ _
      go_wp2_with fail
      go_meet
      exact ⟨rfl, rfl, Lib.hid (BV0.out.trans (BX9.out.mono BV0.out.size))⟩
  case rest =>
  obtain ⟨rfl, rfl, HW⟩ := hcut
  go_step
  go_wp2_with fail
  refine (HL.out _ HW.out).mono ?_
  rintro e w8 ⟨rfl, b8⟩
  have B8 := Lib.hid (Below.step HW.out b8)
  clear b8
  go_wp2_with fail
  go_ret
  exact ⟨rfl, B8.out⟩
end Go.Proofs.YtfhnbpilbbbckaaGreatDoor
