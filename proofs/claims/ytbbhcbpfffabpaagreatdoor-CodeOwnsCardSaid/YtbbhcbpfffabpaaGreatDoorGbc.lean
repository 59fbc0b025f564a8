/- Merged by program: T1RefJ. -/
import Derived.Deep.OwnRows
import Derived.Laws.AppendOwnNone
import Derived.Test.YtbbhcbpfffabpaaGreatDoorGbb
/- Contracts of the document's answers for numbers: quotients. -/
namespace Go.Proofs.YtbbhcbpfffabpaaGreatDoor.T1
open Go.Proofs.YtbbhcbpfffabpaaGreatDoor Go.Proofs
open Go.RowKit

theorem Later.later {w w3 w5 : World} {x0 y0 x1 y1 x2 y2 : Value} (h : Later w w3 x0 y0 x1 y1 x2 y2) (hb' : Below w3.heap.size w3 w5) : Later w w5 x0 y0 x1 y1 x2 y2 := by
  have hs := h.size
  have hz := hb'.size
  exact ⟨h.t0.below hb' (by omega), h.t1.below hb' (by omega), h.t2.below hb' (by omega), h.below.trans (hb'.mono (by omega)), by omega⟩

/-- The call's memory: the boxes, the row of the quotient's digits, the rest. -/
structure OI (w wr : World) (m m' : Bool) (p q : Option Addr) (n k c c' : Nat) (G : Nat) (lo : List Nat) (r : Option Addr) (s t : Nat) (lr : List Nat) : Prop where
  boxes : Two wr w.heap.size (.bool m) (.slice p n c) ∧ Two wr (w.heap.size + 1) (.bool m') (.slice q k c') ∧ Two wr (w.heap.size + 1 + 1) (.bool false) (.slice none 0 0)
  below : Below w.heap.size w wr
  low : w.heap.size + 3 ≤ G
  size : G + 1 ≤ wr.heap.size
  row : wr.ownsRow G 3 1 (.slice (some ⟨G, 0, none⟩) n n) n (ints lo)
  len : lo.length = n
  digs : Dl lo
  rest : Rd wr r s t lr
  fresh : ∀ x, r = some x → G + 1 ≤ x.block

theorem OI.after {w wr w' : World} {m m' : Bool} {p q : Option Addr} {n k c c' G : Nat} {lo : List Nat} {r : Option Addr} {s t : Nat} {lr : List Nat} (h : OI w wr m m' p q n k c c' G lo r s t lr) (hb : Below wr.heap.size wr w')
    {r' : Option Addr} {s' t' : Nat} {lr' : List Nat} (hr : Rd w' r' s' t' lr') (hf : ∀ x, r' = some x → G + 1 ≤ x.block) : OI w w' m m' p q n k c c' G lo r' s' t' lr' := by
  have hs := h.size
  have hl := h.low
  have hz := hb.size
  obtain ⟨b0, b1, b2⟩ := h.boxes
  refine ⟨⟨b0.below hb (by omega), b1.below hb (by omega), b2.below hb (by omega)⟩, h.below.trans (hb.mono (by omega)), hl, by omega, ?_, h.len, h.digs, hr, hf⟩
  obtain ⟨h1, h2⟩ := h.row
  refine ⟨h1, ?_⟩
  rcases h2 with ⟨he, _⟩ | ⟨g, cap, cur, he, hg, hh, h5, h6, h7, h8⟩
  · simp at he
  · injection he with e1 e2 e3
    injection e1 with e1
    injection e1 with e1
    subst e1
    exact Or.inr ⟨G, cap, cur, by rw [e3], hg, by rw [hb.block G (by omega)]; exact hh, h5, h6, h7, h8⟩

theorem ints_set (l : List Nat) (j d : Nat) : (ints l).set j (.int .i64 (d : Int)) = ints (l.set j d) := by
  simp [ints, List.map_set]

theorem OI.store {w wr : World} {m m' : Bool} {p q : Option Addr} {n k c c' G : Nat} {lo : List Nat} {r : Option Addr} {s t : Nat} {lr : List Nat} (h : OI w wr m m' p q n k c c' G lo r s t lr) (j d : Nat) (hd : d < 10) :
    OI w (wr.setCell ⟨G, j, none⟩ (.int .i64 (d : Int))) m m' p q n k c c' G (lo.set j d) r s t lr := by
  have hs := h.size
  have hl := h.low
  obtain ⟨b0, b1, b2⟩ := h.boxes
  refine ⟨⟨b0.other (by simp; omega) _, b1.other (by simp; omega) _, b2.other (by simp; omega) _⟩, h.below.setCell (by simp; omega) _, hl, by simpa [World.setCell] using hs, ?_, by simpa using h.len, ?_, h.rest.other ?_ _, h.fresh⟩
  · have := h.row.stored j (.int .i64 (d : Int))
    rw [ints_set] at this
    exact this.1
  · intro x hx
    rcases List.mem_or_eq_of_mem_set hx with h1 | h1
    · exact h.digs x h1
    · omega
  · intro x hx e
    have := h.fresh x hx
    simp at e
    omega

theorem OI.later {w wr : World} {m m' : Bool} {p q : Option Addr} {n k c c' G : Nat} {lo : List Nat} {r : Option Addr} {s t : Nat} {lr : List Nat} (h : OI w wr m m' p q n k c c' G lo r s t lr) :
    Later w wr (.bool m) (.slice p n c) (.bool m') (.slice q k c') (.bool false) (.slice none 0 0) :=
  ⟨h.boxes.1, h.boxes.2.1, h.boxes.2.2, h.below, by have := h.low; have := h.size; omega⟩

theorem sufset (lo : List Nat) (i d : Nat) (hi : i < lo.length) : suf (lo.set i d) i = d + 10 * suf lo (i + 1) ∧ (lo.set i d).getD i 0 = d := by
  have h2 : (lo.set i d).getD i 0 = d := by
    rw [List.getD_eq_getElem?_getD, List.getElem?_set]; simp [hi]
  refine ⟨?_, h2⟩
  rw [suf_step, h2]
  unfold suf
  rw [List.drop_set_of_lt (by omega)]

/-- How far the division is: what of a lies from i on, is the digits of the quotient, times b, and the rest. -/
structure Dv (a lo lr : List Nat) (vb i : Nat) : Prop where
  eq : suf a i = suf lo i * vb + val lr
  lt : val lr < vb
  zero : ∀ j, j < i → lo.getD j 0 = 0

/-- Within a digit. -/
structure Dw (a lo lr : List Nat) (vb i kk : Nat) : Prop where
  eq : suf a i = suf lo i * vb + val lr
  at_ : lo.getD i 0 = kk
  le : val lr + kk * vb < 10 * vb
  zero : ∀ j, j < i → lo.getD j 0 = 0

theorem Dv.bring {a lo lr lr' : List Nat} {vb i x : Nat} (h : Dv a lo lr vb (i + 1)) (hx : x = a.getD i 0) (hx9 : x < 10) (hz : lo.getD i 0 = 0) (hv : val lr' = x + 10 * val lr) : Dw a lo lr' vb i 0 := by
  refine ⟨?_, hz, ?_, fun j hj => h.zero j (by omega)⟩
  · rw [suf_step a, suf_step lo, ← hx, hz, h.eq, hv, Nat.zero_add, Nat.mul_assoc 10]; omega
  · have := h.lt; omega

theorem Dw.room {a lo lr : List Nat} {vb i kk : Nat} (h : Dw a lo lr vb i kk) (hge : vb ≤ val lr) : kk + 1 ≤ 9 := by
  have h4 := h.le
  rcases Nat.lt_or_ge 9 (kk + 1) with h5 | h5
  · exfalso
    have : 9 * vb ≤ kk * vb := Nat.mul_le_mul_right _ (by omega)
    omega
  · exact h5

theorem Dw.step {a lo lr lr' : List Nat} {vb i kk : Nat} (h : Dw a lo lr vb i kk) (hi : i < lo.length) (hge : vb ≤ val lr) (hv : val lr' = val lr - vb) : kk + 1 ≤ 9 ∧ Dw a (lo.set i (kk + 1)) lr' vb i (kk + 1) := by
  obtain ⟨h1, h2⟩ := sufset lo i (kk + 1) hi
  have h3 := h.eq
  have h4 := h.le
  have hk : kk + 1 ≤ 9 := by
    rcases Nat.lt_or_ge 9 (kk + 1) with h5 | h5
    · exfalso
      have : 9 * vb ≤ kk * vb := Nat.mul_le_mul_right _ (by omega)
      omega
    · exact h5
  refine ⟨hk, ⟨?_, h2, ?_, ?_⟩⟩
  · have e : (kk + 1 + 10 * suf lo (i + 1)) * vb = (kk + 10 * suf lo (i + 1)) * vb + vb := by
      rw [show kk + 1 + 10 * suf lo (i + 1) = (kk + 10 * suf lo (i + 1)) + 1 from by omega, Nat.add_mul, Nat.one_mul]
    rw [h1, h3, suf_step lo i, h.at_, hv, e]
    omega
  · rw [hv, Nat.add_mul, Nat.one_mul]; omega
  · intro j hj
    rw [List.getD_eq_getElem?_getD, List.getElem?_set_ne (by omega), ← List.getD_eq_getElem?_getD]
    exact h.zero j hj

theorem Dw.done {a lo lr : List Nat} {vb i kk : Nat} (h : Dw a lo lr vb i kk) (hlt : val lr < vb) : Dv a lo lr vb i := ⟨h.eq, hlt, h.zero⟩

theorem Dv.fin {a lo lr : List Nat} {vb : Nat} (h : Dv a lo lr vb 0) : val lo = val a / vb := by
  have h1 := h.eq
  rw [suf_zero, suf_zero] at h1
  have h2 := h.lt
  rw [h1, Nat.mul_comm, Nat.mul_add_div (by omega), Nat.div_eq_of_lt h2]
  rfl

theorem sv_quot (m m' : Bool) (a b l : List Nat) (h : val l = val a / val b) : sv (!(m == m')) l = (sv m a).tdiv (sv m' b) := by
  have e : ((val a : Nat) : Int).tdiv (val b : Nat) = ((val a / val b : Nat) : Int) := (Int.ofNat_tdiv _ _).symm
  have s1 : ∀ x : List Nat, sv true x = -((val x : Nat) : Int) := fun _ => rfl
  have s2 : ∀ x : List Nat, sv false x = ((val x : Nat) : Int) := fun _ => rfl
  cases m <;> cases m'
  · rw [show (!(false == false)) = false from rfl, s2, s2, s2, e, h]
  · rw [show (!(false == true)) = true from rfl, s1, s2, s1, Int.tdiv_neg, e, h]
  · rw [show (!(true == false)) = true from rfl, s1, s1, s2, Int.neg_tdiv, e, h]
  · rw [show (!(true == true)) = false from rfl, s2, s1, s1, Int.neg_tdiv, Int.tdiv_neg, Int.neg_neg, e, h]

set_option maxRecDepth 100000 in
theorem wp_append_rest {ops : Array Oper} {rest : List Oper} {o : Oper} {a : Act} {Q : Exit → Act → World → Prop} (hgd : o.guard = none) (s x : Operand)
    (ho : o.op = .call { callee := .builtin .append, args := #[s, x], argTypes := #[60, 60] }) (w : World) (r : Option Addr) (n t : Nat) (lr : List Nat) (X : Int) (d : Nat) (hd : X = d)
    (hrd : Rd w r n t lr) (hn : n ≤ 500) (hs : a.eval s = .slice (some ⟨w.heap.size, 0, none⟩) 1 1) (hx : a.eval x = .slice r n t)
    (h : ∀ p c w', Hid (w'.ownsRow w.heap.size 3 1 (.slice p (n + 1) c) (n + 1) (ints (d :: lr))) → Hid (Below w.heap.size w w') → wpList Tryz.prog ops Q rest (a.put o.dst (.slice p (n + 1) c)) w') :
    wpList Tryz.prog ops Q (o :: rest) a (w.alloc (.cells #[.int .i64 X] 3)) := by
  obtain ⟨i0, hi, hz0, hz1, hz2⟩ := info_parts info_int
  subst hd
  have hown := World.ownsRow_lit (base := w.heap.size) (e := 3) (size := 1) w #[.int .i64 (d : Int)] 1 (Nat.le_refl _) (by simp only [maxLen]; omega) (by simp)
  have hb0 := (Below.refl w.heap.size w).alloc (Nat.le_refl _) (.cells #[.int .i64 (d : Int)] 3)
  have e : ints (d :: lr) = [.int .i64 (d : Int)] ++ ints lr := by simp [ints]
  cases r with
  | none =>
    have ht := hrd.nil rfl
    have hl : lr = [] := by
      rcases hrd.cells with h | ⟨b, off, h, _⟩
      · exact h
      · simp at h
    have hn0 : n = 0 := by rw [hrd.len, hl]; rfl
    subst hl; subst hn0; subst ht
    refine wpList_append_own_none hgd s x 60 ho w.heap.size 3 i0 1 Tryz.underlying60 hi _ 1 _ hs hown hx ?_
    refine h _ 1 _ (Lib.hid ?_) (Lib.hid hb0)
    rw [e]; simpa [ints] using hown
  | some ad =>
    refine wpList_append_own _ hgd s x 60 ho w.heap.size 3 i0 (.int .i64 0) 1 8 Tryz.underlying60 hi hz0 hz1 hz2 rfl (by decide) _ 1 _ hs hown ad n t (ints lr) hx ?_ ?_ ?_ ?_ ?_ ?_ ?_
    · rw [hrd.len]; simp [ints]
    · intro j u hj
      have hjl : j < lr.length := by
        have := (List.getElem?_eq_some_iff.1 hj).1
        simpa [ints] using this
      rcases hrd.cells with hc | ⟨b, off, hp, hlt, hc⟩
      · rw [hc] at hjl; simp at hjl
      · injection hp with hp
        subst hp
        have ea : Addr.add ⟨b, off, none⟩ j = ⟨b, off + j, none⟩ := by
          unfold Addr.add
          split
          · simp [*]
          · rfl
        rw [ea, World.cell?_alloc_past _ _ _ hlt, hc j hjl, ← hj]
        unfold ints
        rw [List.getElem?_map, List.getElem?_eq_getElem hjl, List.getD_eq_getElem?_getD, List.getElem?_eq_getElem hjl]
        rfl
    · intro u hu
      unfold ints at hu
      obtain ⟨y, _, rfl⟩ := List.mem_map.1 hu
      rfl
    · simp only [maxLen]; omega
    · omega
    · simp
    · intro v' w' hown' hg _
      have e2 : ([Value.int .i64 (d : Int)] : List Value) ++ ints lr = ints (d :: lr) := by simp [ints]
      rw [show (#[Value.int .i64 (d : Int)] : Array Value).toList = [Value.int .i64 (d : Int)] from rfl, e2, Nat.add_comm 1 n] at hown'
      obtain ⟨p, c, rfl⟩ : ∃ p c, v' = .slice p (n + 1) c := by
        rcases hown'.2 with ⟨_, h0⟩ | ⟨g, cap, cur, hv, _⟩
        · omega
        · exact ⟨_, _, hv⟩
      exact h p c w' (Lib.hid hown') (Lib.hid (hb0.grown hg (by simp) (fun j hj => (hown.lt j hj).1)))

theorem oi_start (w w3 : World) (m m' : Bool) (p q : Option Addr) (n k c c' : Nat) (hn : n ≤ 100) (T : Three w w3 (.bool m) (.slice p n c) (.bool m') (.slice q k c') (.bool false) (.slice none 0 0)) :
    OI w ((w3.alloc (.cells (madeCells #[.int .i64 0] n) 3)).alloc (.cells #[] 3)) m m' p q n k c c' w3.heap.size (List.replicate n 0) (some ⟨w3.heap.size + 1, 0, none⟩) 0 0 [] := by
  have hs := T.size
  have hb := ((Below.refl w3.heap.size w3).alloc (Nat.le_refl _) (.cells (madeCells #[.int .i64 0] n) 3)).alloc (by simp) (.cells #[] 3)
  have hrow := World.ownsRow_lit (base := w3.heap.size) (e := 3) (size := 1) w3 (madeCells #[.int .i64 0] n) n (Nat.le_refl _) (by simp only [maxLen]; omega) (by simp [madeCells])
  rw [toList_madeCells_one, ← (by simp [ints] : ints (List.replicate n 0) = List.replicate n (.int .i64 0))] at hrow
  refine ⟨⟨T.t0.below hb (by omega), T.t1.below hb (by omega), T.t2.below hb (by omega)⟩, T.below.trans (hb.mono (by omega)), by omega, by simp, hrow.alloc _, by simp, Dl.zeros n, ⟨rfl, by omega, by omega, Dl.nil, fun h => by simp at h, Or.inl rfl⟩, ?_⟩
  intro x hx
  injection hx with hx
  subst hx
  simp

/-- A number that is trimmed. -/
def NPostT (z : Int) (k : Nat) (W : World) (e : Ending) (w' : World) : Prop :=
  ∃ m p n c l, e = .returned (.agg #[.bool m, .slice p n c]) ∧ Rd w' p n c l ∧ sv m l = z ∧ n ≤ k ∧ (n = 0 ∨ l.getD (n - 1) 0 ≠ 0) ∧ Below W.heap.size W w'
theorem trim_last {lo : List Nat} {n j : Nat} (_ : j ≤ n) (hz : j = 0 ∨ lo.getD (j - 1) 0 ≠ 0) : j = 0 ∨ (lo.take j).getD (j - 1) 0 ≠ 0 := by
  rcases Nat.eq_zero_or_pos j with h | h
  · exact Or.inl h
  · refine Or.inr ?_
    rw [List.getD_eq_getElem?_getD, List.getElem?_take_of_lt (by omega), ← List.getD_eq_getElem?_getD]
    exact hz.resolve_left (by omega)

set_option maxRecDepth 100000 in
set_option maxHeartbeats 2000000 in
theorem over_any (m m' : Bool) (p q : Option Addr) (n k c c' : Nat) (a b : List Nat) (w : World) (ha : Rd w p n c a) (hb : Rd w q k c' b) (hn : n ≤ 100) (hb0 : 0 < val b) :
    Calls Tryz.prog 54 #[.agg #[.bool m, .slice p n c], .agg #[.bool m', .slice q k c']] w (NPostT ((sv m a).tdiv (sv m' b)) n w) := by
  have hcn := ha.cap
  have HA := Lib.hid ha; clear ha
  have HB := Lib.hid hb; clear hb
  have HB0 := Lib.hid hb0; clear hb0
  have hmkn := fun (w : World) => run_make_row' (P := Tryz.prog) 60 3 (.int .i64 0) 8 Tryz.underlying60 info_int rfl .i64 .i64 n (by omega) (by omega) w
  obtain ⟨w3, hw3, T⟩ := three_new w (.bool m) (.slice p n c) (.bool m') (.slice q k c') (.bool false) (.slice none 0 0)
  have c0 := T.t0.c0; have c1 := T.t0.c1; have c2 := T.t1.c0; have c3 := T.t1.c1
  have OI0 := Lib.hid (oi_start w w3 m m' p q n k c c' hn T); clear T
  have HW3 := Lib.hid hw3; clear hw3
  go_enter Tryz.func54, Tryz.ntmps54
  go_upto_region 1 with (fail)
  rw [← HW3.out]
  clear HW3
  go_upto_region 2 with (fail)
  clear hmkn c0 c1 c2 c3
  obtain ⟨G, hG⟩ : ∃ G, G = w3.heap.size := ⟨_, rfl⟩
  rw [← hG] at OI0 ⊢
  generalize (w3.alloc (.cells (madeCells #[.int .i64 0] n) 3)).alloc (.cells #[] 3) = w4 at *
  clear hG
  have c1 := OI0.out.boxes.1.c1
  go_wp2_with fail
  go_loopw [6, 7] (fun v z wr => ∃ (r : Option Addr) (s t : Nat) (lr lo : List Nat) (i : Int), v = .slice r s t ∧ z = .int .i64 i ∧ -1 ≤ i ∧ i < n ∧ Hid (OI w wr m m' p q n k c c' G lo r s t lr) ∧ Hid (Dv a lo lr (val b) (i + 1).toNat) ∧ s ≤ n - (i + 1).toNat) (fun _ z _ => (intOf z + 1).toNat)
  case atStart =>
    refine ⟨_, 0, 0, [], List.replicate n 0, (n : Int) - 1, rfl, rfl, by omega, by omega, OI0, Lib.hid ⟨?_, HB0.out, ?_⟩, by omega⟩
    · rw [suf_end a _ (by have := HA.out.len; omega), suf_end _ _ (by simp)]; simp [val]
    · intro j _
      rw [List.getD_eq_getElem?_getD, List.getElem?_replicate]; split <;> rfl
  case round =>
    obtain ⟨r, s, t, lr, lo, i, rfl, rfl, hi1, hi2, hoi, hdv, hsz⟩ := hrel
    obtain ⟨wo, rfl⟩ : ∃ wo : World, wo = wr := ⟨_, rfl⟩
    clear c1
    have c0 := hoi.out.boxes.1.c0; have c1 := hoi.out.boxes.1.c1; have c2 := hoi.out.boxes.2.1.c0; have c3 := hoi.out.boxes.2.1.c1
    by_cases h0 : 0 ≤ i
    · obtain ⟨ii, rfl⟩ := Int.eq_ofNat_of_zero_le h0
      rcases HA.out.cells with hx | ⟨ba, off, rfl, hlt, hx⟩
      · exfalso
        have := HA.out.len
        rw [hx] at this; simp at this; omega
      obtain ⟨x, hxe⟩ : ∃ x, x = a.getD ii 0 := ⟨_, rfl⟩
      have hx9 : x < 10 := by rw [hxe]; exact HA.out.digs.getD ii
      have hcell : wo.cell? ⟨ba, off + ii, none⟩ = some (.int .i64 (x : Int)) := by
        rw [hoi.out.below.cell (p := ⟨ba, off + ii, none⟩) hlt, hx ii (by have := HA.out.len; omega), hxe]
      have hdv2 : Dv a lo lr (val b) (ii + 1) := by have := hdv.out; rw [show ((ii : Int) + 1).toNat = ii + 1 from by omega] at this; exact this
      have HDV := Lib.hid hdv2; clear hdv2 hdv hx
      have hiil : ii < lo.length := by rw [hoi.out.len]; omega
      have hsn : s + 1 ≤ n - ii := by omega
      have HX := Lib.hid hxe; clear hxe hsz
      have HXX := Lib.hid (show (x : Int) = ((x : Nat) : Int) from rfl)
      go_upto_region 5 with (fail)
      go_cut [6] (fun v wx => ∃ (r' : Option Addr) (s' t' : Nat) (lr' : List Nat), v = .slice r' s' t' ∧ Hid (OI w wx m m' (some ⟨ba, off, none⟩) q n k c c' G lo r' s' t' lr') ∧ Hid (val lr' = x + 10 * val lr) ∧ s' ≤ s + 1)
      case first =>
        go_wp2_with (at_builtin; refine wp_append_rest rfl _ _ rfl wo r s t lr _ x HXX.out hoi.out.rest (by omega) rfl rfl ?_; intro ap ac w' hown' hbel'; obtain ⟨bp, bc, hbe, hbr, hbf⟩ := own_rd hown'.out (by rw [List.length_cons, ← hoi.out.rest.len]) (Dl.append (Dl.one hx9) hoi.out.rest.digs) (by omega); injection hbe with e1 _ e2; subst e1; subst e2; have HBR := Lib.hid hbr; clear hbr; have HBF := Lib.hid hbf; clear hbf)
        refine (trim_any _ _ _ _ _ HBR.out).mono ?_
        rintro e w5 ⟨j, hj, rfl, hvj, _, rfl⟩
        have HVJ := Lib.hid hvj; clear hvj
        go_wp2_with fail
        go_meet
        exact ⟨_, _, _, _, rfl, Lib.hid (hoi.out.after hbel'.out (HBR.out.take hj) (fun z hz => by have h1 := HBF.out z hz; have h2 := hoi.out.size; omega)), Lib.hid (by rw [HVJ.out]; rfl), hj⟩
      case rest =>
        obtain ⟨r1, s1, t1, lr1, rfl, hoi1, hv1, hs1⟩ := hcut
        have hdw : Dw a lo lr1 (val b) ii 0 := HDV.out.bring HX.out hx9 (HDV.out.zero ii (by omega)) hv1.out
        have HDW := Lib.hid hdw; clear hdw
        go_step
        go_wp2_with fail
        go_loopw [6, 8] (fun v z wr => ∃ (r' : Option Addr) (s' t' : Nat) (lr' lo' : List Nat) (kk : Nat), v = .slice r' s' t' ∧ z = .int .i64 kk ∧ Hid (OI w wr m m' (some ⟨ba, off, none⟩) q n k c c' G lo' r' s' t' lr') ∧ Hid (Dw a lo' lr' (val b) ii kk) ∧ s' ≤ n - ii ∧ kk ≤ 9) (fun _ z _ => 10 - (intOf z).toNat)
        case atStart => exact ⟨_, _, _, _, lo, 0, rfl, rfl, hoi1, HDW, by omega, by omega⟩
        case round =>
          obtain ⟨r2, s2, t2, lr2, lo2, kk, rfl, rfl, hoi2, hdw2, hs2, hkk⟩ := hrel
          obtain ⟨wi, rfl⟩ : ∃ wi : World, wi = wr := ⟨_, rfl⟩
          clear c0 c1 c2 c3 hcell
          have c0 := hoi2.out.boxes.1.c0; have c1 := hoi2.out.boxes.1.c1; have c2 := hoi2.out.boxes.2.1.c0; have c3 := hoi2.out.boxes.2.1.c1
          have HBI := Lib.hid (HB.out.below hoi2.out.below)
          have hls := fun w' (e : wi = w') => less_any r2 q s2 k t2 c' lr2 b w' (e ▸ hoi2.out.rest) (e ▸ HBI.out)
          by_cases hltb : val lr2 < val b
          · rw [show decide (val lr2 < val b) = true from by simp; omega] at hls
            have HLS := Lib.hid hls; clear hls
            have HLT := Lib.hid hltb; clear hltb
            go_wp2_with fail
            refine (HLS.out _ rfl).mono ?_
            rintro e w6 ⟨rfl, rfl⟩
            go_wp2_with fail
            go_roundw
            case rel => exact ⟨r2, s2, t2, lr2, lo2, (ii : Int) - 1, rfl, rfl, by omega, by omega, hoi2, Lib.hid (by rw [show ((ii : Int) - 1 + 1).toNat = ii from by omega]; exact hdw2.out.done HLT.out), by omega⟩
            case measure => simp [intOf]
          · rw [show decide (val lr2 < val b) = false from by simp; omega] at hls
            have HLS := Lib.hid hls; clear hls
            have hge : val b ≤ val lr2 := by omega
            have HMN := Lib.hid (fun (w' : World) (e : Below wi.heap.size wi w') => minus_any r2 q s2 k t2 c' lr2 b w' (hoi2.out.rest.below e) (HBI.out.below e) (by omega) hge)
            have HGE := Lib.hid hge; clear hge hltb
            have hat : (ints lo2)[ii]? = some (.int .i64 (kk : Int)) := by
              have hl2 := hoi2.out.len
              have := hdw2.out.at_
              rw [List.getD_eq_getElem?_getD, List.getElem?_eq_getElem (by omega)] at this
              unfold ints
              rw [List.getElem?_map, List.getElem?_eq_getElem (by omega)]
              simp at this ⊢
              omega
            have HAT := Lib.hid hat; clear hat
            have g0 : wi.cell? ⟨G, ii, none⟩ = some (.int .i64 (kk : Int)) := by rw [hoi2.out.row.cellAt ii (by omega)]; exact HAT.out
            have g1 : wi.frozen? ⟨G, ii, none⟩ = false := hoi2.out.row.frozenAt ii
            have hk1 : kk + 1 ≤ 9 := hdw2.out.room HGE.out
            go_wp2_with fail
            refine (HLS.out _ rfl).mono ?_
            rintro e w6 ⟨rfl, rfl⟩
            go_upto_region 9 with fail
            go_region_with ((go_at_call 83; refine (HMN.out _ ?_).mono ?_; exact (Below.refl _ _).drew; rintro e w7 ⟨_, l2, rfl, ⟨⟨pp, nn, cc, rfl, hrd, hfr⟩, hbel⟩, hv, hlen⟩; have HV := Lib.hid hv; clear hv; have HL := Lib.hid hlen; clear hlen; have OI7 := Lib.hid (hoi2.out.after ((Below.refl _ _).drew.trans hbel) hrd (fun z hz => by have h1 := hfr z hz; have h2 := hoi2.out.size; simp at h1; omega)); clear hrd hfr hbel; have f0 := OI7.out.row.cellAt ii (by omega); rw [HAT.out] at f0; have f1 := OI7.out.row.frozenAt ii))
            all_goals
              obtain ⟨hk9, hdw3⟩ := hdw2.out.step (by rw [hoi2.out.len]; omega) HGE.out HV.out
              have HDW3 := Lib.hid hdw3; clear hdw3
              have HOI3 := Lib.hid (OI7.out.store ii (kk + 1) (by omega))
              have hnn : nn ≤ s2 := by have := HL.out; have := OI7.out.rest.len; omega
              go_wp2_with fail
              go_roundw
              case rel => exact ⟨pp, nn, cc, l2, _, kk + 1, rfl, by go_num, HOI3, HDW3, by omega, hk9⟩
              case measure => simp [intOf]; omega
    · obtain rfl : i = -1 := by omega
      have hvl : val lo = val a / val b := by
        have := hdv.out
        rw [show ((-1 : Int) + 1).toNat = 0 from rfl] at this
        exact this.fin
      have HVL := Lib.hid hvl; clear hvl
      have HLA := Lib.hid hoi.out.later
      have HRO := Lib.hid (own_slice hoi.out.row (by rw [hoi.out.len]) hoi.out.digs (by omega))
      have HTR := Lib.hid (fun (w' : World) (e : Below wo.heap.size wo w') => trim_any _ n n lo w' (HRO.out.below e))
      have d4 := HLA.out.t2.c0; have d5 := HLA.out.t2.c1; have d6 := HLA.out.t2.f0; have d7 := HLA.out.t2.f1
      go_upto_region 10 with (fail)
      go_region_with ((go_at_call 81; refine (HTR.out _ ?_).mono ?_; exact (Below.refl _ _).drew; rintro e w5 ⟨j, hj, rfl, hvj, hz, rfl⟩; have HVJ := Lib.hid hvj; have HZ := Lib.hid hz; clear hvj hz))
      all_goals
        obtain ⟨e0, e1, hrd6, hb6⟩ := n_end HLA.out (.bool (!(m == m'))) (HRO.out.take hj) (fun x hx => by have := hoi.out.low; injection hx with hx; subst hx; show G ≠ _; omega)
        go_wp2
        refine bodyPost_ret (v := .agg #[.bool (!(m == m')), .slice (some ⟨G, 0, none⟩) j n]) (by simp [results, Tryz.results54, go_sem, e0, e1]) rfl ⟨!(m == m'), _, j, n, lo.take j, rfl, hrd6.drewN 1, ?_, hj, trim_last hj HZ.out, Below.drewN' hb6 1⟩
        exact sv_quot m m' a b _ (by rw [HVJ.out, HVL.out])
end Go.Proofs.YtbbhcbpfffabpaaGreatDoor.T1
