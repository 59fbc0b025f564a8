/- Merged by program: T3RefE, T3RefJ, T3RefL, T3RefM. -/
import Derived.Deep.RegionHeld3
import Derived.Deep.RegionWith
import Derived.Deep.OwnRows
import Derived.Laws.AppendOwnNone
import Derived.Test.YtfhnbpilbbbckaaDoorHap
/- Contracts of the document's answers for numbers: numbers with a sign. -/
namespace Go.Proofs.YtfhnbpilbbbckaaDoor.T3
open Go.Proofs.YtfhnbpilbbbckaaDoor Go.Proofs
open Go.RowKit

def NPost (z : Int) (k : Nat) (W : World) (e : Ending) (w' : World) : Prop :=
  ∃ m p n c l, e = .returned (.agg #[.bool m, .slice p n c]) ∧ Rd w' p n c l ∧ sv m l = z ∧ n ≤ k ∧ Below W.heap.size W w'

theorem Rd.other {w : World} {p n c l} (h : Rd w p n c l) {a : Addr} (ha : ∀ x, p = some x → x.block ≠ a.block) (v : Value) : Rd (w.setCell a v) p n c l := by
  refine ⟨h.len, h.cap, h.size, h.digs, h.nil, ?_⟩
  rcases h.cells with hc | ⟨b, off, hp, hlt, hc⟩
  · exact Or.inl hc
  · refine Or.inr ⟨b, off, hp, by simpa [World.setCell] using hlt, fun i hi => ?_⟩
    rw [cell_other (by intro e; exact ha _ hp (by rw [e]))]
    exact hc i hi

theorem sv_add (m : Bool) (a b : List Nat) : sv m a + sv m b = if m then -((val a + val b : Nat) : Int) else ((val a + val b : Nat) : Int) := by
  cases m <;> simp [sv] <;> omega

theorem sv_not (m : Bool) (l : List Nat) : sv (!m) l = - sv m l := by
  cases m <;> simp [sv]

structure Three (w w3 : World) (x0 y0 x1 y1 x2 y2 : Value) : Prop where
  t0 : Two w3 w.heap.size x0 y0
  t1 : Two w3 (w.heap.size + 1) x1 y1
  t2 : Two w3 (w.heap.size + 1 + 1) x2 y2
  below : Below w.heap.size w w3
  size : w3.heap.size = w.heap.size + 3

structure Later (w w3 : World) (x0 y0 x1 y1 x2 y2 : Value) : Prop where
  t0 : Two w3 w.heap.size x0 y0
  t1 : Two w3 (w.heap.size + 1) x1 y1
  t2 : Two w3 (w.heap.size + 1 + 1) x2 y2
  below : Below w.heap.size w w3
  size : w.heap.size + 3 ≤ w3.heap.size

theorem Three.later {w w3 w5 : World} {x0 y0 x1 y1 x2 y2 : Value} (h : Three w w3 x0 y0 x1 y1 x2 y2) (hb : Below w3.drew.heap.size w3.drew w5) : Later w w5 x0 y0 x1 y1 x2 y2 := by
  have hb' : Below w3.heap.size w3 w5 := (Below.refl _ _).drew.trans hb
  have hs := h.size
  have hz := hb'.size
  exact ⟨h.t0.below hb' (by omega), h.t1.below hb' (by omega), h.t2.below hb' (by omega), h.below.trans (hb'.mono (by omega)), by omega⟩

theorem three_new (w : World) (x0 y0 x1 y1 x2 y2 : Value) :
    ∃ w3, w3 = ((w.alloc (.cells #[x0, y0] 34)).alloc (.cells #[x1, y1] 34)).alloc (.cells #[x2, y2] 34) ∧ Three w w3 x0 y0 x1 y1 x2 y2 := by
  refine ⟨_, rfl, ?_⟩
  have a1 := (Below.refl (w.alloc (.cells #[x0, y0] 34)).heap.size (w.alloc (.cells #[x0, y0] 34))).alloc (Nat.le_refl _) (.cells #[x1, y1] 34)
  have a2 := (Below.refl ((w.alloc (.cells #[x0, y0] 34)).alloc (.cells #[x1, y1] 34)).heap.size _).alloc (Nat.le_refl _) (.cells #[x2, y2] 34)
  have t0 := two_new w x0 y0 34
  have t1 := two_new (w.alloc (.cells #[x0, y0] 34)) x1 y1 34
  have t2 := two_new ((w.alloc (.cells #[x0, y0] 34)).alloc (.cells #[x1, y1] 34)) x2 y2 34
  simp only [World.size_alloc] at t1 t2 a1 a2
  refine ⟨(t0.below a1 (by omega)).below a2 (by omega), t1.below a2 (by omega), t2, ?_, by simp only [World.size_alloc]⟩
  have a0 := (Below.refl w.heap.size w).alloc (Nat.le_refl _) (.cells #[x0, y0] 34)
  exact (a0.trans (a1.mono (by omega))).trans (a2.mono (by omega))

theorem n_end {w w5 : World} {x0 y0 x1 y1 x2 y2 : Value} {pp : Option Addr} {nn cc : Nat} {l : List Nat} (T : Later w w5 x0 y0 x1 y1 x2 y2) (u : Value) (h : Rd w5 pp nn cc l) (hf : ∀ x, pp = some x → x.block ≠ w.heap.size + 1 + 1) :
    ((w5.setCell ⟨w.heap.size + 1 + 1, 0, none⟩ u).setCell ⟨w.heap.size + 1 + 1, 1, none⟩ (.slice pp nn cc)).cell? ⟨w.heap.size + 1 + 1, 0, none⟩ = some u ∧
    ((w5.setCell ⟨w.heap.size + 1 + 1, 0, none⟩ u).setCell ⟨w.heap.size + 1 + 1, 1, none⟩ (.slice pp nn cc)).cell? ⟨w.heap.size + 1 + 1, 1, none⟩ = some (.slice pp nn cc) ∧
    Rd ((w5.setCell ⟨w.heap.size + 1 + 1, 0, none⟩ u).setCell ⟨w.heap.size + 1 + 1, 1, none⟩ (.slice pp nn cc)) pp nn cc l ∧
    Below w.heap.size w ((w5.setCell ⟨w.heap.size + 1 + 1, 0, none⟩ u).setCell ⟨w.heap.size + 1 + 1, 1, none⟩ (.slice pp nn cc)) := by
  have t := (T.t2.set0 u).set1 (.slice pp nn cc)
  exact ⟨t.c0, t.c1, (h.other hf _).other hf _, (T.below.setCell (by simp; omega) _).setCell (by simp; omega) _⟩

end Go.Proofs.YtfhnbpilbbbckaaDoor.T3

/- Contracts of the document's answers for numbers: quotients. -/
namespace Go.Proofs.YtfhnbpilbbbckaaDoor.T3
open Go.Proofs.YtfhnbpilbbbckaaDoor Go.Proofs
open Go.RowKit

theorem Later.later {w w3 w5 : World} {x0 y0 x1 y1 x2 y2 : Value} (h : Later w w3 x0 y0 x1 y1 x2 y2) (hb' : Below w3.heap.size w3 w5) : Later w w5 x0 y0 x1 y1 x2 y2 := by
  have hs := h.size
  have hz := hb'.size
  exact ⟨h.t0.below hb' (by omega), h.t1.below hb' (by omega), h.t2.below hb' (by omega), h.below.trans (hb'.mono (by omega)), by omega⟩

theorem ints_set (l : List Nat) (j d : Nat) : (ints l).set j (.int .i64 (d : Int)) = ints (l.set j d) := by
  simp [ints, List.map_set]

set_option maxRecDepth 100000 in
theorem wp_append_rest {ops : Array Oper} {rest : List Oper} {o : Oper} {a : Act} {Q : Exit → Act → World → Prop} (hgd : o.guard = none) (s x : Operand)
    (ho : o.op = .call { callee := .builtin .append, args := #[s, x], argTypes := #[32, 32] }) (w : World) (r : Option Addr) (n t : Nat) (lr : List Nat) (X : Int) (d : Nat) (hd : X = d)
    (hrd : Rd w r n t lr) (hn : n ≤ 500) (hs : a.eval s = .slice (some ⟨w.heap.size, 0, none⟩) 1 1) (hx : a.eval x = .slice r n t)
    (h : ∀ p c w', Hid (w'.ownsRow w.heap.size 3 1 (.slice p (n + 1) c) (n + 1) (ints (d :: lr))) → Hid (Below w.heap.size w w') → wpList Tryd.prog ops Q rest (a.put o.dst (.slice p (n + 1) c)) w') :
    wpList Tryd.prog ops Q (o :: rest) a (w.alloc (.cells #[.int .i64 X] 3)) := by
  obtain ⟨i0, hi, hz0, hz1, hz2⟩ := info_parts info_int
  subst hd
  have hown := World.ownsRow_lit (base := w.heap.size) (e := 3) (size := 1) w #[.int .i64 (d : Int)] 1 (Nat.le_refl _) (by simp only [maxLen]; omega) (by simp)
  have hb0 := (Below.refl w.heap.size w).alloc (Nat.le_refl _) (.cells #[.int .i64 (d : Int)] 3)
  have e : ints (d :: lr) = [.int .i64 (d : Int)] ++ ints lr := by simp [ints]
  cases r with
  | none =>
    have ht := hrd.nil rfl
    have hl : lr = [] := by
      rcases hrd.cells with h | ⟨b, off, h, _⟩
      · exact h
      · simp at h
    have hn0 : n = 0 := by rw [hrd.len, hl]; rfl
    subst hl; subst hn0; subst ht
    refine wpList_append_own_none hgd s x 32 ho w.heap.size 3 i0 1 Tryd.underlying32 hi _ 1 _ hs hown hx ?_
    refine h _ 1 _ (Lib.hid ?_) (Lib.hid hb0)
    rw [e]; simpa [ints] using hown
  | some ad =>
    refine wpList_append_own _ hgd s x 32 ho w.heap.size 3 i0 (.int .i64 0) 1 8 Tryd.underlying32 hi hz0 hz1 hz2 rfl (by decide) _ 1 _ hs hown ad n t (ints lr) hx ?_ ?_ ?_ ?_ ?_ ?_ ?_
    · rw [hrd.len]; simp [ints]
    · intro j u hj
      have hjl : j < lr.length := by
        have := (List.getElem?_eq_some_iff.1 hj).1
        simpa [ints] using this
      rcases hrd.cells with hc | ⟨b, off, hp, hlt, hc⟩
      · rw [hc] at hjl; simp at hjl
      · injection hp with hp
        subst hp
        have ea : Addr.add ⟨b, off, none⟩ j = ⟨b, off + j, none⟩ := by
          unfold Addr.add
          split
          · simp [*]
          · rfl
        rw [ea, World.cell?_alloc_past _ _ _ hlt, hc j hjl, ← hj]
        unfold ints
        rw [List.getElem?_map, List.getElem?_eq_getElem hjl, List.getD_eq_getElem?_getD, List.getElem?_eq_getElem hjl]
        rfl
    · intro u hu
      unfold ints at hu
      obtain ⟨y, _, rfl⟩ := List.mem_map.1 hu
      rfl
    · simp only [maxLen]; omega
    · omega
    · simp
    · intro v' w' hown' hg _
      have e2 : ([Value.int .i64 (d : Int)] : List Value) ++ ints lr = ints (d :: lr) := by simp [ints]
      rw [show (#[Value.int .i64 (d : Int)] : Array Value).toList = [Value.int .i64 (d : Int)] from rfl, e2, Nat.add_comm 1 n] at hown'
      obtain ⟨p, c, rfl⟩ : ∃ p c, v' = .slice p (n + 1) c := by
        rcases hown'.2 with ⟨_, h0⟩ | ⟨g, cap, cur, hv, _⟩
        · omega
        · exact ⟨_, _, hv⟩
      exact h p c w' (Lib.hid hown') (Lib.hid (hb0.grown hg (by simp) (fun j hj => (hown.lt j hj).1)))

end Go.Proofs.YtfhnbpilbbbckaaDoor.T3

/- How the document's text of a number grows, digit by digit: plain mathematics. -/
namespace Go.Proofs.YtfhnbpilbbbckaaDoor.T3
open Go.Proofs.YtfhnbpilbbbckaaDoor Go.Proofs
open Go.RowKit

def stepS (i d : Nat) (s : List UInt8) : List UInt8 :=
  let s1 := if i = 6 ∧ s ≠ [] then 46 :: s else s
  if 6 ≤ i ∨ s1 ≠ [] ∨ 0 < d then ddig d :: s1 else s1
/-- The text behind the digits i to i + the list's length - 1. -/
def growS : Nat → List Nat → List UInt8 → List UInt8
  | _, [], s => s
  | i, d :: l, s => growS (i + 1) l (stepS i d s)

theorem growS_snoc : ∀ (l : List Nat) (i d : Nat) (s : List UInt8), growS i (l ++ [d]) s = stepS (i + l.length) d (growS i l s)
  | [], i, d, s => by simp [growS]
  | e :: l, i, d, s => by
    simp only [List.cons_append, growS, List.length_cons]
    rw [growS_snoc l (i + 1) d]
    congr 1
    omega

theorem growS_append : ∀ (a b : List Nat) (i : Nat) (s : List UInt8), growS i (a ++ b) s = growS (i + a.length) b (growS i a s)
  | [], b, i, s => by simp [growS]
  | d :: a, b, i, s => by
    simp only [List.cons_append, growS, List.length_cons]
    rw [growS_append a b]
    congr 1
    omega

theorem ddig_mod (n : Nat) : ddig (n % 10) = ddig n := by unfold ddig; rw [Nat.mod_mod]

theorem fixD_top : ∀ (k p : Nat), fixD (k + 1) p = ddig (p / 10 ^ k) :: fixD k (p % 10 ^ k)
  | 0, p => by simp [fixD]
  | k + 1, p => by
    rw [fixD, fixD_top k (p / 10), Nat.div_div_eq_div_mul, ← Nat.pow_succ']
    rw [show fixD (k + 1) (p % 10 ^ (k + 1)) = fixD k (p % 10 ^ (k + 1) / 10) ++ [ddig (p % 10 ^ (k + 1))] from rfl]
    have h1 : p / 10 % 10 ^ k = p % 10 ^ (k + 1) / 10 := by
      rw [Nat.pow_succ', Nat.mod_mul_right_div_self]
    have h2 : ddig (p % 10 ^ (k + 1)) = ddig p := by
      unfold ddig
      rw [Nat.pow_succ', Nat.mod_mul_right_mod]
    rw [h1, h2]
    rfl

def stripZ (k p : Nat) : List UInt8 := if p = 0 then [] else strip k p

theorem stripZ_ne {k p : Nat} (hp : p ≠ 0) (h : p < 10 ^ k) : stripZ k p ≠ [] := by
  induction k generalizing p with
  | zero => simp at h; omega
  | succ k ih =>
    unfold stripZ
    rw [if_neg hp]
    unfold strip
    split
    · rename_i h0
      have h2 : p / 10 ≠ 0 := by omega
      have := ih h2 (by rw [Nat.pow_succ] at h; omega)
      unfold stripZ at this
      rw [if_neg h2] at this
      exact this
    · simp [fixD]

/-- One more digit ahead of a fraction's. -/
theorem stripZ_top : ∀ (k p : Nat), p < 10 ^ (k + 1) → stripZ (k + 1) p = if stripZ k (p % 10 ^ k) ≠ [] ∨ 0 < p / 10 ^ k then ddig (p / 10 ^ k) :: stripZ k (p % 10 ^ k) else []
  | 0, p, h => by
    simp at h
    have hs : stripZ 0 (p % 10 ^ 0) = [] := by unfold stripZ; simp [strip]
    rw [hs]
    rcases Nat.eq_zero_or_pos p with h0 | h0
    · subst h0; simp [stripZ]
    · have : p % 10 ≠ 0 := by omega
      simp [stripZ, strip, fixD, this, show p ≠ 0 from by omega, h0]
  | k + 1, p, h => by
    rcases Nat.eq_zero_or_pos p with h0 | h0
    · subst h0; simp [stripZ]
    have hpow : (10 : Nat) ^ (k + 1) = 10 * 10 ^ k := Nat.pow_succ'
    have hpos : 0 < 10 ^ k := Nat.pow_pos (by decide)
    by_cases hm : p % 10 = 0
    · have e1 : stripZ (k + 1 + 1) p = stripZ (k + 1) (p / 10) := by
        unfold stripZ
        rw [if_neg (by omega), if_neg (by omega)]
        simp [strip, hm]
      have h1 : p % 10 ^ (k + 1) / 10 = p / 10 % 10 ^ k := by rw [hpow, Nat.mod_mul_right_div_self]
      have h2 : p % 10 ^ (k + 1) % 10 = 0 := by rw [hpow, Nat.mod_mul_right_mod]; exact hm
      have e2 : stripZ (k + 1) (p % 10 ^ (k + 1)) = stripZ k (p / 10 % 10 ^ k) := by
        unfold stripZ
        rw [← h1]
        rcases Nat.eq_zero_or_pos (p % 10 ^ (k + 1)) with h3 | h3
        · rw [h3]; simp
        · rw [if_neg (by omega), if_neg (by omega)]
          simp [strip, h2]
      have e3 : p / 10 ^ (k + 1) = p / 10 / 10 ^ k := by rw [hpow, Nat.div_div_eq_div_mul]
      rw [e1, e2, e3]
      exact stripZ_top k (p / 10) (by rw [Nat.pow_succ] at h; omega)
    · have e1 : stripZ (k + 1 + 1) p = fixD (k + 1 + 1) p := by
        unfold stripZ
        rw [if_neg (by omega)]
        simp [strip, hm]
      have h2 : p % 10 ^ (k + 1) % 10 ≠ 0 := by rw [hpow, Nat.mod_mul_right_mod]; exact hm
      have h3 : p % 10 ^ (k + 1) ≠ 0 := by intro e; rw [e] at h2; simp at h2
      have e2 : stripZ (k + 1) (p % 10 ^ (k + 1)) = fixD (k + 1) (p % 10 ^ (k + 1)) := by
        unfold stripZ
        rw [if_neg h3]
        simp [strip, h2]
      have e3 : stripZ (k + 1) (p % 10 ^ (k + 1)) ≠ [] := stripZ_ne h3 (Nat.mod_lt _ (Nat.pow_pos (by decide)))
      rw [if_pos (Or.inl e3), e1, e2, fixD_top]
end Go.Proofs.YtfhnbpilbbbckaaDoor.T3

/- Contract of the document's Show. -/
namespace Go.Proofs.YtfhnbpilbbbckaaDoor.T3
open Go.Proofs.YtfhnbpilbbbckaaDoor Go.Proofs
open Go.RowKit

set_option maxRecDepth 100000 in
/-- append of a slice that reads to an empty row that was just made. -/
theorem wp_append_copy {ops : Array Oper} {rest : List Oper} {o : Oper} {a : Act} {Q : Exit → Act → World → Prop} (hgd : o.guard = none) (s x : Operand)
    (ho : o.op = .call { callee := .builtin .append, args := #[s, x], argTypes := #[32, 32] }) (w : World) (r : Option Addr) (n t : Nat) (lr : List Nat)
    (hrd : Rd w r n t lr) (hn : n ≤ 500) (hs : a.eval s = .slice (some ⟨w.heap.size, 0, none⟩) 0 0) (hx : a.eval x = .slice r n t)
    (h : ∀ p c w', Hid (w'.ownsRow w.heap.size 3 1 (.slice p n c) n (ints lr)) → Hid (Below w.heap.size w w') → wpList Tryd.prog ops Q rest (a.put o.dst (.slice p n c)) w') :
    wpList Tryd.prog ops Q (o :: rest) a (w.alloc (.cells #[] 3)) := by
  obtain ⟨i0, hi, hz0, hz1, hz2⟩ := info_parts info_int
  have hown := World.ownsRow_lit (base := w.heap.size) (e := 3) (size := 1) w #[] 0 (Nat.le_refl _) (by simp only [maxLen]; omega) (by simp)
  have hb0 := (Below.refl w.heap.size w).alloc (Nat.le_refl _) (.cells #[] 3)
  cases r with
  | none =>
    have ht := hrd.nil rfl
    have hl : lr = [] := by
      rcases hrd.cells with h | ⟨b, off, h, _⟩
      · exact h
      · simp at h
    have hn0 : n = 0 := by rw [hrd.len, hl]; rfl
    subst hl; subst hn0; subst ht
    refine wpList_append_own_none hgd s x 32 ho w.heap.size 3 i0 1 Tryd.underlying32 hi _ 0 _ hs hown hx ?_
    exact h _ 0 _ (Lib.hid (by simpa [ints] using hown)) (Lib.hid hb0)
  | some ad =>
    refine wpList_append_own _ hgd s x 32 ho w.heap.size 3 i0 (.int .i64 0) 1 8 Tryd.underlying32 hi hz0 hz1 hz2 rfl (by decide) _ 0 _ hs hown ad n t (ints lr) hx ?_ ?_ ?_ ?_ ?_ ?_ ?_
    · rw [hrd.len]; simp [ints]
    · intro j u hj
      have hjl : j < lr.length := by
        have := (List.getElem?_eq_some_iff.1 hj).1
        simpa [ints] using this
      rcases hrd.cells with hc | ⟨b, off, hp, hlt, hc⟩
      · rw [hc] at hjl; simp at hjl
      · injection hp with hp
        subst hp
        have ea : Addr.add ⟨b, off, none⟩ j = ⟨b, off + j, none⟩ := by
          unfold Addr.add
          split
          · simp [*]
          · rfl
        rw [ea, World.cell?_alloc_past _ _ _ hlt, hc j hjl, ← hj]
        unfold ints
        rw [List.getElem?_map, List.getElem?_eq_getElem hjl, List.getD_eq_getElem?_getD, List.getElem?_eq_getElem hjl]
        rfl
    · intro u hu
      unfold ints at hu
      obtain ⟨y, _, rfl⟩ := List.mem_map.1 hu
      rfl
    · simp only [maxLen]; omega
    · omega
    · simp
    · intro v' w' hown' hg _
      rw [show (#[] : Array Value).toList = [] from rfl, List.nil_append, Nat.zero_add] at hown'
      obtain ⟨p, c, rfl⟩ : ∃ p c, v' = .slice p n c := by
        rcases hown'.2 with ⟨h0, h1⟩ | ⟨g, cap, cur, hv, _⟩
        · exact ⟨none, 0, by rw [h0, h1]⟩
        · exact ⟨_, _, hv⟩
      exact h p c w' (Lib.hid hown') (Lib.hid (hb0.grown hg (by simp) (fun j hj => (hown.lt j hj).1)))

theorem conv_one (W : World) (X : Int) (d : Nat) (hd : d < 10) (hX : X = 48 + (d : Int)) :
    (convert 37 9 (.slice (some ⟨W.heap.size, 0, none⟩) 1 1)).run Tryd.prog (W.alloc (.cells #[.int .u8 X] 5)) = .ok (.string ⟨#[ddig d]⟩) (W.alloc (.cells #[.int .u8 X] 5)) := by
  have hb : (ddig d).toNat = 48 + d := by
    unfold ddig
    rw [Nat.mod_eq_of_lt hd]
    simp
    omega
  have h := run_convert_bytes_back (P := Tryd.prog) (W.alloc (.cells #[.int .u8 X] 5)) 37 9 5 ⟨W.heap.size, 0, none⟩ 1 [ddig d] Tryd.underlying37 Tryd.underlying5 Tryd.underlying9 ?_
  · exact h
  · intro j hj
    have hj0 : j = 0 := by simpa using hj
    subst hj0
    simp only [Addr.add, List.getElem_cons_zero]
    rw [hb, hX]
    simp [go_sem]

theorem one_data (x : UInt8) (t : ByteArray) : (({ data := #[x] } : ByteArray) ++ t).data.toList = x :: t.data.toList := by
  rw [ByteArray.data_append]; simp
theorem one_size (x : UInt8) (t : ByteArray) : (({ data := #[x] } : ByteArray) ++ t).size = 1 + t.size := by
  rw [ByteArray.size_append]; rfl

theorem grow_next (l : List Nat) (i : Nat) (h : i < l.length) : growS 0 (l.take (i + 1)) [] = stepS i (l.getD i 0) (growS 0 (l.take i) []) := by
  rw [List.take_succ_eq_append_getElem h, growS_snoc, List.length_take, Nat.min_eq_left (by omega), Nat.zero_add]
  rw [List.getD_eq_getElem?_getD, List.getElem?_eq_getElem h]
  rfl

def padded (N : Nat) : List Nat := dg 20 N ++ List.replicate (7 - (dg 20 N).length) 0

def RShow (a : Int) (W : World) (e : Ending) (w' : World) : Prop := ∃ t : ByteArray, t.data.toList = (if a < 0 then 45 :: growS 0 (padded a.natAbs) [] else growS 0 (padded a.natAbs) []) ∧ e = .returned (.string t) ∧ Below W.heap.size W w'

end Go.Proofs.YtfhnbpilbbbckaaDoor.T3
