/- Merged by program: RClassA, TimesA, OwnT. -/
import Derived.Test.YtimipfdknfdbdaaGreatQsbc
import Derived.Test.YtimipfdknfdbdaaGreatQsbd
import Derived.Test.YtimipfdknfdbdaaGreatQsae
import Derived.Test.YtimipfdknfdbdaaGreatQsaj
/- aukletref04.at, single, Set at any text: walks. -/
namespace Go.Proofs.YtimipfdknfdbdaaGreat
open Go.RowKit

/-- A text's byte at a place; -1 beyond. -/
def atB (s : ByteArray) (i : Nat) : Int := if h : i < s.size then (s[i].toNat : Int) else -1
theorem atB_lt (s : ByteArray) (i : Nat) : atB s i < 256 := by
  unfold atB
  split
  · have := s[i].toNat_lt; omega
  · omega
theorem atB_ge (s : ByteArray) (i : Nat) : -1 ≤ atB s i := by
  unfold atB
  split <;> omega
theorem atB_in {s : ByteArray} {i : Nat} (h : 0 ≤ atB s i) : i < s.size := by
  unfold atB at h
  split at h
  · assumption
  · omega

set_option maxRecDepth 100000 in
theorem at_any (s : ByteArray) (i : Nat) (w : World) :
    Calls Tryz.prog 93 #[.string s, .int .i64 i] w fun e w' => e = .returned (.int .i64 (atB s i)) ∧ w' = w := by
  by_cases h : i < s.size
  · have e : atB s i = s[i].toNat := by unfold atB; rw [dif_pos h]
    have hd : decide ((i : Int) < s.size) = true := decide_eq_true (by omega)
    have hl : s[i].toNat < 256 := s[i].toNat_lt
    rw [e]
    clear e
    go_enter Tryz.func93, Tryz.ntmps93
    go_wp2_with fail
    go_ret
    exact ⟨rfl, rfl⟩
  · have e : atB s i = -1 := by unfold atB; rw [dif_neg h]
    have hd : decide ((i : Int) < s.size) = false := decide_eq_false (by omega)
    rw [e]
    clear e
    go_enter Tryz.func93, Tryz.ntmps93
    go_wp2_with fail
    go_ret
    exact ⟨rfl, rfl⟩

/-- What single tells: a byte and a place behind it; -1: the text ends. -/
def OneOut (s : ByteArray) (i : Nat) (w : World) (e : Ending) (w' : World) : Prop :=
  ∃ (x : Int) (n : Nat), e = .returned (.tuple #[.int .i64 x, .int .i64 n]) ∧ Hid (-1 ≤ x ∧ x < 256 ∧ i < n ∧ n ≤ i + 2 ∧ (0 ≤ x → n ≤ s.size)) ∧ w' = w

set_option maxRecDepth 100000 in
theorem single_any (s : ByteArray) (i : Nat) (hi : i ≤ 900) (w : World) :
    Calls Tryz.prog 95 #[.string s, .int .i64 i] w (OneOut s i w) := by
  have HA := Lib.hid (fun w => at_any s i w)
  have HB := Lib.hid (fun w => at_any s (i + 1) w)
  have e1 : ((i + 1 : Nat) : Int) = (i : Int) + 1 := by omega
  rw [e1] at HB
  have ga := Lib.hid (atB_ge s i); have la := Lib.hid (atB_lt s i); have ia := Lib.hid (fun h => atB_in (s := s) (i := i) h)
  have gb := Lib.hid (atB_ge s (i + 1)); have lb := Lib.hid (atB_lt s (i + 1)); have ib := Lib.hid (fun h => atB_in (s := s) (i := i + 1) h)
  clear e1
  generalize atB s i = x at *
  generalize atB s (i + 1) = y at *
  go_enter Tryz.func95, Tryz.ntmps95
  go_wp2_with fail
  refine (HA.out _).mono ?_
  rintro e w1 ⟨rfl, rfl⟩
  by_cases hx : x = 92
  · have hxb : (x == 92) = true := beq_iff_eq.2 hx
    clear HA
    go_wp2_with fail
    refine (HB.out _).mono ?_
    rintro e w2 ⟨rfl, rfl⟩
    by_cases h1 : y = 110
    · have hyb : (y == 110) = true := beq_iff_eq.2 h1
      go_wp2_with fail
      go_ret2
      exact ⟨10, i + 2, by simp, Lib.hid ⟨by omega, by omega, by omega, by omega, fun _ => by have := ib.out (by omega); omega⟩, rfl⟩
    · have hyb : (y == 110) = false := beq_eq_false_iff_ne.2 h1
      by_cases h2 : y = 116
      · have hyc : (y == 116) = true := beq_iff_eq.2 h2
        go_wp2_with fail
        go_ret2
        exact ⟨9, i + 2, by simp, Lib.hid ⟨by omega, by omega, by omega, by omega, fun _ => by have := ib.out (by omega); omega⟩, rfl⟩
      · have hyc : (y == 116) = false := beq_eq_false_iff_ne.2 h2
        have H1 := Lib.hid h1; have H2 := Lib.hid h2; clear h1 h2
        go_wp2_with fail
        go_ret2
        exact ⟨y, i + 2, by simp, Lib.hid ⟨gb.out, lb.out, by omega, by omega, fun h => by have := ib.out h; omega⟩, rfl⟩
  · have hxb : (x == 92) = false := beq_eq_false_iff_ne.2 hx
    have H1 := Lib.hid hx; clear hx
    go_wp2_with fail
    refine (HA.out _).mono ?_
    rintro e w2 ⟨rfl, rfl⟩
    go_wp2_with fail
    go_ret2
    exact ⟨x, i + 1, by simp, Lib.hid ⟨ga.out, la.out, by omega, by omega, fun h => by have := ia.out h; omega⟩, rfl⟩

/-- How many bits word j has got, once all from m on are in. -/
def gotB (m j : Nat) : Nat := 64 - min 64 (m - 64 * j)
theorem set_boxed (w : World) (p : Nat → Bool) : ∃ W, W = ((w.alloc (.cells (bools p) 138)).alloc (.cells (words zero4) 35)).alloc (.cells (words zero4) 35) ∧
    Hid (Row W w.heap.size p) ∧ Hid (Quad W (w.heap.size + 1) zero4) ∧ Hid (Quad W (w.heap.size + 1 + 1) zero4) ∧ Hid (Below w.heap.size w W) := by
  refine ⟨_, rfl, Lib.hid (((row_new w p).after (below_new _ _)).after (below_new _ _)), ?_, ?_, Lib.hid (Below.step (Below.step (below_new _ _) (below_new _ _)) (below_new _ _))⟩
  · have h := quad_new (w.alloc (.cells (bools p) 138)) zero4 35
    rw [World.size_alloc] at h
    exact Lib.hid (h.after (below_new _ _))
  · have h := quad_new ((w.alloc (.cells (bools p) 138)).alloc (.cells (words zero4) 35)) zero4 35
    rw [World.size_alloc, World.size_alloc] at h
    exact Lib.hid h

theorem got_step {m : Nat} (f : Nat → Nat) (x : Nat) (h : ∀ j, j < 4 → f j < 2 ^ gotB (m + 1) j) (hx : x ≤ f (m / 64) * 2 + 1) :
    ∀ j, j < 4 → (if j = m / 64 then x else f j) < 2 ^ gotB m j := by
  intro j hj
  have hf := h j hj
  split
  · subst j
    have e : gotB m (m / 64) = gotB (m + 1) (m / 64) + 1 := by unfold gotB; omega
    rw [e, Nat.pow_succ]
    omega
  · have e : gotB m j = gotB (m + 1) j := by unfold gotB; omega
    rw [e]; exact hf
theorem got_small {m : Nat} (f : Nat → Nat) (hm : m < 256) (h : ∀ j, j < 4 → f j < 2 ^ gotB (m + 1) j) : f (m / 64) * 2 + 1 < 18446744073709551616 := by
  have hf := h (m / 64) (by omega)
  have e : 2 ^ gotB (m + 1) (m / 64) ≤ 2 ^ 63 := Nat.pow_le_pow_right (by omega) (by unfold gotB; omega)
  have e2 : (2 : Nat) ^ 63 = 9223372036854775808 := by decide
  omega
end Go.Proofs.YtimipfdknfdbdaaGreat

/- ere.number, counts, areTimes, reader.times at any text: walks. -/
namespace Go.Proofs.YtimipfdknfdbdaaGreat
open Go.RowKit

def NumOut (w : World) (e : Ending) (w' : World) : Prop := ∃ (n : Nat) (b : Bool), e = .returned (.tuple #[.int .i64 n, .bool b]) ∧ n ≤ 99 ∧ w' = w
def TruthOut (G : Prop) (w : World) (e : Ending) (w' : World) : Prop := ∃ b : Bool, e = .returned (.bool b) ∧ Hid (b = true → G) ∧ w' = w
def CountOut (w : World) (e : Ending) (w' : World) : Prop := ∃ (lo hi : Int) (b : Bool), e = .returned (.tuple #[.int .i64 lo, .int .i64 hi, .bool b]) ∧ ∃ n, w' = w.drewN n

set_option maxRecDepth 100000 in
theorem number_any (s : ByteArray) (w : World) :
    Calls Tryz.prog 91 #[.string s] w (NumOut w) := by
  by_cases h1 : s.size < 1
  · have hd : decide ((s.size : Int) < 1) = true := decide_eq_true (by omega)
    go_enter Tryz.func91, Tryz.ntmps91
    go_wp2_with fail
    go_ret2
    exact ⟨0, false, rfl, by omega, rfl⟩
  by_cases h2 : 2 < s.size
  · have hd : decide ((s.size : Int) < 1) = false := decide_eq_false (by omega)
    have hd2 : decide ((2 : Int) < s.size) = true := decide_eq_true (by omega)
    go_enter Tryz.func91, Tryz.ntmps91
    go_wp2_with fail
    go_ret2
    exact ⟨0, false, rfl, by omega, rfl⟩
  · have hd : decide ((s.size : Int) < 1) = false := decide_eq_false (by omega)
    have hd2 : decide ((2 : Int) < s.size) = false := decide_eq_false (by omega)
    go_enter Tryz.func91, Tryz.ntmps91
    go_wp2_with fail
    go_loopw [4, 5, 16] (fun nv i5 iv wr => i5 = i5 ∧ ∃ i n : Nat, iv = .int .i64 i ∧ nv = .int .i64 n ∧ i ≤ s.size ∧ (i = 0 → n = 0) ∧ (i = 1 → n ≤ 9) ∧ n ≤ 99 ∧ wr = w) (fun _ _ iv _ => s.size - (intOf iv).toNat)
    case atStart => exact ⟨rfl, 0, 0, rfl, rfl, by omega, fun _ => rfl, fun h => by omega, by omega, rfl⟩
    case round =>
      obtain ⟨_, i, n, rfl, rfl, hi, hn0, hn1, hn2, rfl⟩ := hrel
      by_cases hgo : i < s.size
      · obtain ⟨c, hc⟩ : ∃ c, c = s[i].toNat := ⟨_, rfl⟩
        have hc256 : c < 256 := by rw [hc]; exact UInt8.toNat_lt _
        by_cases hlo : c < 48
        · have g1 : decide ((s[i].toNat : Int) < 48) = true := decide_eq_true (by omega)
          go_wp2_with fail
          go_ret2
          exact ⟨0, false, rfl, by omega, rfl⟩
        · have g1 : decide ((s[i].toNat : Int) < 48) = false := decide_eq_false (by omega)
          by_cases hhi : 57 < c
          · have g2 : decide ((57 : Int) < s[i].toNat) = true := decide_eq_true (by omega)
            go_wp2_with fail
            go_ret2
            exact ⟨0, false, rfl, by omega, rfl⟩
          · have g2 : decide ((57 : Int) < s[i].toNat) = false := decide_eq_false (by omega)
            have g3 : Hid (n * 10 + (c - 48) ≤ 99 ∧ (i + 1 = 1 → n * 10 + (c - 48) ≤ 9)) := Lib.hid (by
              have hi2 : i = 0 ∨ i = 1 := by omega
              rcases hi2 with e | e
              · have := hn0 e; omega
              · have := hn1 e; omega)
            go_wp2_with fail
            go_roundw
            case rel =>
              refine ⟨trivial, i + 1, n * 10 + (c - 48), by go_num, ?_, by omega, fun h => by omega, g3.out.2, g3.out.1, trivial⟩
              congr 1
              omega
            case measure => simp [intOf]; omega
      · go_wp2_with fail
        go_ret2
        exact ⟨n, true, rfl, hn2, rfl⟩

def OkTimes (x : Int × Int) : Prop := 0 ≤ x.1 ∧ x.1 ≤ 50 ∧ (x.2 = -1 ∨ (x.1 ≤ x.2 ∧ x.2 ≤ 50))

set_option maxRecDepth 100000 in
theorem areTimes_any (lo hi : Int) (w : World) :
    Calls Tryz.prog 66 #[.int .i64 lo, .int .i64 hi] w (TruthOut (OkTimes (lo, hi)) w) := by
  by_cases h0 : lo < 0
  · have d0 : decide (lo < 0) = true := decide_eq_true h0
    go_enter Tryz.func66, Tryz.ntmps66
    go_wp2_with fail
    go_ret
    exact ⟨false, rfl, Lib.hid (fun h => absurd h (by decide)), rfl⟩
  have d0 : decide (lo < 0) = false := decide_eq_false h0
  by_cases h1 : 50 < lo
  · have d1 : decide (50 < lo) = true := decide_eq_true h1
    go_enter Tryz.func66, Tryz.ntmps66
    go_wp2_with fail
    go_ret
    exact ⟨false, rfl, Lib.hid (fun h => absurd h (by decide)), rfl⟩
  have d1 : decide (50 < lo) = false := decide_eq_false h1
  by_cases h2 : hi = -1
  · subst h2
    exact (areTimes_spec lo (-1) (by omega) (by omega) (Or.inl rfl) w).mono fun e w' ⟨e1, e2⟩ => ⟨true, e1, Lib.hid (fun _ => ⟨by show 0 ≤ lo; omega, by show lo ≤ 50; omega, Or.inl rfl⟩), e2⟩
  have d2 : (hi == -1) = false := beq_eq_false_iff_ne.2 h2
  by_cases h3 : lo ≤ hi
  · by_cases h4 : hi ≤ 50
    · exact (areTimes_spec lo hi (by omega) (by omega) (Or.inr ⟨h3, h4⟩) w).mono fun e w' ⟨e1, e2⟩ => ⟨true, e1, Lib.hid (fun _ => ⟨by show 0 ≤ lo; omega, by show lo ≤ 50; omega, Or.inr ⟨h3, h4⟩⟩), e2⟩
    · have d3 : decide (lo ≤ hi) = true := decide_eq_true h3
      have d4 : decide (hi ≤ 50) = false := decide_eq_false h4
      go_enter Tryz.func66, Tryz.ntmps66
      go_wp2_with fail
      go_ret
      exact ⟨false, rfl, Lib.hid (fun h => absurd h (by decide)), rfl⟩
  · have d3 : decide (lo ≤ hi) = false := decide_eq_false h3
    go_enter Tryz.func66, Tryz.ntmps66
    go_wp2_with fail
    go_ret
    exact ⟨false, rfl, Lib.hid (fun h => absurd h (by decide)), rfl⟩

theorem MX.drewN {w : World} (h : MX w) (n : Nat) : MX (w.drewN n) := h.after (drewN_below w n)
/-- strings.Cut, by its parts. -/
theorem cut_any (s sep : ByteArray) (hs : s.size ≤ 400) (w : World) (hx : MX w) :
    ∃ (a b : ByteArray) (ok : Bool), (ok = true → a.size + sep.size ≤ s.size) ∧ b.size ≤ s.size ∧ a.size ≤ s.size ∧ ∀ n, Calls Tryz.prog 77 #[.string s, .string sep] (w.drewN n) fun e w' => e = .returned (.tuple #[.string a, .string b, .bool ok]) ∧ ∃ m, w' = (w.drewN n).drewN m := by
  have hsl : s.data.toList.length = s.size := Array.length_toList
  have hpl : sep.data.toList.length = sep.size := Array.length_toList
  refine ⟨⟨(Lib.cut s.data.toList sep.data.toList).1.toArray⟩, ⟨(Lib.cut s.data.toList sep.data.toList).2.1.toArray⟩, (Lib.cut s.data.toList sep.data.toList).2.2, ?_, ?_, ?_, fun n => ?_⟩
  rotate_right
  · obtain ⟨m, hm⟩ := hx.drewN n
    exact Tryz.strings_Cut s sep m (w.drewN n) (by omega) hm
  · intro h
    have := cut_len _ _ h
    rw [hpl, hsl] at this
    show (List.toArray _).size + _ ≤ _
    rw [List.size_toArray]
    exact this
  · show (List.toArray _).size ≤ _
    rw [List.size_toArray]
    unfold Lib.cut
    split
    · simp only [List.length_drop]; omega
    · exact Nat.zero_le _
  · show (List.toArray _).size ≤ _
    rw [List.size_toArray]
    unfold Lib.cut
    split
    · simp only [List.length_take]; omega
    · exact Nat.le_of_eq hsl

set_option maxRecDepth 100000 in
theorem counts_any (s : ByteArray) (hs : s.size ≤ 400) (w : World) (hx : MX w) :
    Calls Tryz.prog 78 #[.string s] w (CountOut w) := by
  obtain ⟨A, B, ok, _, _, _, HC0⟩ := cut_any s ⟨#[44]⟩ hs w hx
  have HC := Lib.hid (HC0 0)
  clear HC0
  change Hid (Calls _ _ _ w _) at HC
  have HN := Lib.hid (fun w => number_any A w)
  have HM := Lib.hid (fun w => number_any B w)
  clear hx
  go_enter Tryz.func78, Tryz.ntmps78
  go_wp2_with fail
  refine HC.out.mono ?_
  rintro e w1 ⟨rfl, q, rfl⟩
  go_wp2_with fail
  refine (HN.out _).mono ?_
  rintro e w2 ⟨n, b, rfl, hn, rfl⟩
  cases b with
  | false =>
    go_wp2_with fail
    go_ret3
    exact ⟨0, 0, false, rfl, q, rfl⟩
  | true =>
    cases ok with
    | false =>
      go_wp2_with fail
      go_ret3
      exact ⟨n, n, true, rfl, q, rfl⟩
    | true =>
      by_cases hB : B.toList.isEmpty = true
      · go_wp2_with fail
        go_ret3
        exact ⟨n, -1, true, rfl, q, rfl⟩
      · have hB2 : B.toList.isEmpty = false := by simpa using hB
        clear hB
        go_wp2_with fail
        refine (HM.out _).mono ?_
        rintro e w3 ⟨m, b2, rfl, hm, rfl⟩
        go_wp2_with fail
        go_ret3
        exact ⟨n, m, b2, rfl, q, rfl⟩
end Go.Proofs.YtimipfdknfdbdaaGreat

/- A slice of trees that a call makes, tree by tree. -/
namespace Go.Proofs.YtimipfdknfdbdaaGreat
open Go.RowKit

def emptyT : Tree := .mk 0 zero4 0 0 []
/-- A slice that the call owns, of trees' cells. -/
theorem owns_eight {w : World} {base g n cap : Nat} {cs : Nat → Array Value} (h : w.ownsRow base 38 8 (.slice (some ⟨g, 0, none⟩) n cap) n (flatC cs n)) (hc : ∀ j, j < n → (cs j).size = 8) (i : Nat) (hi : i < n) : Eight w g (0 + i * 8) (cs i) := by
  intro j hj
  rw [Nat.zero_add, h.cellAt (i * 8 + j) (by omega)]
  exact flatC_get 8 cs n hc i hi j hj

structure OwnTrees (w : World) (base : Nat) (v : Value) (ts : List Tree) (cs : Nat → Array Value) : Prop where
  row : w.ownsRow base 38 8 v ts.length (flatC cs ts.length)
  at_ : ∀ j (h : j < ts.length), At w (fun b => base ≤ b ∧ some b ≠ v.ownBlock) ts[j] (cs j)

theorem own_nil (w : World) (base : Nat) (cs : Nat → Array Value) : OwnTrees w base (.slice none 0 0) [] cs := ⟨World.ownsRow_nil _ _ _ _, fun j h => absurd h (by simp)⟩
theorem OwnTrees.after {w w' : World} {base : Nat} {v : Value} {ts : List Tree} {cs : Nat → Array Value} (h : OwnTrees w base v ts cs) (hb : Below w.heap.size w w') : OwnTrees w' base v ts cs :=
  ⟨owns_after h.row hb, fun j hj => (h.at_ j hj).after hb⟩
theorem OwnTrees.but {p : Nat} {w w' : World} {base : Nat} {v : Value} {ts : List Tree} {cs : Nat → Array Value} (h : OwnTrees w base v ts cs) (hb : But p w w') (hp : p < base) : OwnTrees w' base v ts cs :=
  ⟨h.row.kept (row := some p) ⟨hb.os, hb.tape, hb.output, hb.size, fun k hk e => hb.block k hk (fun e' => e (by rw [e']))⟩ (by
      cases hv : v.ownBlock with
      | none => exact Or.inl rfl
      | some k => exact Or.inr (fun e => by have := (h.row.lt k hv).1; simp at e; omega)),
    fun j hj => (h.at_ j hj).butS hb (fun e => by have := e.1; omega)⟩
theorem OwnTrees.size8 {w : World} {base : Nat} {v : Value} {ts : List Tree} {cs : Nat → Array Value} (h : OwnTrees w base v ts cs) (j : Nat) (hj : j < ts.length) : (cs j).size = 8 := (h.at_ j hj).size
theorem OwnTrees.snoc {w w' : World} {base : Nat} {v v' : Value} {ts : List Tree} {cs : Nat → Array Value} (h : OwnTrees w base v ts cs) {t : Tree} {ds : Array Value} {C : Nat} (ht : At w (Up C) t ds) (hC : base ≤ C) (hv : ∀ k, v.ownBlock = some k → k < C)
    (hrow : w'.ownsRow base 38 8 v' (ts.length + 1) (flatC cs ts.length ++ ds.toList)) (hg : w.grownBy w' v.ownBlock) (hb : v'.ownBlock = v.ownBlock ∨ v'.ownBlock = some w.heap.size) :
    OwnTrees w' base v' (ts ++ [t]) (fun j => if j = ts.length then ds else cs j) := by
  have hl : (ts ++ [t]).length = ts.length + 1 := by simp
  refine ⟨?_, fun j hj => ?_⟩
  · rw [hl, flatC_succ, if_pos rfl, flatC_congr (ds := cs) (fun j hj => if_neg (by omega))]
    exact hrow
  · have keep : ∀ {u : Tree} {es : Array Value}, At w (fun b => base ≤ b ∧ some b ≠ v.ownBlock) u es → At w' (fun b => base ≤ b ∧ some b ≠ v'.ownBlock) u es := by
      intro u es hu
      refine ((hu.inWorld).keep (w' := w') (fun k hk hlt => hg.block k hlt hk.1.2)).weakS fun k hk => ⟨hk.1.1, ?_⟩
      rcases hb with e | e
      · rw [e]; exact hk.1.2
      · rw [e]; intro e'; have := hk.2; simp at e'; omega
    by_cases e : j = ts.length
    · subst e
      rw [if_pos rfl]
      have : (ts ++ [t])[ts.length] = t := by simp
      rw [this]
      refine keep (ht.weakS fun k hk => ⟨Nat.le_trans hC hk, fun e => ?_⟩)
      have h1 := hv k e.symm
      have h2 : C ≤ k := hk
      omega
    · rw [if_neg e]
      have hj' : j < ts.length := by rw [hl] at hj; omega
      have : (ts ++ [t])[j] = ts[j] := List.getElem_append_left hj'
      rw [this]
      exact keep (h.at_ j hj')
theorem OwnTrees.slAt {w : World} {base : Nat} {v : Value} {ts : List Tree} {cs : Nat → Array Value} (h : OwnTrees w base v ts cs) : SlAt w (Up base) ts v := by
  rcases h.row.2 with ⟨rfl, h0⟩ | ⟨g, cap, cur, rfl, hb, _, hcap, _⟩
  · exact Or.inl ⟨List.eq_nil_of_length_eq_zero h0, none, 0, by rfl⟩
  · by_cases e : ts = []
    · subst e; exact Or.inl ⟨rfl, _, _, rfl⟩
    · exact Or.inr ⟨e, g, 0, cap, cs, rfl, hcap, hb, fun i hi => owns_eight h.row h.size8 i hi, fun i hi => (h.at_ i hi).weakS fun k hk => hk.1⟩

end Go.Proofs.YtimipfdknfdbdaaGreat
