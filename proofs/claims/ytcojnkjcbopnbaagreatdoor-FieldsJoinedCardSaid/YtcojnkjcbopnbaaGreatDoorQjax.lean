/- Merged by program: TimesA, OwnT, JoinAny. -/
import Derived.Test.YtcojnkjcbopnbaaGreatDoorQjaw
import Derived.Test.YtcojnkjcbopnbaaGreatDoorQjaj
import Derived.Test.YtcojnkjcbopnbaaGreatDoorQjah
import Derived.Test.YtcojnkjcbopnbaaGreatDoorQjau
/- ere.number, counts, areTimes, reader.times at any text: walks. -/
namespace Go.Proofs.YtcojnkjcbopnbaaGreatDoor
open Go.RowKit

def NumOut (w : World) (e : Ending) (w' : World) : Prop := ∃ (n : Nat) (b : Bool), e = .returned (.tuple #[.int .i64 n, .bool b]) ∧ n ≤ 99 ∧ w' = w
def TruthOut (G : Prop) (w : World) (e : Ending) (w' : World) : Prop := ∃ b : Bool, e = .returned (.bool b) ∧ Hid (b = true → G) ∧ w' = w
def CountOut (w : World) (e : Ending) (w' : World) : Prop := ∃ (lo hi : Int) (b : Bool), e = .returned (.tuple #[.int .i64 lo, .int .i64 hi, .bool b]) ∧ ∃ n, w' = w.drewN n

set_option maxRecDepth 100000 in
theorem number_any (s : ByteArray) (w : World) :
    Calls Tryz.prog 155 #[.string s] w (NumOut w) := by
  by_cases h1 : s.size < 1
  · have hd : decide ((s.size : Int) < 1) = true := decide_eq_true (by omega)
    go_enter Tryz.func155, Tryz.ntmps155
    go_wp2_with fail
    go_ret2
    exact ⟨0, false, rfl, by omega, rfl⟩
  by_cases h2 : 2 < s.size
  · have hd : decide ((s.size : Int) < 1) = false := decide_eq_false (by omega)
    have hd2 : decide ((2 : Int) < s.size) = true := decide_eq_true (by omega)
    go_enter Tryz.func155, Tryz.ntmps155
    go_wp2_with fail
    go_ret2
    exact ⟨0, false, rfl, by omega, rfl⟩
  · have hd : decide ((s.size : Int) < 1) = false := decide_eq_false (by omega)
    have hd2 : decide ((2 : Int) < s.size) = false := decide_eq_false (by omega)
    go_enter Tryz.func155, Tryz.ntmps155
    go_wp2_with fail
    go_loopw [4, 5, 16] (fun nv i5 iv wr => i5 = i5 ∧ ∃ i n : Nat, iv = .int .i64 i ∧ nv = .int .i64 n ∧ i ≤ s.size ∧ (i = 0 → n = 0) ∧ (i = 1 → n ≤ 9) ∧ n ≤ 99 ∧ wr = w) (fun _ _ iv _ => s.size - (intOf iv).toNat)
    case atStart => exact ⟨rfl, 0, 0, rfl, rfl, by omega, fun _ => rfl, fun h => by omega, by omega, rfl⟩
    case round =>
      obtain ⟨_, i, n, rfl, rfl, hi, hn0, hn1, hn2, rfl⟩ := hrel
      by_cases hgo : i < s.size
      · obtain ⟨c, hc⟩ : ∃ c, c = s[i].toNat := ⟨_, rfl⟩
        have hc256 : c < 256 := by rw [hc]; exact UInt8.toNat_lt _
        by_cases hlo : c < 48
        · have g1 : decide ((s[i].toNat : Int) < 48) = true := decide_eq_true (by omega)
          go_wp2_with fail
          go_ret2
          exact ⟨0, false, rfl, by omega, rfl⟩
        · have g1 : decide ((s[i].toNat : Int) < 48) = false := decide_eq_false (by omega)
          by_cases hhi : 57 < c
          · have g2 : decide ((57 : Int) < s[i].toNat) = true := decide_eq_true (by omega)
            go_wp2_with fail
            go_ret2
            exact ⟨0, false, rfl, by omega, rfl⟩
          · have g2 : decide ((57 : Int) < s[i].toNat) = false := decide_eq_false (by omega)
            have g3 : Hid (n * 10 + (c - 48) ≤ 99 ∧ (i + 1 = 1 → n * 10 + (c - 48) ≤ 9)) := Lib.hid (by
              have hi2 : i = 0 ∨ i = 1 := by omega
              rcases hi2 with e | e
              · have := hn0 e; omega
              · have := hn1 e; omega)
            go_wp2_with fail
            go_roundw
            case rel =>
              refine ⟨trivial, i + 1, n * 10 + (c - 48), by go_num, ?_, by omega, fun h => by omega, g3.out.2, g3.out.1, trivial⟩
              congr 1
              omega
            case measure => simp [intOf]; omega
      · go_wp2_with fail
        go_ret2
        exact ⟨n, true, rfl, hn2, rfl⟩

def OkTimes (x : Int × Int) : Prop := 0 ≤ x.1 ∧ x.1 ≤ 50 ∧ (x.2 = -1 ∨ (x.1 ≤ x.2 ∧ x.2 ≤ 50))

set_option maxRecDepth 100000 in
theorem areTimes_any (lo hi : Int) (w : World) :
    Calls Tryz.prog 132 #[.int .i64 lo, .int .i64 hi] w (TruthOut (OkTimes (lo, hi)) w) := by
  by_cases h0 : lo < 0
  · have d0 : decide (lo < 0) = true := decide_eq_true h0
    go_enter Tryz.func132, Tryz.ntmps132
    go_wp2_with fail
    go_ret
    exact ⟨false, rfl, Lib.hid (fun h => absurd h (by decide)), rfl⟩
  have d0 : decide (lo < 0) = false := decide_eq_false h0
  by_cases h1 : 50 < lo
  · have d1 : decide (50 < lo) = true := decide_eq_true h1
    go_enter Tryz.func132, Tryz.ntmps132
    go_wp2_with fail
    go_ret
    exact ⟨false, rfl, Lib.hid (fun h => absurd h (by decide)), rfl⟩
  have d1 : decide (50 < lo) = false := decide_eq_false h1
  by_cases h2 : hi = -1
  · subst h2
    exact (areTimes_spec lo (-1) (by omega) (by omega) (Or.inl rfl) w).mono fun e w' ⟨e1, e2⟩ => ⟨true, e1, Lib.hid (fun _ => ⟨by show 0 ≤ lo; omega, by show lo ≤ 50; omega, Or.inl rfl⟩), e2⟩
  have d2 : (hi == -1) = false := beq_eq_false_iff_ne.2 h2
  by_cases h3 : lo ≤ hi
  · by_cases h4 : hi ≤ 50
    · exact (areTimes_spec lo hi (by omega) (by omega) (Or.inr ⟨h3, h4⟩) w).mono fun e w' ⟨e1, e2⟩ => ⟨true, e1, Lib.hid (fun _ => ⟨by show 0 ≤ lo; omega, by show lo ≤ 50; omega, Or.inr ⟨h3, h4⟩⟩), e2⟩
    · have d3 : decide (lo ≤ hi) = true := decide_eq_true h3
      have d4 : decide (hi ≤ 50) = false := decide_eq_false h4
      go_enter Tryz.func132, Tryz.ntmps132
      go_wp2_with fail
      go_ret
      exact ⟨false, rfl, Lib.hid (fun h => absurd h (by decide)), rfl⟩
  · have d3 : decide (lo ≤ hi) = false := decide_eq_false h3
    go_enter Tryz.func132, Tryz.ntmps132
    go_wp2_with fail
    go_ret
    exact ⟨false, rfl, Lib.hid (fun h => absurd h (by decide)), rfl⟩

theorem MX.drewN {w : World} (h : MX w) (n : Nat) : MX (w.drewN n) := h.after (drewN_below w n)
/-- strings.Cut, by its parts. -/
theorem cut_any (s sep : ByteArray) (hs : s.size ≤ 400) (w : World) (hx : MX w) :
    ∃ (a b : ByteArray) (ok : Bool), (ok = true → a.size + sep.size ≤ s.size) ∧ b.size ≤ s.size ∧ a.size ≤ s.size ∧ ∀ n, Calls Tryz.prog 143 #[.string s, .string sep] (w.drewN n) fun e w' => e = .returned (.tuple #[.string a, .string b, .bool ok]) ∧ ∃ m, w' = (w.drewN n).drewN m := by
  have hsl : s.data.toList.length = s.size := Array.length_toList
  have hpl : sep.data.toList.length = sep.size := Array.length_toList
  refine ⟨⟨(Lib.cut s.data.toList sep.data.toList).1.toArray⟩, ⟨(Lib.cut s.data.toList sep.data.toList).2.1.toArray⟩, (Lib.cut s.data.toList sep.data.toList).2.2, ?_, ?_, ?_, fun n => ?_⟩
  rotate_right
  · obtain ⟨m, hm⟩ := hx.drewN n
    exact Tryz.strings_Cut s sep m (w.drewN n) (by omega) hm
  · intro h
    have := cut_len _ _ h
    rw [hpl, hsl] at this
    show (List.toArray _).size + _ ≤ _
    rw [List.size_toArray]
    exact this
  · show (List.toArray _).size ≤ _
    rw [List.size_toArray]
    unfold Lib.cut
    split
    · simp only [List.length_drop]; omega
    · exact Nat.zero_le _
  · show (List.toArray _).size ≤ _
    rw [List.size_toArray]
    unfold Lib.cut
    split
    · simp only [List.length_take]; omega
    · exact Nat.le_of_eq hsl

set_option maxRecDepth 100000 in
theorem counts_any (s : ByteArray) (hs : s.size ≤ 400) (w : World) (hx : MX w) :
    Calls Tryz.prog 144 #[.string s] w (CountOut w) := by
  obtain ⟨A, B, ok, _, _, _, HC0⟩ := cut_any s ⟨#[44]⟩ hs w hx
  have HC := Lib.hid (HC0 0)
  clear HC0
  change Hid (Calls _ _ _ w _) at HC
  have HN := Lib.hid (fun w => number_any A w)
  have HM := Lib.hid (fun w => number_any B w)
  clear hx
  go_enter Tryz.func144, Tryz.ntmps144
  go_wp2_with fail
  refine HC.out.mono ?_
  rintro e w1 ⟨rfl, q, rfl⟩
  go_wp2_with fail
  refine (HN.out _).mono ?_
  rintro e w2 ⟨n, b, rfl, hn, rfl⟩
  cases b with
  | false =>
    go_wp2_with fail
    go_ret3
    exact ⟨0, 0, false, rfl, q, rfl⟩
  | true =>
    cases ok with
    | false =>
      go_wp2_with fail
      go_ret3
      exact ⟨n, n, true, rfl, q, rfl⟩
    | true =>
      by_cases hB : B.toList.isEmpty = true
      · go_wp2_with fail
        go_ret3
        exact ⟨n, -1, true, rfl, q, rfl⟩
      · have hB2 : B.toList.isEmpty = false := by simpa using hB
        clear hB
        go_wp2_with fail
        refine (HM.out _).mono ?_
        rintro e w3 ⟨m, b2, rfl, hm, rfl⟩
        go_wp2_with fail
        go_ret3
        exact ⟨n, m, b2, rfl, q, rfl⟩
end Go.Proofs.YtcojnkjcbopnbaaGreatDoor

/- A slice of trees that a call makes, tree by tree. -/
namespace Go.Proofs.YtcojnkjcbopnbaaGreatDoor
open Go.RowKit

def emptyT : Tree := .mk 0 zero4 0 0 []
/-- A slice that the call owns, of trees' cells. -/
theorem owns_eight {w : World} {base g n cap : Nat} {cs : Nat → Array Value} (h : w.ownsRow base 68 8 (.slice (some ⟨g, 0, none⟩) n cap) n (flatC cs n)) (hc : ∀ j, j < n → (cs j).size = 8) (i : Nat) (hi : i < n) : Eight w g (0 + i * 8) (cs i) := by
  intro j hj
  rw [Nat.zero_add, h.cellAt (i * 8 + j) (by omega)]
  exact flatC_get 8 cs n hc i hi j hj

structure OwnTrees (w : World) (base : Nat) (v : Value) (ts : List Tree) (cs : Nat → Array Value) : Prop where
  row : w.ownsRow base 68 8 v ts.length (flatC cs ts.length)
  at_ : ∀ j (h : j < ts.length), At w (fun b => base ≤ b ∧ some b ≠ v.ownBlock) ts[j] (cs j)

theorem own_nil (w : World) (base : Nat) (cs : Nat → Array Value) : OwnTrees w base (.slice none 0 0) [] cs := ⟨World.ownsRow_nil _ _ _ _, fun j h => absurd h (by simp)⟩
theorem OwnTrees.after {w w' : World} {base : Nat} {v : Value} {ts : List Tree} {cs : Nat → Array Value} (h : OwnTrees w base v ts cs) (hb : Below w.heap.size w w') : OwnTrees w' base v ts cs :=
  ⟨owns_after h.row hb, fun j hj => (h.at_ j hj).after hb⟩
theorem OwnTrees.but {p : Nat} {w w' : World} {base : Nat} {v : Value} {ts : List Tree} {cs : Nat → Array Value} (h : OwnTrees w base v ts cs) (hb : But p w w') (hp : p < base) : OwnTrees w' base v ts cs :=
  ⟨h.row.kept (row := some p) ⟨hb.os, hb.tape, hb.output, hb.size, fun k hk e => hb.block k hk (fun e' => e (by rw [e']))⟩ (by
      cases hv : v.ownBlock with
      | none => exact Or.inl rfl
      | some k => exact Or.inr (fun e => by have := (h.row.lt k hv).1; simp at e; omega)),
    fun j hj => (h.at_ j hj).butS hb (fun e => by have := e.1; omega)⟩
theorem OwnTrees.size8 {w : World} {base : Nat} {v : Value} {ts : List Tree} {cs : Nat → Array Value} (h : OwnTrees w base v ts cs) (j : Nat) (hj : j < ts.length) : (cs j).size = 8 := (h.at_ j hj).size
theorem OwnTrees.snoc {w w' : World} {base : Nat} {v v' : Value} {ts : List Tree} {cs : Nat → Array Value} (h : OwnTrees w base v ts cs) {t : Tree} {ds : Array Value} {C : Nat} (ht : At w (Up C) t ds) (hC : base ≤ C) (hv : ∀ k, v.ownBlock = some k → k < C)
    (hrow : w'.ownsRow base 68 8 v' (ts.length + 1) (flatC cs ts.length ++ ds.toList)) (hg : w.grownBy w' v.ownBlock) (hb : v'.ownBlock = v.ownBlock ∨ v'.ownBlock = some w.heap.size) :
    OwnTrees w' base v' (ts ++ [t]) (fun j => if j = ts.length then ds else cs j) := by
  have hl : (ts ++ [t]).length = ts.length + 1 := by simp
  refine ⟨?_, fun j hj => ?_⟩
  · rw [hl, flatC_succ, if_pos rfl, flatC_congr (ds := cs) (fun j hj => if_neg (by omega))]
    exact hrow
  · have keep : ∀ {u : Tree} {es : Array Value}, At w (fun b => base ≤ b ∧ some b ≠ v.ownBlock) u es → At w' (fun b => base ≤ b ∧ some b ≠ v'.ownBlock) u es := by
      intro u es hu
      refine ((hu.inWorld).keep (w' := w') (fun k hk hlt => hg.block k hlt hk.1.2)).weakS fun k hk => ⟨hk.1.1, ?_⟩
      rcases hb with e | e
      · rw [e]; exact hk.1.2
      · rw [e]; intro e'; have := hk.2; simp at e'; omega
    by_cases e : j = ts.length
    · subst e
      rw [if_pos rfl]
      have : (ts ++ [t])[ts.length] = t := by simp
      rw [this]
      refine keep (ht.weakS fun k hk => ⟨Nat.le_trans hC hk, fun e => ?_⟩)
      have h1 := hv k e.symm
      have h2 : C ≤ k := hk
      omega
    · rw [if_neg e]
      have hj' : j < ts.length := by rw [hl] at hj; omega
      have : (ts ++ [t])[j] = ts[j] := List.getElem_append_left hj'
      rw [this]
      exact keep (h.at_ j hj')
theorem OwnTrees.slAt {w : World} {base : Nat} {v : Value} {ts : List Tree} {cs : Nat → Array Value} (h : OwnTrees w base v ts cs) : SlAt w (Up base) ts v := by
  rcases h.row.2 with ⟨rfl, h0⟩ | ⟨g, cap, cur, rfl, hb, _, hcap, _⟩
  · exact Or.inl ⟨List.eq_nil_of_length_eq_zero h0, none, 0, by rfl⟩
  · by_cases e : ts = []
    · subst e; exact Or.inl ⟨rfl, _, _, rfl⟩
    · exact Or.inr ⟨e, g, 0, cap, cs, rfl, hcap, hb, fun i hi => owns_eight h.row h.size8 i hi, fun i hi => (h.at_ i hi).weakS fun k hk => hk.1⟩

end Go.Proofs.YtcojnkjcbopnbaaGreatDoor

/- ere.joined at any trees: a walk. -/
namespace Go.Proofs.YtcojnkjcbopnbaaGreatDoor
open Go.RowKit

theorem Fine.any {kind : Int} {t : Tree} (h : Fine kind t) : Fine (-1) t := by
  cases h with
  | mk _ _ h hk => exact .mk _ _ ⟨h.fits, h.k0, h.k6, h.set, h.times, h.alone, fun _ => by decide, fun e => ⟨by rcases e with e | e <;> (rw [e]; decide), (h.parts e).2⟩, h.rep, h.few⟩ hk
theorem Fine.to {t : Tree} (h : Fine (-1) t) (kind : Int) (h0 : t.k = 0 → kind ≠ 4) (hk : t.k ≠ kind ∨ (t.k ≠ 4 ∧ t.k ≠ 5)) : Fine kind t := by
  cases h with
  | mk _ _ h hkk => exact .mk _ _ ⟨h.fits, h.k0, h.k6, h.set, h.times, h.alone, h0, fun e => ⟨by rcases hk with hk | hk; (· exact hk); (· rcases e with e | e; (· exact absurd e hk.1); (· exact absurd e hk.2)), (h.parts e).2⟩, h.rep, h.few⟩ hkk
/-- How much a part may add. -/
def wide (t : Tree) : Nat := max t.kids.length 1
def wides (l : List Tree) : Nat := (l.map wide).sum
theorem wides_take (l : List Tree) (i : Nat) (h : i < l.length) : wides (l.take (i + 1)) = wides (l.take i) + wide l[i] := by
  unfold wides
  rw [List.take_add_one, List.getElem?_eq_getElem h, List.map_append, List.sum_append]
  simp only [Option.toList_some, List.map_cons, List.map_nil, List.sum_cons, List.sum_nil, Nat.add_zero]
theorem wides_le (l : List Tree) (i : Nat) : wides (l.take i) ≤ wides l := by
  conv => rhs; rw [← List.take_append_drop i l]
  unfold wides
  rw [List.map_append, List.sum_append]
  omega
theorem flatC_append (cs ds : Nat → Array Value) (n m : Nat) : flatC (fun j => if j < n then cs j else ds (j - n)) (n + m) = flatC cs n ++ flatC ds m := by
  induction m with
  | zero =>
    rw [Nat.add_zero, flatC_congr (ds := cs) (fun j hj => if_pos hj)]
    simp [flatC]
  | succ m ih =>
    rw [← Nat.add_assoc, flatC_succ, ih, flatC_succ]
    rw [if_neg (by omega), show n + m - n = m by omega, List.append_assoc]

/-- What was joined so far. -/
structure JnI (kind : Int) (w : World) (S : Nat → Prop) (us : List Tree) (ds : Nat → Array Value) (m : Nat) : Prop where
  at_ : ∀ j (h : j < us.length), At w S us[j] (ds j)
  fine : ∀ u, u ∈ us → Fine kind u
  len : us.length ≤ m
  one : ∀ u, us = [u] → u.kids.length ≤ m
theorem JnI.nil (kind : Int) (w : World) (S : Nat → Prop) (ds : Nat → Array Value) : JnI kind w S [] ds 0 := ⟨fun j h => absurd h (by simp), (fun u h => by cases h), Nat.le_refl _, (fun u h => by cases h)⟩
theorem JnI.more {kind : Int} {w : World} {S : Nat → Prop} {us : List Tree} {ds : Nat → Array Value} {m n : Nat} (h : JnI kind w S us ds m) (hm : m ≤ n) : JnI kind w S us ds n := ⟨h.at_, h.fine, Nat.le_trans h.len hm, fun u e => Nat.le_trans (h.one u e) hm⟩
theorem JnI.app {kind : Int} {w : World} {S : Nat → Prop} {us : List Tree} {ds : Nat → Array Value} {m : Nat} (h : JnI kind w S us ds m) (l : List Tree) (cs : Nat → Array Value) (hat : ∀ j (h : j < l.length), At w S l[j] (cs j)) (hf : ∀ u, u ∈ l → Fine kind u) (d : Nat) (hd : l.length ≤ d) (h2 : 2 ≤ l.length) :
    JnI kind w S (us ++ l) (fun j => if j < us.length then ds j else cs (j - us.length)) (m + d) := by
  refine ⟨fun j hj => ?_, fun u hu => ?_, by rw [List.length_append]; have := h.len; omega, fun u e => ?_⟩
  · by_cases e : j < us.length
    · rw [if_pos e, List.getElem_append_left e]; exact h.at_ j e
    · rw [if_neg e, List.getElem_append_right (by omega)]; exact hat _ _
  · rcases List.mem_append.1 hu with hu | hu
    · exact h.fine u hu
    · exact hf u hu
  · have := congrArg List.length e
    rw [List.length_append, List.length_singleton] at this
    omega
theorem JnI.snoc {kind : Int} {w : World} {S : Nat → Prop} {us : List Tree} {ds : Nat → Array Value} {m : Nat} (h : JnI kind w S us ds m) (t : Tree) (c : Array Value) (hat : At w S t c) (hf : Fine kind t) :
    JnI kind w S (us ++ [t]) (fun j => if j = us.length then c else ds j) (m + wide t) := by
  have hw : t.kids.length ≤ wide t ∧ 1 ≤ wide t := ⟨Nat.le_max_left _ _, Nat.le_max_right _ _⟩
  refine ⟨fun j hj => ?_, fun u hu => ?_, by rw [List.length_append, List.length_singleton]; have := h.len; omega, fun u e => ?_⟩
  · by_cases e : j = us.length
    · subst e
      rw [if_pos rfl, List.getElem_append_right (Nat.le_refl _)]
      simpa using hat
    · rw [if_neg e, List.getElem_append_left (by simp at hj; omega)]
      exact h.at_ j _
  · rcases List.mem_append.1 hu with hu | hu
    · exact h.fine u hu
    · rw [List.mem_singleton.1 hu]; exact hf
  · have := congrArg List.length e
    rw [List.length_append, List.length_singleton, List.length_singleton] at this
    obtain rfl : us = [] := List.eq_nil_of_length_eq_zero (by omega)
    simp only [List.nil_append, List.cons.injEq, and_true] at e
    subst e
    omega
theorem fine_empty : Fine (-1) emptyT := .mk _ _ ⟨fits_zero, by decide, by decide, fun _ _ _ => rfl, fun _ => ⟨rfl, rfl⟩, fun _ => rfl, fun _ => by decide, fun h => by rcases h with h | h <;> exact absurd h (by decide), fun h => absurd h (by decide), by decide⟩ (fun c hc => by cases hc)
theorem fine_node (kind : Int) (us : List Tree) (hk : kind = 4 ∨ kind = 5) (h2 : 2 ≤ us.length) (hl : us.length ≤ 1000) (hf : ∀ u, u ∈ us → Fine kind u) : Fine (-1) (.mk kind zero4 0 0 us) := by
  refine .mk _ _ ⟨fits_zero, ?_, ?_, fun _ _ _ => rfl, fun _ => ⟨rfl, rfl⟩, fun h => ?_, fun _ => by decide, fun _ => ⟨?_, h2⟩, fun h => ?_, ?_⟩ hf
  · show 0 ≤ kind; rcases hk with h | h <;> omega
  · show kind ≤ 6; rcases hk with h | h <;> omega
  · have h' : kind < 4 := h; rcases hk with h | h <;> omega
  · show kind ≠ -1; rcases hk with h | h <;> omega
  · have h' : kind = 6 := h; rcases hk with h | h <;> omega
  · show us.length ≤ 1000000; omega
/-- Which trees may be joined how. -/
def KindOk (kind : Int) (ks : List Int) : Prop := (kind = 4 ∧ ks = [0]) ∨ (kind = 5 ∧ ks = [])
def JoinAns (l : List Tree) (S : Nat → Prop) (w : World) (e : Ending) (w' : World) : Prop :=
  ∃ t ds, e = .returned (.agg ds) ∧ At w' (fun k => S k ∨ w.heap.size ≤ k) t ds ∧ Hid (Fine (-1) t ∧ t.kids.length ≤ wides l) ∧ Below w.heap.size w w'

set_option maxRecDepth 100000 in
set_option maxHeartbeats 4000000 in
theorem joined_any (kind : Int) (l : List Tree) (b off c : Nat) (cs : Nat → Array Value) (S : Nat → Prop) (dv : Value) (ks : List Int) (w : World) (hl : 0 < l.length) (hlen : l.length ≤ 401) (hw : wides l ≤ 1000)
    (h8 : ∀ i, i < l.length → Eight w b (off + i * 8) (cs i)) (hat : ∀ i (h : i < l.length), At w S l[i] (cs i)) (hF : ∀ t, t ∈ l → Fine (-1) t) (hkk : KindOk kind ks) (hv : IntsAt w dv ks) :
    Calls Tryz.prog 94 #[.int .i64 kind, .slice (some ⟨b, off, none⟩) l.length c, dv] w (JoinAns l S w) := by
  have HI := info_re
  have HF := Lib.hid hF
  have HKK := Lib.hid hkk
  have HV := Lib.hid hv
  have H8 := Lib.hid h8
  have HAT := Lib.hid hat
  have hsz8 : ∀ j, j < l.length → (cs j).size = 8 := fun j hj => (hat j hj).size
  have HS8 := Lib.hid hsz8
  have hbl : b < w.heap.size := (h8 0 hl).lt (hsz8 0 hl)
  clear hF hkk hv h8 hat hsz8
  go_enter Tryz.func94, Tryz.ntmps94
  go_upto_region 1 with (fail)
  obtain ⟨W, hW, hX, hB, hsz⟩ := re_box w zeroR
  change Code.wp _ _ _ _ (w.alloc (Obj.cells zeroR 68))
  rw [← hW]
  clear hW
  go_wp2_with fail
  go_loopw [7, 12] (fun lv y wr => ∃ (i : Nat) (us : List Tree) (ds : Nat → Array Value), y = .int .i64 i ∧ i ≤ l.length ∧ us.length ≤ 1000 ∧ Hid (wr.ownsRow (w.heap.size + 1) 68 8 lv us.length (flatC ds us.length)) ∧ Hid (JnI kind w S us ds (wides (l.take i))) ∧ Hid (Below w.heap.size w wr) ∧ Hid (Box wr w.heap.size zeroR)) (fun _ y _ => l.length - (intOf y).toNat)
  case atStart => exact ⟨0, [], fun _ => zeroR, rfl, by omega, by simp, Lib.hid (World.ownsRow_nil _ _ _ _), Lib.hid (JnI.nil _ _ _ _), hB, hX⟩
  case round =>
    obtain ⟨i, us, ds, rfl, hi, hus, hown, hJ, hb, hx⟩ := hrel
    by_cases hgo : i < l.length
    · obtain ⟨ai, ci, e, hsk⟩ := (HAT.out i hgo).opens
      have h8i := (H8.out i hgo).keep (hb.out.block b hbl)
      obtain ⟨k0, f0, lo0, hi0, n0, e'⟩ : ∃ k0 f0 lo0 hi0 n0, cs i = reC k0 f0 lo0 hi0 (.slice ai n0 ci) ∧ k0 = l[i].k ∧ n0 = l[i].kids.length := ⟨_, _, _, _, _, e, rfl, rfl⟩
      rw [e'.1] at h8i
      have EC := Lib.hid e'.1
      have EK := Lib.hid e'.2.1
      have EN := Lib.hid e'.2.2
      have HSk := Lib.hid hsk
      obtain ⟨bk, hbk⟩ : ∃ bk, bk = among [kind] k0 := ⟨_, rfl⟩
      obtain ⟨dk, hdk⟩ : ∃ dk, dk = among ks k0 := ⟨_, rfl⟩
      have HWi : Hid (wides (l.take (i + 1)) = wides (l.take i) + wide l[i] ∧ wides (l.take (i + 1)) ≤ 1000) := Lib.hid ⟨wides_take l i hgo, Nat.le_trans (wides_le l _) hw⟩
      clear e e' hsk
      obtain ⟨c0, c1, c2, c3, c4, c5, c6, c7⟩ := eight_re h8i
      clear h8i
      go_upto_region 5 with (fail)
      obtain ⟨V, hV, hY, hBV, hszV⟩ := re_box wr (reC k0 f0 lo0 hi0 (.slice ai n0 ci))
      change Code.wp _ _ _ _ (wr.alloc (Obj.cells (reC k0 f0 lo0 hi0 (.slice ai n0 ci)) 68))
      rw [← hV]
      clear hV c0 c1 c2 c3 c4 c5 c6 c7
      have own1 := Lib.hid (owns_after hown.out hBV.out)
      have hb1 := Lib.hid (Below.step hb.out hBV.out)
      have hx1 := Lib.hid (hx.out.after hBV.out)
      obtain ⟨c0, c1, c2, c3, c4, c5, c6, c7⟩ := eight_re hY.out.eight
      have bK := below_new V (.cells #[.int .i64 kind] 3)
      have HO := Lib.hid (isOf_spec k0 f0 lo0 hi0 (.slice ai n0 ci) (.slice (some ⟨V.heap.size, 0, none⟩) 1 1) [kind] (V.alloc (.cells #[.int .i64 kind] 3)) (Or.inr ⟨_, _, rfl, by simp, heap_alloc_last V _⟩))
      rw [← hbk] at HO
      have HBk := Lib.hid hbk; clear hbk
      have own2 := Lib.hid (owns_after own1.out bK)
      have hb2 := Lib.hid (Below.step hb1.out bK)
      have hx2 := Lib.hid (hx1.out.after bK)
      have hY2 := Lib.hid (hY.out.after bK)
      clear bK
      go_wp2_with fail
      refine HO.out.mono ?_
      rintro e w2 ⟨rfl, b2⟩
      have own3 := Lib.hid (owns_after own2.out b2)
      have hb3 := Lib.hid (Below.step hb2.out b2)
      have hx3 := Lib.hid (hx2.out.after b2)
      have hY3 := Lib.hid (hY2.out.after b2)
      clear b2 c0 c1 c2 c3 c4 c5 c6 c7
      obtain ⟨c0, c1, c2, c3, c4, c5, c6, c7⟩ := eight_re hY3.out.eight
      cases bk with
      | true =>
        have hkk : l[i].k = kind := by
          have h := HBk.out
          rw [EK.out] at h
          simpa [among] using h.symm
        have h45 : kind = 4 ∨ kind = 5 := by rcases HKK.out with h | h; (· exact Or.inl h.1); (· exact Or.inr h.1)
        have hf := HF.out _ (List.getElem_mem hgo)
        have hn2 : 2 ≤ n0 := by rw [EN.out]; exact (hf.fit.parts (by rw [hkk]; exact h45)).2
        obtain ⟨b', off', csk, rfl, hcc, hk8, hkat⟩ : ∃ (b' off' : Nat) (csk : Nat → Array Value), ai = some ⟨b', off', none⟩ ∧ n0 ≤ ci ∧ (∀ j, j < n0 → Eight w b' (off' + j * 8) (csk j)) ∧ ∀ j (h : j < l[i].kids.length), At w S l[i].kids[j] (csk j) := by
          rcases HSk.out with ⟨e, _⟩ | ⟨_, b', off', c', csk, e, hc, _, h8, hat⟩
          · rw [EN.out, e] at hn2; exact absurd hn2 (by decide)
          · simp only [Value.slice.injEq] at e
            obtain ⟨rfl, _, rfl⟩ := e
            exact ⟨b', off', csk, rfl, by rw [EN.out]; exact hc, fun j hj => h8 j (by rw [← EN.out]; exact hj), hat⟩
        have hn1000 : n0 ≤ 1000 := by
          have h1 := HWi.out
          have h2 : l[i].kids.length ≤ wide l[i] := Nat.le_max_left _ _
          rw [EN.out]; omega
        have hus2 : us.length + n0 ≤ 1000 := by
          have h1 := HWi.out
          have h2 : l[i].kids.length ≤ wide l[i] := Nat.le_max_left _ _
          have h3 := hJ.out.len
          rw [EN.out]; omega
        have hks8 : ∀ j, j < n0 → (csk j).size = 8 := fun j hj => (hkat j (by rw [← EN.out]; exact hj)).size
        have hJ2 : Hid (JnI kind w S (us ++ l[i].kids) (fun j => if j < us.length then ds j else csk (j - us.length)) (wides (l.take (i + 1)))) := Lib.hid (by
          rw [HWi.out.1]
          exact hJ.out.app l[i].kids csk hkat (fun u hu => by rw [← hkk]; exact hf.kid u hu) (wide l[i]) (Nat.le_max_left _ _) (by rw [← EN.out]; exact hn2))
        have hrow2 : Hid (flatC (fun j => if j < us.length then ds j else csk (j - us.length)) (us ++ l[i].kids).length = flatC ds us.length ++ flatC csk n0 ∧ (us ++ l[i].kids).length = us.length + n0) := Lib.hid (by
          have h1 : (us ++ l[i].kids).length = us.length + n0 := by rw [List.length_append, EN.out]
          exact ⟨by rw [h1, flatC_append], h1⟩)
        have hnl : (flatC csk n0).length = n0 * 8 := flatC_len 8 csk n0 hks8
        have hb'w : b' < w.heap.size := (hk8 0 (by omega)).lt (hks8 0 (by omega))
        have HN8 := Lib.hid hk8
        have HK8 := Lib.hid hks8
        have HKA := Lib.hid hkat
        obtain ⟨i0, hi0', hz0, hz1, hz2⟩ := info_parts info_re3
        have hge := hb3.out.size
        have O3 := Lib.hid own3.out
        have hnews : Hid (∀ j u, (flatC csk n0)[j]? = some u → w2.cell? ((⟨b', off', none⟩ : Addr).add j) = some u) := Lib.hid (by
          intro j u hj
          have e : (⟨b', off', none⟩ : Addr).add j = ⟨b', off' + j, none⟩ := by unfold Addr.add; split <;> simp_all
          have hjl : j < n0 * 8 := by rw [← hnl]; exact (List.getElem?_eq_some_iff.1 hj).1
          have h1 := flatC_get 8 csk n0 HK8.out (j / 8) (by omega) (j % 8) (by omega)
          rw [show j / 8 * 8 + j % 8 = j by omega, hj] at h1
          have h2 := ((HN8.out (j / 8) (by omega)).keep (hb3.out.block b' hb'w)) (j % 8) (by omega)
          rw [e, show off' + j = off' + j / 8 * 8 + j % 8 by omega, h2, ← h1])
        clear hk8 hks8 hkat hf hkk HSk
        go_wp2_with (at_builtin; refine wpList_append_own _ rfl _ _ 66 rfl (w.heap.size + 1) 68 i0 (.agg #[.int .i64 0, .int .u64 0, .int .u64 0, .int .u64 0, .int .u64 0, .int .i64 0, .int .i64 0, .slice none 0 0]) 8 80 Tryz.underlying66 hi0' hz0 hz1 hz2 rfl (by decide) _ _ _ rfl O3.out ⟨b', off', none⟩ n0 ci (flatC csk n0) rfl hnl hnews.out ?c2 ?c3 ?c4 ?c5 ?_)
        case c2 =>
          intro u hu
          obtain ⟨j, hj⟩ := List.mem_iff_getElem?.1 hu
          have hjl : j < n0 * 8 := by rw [← hnl]; exact (List.getElem?_eq_some_iff.1 hj).1
          have h1 := flatC_get 8 csk n0 HK8.out (j / 8) (by omega) (j % 8) (by omega)
          rw [show j / 8 * 8 + j % 8 = j by omega, hj] at h1
          obtain ⟨sl', e, hs'⟩ := (HKA.out (j / 8) (by rw [← EN.out]; omega)).open
          obtain ⟨ax, cx, rfl⟩ := hs'.shape
          have h2 : (csk (j / 8)).all (·.oneCell') = true := by rw [e]; exact re_one _ _ _ _ _ _ _
          rw [Array.all_eq_true_iff_forall_mem] at h2
          exact h2 u (Array.mem_of_getElem? h1.symm)
        case c3 => unfold maxLen; omega
        case c4 => omega
        case c5 => exact hx3.out.lt
        intro v' w4 hown' hgrow _
        have hlt5 := O3.out.lt
        have hw4 := hgrow.block w.heap.size (by have := hx3.out.lt; omega) (fun e => by have := (hlt5 _ e.symm).1; omega)
        have OW : Hid (w4.ownsRow (w.heap.size + 1) 68 8 v' (us ++ l[i].kids).length (flatC (fun j => if j < us.length then ds j else csk (j - us.length)) (us ++ l[i].kids).length)) := Lib.hid (by rw [hrow2.out.1, hrow2.out.2]; exact hown')
        have XW : Hid (Box w4 w.heap.size zeroR) := Lib.hid ⟨by rw [hw4]; exact hx3.out.row⟩
        have BW : Hid (Below w.heap.size w w4) := Lib.hid (hb3.out.grown hgrow (by omega) (fun k hk => by have := (hlt5 k hk).1; omega))
        clear hown' hgrow hlt5 hw4
        go_wp2_with fail
        go_roundw
        case rel => exact ⟨i + 1, us ++ l[i].kids, _, by go_num, by omega, by rw [hrow2.out.2]; exact hus2, OW, hJ2, BW, XW⟩
        case measure => simp [intOf]; omega
      | false =>
        have HO2 := Lib.hid (isOf_spec k0 f0 lo0 hi0 (.slice ai n0 ci) dv ks w2 (HV.out.after hb3.out))
        rw [← hdk] at HO2
        have HDk := Lib.hid hdk; clear hdk
        go_wp2_with fail
        refine HO2.out.mono ?_
        rintro e w3 ⟨rfl, b3⟩
        have own4 := Lib.hid (owns_after own3.out b3)
        have hb4 := Lib.hid (Below.step hb3.out b3)
        have hx4 := Lib.hid (hx3.out.after b3)
        have hY4 := Lib.hid (hY3.out.after b3)
        clear b3 c0 c1 c2 c3 c4 c5 c6 c7
        obtain ⟨c0, c1, c2, c3, c4, c5, c6, c7⟩ := eight_re hY4.out.eight
        cases dk with
        | true =>
          have hJ2 : Hid (JnI kind w S us ds (wides (l.take (i + 1)))) := Lib.hid (hJ.out.more (by rw [HWi.out.1]; omega))
          go_wp2_with fail
          go_roundw
          case rel => exact ⟨i + 1, us, ds, by go_num, by omega, hus, own4, hJ2, hb4, hx4⟩
          case measure => simp [intOf]; omega
        | false =>
        have hJ2 : Hid (JnI kind w S (us ++ [l[i]]) (fun j => if j = us.length then cs i else ds j) (wides (l.take (i + 1)))) := Lib.hid (by
          rw [HWi.out.1]
          refine hJ.out.snoc l[i] (cs i) (HAT.out i hgo) ((HF.out _ (List.getElem_mem hgo)).to kind (fun h0 h4 => ?_) (Or.inl fun e => ?_))
          · have h := HDk.out
            rw [EK.out, h0] at h
            rcases HKK.out with h5 | h5
            · rw [h5.2] at h; simp [among] at h
            · rw [h5.1] at h4; exact absurd h4 (by decide)
          · have h := HBk.out
            rw [EK.out, e] at h
            simp [among] at h)
        have hus2 : us.length + 1 ≤ 1000 := by
          have h1 := hJ2.out.len
          rw [List.length_append, List.length_singleton] at h1
          have := HWi.out.2
          omega
        have own5 := owns_after own4.out (below_new w3 (.cells (reC k0 f0 lo0 hi0 (.slice ai n0 ci)) 68))
        have hsz5 : (w3.alloc (.cells (reC k0 f0 lo0 hi0 (.slice ai n0 ci)) 68)).heap.size = w3.heap.size + 1 := World.size_alloc _ _
        have hge := hb4.out.size
        have row5 : (w3.alloc (.cells (reC k0 f0 lo0 hi0 (.slice ai n0 ci)) 68)).heap[w3.heap.size]? = some (.cells (reC k0 f0 lo0 hi0 (.slice ai n0 ci)) 68 (0, 0)) := heap_alloc_last w3 _
        obtain ⟨i0, hi0', hz0, hz1, hz2⟩ := info_parts info_re3
        have O5 := Lib.hid own5
        have R5 := Lib.hid row5
        clear own5 row5
        go_wp2_with (at_builtin; refine wpList_append_own _ rfl _ _ 66 rfl (w.heap.size + 1) 68 i0 (.agg #[.int .i64 0, .int .u64 0, .int .u64 0, .int .u64 0, .int .u64 0, .int .i64 0, .int .i64 0, .slice none 0 0]) 8 80 Tryz.underlying66 hi0' hz0 hz1 hz2 rfl (by decide) _ _ _ rfl O5.out ⟨w3.heap.size, 0, none⟩ 1 1 (reC k0 f0 lo0 hi0 (.slice ai n0 ci)).toList rfl rfl ?c1 ?c2 ?c3 ?c4 ?c5 ?_)
        case c1 =>
          intro j u hj
          have e : (⟨w3.heap.size, 0, none⟩ : Addr).add j = ⟨w3.heap.size, j, none⟩ := by unfold Addr.add; split <;> simp_all
          rw [e]
          exact (cell_of_row _ _ j _ _ _ R5.out).trans (by simpa using hj)
        case c2 =>
          intro u hu
          have h := re_one k0 f0 lo0 hi0 ai n0 ci
          rw [Array.all_eq_true_iff_forall_mem] at h
          exact h u (by simpa using hu)
        case c3 => unfold maxLen; omega
        case c4 => omega
        case c5 => rw [World.size_alloc]; omega
        intro v' w4 hown' hgrow _
        have hgrow' : (w3.alloc (.cells (reC k0 f0 lo0 hi0 (.slice ai n0 ci)) 68)).grownBy w4 _ := hgrow
        have hlt5 := O5.out.lt
        have OW := Lib.hid hown'
        have hx5 := (hx4.out.after (below_new w3 (.cells (reC k0 f0 lo0 hi0 (.slice ai n0 ci)) 68)))
        have hw4 := hgrow'.block w.heap.size (by have := hx5.lt; omega) (fun e => by have := (hlt5 _ e.symm).1; omega)
        have XW : Hid (Box w4 w.heap.size zeroR) := Lib.hid ⟨by rw [hw4]; exact hx5.row⟩
        have BW : Hid (Below w.heap.size w w4) := Lib.hid ((Below.step hb4.out (below_new w3 (.cells (reC k0 f0 lo0 hi0 (.slice ai n0 ci)) 68))).grown hgrow' (by omega) (fun k hk => by have := (hlt5 k hk).1; omega))
        clear hown' hgrow hgrow' hlt5 hx5 hw4
        go_wp2_with fail
        go_roundw
        case rel => exact ⟨i + 1, us ++ [l[i]], _, by go_num, by omega, by rw [List.length_append, List.length_singleton]; exact hus2, Lib.hid (by rw [List.length_append, List.length_singleton, flatC_succ, if_pos rfl, flatC_congr (ds := ds) (fun j hj => if_neg (by omega)), EC.out]; exact OW.out), hJ2, BW, XW⟩
        case measure => simp [intOf]; omega
    · obtain rfl : i = l.length := by omega
      have HJ2 : Hid (JnI kind w S us ds (wides l)) := Lib.hid (by have := hJ.out; rwa [List.take_length] at this)
      clear hJ
      by_cases hu0 : us = []
      · subst hu0
        have h0 : u7 = Value.slice none 0 0 ∨ ∃ g cap, u7 = Value.slice (some ⟨g, 0, none⟩) 0 cap := by
          rcases hown.out.2 with ⟨h, _⟩ | ⟨g, cap, cur, h, _⟩
          · exact Or.inl h
          · exact Or.inr ⟨g, cap, h⟩
        rcases h0 with rfl | ⟨g, cap, rfl⟩
        all_goals
          go_wp2_with (refine wpList_store_row rfl 68 (.tmp 6) (.tmp 39) rfl w.heap.size zeroR rfl rfl 68 zeroR hx.out.row HI rfl (re_one _ _ _ _ _ _ _) ?_)
          refine bodyPost_ret (v := .agg zeroR) (results_cell_row (by rfl) _ _ w.heap.size 68 _ (0, 0) _ (by rfl) (hx.out.setRow _).row Tryz.underlying68 (by rfl) HI) rfl ?_
          exact ⟨emptyT, zeroR, rfl, .leaf _ _ _ _ _ _, Lib.hid ⟨fine_empty, Nat.zero_le _⟩, below_setRow hb.out (Nat.le_refl _) _⟩
      have hup : 0 < us.length := List.length_pos_iff.2 hu0
      have hshape : ∃ nb cap, u7 = Value.slice (some ⟨nb, 0, none⟩) us.length cap ∧ w.heap.size + 1 ≤ nb ∧ us.length ≤ cap := by
        rcases hown.out.2 with ⟨_, h0⟩ | ⟨nb, cap, cur, hv', hb', _, hcap, _⟩
        · omega
        · exact ⟨nb, cap, hv', hb', hcap⟩
      obtain ⟨nb, cap, rfl, hnb, hcap⟩ := hshape
      have h0 : ((us.length : Int) == 0) = false := beq_eq_false_iff_ne.2 (by omega)
      have hds8 : ∀ j, j < us.length → (ds j).size = 8 := fun j hj => (HJ2.out.at_ j hj).size
      have E8 := Lib.hid (fun i hi => owns_eight hown.out hds8 i hi)
      by_cases h1 : us.length = 1
      · have hq1 : ((us.length : Int) == 1) = true := beq_iff_eq.2 (by omega)
        obtain ⟨a0, c0, e, _⟩ := (HJ2.out.at_ 0 hup).opens
        have h80 := E8.out 0 hup
        rw [e] at h80
        rw [show 0 + 0 * 8 = 0 from rfl] at h80
        obtain ⟨d0, d1, d2, d3, d4, d5, d6, d7⟩ := eight_re h80
        have EC := Lib.hid e
        have H1 := Lib.hid h1
        clear e h80 h1 hds8
        go_wp2_with (refine wpList_store_row rfl 68 (.tmp 6) (.tmp 44) rfl w.heap.size (reC us[0].k us[0].f us[0].lo us[0].hi (.slice a0 us[0].kids.length c0)) rfl rfl 68 zeroR hx.out.row HI rfl (re_one _ _ _ _ _ _ _) ?_)
        refine bodyPost_ret (v := .agg (reC us[0].k us[0].f us[0].lo us[0].hi (.slice a0 us[0].kids.length c0))) (results_cell_row (by rfl) _ _ w.heap.size 68 _ (0, 0) _ (by rfl) (hx.out.setRow _).row Tryz.underlying68 (by rfl) HI) rfl ⟨us[0], _, rfl, ?_, Lib.hid ⟨(HJ2.out.fine _ (List.getElem_mem hup)).any, HJ2.out.one us[0] ?_⟩, below_setRow hb.out (Nat.le_refl _) _⟩
        · rw [← EC.out]
          exact ((HJ2.out.at_ 0 hup).after (below_setRow hb.out (Nat.le_refl _) _)).weakS fun k hk => Or.inl hk
        · match us, H1.out with
          | [t], _ => rfl
      · have hq1 : ((us.length : Int) == 1) = false := beq_eq_false_iff_ne.2 (by omega)
        have h2 : 2 ≤ us.length := by omega
        have H1 := Lib.hid h2
        clear h1 h2
        go_wp2_with (refine wpList_store_row rfl 68 (.tmp 6) (.tmp 47) rfl w.heap.size (reC kind zero4 0 0 (.slice (some ⟨nb, 0, none⟩) us.length cap)) rfl rfl 68 zeroR hx.out.row HI rfl (re_one _ _ _ _ _ _ _) ?_)
        refine bodyPost_ret (v := .agg (reC kind zero4 0 0 (.slice (some ⟨nb, 0, none⟩) us.length cap))) (results_cell_row (by rfl) _ _ w.heap.size 68 _ (0, 0) _ (by rfl) (hx.out.setRow _).row Tryz.underlying68 (by rfl) HI) rfl ⟨.mk kind zero4 0 0 us, _, rfl, ?_, Lib.hid ⟨fine_node kind us (by rcases HKK.out with h | h; (· exact Or.inl h.1); (· exact Or.inr h.1)) H1.out (by omega) HJ2.out.fine, HJ2.out.len⟩, below_setRow hb.out (Nat.le_refl _) _⟩
        refine .node kind zero4 0 0 us nb 0 cap ds hu0 hcap (Or.inr (by omega)) (fun i hi => ?_) (fun i hi => ?_)
        · exact (E8.out i hi).keep (Go.setRow_other _ _ _ _ (by omega))
        · exact ((HJ2.out.at_ i hi).after (below_setRow hb.out (Nat.le_refl _) _)).weakS fun k hk => Or.inl hk
set_option maxRecDepth 100000 in
theorem joined_none (kind : Int) (a : Option Addr) (c : Nat) (dv : Value) (w : World) :
    Calls Tryz.prog 94 #[.int .i64 kind, .slice a 0 c, dv] w fun e w' => e = .returned (.agg zeroR) ∧ Below w.heap.size w w' := by
  have HI := info_re
  go_enter Tryz.func94, Tryz.ntmps94
  go_upto_region 1 with (fail)
  obtain ⟨W, hW, hX, hB, hsz⟩ := re_box w zeroR
  change Code.wp _ _ _ _ (w.alloc (Obj.cells zeroR 68))
  rw [← hW]
  clear hW
  go_wp2_with fail
  refine wp_loop_rounds 1 ?_
  rw [rounds_succ]
  go_wp2_with (refine wpList_store_row rfl 68 (.tmp 6) (.tmp 39) rfl w.heap.size zeroR rfl rfl 68 zeroR hX.out.row HI rfl (re_one _ _ _ _ _ _ _) ?_)
  refine bodyPost_ret (v := .agg zeroR) (results_cell_row (by rfl) _ _ w.heap.size 68 _ (0, 0) _ (by rfl) (hX.out.setRow _).row Tryz.underlying68 (by rfl) HI) rfl ⟨rfl, ?_⟩
  exact below_setRow hB.out (Nat.le_refl _) _

theorem joined_sl (kind : Int) (l : List Tree) (v : Value) (S : Nat → Prop) (dv : Value) (ks : List Int) (w : World) (hlen : l.length ≤ 401) (hw : wides l ≤ 1000)
    (hsl : SlAt w S l v) (hF : ∀ t, t ∈ l → Fine (-1) t) (hkk : KindOk kind ks) (hv : IntsAt w dv ks) :
    Calls Tryz.prog 94 #[.int .i64 kind, v, dv] w (JoinAns l S w) := by
  rcases hsl with ⟨rfl, a, c, rfl⟩ | ⟨hl, b, off, c, cs, rfl, hc, hB, h8, hat⟩
  · refine (joined_none kind a c dv w).mono ?_
    rintro e w' ⟨rfl, hb⟩
    exact ⟨emptyT, zeroR, rfl, .leaf _ _ _ _ _ _, Lib.hid ⟨fine_empty, Nat.zero_le _⟩, hb⟩
  · exact joined_any kind l b off c cs S dv ks w (List.length_pos_iff.2 hl) hlen hw h8 hat hF hkk hv
end Go.Proofs.YtcojnkjcbopnbaaGreatDoor
