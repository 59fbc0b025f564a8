/- A slice of trees that a call makes, tree by tree. -/
import Derived.Test.YtdhndfmblmcapaaDoorJoined
import Derived.Maps.AppendAt
namespace Go.Proofs.YtdhndfmblmcapaaDoor
open Go.RowKit

structure OwnTrees (w : World) (base : Nat) (v : Value) (ts : List Tree) (cs : Nat → Array Value) : Prop where
  row : w.ownsRow base 27 8 v ts.length (flatC cs ts.length)
  at_ : ∀ j (h : j < ts.length), At w (fun b => base ≤ b ∧ some b ≠ v.ownBlock) ts[j] (cs j)

theorem own_nil (w : World) (base : Nat) (cs : Nat → Array Value) : OwnTrees w base (.slice none 0 0) [] cs := ⟨World.ownsRow_nil _ _ _ _, fun j h => absurd h (by simp)⟩
theorem OwnTrees.after {w w' : World} {base : Nat} {v : Value} {ts : List Tree} {cs : Nat → Array Value} (h : OwnTrees w base v ts cs) (hb : Below w.heap.size w w') : OwnTrees w' base v ts cs :=
  ⟨owns_after h.row hb, fun j hj => (h.at_ j hj).after hb⟩
theorem OwnTrees.but {p : Nat} {w w' : World} {base : Nat} {v : Value} {ts : List Tree} {cs : Nat → Array Value} (h : OwnTrees w base v ts cs) (hb : But p w w') (hp : p < base) : OwnTrees w' base v ts cs :=
  ⟨h.row.kept (row := some p) ⟨hb.os, hb.tape, hb.output, hb.size, fun k hk e => hb.block k hk (fun e' => e (by rw [e']))⟩ (by
      cases hv : v.ownBlock with
      | none => exact Or.inl rfl
      | some k => exact Or.inr (fun e => by have := (h.row.lt k hv).1; simp at e; omega)),
    fun j hj => (h.at_ j hj).butS hb (fun e => by have := e.1; omega)⟩
theorem OwnTrees.size8 {w : World} {base : Nat} {v : Value} {ts : List Tree} {cs : Nat → Array Value} (h : OwnTrees w base v ts cs) (j : Nat) (hj : j < ts.length) : (cs j).size = 8 := (h.at_ j hj).size
theorem flatC_congr {cs ds : Nat → Array Value} {n : Nat} (h : ∀ j, j < n → cs j = ds j) : flatC cs n = flatC ds n := by
  induction n with
  | zero => rfl
  | succ n ih => rw [flatC_succ, flatC_succ, ih fun j hj => h j (by omega), h n (by omega)]
theorem OwnTrees.snoc {w w' : World} {base : Nat} {v v' : Value} {ts : List Tree} {cs : Nat → Array Value} (h : OwnTrees w base v ts cs) {t : Tree} {ds : Array Value} {C : Nat} (ht : At w (Up C) t ds) (hC : base ≤ C) (hv : ∀ k, v.ownBlock = some k → k < C)
    (hrow : w'.ownsRow base 27 8 v' (ts.length + 1) (flatC cs ts.length ++ ds.toList)) (hg : w.grownBy w' v.ownBlock) (hb : v'.ownBlock = v.ownBlock ∨ v'.ownBlock = some w.heap.size) :
    OwnTrees w' base v' (ts ++ [t]) (fun j => if j = ts.length then ds else cs j) := by
  have hl : (ts ++ [t]).length = ts.length + 1 := by simp
  refine ⟨?_, fun j hj => ?_⟩
  · rw [hl, flatC_succ, if_pos rfl, flatC_congr (ds := cs) (fun j hj => if_neg (by omega))]
    exact hrow
  · have keep : ∀ {u : Tree} {es : Array Value}, At w (fun b => base ≤ b ∧ some b ≠ v.ownBlock) u es → At w' (fun b => base ≤ b ∧ some b ≠ v'.ownBlock) u es := by
      intro u es hu
      refine ((hu.inWorld).keep (w' := w') (fun k hk hlt => hg.block k hlt hk.1.2)).weakS fun k hk => ⟨hk.1.1, ?_⟩
      rcases hb with e | e
      · rw [e]; exact hk.1.2
      · rw [e]; intro e'; have := hk.2; simp at e'; omega
    by_cases e : j = ts.length
    · subst e
      rw [if_pos rfl]
      have : (ts ++ [t])[ts.length] = t := by simp
      rw [this]
      refine keep (ht.weakS fun k hk => ⟨Nat.le_trans hC hk, fun e => ?_⟩)
      have h1 := hv k e.symm
      have h2 : C ≤ k := hk
      omega
    · rw [if_neg e]
      have hj' : j < ts.length := by rw [hl] at hj; omega
      have : (ts ++ [t])[j] = ts[j] := List.getElem_append_left hj'
      rw [this]
      exact keep (h.at_ j hj')
theorem OwnTrees.slAt {w : World} {base : Nat} {v : Value} {ts : List Tree} {cs : Nat → Array Value} (h : OwnTrees w base v ts cs) : SlAt w (Up base) ts v := by
  rcases h.row.2 with ⟨rfl, h0⟩ | ⟨g, cap, cur, rfl, hb, _, hcap, _⟩
  · exact Or.inl ⟨List.eq_nil_of_length_eq_zero h0, none, 0, by rfl⟩
  · by_cases e : ts = []
    · subst e; exact Or.inl ⟨rfl, _, _, rfl⟩
    · exact Or.inr ⟨e, g, 0, cap, cs, rfl, hcap, hb, fun i hi => owns_eight h.row h.size8 i hi, fun i hi => (h.at_ i hi).weakS fun k hk => hk.1⟩

theorem joined_spec (kind : Int) (l : List Tree) (v : Value) (S : Nat → Prop) (dv : Value) (ks : List Int) (w : World) (hlen : l.length ≤ 400)
    (hsl : SlAt w S l v) (hk : ∀ t, t ∈ l → t.k ≠ kind) (hd : NoneOf ks l) (hv : IntsAt w dv ks) :
    Calls Tryd.prog 39 #[.int .i64 kind, v, dv] w fun e w' =>
      ∃ ds, e = .returned (.agg ds) ∧ At w' (fun k => S k ∨ w.heap.size ≤ k) (joinT kind l) ds ∧ Below w.heap.size w w' := by
  rcases hsl with ⟨rfl, a, c, rfl⟩ | ⟨hl, b, off, c, cs, rfl, hc, hB, h8, hat⟩
  · refine (joined_none kind a c dv w).mono ?_
    rintro e w' ⟨rfl, hb⟩
    exact ⟨_, rfl, .leaf _ _ _ _ _ _, hb⟩
  · exact joined_some kind l b off c cs S dv ks w (by cases l with | nil => exact absurd rfl hl | cons => simp) hlen h8 hat hk hd hv
end Go.Proofs.YtdhndfmblmcapaaDoor
