/- Regions that draw their order: an operation taken first, or passed over; a chain of calls beside operations that make memory, in whatever order. -/
import Derived.Test.YtcojnkjcbopnbaaGreatDoorBase
namespace Go.Proofs.YtcojnkjcbopnbaaGreatDoor
open Go.RowKit

section
variable {P : Program} {ops : Array Oper} {Q : Exit → Act → World → Prop} {md : Region.Mode} {S : World → Prop}
/-- An operation of a drawn region that its guard wants, taken first. -/
theorem takeW {i d : Nat} {oi : Oper} {v : Value} {fuel : Nat} {listed : Array Bool} {a : Act} {w : World} (hi : ops[i]? = some oi) (hd : oi.dst = some d)
    (hs : Region.noSelect ops = true) (hf : Region.free md ops listed i = true) (hr : (Region.ready md ops listed).contains i = true)
    (hQ : ∀ c a w, Q (.panic c) (a.put (some d) v) w → Q (.panic c) a w) (hw : Region.wanted oi (yielded ops a.tmps) = true) (hx : ∀ w, S w → (execOp a.eval oi).run P w = .ok (.value v) w) (hS : S w)
    (h : wpAnyH P md ops Q S fuel (listed.setIfInBounds i true) ⟨a.tmps.setIfInBounds d v, a.defers⟩ w) : wpAnyH P md ops Q S (fuel + 1) listed a w :=
  wpAnyH_take hi hs hf hr (by rw [hd]; exact hQ) (Or.inl ⟨hw, hx⟩) hS (by rw [hd]; exact h)
/-- One that its guard passes over. -/
theorem skipW {i d : Nat} {oi : Oper} {fuel : Nat} {listed : Array Bool} {a : Act} {w : World} (hi : ops[i]? = some oi) (hd : oi.dst = some d)
    (hs : Region.noSelect ops = true) (hf : Region.free md ops listed i = true) (hr : (Region.ready md ops listed).contains i = true)
    (hQ : ∀ c a w, Q (.panic c) (a.put (some d) undef) w → Q (.panic c) a w) (hw : Region.wanted oi (yielded ops a.tmps) = false) (hS : S w)
    (h : wpAnyH P md ops Q S fuel (listed.setIfInBounds i true) ⟨a.tmps.setIfInBounds d undef, a.defers⟩ w) : wpAnyH P md ops Q S (fuel + 1) listed a w :=
  wpAnyH_take hi hs hf hr (by rw [hd]; exact hQ) (Or.inr ⟨hw, rfl⟩) hS (by rw [hd]; exact h)
end

section
variable {P : Program} {ops : Array Oper} {Q : Exit → Act → World → Prop} {md : Region.Mode} {S : World → Prop}
theorem shuffle2 (m base : Nat) (L : Nat → Bool → Bool → Array Bool) (ci : Nat → Nat) (i0 i1 : Nat) (St : Nat → Bool → Bool → Act → World → Prop)
    (hr : ∀ c x y, c ≤ m → ¬ (c = m ∧ x = true ∧ y = true) → Region.ready md ops (L c x y) ≠ [] ∧ ∀ i ∈ Region.ready md ops (L c x y), (c < m ∧ i = ci c) ∨ (x = false ∧ i = i0) ∨ (y = false ∧ i = i1))
    (hc : ∀ c x y, c < m → (L c x y).setIfInBounds (ci c) true = L (c + 1) x y)
    (h0 : ∀ c y, c ≤ m → (L c false y).setIfInBounds i0 true = L c true y)
    (h1 : ∀ c x, c ≤ m → (L c x false).setIfInBounds i1 true = L c x true)
    (call : ∀ c x y a w, c < m → S w → St c x y a w → wpOp P ops Q (ci c) (fun a' w' => S w' ∧ St (c + 1) x y a' w') a w)
    (al0 : ∀ c y a w, c ≤ m → S w → St c false y a w → wpOp P ops Q i0 (fun a' w' => S w' ∧ St c true y a' w') a w)
    (al1 : ∀ c x a w, c ≤ m → S w → St c x false a w → wpOp P ops Q i1 (fun a' w' => S w' ∧ St c x true a' w') a w)
    (fin : ∀ a w, S w → St m true true a w → wpAnyH P md ops Q S base (L m true true) a w) :
    ∀ (r c : Nat) (x y : Bool) (a : Act) (w : World), c ≤ m → (m - c) + (if x = true then 0 else 1) + (if y = true then 0 else 1) = r → S w → St c x y a w → wpAnyH P md ops Q S (r + base) (L c x y) a w := by
  intro r
  induction r with
  | zero =>
    intro c x y a w hcm hrem hS hst
    have ex : x = true := by
      rcases Bool.eq_false_or_eq_true x with h | h
      · exact h
      · exfalso
        rw [if_neg (show ¬ x = true by rw [h]; decide)] at hrem
        omega
    have ey : y = true := by
      rcases Bool.eq_false_or_eq_true y with h | h
      · exact h
      · exfalso
        rw [if_neg (show ¬ y = true by rw [h]; decide)] at hrem
        omega
    subst ex ey
    have ec : c = m := by simp at hrem; omega
    subst ec
    rw [Nat.zero_add]
    exact fin a w hS hst
  | succ r ih =>
    intro c x y a w hcm hrem hS hst
    have hnot : ¬ (c = m ∧ x = true ∧ y = true) := by
      rintro ⟨rfl, rfl, rfl⟩
      simp at hrem
    obtain ⟨hne, hall⟩ := hr c x y hcm hnot
    rw [show r + 1 + base = (r + base) + 1 from by omega]
    refine ⟨fun h => absurd h hne, fun i hi => ?_⟩
    rcases hall i hi with ⟨hlt, rfl⟩ | ⟨rfl, rfl⟩ | ⟨rfl, rfl⟩
    · rw [hc c x y hlt]
      exact wpOp_mono (fun a' w' h => ⟨h.1, ih (c + 1) x y a' w' hlt (by omega) h.1 h.2⟩) (call c x y a w hlt hS hst)
    · rw [h0 c y hcm]
      exact wpOp_mono (fun a' w' h => ⟨h.1, ih c true y a' w' hcm (by simp at hrem ⊢; omega) h.1 h.2⟩) (al0 c y a w hcm hS hst)
    · rw [h1 c x hcm]
      exact wpOp_mono (fun a' w' h => ⟨h.1, ih c x true a' w' hcm (by simp at hrem ⊢; omega) h.1 h.2⟩) (al1 c x a w hcm hS hst)
end

section
variable {P : Program} {ops : Array Oper} {Q : Exit → Act → World → Prop} {md : Region.Mode} {S : World → Prop}
theorem shuffle3 (m base : Nat) (L : Nat → Bool → Bool → Bool → Array Bool) (ci : Nat → Nat) (i0 i1 i2 : Nat) (St : Nat → Bool → Bool → Bool → Act → World → Prop)
    (hr : ∀ c x y z, c ≤ m → ¬ (c = m ∧ x = true ∧ y = true ∧ z = true) → Region.ready md ops (L c x y z) ≠ [] ∧ ∀ i ∈ Region.ready md ops (L c x y z), (c < m ∧ i = ci c) ∨ (x = false ∧ i = i0) ∨ (y = false ∧ i = i1) ∨ (z = false ∧ i = i2))
    (hc : ∀ c x y z, c < m → (L c x y z).setIfInBounds (ci c) true = L (c + 1) x y z)
    (h0 : ∀ c y z, c ≤ m → (L c false y z).setIfInBounds i0 true = L c true y z)
    (h1 : ∀ c x z, c ≤ m → (L c x false z).setIfInBounds i1 true = L c x true z)
    (h2 : ∀ c x y, c ≤ m → (L c x y false).setIfInBounds i2 true = L c x y true)
    (call : ∀ c x y z a w, c < m → S w → St c x y z a w → wpOp P ops Q (ci c) (fun a' w' => S w' ∧ St (c + 1) x y z a' w') a w)
    (al0 : ∀ c y z a w, c ≤ m → S w → St c false y z a w → wpOp P ops Q i0 (fun a' w' => S w' ∧ St c true y z a' w') a w)
    (al1 : ∀ c x z a w, c ≤ m → S w → St c x false z a w → wpOp P ops Q i1 (fun a' w' => S w' ∧ St c x true z a' w') a w)
    (al2 : ∀ c x y a w, c ≤ m → S w → St c x y false a w → wpOp P ops Q i2 (fun a' w' => S w' ∧ St c x y true a' w') a w)
    (fin : ∀ a w, S w → St m true true true a w → wpAnyH P md ops Q S base (L m true true true) a w) :
    ∀ (r c : Nat) (x y z : Bool) (a : Act) (w : World), c ≤ m → (m - c) + (if x = true then 0 else 1) + (if y = true then 0 else 1) + (if z = true then 0 else 1) = r → S w → St c x y z a w → wpAnyH P md ops Q S (r + base) (L c x y z) a w := by
  intro r
  induction r with
  | zero =>
    intro c x y z a w hcm hrem hS hst
    have ex : x = true := by
      rcases Bool.eq_false_or_eq_true x with h | h
      · exact h
      · exfalso
        rw [if_neg (show ¬ x = true by rw [h]; decide)] at hrem
        omega
    have ey : y = true := by
      rcases Bool.eq_false_or_eq_true y with h | h
      · exact h
      · exfalso
        rw [if_neg (show ¬ y = true by rw [h]; decide)] at hrem
        omega
    have ez : z = true := by
      rcases Bool.eq_false_or_eq_true z with h | h
      · exact h
      · exfalso
        rw [if_neg (show ¬ z = true by rw [h]; decide)] at hrem
        omega
    subst ex ey ez
    have ec : c = m := by simp at hrem; omega
    subst ec
    rw [Nat.zero_add]
    exact fin a w hS hst
  | succ r ih =>
    intro c x y z a w hcm hrem hS hst
    have hnot : ¬ (c = m ∧ x = true ∧ y = true ∧ z = true) := by
      rintro ⟨rfl, rfl, rfl, rfl⟩
      simp at hrem
    obtain ⟨hne, hall⟩ := hr c x y z hcm hnot
    rw [show r + 1 + base = (r + base) + 1 from by omega]
    refine ⟨fun h => absurd h hne, fun i hi => ?_⟩
    rcases hall i hi with ⟨hlt, rfl⟩ | ⟨rfl, rfl⟩ | ⟨rfl, rfl⟩ | ⟨rfl, rfl⟩
    · rw [hc c x y z hlt]
      exact wpOp_mono (fun a' w' h => ⟨h.1, ih (c + 1) x y z a' w' hlt (by omega) h.1 h.2⟩) (call c x y z a w hlt hS hst)
    · rw [h0 c y z hcm]
      exact wpOp_mono (fun a' w' h => ⟨h.1, ih c true y z a' w' hcm (by simp at hrem ⊢; omega) h.1 h.2⟩) (al0 c y z a w hcm hS hst)
    · rw [h1 c x z hcm]
      exact wpOp_mono (fun a' w' h => ⟨h.1, ih c x true z a' w' hcm (by simp at hrem ⊢; omega) h.1 h.2⟩) (al1 c x z a w hcm hS hst)
    · rw [h2 c x y hcm]
      exact wpOp_mono (fun a' w' h => ⟨h.1, ih c x y true a' w' hcm (by simp at hrem ⊢; omega) h.1 h.2⟩) (al2 c x y a w hcm hS hst)
end

end Go.Proofs.YtcojnkjcbopnbaaGreatDoor
