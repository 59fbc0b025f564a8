/- The tree of just a text: plain Lean. -/
import Derived.Test.YtdhndfmblmcapaaDoorPlain
import Derived.Test.YtdhndfmblmcapaaDoorGroup
namespace Go.Proofs.YtdhndfmblmcapaaDoor
open Go.RowKit

/-- The trees of a text's bytes. -/
def bytesT (l : List UInt8) : List Tree := l.map fun c => oneT c.toNat
def textT (l : List UInt8) : Tree := joinT 4 (bytesT l)
def pcs (l : List UInt8) : List Pc := l.map fun c => ⟨textC c, oneT c.toNat, 0⟩
theorem pcs_text (l : List UInt8) : textOf (pcs l) = plainL l := by
  induction l with
  | nil => rfl
  | cons c l ih => show textC c ++ textOf (pcs l) = textC c ++ plainL l; rw [ih]
theorem pcs_trees (l : List UInt8) : (pcs l).map (·.t) = bytesT l := by simp [pcs, bytesT]
theorem pcs_max (l : List UInt8) : maxN (pcs l) = 0 := by
  induction l with
  | nil => rfl
  | cons c l ih => show max 0 (maxN (pcs l)) = 0; rw [ih]; rfl
theorem sign_facts : ∀ c : Fin 256, (signB c.val.toUInt8 = true → c.val.toUInt8 ≠ 110 ∧ c.val.toUInt8 ≠ 116) ∧ (signB c.val.toUInt8 = false → plainB c.val.toUInt8 = true ∧ c.val.toUInt8 ∉ ([42, 43, 63, 123, 124, 41] : List UInt8)) := by decide +kernel
theorem pc_ok (c : UInt8) : PcOk ⟨textC c, oneT c.toNat, 0⟩ := by
  have hf := sign_facts ⟨c.toNat, UInt8.toNat_lt c⟩
  have hu : (c.toNat).toUInt8 = c := by simp
  simp only [hu] at hf
  have k4 : (oneT c.toNat).k ≠ 4 := by show (1 : Int) ≠ 4; omega
  have k0 : (oneT c.toNat).k ≠ 0 := by show (1 : Int) ≠ 0; omega
  cases hb : signB c with
  | true =>
    obtain ⟨h1, h2⟩ := hf.1 hb
    have e : textC c = [92, c] := by unfold textC; rw [if_pos hb]
    refine ⟨?_, ⟨92, [c], e, by decide⟩, k4, k0⟩
    show PieceAt (textC c) _ _
    rw [e]
    exact piece_at [92, c] (oneT c.toNat) 0 (atom_esc c h1 h2) [] (fun x hx => absurd hx (by simp))
  | false =>
    obtain ⟨h1, h2⟩ := hf.2 hb
    have e : textC c = [c] := by unfold textC; rw [if_neg (by rw [hb]; decide)]
    refine ⟨?_, ⟨c, [], e, h2⟩, k4, k0⟩
    show PieceAt (textC c) _ _
    rw [e]
    exact piece_at [c] (oneT c.toNat) 0 (atom_byte c h1) [] (fun x hx => absurd hx (by simp))
theorem textT_k (l : List UInt8) : (textT l).k ≠ 5 := by
  match l with
  | [] => show (0 : Int) ≠ 5; omega
  | [c] => show (1 : Int) ≠ 5; omega
  | c :: d :: r => show (4 : Int) ≠ 5; omega
theorem text_parse (l : List UInt8) (hl : l.length ≤ 200) : PatternAt (plainL l) (textT l) 0 := by
  have hb := branch_at (pcs l) (fun q hq => by obtain ⟨c, _, rfl⟩ := List.mem_map.1 hq; exact pc_ok c) (by unfold pcs; rw [List.length_map]; omega)
  rw [pcs_text, pcs_trees, pcs_max] at hb
  have h := pattern_at ⟨plainL l, textT l, 0⟩ [] ⟨hb, textT_k l⟩ (fun q hq => absurd hq (by simp)) (by simp)
  have e1 : plainL l ++ restAlt [] = plainL l := by simp [restAlt]
  rw [show (⟨plainL l, textT l, 0⟩ : Pc).l = plainL l from rfl, e1] at h
  exact h
theorem bytesT_mem {l : List UInt8} {t : Tree} (h : t ∈ bytesT l) : ∃ c : UInt8, t = oneT c.toNat := by
  obtain ⟨c, _, rfl⟩ := List.mem_map.1 h
  exact ⟨c, rfl⟩
theorem text_good (l : List UInt8) (hl : l.length ≤ 200) : Good 100 (-1) (textT l) := by
  match l, hl with
  | [], _ =>
    refine ⟨?_, fun x hx => absurd hx (by simp [textT, bytesT, joinT, emptyT, Tree.kids])⟩
    exact {
      fits := fits_zero
      k0 := by show (0 : Int) ≤ 0; omega
      k6 := by show (0 : Int) ≤ 6; omega
      set := fun _ _ _ => rfl
      times := fun _ => ⟨rfl, rfl⟩
      alone := fun _ => rfl
      empty := fun _ => by omega
      parts := fun h => by have h' : (0 : Int) = 4 ∨ (0 : Int) = 5 := h; omega
      rep := fun h => by have h' : (0 : Int) = 6 := h; omega
      few := Nat.zero_le _ }
  | [c], _ => exact oneT_good 99 (-1) c.toNat
  | c :: d :: r, hl =>
    have e : textT (c :: d :: r) = .mk 4 zero4 0 0 (bytesT (c :: d :: r)) := rfl
    rw [e]
    refine ⟨many_fit (-1) 4 _ (Or.inl rfl) (by omega) (by simp [bytesT]) (by unfold bytesT; rw [List.length_map]; omega), fun x hx => ?_⟩
    obtain ⟨b, rfl⟩ := bytesT_mem hx
    exact oneT_good 98 4 b.toNat
theorem text_least (l : List UInt8) (hl : l.length ≤ 200) : Leasts (textT l) l.length := by
  match l, hl with
  | [], _ => exact leasts_empty _ _ _ _
  | [c], _ => exact leasts_set _ _ _ _
  | c :: d :: r, hl =>
    have e : textT (c :: d :: r) = .mk 4 zero4 0 0 (bytesT (c :: d :: r)) := rfl
    rw [e]
    have h := leasts_cat zero4 0 0 (bytesT (c :: d :: r)) (by simp [bytesT]) (by unfold bytesT; rw [List.length_map]; omega) (fun t ht => by obtain ⟨b, rfl⟩ := bytesT_mem ht; exact leasts_set _ _ _ _)
    have el : (bytesT (c :: d :: r)).length = (c :: d :: r).length := by unfold bytesT; rw [List.length_map]
    rw [el] at h
    exact h
end Go.Proofs.YtdhndfmblmcapaaDoor
