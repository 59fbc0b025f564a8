/- What stands of the program's streams behind a read. -/
import Derived.Test.YtpifpokbkjddjaaGreatK17E
import Derived.Test.YtpifpokbkjddjaaGreatK17N
namespace Go.Proofs.YtpifpokbkjddjaaGreat
open Go.RowKit

theorem step_text (c : UInt8) (i : Inp) : (stepI c i).text = i.text := by
  unfold stepI
  cases nextB c i with
  | none => rfl
  | some rp => rfl
theorem step_name (c : UInt8) (i : Inp) : (stepI c i).name = i.name := by
  unfold stepI
  cases nextB c i with
  | none => rfl
  | some rp => rfl
theorem step_pos (c : UInt8) (i : Inp) (h : i.pos ≤ i.text.size) : (stepI c i).pos ≤ i.text.size := by
  unfold stepI
  cases hx : nextB c i with
  | none => exact h
  | some rp =>
    show rp.2 ≤ _
    unfold nextB at hx
    split at hx
    · cases hx
      exact Nat.min_le_right _ _
    · cases hx
theorem read_none (c : UInt8) (name : ByteArray) : ∀ l : List Inp, giveI l name = none → readG c name l = (l, ⟨#[]⟩, -1)
  | [], _ => rfl
  | f :: l, h => by
    have h' : (if f.name = name then some f else giveI l name) = none := h
    by_cases hf : f.name = name
    · rw [if_pos hf] at h'; cases h'
    · rw [if_neg hf] at h'
      show (if f.name = name then _ else (f :: (readG c name l).1, (readG c name l).2)) = _
      rw [if_neg hf, read_none c name l h']
theorem read_some (c : UInt8) (name : ByteArray) (p : Inp) : ∀ l : List Inp, giveI l name = some p → (readG c name l).2 = (recI c p, if (nextB c p).isSome = true then 1 else 0) ∧ ∀ n', giveI (readG c name l).1 n' = if n' = name then some (stepI c p) else giveI l n'
  | [], h => by cases h
  | f :: l, h => by
    have h' : (if f.name = name then some f else giveI l name) = some p := h
    by_cases hf : f.name = name
    · rw [if_pos hf] at h'
      cases h'
      have e : readG c name (p :: l) = (stepI c p :: l, recI c p, if (nextB c p).isSome = true then 1 else 0) := if_pos hf
      rw [e]
      refine ⟨rfl, fun n' => ?_⟩
      show (if (stepI c p).name = n' then some (stepI c p) else giveI l n') = if n' = name then some (stepI c p) else (if p.name = n' then some p else giveI l n')
      rw [step_name, hf]
      by_cases hn : n' = name
      · rw [if_pos hn.symm, if_pos hn]
      · rw [if_neg (fun e => hn e.symm), if_neg hn, if_neg (fun e => hn e.symm)]
    · rw [if_neg hf] at h'
      obtain ⟨h1, h2⟩ := read_some c name p l h'
      have e : readG c name (f :: l) = (f :: (readG c name l).1, (readG c name l).2) := if_neg hf
      rw [e]
      refine ⟨h1, fun n' => ?_⟩
      show (if f.name = n' then some f else giveI (readG c name l).1 n') = if n' = name then some (stepI c p) else (if f.name = n' then some f else giveI l n')
      by_cases hn : f.name = n'
      · rw [if_pos hn, if_pos hn, if_neg (fun e => hf (hn.trans e))]
      · rw [if_neg hn, if_neg hn, h2]
section
variable {w w' : World} {b : Nat} {ρ : Rol} {s : Sst} {d : StD}
theorem NxOut.at_ {k : Nat} {c : UInt8} {i : Inp} {e : Ending} {T : TypeId} {arr : Array Value} (h : NxOut w k c i e w') (hr : w.heap[k]? = some (.cells arr T (0, 0))) : w'.heap[k]? = some (.cells (arr.setIfInBounds 1 (.int .i64 (stepI c i).pos)) T (0, 0)) := by
  rw [h.2.1]; exact set_heap hr 1 _
theorem NxOut.other {k : Nat} {c : UInt8} {i : Inp} {e : Ending} (h : NxOut w k c i e w') : ∀ j, j ≠ k → w'.heap[j]? = w.heap[j]? := fun j hj => by
  rw [h.2.1]; exact set_other 1 j _ hj
theorem NxOut.size {k : Nat} {c : UInt8} {i : Inp} {e : Ending} (h : NxOut w k c i e w') : w'.heap.size = w.heap.size := by
  rw [h.2.1]; exact World.size_setCell _ _ _
theorem NxOut.but {k : Nat} {c : UInt8} {i : Inp} {e : Ending} (h : NxOut w k c i e w') : ButS (fun j => j = k) w w' := ⟨h.2.2.1, h.2.2.2.1, h.2.2.2.2, Nat.le_of_eq h.size.symm, fun j _ hj => h.other j hj⟩
theorem StV.read_src (h : StV w b ρ s d) (name : ByteArray) (c : UInt8) (i : Nat) (x : ByteArray × Nat) (p : Inp) {e : Ending} (hx : d.ents[i]? = some x) (hxn : x.1 = name) (hg : giveI s.given name = some p) (ho : NxOut w x.2 c p e w') : StV w' b ρ (readS c name s) d := by
  obtain ⟨hr, q, hq, hsc⟩ := h.src.hit i x hx
  rw [hxn, hg] at hq
  cases hq
  obtain ⟨_, hgive⟩ := read_some c name p s.given hg
  have hblk : ∀ k r, ρ k = some r → (r = .src i → False) → w'.heap[k]? = w.heap[k]? := fun k r hr' hne => ho.other k (fun e => by
    rw [e, hr] at hr'
    exact hne (Option.some.inj hr').symm)
  refine ⟨h.top.keep fun k hk => ?_, h.rtop, h.rbuf, ⟨h.src.map.keep (hblk _ _ h.src.rmap (fun e => by cases e)), h.src.rmap, h.src.nodup, fun j y hy => ?_, fun n' hn => ?_⟩, h.snk.keep (fun k r hr' _ => hr') (fun k r hr' hi => hblk k r hr' (fun e => by subst e; cases hi)), h.small, h.pos, h.all, h.few, fun k r hr' => by rw [ho.size]; exact h.low k r hr'⟩
  · rcases h.top_role k hk with h3 | h3
    · exact hblk k _ h3 (fun e => by cases e)
    · exact hblk k _ h3 (fun e => by cases e)
  · by_cases hj : j = i
    · subst hj
      rw [hx] at hy
      cases hy
      refine ⟨hr, stepI c p, ?_, ?_, by rw [step_text]; exact hsc.small, by rw [step_text]; exact step_pos c p hsc.pos⟩
      · show giveI (readG c name s.given).1 x.1 = _
        rw [hgive, if_pos hxn]
      · have := ho.at_ hsc.row
        rw [step_text]
        exact this
    · obtain ⟨h1, q, h2, h3⟩ := h.src.hit j y hy
      have hne : y.1 ≠ name := fun e => hj (by
        have hnd := h.src.nodup
        have hjl : j < (d.ents.map (·.1)).length := by rw [List.length_map]; exact (List.getElem?_eq_some_iff.1 hy).1
        refine (List.getElem?_inj hjl hnd).1 ?_
        rw [List.getElem?_map, List.getElem?_map, hy, hx]
        show some y.1 = some x.1
        rw [e, hxn])
      refine ⟨h1, q, ?_, ⟨(hblk _ _ h1 (fun e => by cases e; exact hj rfl)).trans h3.row, h3.small, h3.pos⟩⟩
      show giveI (readG c name s.given).1 y.1 = _
      rw [hgive, if_neg hne, h2]
  · show giveI (readG c name s.given).1 n' = none
    rw [hgive, if_neg (fun e => hn x (List.mem_of_getElem? hx) (hxn.trans e.symm))]
    exact h.src.miss n' hn
theorem StV.read_main (h : StV w b ρ s d) (c : UInt8) {e : Ending} (ho : NxOut w b c s.main e w') : StV w' b ρ (mainS c s) d := by
  have hblk : ∀ k r, ρ k = some r → (r = .top → False) → w'.heap[k]? = w.heap[k]? := fun k r hr' hne => ho.other k (fun e => by
    rw [e, h.rtop] at hr'
    exact hne (Option.some.inj hr').symm)
  refine ⟨⟨?_, rfl, h.top.fit, h.top.ptr, h.top.buf, ⟨h.top.own.1, ?_⟩, h.top.nil, h.top.ty⟩, h.rtop, h.rbuf, h.src.keep (fun k r hr' _ => hr') (fun k r hr' hi => hblk k r hr' (fun e => by subst e; cases hi)), h.snk.keep (fun k r hr' _ => hr') (fun k r hr' hi => hblk k r hr' (fun e => by subst e; cases hi)), ?_, ?_, h.all, h.few, fun k r hr' => by rw [ho.size]; exact h.low k r hr'⟩
  · have e1 : topC (mainS c s) d = (topC s d).setIfInBounds 1 (.int .i64 (stepI c s.main).pos) := by
      show #[Value.string (stepI c s.main).text, _, _, _, _, _, _] = _
      rw [step_text]
      rfl
    rw [e1]
    exact ho.at_ h.top.row
  · rcases h.top.own.2 with h0 | ⟨g, cap, cur, fz, hv', hb', hh, r⟩
    · exact Or.inl h0
    · exact Or.inr ⟨g, cap, cur, fz, hv', hb', (hblk g _ (h.rbuf g (by rw [hv']; rfl)) (fun e => by cases e)).trans hh, r⟩
  · show (stepI c s.main).text.size ≤ 1000
    rw [step_text]; exact h.small
  · show (stepI c s.main).pos ≤ (stepI c s.main).text.size
    rw [step_text]; exact step_pos c _ h.pos
end
end Go.Proofs.YtpifpokbkjddjaaGreat
