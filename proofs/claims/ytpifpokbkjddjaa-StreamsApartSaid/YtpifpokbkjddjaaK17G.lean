/- What stands of the program's streams behind a file that is written to first. -/
import Derived.Test.YtpifpokbkjddjaaK17E
namespace Go.Proofs.Ytpifpokbkjddjaa
open Go.RowKit

def Rol.added (ρ : Rol) (k0 : Nat) (v2 : Value) (p' : Option Addr) (n : Nat) : Rol := fun k => if k = k0 then some (.sink n) else if v2.ownBlock = some k then some (.sbuf n) else if p'.map (·.block) = some k then some .row else ρ k
def Sst.added (s : Sst) (f : ByteArray × ByteArray) : Sst := { s with made := s.made ++ [f] }
def StD.added (d : StD) (k0 : Nat) (v2 : Value) (p' : Option Addr) (c' : Nat) : StD := { d with wp := p', wc := c', sk := d.sk ++ [⟨k0, .pointer (some ⟨k0, 0, none⟩), v2⟩] }
/-- What a file that is written to first leaves of the heap. -/
structure Added (w : World) (b : Nat) (ρ : Rol) (s : Sst) (d : StD) (w' : World) (k0 : Nat) (v2 : Value) (f : ByteArray × ByteArray) (p' : Option Addr) (c' : Nat) : Prop where
  new : w.heap.size ≤ k0
  buf : ∀ k, v2.ownBlock = some k → w.heap.size ≤ k
  sink : Bd 53 3 0 k0 #[.pointer (some ⟨k0, 0, none⟩), v2, .string f.1] v2 f.2.data.toList w'
  row : w'.ownsRow 0 62 1 (.slice p' (s.made.length + 1) c') (s.made.length + 1) ((d.sk.map fun x => pt x.blk) ++ [pt k0])
  rowb : ∀ a, p' = some a → (∃ a0, d.wp = some a0 ∧ a0.block = a.block) ∨ w.heap.size ≤ a.block
  top : w'.heap[b]? = some (.cells ((topC s d).setIfInBounds 6 (.slice p' (s.made.length + 1) c')) 56 (0, 0))
  but : ButS (fun k => ρ k = some .top ∨ ρ k = some .row) w w'
section
variable {w w' : World} {b : Nat} {ρ : Rol} {s : Sst} {d : StD} {k0 : Nat} {v2 : Value} {f : ByteArray × ByteArray} {p' : Option Addr} {c' : Nat}
theorem Added.pblk (h : Added w b ρ s d w' k0 v2 f p' c') : ∀ a, p' = some a → a.block < w'.heap.size ∧ a.block ≠ k0 ∧ v2.ownBlock ≠ some a.block := by
  intro a ha
  rcases h.row.2 with ⟨hv, h0⟩ | ⟨g, cap, cur, hv, hb', hh, r⟩
  · omega
  · injection hv with e1
    rw [ha] at e1
    injection e1 with e1
    subst e1
    refine ⟨(Array.getElem?_eq_some_iff.1 hh).1, fun e => ?_, fun e => ?_⟩
    · have h1 := h.sink.row
      have e' : g = k0 := e
      rw [← e', hh] at h1
      injection h1 with h1
      injection h1 with _ h2
      exact absurd h2 (by decide)
    · rcases h.sink.own.2 with ⟨hv2, _⟩ | ⟨g2, cap2, cur2, fz2, hv2, _, hh2, _⟩
      · rw [hv2] at e; simp [Value.ownBlock] at e
      · rw [hv2] at e
        have e' : g2 = g := by simpa [Value.ownBlock] using e
        rw [e', hh] at hh2
        injection hh2 with h1
        injection h1 with _ h2
        exact absurd h2 (by decide)
theorem Added.stays (h : Added w b ρ s d w' k0 v2 f p' c') (hv : StV w b ρ s d) : ∀ k r, ρ k = some r → ρ.added k0 v2 p' s.made.length k = some r := by
  intro k r hr
  have hlt := hv.low k r hr
  have hnew := h.new
  show (if k = k0 then some (Ro.sink s.made.length) else if v2.ownBlock = some k then some (.sbuf s.made.length) else if p'.map (·.block) = some k then some .row else ρ k) = some r
  rw [if_neg (by omega), if_neg (fun e => by have := h.buf k e; omega)]
  by_cases hp : p'.map (·.block) = some k
  · rw [if_pos hp]
    cases p' with
    | none => cases hp
    | some a =>
      have hk : a.block = k := by simpa using hp
      rcases h.rowb a rfl with ⟨a0, h1, h2⟩ | h1
      · have h3 := hv.snk.rrow a0 h1
        rw [h2, hk, hr] at h3
        exact h3.symm
      · omega
  · rw [if_neg hp, hr]
theorem Added.some_ (h : Added w b ρ s d w' k0 v2 f p' c') (hv : StV w b ρ s d) : ∀ k r, ρ.added k0 v2 p' s.made.length k = some r → (∃ q, ρ k = some q) ∨ (w.heap.size ≤ k ∧ k < w'.heap.size) := by
  intro k r hr
  have hr' : (if k = k0 then some (Ro.sink s.made.length) else if v2.ownBlock = some k then some (.sbuf s.made.length) else if p'.map (·.block) = some k then some .row else ρ k) = some r := hr
  by_cases h1 : k = k0
  · subst h1
    exact Or.inr ⟨h.new, h.sink.lt⟩
  rw [if_neg h1] at hr'
  by_cases h2 : v2.ownBlock = some k
  · exact Or.inr ⟨h.buf k h2, (h.sink.own.lt k h2).2⟩
  rw [if_neg h2] at hr'
  by_cases h3 : p'.map (·.block) = some k
  · cases p' with
    | none => cases h3
    | some a =>
      have hk : a.block = k := by simpa using h3
      rcases h.rowb a rfl with ⟨a0, h4, h5⟩ | h4
      · have h6 := hv.snk.rrow a0 h4
        rw [h5, hk] at h6
        exact Or.inl ⟨_, h6⟩
      · exact Or.inr ⟨by omega, by have := (h.pblk a rfl).1; omega⟩
  · rw [if_neg h3] at hr'
    exact Or.inl ⟨r, hr'⟩
theorem Added.stv (h : Added w b ρ s d w' k0 v2 f p' c') (hv : StV w b ρ s d) (hall : s.all + f.2.size ≤ 65536) (hfew : s.made.length < 8) : StV w' b (ρ.added k0 v2 p' s.made.length) (s.added f) (d.added k0 v2 p' c') := by
  have hst := h.stays hv
  have hblk : ∀ k r, ρ k = some r → (r = .top → False) → (r = .row → False) → w'.heap[k]? = w.heap[k]? := fun k r hr h1 h2 => h.but.block k (hv.low k r hr) (fun hk => by
    rcases hk with h3 | h3
    · rw [hr] at h3; exact h1 (Option.some.inj h3)
    · rw [hr] at h3; exact h2 (Option.some.inj h3))
  have hlen := hv.snk.len
  refine ⟨⟨?_, rfl, hv.top.fit, hv.top.ptr, hv.top.buf, ⟨hv.top.own.1, ?_⟩, hv.top.nil, hv.top.ty⟩, hst _ _ hv.rtop, fun k hk => hst _ _ (hv.rbuf k hk), hv.src.keep (fun k r hr _ => hst k r hr) (fun k r hr hi => hblk k r hr (fun e => by subst e; cases hi) (fun e => by subst e; cases hi)), ⟨?_, fun a ha => ?_, ?_, ?_⟩, hv.small, hv.pos, ?_, ?_, fun k r hr => ?_⟩
  · have e1 : topC (s.added f) (d.added k0 v2 p' c') = (topC s d).setIfInBounds 6 (.slice p' (s.made.length + 1) c') := by
      show #[_, _, _, _, _, _, Value.slice p' (s.made ++ [f]).length c'] = _
      rw [List.length_append]
      rfl
    rw [e1]
    exact h.top
  · rcases hv.top.own.2 with h0 | ⟨g, cap, cur, fz, hv', hb', hh, r⟩
    · exact Or.inl h0
    · exact Or.inr ⟨g, cap, cur, fz, hv', hb', (hblk g _ (hv.rbuf g (by rw [hv']; rfl)) (fun e => by cases e) (fun e => by cases e)).trans hh, r⟩
  · show w'.ownsRow 0 _ 1 (.slice p' (s.made ++ [f]).length c') (s.made ++ [f]).length ((d.sk ++ [(⟨k0, .pointer (some ⟨k0, 0, none⟩), v2⟩ : Snk)]).map fun x => pt x.blk)
    rw [List.length_append, List.map_append]
    exact h.row
  · have ha' : p' = some a := ha
    obtain ⟨h1, h2, h3⟩ := h.pblk a ha'
    show (if a.block = k0 then some (Ro.sink s.made.length) else if v2.ownBlock = some a.block then some (.sbuf s.made.length) else if p'.map (·.block) = some a.block then some .row else ρ a.block) = some .row
    rw [if_neg h2, if_neg h3, if_pos (by rw [ha']; rfl)]
  · show (d.sk ++ [_]).length = (s.made ++ [f]).length
    rw [List.length_append, List.length_append, hlen]
    rfl
  · intro j y g hy hg
    have hy' : (d.sk ++ [⟨k0, .pointer (some ⟨k0, 0, none⟩), v2⟩])[j]? = some y := hy
    have hg' : (s.made ++ [f])[j]? = some g := hg
    by_cases hj : j < s.made.length
    · rw [List.getElem?_append_left (by omega)] at hy' hg'
      obtain ⟨h1, h2, h3⟩ := hv.snk.sink j y g hy' hg'
      refine ⟨h1.keep fun k hk => ?_, hst _ _ h2, fun k hk => hst _ _ (h3 k hk)⟩
      rcases hk with rfl | hk
      · exact hblk _ _ h2 (fun e => by cases e) (fun e => by cases e)
      · exact hblk _ _ (h3 k hk) (fun e => by cases e) (fun e => by cases e)
    · have hj2 : j < (s.made ++ [f]).length := (List.getElem?_eq_some_iff.1 hg').1
      rw [List.length_append] at hj2
      have hj3 : j = s.made.length := by simp at hj2; omega
      subst hj3
      rw [List.getElem?_append_right (by omega), hlen] at hy'
      rw [List.getElem?_append_right (by omega)] at hg'
      simp at hy' hg'
      subst hy' hg'
      refine ⟨h.sink, if_pos rfl, fun k hk => ?_⟩
      have hk' : v2.ownBlock = some k := hk
      show (if k = k0 then some (Ro.sink s.made.length) else if v2.ownBlock = some k then some (.sbuf s.made.length) else if p'.map (·.block) = some k then some .row else ρ k) = _
      rw [if_neg (fun e => h.sink.ne (by rw [hk', e])), if_pos hk']
  · show s.out.size + sizesF (s.made ++ [f]) ≤ 65536
    rw [sizesK_snoc]
    have h1 : s.out.size + sizesF s.made + f.2.size ≤ 65536 := hall
    omega
  · show (s.made ++ [f]).length ≤ 8
    rw [List.length_append]
    exact hfew
  · rcases h.some_ hv k r hr with ⟨q, hq⟩ | ⟨_, h2⟩
    · exact Nat.lt_of_lt_of_le (hv.low k q hq) h.but.size
    · exact h2
theorem Added.leaves {O : Nat → Prop} (h : Added w b ρ s d w' k0 v2 f p' c') (hv : StV w b ρ s d) (hO : ∀ k, O k ↔ (ρ k).isSome = true) (hall : s.all + f.2.size ≤ 65536) (hfew : s.made.length < 8) : Leaves StP w b O (s.added f) w' :=
  StP.leaves hO (h.stv hv hall hfew) (fun k q hq => (h.some_ hv k q hq).imp id fun h => h.1) (h.but.mono fun k hk => by
    rcases hk with h1 | h1
    · exact ⟨_, h1⟩
    · exact ⟨_, h1⟩)
end
end Go.Proofs.Ytpifpokbkjddjaa
