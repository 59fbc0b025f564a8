/- The program's streams in memory. -/
import Derived.Test.YtpifpokbkjddjaaK17A
namespace Go.Proofs.Ytpifpokbkjddjaa
open Go.RowKit

/-- What a block of the program's streams is for. -/
inductive Ro
  | top | pbuf | map | src (i : Nat) | row | sink (i : Nat) | sbuf (i : Nat)
def Ro.inS : Ro → Bool
  | .map | .src _ => true
  | _ => false
def Ro.inK : Ro → Bool
  | .row | .sink _ | .sbuf _ => true
  | _ => false
abbrev Rol := Nat → Option Ro
def giveI : List Inp → ByteArray → Option Inp
  | [], _ => none
  | f :: l, name => if f.name = name then some f else giveI l name
theorem giveN_of (l : List Inp) (name : ByteArray) : giveN l name = match giveI l name with | some i => i.text | none => ⟨#[]⟩ := by
  induction l with
  | nil => rfl
  | cons f l ih =>
    show (if f.name = name then f.text else giveN l name) = match (if f.name = name then some f else giveI l name) with | some i => i.text | none => ⟨#[]⟩
    split
    · rfl
    · exact ih
/-- A source's cells. -/
structure SrcC (w : World) (k : Nat) (i : Inp) : Prop where
  row : w.heap[k]? = some (.cells #[.string i.text, .int .i64 i.pos] 47 (0, 0))
  small : i.text.size ≤ 1000
  pos : i.pos ≤ i.text.size
/-- The files that may be read: a map of names to sources. -/
structure SrcV (w : World) (ρ : Rol) (given : List Inp) (m : Nat) (ents : List (ByteArray × Nat)) : Prop where
  map : NmMap w m (ents.map fun x => (x.1, pt x.2))
  rmap : ρ m = some .map
  nodup : (ents.map (·.1)).Nodup
  hit : ∀ i x, ents[i]? = some x → ρ x.2 = some (.src i) ∧ ∃ p, giveI given x.1 = some p ∧ SrcC w x.2 p
  miss : ∀ name, (∀ x ∈ ents, x.1 ≠ name) → giveI given name = none
theorem SrcV.keep {w w' : World} {ρ ρ' : Rol} {given : List Inp} {m : Nat} {ents : List (ByteArray × Nat)} (h : SrcV w ρ given m ents) (hρ : ∀ k r, ρ k = some r → r.inS = true → ρ' k = some r) (hb : ∀ k r, ρ k = some r → r.inS = true → w'.heap[k]? = w.heap[k]?) : SrcV w' ρ' given m ents := by
  refine ⟨h.map.keep (hb m _ h.rmap rfl), hρ m _ h.rmap rfl, h.nodup, fun i x hx => ?_, h.miss⟩
  obtain ⟨h1, p, h2, h3⟩ := h.hit i x hx
  exact ⟨hρ _ _ h1 rfl, p, h2, ⟨(hb _ _ h1 rfl).trans h3.row, h3.small, h3.pos⟩⟩
/-- A file that is written: its sink's block, what its builder holds. -/
structure Snk where
  blk : Nat
  pv : Value
  v : Value
def Snk.cells (x : Snk) (name : ByteArray) : Array Value := #[x.pv, x.v, .string name]
abbrev SinkAt (w : World) (x : Snk) (f : ByteArray × ByteArray) : Prop := Bd 53 3 0 x.blk (x.cells f.1) x.v f.2.data.toList w
/-- The files that are written: a row of pointers. -/
structure SnkV (w : World) (ρ : Rol) (made : List (ByteArray × ByteArray)) (wp : Option Addr) (wc : Nat) (sk : List Snk) : Prop where
  row : w.ownsRow 0 62 1 (.slice wp made.length wc) made.length (sk.map fun x => pt x.blk)
  rrow : ∀ a, wp = some a → ρ a.block = some .row
  len : sk.length = made.length
  sink : ∀ i x f, sk[i]? = some x → made[i]? = some f → SinkAt w x f ∧ ρ x.blk = some (.sink i) ∧ ∀ k, x.v.ownBlock = some k → ρ k = some (.sbuf i)
theorem SnkV.keep {w w' : World} {ρ ρ' : Rol} {made : List (ByteArray × ByteArray)} {wp : Option Addr} {wc : Nat} {sk : List Snk} (h : SnkV w ρ made wp wc sk) (hρ : ∀ k r, ρ k = some r → r.inK = true → ρ' k = some r) (hb : ∀ k r, ρ k = some r → r.inK = true → w'.heap[k]? = w.heap[k]?) : SnkV w' ρ' made wp wc sk := by
  refine ⟨⟨h.row.1, ?_⟩, fun a ha => hρ _ _ (h.rrow a ha) rfl, h.len, fun i x f hx hf => ?_⟩
  · rcases h.row.2 with h0 | ⟨g, cap, cur, hv, hb', hh, r⟩
    · exact Or.inl h0
    · have hv' := hv
      injection hv' with e1
      exact Or.inr ⟨g, cap, cur, hv, hb', (hb g _ (h.rrow _ e1) rfl).trans hh, r⟩
  · obtain ⟨h1, h2, h3⟩ := h.sink i x f hx hf
    refine ⟨h1.keep fun k hk => ?_, hρ _ _ h2 rfl, fun k hk => hρ _ _ (h3 k hk) rfl⟩
    rcases hk with rfl | hk
    · exact hb _ _ h2 rfl
    · exact hb _ _ (h3 k hk) rfl
/-- What the streams' parts are. -/
structure StD where
  m : Nat
  ents : List (ByteArray × Nat)
  pv : Value
  v : Value
  wp : Option Addr
  wc : Nat
  sk : List Snk
def topC (s : Sst) (d : StD) : Array Value := #[.string s.main.text, .int .i64 s.main.pos, .map (some d.m), d.pv, d.v, .string ⟨#[]⟩, .slice d.wp s.made.length d.wc]
structure StV (w : World) (b : Nat) (ρ : Rol) (s : Sst) (d : StD) : Prop where
  top : Bd 56 7 3 b (topC s d) d.v s.out.data.toList w
  rtop : ρ b = some .top
  rbuf : ∀ k, d.v.ownBlock = some k → ρ k = some .pbuf
  src : SrcV w ρ s.given d.m d.ents
  snk : SnkV w ρ s.made d.wp d.wc d.sk
  small : s.main.text.size ≤ 1000
  pos : s.main.pos ≤ s.main.text.size
  all : s.all ≤ 65536
  few : s.made.length ≤ 8
  low : ∀ k r, ρ k = some r → k < w.heap.size
def StP : StMem := fun w b O s => ∃ ρ d, (∀ k, O k ↔ (ρ k).isSome = true) ∧ StV w b ρ s d
theorem StP.lt {w : World} {b : Nat} {O : Nat → Prop} {s : Sst} (h : StP w b O s) : ∀ k, O k → k < w.heap.size := by
  obtain ⟨ρ, d, hO, h⟩ := h
  intro k hk
  obtain ⟨r, hr⟩ := Option.isSome_iff_exists.1 ((hO k).1 hk)
  exact h.low k r hr
theorem StV.keep {w w' : World} {b : Nat} {ρ : Rol} {s : Sst} {d : StD} (h : StV w b ρ s d) (hs : w.heap.size ≤ w'.heap.size) (hb : ∀ k r, ρ k = some r → w'.heap[k]? = w.heap[k]?) : StV w' b ρ s d := by
  refine ⟨h.top.keep fun k hk => ?_, h.rtop, h.rbuf, h.src.keep (fun k r hr _ => hr) (fun k r hr _ => hb k r hr), h.snk.keep (fun k r hr _ => hr) (fun k r hr _ => hb k r hr), h.small, h.pos, h.all, h.few, fun k r hr => by have := h.low k r hr; omega⟩
  rcases hk with rfl | hk
  · exact hb _ _ h.rtop
  · exact hb _ _ (h.rbuf k hk)
theorem StP.keep {w w' : World} {b : Nat} {O : Nat → Prop} {s : Sst} (h : StP w b O s) (hs : w.heap.size ≤ w'.heap.size) (hb : ∀ k, O k → w'.heap[k]? = w.heap[k]?) : StP w' b O s := by
  obtain ⟨ρ, d, hO, h⟩ := h
  exact ⟨ρ, d, hO, h.keep hs fun k r hr => hb k ((hO k).2 (by rw [hr]; rfl))⟩
/-- Roles with one more for the blocks of v'. -/
def Rol.with_ (ρ : Rol) (v' : Value) (r : Ro) : Rol := fun k => if v'.ownBlock = some k then some r else ρ k
theorem Rol.old {ρ : Rol} {v' : Value} {r : Ro} {k : Nat} (h : v'.ownBlock ≠ some k) : ρ.with_ v' r k = ρ k := if_neg h
theorem Rol.new_ {ρ : Rol} {v' : Value} {r : Ro} {k : Nat} (h : v'.ownBlock = some k) : ρ.with_ v' r k = some r := if_pos h
/-- Behind a builder's call all roles stand. -/
theorem Rol.stays {ρ : Rol} {v v' : Value} {r : Ro} {n : Nat} (hv : ∀ k, v.ownBlock = some k → ρ k = some r) (hlow : ∀ k r, ρ k = some r → k < n) (hloc : ∀ k, v'.ownBlock = some k → v.ownBlock = some k ∨ n ≤ k) : ∀ k q, ρ k = some q → ρ.with_ v' r k = some q := by
  intro k q hq
  by_cases h : v'.ownBlock = some k
  · rw [Rol.new_ h]
    rcases hloc k h with h1 | h1
    · rw [← hv k h1, hq]
    · have := hlow k q hq
      omega
  · rw [Rol.old h, hq]
theorem Rol.some_ {ρ : Rol} {v v' : Value} {r : Ro} {n : Nat} (hv : ∀ k, v.ownBlock = some k → ρ k = some r) (hloc : ∀ k, v'.ownBlock = some k → v.ownBlock = some k ∨ n ≤ k) : ∀ k q, ρ.with_ v' r k = some q → (∃ q', ρ k = some q') ∨ (n ≤ k ∧ v'.ownBlock = some k) := by
  intro k q hq
  by_cases h : v'.ownBlock = some k
  · rcases hloc k h with h1 | h1
    · exact Or.inl ⟨_, hv k h1⟩
    · exact Or.inr ⟨h1, h⟩
  · rw [Rol.old h] at hq
    exact Or.inl ⟨q, hq⟩
end Go.Proofs.Ytpifpokbkjddjaa
