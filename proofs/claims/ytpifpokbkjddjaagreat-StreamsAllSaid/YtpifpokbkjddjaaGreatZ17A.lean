/- Layer 17 plainly: texts that are read, what is printed, files that are written; what the program's streams are to do. -/
import Derived.Test.YtpifpokbkjddjaaGreatBase
namespace Go.Proofs.YtpifpokbkjddjaaGreat
open Go.RowKit

/-- A text that is read, and how far. -/
structure Inp where
  name : ByteArray
  text : ByteArray
  pos : Nat
/-- What a run reads and writes. -/
structure Sst where
  main : Inp
  given : List Inp
  out : ByteArray
  made : List (ByteArray × ByteArray)
def sizesF : List (ByteArray × ByteArray) → Nat
  | [] => 0
  | f :: l => f.2.size + sizesF l
def Sst.all (s : Sst) : Nat := s.out.size + sizesF s.made
def fullB (s : Sst) (n : Nat) : Bool := decide (65536 < s.all + n)
def printS (s : Sst) (t : ByteArray) : Sst × Int := if fullB s t.size = true then (s, 8) else ({ s with out := s.out ++ t }, 0)
def hasB : List (ByteArray × ByteArray) → ByteArray → Bool
  | [], _ => false
  | f :: l, name => decide (f.1 = name) || hasB l name
def appS : List (ByteArray × ByteArray) → ByteArray → ByteArray → List (ByteArray × ByteArray)
  | [], _, _ => []
  | f :: l, name, t => if f.1 = name then (f.1, f.2 ++ t) :: l else f :: appS l name t
def giveN : List Inp → ByteArray → ByteArray
  | [], _ => ⟨#[]⟩
  | f :: l, name => if f.name = name then f.text else giveN l name
def moreT (s : Sst) (name t : ByteArray) (more : Bool) : ByteArray := if more = true then giveN s.given name ++ t else t
def writeS (s : Sst) (name t : ByteArray) (more : Bool) : Sst × Int :=
  if name = ⟨#[]⟩ then (s, 1) else if hasB s.made name = true then (if fullB s t.size = true then (s, 8) else ({ s with made := appS s.made name t }, 0))
  else if 8 ≤ s.made.length ∨ fullB s (moreT s name t more).size = true then (s, 8) else ({ s with made := s.made ++ [(name, moreT s name t more)] }, 0)
/-- How many bytes stand ahead of the next c. -/
def cutN (c : UInt8) : List UInt8 → Nat
  | [] => 0
  | x :: l => if x = c then 0 else cutN c l + 1
/-- The next record by a byte: it, the place behind it; nothing at the end. -/
def nextB (c : UInt8) (i : Inp) : Option (ByteArray × Nat) :=
  if i.pos < i.text.size then some (i.text.extract i.pos (i.pos + cutN c (i.text.data.toList.drop i.pos)), min (i.pos + cutN c (i.text.data.toList.drop i.pos) + 1) i.text.size) else none
def stepI (c : UInt8) (i : Inp) : Inp := match nextB c i with | some (_, p) => { i with pos := p } | none => i
def recI (c : UInt8) (i : Inp) : ByteArray := match nextB c i with | some (r, _) => r | none => ⟨#[]⟩
def mainS (c : UInt8) (s : Sst) : Sst := { s with main := stepI c s.main }
def readG (c : UInt8) (name : ByteArray) : List Inp → List Inp × ByteArray × Int
  | [] => ([], ⟨#[]⟩, -1)
  | i :: l => if i.name = name then (stepI c i :: l, recI c i, if (nextB c i).isSome = true then 1 else 0) else (i :: (readG c name l).1, (readG c name l).2)
def readS (c : UInt8) (name : ByteArray) (s : Sst) : Sst := { s with given := (readG c name s.given).1 }

/-- Files in a slice. -/
structure FilesAt (w : World) (p : Option Addr) (n cap : Nat) (l : List (ByteArray × ByteArray)) : Prop where
  len : n = l.length
  room : n ≤ cap
  bound : cap ≤ 9223372036854775807
  nil : p = none → cap = 0
  cells : l = [] ∨ ∃ b off, p = some ⟨b, off, none⟩ ∧ ∀ i f, l[i]? = some f → w.cell? ⟨b, off + i * 2, none⟩ = some (.string f.1) ∧ w.cell? ⟨b, off + i * 2 + 1, none⟩ = some (.string f.2)
theorem FilesAt.keep {w w' : World} {p : Option Addr} {n cap : Nat} {l : List (ByteArray × ByteArray)} (h : FilesAt w p n cap l) (hb : ∀ a, p = some a → a.block < w.heap.size → w'.heap[a.block]? = w.heap[a.block]?) : FilesAt w' p n cap l := by
  refine ⟨h.len, h.room, h.bound, h.nil, ?_⟩
  rcases h.cells with h0 | ⟨b, off, hp, hc⟩
  · exact Or.inl h0
  · refine Or.inr ⟨b, off, hp, fun i f hi => ?_⟩
    obtain ⟨h1, h2⟩ := hc i f hi
    have hblk := hb _ hp (show b < w.heap.size from cell_lt h1)
    have key : ∀ (o : Nat) (v : Value), w.cell? ⟨b, o, none⟩ = some v → w'.cell? ⟨b, o, none⟩ = some v := fun o v hv => by rw [World.cell?_of_block (a := ⟨b, o, none⟩) hblk]; exact hv
    exact ⟨key _ _ h1, key _ _ h2⟩
theorem FilesAt.below {w w' : World} {p : Option Addr} {n cap : Nat} {l : List (ByteArray × ByteArray)} (h : FilesAt w p n cap l) (hb : Below w.heap.size w w') : FilesAt w' p n cap l := h.keep fun a _ hl => hb.block a.block hl

/-- All stands but the blocks of O. -/
structure ButS (O : Nat → Prop) (w w' : World) : Prop where
  os : w'.os = w.os
  tape : w'.tape = w.tape
  output : w'.output = w.output
  size : w.heap.size ≤ w'.heap.size
  block : ∀ k, k < w.heap.size → ¬ O k → w'.heap[k]? = w.heap[k]?
theorem ButS.below {O : Nat → Prop} {B : Nat} {w w' : World} (h : ButS O w w') (hO : ∀ k, O k → B ≤ k) (hB : B ≤ w.heap.size) : Below B w w' := ⟨h.os, h.tape, h.output, h.size, fun k hk => h.block k (by omega) (fun ho => by have := hO k ho; omega)⟩
theorem ButS.of {O : Nat → Prop} {w w' : World} (h : Below w.heap.size w w') : ButS O w w' := ⟨h.os, h.tape, h.output, h.size, fun k hk _ => h.block k hk⟩

abbrev StMem := World → Nat → (Nat → Prop) → Sst → Prop
def givenOf (l : List (ByteArray × ByteArray)) : List Inp := l.map fun f => ⟨f.1, f.2, 0⟩
def pt (b : Nat) : Value := .pointer (some ⟨b, 0, none⟩)
/-- What a call leaves of streams. -/
def Leaves (P : StMem) (w : World) (b : Nat) (O : Nat → Prop) (s : Sst) (w' : World) : Prop := ∃ O', P w' b O' s ∧ (∀ k, O' k → O k ∨ w.heap.size ≤ k) ∧ ButS O w w'
/-- What the program's streams are to do, from a world w0 on. -/
structure StreamsOk (w0 : World) (P : StMem) : Prop where
  lt : ∀ {w b O s}, P w b O s → ∀ k, O k → k < w.heap.size
  keep : ∀ {w w' : World} {b O s}, P w b O s → w.heap.size ≤ w'.heap.size → (∀ k, O k → w'.heap[k]? = w.heap[k]?) → P w' b O s
  new : ∀ (w : World) (main : ByteArray) (p : Option Addr) (n cap : Nat) (l : List (ByteArray × ByteArray)), Below w0.heap.size w0 w → FilesAt w p n cap l → n ≤ 6 → main.size ≤ 1000 → (∀ f ∈ l, f.2.size ≤ 1000) →
    Calls Tryz.prog 5 #[.string main, .slice p n cap] w fun e w' => ∃ b O, e = .returned (pt b) ∧ P w' b O ⟨⟨⟨#[]⟩, main, 0⟩, givenOf l, ⟨#[]⟩, []⟩ ∧ (∀ k, O k → w.heap.size ≤ k) ∧ Below w.heap.size w w'
  write : ∀ (w : World) (b : Nat) (O : Nat → Prop) (s : Sst) (name t : ByteArray) (more : Bool), Below w0.heap.size w0 w → P w b O s → (∀ k, O k → w0.heap.size ≤ k) → t.size ≤ 100000 →
    Calls Tryz.prog 8 #[pt b, .string name, .string t, .bool more] w fun e w' => e = .returned (.int .i64 (writeS s name t more).2) ∧ Leaves P w b O (writeS s name t more).1 w'
  files : ∀ (w : World) (b : Nat) (O : Nat → Prop) (s : Sst), Below w0.heap.size w0 w → P w b O s → (∀ k, O k → w0.heap.size ≤ k) →
    Calls Tryz.prog 10 #[pt b] w fun e w' => ∃ p n cap O', e = .returned (.slice p n cap) ∧ FilesAt w' p n cap s.made ∧ (∀ a, p = some a → w.heap.size ≤ a.block ∧ ¬ O' a.block) ∧ P w' b O' s ∧ (∀ k, O' k → O k ∨ w.heap.size ≤ k) ∧ ButS O w w'
  main : ∀ (w : World) (b : Nat) (O : Nat → Prop) (s : Sst) (c : UInt8), c ≠ 92 → Below w0.heap.size w0 w → P w b O s → (∀ k, O k → w0.heap.size ≤ k) →
    Calls Tryz.prog 6 #[pt b, .string ⟨#[c]⟩] w fun e w' => e = .returned (.tuple #[.string (recI c s.main), .bool (nextB c s.main).isSome, .int .i64 0]) ∧ Leaves P w b O (mainS c s) w'
end Go.Proofs.YtpifpokbkjddjaaGreat
