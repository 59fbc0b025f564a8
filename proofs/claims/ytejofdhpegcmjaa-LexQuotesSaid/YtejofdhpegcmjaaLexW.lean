/- lex.Words: a walk. -/
import Derived.Test.YtejofdhpegcmjaaLexC
namespace Go.Proofs.Ytejofdhpegcmjaa
open Go.RowKit

def opN (K : Int) (S : List UInt8) : Bool := decide (K = 2 ∨ K = 3 ∨ K = 5 ∨ K = 8) || (decide (K = 9) && decide (S ∈ endsOperand))
/-- A token: its kind, its text, its place. -/
abbrev Tp := Int × List UInt8 × Nat
inductive Ws where
  | ok (l : List Tp)
  | bad (a : Nat) (x : Int)
def preW (l : List Tp) : Ws → Ws
  | .ok m => .ok (l ++ m)
  | .bad a x => .bad a x
/-- The tokens from a place on, at most so many more. -/
def wordsN (s : List UInt8) : Nat → Nat → Bool → Ws
  | 0, k, op => match readN (s.drop (k + passA (s.drop k))) op with
    | .bad x => .bad (k + passA (s.drop k)) x
    | .got _ _ _ => .bad (k + passA (s.drop k)) 2
  | r + 1, k, op => match readN (s.drop (k + passA (s.drop k))) op with
    | .bad x => .bad (k + passA (s.drop k)) x
    | .got K S m => if K = 0 then .ok [(K, S, k + passA (s.drop k))] else preW [(K, S, k + passA (s.drop k))] (wordsN s r (k + passA (s.drop k) + m) (opN K S))
def wordsTop (s : List UInt8) : Ws := if 8000 < s.length then .bad 0 2 else wordsN s 3000 0 false

def tokV (x : Tp) : List Value := [.int .i64 x.1, .string ⟨x.2.1.toArray⟩, .int .i64 (x.2.2 : Nat)]
def toksV (l : List Tp) : List Value := l.flatMap tokV
theorem toksV_snoc (l : List Tp) (x : Tp) : toksV (l ++ [x]) = toksV l ++ tokV x := by simp [toksV]
theorem toksV_len (l : List Tp) : (toksV l).length = l.length * 3 := by
  induction l with
  | nil => rfl
  | cons x r ih =>
    show (tokV x ++ toksV r).length = _
    rw [List.length_append, ih]
    simp [tokV]
    omega
theorem text_of {t : ByteArray} {S : List UInt8} (h : t.data.toList = S) : t = ⟨S.toArray⟩ := by
  subst h
  cases t
  rfl

/-- Tokens lie in a row. -/
structure ToksAt (w : World) (g cap : Nat) (l : List Tp) : Prop where
  cell : ∀ j u, (toksV l)[j]? = some u → w.cell? ⟨g, j, none⟩ = some u
  lt : g < w.heap.size
  cap : l.length ≤ cap
theorem ToksAt.after {w w' : World} {g cap : Nat} {l : List Tp} (h : ToksAt w g cap l) (hb : Below w.heap.size w w') : ToksAt w' g cap l :=
  ⟨fun j u hj => by rw [hb.cell (p := ⟨g, j, none⟩) h.lt]; exact h.cell j u hj, Nat.lt_of_lt_of_le h.lt hb.size, h.cap⟩
def OutW (w : World) (o : Ws) (e : Ending) (w' : World) : Prop := Below w.heap.size w w' ∧ match o with
  | .bad a x => e = .returned (.tuple #[.slice none 0 0, .int .i64 a, .int .i64 x])
  | .ok l => ∃ g cap, e = .returned (.tuple #[.slice (some ⟨g, 0, none⟩) l.length cap, .int .i64 0, .int .i64 0]) ∧ ToksAt w' g cap l

theorem info_tok : (Try.prog.info? 30).map (fun i => (i.zero, i.size, i.bytes)) = some (some (.agg #[.int .i64 0, .string ⟨#[]⟩, .int .i64 0]), 3, 32) := by kernel_rfl

/-- Where the reading of tokens stands. -/
structure WsI (V w : World) (v : Value) (l : List Tp) (s : ByteArray) (k : Nat) (L : Tok) : Prop where
  bx : V.heap[w.heap.size]? = some (.cells #[v] 25 (0, 0))
  ax : V.heap[w.heap.size + 1]? = some (.cells #[.int .i64 0] 3 (0, 0))
  ex : V.heap[w.heap.size + 1 + 1]? = some (.cells #[.int .i64 0] 26 (0, 0))
  own : V.ownsRow (w.heap.size + 4) 30 3 v l.length (toksV l)
  rd : Rd V (w.heap.size + 1 + 1 + 1) s k L
  below : Below w.heap.size w V
theorem WsI.lt {V w : World} {v : Value} {l : List Tp} {s : ByteArray} {k : Nat} {L : Tok} (h : WsI V w v l s k L) : w.heap.size + 4 ≤ V.heap.size := h.rd.lt
theorem WsI.row {V w : World} {v : Value} {l : List Tp} {s : ByteArray} {k : Nat} {L : Tok} (h : WsI V w v l s k L) : ∀ g, v.ownBlock = some g → w.heap.size + 4 ≤ g := by
  intro g hg
  rcases h.own.2 with ⟨rfl, _⟩ | ⟨g', cap, cur, rfl, hb, _⟩
  · exact absurd hg (by simp [Value.ownBlock])
  · have : g' = g := by simpa [Value.ownBlock] using hg
    omega
/-- What reads a token keeps the rest. -/
theorem WsI.step {V w V' : World} {v : Value} {l : List Tp} {s : ByteArray} {k k' : Nat} {L L' : Tok} (h : WsI V w v l s k L) (hb : But (w.heap.size + 1 + 1 + 1) V V') (hr : Rd V' (w.heap.size + 1 + 1 + 1) s k' L') : WsI V' w v l s k' L' := by
  have hl := h.lt
  refine ⟨by rw [hb.block _ (by omega) (by omega)]; exact h.bx, by rw [hb.block _ (by omega) (by omega)]; exact h.ax, by rw [hb.block _ (by omega) (by omega)]; exact h.ex, ?_, hr, h.below.trans (hb.below (by omega) (by omega))⟩
  refine h.own.kept (row := some (w.heap.size + 1 + 1 + 1)) ⟨hb.os, hb.tape, hb.output, hb.size, fun k hk hk2 => hb.block k hk (fun e => hk2 (by rw [e]))⟩ (Or.inr fun e => ?_)
  have := h.row _ e
  omega
theorem WsI.keep {V w V' : World} {v : Value} {l : List Tp} {s : ByteArray} {k : Nat} {L : Tok} (h : WsI V w v l s k L) (hb : Below V.heap.size V V') : WsI V' w v l s k L := h.step (.of hb) (h.rd.after hb)
theorem WsI.fresh (w : World) (s : ByteArray) : ∃ W V, W = ((w.alloc (.cells #[.slice none 0 0] 25)).alloc (.cells #[.int .i64 0] 3)).alloc (.cells #[.int .i64 0] 26) ∧
    V = W.alloc (.cells #[.string s, .int .i64 0, .int .i64 0, .string ⟨#[]⟩, .int .i64 0] 49) ∧ Hid (W.heap.size = w.heap.size + 1 + 1 + 1) ∧
    Hid (Below w.heap.size w W ∧ W.cell? ⟨w.heap.size, 0, none⟩ = some (.slice none 0 0) ∧ W.frozen? ⟨w.heap.size, 0, none⟩ = false ∧ W.cell? ⟨w.heap.size + 1, 0, none⟩ = some (.int .i64 0) ∧ W.frozen? ⟨w.heap.size + 1, 0, none⟩ = false ∧ W.cell? ⟨w.heap.size + 1 + 1, 0, none⟩ = some (.int .i64 0) ∧ W.frozen? ⟨w.heap.size + 1 + 1, 0, none⟩ = false) ∧
    Hid (WsI V w (.slice none 0 0) [] s 0 zeroT) := by
  have b1 := below_new w (.cells #[.slice none 0 0] 25)
  have b2 := below_new (w.alloc (.cells #[.slice none 0 0] 25)) (.cells #[.int .i64 0] 3)
  have b3 := below_new ((w.alloc (.cells #[.slice none 0 0] 25)).alloc (.cells #[.int .i64 0] 3)) (.cells #[.int .i64 0] 26)
  have s1 : (w.alloc (.cells #[.slice none 0 0] 25)).heap.size = w.heap.size + 1 := World.size_alloc _ _
  have s2 : ((w.alloc (.cells #[.slice none 0 0] 25)).alloc (.cells #[.int .i64 0] 3)).heap.size = w.heap.size + 1 + 1 := by rw [World.size_alloc, s1]
  have s3 : (((w.alloc (.cells #[.slice none 0 0] 25)).alloc (.cells #[.int .i64 0] 3)).alloc (.cells #[.int .i64 0] 26)).heap.size = w.heap.size + 1 + 1 + 1 := by rw [World.size_alloc, s2]
  have h1 := heap_alloc_last w (.cells #[.slice none 0 0] 25)
  have h2 := heap_alloc_last (w.alloc (.cells #[.slice none 0 0] 25)) (.cells #[.int .i64 0] 3)
  have h3 := heap_alloc_last ((w.alloc (.cells #[.slice none 0 0] 25)).alloc (.cells #[.int .i64 0] 3)) (.cells #[.int .i64 0] 26)
  rw [s1] at h2
  rw [s2] at h3
  have g1 := (b3.block w.heap.size (by omega)).trans ((b2.block w.heap.size (by omega)).trans h1)
  have g2 := (b3.block (w.heap.size + 1) (by omega)).trans h2
  have hB : Below w.heap.size w _ := Below.step (Below.step b1 b2) b3
  refine ⟨_, _, rfl, rfl, Lib.hid s3, Lib.hid ⟨hB, cell_of_row _ _ 0 _ _ (0, 0) g1, frozen_of_row _ _ 0 _ _ g1, cell_of_row _ _ 0 _ _ (0, 0) g2, frozen_of_row _ _ 0 _ _ g2, cell_of_row _ _ 0 _ _ (0, 0) h3, frozen_of_row _ _ 0 _ _ h3⟩, Lib.hid ?_⟩
  have b4 := below_new (((w.alloc (.cells #[.slice none 0 0] 25)).alloc (.cells #[.int .i64 0] 3)).alloc (.cells #[.int .i64 0] 26)) (.cells #[.string s, .int .i64 0, .int .i64 0, .string ⟨#[]⟩, .int .i64 0] 49)
  have h4 := heap_alloc_last (((w.alloc (.cells #[.slice none 0 0] 25)).alloc (.cells #[.int .i64 0] 3)).alloc (.cells #[.int .i64 0] 26)) (.cells #[.string s, .int .i64 0, .int .i64 0, .string ⟨#[]⟩, .int .i64 0] 49)
  rw [s3] at h4
  exact ⟨(b4.block _ (by omega)).trans g1, (b4.block _ (by omega)).trans g2, (b4.block _ (by omega)).trans h3, World.ownsRow_nil _ _ _ _, ⟨h4⟩, Below.step hB b4⟩

set_option maxRecDepth 100000 in
set_option maxHeartbeats 1000000 in
theorem words_long (s : ByteArray) (hz : 8000 < s.size) (hs : s.size ≤ 9223372036854775807) (w : World) :
    Calls Try.prog 14 #[.string s] w fun e w' => e = .returned (.tuple #[.slice none 0 0, .int .i64 0, .int .i64 2]) ∧ Below w.heap.size w w' := by
  have hmf : ∀ (fn : Fn) (first cap : Array Value) (w : World), (Instr.makeFunc fn first cap).run Try.prog w = .ok (.func fn first cap) w := fun _ _ _ _ => rfl
  go_enter_defers Try.func14, Try.ntmps14
  go_wp2_with fail
  obtain ⟨W, V, hW, hV, HS, HW, HI⟩ := WsI.fresh w s
  change bodyPostD _ _ _ _ _ (((w.alloc (Obj.cells #[.slice none 0 0] 25)).alloc (Obj.cells #[.int .i64 0] 3)).alloc (Obj.cells #[.int .i64 0] 26))
  rw [← hW]
  clear hW hV HI V
  refine leaves_cons (f := 25) (args := #[.pointer (some ⟨w.heap.size, 0, none⟩), .pointer (some ⟨w.heap.size + 1, 0, none⟩), .pointer (some ⟨w.heap.size + 1 + 1, 0, none⟩)]) (by simp) (by simp [go_sem]) ?_
  obtain ⟨hB, c0, z0, c1, z1, c2, z2⟩ := HW.out
  refine (catch_fault w.heap.size (w.heap.size + 1) (w.heap.size + 1 + 1) _ 0 2 W c0 z0 c1 z1 c2 z2 (by omega) (by omega) (by omega)).mono ?_
  rintro e u' w'' ⟨rfl, rfl, hC⟩
  have eR := hC.r; have eA := hC.a; have eE := hC.e
  refine ⟨.tuple #[.slice none 0 0, .int .i64 0, .int .i64 2], ?_, ?_⟩
  · simp [results, Try.results14, go_sem, eR, eA, eE]
  · exact ⟨rfl, ⟨hC.os.trans hB.os, hC.tape.trans hB.tape, hC.output.trans hB.output, Nat.le_trans hB.size hC.size, fun k hk => (hC.block k (by have := hB.size; omega) (by omega) (by omega) (by omega)).trans (hB.block k hk)⟩⟩
end Go.Proofs.Ytejofdhpegcmjaa
