/- Merged by program: LexC, LexW, SyA. -/
import Derived.Defers
import Derived.Recover
import Derived.StillTailTactics
import Derived.Test.YtgdlpldngpoadaaGreatDoorSat
import Derived.Test.YtgdlpldngpoadaaGreatDoorSag
import Derived.Test.YtgdlpldngpoadaaGreatDoorSad
/- lex.Words' deferred closure: walks. -/
namespace Go.Proofs.YtgdlpldngpoadaaGreatDoor
open Go.RowKit

theorem addr_ne {b k b' k' : Nat} (h : b ≠ b' ∨ k ≠ k') : (⟨b, k, none⟩ : Addr) ≠ ⟨b', k', none⟩ := by
  intro e
  injection e with e1 e2
  rcases h with h | h
  · exact h e1
  · exact h e2

set_option maxRecDepth 100000 in
theorem catch_idle (a b c : Addr) (w : World) :
    CallsD Tryz.prog 107 #[.pointer (some a), .pointer (some b), .pointer (some c)] .returning w fun e u' w' => e = .returned (.tuple #[]) ∧ u' = .returning ∧ w' = w := by
  refine callsD_of_wpS Tryz.func107 rfl fun c₀ cs hu => ?_
  apply wpS_seq
  apply wpS_region
  simp [wpOpsS, go_sem, recoverD, hu, Tryz.ntmps107, Exit.thenS]
  refine wpS_of_wp ?_
  go_wp2_with fail
  cases c₀
  simp_all [bodyPostS, results, Tryz.results107]

/-- What the closure leaves: the three results. -/
structure Caught (w w' : World) (R A E : Nat) (at_ x : Int) : Prop where
  r : w'.cell? ⟨R, 0, none⟩ = some (.slice none 0 0)
  a : w'.cell? ⟨A, 0, none⟩ = some (.int .i64 at_)
  e : w'.cell? ⟨E, 0, none⟩ = some (.int .i64 x)
  block : ∀ k, k < w.heap.size → k ≠ R → k ≠ A → k ≠ E → w'.heap[k]? = w.heap[k]?
  os : w'.os = w.os
  tape : w'.tape = w.tape
  output : w'.output = w.output
  size : w.heap.size ≤ w'.heap.size

set_option maxRecDepth 100000 in
theorem catch_fault (R A E : Nat) (v : Value) (at_ x : Int) (w : World) (hR : w.cell? ⟨R, 0, none⟩ = some v) (hRz : w.frozen? ⟨R, 0, none⟩ = false) (hA : w.cell? ⟨A, 0, none⟩ = some (.int .i64 0)) (hAz : w.frozen? ⟨A, 0, none⟩ = false) (hE : w.cell? ⟨E, 0, none⟩ = some (.int .i64 0)) (hEz : w.frozen? ⟨E, 0, none⟩ = false) (hRA : R ≠ A) (hRE : R ≠ E) (hAE : A ≠ E) :
    CallsD Tryz.prog 107 #[.pointer (some ⟨R, 0, none⟩), .pointer (some ⟨A, 0, none⟩), .pointer (some ⟨E, 0, none⟩)] (.panicking ({ v := .iface 121 (.agg #[.int .i64 at_, .int .i64 x]), recovered := false } :: [])) w fun e u' w' =>
      e = .returned (.tuple #[]) ∧ u' = .panicking ({ v := .iface 121 (.agg #[.int .i64 at_, .int .i64 x]), recovered := true } :: []) ∧
        Caught w w' R A E at_ x := by
  have hta : ∀ w, (Instr.typeAssert (.iface 121 (.agg #[.int .i64 at_, .int .i64 x])) 20 121 false).run Tryz.prog w = .ok (.agg #[.int .i64 at_, .int .i64 x]) w := fun _ => by kernel_rfl
  refine callsD_of_wpS Tryz.func107 rfl fun c₀ cs hu => ?_
  apply wpS_seq
  apply wpS_region
  simp [wpOpsS, go_sem, recoverD, hu, Tryz.ntmps107, Exit.thenS, Array.replicate, List.replicate]
  refine wpS_of_wp ?_
  go_wp2_with fail
  have hRl := cell_lt hR
  have hAl := cell_lt hA
  have hEl := cell_lt hE
  simp only at hRl hAl hEl
  have nR : ¬ w.heap.size = R := by omega
  have nA : ¬ w.heap.size = A := by omega
  have nE : ¬ w.heap.size = E := by omega
  have nRA : ¬ R = A := hRA
  have nRE : ¬ R = E := hRE
  have nAE : ¬ A = E := hAE
  have hbV := below_new w (.cells #[.int .i64 at_, .int .i64 x] 121)
  obtain ⟨V, hV, dR, dA, dE, zR, zA, zE, d0, d1, BV⟩ : ∃ V, V = w.alloc (.cells #[.int .i64 at_, .int .i64 x] 121) ∧ V.cell? ⟨R, 0, none⟩ = some v ∧ V.cell? ⟨A, 0, none⟩ = some (.int .i64 0) ∧ V.cell? ⟨E, 0, none⟩ = some (.int .i64 0) ∧ V.frozen? ⟨R, 0, none⟩ = false ∧ V.frozen? ⟨A, 0, none⟩ = false ∧ V.frozen? ⟨E, 0, none⟩ = false ∧ V.cell? ⟨w.heap.size, 0, none⟩ = some (.int .i64 at_) ∧ V.cell? ⟨w.heap.size, 1, none⟩ = some (.int .i64 x) ∧ Hid (Below w.heap.size w V) :=
    ⟨_, rfl, by rw [hbV.cell (p := ⟨R, 0, none⟩) hRl]; exact hR, by rw [hbV.cell (p := ⟨A, 0, none⟩) hAl]; exact hA, by rw [hbV.cell (p := ⟨E, 0, none⟩) hEl]; exact hE, by rw [hbV.frozen (p := ⟨R, 0, none⟩) hRl]; exact hRz, by rw [hbV.frozen (p := ⟨A, 0, none⟩) hAl]; exact hAz, by rw [hbV.frozen (p := ⟨E, 0, none⟩) hEl]; exact hEz, cell_of_row _ _ 0 _ _ (0, 0) (heap_alloc_last w _), cell_of_row _ _ 1 _ _ (0, 0) (heap_alloc_last w _), Lib.hid hbV⟩
  rw [← hV]
  clear hV hbV hA hE hR hAz hEz hRz hRl hAl hEl hRA hRE hAE hta
  go_region
  clear d0 d1 zA zE zR
  have eR : (((V.setCell ⟨R, 0, none⟩ (.slice none 0 0)).setCell ⟨A, 0, none⟩ (.int .i64 at_)).setCell ⟨E, 0, none⟩ (.int .i64 x)).cell? ⟨R, 0, none⟩ = some (.slice none 0 0) := by
    rw [cell_other (addr_ne (Or.inl (Ne.symm nRE))), cell_other (addr_ne (Or.inl (Ne.symm nRA)))]; exact cell_same dR
  have eA : (((V.setCell ⟨R, 0, none⟩ (.slice none 0 0)).setCell ⟨A, 0, none⟩ (.int .i64 at_)).setCell ⟨E, 0, none⟩ (.int .i64 x)).cell? ⟨A, 0, none⟩ = some (.int .i64 at_) := by
    rw [cell_other (addr_ne (Or.inl (Ne.symm nAE)))]; exact cell_same (by rw [cell_other (addr_ne (Or.inl nRA))]; exact dA)
  have eE : (((V.setCell ⟨R, 0, none⟩ (.slice none 0 0)).setCell ⟨A, 0, none⟩ (.int .i64 at_)).setCell ⟨E, 0, none⟩ (.int .i64 x)).cell? ⟨E, 0, none⟩ = some (.int .i64 x) :=
    cell_same (by rw [cell_other (addr_ne (Or.inl nAE)), cell_other (addr_ne (Or.inl nRE))]; exact dE)
  have HC : Hid (Caught w (((V.setCell ⟨R, 0, none⟩ (.slice none 0 0)).setCell ⟨A, 0, none⟩ (.int .i64 at_)).setCell ⟨E, 0, none⟩ (.int .i64 x)).drew R A E at_ x) := Lib.hid
    ⟨eR, eA, eE, fun k hk h1 h2 h3 => by
      show (((V.setCell ⟨R, 0, none⟩ (.slice none 0 0)).setCell ⟨A, 0, none⟩ (.int .i64 at_)).setCell ⟨E, 0, none⟩ (.int .i64 x)).heap[k]? = _
      rw [heap_setCell_other _ _ _ _ (by show k ≠ E; exact h3), heap_setCell_other _ _ _ _ (by show k ≠ A; exact h2), heap_setCell_other _ _ _ _ (by show k ≠ R; exact h1)]
      exact BV.out.block k hk, BV.out.os, BV.out.tape, BV.out.output, by
      show _ ≤ (((V.setCell ⟨R, 0, none⟩ (.slice none 0 0)).setCell ⟨A, 0, none⟩ (.int .i64 at_)).setCell ⟨E, 0, none⟩ (.int .i64 x)).heap.size
      rw [World.size_setCell, World.size_setCell, World.size_setCell]; exact BV.out.size⟩
  clear eR eA eE dR dA dE
  obtain ⟨Z, hZ⟩ : ∃ Z, Z = (((V.setCell ⟨R, 0, none⟩ (.slice none 0 0)).setCell ⟨A, 0, none⟩ (.int .i64 at_)).setCell ⟨E, 0, none⟩ (.int .i64 x)).drew := ⟨_, rfl⟩
  rw [← hZ] at HC ⊢
  clear hZ
  go_wp2_with fail
  simp [bodyPostS, results, Tryz.results107]
  exact HC.out
end Go.Proofs.YtgdlpldngpoadaaGreatDoor

/- lex.Words: a walk. -/
namespace Go.Proofs.YtgdlpldngpoadaaGreatDoor
open Go.RowKit

def opN (K : Int) (S : List UInt8) : Bool := decide (K = 2 ∨ K = 3 ∨ K = 5 ∨ K = 8) || (decide (K = 9) && decide (S ∈ endsOperand))
/-- A token: its kind, its text, its place. -/
abbrev Tp := Int × List UInt8 × Nat
inductive Ws where
  | ok (l : List Tp)
  | bad (a : Nat) (x : Int)
def preW (l : List Tp) : Ws → Ws
  | .ok m => .ok (l ++ m)
  | .bad a x => .bad a x
/-- The tokens from a place on, at most so many more. -/
def wordsN (s : List UInt8) : Nat → Nat → Bool → Ws
  | 0, k, op => match readN (s.drop (k + passA (s.drop k))) op with
    | .bad x => .bad (k + passA (s.drop k)) x
    | .got _ _ _ => .bad (k + passA (s.drop k)) 2
  | r + 1, k, op => match readN (s.drop (k + passA (s.drop k))) op with
    | .bad x => .bad (k + passA (s.drop k)) x
    | .got K S m => if K = 0 then .ok [(K, S, k + passA (s.drop k))] else preW [(K, S, k + passA (s.drop k))] (wordsN s r (k + passA (s.drop k) + m) (opN K S))
def wordsTop (s : List UInt8) : Ws := if 8000 < s.length then .bad 0 2 else wordsN s 3000 0 false

def tokV (x : Tp) : List Value := [.int .i64 x.1, .string ⟨x.2.1.toArray⟩, .int .i64 (x.2.2 : Nat)]
def toksV (l : List Tp) : List Value := l.flatMap tokV
theorem toksV_snoc (l : List Tp) (x : Tp) : toksV (l ++ [x]) = toksV l ++ tokV x := by simp [toksV]
theorem toksV_len (l : List Tp) : (toksV l).length = l.length * 3 := by
  induction l with
  | nil => rfl
  | cons x r ih =>
    show (tokV x ++ toksV r).length = _
    rw [List.length_append, ih]
    simp [tokV]
    omega
theorem text_of {t : ByteArray} {S : List UInt8} (h : t.data.toList = S) : t = ⟨S.toArray⟩ := by
  subst h
  cases t
  rfl

/-- Tokens lie in a row. -/
structure ToksAt (w : World) (g cap : Nat) (l : List Tp) : Prop where
  cell : ∀ j u, (toksV l)[j]? = some u → w.cell? ⟨g, j, none⟩ = some u
  lt : g < w.heap.size
  cap : l.length ≤ cap
theorem ToksAt.after {w w' : World} {g cap : Nat} {l : List Tp} (h : ToksAt w g cap l) (hb : Below w.heap.size w w') : ToksAt w' g cap l :=
  ⟨fun j u hj => by rw [hb.cell (p := ⟨g, j, none⟩) h.lt]; exact h.cell j u hj, Nat.lt_of_lt_of_le h.lt hb.size, h.cap⟩
def OutW (w : World) (o : Ws) (e : Ending) (w' : World) : Prop := Below w.heap.size w w' ∧ match o with
  | .bad a x => e = .returned (.tuple #[.slice none 0 0, .int .i64 a, .int .i64 x])
  | .ok l => ∃ g cap, e = .returned (.tuple #[.slice (some ⟨g, 0, none⟩) l.length cap, .int .i64 0, .int .i64 0]) ∧ ToksAt w' g cap l

theorem info_tok : (Tryz.prog.info? 68).map (fun i => (i.zero, i.size, i.bytes)) = some (some (.agg #[.int .i64 0, .string ⟨#[]⟩, .int .i64 0]), 3, 32) := by kernel_rfl

/-- Where the reading of tokens stands. -/
structure WsI (V w : World) (v : Value) (l : List Tp) (s : ByteArray) (k : Nat) (L : Tok) : Prop where
  bx : V.heap[w.heap.size]? = some (.cells #[v] 46 (0, 0))
  ax : V.heap[w.heap.size + 1]? = some (.cells #[.int .i64 0] 3 (0, 0))
  ex : V.heap[w.heap.size + 1 + 1]? = some (.cells #[.int .i64 0] 28 (0, 0))
  own : V.ownsRow (w.heap.size + 4) 68 3 v l.length (toksV l)
  rd : Rd V (w.heap.size + 1 + 1 + 1) s k L
  below : Below w.heap.size w V
theorem WsI.lt {V w : World} {v : Value} {l : List Tp} {s : ByteArray} {k : Nat} {L : Tok} (h : WsI V w v l s k L) : w.heap.size + 4 ≤ V.heap.size := h.rd.lt
theorem WsI.row {V w : World} {v : Value} {l : List Tp} {s : ByteArray} {k : Nat} {L : Tok} (h : WsI V w v l s k L) : ∀ g, v.ownBlock = some g → w.heap.size + 4 ≤ g := by
  intro g hg
  rcases h.own.2 with ⟨rfl, _⟩ | ⟨g', cap, cur, rfl, hb, _⟩
  · exact absurd hg (by simp [Value.ownBlock])
  · have : g' = g := by simpa [Value.ownBlock] using hg
    omega
/-- What reads a token keeps the rest. -/
theorem WsI.step {V w V' : World} {v : Value} {l : List Tp} {s : ByteArray} {k k' : Nat} {L L' : Tok} (h : WsI V w v l s k L) (hb : But (w.heap.size + 1 + 1 + 1) V V') (hr : Rd V' (w.heap.size + 1 + 1 + 1) s k' L') : WsI V' w v l s k' L' := by
  have hl := h.lt
  refine ⟨by rw [hb.block _ (by omega) (by omega)]; exact h.bx, by rw [hb.block _ (by omega) (by omega)]; exact h.ax, by rw [hb.block _ (by omega) (by omega)]; exact h.ex, ?_, hr, h.below.trans (hb.below (by omega) (by omega))⟩
  refine h.own.kept (row := some (w.heap.size + 1 + 1 + 1)) ⟨hb.os, hb.tape, hb.output, hb.size, fun k hk hk2 => hb.block k hk (fun e => hk2 (by rw [e]))⟩ (Or.inr fun e => ?_)
  have := h.row _ e
  omega
theorem WsI.keep {V w V' : World} {v : Value} {l : List Tp} {s : ByteArray} {k : Nat} {L : Tok} (h : WsI V w v l s k L) (hb : Below V.heap.size V V') : WsI V' w v l s k L := h.step (.of hb) (h.rd.after hb)
theorem WsI.fresh (w : World) (s : ByteArray) : ∃ W V, W = ((w.alloc (.cells #[.slice none 0 0] 46)).alloc (.cells #[.int .i64 0] 3)).alloc (.cells #[.int .i64 0] 28) ∧
    V = W.alloc (.cells #[.string s, .int .i64 0, .int .i64 0, .string ⟨#[]⟩, .int .i64 0] 124) ∧ Hid (W.heap.size = w.heap.size + 1 + 1 + 1) ∧
    Hid (Below w.heap.size w W ∧ W.cell? ⟨w.heap.size, 0, none⟩ = some (.slice none 0 0) ∧ W.frozen? ⟨w.heap.size, 0, none⟩ = false ∧ W.cell? ⟨w.heap.size + 1, 0, none⟩ = some (.int .i64 0) ∧ W.frozen? ⟨w.heap.size + 1, 0, none⟩ = false ∧ W.cell? ⟨w.heap.size + 1 + 1, 0, none⟩ = some (.int .i64 0) ∧ W.frozen? ⟨w.heap.size + 1 + 1, 0, none⟩ = false) ∧
    Hid (WsI V w (.slice none 0 0) [] s 0 zeroT) := by
  have b1 := below_new w (.cells #[.slice none 0 0] 46)
  have b2 := below_new (w.alloc (.cells #[.slice none 0 0] 46)) (.cells #[.int .i64 0] 3)
  have b3 := below_new ((w.alloc (.cells #[.slice none 0 0] 46)).alloc (.cells #[.int .i64 0] 3)) (.cells #[.int .i64 0] 28)
  have s1 : (w.alloc (.cells #[.slice none 0 0] 46)).heap.size = w.heap.size + 1 := World.size_alloc _ _
  have s2 : ((w.alloc (.cells #[.slice none 0 0] 46)).alloc (.cells #[.int .i64 0] 3)).heap.size = w.heap.size + 1 + 1 := by rw [World.size_alloc, s1]
  have s3 : (((w.alloc (.cells #[.slice none 0 0] 46)).alloc (.cells #[.int .i64 0] 3)).alloc (.cells #[.int .i64 0] 28)).heap.size = w.heap.size + 1 + 1 + 1 := by rw [World.size_alloc, s2]
  have h1 := heap_alloc_last w (.cells #[.slice none 0 0] 46)
  have h2 := heap_alloc_last (w.alloc (.cells #[.slice none 0 0] 46)) (.cells #[.int .i64 0] 3)
  have h3 := heap_alloc_last ((w.alloc (.cells #[.slice none 0 0] 46)).alloc (.cells #[.int .i64 0] 3)) (.cells #[.int .i64 0] 28)
  rw [s1] at h2
  rw [s2] at h3
  have g1 := (b3.block w.heap.size (by omega)).trans ((b2.block w.heap.size (by omega)).trans h1)
  have g2 := (b3.block (w.heap.size + 1) (by omega)).trans h2
  have hB : Below w.heap.size w _ := Below.step (Below.step b1 b2) b3
  refine ⟨_, _, rfl, rfl, Lib.hid s3, Lib.hid ⟨hB, cell_of_row _ _ 0 _ _ (0, 0) g1, frozen_of_row _ _ 0 _ _ g1, cell_of_row _ _ 0 _ _ (0, 0) g2, frozen_of_row _ _ 0 _ _ g2, cell_of_row _ _ 0 _ _ (0, 0) h3, frozen_of_row _ _ 0 _ _ h3⟩, Lib.hid ?_⟩
  have b4 := below_new (((w.alloc (.cells #[.slice none 0 0] 46)).alloc (.cells #[.int .i64 0] 3)).alloc (.cells #[.int .i64 0] 28)) (.cells #[.string s, .int .i64 0, .int .i64 0, .string ⟨#[]⟩, .int .i64 0] 124)
  have h4 := heap_alloc_last (((w.alloc (.cells #[.slice none 0 0] 46)).alloc (.cells #[.int .i64 0] 3)).alloc (.cells #[.int .i64 0] 28)) (.cells #[.string s, .int .i64 0, .int .i64 0, .string ⟨#[]⟩, .int .i64 0] 124)
  rw [s3] at h4
  exact ⟨(b4.block _ (by omega)).trans g1, (b4.block _ (by omega)).trans g2, (b4.block _ (by omega)).trans h3, World.ownsRow_nil _ _ _ _, ⟨h4⟩, Below.step hB b4⟩

set_option maxRecDepth 100000 in
set_option maxHeartbeats 1000000 in
theorem words_long (s : ByteArray) (hz : 8000 < s.size) (hs : s.size ≤ 9223372036854775807) (w : World) :
    Calls Tryz.prog 74 #[.string s] w fun e w' => e = .returned (.tuple #[.slice none 0 0, .int .i64 0, .int .i64 2]) ∧ Below w.heap.size w w' := by
  have hmf : ∀ (fn : Fn) (first cap : Array Value) (w : World), (Instr.makeFunc fn first cap).run Tryz.prog w = .ok (.func fn first cap) w := fun _ _ _ _ => rfl
  go_enter_defers Tryz.func74, Tryz.ntmps74
  go_wp2_with fail
  obtain ⟨W, V, hW, hV, HS, HW, HI⟩ := WsI.fresh w s
  change bodyPostD _ _ _ _ _ (((w.alloc (Obj.cells #[.slice none 0 0] 46)).alloc (Obj.cells #[.int .i64 0] 3)).alloc (Obj.cells #[.int .i64 0] 28))
  rw [← hW]
  clear hW hV HI V
  refine leaves_cons (f := 107) (args := #[.pointer (some ⟨w.heap.size, 0, none⟩), .pointer (some ⟨w.heap.size + 1, 0, none⟩), .pointer (some ⟨w.heap.size + 1 + 1, 0, none⟩)]) (by simp) (by simp [go_sem]) ?_
  obtain ⟨hB, c0, z0, c1, z1, c2, z2⟩ := HW.out
  refine (catch_fault w.heap.size (w.heap.size + 1) (w.heap.size + 1 + 1) _ 0 2 W c0 z0 c1 z1 c2 z2 (by omega) (by omega) (by omega)).mono ?_
  rintro e u' w'' ⟨rfl, rfl, hC⟩
  have eR := hC.r; have eA := hC.a; have eE := hC.e
  refine ⟨.tuple #[.slice none 0 0, .int .i64 0, .int .i64 2], ?_, ?_⟩
  · simp [results, Tryz.results74, go_sem, eR, eA, eE]
  · exact ⟨rfl, ⟨hC.os.trans hB.os, hC.tape.trans hB.tape, hC.output.trans hB.output, Nat.le_trans hB.size hC.size, fun k hk => (hC.block k (by have := hB.size; omega) (by omega) (by omega) (by omega)).trans (hB.block k hk)⟩⟩
end Go.Proofs.YtgdlpldngpoadaaGreatDoor

/- syntax.reader in memory; here, take, is, isSignAt, isSign, isWord, need, sign, name, node, lines, end, begin: walks, where nothing is wrong. -/
namespace Go.Proofs.YtgdlpldngpoadaaGreatDoor
open Go.RowKit

/-- Where a reader's blocks lie, and the capacities of its slices. -/
structure Bk where
  p : Nat
  g : Nat
  gc : Nat
  gm : Nat
  c : Nat
  cc : Nat
  cm : Nat
/-- What is read: the tokens, where brackets are closed, and which have a comma. -/
structure Tx where
  L : List Tp
  C : List Nat
  M : List Bool

def qsC (B : Bk) (X : Tx) (k : Nat) (d : Int) : Array Value := #[.slice (some ⟨B.g, 0, none⟩) X.L.length B.c, .slice (some ⟨B.gc, 0, none⟩) X.L.length B.cc, .slice (some ⟨B.gm, 0, none⟩) X.L.length B.cm, .int .i64 k, .int .i64 d, .bool false]
/-- The reader's block: the token at k comes, what is read is d deep, and > compares. -/
structure QS (w : World) (B : Bk) (X : Tx) (k : Nat) (d : Int) : Prop where
  row : w.heap[B.p]? = some (.cells (qsC B X k d) 127 (0, 0))
  toks : ToksAt w B.g B.c X.L
  clo : ∀ i (h : i < X.C.length), w.cell? ⟨B.gc, i, none⟩ = some (.int .i64 (X.C[i] : Nat))
  com : ∀ i (h : i < X.M.length), w.cell? ⟨B.gm, i, none⟩ = some (.bool X.M[i])
  clt : B.gc < w.heap.size
  mlt : B.gm < w.heap.size
  lens : X.C.length = X.L.length ∧ X.M.length = X.L.length
  lt : k < X.L.length
  few : X.L.length ≤ 3001
  ne : B.p ≠ B.g ∧ B.p ≠ B.gc ∧ B.p ≠ B.gm
theorem QS.plt {w : World} {B : Bk} {X : Tx} {k : Nat} {d : Int} (h : QS w B X k d) : B.p < w.heap.size := (Array.getElem?_eq_some_iff.1 h.row).1
theorem QS.moved {w w' : World} {B : Bk} {X : Tx} {k k' : Nat} {d d' : Int} (h : QS w B X k d) (hb : Bt B.p w w') (hr : w'.heap[B.p]? = some (.cells (qsC B X k' d') 127 (0, 0))) (hk : k' < X.L.length) : QS w' B X k' d' := by
  have eg := hb.block B.g h.toks.lt (Ne.symm h.ne.1)
  have ec := hb.block B.gc h.clt (Ne.symm h.ne.2.1)
  have em := hb.block B.gm h.mlt (Ne.symm h.ne.2.2)
  exact ⟨hr, ⟨fun j u hj => by rw [World.cell?_of_block (a := ⟨B.g, j, none⟩) eg]; exact h.toks.cell j u hj, Nat.lt_of_lt_of_le h.toks.lt hb.size, h.toks.cap⟩,
    fun i hi => by rw [World.cell?_of_block (a := ⟨B.gc, i, none⟩) ec]; exact h.clo i hi, fun i hi => by rw [World.cell?_of_block (a := ⟨B.gm, i, none⟩) em]; exact h.com i hi,
    Nat.lt_of_lt_of_le h.clt hb.size, Nat.lt_of_lt_of_le h.mlt hb.size, h.lens, hk, h.few, h.ne⟩
theorem QS.after {w w' : World} {B : Bk} {X : Tx} {k : Nat} {d : Int} (h : QS w B X k d) (hb : Below w.heap.size w w') : QS w' B X k d :=
  h.moved (.of hb) (by rw [hb.block B.p h.plt]; exact h.row) h.lt
/-- All stands but a block that is not the reader's. -/
theorem QS.other {w w' : World} {B : Bk} {X : Tx} {k : Nat} {d : Int} (h : QS w B X k d) {b : Nat} (hb : Bt b w w') (h1 : b ≠ B.p) (h2 : b ≠ B.g) (h3 : b ≠ B.gc) (h4 : b ≠ B.gm) : QS w' B X k d := by
  have eg := hb.block B.g h.toks.lt (Ne.symm h2)
  have ec := hb.block B.gc h.clt (Ne.symm h3)
  have em := hb.block B.gm h.mlt (Ne.symm h4)
  exact ⟨by rw [hb.block B.p h.plt (Ne.symm h1)]; exact h.row, ⟨fun j u hj => by rw [World.cell?_of_block (a := ⟨B.g, j, none⟩) eg]; exact h.toks.cell j u hj, Nat.lt_of_lt_of_le h.toks.lt hb.size, h.toks.cap⟩,
    fun i hi => by rw [World.cell?_of_block (a := ⟨B.gc, i, none⟩) ec]; exact h.clo i hi, fun i hi => by rw [World.cell?_of_block (a := ⟨B.gm, i, none⟩) em]; exact h.com i hi,
    Nat.lt_of_lt_of_le h.clt hb.size, Nat.lt_of_lt_of_le h.mlt hb.size, h.lens, h.lt, h.few, h.ne⟩
theorem QS.c0 {w : World} {B : Bk} {X : Tx} {k : Nat} {d : Int} (h : QS w B X k d) : w.cell? ⟨B.p, 0, none⟩ = some (.slice (some ⟨B.g, 0, none⟩) X.L.length B.c) := cell_of_row _ _ 0 _ _ _ h.row
theorem QS.c1 {w : World} {B : Bk} {X : Tx} {k : Nat} {d : Int} (h : QS w B X k d) : w.cell? ⟨B.p, 1, none⟩ = some (.slice (some ⟨B.gc, 0, none⟩) X.L.length B.cc) := cell_of_row _ _ 1 _ _ _ h.row
theorem QS.c2 {w : World} {B : Bk} {X : Tx} {k : Nat} {d : Int} (h : QS w B X k d) : w.cell? ⟨B.p, 2, none⟩ = some (.slice (some ⟨B.gm, 0, none⟩) X.L.length B.cm) := cell_of_row _ _ 2 _ _ _ h.row
theorem QS.c3 {w : World} {B : Bk} {X : Tx} {k : Nat} {d : Int} (h : QS w B X k d) : w.cell? ⟨B.p, 3, none⟩ = some (.int .i64 k) := cell_of_row _ _ 3 _ _ _ h.row
theorem QS.c4 {w : World} {B : Bk} {X : Tx} {k : Nat} {d : Int} (h : QS w B X k d) : w.cell? ⟨B.p, 4, none⟩ = some (.int .i64 d) := cell_of_row _ _ 4 _ _ _ h.row
theorem QS.c5 {w : World} {B : Bk} {X : Tx} {k : Nat} {d : Int} (h : QS w B X k d) : w.cell? ⟨B.p, 5, none⟩ = some (.bool false) := cell_of_row _ _ 5 _ _ _ h.row
theorem QS.z {w : World} {B : Bk} {X : Tx} {k : Nat} {d : Int} (h : QS w B X k d) (j : Nat) : w.frozen? ⟨B.p, j, none⟩ = false := frozen_of_row _ _ j _ _ h.row
theorem toksV_get (l : List Tp) (i : Nat) (T : Tp) (hT : l[i]? = some T) (r : Nat) (hr : r < 3) : (toksV l)[i * 3 + r]? = (tokV T)[r]? := by
  induction l generalizing i with
  | nil => simp at hT
  | cons x m ih =>
    show (tokV x ++ toksV m)[i * 3 + r]? = _
    have hl : (tokV x).length = 3 := rfl
    match i, hT with
    | 0, hT =>
      rw [List.getElem?_append_left (by omega)]
      simp at hT
      rw [hT, Nat.zero_mul, Nat.zero_add]
    | i + 1, hT =>
      rw [List.getElem?_append_right (by omega), hl, show (i + 1) * 3 + r - 3 = i * 3 + r by omega]
      exact ih i (by simpa using hT)
theorem QS.t {w : World} {B : Bk} {X : Tx} {k : Nat} {d : Int} (h : QS w B X k d) {i : Nat} {T : Tp} (hT : X.L[i]? = some T) :
    w.cell? ⟨B.g, i * 3, none⟩ = some (.int .i64 T.1) ∧ w.cell? ⟨B.g, i * 3 + 1, none⟩ = some (.string ⟨T.2.1.toArray⟩) ∧ w.cell? ⟨B.g, i * 3 + 2, none⟩ = some (.int .i64 (T.2.2 : Nat)) :=
  ⟨h.toks.cell (i * 3) _ (toksV_get _ i T hT 0 (by omega)), h.toks.cell (i * 3 + 1) _ (toksV_get _ i T hT 1 (by omega)), h.toks.cell (i * 3 + 2) _ (toksV_get _ i T hT 2 (by omega))⟩
theorem bt_set (w : World) (p j : Nat) (v : Value) : Bt p w (w.setCell ⟨p, j, none⟩ v) :=
  ⟨rfl, rfl, rfl, by rw [World.size_setCell]; exact Nat.le_refl _, fun i _ hi => heap_setCell_other _ _ _ _ hi⟩
theorem QS.on {w : World} {B : Bk} {X : Tx} {k : Nat} {d : Int} (h : QS w B X k d) (hk : k + 1 < X.L.length) : QS (w.setCell ⟨B.p, 3, none⟩ (.int .i64 (k + 1 : Nat))) B X (k + 1) d :=
  h.moved (bt_set _ _ _ _) (by rw [heap_setCell_same _ _ 3 _ _ _ h.row]; rfl) hk
theorem QS.to {w : World} {B : Bk} {X : Tx} {k : Nat} {d : Int} (h : QS w B X k d) (e : Int) : QS (w.setCell ⟨B.p, 4, none⟩ (.int .i64 e)) B X k e :=
  h.moved (bt_set _ _ _ _) (by rw [heap_setCell_same _ _ 4 _ _ _ h.row]; rfl) h.lt
theorem QS.same {w : World} {B : Bk} {X : Tx} {k : Nat} {d : Int} (h : QS w B X k d) : QS (w.setCell ⟨B.p, 5, none⟩ (.bool false)) B X k d :=
  h.moved (bt_set _ _ _ _) (by rw [heap_setCell_same _ _ 5 _ _ _ h.row]; rfl) h.lt

def tkA (T : Tp) : Array Value := #[.int .i64 T.1, .string ⟨T.2.1.toArray⟩, .int .i64 (T.2.2 : Nat)]
def zTk : Array Value := #[.int .i64 0, .string ⟨#[]⟩, .int .i64 0]
theorem info_tk : (Tryz.prog.info? 68).map (·.size) = some 3 := by kernel_rfl
theorem tka_one (T : Tp) : (tkA T).all (·.oneCell') = true := by
  simp [tkA]
  exact ⟨rfl, rfl, rfl⟩
set_option maxRecDepth 100000 in
theorem qhere (w : World) (B : Bk) (X : Tx) (k : Nat) (d : Int) (h : QS w B X k d) (T : Tp) (hT : X.L[k]? = some T) :
    Calls Tryz.prog 120 #[.pointer (some ⟨B.p, 0, none⟩)] w fun e w' => e = .returned (.agg (tkA T)) ∧ Below w.heap.size w w' := by
  have HI := info_tk
  obtain ⟨W, hW, HR, HB⟩ : ∃ W, W = w.alloc (.cells zTk 68) ∧ Hid (W.heap[w.heap.size]? = some (.cells zTk 68 (0, 0))) ∧ Hid (Below w.heap.size w W) := ⟨_, rfl, Lib.hid (heap_alloc_last w _), Lib.hid (below_new w _)⟩
  have H := Lib.hid (h.after HB.out)
  have c0 := H.out.c0; have c3 := H.out.c3
  obtain ⟨t0, t1, t2⟩ := H.out.t hT
  have hk := h.lt
  have hf := h.few
  clear h hT
  go_enter Tryz.func120, Tryz.ntmps120
  go_upto_region 1 with (fail)
  change Code.wp _ _ _ _ (w.alloc (.cells zTk 68))
  rw [← hW]
  clear hW
  go_still_tail 10, (by kernel_rfl)
  have HRd : W.drew.heap[w.heap.size]? = some (.cells zTk 68 (0, 0)) := HR.out
  refine wpList_store_row rfl 68 (.tmp 2) (.tmp 12) rfl w.heap.size (tkA T) rfl rfl 68 zTk HRd HI rfl (tka_one _) ?_
  go_wp2_with fail
  refine bodyPost_ret (v := .agg (tkA T)) (results_cell_row (by rfl) _ _ w.heap.size 68 _ (0, 0) _ (by rfl) (setRow_heap _ _ _ _ _ _ HRd) Tryz.underlying68 (by rfl) HI) rfl ?_
  exact ⟨rfl, below_setRow HB.out.drew (Nat.le_refl _) _⟩

theorem qfield0 (T : Tp) : ∀ w : World, (Instr.field 68 (.agg (tkA T)) 0).run Tryz.prog w = .ok (.int .i64 T.1) w := fun _ => by kernel_rfl
theorem qfield1 (T : Tp) : ∀ w : World, (Instr.field 68 (.agg (tkA T)) 1).run Tryz.prog w = .ok (.string ⟨T.2.1.toArray⟩) w := fun _ => by kernel_rfl
theorem qfield2 (T : Tp) : ∀ w : World, (Instr.field 68 (.agg (tkA T)) 2).run Tryz.prog w = .ok (.int .i64 (T.2.2 : Nat)) w := fun _ => by kernel_rfl

set_option maxRecDepth 100000 in
theorem qis (w : World) (B : Bk) (X : Tx) (k : Nat) (d : Int) (h : QS w B X k d) (T : Tp) (hT : X.L[k]? = some T) (q : Int) :
    Calls Tryz.prog 84 #[.pointer (some ⟨B.p, 0, none⟩), .int .i64 q] w fun e w' => e = .returned (.bool (T.1 == q)) ∧ Below w.heap.size w w' := by
  have HH := Lib.hid (qhere w B X k d h T hT)
  have f0 := qfield0 T
  clear h hT
  go_enter Tryz.func84, Tryz.ntmps84
  go_wp2_with fail
  refine HH.out.mono ?_
  rintro e w1 ⟨rfl, b1⟩
  have B1 := Lib.hid b1
  clear b1
  go_wp2_with fail
  go_ret
  exact ⟨rfl, B1.out⟩

/-- Whether a token is one of some signs. -/
def sgB (zs : List ByteArray) (T : Tp) : Bool := (T.1 == 9) && Lib.containsS zs ⟨T.2.1.toArray⟩
set_option maxRecDepth 100000 in
theorem qsignAt (w : World) (B : Bk) (X : Tx) (k : Nat) (d : Int) (h : QS w B X k d) (i : Nat) (T : Tp) (hT : X.L[i]? = some T) (zs : List ByteArray) (n cap b : Nat) (hn : zs.length = n) (hM : n ≤ 1000) (hc : ∀ j, j < zs.length → w.cell? ⟨b, 0 + j, none⟩ = some (.string (zs.getD j ByteArray.empty))) :
    Calls Tryz.prog 109 #[.pointer (some ⟨B.p, 0, none⟩), .int .i64 i, .slice (some ⟨b, 0, none⟩) n cap] w fun e w' => e = .returned (.bool (sgB zs T)) ∧ Below w.heap.size w w' := by
  have HC := Lib.hid (Tryz.slices_Contains_string b 0 n cap zs ⟨T.2.1.toArray⟩ w (by omega) (by omega) hc)
  have htk : zs.take n = zs := by rw [← hn]; exact List.take_length
  rw [htk] at HC
  have c0 := h.c0
  obtain ⟨t0, t1, t2⟩ := h.t hT
  have hi : i < X.L.length := (List.getElem?_eq_some_iff.1 hT).1
  have hf := h.few
  clear h hT hc htk hn
  by_cases h9 : T.1 = 9
  · have hb : (T.1 == 9) = true := by rw [h9]; rfl
    have HR : Hid (sgB zs T = Lib.containsS zs ⟨T.2.1.toArray⟩) := Lib.hid (by unfold sgB; rw [hb]; rfl)
    rw [HR.out]
    clear h9
    go_enter Tryz.func109, Tryz.ntmps109
    go_wp2_with fail
    refine HC.out.mono ?_
    rintro e w1 ⟨rfl, rfl⟩
    go_wp2_with fail
    go_ret
    exact ⟨rfl, Below.refl _ _⟩
  · have hb : (T.1 == 9) = false := by simpa using h9
    have HR : Hid (sgB zs T = false) := Lib.hid (by unfold sgB; rw [hb]; rfl)
    rw [HR.out]
    clear h9
    go_enter Tryz.func109, Tryz.ntmps109
    go_wp2_with fail
    go_ret
    exact ⟨rfl, Below.refl _ _⟩
/-- .. of a row that is made for it. -/
theorem qsignAt_row (w : World) (B : Bk) (X : Tx) (k : Nat) (d : Int) (h : QS w B X k d) (i : Nat) (T : Tp) (hT : X.L[i]? = some T) (zs : List ByteArray) (n : Nat) (hn : zs.length = n) (r : Bool) (hr : sgB zs T = r) (hM : n ≤ 1000 := by decide) :
    Calls Tryz.prog 109 #[.pointer (some ⟨B.p, 0, none⟩), .int .i64 i, .slice (some ⟨w.heap.size, 0, none⟩) n n] (w.alloc (.cells (zs.map Value.string).toArray 9)) fun e w' => e = .returned (.bool r) ∧ Below w.heap.size w w' := by
  subst hr
  refine (qsignAt _ B X k d (h.after (below_new _ _)) i T hT zs n n w.heap.size hn hM fun j hj => by
    rw [Nat.zero_add, cell_of_row _ _ j _ _ (0, 0) (heap_alloc_last w _)]
    simp [hj, List.getD]).mono ?_
  rintro e w' ⟨rfl, hb⟩
  exact ⟨rfl, Below.step (below_new _ _) hb⟩
set_option maxRecDepth 100000 in
theorem qsign (w : World) (B : Bk) (X : Tx) (k : Nat) (d : Int) (h : QS w B X k d) (T : Tp) (hT : X.L[k]? = some T) (zs : List ByteArray) (n cap b : Nat) (hn : zs.length = n) (hM : n ≤ 1000) (hc : ∀ j, j < zs.length → w.cell? ⟨b, 0 + j, none⟩ = some (.string (zs.getD j ByteArray.empty))) :
    Calls Tryz.prog 111 #[.pointer (some ⟨B.p, 0, none⟩), .slice (some ⟨b, 0, none⟩) n cap] w fun e w' => e = .returned (.bool (sgB zs T)) ∧ Below w.heap.size w w' := by
  have HA := Lib.hid (qsignAt w B X k d h k T hT zs n cap b hn hM hc)
  have c3 := h.c3
  clear h hT hc hn
  go_enter Tryz.func111, Tryz.ntmps111
  go_wp2_with fail
  refine HA.out.mono ?_
  rintro e w1 ⟨rfl, b1⟩
  have B1 := Lib.hid b1
  clear b1
  go_wp2_with fail
  go_ret
  exact ⟨rfl, B1.out⟩
theorem qsign_row (w : World) (B : Bk) (X : Tx) (k : Nat) (d : Int) (h : QS w B X k d) (T : Tp) (hT : X.L[k]? = some T) (zs : List ByteArray) (n : Nat) (hn : zs.length = n) (r : Bool) (hr : sgB zs T = r) (hM : n ≤ 1000 := by decide) :
    Calls Tryz.prog 111 #[.pointer (some ⟨B.p, 0, none⟩), .slice (some ⟨w.heap.size, 0, none⟩) n n] (w.alloc (.cells (zs.map Value.string).toArray 9)) fun e w' => e = .returned (.bool r) ∧ Below w.heap.size w w' := by
  subst hr
  refine (qsign _ B X k d (h.after (below_new _ _)) T hT zs n n w.heap.size hn hM fun j hj => by
    rw [Nat.zero_add, cell_of_row _ _ j _ _ (0, 0) (heap_alloc_last w _)]
    simp [hj, List.getD]).mono ?_
  rintro e w' ⟨rfl, hb⟩
  exact ⟨rfl, Below.step (below_new _ _) hb⟩
set_option maxRecDepth 100000 in
theorem qword_no (w : World) (B : Bk) (X : Tx) (k : Nat) (d : Int) (h : QS w B X k d) (T : Tp) (hT : X.L[k]? = some T) (h7 : (T.1 == 7) = false) (sl : Value) :
    Calls Tryz.prog 112 #[.pointer (some ⟨B.p, 0, none⟩), sl] w fun e w' => e = .returned (.bool false) ∧ Below w.heap.size w w' := by
  have HH := Lib.hid (qis w B X k d h T hT 7)
  rw [h7] at HH
  clear h hT h7
  go_enter Tryz.func112, Tryz.ntmps112
  go_wp2_with fail
  refine HH.out.mono ?_
  rintro e w1 ⟨rfl, b1⟩
  have B1 := Lib.hid b1
  clear b1
  go_wp2_with fail
  go_ret
  exact ⟨rfl, B1.out⟩
set_option maxRecDepth 100000 in
set_option maxHeartbeats 1000000 in
theorem qtake (w : World) (B : Bk) (X : Tx) (k : Nat) (d : Int) (h : QS w B X k d) (T : Tp) (hT : X.L[k]? = some T) (hk : k + 1 < X.L.length) :
    Calls Tryz.prog 116 #[.pointer (some ⟨B.p, 0, none⟩)] w fun e w' => e = .returned (.agg (tkA T)) ∧ QS w' B X (k + 1) d ∧ Bt B.p w w' := by
  have HI := info_tk
  obtain ⟨W, hW, HR, HB⟩ : ∃ W, W = w.alloc (.cells zTk 68) ∧ Hid (W.heap[w.heap.size]? = some (.cells zTk 68 (0, 0))) ∧ Hid (Below w.heap.size w W) := ⟨_, rfl, Lib.hid (heap_alloc_last w _), Lib.hid (below_new w _)⟩
  have hpw := h.plt
  have H0 := Lib.hid h
  have H := Lib.hid (h.after HB.out)
  have HH := Lib.hid (fun w h => qhere w B X k d h T hT)
  have hf := h.few
  have HK := Lib.hid hk
  obtain ⟨j, hj⟩ : ∃ j, j = k + 1 := ⟨_, rfl⟩
  have hjk : (k : Int) + 1 = j := by omega
  have hj3 : j ≤ 4000 := by omega
  rw [← hj]
  have HJ := Lib.hid hj
  clear h hT hk hj
  go_enter Tryz.func116, Tryz.ntmps116
  go_upto_region 1 with (fail)
  change Code.wp _ _ _ _ (w.alloc (.cells zTk 68))
  rw [← hW]
  clear hW
  go_wp2_with fail
  refine (HH.out _ H.out).mono ?_
  rintro e w1 ⟨rfl, b1⟩
  have H1 := Lib.hid (H.out.after b1)
  have B1 := Lib.hid (Below.step HB.out b1)
  have hR1 : w1.heap[w.heap.size]? = some (.cells zTk 68 (0, 0)) := by rw [b1.block _ ((Array.getElem?_eq_some_iff.1 HR.out).1)]; exact HR.out
  have HR1 := Lib.hid hR1
  have HLE : Hid (w.heap.size < w1.heap.size) := Lib.hid (Array.getElem?_eq_some_iff.1 hR1).1
  clear b1 hR1
  go_upto_region 2 with (refine wpList_store_row rfl 68 (.tmp 3) (.tmp 5) rfl w1.heap.size (tkA T) rfl rfl 68 zTk (heap_alloc_last _ _) HI rfl (tka_one _) ?_)
  obtain ⟨V, hV, X3, B3⟩ : ∃ V, V = (w1.alloc (.cells zTk 68)).setRow w1.heap.size (tkA T) ∧ Hid (V.heap[w1.heap.size]? = some (.cells (tkA T) 68 (0, 0))) ∧ Hid (Below w1.heap.size w1 V) :=
    ⟨_, rfl, Lib.hid (setRow_heap _ _ _ _ _ _ (heap_alloc_last _ _)), Lib.hid (below_setRow (below_new w1 _) (Nat.le_refl _) _)⟩
  change Code.wp _ _ _ _ ((w1.alloc (.cells zTk 68)).setRow w1.heap.size (tkA T))
  rw [← hV]
  have H3 := Lib.hid (H1.out.after B3.out)
  have c3 := H3.out.c3
  have z3 := H3.out.z 3
  clear hV
  go_upto_region 3 with (fail)
  obtain ⟨Z, hZ, HZ, BZ⟩ : ∃ Z, Z = V.setCell ⟨B.p, 3, none⟩ (.int .i64 (j : Nat)) ∧ Hid (QS Z B X j d) ∧ Hid (Bt B.p V Z) := ⟨_, rfl, Lib.hid (by have h := H3.out.on HK.out; rw [← HJ.out] at h; exact h), Lib.hid (bt_set _ _ _ _)⟩
  have HBV := Lib.hid (Below.step B1.out B3.out)
  have HBt := Lib.hid ((Bt.of HBV.out).trans BZ.out)
  have hRV : Hid (V.heap[w.heap.size]? = some (.cells zTk 68 (0, 0))) := Lib.hid (by rw [B3.out.block _ HLE.out]; exact HR1.out)
  have hRZ : Z.heap[w.heap.size]? = some (.cells zTk 68 (0, 0)) := by rw [BZ.out.block _ (Array.getElem?_eq_some_iff.1 hRV.out).1 (by omega)]; exact hRV.out
  have hXZ : Z.heap[w1.heap.size]? = some (.cells (tkA T) 68 (0, 0)) := by rw [BZ.out.block _ (Array.getElem?_eq_some_iff.1 X3.out).1 (by have := HLE.out; omega)]; exact X3.out
  have HRZ := Lib.hid hRZ
  have d0 : Z.cell? ⟨w1.heap.size, 0, none⟩ = some (.int .i64 T.1) := cell_of_row _ _ 0 _ _ _ hXZ
  have d1 : Z.cell? ⟨w1.heap.size, 1, none⟩ = some (.string ⟨T.2.1.toArray⟩) := cell_of_row _ _ 1 _ _ _ hXZ
  have d2 : Z.cell? ⟨w1.heap.size, 2, none⟩ = some (.int .i64 (T.2.2 : Nat)) := cell_of_row _ _ 2 _ _ _ hXZ
  rw [← hZ]
  clear hZ hRZ hXZ c3 z3
  go_wp2_with (refine wpList_store_row rfl 68 (.tmp 2) (.tmp 13) rfl w.heap.size (tkA T) rfl rfl 68 zTk HRZ.out HI rfl (tka_one _) ?_)
  refine bodyPost_ret (v := .agg (tkA T)) (results_cell_row (by rfl) _ _ w.heap.size 68 _ (0, 0) _ (by rfl) (setRow_heap _ _ _ _ _ _ HRZ.out) Tryz.underlying68 (by rfl) HI) rfl ?_
  have hbw : Bt w.heap.size Z (Z.setRow w.heap.size (tkA T)) := ⟨rfl, rfl, rfl, by simp [World.setRow], fun i _ hi => Go.setRow_other _ _ _ _ hi⟩
  refine ⟨rfl, HZ.out.other hbw (by omega) ?_ ?_ ?_, ?_⟩
  · have := H0.out.toks.lt; omega
  · have := H0.out.clt; omega
  · have := H0.out.mlt; omega
  · exact ⟨HBt.out.os, HBt.out.tape, HBt.out.output, by simp [World.setRow]; exact HBt.out.size, fun i hi hip => by rw [Go.setRow_other _ _ _ _ (by omega)]; exact HBt.out.block i hi hip⟩
end Go.Proofs.YtgdlpldngpoadaaGreatDoor
