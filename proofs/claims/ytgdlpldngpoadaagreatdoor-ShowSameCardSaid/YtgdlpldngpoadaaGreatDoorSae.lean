/- Merged by program: ShD, LexN, RLexA. -/
import Derived.KernelRfl
import Derived.Laws.Externs
import Derived.Lib.Strings
import Derived.Test.YtgdlpldngpoadaaGreatDoorSac
import Derived.Test.YtgdlpldngpoadaaGreatDoorSad
import Derived.Test.YtgdlpldngpoadaaGreatDoorSaa
/- The program's writer of trees: an assignment. -/
namespace Go.Proofs.YtgdlpldngpoadaaGreatDoor
open Go.RowKit

theorem keep6 {w0 w1 w2 : World} {a0 a1 a2 a3 a4 a5 : Addr} {v0 v1 v2 v3 v4 v5 : Value} (h : Hid (Below w0.heap.size w0 w1) ∧ w1.cell? a0 = some v0 ∧ w1.cell? a1 = some v1 ∧ w1.cell? a2 = some v2 ∧ w1.cell? a3 = some v3 ∧ w1.cell? a4 = some v4 ∧ w1.cell? a5 = some v5) (hb : Below w1.heap.size w1 w2) :
    Hid (Below w0.heap.size w0 w2) ∧ w2.cell? a0 = some v0 ∧ w2.cell? a1 = some v1 ∧ w2.cell? a2 = some v2 ∧ w2.cell? a3 = some v3 ∧ w2.cell? a4 = some v4 ∧ w2.cell? a5 = some v5 := by
  obtain ⟨h0, e0, e1, e2, e3, e4, e5⟩ := h
  have keep : ∀ {a : Addr} {v : Value}, w1.cell? a = some v → w2.cell? a = some v := fun {a v} e => by rw [hb.cell (p := a) (cell_lt e)]; exact e
  exact ⟨Lib.hid (Below.step h0.out hb), keep e0, keep e1, keep e2, keep e3, keep e4, keep e5⟩

theorem trim_eq (w : World) : Calls Tryz.prog 69 #[.string ⟨#[61]⟩, .string ⟨#[61]⟩] w fun e w' => e = .returned (.string ⟨#[]⟩) ∧ Below w.heap.size w w' :=
  (Tryz.strings_TrimSuffix ⟨#[61]⟩ ⟨#[61]⟩ w (by decide)).mono (by rintro e w' ⟨rfl, rfl⟩; exact ⟨rfl, Below.refl _ _⟩)

set_option maxRecDepth 100000 in
set_option maxHeartbeats 4000000 in
theorem wsigned_6 (n a : Int) (u v : Nd) (p : List ByteArray) (h1 : Writes 16 u ⟨#[120]⟩) (h2 : Writes 67 v ⟨#[40, 121, 32, 40, 122, 32, 43, 32, 49, 41, 41]⟩) :
    Writes 35 (.mk 6 ⟨#[61]⟩ n a [u, v] p) (⟨#[120]⟩ ++ ⟨#[32]⟩ ++ ⟨#[]⟩ ++ ⟨#[61, 32]⟩ ++ ⟨#[40, 121, 32, 40, 122, 32, 43, 32, 49, 41, 41]⟩) := by
  intro S cs w hA
  obtain ⟨du, hu, hP0⟩ := part_at _ 0 (by simp [Nd.kids]) S cs w hA
  obtain ⟨dv, hv, hP1⟩ := part_at _ 1 (by simp [Nd.kids]) S cs w hA
  simp only [Nd.kids, List.getElem_cons_zero, List.getElem_cons_succ] at hu hv
  have HE := Lib.hid (fun V (hb : Below w.heap.size w V) => h1 S du V (hu.after hb))
  have HO := Lib.hid (fun V (hb : Below w.heap.size w V) => h2 S dv V (hv.after hb))
  obtain ⟨x, c, y, d, rfl, _, _⟩ := hA.opens
  simp only [Nd.k, Nd.s, Nd.n, Nd.a, Nd.kids, Nd.p, List.length_cons, List.length_nil, Nat.zero_add, Nat.reduceAdd] at hP0 hP1 ⊢
  have HP0 := Lib.hid hP0
  have HP1 := Lib.hid hP1
  clear h1 h2 hP0 hP1 hu hv hA
  obtain ⟨W, hW, hX, hB, _⟩ := nd_box w (ndC 6 ⟨#[61]⟩ n a (.slice x 2 c) (.slice y p.length d))
  go_enter Tryz.func35, Tryz.ntmps35
  go_upto_region 1 with (fail)
  change Code.wp _ _ _ _ (w.alloc (Obj.cells (ndC 6 ⟨#[61]⟩ n a (.slice x 2 c) (.slice y p.length d)) 25))
  rw [← hW]
  clear hW
  obtain ⟨c0, c1, c2, c3, c4, c5⟩ := six_nd hX.out.six
  have H0 : Hid (Hid (Below W.heap.size W W) ∧ W.cell? ⟨w.heap.size, 0, none⟩ = some (.int .i64 6) ∧ W.cell? ⟨w.heap.size, 1, none⟩ = some (.string ⟨#[61]⟩) ∧ W.cell? ⟨w.heap.size, 2, none⟩ = some (.int .i64 n) ∧ W.cell? ⟨w.heap.size, 3, none⟩ = some (.int .i64 a) ∧ W.cell? ⟨w.heap.size, 4, none⟩ = some (.slice x 2 c) ∧ W.cell? ⟨w.heap.size, 5, none⟩ = some (.slice y p.length d)) :=
    Lib.hid ⟨Lib.hid (Below.refl _ _), by simpa using c0, by simpa using c1, by simpa using c2, by simpa using c3, by simpa using c4, by simpa using c5⟩
  go_upto_region 5 with (fail)
  clear c0 c1 c2 c3 c4 c5
  refine wp_region_held_drew (S := fun W' => Hid (Below W.heap.size W W') ∧ W'.cell? ⟨w.heap.size, 0, none⟩ = some (.int .i64 6) ∧ W'.cell? ⟨w.heap.size, 1, none⟩ = some (.string ⟨#[61]⟩) ∧ W'.cell? ⟨w.heap.size, 2, none⟩ = some (.int .i64 n) ∧ W'.cell? ⟨w.heap.size, 3, none⟩ = some (.int .i64 a) ∧ W'.cell? ⟨w.heap.size, 4, none⟩ = some (.slice x 2 c) ∧ W'.cell? ⟨w.heap.size, 5, none⟩ = some (.slice y p.length d)) (by kernel_rfl) ?_ (fun hS => ?_)
  · exact keep6 H0.out (below_drew _)
  clear H0
  refine takeW (i := 0) (d := 13) (v := .agg #[.int .i64 6, .string ⟨#[61]⟩, .int .i64 n, .int .i64 a, .slice x 2 c, .slice y p.length d]) rfl rfl (by kernel_rfl) (by kernel_rfl) (by kernel_rfl) (fun _ _ _ h => h) (by rfl) (fun w' hSw => by obtain ⟨x_, x0, x1, x2, x3, x4, x5⟩ := hSw; go_simp) hS ?_
  simp only [List.setIfInBounds_toArray, List.set_cons_zero, List.set_cons_succ]
  refine takeW (i := 4) (d := 17) (v := .pointer (some ⟨w.heap.size, 1, none⟩)) rfl rfl (by kernel_rfl) (by kernel_rfl) (by kernel_rfl) (fun _ _ _ h => h) (by rfl) (fun w' hSw => by obtain ⟨x_, x0, x1, x2, x3, x4, x5⟩ := hSw; go_simp) hS ?_
  simp only [List.setIfInBounds_toArray, List.set_cons_zero, List.set_cons_succ]
  refine takeW (i := 9) (d := 22) (v := .agg #[.int .i64 6, .string ⟨#[61]⟩, .int .i64 n, .int .i64 a, .slice x 2 c, .slice y p.length d]) rfl rfl (by kernel_rfl) (by kernel_rfl) (by kernel_rfl) (fun _ _ _ h => h) (by rfl) (fun w' hSw => by obtain ⟨x_, x0, x1, x2, x3, x4, x5⟩ := hSw; go_simp) hS ?_
  simp only [List.setIfInBounds_toArray, List.set_cons_zero, List.set_cons_succ]
  refine takeW (i := 5) (d := 18) (v := .string ⟨#[61]⟩) rfl rfl (by kernel_rfl) (by kernel_rfl) (by kernel_rfl) (fun _ _ _ h => h) (by rfl) (fun w' hSw => by obtain ⟨x_, x0, x1, x2, x3, x4, x5⟩ := hSw; go_simp) hS ?_
  simp only [List.setIfInBounds_toArray, List.set_cons_zero, List.set_cons_succ]
  refine wpAnyH_ready (rs := [1]) (by kernel_rfl) (by simp) ?_
  refine AllReadyH.cons rfl (fun X hX => ?_) (AllReadyH.nil)
  rw [if_pos (by rfl)]
  go_simp
  refine (HP0.out _ (Below.step hB.out hS.1.out)).mono ?_; rintro e w1 ⟨rfl, b1⟩
  go_wp2_with fail
  refine hX.out _ _ (keep6 hS b1) (fun hS4_1 => ?_)
  clear hX X hS b1
  refine wpAnyH_ready (rs := [2]) (by kernel_rfl) (by simp) ?_
  refine AllReadyH.cons rfl (fun X hX => ?_) (AllReadyH.nil)
  rw [if_pos (by rfl)]
  go_simp
  refine (HE.out _ (Below.step hB.out hS4_1.1.out)).mono ?_; rintro e w1 ⟨rfl, b1⟩
  go_wp2_with fail
  refine hX.out _ _ (keep6 hS4_1 b1) (fun hS5_2 => ?_)
  clear hX X hS4_1 b1
  refine takeW (i := 3) (d := 16) (v := .string (⟨#[120]⟩ ++ ⟨#[32]⟩)) rfl rfl (by kernel_rfl) (by kernel_rfl) (by kernel_rfl) (fun _ _ _ h => h) (by rfl) (fun w' hSw => by obtain ⟨x_, x0, x1, x2, x3, x4, x5⟩ := hSw; go_simp) hS5_2 ?_
  simp only [List.setIfInBounds_toArray, List.set_cons_zero, List.set_cons_succ]
  refine wpAnyH_ready (rs := [6]) (by kernel_rfl) (by simp) ?_
  refine AllReadyH.cons rfl (fun X hX => ?_) (AllReadyH.nil)
  rw [if_pos (by rfl)]
  go_simp
  refine (trim_eq _).mono ?_; rintro e w1 ⟨rfl, b1⟩
  go_wp2_with fail
  refine hX.out _ _ (keep6 hS5_2 b1) (fun hS7_6 => ?_)
  clear hX X hS5_2 b1
  refine takeW (i := 7) (d := 20) (v := .string (⟨#[120]⟩ ++ ⟨#[32]⟩ ++ ⟨#[]⟩)) rfl rfl (by kernel_rfl) (by kernel_rfl) (by kernel_rfl) (fun _ _ _ h => h) (by rfl) (fun w' hSw => by obtain ⟨x_, x0, x1, x2, x3, x4, x5⟩ := hSw; go_simp) hS7_6 ?_
  simp only [List.setIfInBounds_toArray, List.set_cons_zero, List.set_cons_succ]
  refine takeW (i := 8) (d := 21) (v := .string (⟨#[120]⟩ ++ ⟨#[32]⟩ ++ ⟨#[]⟩ ++ ⟨#[61, 32]⟩)) rfl rfl (by kernel_rfl) (by kernel_rfl) (by kernel_rfl) (fun _ _ _ h => h) (by rfl) (fun w' hSw => by obtain ⟨x_, x0, x1, x2, x3, x4, x5⟩ := hSw; go_simp) hS7_6 ?_
  simp only [List.setIfInBounds_toArray, List.set_cons_zero, List.set_cons_succ]
  refine wpAnyH_ready (rs := [10]) (by kernel_rfl) (by simp) ?_
  refine AllReadyH.cons rfl (fun X hX => ?_) (AllReadyH.nil)
  rw [if_pos (by rfl)]
  go_simp
  refine (HP1.out _ (Below.step hB.out hS7_6.1.out)).mono ?_; rintro e w1 ⟨rfl, b1⟩
  go_wp2_with fail
  refine hX.out _ _ (keep6 hS7_6 b1) (fun hS10_10 => ?_)
  clear hX X hS7_6 b1
  refine wpAnyH_ready (rs := [11]) (by kernel_rfl) (by simp) ?_
  refine AllReadyH.cons rfl (fun X hX => ?_) (AllReadyH.nil)
  rw [if_pos (by rfl)]
  go_simp
  refine (HO.out _ (Below.step hB.out hS10_10.1.out)).mono ?_; rintro e w1 ⟨rfl, b1⟩
  go_wp2_with fail
  refine hX.out _ _ (keep6 hS10_10 b1) (fun hS11_11 => ?_)
  clear hX X hS10_10 b1
  refine takeW (i := 12) (d := 25) (v := .string (⟨#[120]⟩ ++ ⟨#[32]⟩ ++ ⟨#[]⟩ ++ ⟨#[61, 32]⟩ ++ ⟨#[40, 121, 32, 40, 122, 32, 43, 32, 49, 41, 41]⟩)) rfl rfl (by kernel_rfl) (by kernel_rfl) (by kernel_rfl) (fun _ _ _ h => h) (by rfl) (fun w' hSw => by obtain ⟨x_, x0, x1, x2, x3, x4, x5⟩ := hSw; go_simp) hS11_11 ?_
  simp only [List.setIfInBounds_toArray, List.set_cons_zero, List.set_cons_succ]
  refine takeW (i := 13) (d := 2) (v := .string (⟨#[120]⟩ ++ ⟨#[32]⟩ ++ ⟨#[]⟩ ++ ⟨#[61, 32]⟩ ++ ⟨#[40, 121, 32, 40, 122, 32, 43, 32, 49, 41, 41]⟩)) rfl rfl (by kernel_rfl) (by kernel_rfl) (by kernel_rfl) (fun _ _ _ h => h) (by rfl) (fun w' hSw => by obtain ⟨x_, x0, x1, x2, x3, x4, x5⟩ := hSw; go_simp) hS11_11 ?_
  simp only [List.setIfInBounds_toArray, List.set_cons_zero, List.set_cons_succ]
  refine wpAnyH_done (by kernel_rfl) ?_ _
  have HEE := hS11_11.1
  clear hS11_11
  go_wp2_with fail
  go_ret
  exact ⟨rfl, Below.step hB.out HEE.out⟩
end Go.Proofs.YtgdlpldngpoadaaGreatDoor

/- The words of programs: plain Lean. -/
namespace Go.Proofs.YtgdlpldngpoadaaGreatDoor
open Go.RowKit

def letB (c : UInt8) : Bool := decide (65 ≤ c.toNat ∧ c.toNat ≤ 90) || (decide (97 ≤ c.toNat ∧ c.toNat ≤ 122) || decide (c.toNat = 95))
def digB (c : UInt8) : Bool := decide (48 ≤ c.toNat ∧ c.toNat ≤ 57)
def namB (c : UInt8) : Bool := letB c || digB c
def notFeedB (c : UInt8) : Bool := !decide (c.toNat = 10)
def runN (is : UInt8 → Bool) : List UInt8 → Nat
  | [] => 0
  | c :: t => if is c then runN is t + 1 else 0
theorem runN_le (is : UInt8 → Bool) : ∀ l, runN is l ≤ l.length
  | [] => Nat.le_refl _
  | c :: t => by
    have := runN_le is t
    unfold runN
    split <;> simp <;> omega

/-- The words, the own functions. -/
def wordL : List (List UInt8) := [[66, 69, 71, 73, 78], [69, 78, 68], [102, 117, 110, 99, 116, 105, 111, 110], [105, 102], [101, 108, 115, 101], [119, 104, 105, 108, 101], [102, 111, 114], [100, 111], [98, 114, 101, 97, 107], [99, 111, 110, 116, 105, 110, 117, 101], [110, 101, 120, 116], [101, 120, 105, 116], [114, 101, 116, 117, 114, 110], [100, 101, 108, 101, 116, 101], [105, 110], [103, 101, 116, 108, 105, 110, 101], [112, 114, 105, 110, 116], [112, 114, 105, 110, 116, 102], [112, 101, 114, 115, 105, 115, 116]]
def ownL : List (List UInt8) := [[108, 101, 110, 103, 116, 104], [115, 117, 98, 115, 116, 114], [105, 110, 100, 101, 120], [115, 112, 108, 105, 116], [115, 117, 98], [103, 115, 117, 98], [109, 97, 116, 99, 104], [115, 112, 114, 105, 110, 116, 102], [116, 111, 108, 111, 119, 101, 114], [116, 111, 117, 112, 112, 101, 114], [105, 110, 116], [115, 121, 110, 99]]
def wordB (l : List UInt8) : Bool := decide (l ∈ wordL)
def ownB (l : List UInt8) : Bool := decide (l ∈ ownL)
def nameB (l : List UInt8) : Bool := decide (l ≠ [] ∧ l.length ≤ 40) && ((match l with | [] => false | c :: _ => letB c) && (l.all namB && (!wordB l && !ownB l)))

/-- What is passed over ahead of a token. -/
def passN : Nat → List UInt8 → Nat
  | 0, _ => 0
  | f + 1, l => match l with
    | [] => 0
    | c :: t => if c = 32 then passN f t + 1 else if c = 9 then passN f t + 1 else if c = 92 ∧ t.head? = some 10 then passN f (t.drop 1) + 2
      else if c = 35 then passN f (t.drop (runN notFeedB t)) + (runN notFeedB t + 1) else 0
def numN (l : List UInt8) : Nat :=
  if (l.drop (runN digB l)).head? = some 46 then runN digB l + 1 + runN digB (l.drop (runN digB l + 1)) else runN digB l

def sign2L : List (List UInt8) := [[43, 43], [45, 45], [43, 61], [45, 61], [42, 61], [47, 61], [37, 61], [61, 61], [33, 61], [60, 61], [62, 61], [62, 62], [33, 126], [38, 38], [124, 124]]
def sign1L : List (List UInt8) := [[123], [125], [40], [41], [91], [93], [59], [44], [43], [45], [42], [47], [37], [60], [62], [33], [126], [63], [58], [61], [36]]
def signB (l : List UInt8) : Bool := decide (l ∈ sign2L ++ sign1L)
def signN (l : List UInt8) : Nat := if 2 ≤ l.length ∧ signB (l.take 2) = true then 2 else if 1 ≤ l.length ∧ signB (l.take 1) = true then 1 else 0

def meantN (c : UInt8) : List UInt8 := if c.toNat = 110 then [10] else if c.toNat = 116 then [9] else if c.toNat = 92 ∨ c.toNat = 34 ∨ c.toNat = 47 then [c] else [92, c]
/-- A text behind its first ": what it stands for, how many bytes it takes. -/
def textN : List UInt8 → Option (List UInt8 × Nat)
  | [] => none
  | c :: t => if c.toNat = 10 then none else if c.toNat = 34 then some ([], 1) else if c.toNat = 92 then (match t with
      | [] => none
      | d :: u => if d.toNat = 10 then none else (textN u).map fun r => (meantN d ++ r.1, r.2 + 2))
    else (textN t).map fun r => (c :: r.1, r.2 + 1)
/-- A pattern behind its first /: 0 outside of a bracket, 1 right behind [, 2 behind [^, 3 within. -/
def nextQ (q : Nat) (c : UInt8) : Nat := if q = 0 then (if c.toNat = 91 then 1 else 0) else if q = 1 then (if c.toNat = 94 then 2 else 3) else if q = 2 then 3 else if c.toNat = 93 then 0 else 3
def escN (d : UInt8) : List UInt8 := if d.toNat = 47 then [d] else [92, d]
def patN : Nat → List UInt8 → Option (List UInt8 × Nat)
  | _, [] => none
  | q, c :: t => if c.toNat = 10 then none else if q = 0 ∧ c.toNat = 47 then some ([], 1) else if c.toNat = 92 then (match t with
      | [] => none
      | d :: u => if d.toNat = 10 then none else (patN (if q = 0 then 0 else 3) u).map fun r => (escN d ++ r.1, r.2 + 2))
    else (patN (nextQ q c) t).map fun r => (c :: r.1, r.2 + 1)

/-- A token: its kind, its text, its place. -/
structure Tok where
  K : Int
  S : ByteArray
  A : Int
def zeroT : Tok := ⟨0, ⟨#[]⟩, 0⟩
def endsOperand : List (List UInt8) := [[41], [93], [43, 43], [45, 45], [36]]
def operandB (t : Tok) : Bool := decide (t.K = 2 ∨ t.K = 3 ∨ t.K = 5 ∨ t.K = 8) || (decide (t.K = 9) && decide (t.S.data.toList ∈ endsOperand))

/-- What a token comes to: its kind, its text, how many bytes it takes; or what is wrong. -/
inductive Rd1 where
  | got (K : Int) (S : List UInt8) (n : Nat)
  | bad (x : Int)
def nameN (l : List UInt8) : Rd1 :=
  if 40 < runN namB l then .bad 2 else .got (if wordB (l.take (runN namB l)) = true then 7 else if ownB (l.take (runN namB l)) = true then 8 else if (l.drop (runN namB l)).head? = some 40 then 6 else 5) (l.take (runN namB l)) (runN namB l)
def quoteN (K : Int) : Option (List UInt8 × Nat) → Rd1
  | none => .bad 3
  | some r => .got K r.1 (r.2 + 1)
def readN (l : List UInt8) (op : Bool) : Rd1 := match l with
  | [] => .got 0 [] 0
  | c :: t => if c.toNat = 10 then .got 1 [c] 1 else if letB c = true then nameN l
    else if digB c = true ∨ (c.toNat = 46 ∧ (match t with | [] => false | d :: _ => digB d) = true) then .got 2 (l.take (numN l)) (numN l)
    else if c.toNat = 34 then quoteN 3 (textN t) else if c.toNat = 47 ∧ op = false then quoteN 4 (patN 0 t)
    else if signN l = 0 then .bad 4 else .got 9 (l.take (signN l)) (signN l)
end Go.Proofs.YtgdlpldngpoadaaGreatDoor

/- The document's letters, digits, In, Word, Own, at: walks (tpl11's LexNa, by itself). -/
namespace Go.Proofs.YtgdlpldngpoadaaGreatDoor
open Go.RowKit

theorem letB_eq (c : UInt8) (n : Nat) (h : c.toNat = n) : letB c = (decide (65 ≤ n ∧ n ≤ 90) || (decide (97 ≤ n ∧ n ≤ 122) || decide (n = 95))) := by subst h; rfl
theorem digB_eq (c : UInt8) (n : Nat) (h : c.toNat = n) : digB c = decide (48 ≤ n ∧ n ≤ 57) := by subst h; rfl

set_option maxRecDepth 100000 in
theorem rletter_spec (c : UInt8) (w : World) : Calls Tryz.prog 88 #[.int .u8 c.toNat] w fun e w' => e = .returned (.bool (letB c)) ∧ w' = w := by
  obtain ⟨n, hn⟩ : ∃ n, c.toNat = n := ⟨_, rfl⟩
  rw [letB_eq c n hn, hn]
  have hlt : n < 256 := by rw [← hn]; exact UInt8.toNat_lt c
  clear hn
  by_cases h1 : 65 ≤ n
  · by_cases h2 : n ≤ 90
    · have e : (decide (65 ≤ n ∧ n ≤ 90) || (decide (97 ≤ n ∧ n ≤ 122) || decide (n = 95))) = true := by simp [h1, h2]
      rw [e]
      clear e
      have h1' : (65 : Int) ≤ n := by omega
      have h2' : (n : Int) ≤ 90 := by omega
      go_enter Tryz.func88, Tryz.ntmps88
      go_wp2_with fail
      go_ret
      exact ⟨rfl, rfl⟩
    · have d2 : decide ((n : Int) ≤ 90) = false := decide_eq_false (by omega)
      have d1 : decide ((65 : Int) ≤ n) = true := decide_eq_true (by omega)
      by_cases h3 : 97 ≤ n
      · have d3 : decide ((97 : Int) ≤ n) = true := decide_eq_true (by omega)
        by_cases h4 : n ≤ 122
        · have d4 : decide ((n : Int) ≤ 122) = true := decide_eq_true (by omega)
          have e : (decide (65 ≤ n ∧ n ≤ 90) || (decide (97 ≤ n ∧ n ≤ 122) || decide (n = 95))) = true := by simp [h3, h4]
          rw [e]
          clear e
          go_enter Tryz.func88, Tryz.ntmps88
          go_wp2_with fail
          go_ret
          exact ⟨rfl, rfl⟩
        · have d4 : decide ((n : Int) ≤ 122) = false := decide_eq_false (by omega)
          have d5 : ((n : Int) == 95) = false := by simp; omega
          have e : (decide (65 ≤ n ∧ n ≤ 90) || (decide (97 ≤ n ∧ n ≤ 122) || decide (n = 95))) = false := by simp [h2, h4]; omega
          rw [e]
          clear e
          go_enter Tryz.func88, Tryz.ntmps88
          go_wp2_with fail
          go_ret
          exact ⟨rfl, rfl⟩
      · have d3 : decide ((97 : Int) ≤ n) = false := decide_eq_false (by omega)
        have e : (decide (65 ≤ n ∧ n ≤ 90) || (decide (97 ≤ n ∧ n ≤ 122) || decide (n = 95))) = decide (n = 95) := by
          rw [decide_eq_false (p := 65 ≤ n ∧ n ≤ 90) (by omega), decide_eq_false (p := 97 ≤ n ∧ n ≤ 122) (by omega)]; rfl
        rw [e]
        clear e
        by_cases h5 : n = 95
        · subst h5
          go_enter Tryz.func88, Tryz.ntmps88
          go_wp2_with fail
          go_ret
          exact ⟨rfl, rfl⟩
        · have d5 : ((n : Int) == 95) = false := by simp; omega
          rw [decide_eq_false h5]
          go_enter Tryz.func88, Tryz.ntmps88
          go_wp2_with fail
          go_ret
          exact ⟨rfl, rfl⟩
  · have d1 : decide ((65 : Int) ≤ n) = false := decide_eq_false (by omega)
    have d3 : decide ((97 : Int) ≤ n) = false := decide_eq_false (by omega)
    have d5 : ((n : Int) == 95) = false := by simp; omega
    have e : (decide (65 ≤ n ∧ n ≤ 90) || (decide (97 ≤ n ∧ n ≤ 122) || decide (n = 95))) = false := by simp; omega
    rw [e]
    clear e
    go_enter Tryz.func88, Tryz.ntmps88
    go_wp2_with fail
    go_ret
    exact ⟨rfl, rfl⟩

set_option maxRecDepth 100000 in
theorem rnum_spec (c : UInt8) (w : World) : Calls Tryz.prog 89 #[.int .u8 c.toNat] w fun e w' => e = .returned (.bool (digB c)) ∧ w' = w := by
  obtain ⟨n, hn⟩ : ∃ n, c.toNat = n := ⟨_, rfl⟩
  rw [digB_eq c n hn, hn]
  have hlt : n < 256 := by rw [← hn]; exact UInt8.toNat_lt c
  clear hn
  by_cases h1 : 48 ≤ n
  · have d1 : decide ((48 : Int) ≤ n) = true := decide_eq_true (by omega)
    by_cases h2 : n ≤ 57
    · have d2 : decide ((n : Int) ≤ 57) = true := decide_eq_true (by omega)
      rw [decide_eq_true (p := 48 ≤ n ∧ n ≤ 57) ⟨h1, h2⟩]
      go_enter Tryz.func89, Tryz.ntmps89
      go_wp2_with fail
      go_ret
      exact ⟨rfl, rfl⟩
    · have d2 : decide ((n : Int) ≤ 57) = false := decide_eq_false (by omega)
      rw [decide_eq_false (p := 48 ≤ n ∧ n ≤ 57) (by omega)]
      go_enter Tryz.func89, Tryz.ntmps89
      go_wp2_with fail
      go_ret
      exact ⟨rfl, rfl⟩
  · have d1 : decide ((48 : Int) ≤ n) = false := decide_eq_false (by omega)
    rw [decide_eq_false (p := 48 ≤ n ∧ n ≤ 57) (by omega)]
    go_enter Tryz.func89, Tryz.ntmps89
    go_wp2_with fail
    go_ret
    exact ⟨rfl, rfl⟩


theorem rletter_is (c : UInt8) (b : Bool) (h : letB c = b) (w : World) : Calls Tryz.prog 88 #[.int .u8 c.toNat] w fun e w' => e = .returned (.bool b) ∧ w' = w := by subst h; exact rletter_spec c w
theorem rnum_is (c : UInt8) (b : Bool) (h : digB c = b) (w : World) : Calls Tryz.prog 89 #[.int .u8 c.toNat] w fun e w' => e = .returned (.bool b) ∧ w' = w := by subst h; exact rnum_spec c w

set_option maxRecDepth 100000 in
theorem in_spec (L : List (List UInt8)) (n cap b : Nat) (hn : L.length = n) (hL : n ≤ 1000) (s : ByteArray) (l : List UInt8) (hl : s.data.toList = l) (w : World) (hc : ∀ i (h : i < L.length), w.cell? ⟨b, i, none⟩ = some (.string ⟨L[i].toArray⟩)) :
    Calls Tryz.prog 95 #[.slice (some ⟨b, 0, none⟩) n cap, .string s] w fun e w' => e = .returned (.bool (decide (l ∈ L))) ∧ w' = w := by
  have hsl : s.toList = l := by rw [Lib.toList_data, hl]
  have HSL := Lib.hid hsl
  have HC := Lib.hid hc
  have HN := Lib.hid hn
  clear hc hl hsl hn
  go_enter Tryz.func95, Tryz.ntmps95
  go_wp2_with fail
  go_loop [5] (fun i => ∃ k : Nat, k ≤ n ∧ i = .int .i64 k ∧ Hid (l ∉ L.take k)) (fun i => n - (intOf i).toNat)
  case atStart => exact ⟨0, Nat.zero_le _, rfl, Lib.hid (by simp)⟩
  case round =>
    obtain ⟨k, hk, rfl, HNo⟩ := hrel
    by_cases hlt : k < n
    · obtain ⟨S, hS⟩ : ∃ S : ByteArray, S = ⟨(L[k]'(by rw [HN.out]; exact hlt)).toArray⟩ := ⟨_, rfl⟩
      have c0 : w.cell? ⟨b, k, none⟩ = some (.string S) := by rw [hS]; exact HC.out k (by rw [HN.out]; exact hlt)
      have hSl : Hid (S.toList = L[k]'(by rw [HN.out]; exact hlt)) := Lib.hid (by rw [Lib.toList_data, hS])
      have HT : Hid (L.take (k + 1) = L.take k ++ [L[k]'(by rw [HN.out]; exact hlt)]) := Lib.hid (List.take_succ_eq_append_getElem _)
      clear hS
      by_cases he : L[k]'(by rw [HN.out]; exact hlt) = l
      · have hb : (S.toList == s.toList) = true := by rw [hSl.out, HSL.out, he]; exact beq_self_eq_true _
        have HY : Hid (decide (l ∈ L) = true) := Lib.hid (decide_eq_true (by rw [← he]; exact List.getElem_mem _))
        clear he
        go_wp2_with fail
        go_ret
        exact ⟨by rw [HY.out]; rfl, rfl⟩
      · have hb : (S.toList == s.toList) = false := by rw [hSl.out, HSL.out]; exact beq_eq_false_iff_ne.2 he
        have HE := Lib.hid he
        clear he
        go_wp2_with fail
        go_round
        case rel => exact ⟨k + 1, by omega, by go_num, Lib.hid (by rw [HT.out, List.mem_append]; rintro (h | h); exact HNo.out h; exact HE.out (List.mem_singleton.1 h).symm)⟩
        case measure => simp [intOf]; omega
    · have hke : k = n := by omega
      subst hke
      have HY : Hid (decide (l ∈ L) = false) := Lib.hid (decide_eq_false (by have := HNo.out; rw [← HN.out, List.take_length] at this; exact this))
      go_wp2_with fail
      go_ret
      exact ⟨by rw [HY.out]; rfl, rfl⟩
theorem in_alloc (L : List (List UInt8)) (n : Nat) (hn : L.length = n) (s : ByteArray) (l : List UInt8) (hl : s.data.toList = l) (w : World) (hL : n ≤ 1000 := by decide) :
    Calls Tryz.prog 95 #[.slice (some ⟨w.heap.size, 0, none⟩) n n, .string s] (w.alloc (.cells (L.map fun x => Value.string ⟨x.toArray⟩).toArray 9)) fun e w' => e = .returned (.bool (decide (l ∈ L))) ∧ w' = (w.alloc (.cells (L.map fun x => Value.string ⟨x.toArray⟩).toArray 9)) :=
  in_spec L n n w.heap.size hn hL s l hl _ fun i h => by
    rw [cell_of_row _ _ i _ _ (0, 0) (heap_alloc_last w _)]
    simp [h]

set_option maxRecDepth 100000 in
set_option maxHeartbeats 1000000 in
theorem rword_spec (s : ByteArray) (l : List UInt8) (hl : s.data.toList = l) (w : World) : Calls Tryz.prog 90 #[.string s] w fun e w' => e = .returned (.bool (wordB l)) ∧ Below w.heap.size w w' := by
  have H : Hid (Calls Tryz.prog 95 #[.slice (some ⟨w.heap.size, 0, none⟩) 19 19, .string s] (w.alloc (.cells #[.string ⟨#[66, 69, 71, 73, 78]⟩, .string ⟨#[69, 78, 68]⟩, .string ⟨#[102, 117, 110, 99, 116, 105, 111, 110]⟩, .string ⟨#[105, 102]⟩, .string ⟨#[101, 108, 115, 101]⟩, .string ⟨#[119, 104, 105, 108, 101]⟩, .string ⟨#[102, 111, 114]⟩, .string ⟨#[100, 111]⟩, .string ⟨#[98, 114, 101, 97, 107]⟩, .string ⟨#[99, 111, 110, 116, 105, 110, 117, 101]⟩, .string ⟨#[110, 101, 120, 116]⟩, .string ⟨#[101, 120, 105, 116]⟩, .string ⟨#[114, 101, 116, 117, 114, 110]⟩, .string ⟨#[100, 101, 108, 101, 116, 101]⟩, .string ⟨#[105, 110]⟩, .string ⟨#[103, 101, 116, 108, 105, 110, 101]⟩, .string ⟨#[112, 114, 105, 110, 116]⟩, .string ⟨#[112, 114, 105, 110, 116, 102]⟩, .string ⟨#[112, 101, 114, 115, 105, 115, 116]⟩] 9)) fun e w' => e = .returned (.bool (wordB l)) ∧ w' = (w.alloc (.cells #[.string ⟨#[66, 69, 71, 73, 78]⟩, .string ⟨#[69, 78, 68]⟩, .string ⟨#[102, 117, 110, 99, 116, 105, 111, 110]⟩, .string ⟨#[105, 102]⟩, .string ⟨#[101, 108, 115, 101]⟩, .string ⟨#[119, 104, 105, 108, 101]⟩, .string ⟨#[102, 111, 114]⟩, .string ⟨#[100, 111]⟩, .string ⟨#[98, 114, 101, 97, 107]⟩, .string ⟨#[99, 111, 110, 116, 105, 110, 117, 101]⟩, .string ⟨#[110, 101, 120, 116]⟩, .string ⟨#[101, 120, 105, 116]⟩, .string ⟨#[114, 101, 116, 117, 114, 110]⟩, .string ⟨#[100, 101, 108, 101, 116, 101]⟩, .string ⟨#[105, 110]⟩, .string ⟨#[103, 101, 116, 108, 105, 110, 101]⟩, .string ⟨#[112, 114, 105, 110, 116]⟩, .string ⟨#[112, 114, 105, 110, 116, 102]⟩, .string ⟨#[112, 101, 114, 115, 105, 115, 116]⟩] 9))) := Lib.hid (in_alloc wordL 19 rfl s l hl w)
  clear hl
  go_enter Tryz.func90, Tryz.ntmps90
  go_wp2_with fail
  refine H.out.mono ?_
  rintro e w1 ⟨rfl, rfl⟩
  go_wp2_with fail
  go_ret
  exact ⟨rfl, below_new w _⟩

set_option maxRecDepth 100000 in
set_option maxHeartbeats 1000000 in
theorem rown_spec (s : ByteArray) (l : List UInt8) (hl : s.data.toList = l) (w : World) : Calls Tryz.prog 91 #[.string s] w fun e w' => e = .returned (.bool (ownB l)) ∧ Below w.heap.size w w' := by
  have H : Hid (Calls Tryz.prog 95 #[.slice (some ⟨w.heap.size, 0, none⟩) 12 12, .string s] (w.alloc (.cells #[.string ⟨#[108, 101, 110, 103, 116, 104]⟩, .string ⟨#[115, 117, 98, 115, 116, 114]⟩, .string ⟨#[105, 110, 100, 101, 120]⟩, .string ⟨#[115, 112, 108, 105, 116]⟩, .string ⟨#[115, 117, 98]⟩, .string ⟨#[103, 115, 117, 98]⟩, .string ⟨#[109, 97, 116, 99, 104]⟩, .string ⟨#[115, 112, 114, 105, 110, 116, 102]⟩, .string ⟨#[116, 111, 108, 111, 119, 101, 114]⟩, .string ⟨#[116, 111, 117, 112, 112, 101, 114]⟩, .string ⟨#[105, 110, 116]⟩, .string ⟨#[115, 121, 110, 99]⟩] 9)) fun e w' => e = .returned (.bool (ownB l)) ∧ w' = (w.alloc (.cells #[.string ⟨#[108, 101, 110, 103, 116, 104]⟩, .string ⟨#[115, 117, 98, 115, 116, 114]⟩, .string ⟨#[105, 110, 100, 101, 120]⟩, .string ⟨#[115, 112, 108, 105, 116]⟩, .string ⟨#[115, 117, 98]⟩, .string ⟨#[103, 115, 117, 98]⟩, .string ⟨#[109, 97, 116, 99, 104]⟩, .string ⟨#[115, 112, 114, 105, 110, 116, 102]⟩, .string ⟨#[116, 111, 108, 111, 119, 101, 114]⟩, .string ⟨#[116, 111, 117, 112, 112, 101, 114]⟩, .string ⟨#[105, 110, 116]⟩, .string ⟨#[115, 121, 110, 99]⟩] 9))) := Lib.hid (in_alloc ownL 12 rfl s l hl w)
  clear hl
  go_enter Tryz.func91, Tryz.ntmps91
  go_wp2_with fail
  refine H.out.mono ?_
  rintro e w1 ⟨rfl, rfl⟩
  go_wp2_with fail
  go_ret
  exact ⟨rfl, below_new w _⟩

/-- A byte; 0 beyond. -/
def atB (s : ByteArray) (i : Nat) : UInt8 := if h : i < s.size then s[i] else 0
set_option maxRecDepth 100000 in
theorem rat_spec (s : ByteArray) (i : Nat) (w : World) : Calls Tryz.prog 87 #[.string s, .int .i64 i] w fun e w' => e = .returned (.int .u8 (atB s i).toNat) ∧ w' = w := by
  by_cases h : i < s.size
  · have e : atB s i = s[i] := by unfold atB; rw [dif_pos h]
    rw [e]
    clear e
    go_enter Tryz.func87, Tryz.ntmps87
    go_wp2_with fail
    go_ret
    exact ⟨rfl, rfl⟩
  · have e : atB s i = 0 := by unfold atB; rw [dif_neg h]
    rw [e]
    clear e
    have hb : decide ((i : Int) < s.size) = false := decide_eq_false (by omega)
    go_enter Tryz.func87, Tryz.ntmps87
    go_wp2_with fail
    go_ret
    exact ⟨rfl, rfl⟩
theorem atB_lt {s : ByteArray} {i : Nat} (h : i < s.size) : atB s i = s[i] := by unfold atB; rw [dif_pos h]

set_option maxRecDepth 100000 in
theorem rskip_here (s : ByteArray) (i : Nat) (hi : i ≤ s.size) (h : i < s.size → (atB s i).toNat ≠ 32 ∧ (atB s i).toNat ≠ 9 ∧ (atB s i).toNat ≠ 92 ∧ (atB s i).toNat ≠ 35) (w : World) :
    Calls Tryz.prog 46 #[.string s, .int .i64 i] w fun e w' => e = .returned (.int .i64 i) ∧ w' = w := by
  by_cases hlt : i < s.size
  · obtain ⟨h1, h2, h3, h4⟩ := h hlt
    rw [atB_lt hlt] at h1 h2 h3 h4
    have b1 : ((s[i].toNat : Int) == 32) = false := by simp; omega
    have b2 : ((s[i].toNat : Int) == 9) = false := by simp; omega
    have b3 : ((s[i].toNat : Int) == 92) = false := by simp; omega
    have b4 : ((s[i].toNat : Int) == 35) = false := by simp; omega
    clear h h1 h2 h3 h4
    go_enter Tryz.func46, Tryz.ntmps46
    go_wp2_with fail
    refine wp_loop_rounds 1 ?_
    rw [rounds_succ]
    go_wp2_with fail
    go_ret
    exact ⟨rfl, rfl⟩
  · have hie : i = s.size := by omega
    subst hie
    clear h
    go_enter Tryz.func46, Tryz.ntmps46
    go_wp2_with fail
    refine wp_loop_rounds 1 ?_
    rw [rounds_succ]
    go_wp2_with fail
    go_ret
    exact ⟨rfl, rfl⟩
set_option maxRecDepth 100000 in
theorem rskip_one (s : ByteArray) (i : Nat) (hs : s.size ≤ 8000) (hi : i + 1 < s.size) (h0 : (atB s i).toNat = 32) (h : (atB s (i + 1)).toNat ≠ 32 ∧ (atB s (i + 1)).toNat ≠ 9 ∧ (atB s (i + 1)).toNat ≠ 92 ∧ (atB s (i + 1)).toNat ≠ 35) (w : World) :
    Calls Tryz.prog 46 #[.string s, .int .i64 i] w fun e w' => e = .returned (.int .i64 ((i + 1 : Nat) : Int)) ∧ w' = w := by
  obtain ⟨h1, h2, h3, h4⟩ := h
  have hlt : i < s.size := by omega
  rw [atB_lt hi] at h1 h2 h3 h4
  rw [atB_lt hlt] at h0
  obtain ⟨j, hj⟩ : ∃ j, j = i + 1 := ⟨_, rfl⟩
  have hji : (i : Int) + 1 = j := by omega
  simp only [← hj] at h1 h2 h3 h4 hi ⊢
  have b0 : ((s[i].toNat : Int) == 32) = true := by rw [h0]; rfl
  have b1 : ((s[j].toNat : Int) == 32) = false := by simp; omega
  have b2 : ((s[j].toNat : Int) == 9) = false := by simp; omega
  have b3 : ((s[j].toNat : Int) == 92) = false := by simp; omega
  have b4 : ((s[j].toNat : Int) == 35) = false := by simp; omega
  clear h0 h1 h2 h3 h4 hj
  go_enter Tryz.func46, Tryz.ntmps46
  go_wp2_with fail
  refine wp_loop_rounds 2 ?_
  rw [rounds_succ]
  go_wp2_with fail
  rw [rounds_succ]
  go_wp2_with fail
  go_ret
  exact ⟨rfl, rfl⟩
end Go.Proofs.YtgdlpldngpoadaaGreatDoor
