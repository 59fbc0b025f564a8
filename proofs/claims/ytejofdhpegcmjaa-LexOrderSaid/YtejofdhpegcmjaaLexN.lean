/- The words of programs: plain Lean. -/
import Derived.Test.YtejofdhpegcmjaaBase
namespace Go.Proofs.Ytejofdhpegcmjaa
open Go.RowKit

def letB (c : UInt8) : Bool := decide (65 ≤ c.toNat ∧ c.toNat ≤ 90) || (decide (97 ≤ c.toNat ∧ c.toNat ≤ 122) || decide (c.toNat = 95))
def digB (c : UInt8) : Bool := decide (48 ≤ c.toNat ∧ c.toNat ≤ 57)
def namB (c : UInt8) : Bool := letB c || digB c
def notFeedB (c : UInt8) : Bool := !decide (c.toNat = 10)
def runN (is : UInt8 → Bool) : List UInt8 → Nat
  | [] => 0
  | c :: t => if is c then runN is t + 1 else 0
theorem runN_le (is : UInt8 → Bool) : ∀ l, runN is l ≤ l.length
  | [] => Nat.le_refl _
  | c :: t => by
    have := runN_le is t
    unfold runN
    split <;> simp <;> omega

/-- The words, the own functions. -/
def wordL : List (List UInt8) := [[66, 69, 71, 73, 78], [69, 78, 68], [102, 117, 110, 99, 116, 105, 111, 110], [105, 102], [101, 108, 115, 101], [119, 104, 105, 108, 101], [102, 111, 114], [100, 111], [98, 114, 101, 97, 107], [99, 111, 110, 116, 105, 110, 117, 101], [110, 101, 120, 116], [101, 120, 105, 116], [114, 101, 116, 117, 114, 110], [100, 101, 108, 101, 116, 101], [105, 110], [103, 101, 116, 108, 105, 110, 101], [112, 114, 105, 110, 116], [112, 114, 105, 110, 116, 102], [112, 101, 114, 115, 105, 115, 116]]
def ownL : List (List UInt8) := [[108, 101, 110, 103, 116, 104], [115, 117, 98, 115, 116, 114], [105, 110, 100, 101, 120], [115, 112, 108, 105, 116], [115, 117, 98], [103, 115, 117, 98], [109, 97, 116, 99, 104], [115, 112, 114, 105, 110, 116, 102], [116, 111, 108, 111, 119, 101, 114], [116, 111, 117, 112, 112, 101, 114], [105, 110, 116], [115, 121, 110, 99]]
def wordB (l : List UInt8) : Bool := decide (l ∈ wordL)
def ownB (l : List UInt8) : Bool := decide (l ∈ ownL)
def nameB (l : List UInt8) : Bool := decide (l ≠ [] ∧ l.length ≤ 40) && ((match l with | [] => false | c :: _ => letB c) && (l.all namB && (!wordB l && !ownB l)))

/-- What is passed over ahead of a token. -/
def passN : Nat → List UInt8 → Nat
  | 0, _ => 0
  | f + 1, l => match l with
    | [] => 0
    | c :: t => if c = 32 then passN f t + 1 else if c = 9 then passN f t + 1 else if c = 92 ∧ t.head? = some 10 then passN f (t.drop 1) + 2
      else if c = 35 then passN f (t.drop (runN notFeedB t)) + (runN notFeedB t + 1) else 0
def numN (l : List UInt8) : Nat :=
  if (l.drop (runN digB l)).head? = some 46 then runN digB l + 1 + runN digB (l.drop (runN digB l + 1)) else runN digB l

def sign2L : List (List UInt8) := [[43, 43], [45, 45], [43, 61], [45, 61], [42, 61], [47, 61], [37, 61], [61, 61], [33, 61], [60, 61], [62, 61], [62, 62], [33, 126], [38, 38], [124, 124]]
def sign1L : List (List UInt8) := [[123], [125], [40], [41], [91], [93], [59], [44], [43], [45], [42], [47], [37], [60], [62], [33], [126], [63], [58], [61], [36]]
def signB (l : List UInt8) : Bool := decide (l ∈ sign2L ++ sign1L)
def signN (l : List UInt8) : Nat := if 2 ≤ l.length ∧ signB (l.take 2) = true then 2 else if 1 ≤ l.length ∧ signB (l.take 1) = true then 1 else 0

def meantN (c : UInt8) : List UInt8 := if c.toNat = 110 then [10] else if c.toNat = 116 then [9] else if c.toNat = 92 ∨ c.toNat = 34 ∨ c.toNat = 47 then [c] else [92, c]
/-- A text behind its first ": what it stands for, how many bytes it takes. -/
def textN : List UInt8 → Option (List UInt8 × Nat)
  | [] => none
  | c :: t => if c.toNat = 10 then none else if c.toNat = 34 then some ([], 1) else if c.toNat = 92 then (match t with
      | [] => none
      | d :: u => if d.toNat = 10 then none else (textN u).map fun r => (meantN d ++ r.1, r.2 + 2))
    else (textN t).map fun r => (c :: r.1, r.2 + 1)
/-- A pattern behind its first /: 0 outside of a bracket, 1 right behind [, 2 behind [^, 3 within. -/
def nextQ (q : Nat) (c : UInt8) : Nat := if q = 0 then (if c.toNat = 91 then 1 else 0) else if q = 1 then (if c.toNat = 94 then 2 else 3) else if q = 2 then 3 else if c.toNat = 93 then 0 else 3
def escN (d : UInt8) : List UInt8 := if d.toNat = 47 then [d] else [92, d]
def patN : Nat → List UInt8 → Option (List UInt8 × Nat)
  | _, [] => none
  | q, c :: t => if c.toNat = 10 then none else if q = 0 ∧ c.toNat = 47 then some ([], 1) else if c.toNat = 92 then (match t with
      | [] => none
      | d :: u => if d.toNat = 10 then none else (patN (if q = 0 then 0 else 3) u).map fun r => (escN d ++ r.1, r.2 + 2))
    else (patN (nextQ q c) t).map fun r => (c :: r.1, r.2 + 1)

/-- A token: its kind, its text, its place. -/
structure Tok where
  K : Int
  S : ByteArray
  A : Int
def zeroT : Tok := ⟨0, ⟨#[]⟩, 0⟩
def endsOperand : List (List UInt8) := [[41], [93], [43, 43], [45, 45], [36]]
def operandB (t : Tok) : Bool := decide (t.K = 2 ∨ t.K = 3 ∨ t.K = 5 ∨ t.K = 8) || (decide (t.K = 9) && decide (t.S.data.toList ∈ endsOperand))

/-- What a token comes to: its kind, its text, how many bytes it takes; or what is wrong. -/
inductive Rd1 where
  | got (K : Int) (S : List UInt8) (n : Nat)
  | bad (x : Int)
def nameN (l : List UInt8) : Rd1 :=
  if 40 < runN namB l then .bad 2 else .got (if wordB (l.take (runN namB l)) = true then 7 else if ownB (l.take (runN namB l)) = true then 8 else if (l.drop (runN namB l)).head? = some 40 then 6 else 5) (l.take (runN namB l)) (runN namB l)
def quoteN (K : Int) : Option (List UInt8 × Nat) → Rd1
  | none => .bad 3
  | some r => .got K r.1 (r.2 + 1)
def readN (l : List UInt8) (op : Bool) : Rd1 := match l with
  | [] => .got 0 [] 0
  | c :: t => if c.toNat = 10 then .got 1 [c] 1 else if letB c = true then nameN l
    else if digB c = true ∨ (c.toNat = 46 ∧ (match t with | [] => false | d :: _ => digB d) = true) then .got 2 (l.take (numN l)) (numN l)
    else if c.toNat = 34 then quoteN 3 (textN t) else if c.toNat = 47 ∧ op = false then quoteN 4 (patN 0 t)
    else if signN l = 0 then .bad 4 else .got 9 (l.take (signN l)) (signN l)
end Go.Proofs.Ytejofdhpegcmjaa
