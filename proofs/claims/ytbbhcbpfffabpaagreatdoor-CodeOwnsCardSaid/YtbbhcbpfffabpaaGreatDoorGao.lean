/- Merged by program: T3CellD, G10Do, PadP. -/
import Derived.Test.YtbbhcbpfffabpaaGreatDoorGak
import Derived.Test.YtbbhcbpfffabpaaGreatDoorGam
import Derived.Test.YtbbhcbpfffabpaaGreatDoorGan
import Derived.Test.YtbbhcbpfffabpaaGreatDoorGae
import Derived.Test.YtbbhcbpfffabpaaGreatDoorGag
/- Contracts of the document's answers for cells: Input, Str, Compare. -/
namespace Go.Proofs.YtbbhcbpfffabpaaGreatDoor.T3
open Go.Proofs.YtbbhcbpfffabpaaGreatDoor Go.Proofs
open Go.RowKit
open Go.Lib (compareBytes)

theorem refShow_is (n : Int) (w : World) (hn : Fits n) :
    Calls Tryz.prog 48 #[.int .i64 n] w fun e w' => e = .returned (.string (showT n)) ∧ Below w.heap.size w w' :=
  (refShow_any n w hn).mono fun _ _ ⟨_, ht, he, hb⟩ => ⟨by rw [he, showT_of ht], hb⟩

theorem ref_cases (t : ByteArray) :
    (wholeB t = true ∧ pR t.data.toList = 0 ∧ pE t.data.toList = t.size ∧ 0 < t.size) ∨
    (wholeB t = false ∧ ¬ 0 < t.size) ∨
    (wholeB t = false ∧ 0 < t.size ∧ ((pE t.data.toList : Int) == (t.size : Int)) = false) ∨
    (wholeB t = false ∧ 0 < t.size ∧ pE t.data.toList = t.size ∧ (pR t.data.toList == 0) = false) := by
  by_cases h0 : 0 < t.size
  · by_cases h2 : pE t.data.toList = t.size
    · by_cases h3 : pR t.data.toList = 0
      · exact Or.inl ⟨by unfold wholeB; rw [h2, h3, decide_eq_true (show t.size ≠ 0 by omega)]; simp, h3, h2, h0⟩
      · exact Or.inr (Or.inr (Or.inr ⟨by unfold wholeB; rw [decide_eq_false h3]; simp, h0, h2, beq_eq_false_iff_ne.2 h3⟩))
    · exact Or.inr (Or.inr (Or.inl ⟨by unfold wholeB; rw [decide_eq_false h2]; simp, h0, by rw [beq_eq_false_iff_ne]; omega⟩))
  · refine Or.inr (Or.inl ⟨?_, h0⟩)
    unfold wholeB
    by_cases h2 : pE t.data.toList = t.size
    · rw [h2, decide_eq_false (show ¬ t.size ≠ 0 by omega)]; simp
    · rw [decide_eq_false h2]; simp

set_option maxHeartbeats 1000000 in
theorem refInput_any (s : ByteArray) (hs : s.size ≤ 300) (w : World) :
    Calls Tryz.prog 33 #[.string s] w fun e w' => e = .returned (.agg #[.int .i64 (inK s), .int .i64 (inN s), .string s]) ∧ Below w.heap.size w w' := by
  have T := Lib.hid (fun w => refTrim_any s (by simp only [maxLen]; omega) w)
  have P := Lib.hid (fun w => refParse_any (trimB s) w (by have := trimB_size s; omega))
  have hz : (trimB s).size ≤ 300 := by have := trimB_size s; omega
  have P3 := Lib.hid (parse_three (trimB s).data.toList)
  have R0 := Lib.hid (tri_new w (.int .i64 0) (.int .i64 0) (.string ⟨#[]⟩) 25)
  have B0 := Lib.hid (below_new w (.cells #[.int .i64 0, .int .i64 0, .string ⟨#[]⟩] 25))
  clear hs
  unfold inK inN looksB
  rcases ref_cases (trimB s) with ⟨h0, h1, h2, h3⟩ | ⟨h0, h1⟩ | ⟨h0, h1, h2⟩ | ⟨h0, h1, h2, h3⟩
  · rw [h0, if_pos rfl, if_pos rfl]
    rw [h1, h2] at P3
    clear h1 h2
    clear h0
    go_enter Tryz.func33, Tryz.ntmps33
    go_wp2_with fail
    refine (T.out _).mono ?_
    rintro e w1 ⟨rfl, rfl⟩
    go_wp2_with fail
    refine (P.out _).mono ?_
    rintro e w2 ⟨rfl, b2⟩
    have R2 := Lib.hid (R0.out.below b2)
    have B2 := Lib.hid (Below.step B0.out b2); clear b2
    have c0 := R2.out.c0; have c1 := R2.out.c1; have c2 := R2.out.c2; have f0 := R2.out.f0; have f1 := R2.out.f1; have f2 := R2.out.f2
    rw [P3.out]
    go_wp2_with fail
    obtain ⟨e0, e1, e2, hb⟩ := tri_end R2.out B2.out (.int .i64 3) (.int .i64 (pN (trimB s).data.toList)) (.string s)
    refine bodyPost_ret (v := .agg #[.int .i64 3, .int .i64 (pN (trimB s).data.toList), .string s]) (by simp [results, Tryz.results33, go_sem, e0, e1, e2]) rfl ⟨rfl, hb⟩
  · rw [h0, if_neg (by decide), if_neg (by decide)]
    clear h0
    go_enter Tryz.func33, Tryz.ntmps33
    go_wp2_with fail
    refine (T.out _).mono ?_
    rintro e w1 ⟨rfl, rfl⟩
    go_wp2_with fail
    refine (P.out _).mono ?_
    rintro e w2 ⟨rfl, b2⟩
    have R2 := Lib.hid (R0.out.below b2)
    have B2 := Lib.hid (Below.step B0.out b2); clear b2
    have c0 := R2.out.c0; have c1 := R2.out.c1; have c2 := R2.out.c2; have f0 := R2.out.f0; have f1 := R2.out.f1; have f2 := R2.out.f2
    rw [P3.out]
    go_wp2_with fail
    obtain ⟨e0, e1, e2, hb⟩ := tri_end R2.out B2.out (.int .i64 2) (.int .i64 0) (.string s)
    refine bodyPost_ret (v := .agg #[.int .i64 2, .int .i64 0, .string s]) (by simp [results, Tryz.results33, go_sem, e0, e1, e2]) rfl ⟨rfl, hb⟩
  · rw [h0, if_neg (by decide), if_neg (by decide)]
    clear h0
    go_enter Tryz.func33, Tryz.ntmps33
    go_wp2_with fail
    refine (T.out _).mono ?_
    rintro e w1 ⟨rfl, rfl⟩
    go_wp2_with fail
    refine (P.out _).mono ?_
    rintro e w2 ⟨rfl, b2⟩
    have R2 := Lib.hid (R0.out.below b2)
    have B2 := Lib.hid (Below.step B0.out b2); clear b2
    have c0 := R2.out.c0; have c1 := R2.out.c1; have c2 := R2.out.c2; have f0 := R2.out.f0; have f1 := R2.out.f1; have f2 := R2.out.f2
    rw [P3.out]
    go_wp2_with fail
    obtain ⟨e0, e1, e2, hb⟩ := tri_end R2.out B2.out (.int .i64 2) (.int .i64 0) (.string s)
    refine bodyPost_ret (v := .agg #[.int .i64 2, .int .i64 0, .string s]) (by simp [results, Tryz.results33, go_sem, e0, e1, e2]) rfl ⟨rfl, hb⟩
  · rw [h0, if_neg (by decide), if_neg (by decide)]
    rw [h2] at P3
    clear h2
    clear h0
    go_enter Tryz.func33, Tryz.ntmps33
    go_wp2_with fail
    refine (T.out _).mono ?_
    rintro e w1 ⟨rfl, rfl⟩
    go_wp2_with fail
    refine (P.out _).mono ?_
    rintro e w2 ⟨rfl, b2⟩
    have R2 := Lib.hid (R0.out.below b2)
    have B2 := Lib.hid (Below.step B0.out b2); clear b2
    have c0 := R2.out.c0; have c1 := R2.out.c1; have c2 := R2.out.c2; have f0 := R2.out.f0; have f1 := R2.out.f1; have f2 := R2.out.f2
    rw [P3.out]
    go_wp2_with fail
    obtain ⟨e0, e1, e2, hb⟩ := tri_end R2.out B2.out (.int .i64 2) (.int .i64 0) (.string s)
    refine bodyPost_ret (v := .agg #[.int .i64 2, .int .i64 0, .string s]) (by simp [results, Tryz.results33, go_sem, e0, e1, e2]) rfl ⟨rfl, hb⟩

theorem refStr_any (k n : Int) (s : ByteArray) (hn : Fits n) (w : World) :
    Calls Tryz.prog 21 #[.agg #[.int .i64 k, .int .i64 n, .string s]] w fun e w' => e = .returned (.string (strC k n s)) ∧ Below w.heap.size w w' := by
  have S := Lib.hid (fun w => refShow_is n w hn)
  have B0 := Lib.hid ((Below.refl w.heap.size w).alloc (Nat.le_refl _) (.cells #[.int .i64 k, .int .i64 n, .string s] 25))
  rcases kind_cases k with rfl | rfl | rfl | rfl | ⟨g0, g1, g2, g3⟩
  · go_enter Tryz.func21, Tryz.ntmps21
    go_wp2_with fail
    go_ret
    exact ⟨rfl, B0.out⟩
  · go_enter Tryz.func21, Tryz.ntmps21
    go_wp2_with fail
    refine (S.out _).mono ?_
    rintro e w1 ⟨rfl, b1⟩
    have B1 := Lib.hid (Below.step B0.out b1); clear b1
    go_wp2_with fail
    go_ret
    exact ⟨rfl, B1.out⟩
  · go_enter Tryz.func21, Tryz.ntmps21
    go_wp2_with fail
    go_ret
    exact ⟨rfl, B0.out⟩
  · go_enter Tryz.func21, Tryz.ntmps21
    go_wp2_with fail
    go_ret
    exact ⟨rfl, B0.out⟩
  · have e : strC k n s = ⟨#[]⟩ := by
      rw [beq_eq_false_iff_ne] at g1 g2 g3
      unfold strC
      rw [if_neg g1, if_neg (by simp [g2, g3])]
    rw [e]; clear e
    go_enter Tryz.func21, Tryz.ntmps21
    go_wp2_with fail
    go_ret
    exact ⟨rfl, B0.out⟩

theorem showT_size (n : Int) : (showT n).size ≤ 21 := by
  have h := showText_len n
  rw [Lib.size_eq]
  exact h
theorem strC_size (k n : Int) (s : ByteArray) (hs : s.size ≤ 300) : (strC k n s).size ≤ 300 := by
  unfold strC
  split
  · have := showT_size n; omega
  · split
    · exact hs
    · exact Nat.zero_le _

def refCmpC (k n : Int) (s : ByteArray) (k' n' : Int) (s' : ByteArray) : Int :=
  if k = 2 ∨ k' = 2 then compareBytes (strC k n s).data.toList (strC k' n' s').data.toList else if n = n' then 0 else if n < n' then -1 else 1

end Go.Proofs.YtbbhcbpfffabpaaGreatDoor.T3

/- What a format makes, plain: a directive's answer, all of a format's, how many cells it takes. -/
namespace Go.Proofs.YtbbhcbpfffabpaaGreatDoor
open Go.RowKit

/-- A cell: its kind, its number, its text. -/
structure Cel where
  k : Int
  n : Int
  s : ByteArray
def noTxt : ByteArray := ⟨#[]⟩
def noCel : Cel := ⟨0, 0, noTxt⟩
def Cel.val (c : Cel) : Value := .agg #[.int .i64 c.k, .int .i64 c.n, .string c.s]
def Cel.str (c : Cel) : ByteArray := T3.strC c.k c.n c.s
def Cel.num (c : Cel) : Int := if c.k = 2 then T3.pN c.s.data.toList else if c.k = 1 ∨ c.k = 3 then c.n else 0
def Cel.err (c : Cel) : Int := if c.k = 2 then T3.pR c.s.data.toList else 0

def ofL (l : List UInt8) : ByteArray := ⟨l.toArray⟩
theorem ofL_list (l : List UInt8) : (ofL l).data.toList = l := by simp [ofL]
theorem ofL_size (l : List UInt8) : (ofL l).size = l.length := by rw [Lib.size_eq, ofL_list]
theorem ofL_of (s : ByteArray) : ofL s.data.toList = s := T2.bytes_ext (ofL_list _)
def fillS (x : UInt8) (k : Nat) : ByteArray := ofL (List.replicate k x)
theorem fillS_size (x : UInt8) (k : Nat) : (fillS x k).size = k := by unfold fillS; rw [ofL_size]; simp

/-- A cell's number for a width. -/
def starS (c : Cel) : Int × Int := if c.err ≠ 0 then (0, c.err) else if c.num.tdiv 1000000 < 0 ∨ 200 < c.num.tdiv 1000000 then (0, 100) else (c.num.tdiv 1000000, 0)

def signS (d : Dir) (minus : Bool) : ByteArray := if minus then ofL [45] else if d.plus then ofL [43] else if d.blank then ofL [32] else noTxt

/-- How many bytes are lacking. -/
def lackN (s : ByteArray) (wide : Int) : Nat := clampN wide - T2.cnt s 0
theorem clampN_le (i : Int) : clampN i ≤ 200 := by unfold clampN; split; omega; split <;> omega
theorem lackN_le (s : ByteArray) (wide : Int) : lackN s wide ≤ 200 := by have := clampN_le wide; unfold lackN; omega
/-- A text begins with a sign. -/
def signed (s : ByteArray) : Bool := match s.data.toList with
  | [] => false
  | b :: _ => b.toNat == 45 || b.toNat == 43 || b.toNat == 32
def signAt (s : ByteArray) : Nat := if signed s then 1 else 0
/-- A text, so wide. -/
def padS (s : ByteArray) (wide : Int) (left zero : Bool) : ByteArray :=
  if left then s ++ fillS 32 (lackN s wide)
  else if zero then s.extract 0 (signAt s) ++ fillS 48 (lackN s wide) ++ s.extract (signAt s) s.size
  else fillS 32 (lackN s wide) ++ s
theorem signAt_le (s : ByteArray) : signAt s ≤ s.size := by
  unfold signAt
  cases hs : signed s
  · simp
  · unfold signed at hs
    cases e : s.data.toList with
    | nil => rw [e] at hs; simp at hs
    | cons b l => rw [Lib.size_eq, e]; simp
theorem padS_size (s : ByteArray) (wide : Int) (left zero : Bool) : (padS s wide left zero).size ≤ s.size + 200 := by
  have h := lackN_le s wide
  have h2 := signAt_le s
  unfold padS
  split
  · rw [ByteArray.size_append, fillS_size]; omega
  split
  · rw [ByteArray.size_append, ByteArray.size_append, fillS_size, T2.part_size _ _ _ h2, T2.part_size _ _ _ (Nat.le_refl _)]; omega
  · rw [ByteArray.size_append, fillS_size]; omega
theorem padS_wide (s : ByteArray) {a b : Int} (h : clampN a = clampN b) (left zero : Bool) : padS s a left zero = padS s b left zero := by
  unfold padS lackN
  rw [h]

/-- The whole part's digits, as many as the precision. -/
def digS (n : Int) (b : Nat) (great : Bool) (prec : Int) : ByteArray :=
  if prec = 0 ∧ n.tdiv 1000000 = 0 then noTxt else fillS 48 (clampN prec - (wholeS n b great).length) ++ ofL (wholeS n b great)
/-- A character by its number. -/
def chrS (q : Int) : ByteArray × Int := if q < 0 ∨ 1114111 < q ∨ (55296 ≤ q ∧ q ≤ 57343) then (noTxt, 100) else (Utf8.encode q, 0)
/-- What a directive makes of a cell, as wide as it comes. -/
def bodyS (d : Dir) (c : Cel) : ByteArray × Int :=
  if d.letter = 99 then (if c.k = 1 then chrS (c.n.tdiv 1000000) else (T2.subB c.str 1 1, 0))
  else if d.letter = 115 then (if d.prec = -1 then c.str else T2.subB c.str 1 d.prec, 0)
  else if c.err ≠ 0 then (noTxt, c.err)
  else if d.letter = 102 then (signS d (decide (c.num < 0)) ++ ofL (fixedT c.num.natAbs (clampN (if d.prec = -1 then 6 else d.prec))), 0)
  else if d.letter = 111 then (digS c.num 8 false d.prec, 0)
  else if d.letter = 120 then (digS c.num 16 false d.prec, 0)
  else if d.letter = 88 then (digS c.num 16 true d.prec, 0)
  else (signS d (decide (c.num ≤ -1000000)) ++ digS c.num 10 false d.prec, 0)
/-- Whether noughts may stand ahead. -/
def zeroB (d : Dir) : Bool := d.zero && (if d.letter = 102 then true else if d.letter = 99 ∨ d.letter = 115 then false else d.prec == -1)
def makeS (d : Dir) (c : Cel) : ByteArray × Int := if (bodyS d c).2 ≠ 0 then (noTxt, (bodyS d c).2) else (padS (bodyS d c).1 d.wide d.left (zeroB d), 0)

def hdC (cs : List Cel) : Cel := cs.headD noCel
/-- A width that a cell tells. -/
def fillV (x : Int) (cs : List Cel) : Int := if x = -2 then (starS (hdC cs)).1 else x
def fillE (x : Int) (cs : List Cel) : Int := if x = -2 then (starS (hdC cs)).2 else 0
def fillC (x : Int) (cs : List Cel) : List Cel := if x = -2 then cs.tail else cs
/-- A directive whose stars are told. -/
def toldD (d : Dir) (cs : List Cel) : Dir := { d with wide := fillV d.wide cs, prec := fillV d.prec (fillC d.wide cs) }
def leftC (d : Dir) (cs : List Cel) : List Cel := fillC d.prec (fillC d.wide cs)
/-- What a directive makes of the next cells. -/
def dirT (d : Dir) (cs : List Cel) : ByteArray × Int :=
  if fillE d.wide cs ≠ 0 then (noTxt, fillE d.wide cs)
  else if fillE d.prec (fillC d.wide cs) ≠ 0 then (noTxt, fillE d.prec (fillC d.wide cs))
  else if d.letter = 37 then (ofL [37], 0)
  else makeS (toldD d cs) (hdC (leftC d cs))
def dirC (d : Dir) (cs : List Cel) : List Cel := if d.letter = 37 then leftC d cs else (leftC d cs).tail
def takesD (d : Dir) : Nat := (if d.wide = -2 then 1 else 0) + (if d.prec = -2 then 1 else 0) + (if d.letter = 37 then 0 else 1)

/-- A directive that is read, and how many bytes it has behind its %. -/
def readS (l : List UInt8) : Option (Dir × Nat) := match l.drop (headR l).2 with
  | [] => none
  | b :: _ => if 200 < (headR l).1.wide ∨ 200 < (headR l).1.prec ∨ isLetter b.toNat = false then none else some ({ (headR l).1 with letter := b.toNat }, (headR l).2 + 1)

def catS (out : ByteArray) (r : ByteArray × Int) : ByteArray × Int := if r.2 = 0 then (out ++ r.1, 0) else (noTxt, r.2)
/-- What a format makes. -/
def doS : Nat → List UInt8 → List Cel → ByteArray × Int
  | 0, _, _ => (noTxt, 0)
  | _ + 1, [], _ => (noTxt, 0)
  | n + 1, b :: r, cs => if b.toNat = 37 then (match readS r with
      | none => (noTxt, 100)
      | some (d, k) => if (dirT d cs).2 ≠ 0 then (noTxt, (dirT d cs).2) else catS (dirT d cs).1 (doS n (r.drop k) (dirC d cs)))
    else catS (ofL [b]) (doS n r cs)
/-- How many cells a format takes. -/
def countS : Nat → List UInt8 → Option Nat
  | 0, _ => some 0
  | _ + 1, [] => some 0
  | n + 1, b :: r => if b.toNat = 37 then (match readS r with
      | none => none
      | some (d, k) => (countS n (r.drop k)).map (· + takesD d))
    else countS n r
def doL (l : List UInt8) (cs : List Cel) : ByteArray × Int := doS l.length l cs
def countL (l : List UInt8) : Option Nat := countS l.length l

theorem doS_fuel : ∀ (m n : Nat) (l : List UInt8) (cs : List Cel), l.length ≤ m → l.length ≤ n → doS m l cs = doS n l cs
  | 0, 0, _, _, _, _ => rfl
  | 0, n + 1, [], _, _, _ => rfl
  | 0, _ + 1, b :: r, _, h, _ => absurd h (by simp)
  | _ + 1, 0, [], _, _, _ => rfl
  | _ + 1, 0, b :: r, _, _, h => absurd h (by simp)
  | m + 1, n + 1, [], _, _, _ => rfl
  | m + 1, n + 1, b :: r, cs, h1, h2 => by
    have g1 : r.length ≤ m := by simpa using h1
    have g2 : r.length ≤ n := by simpa using h2
    unfold doS
    split
    · split
      · rfl
      · rename_i d k _
        rw [doS_fuel m n (r.drop k) _ (by simp; omega) (by simp; omega)]
    · rw [doS_fuel m n r cs g1 g2]
theorem countS_fuel : ∀ (m n : Nat) (l : List UInt8), l.length ≤ m → l.length ≤ n → countS m l = countS n l
  | 0, 0, _, _, _ => rfl
  | 0, n + 1, [], _, _ => rfl
  | 0, _ + 1, b :: r, h, _ => absurd h (by simp)
  | _ + 1, 0, [], _, _ => rfl
  | _ + 1, 0, b :: r, _, h => absurd h (by simp)
  | m + 1, n + 1, [], _, _ => rfl
  | m + 1, n + 1, b :: r, h1, h2 => by
    have g1 : r.length ≤ m := by simpa using h1
    have g2 : r.length ≤ n := by simpa using h2
    unfold countS
    split
    · split
      · rfl
      · rename_i d k _
        rw [countS_fuel m n (r.drop k) (by simp; omega) (by simp; omega)]
    · rw [countS_fuel m n r g1 g2]
theorem doL_nil (cs : List Cel) : doL [] cs = (noTxt, 0) := rfl
theorem doL_other {b : UInt8} (h : b.toNat ≠ 37) (r : List UInt8) (cs : List Cel) : doL (b :: r) cs = catS (ofL [b]) (doL r cs) := by
  unfold doL
  show (if b.toNat = 37 then _ else _) = _
  rw [if_neg h]
theorem doL_none {r : List UInt8} (h : readS r = none) (cs : List Cel) {b : UInt8} (hb : b.toNat = 37) : doL (b :: r) cs = (noTxt, 100) := by
  unfold doL
  show (if b.toNat = 37 then _ else _) = _
  rw [if_pos hb, h]
theorem doL_some {r : List UInt8} {d : Dir} {k : Nat} (h : readS r = some (d, k)) (cs : List Cel) {b : UInt8} (hb : b.toNat = 37) :
    doL (b :: r) cs = if (dirT d cs).2 ≠ 0 then (noTxt, (dirT d cs).2) else catS (dirT d cs).1 (doL (r.drop k) (dirC d cs)) := by
  unfold doL
  show (if b.toNat = 37 then _ else _) = _
  rw [if_pos hb, h]
  dsimp only
  rw [doS_fuel r.length (r.drop k).length (r.drop k) _ (by simp) (Nat.le_refl _)]
theorem countL_nil : countL [] = some 0 := rfl
theorem countL_other {b : UInt8} (h : b.toNat ≠ 37) (r : List UInt8) : countL (b :: r) = countL r := by
  unfold countL
  show (if b.toNat = 37 then _ else _) = _
  rw [if_neg h]
theorem countL_none {r : List UInt8} (h : readS r = none) {b : UInt8} (hb : b.toNat = 37) : countL (b :: r) = none := by
  unfold countL
  show (if b.toNat = 37 then _ else _) = _
  rw [if_pos hb, h]
theorem countL_some {r : List UInt8} {d : Dir} {k : Nat} (h : readS r = some (d, k)) {b : UInt8} (hb : b.toNat = 37) :
    countL (b :: r) = (countL (r.drop k)).map (· + takesD d) := by
  unfold countL
  show (if b.toNat = 37 then _ else _) = _
  rw [if_pos hb, h]
  dsimp only
  rw [countS_fuel r.length (r.drop k).length (r.drop k) (by simp) (Nat.le_refl _)]
theorem catS_nil (r : ByteArray × Int) (h : r.2 ≠ 0 → r.1 = noTxt) : catS noTxt r = r := by
  unfold catS
  split
  · rename_i h0
    have e : noTxt ++ r.1 = r.1 := T2.bytes_ext (by simp [noTxt])
    rw [e, ← h0]
  · rename_i h0
    rw [← h h0]
theorem catS_cat (a b : ByteArray) (r : ByteArray × Int) : catS a (catS b r) = catS (a ++ b) r := by
  obtain ⟨x, e⟩ := r
  unfold catS
  by_cases h : e = 0
  · subst h
    show (a ++ (b ++ x), (0 : Int)) = (a ++ b ++ x, 0)
    exact congrArg (·, (0 : Int)) (T2.bytes_ext (by simp))
  · simp only [if_neg h]
end Go.Proofs.YtbbhcbpfffabpaaGreatDoor

/- format.Pad: a walk. -/
namespace Go.Proofs.YtbbhcbpfffabpaaGreatDoor
open Go.RowKit

/-- A told text, and memory that stands. -/
def StrOut (s : ByteArray) (w : World) (e : Ending) (w' : World) : Prop := e = .returned (.string s) ∧ Below w.heap.size w w'
theorem rep_one (x : UInt8) : ∀ c, Lib.repeatL [x] c = List.replicate c x
  | 0 => rfl
  | c + 1 => by
    show [x] ++ Lib.repeatL [x] c = _
    rw [rep_one x c]; rfl
theorem repeat_one (x : UInt8) (c : Nat) (hc : c ≤ 1000) (w : World) :
    Calls Tryz.prog 129 #[.string ⟨#[x]⟩, .int .i64 c] w (StrOut (fillS x c) w) := by
  refine (Tryz.strings_Repeat ⟨#[x]⟩ c w (by omega) (by
    have e : (⟨#[x]⟩ : ByteArray).size = 1 := rfl
    rw [e]; omega)).mono ?_
  rintro e w' ⟨rfl, hb⟩
  refine ⟨?_, hb⟩
  rw [show (⟨#[x]⟩ : ByteArray).data.toList = [x] from rfl, rep_one]
  rfl

theorem emp_of {s : ByteArray} (h : s.size = 0) : s.toList = [] ∧ s.toList.isEmpty = true ∧ (!s.toList.isEmpty) = false := by
  have e0 : s.toList = [] := by
    rw [Lib.toList_data]
    exact List.eq_nil_of_length_eq_zero (by rw [← Lib.size_eq]; exact h)
  rw [e0]
  exact ⟨rfl, rfl, rfl⟩
theorem ne_of {s : ByteArray} (h : 0 < s.size) : s.toList.isEmpty = false ∧ (!s.toList.isEmpty) = true := by
  have e : s.toList.isEmpty = false := by
    rw [Lib.toList_data]
    cases hl : s.data.toList with
    | nil => rw [Lib.size_eq, hl] at h; simp at h
    | cons a l => rfl
  rw [e]
  exact ⟨rfl, rfl⟩
theorem head_of {s : ByteArray} (h : 0 < s.size) : s.data.toList = s[0] :: s.data.toList.drop 1 := by
  have h1 : 0 < s.data.toList.length := by rw [← Lib.size_eq]; exact h
  have := List.drop_eq_getElem_cons h1
  rw [List.drop_zero] at this
  exact this

theorem sign_index (b : UInt8) : decide ((0 : Int) ≤ Lib.indexByte [45, 43, 32] b) = (b.toNat == 45 || b.toNat == 43 || b.toNat == 32) := by
  have h : ∀ k : Fin 256, decide ((0 : Int) ≤ Lib.indexByte [45, 43, 32] (UInt8.ofNat k.val)) = ((UInt8.ofNat k.val).toNat == 45 || (UInt8.ofNat k.val).toNat == 43 || (UInt8.ofNat k.val).toNat == 32) := by decide +kernel
  have e : UInt8.ofNat b.toNat = b := by simp
  have := h ⟨b.toNat, b.toNat_lt⟩
  rw [e] at this
  exact this

theorem signed_at {s : ByteArray} (h : 0 < s.size) : signed s = decide ((0 : Int) ≤ Lib.indexByte [45, 43, 32] s[0]) := by
  rw [sign_index]
  unfold signed
  rw [head_of h]

set_option maxRecDepth 100000 in
theorem digitsAt_any (s : ByteArray) (w : World) :
    Calls Tryz.prog 130 #[.string s] w fun e w' => e = .returned (.int .i64 (signAt s : Nat)) ∧ w = w' := by
  by_cases h0 : s.size = 0
  · obtain ⟨e0, e1, e2⟩ := emp_of h0
    have HS : Hid (((signAt s : Nat) : Int) = 0) := Lib.hid (by have := signAt_le s; omega)
    clear h0
    go_enter Tryz.func130, Tryz.ntmps130
    go_wp2_with fail
    go_ret
    exact ⟨T2.ret_i64 HS.out.symm, rfl⟩
  · have hp : 0 < s.size := by omega
    obtain ⟨e1, e2⟩ := ne_of hp
    have HS := Lib.hid (signed_at hp)
    have HC := Lib.hid (fun w => Tryz.strings_IndexByte ⟨#[45, 43, 32]⟩ (s[0].toNat : Int) w)
    have e3 : ((s[0].toNat : Int)).toNat.toUInt8 = s[0] := by simp
    obtain ⟨I, hI⟩ : ∃ I, I = Lib.indexByte [45, 43, 32] s[0] := ⟨_, rfl⟩
    have hK : ∀ w, Calls Tryz.prog 104 #[.string ⟨#[45, 43, 32]⟩, .int .u8 (s[0].toNat : Int)] w fun e w' => e = .returned (.int .i64 I) ∧ w' = w := fun w => by
      have := HC.out w
      rw [e3, show (⟨#[45, 43, 32]⟩ : ByteArray).data.toList = [45, 43, 32] from rfl, ← hI] at this
      exact this
    have HK := Lib.hid hK
    rw [← hI] at HS
    clear hI e3 hK h0 HC
    by_cases hi : 0 ≤ I
    · have d1 : decide (0 ≤ I) = true := decide_eq_true hi
      have HR : Hid (((signAt s : Nat) : Int) = 1) := Lib.hid (by unfold signAt; rw [HS.out, d1]; rfl)
      go_enter Tryz.func130, Tryz.ntmps130
      go_wp2_with (go_at_call 104; refine (HK.out _).mono ?_; rintro e w' ⟨rfl, rfl⟩)
      go_ret
      exact ⟨T2.ret_i64 HR.out.symm, rfl⟩
    · have d1 : decide (0 ≤ I) = false := decide_eq_false hi
      have HR : Hid (((signAt s : Nat) : Int) = 0) := Lib.hid (by unfold signAt; rw [HS.out, d1]; rfl)
      go_enter Tryz.func130, Tryz.ntmps130
      go_wp2_with (go_at_call 104; refine (HK.out _).mono ?_; rintro e w' ⟨rfl, rfl⟩)
      go_ret
      exact ⟨T2.ret_i64 HR.out.symm, rfl⟩

theorem keep0 {w0 W W' : World} (h : Hid (Below w0.heap.size w0 W)) (hb : Below W.heap.size W W') : Hid (Below w0.heap.size w0 W') := Lib.hid (Below.step h.out hb)
theorem take_sign {s : ByteArray} {k : Nat} : s.extract 0 k ++ fillS 48 0 = s.extract 0 k := T2.bytes_ext (by simp [fillS, ofL])

set_option maxRecDepth 100000 in
set_option maxHeartbeats 1000000 in
theorem padP_any (s : ByteArray) (hs : s.size ≤ 1000000) (wide : Int) (left zero : Bool) (w : World) :
    Calls Tryz.prog 108 #[.string s, .int .i64 wide, .bool left, .bool zero] w (StrOut (padS s wide left zero) w) := by
  have HW := Lib.hid (fun w => within_any wide w)
  have HL := Lib.hid (fun w => T2.len_any s (by unfold maxLen; omega) w)
  have HG := Lib.hid (fun w => digitsAt_any s w)
  have hc : T2.cnt s 0 ≤ s.size := T2.cnt_le s s.size 0 (by omega)
  have hw := clampN_le wide
  obtain ⟨W, hWe⟩ : ∃ W, W = clampN wide := ⟨_, rfl⟩
  obtain ⟨C, hCe⟩ : ∃ C, C = T2.cnt s 0 := ⟨_, rfl⟩
  rw [← hWe] at HW hw
  rw [← hCe] at HL hc
  obtain ⟨M, hMe⟩ : ∃ M, M = W - C := ⟨_, rfl⟩
  have hM : lackN s wide = M := by unfold lackN; rw [← hWe, ← hCe, hMe]
  have hM200 : M ≤ 200 := by omega
  have hmax : max ((W : Int) - (C : Int)) 0 = (M : Int) := by rw [hMe]; omega
  have HP : Hid (padS s wide left zero = if left then s ++ fillS 32 M else if zero then s.extract 0 (signAt s) ++ fillS 48 M ++ s.extract (signAt s) s.size else fillS 32 M ++ s) := Lib.hid (by unfold padS; rw [hM])
  have HR := Lib.hid (fun (x : UInt8) (w : World) => repeat_one x M (by omega) w)
  have fin : ∀ t e w', padS s wide left zero = t → StrOut t w e w' → StrOut (padS s wide left zero) w e w' := fun t e w' h h2 => by rw [h]; exact h2
  have FIN := Lib.hid fin
  clear fin hM hMe hWe hCe
  go_enter Tryz.func108, Tryz.ntmps108
  go_wp2_with fail
  refine (HW.out _).mono ?_
  rintro e w1 ⟨rfl, rfl⟩
  go_wp2_with fail
  refine (HL.out _).mono ?_
  rintro e w1 ⟨rfl, b1⟩
  have B1 := Lib.hid b1
  clear b1
  cases left with
  | true =>
    have n1 : ¬ 9223372036854775807 < s.size + (fillS 32 M).size := by rw [fillS_size]; omega
    go_wp2_with fail
    refine (HR.out 32 _).mono ?_
    rintro e w2 ⟨rfl, b2⟩
    have B2 := Lib.hid (Below.step B1.out b2)
    clear b2
    go_wp2_with fail
    go_ret
    exact FIN.out _ _ _ (by rw [HP.out]; rfl) ⟨rfl, B2.out⟩
  | false =>
    cases zero with
    | false =>
      have n1 : ¬ 9223372036854775807 < (fillS 32 M).size + s.size := by rw [fillS_size]; omega
      go_wp2_with fail
      refine (HR.out 32 _).mono ?_
      rintro e w2 ⟨rfl, b2⟩
      have B2 := Lib.hid (Below.step B1.out b2)
      clear b2
      go_wp2_with fail
      go_ret
      exact FIN.out _ _ _ (by rw [HP.out]; rfl) ⟨rfl, B2.out⟩
    | true =>
      obtain ⟨A, hA⟩ : ∃ A, A = signAt s := ⟨_, rfl⟩
      have hAle := signAt_le s
      rw [← hA] at HG HP hAle
      clear hA
      have z1 : (s.extract 0 A).size = A := (T2.part_size s 0 A hAle).trans (by omega)
      have z2 : (s.extract A s.size).size = s.size - A := T2.part_size s A s.size (Nat.le_refl _)
      have n1 : ¬ 9223372036854775807 < (s.extract 0 A).size + (fillS 48 M).size := by rw [fillS_size, z1]; omega
      have n2 : ¬ 9223372036854775807 < (s.extract 0 A).size + (fillS 48 M).size + (s.extract A s.size).size := by rw [fillS_size, z1, z2]; omega
      have hmin : min A s.size = A := by omega
      have n3 : ¬ 9223372036854775807 < A + (fillS 48 M).size := by rw [fillS_size]; omega
      have n4 : ¬ 9223372036854775807 < A + (fillS 48 M).size + (s.size - A) := by rw [fillS_size]; omega
      clear z1 z2
      go_wp2_with fail
      refine (HG.out _).mono ?_
      rintro e w2 ⟨rfl, rfl⟩
      go_wp2_with fail
      go_region_held3 (fun w' => Hid (Below w.heap.size w w')) (first | exact keep0 B1 (below_drew _) | exact keep0 (by assumption) (by assumption) | assumption)
        (first | (go_at_call 129; refine (HR.out 48 _).mono ?_; rintro e v1 ⟨rfl, a1⟩))
      have HH : Hid (Below w.heap.size w v1) := by assumption
      go_wp2_with fail
      go_ret
      exact FIN.out _ _ _ (by rw [HP.out]; rfl) ⟨rfl, HH.out⟩
end Go.Proofs.YtbbhcbpfffabpaaGreatDoor
