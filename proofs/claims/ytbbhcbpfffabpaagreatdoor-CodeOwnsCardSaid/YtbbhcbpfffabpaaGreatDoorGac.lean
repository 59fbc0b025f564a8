/- Merged by program: Env, EnvOf, G10, Fmt. -/
import Derived.Lib.ItoaMem
import Derived.Lib.AppendIntMem
import Derived.Lib.LaidTab
import Derived.WalkSmall
import Derived.Test.YtbbhcbpfffabpaaGreatDoorTie
import Derived.Test.YtbbhcbpfffabpaaGreatDoorCards
import Derived.ProofKit
import Derived.OpenShut
import Derived.Deep.DeepHandedRow
import Derived.Test.YtbbhcbpfffabpaaGreatDoorGaa
import Derived.Test.YtbbhcbpfffabpaaGreatDoorGab
/- Facts on the world that the program's calls read: the table of powers of ten, two places of the table of trailing zeros, MaxLen. -/
namespace Go.Proofs.YtbbhcbpfffabpaaGreatDoor
open Go.RowKit

structure Env (w : World) : Prop where
  tab : Lib.TabIs Tryz.prog w "internal/strconv.uint64pow10" .u64 Lib.pow10Tab
  z8 : w.cell? ⟨5, 7, none⟩ = some (.int .u8 3)
  z16 : w.cell? ⟨5, 15, none⟩ = some (.int .u8 4)
  ml : ∃ m : Int, w.cell? ⟨0, 0, none⟩ = some (.int .i64 m)

theorem pow10_named : Tryz.prog.globalNamed "internal/strconv.uint64pow10" = some 3 := by kernel_rfl
theorem Env.after {w w' : World} (h : Env w) (hb : Below w.heap.size w w') : Env w' := by
  have key : ∀ (b o : Nat) (v : Value), w.cell? ⟨b, o, none⟩ = some v → w'.cell? ⟨b, o, none⟩ = some v := fun b o v hv => by
    rw [hb.cell (p := ⟨b, o, none⟩) (cell_lt hv)]; exact hv
  refine ⟨?_, key _ _ _ h.z8, key _ _ _ h.z16, ?_⟩
  · have h0 : w.cell? ⟨3, 0, none⟩ = some (.int .u64 1) := by
      rw [World.var?_cell pow10_named h.tab 0]; rfl
    exact var?_below hb pow10_named (cell_lt h0) h.tab
  · obtain ⟨m, hm⟩ := h.ml
    exact ⟨m, key _ _ _ hm⟩
end Go.Proofs.YtbbhcbpfffabpaaGreatDoor

/- What a row's condition and a world's shape tell of the tables that the program's calls read; the world in which the tables are laid. -/
namespace Go.Proofs.YtbbhcbpfffabpaaGreatDoor
open Go.ChangeShapes Go.WideShapes Go.ChangeAt Go.RowKit Go.ChangeMaps

theorem laid_tail {P : Program} {W : World} {x : String × DataW Unit} {l : List (String × DataW Unit)} (h : laidMet P (x :: l) W) : laidMet P l W := by
  obtain ⟨n, d⟩ := x
  obtain ⟨ps, ⟨g', t', cs, fuel, p, q, hg', ht', hvar, hd, hrest, rfl⟩, hn, hr⟩ := h
  exact ⟨q, hrest, (List.nodup_append.1 hn).2.1, fun b off hb => hr b off (List.mem_append_right _ hb)⟩
def tab64 : List Int := [0, 1, 56, 2, 57, 49, 28, 3, 61, 58, 42, 50, 38, 29, 17, 4, 62, 47, 59, 36, 45, 43, 51, 22, 53, 39, 33, 30, 24, 18, 12, 5, 63, 55, 48, 27, 60, 41, 37, 16, 46, 35, 44, 21, 52, 32, 23, 11, 54, 26, 40, 15, 34, 20, 31, 10, 25, 14, 19, 9, 13, 8, 7, 6]
theorem env_of {W : World} (h : laidMet Tryz.prog [("math/bits.deBruijn32tab", Rows.laid_math_bits_deBruijn32tab), ("math/bits.deBruijn64tab", Rows.laid_math_bits_deBruijn64tab), ("internal/strconv.uint64pow10", Rows.laid_internal_strconv_uint64pow10)] W) (hsh : W.ShapedOpen Tryz.prog) : Env W := by
  have h2 := laid_tail h
  have h3 := laid_tail h2
  have t64 : Lib.TabIs Tryz.prog W "math/bits.deBruijn64tab" .u8 tab64 := Lib.tabIs_of_head (g := 5) (t := 166) (e := 5) (n := 64) (by kernel_rfl) (by kernel_rfl) (by kernel_rfl) (by kernel_rfl) (by kernel_rfl) (by kernel_rfl) h2
  have t10 : Lib.TabIs Tryz.prog W "internal/strconv.uint64pow10" .u64 Lib.pow10Tab := Lib.tabIs_of_head (g := 3) (t := 160) (e := 81) (n := 20) (by kernel_rfl) (by kernel_rfl) (by kernel_rfl) (by kernel_rfl) (by kernel_rfl) (by kernel_rfl) h3
  have hg : Tryz.prog.globalNamed "math/bits.deBruijn64tab" = some 5 := by kernel_rfl
  exact ⟨t10, t64.cell hg 7 (by decide), t64.cell hg 15 (by decide), Tryz.laysM219.s1_3 W hsh⟩

theorem wf_fits {a : Int} (h : (Lit.int .i64 a).wf = true) : -9223372036854775808 ≤ a ∧ a ≤ 9223372036854775807 := by
  have e1 : IntKind.i64.min = -9223372036854775808 := by decide
  have e2 : IntKind.i64.max = 9223372036854775807 := by decide
  simp [Lit.wf, e1, e2] at h
  omega

def layPow : Obj → Obj
  | .cells _ t frozen => .cells (([1, 10, 100, 1000, 10000, 100000, 1000000, 10000000, 100000000, 1000000000, 10000000000, 100000000000, 1000000000000, 10000000000000, 100000000000000, 1000000000000000, 10000000000000000, 100000000000000000, 1000000000000000000, 10000000000000000000] : List Nat).map fun (n : Nat) => Value.int .u64 (n : Int)).toArray t frozen
  | o => o
def lay32 : Obj → Obj
  | .cells _ t frozen => .cells (([0, 1, 28, 2, 29, 14, 24, 3, 30, 22, 20, 15, 25, 17, 4, 8, 31, 27, 13, 23, 21, 19, 16, 7, 26, 12, 18, 6, 11, 5, 10, 9] : List Nat).map fun (n : Nat) => Value.int .u8 (n : Int)).toArray t frozen
  | o => o
def lay64 : Obj → Obj
  | .cells _ t frozen => .cells (([0, 1, 56, 2, 57, 49, 28, 3, 61, 58, 42, 50, 38, 29, 17, 4, 62, 47, 59, 36, 45, 43, 51, 22, 53, 39, 33, 30, 24, 18, 12, 5, 63, 55, 48, 27, 60, 41, 37, 16, 46, 35, 44, 21, 52, 32, 23, 11, 54, 26, 40, 15, 34, 20, 31, 10, 25, 14, 19, 9, 13, 8, 7, 6] : List Nat).map fun (n : Nat) => Value.int .u8 (n : Int)).toArray t frozen
  | o => o
/-- The settled world, the three tables laid as their initialisers lay them. -/
noncomputable def laidWorld (os : Os) : World :=
  { World.holding Tryz.prog os ⟨#[], #[], []⟩ with heap := (((World.holding Tryz.prog os ⟨#[], #[], []⟩).heap.modify 3 layPow).modify 4 lay32).modify 5 lay64 }

theorem post_reads {H : Type} {enc : TypeId × Value → H} {f : Func} {s : ChangeSpec} {fresh handsOn : Bool} {W W' : World} {args : Array Value} {v : Value} {ds gs : List (DataW H)} {before : List MemPlace}
    (hW : DataW.Whole enc Tryz.prog f.params.toList s.vars false W args.toList ds gs before)
    (hres : ∀ (b : Nat) (sp : Nat → Bool) (hd : Bool), DataW.TrodAll enc Tryz.prog W' b sp hd f.resultTypes.toList (v.resultList f.resultTypes.size) (s.fn H (ds ++ gs)).results [])
    (hargs : ∀ sp : Nat → Bool, (∀ p ∈ before, sp p.block = true) → DataW.TrodAll enc Tryz.prog W' 0 sp true f.params.toList args.toList (s.fn H (ds ++ gs)).args before)
    (hvars : ∀ sp : Nat → Bool, DataW.TrodVars enc Tryz.prog W' sp s.vars (s.fn H (ds ++ gs)).vars [])
    (hb : Below W.heap.size W W') :
    s.post enc Tryz.prog f false fresh handsOn false W args v W' := by
  have hold : ∀ p ∈ before, (fun b => decide (b < W.heap.size)) p.block = true := fun p hp => by simpa using hW.lt p hp
  refine ⟨ds, gs, before, [], before, [], hW, hres _ _ _, hargs _ hold, hvars _, World.keptBut_mono (fun p hp => ⟨hp, Or.inr (by simpa using hp)⟩) (hb.frame (· ∈ before)), fun h => ?_⟩
  exact absurd h (by simp)
end Go.Proofs.YtbbhcbpfffabpaaGreatDoor

/- The document's answers of layer 10, plain: digits that are read, a directive, digits of a base, so many of a byte. -/
namespace Go.Proofs.YtbbhcbpfffabpaaGreatDoor
open Go.RowKit

/-- Digits that are read as a number, above 200 as 201; how many. -/
def digs : List UInt8 → Nat → Nat × Nat
  | [], n => (n, 0)
  | b :: l, n => if 48 ≤ b.toNat ∧ b.toNat ≤ 57 then ((digs l (if 200 < n * 10 + (b.toNat - 48) then 201 else n * 10 + (b.toNat - 48))).1, (digs l (if 200 < n * 10 + (b.toNat - 48) then 201 else n * 10 + (b.toNat - 48))).2 + 1) else (n, 0)
theorem digs_le : ∀ (l : List UInt8) (n : Nat), n ≤ 201 → (digs l n).1 ≤ 201 ∧ (digs l n).2 ≤ l.length
  | [], n, h => ⟨h, Nat.le_refl _⟩
  | b :: l, n, h => by
    unfold digs
    split
    · have := digs_le l (if 200 < n * 10 + (b.toNat - 48) then 201 else n * 10 + (b.toNat - 48)) (by split <;> omega)
      exact ⟨this.1, by simp only [List.length_cons]; omega⟩
    · exact ⟨h, by simp⟩

/-- A directive: its flags, its width and its precision (-1: not said, -2: a cell's), its letter. -/
structure Dir where
  left : Bool
  plus : Bool
  blank : Bool
  zero : Bool
  wide : Int
  prec : Int
  letter : Nat

/-- Flags that are read. -/
def flagsR : List UInt8 → Dir → Dir × Nat
  | [], d => (d, 0)
  | b :: l, d => if b.toNat = 45 ∨ b.toNat = 43 ∨ b.toNat = 32 ∨ b.toNat = 48 then
      ((flagsR l { d with left := d.left || b.toNat == 45, plus := d.plus || b.toNat == 43, blank := d.blank || b.toNat == 32, zero := d.zero || b.toNat == 48 }).1,
       (flagsR l { d with left := d.left || b.toNat == 45, plus := d.plus || b.toNat == 43, blank := d.blank || b.toNat == 32, zero := d.zero || b.toNat == 48 }).2 + 1)
    else (d, 0)
theorem flagsR_le : ∀ (l : List UInt8) (d : Dir), (flagsR l d).2 ≤ l.length
  | [], _ => Nat.le_refl _
  | b :: l, d => by
    unfold flagsR
    split
    · have := flagsR_le l { d with left := d.left || b.toNat == 45, plus := d.plus || b.toNat == 43, blank := d.blank || b.toNat == 32, zero := d.zero || b.toNat == 48 }
      simp only [List.length_cons]; omega
    · simp

/-- A star, or digits. -/
def numR (l : List UInt8) : Int × Nat := match l with
  | [] => (0, 0)
  | b :: r => if b.toNat = 42 then (-2, 1) else (((digs (b :: r) 0).1 : Int), (digs (b :: r) 0).2)
theorem numR_le (l : List UInt8) : (numR l).2 ≤ l.length ∧ -2 ≤ (numR l).1 ∧ (numR l).1 ≤ 201 := by
  unfold numR
  split
  · simp
  · rename_i b r
    split
    · simp
    · have := digs_le (b :: r) 0 (by omega)
      exact ⟨this.2, by omega, by omega⟩

/-- A point and what is behind it. -/
def pointR (l : List UInt8) : Int × Nat := match l with
  | [] => (-1, 0)
  | b :: r => if b.toNat = 46 then ((numR r).1, (numR r).2 + 1) else (-1, 0)
theorem pointR_le (l : List UInt8) : (pointR l).2 ≤ l.length ∧ -2 ≤ (pointR l).1 ∧ (pointR l).1 ≤ 201 := by
  unfold pointR
  split
  · simp
  · rename_i b r
    split
    · have := numR_le r
      exact ⟨by simp only [List.length_cons]; omega, this.2⟩
    · simp

def isLetter (b : Nat) : Bool := b == 100 || b == 105 || b == 111 || b == 120 || b == 88 || b == 99 || b == 115 || b == 102 || b == 37

/-- How many bytes of a directive stand ahead of its letter, and what it says. -/
def headR (l : List UInt8) : Dir × Nat :=
  let a := flagsR l ⟨false, false, false, false, 0, -1, 0⟩
  let w := numR (l.drop a.2)
  let p := pointR (l.drop (a.2 + w.2))
  ({ a.1 with wide := w.1, prec := p.1 }, a.2 + w.2 + p.2)
theorem headR_le (l : List UInt8) : (headR l).2 ≤ l.length := by
  unfold headR
  have h1 := flagsR_le l ⟨false, false, false, false, 0, -1, 0⟩
  have h2 := (numR_le (l.drop (flagsR l ⟨false, false, false, false, 0, -1, 0⟩).2)).1
  have h3 := (pointR_le (l.drop ((flagsR l ⟨false, false, false, false, 0, -1, 0⟩).2 + (numR (l.drop (flagsR l ⟨false, false, false, false, 0, -1, 0⟩).2)).2))).1
  simp only [List.length_drop] at h2 h3
  show _ + _ + _ ≤ _
  omega

/-- A byte of digits of a base. -/
def bdig (great : Bool) (d : Nat) : UInt8 := if d < 10 then (48 + d).toUInt8 else if great then (55 + d).toUInt8 else (87 + d).toUInt8
/-- Digits of a base. -/
def baseS (b : Nat) (great : Bool) : Nat → Nat → List UInt8
  | 0, _ => []
  | k + 1, n => if n < b then [bdig great n] else baseS b great k (n / b) ++ [bdig great (n % b)]
theorem baseS_len (b : Nat) (great : Bool) : ∀ k n, (baseS b great k n).length ≤ k
  | 0, _ => Nat.le_refl _
  | k + 1, n => by
    unfold baseS
    split
    · simp
    · have := baseS_len b great k (n / b)
      simp only [List.length_append, List.length_singleton]; omega
theorem baseS_more (b : Nat) (great : Bool) (hb : 1 < b) : ∀ k n, n < b ^ (k + 1) → baseS b great (k + 1) n = baseS b great (k + 2) n
  | 0, n, h => by
    rw [Nat.zero_add, Nat.pow_one] at h
    show (if n < b then _ else _) = (if n < b then _ else _)
    rw [if_pos h, if_pos h]
  | k + 1, n, h => by
    show (if n < b then _ else _) = (if n < b then _ else _)
    by_cases hn : n < b
    · rw [if_pos hn, if_pos hn]
    · rw [if_neg hn, if_neg hn, baseS_more b great hb k (n / b) (by
        rw [Nat.div_lt_iff_lt_mul (by omega), ← Nat.pow_succ]; exact h)]

theorem baseS_fuel (b : Nat) (great : Bool) (hb : 1 < b) (n : Nat) : ∀ (d k : Nat), n < b ^ (k + 1) → baseS b great (k + 1) n = baseS b great (k + 1 + d) n
  | 0, _, _ => rfl
  | d + 1, k, h => by
    rw [baseS_more b great hb k n h, baseS_fuel b great hb n d (k + 1) (Nat.lt_of_lt_of_le h (Nat.pow_le_pow_right (by omega) (by omega))), show k + 1 + 1 + d = k + 1 + (d + 1) from by omega]

/-- So many decimal digits. -/
def fixT : Nat → Nat → List UInt8
  | 0, _ => []
  | k + 1, p => fixT k (p / 10) ++ [bdig false (p % 10)]
theorem fixT_len : ∀ k p, (fixT k p).length = k
  | 0, _ => rfl
  | k + 1, p => by
    unfold fixT
    rw [List.length_append, fixT_len k, List.length_singleton]
theorem fixT_top : ∀ (k p : Nat), p < 10 ^ (k + 1) → fixT (k + 1) p = bdig false (p / 10 ^ k) :: fixT k (p % 10 ^ k)
  | 0, p, h => by
    rw [Nat.zero_add, Nat.pow_one] at h
    simp [fixT, Nat.mod_eq_of_lt h]
  | k + 1, p, h => by
    have h1 : p / 10 < 10 ^ (k + 1) := by
      rw [Nat.div_lt_iff_lt_mul (by omega), ← Nat.pow_succ]; exact h
    have e1 : fixT (k + 1 + 1) p = fixT (k + 1) (p / 10) ++ [bdig false (p % 10)] := rfl
    have e2 : fixT (k + 1) (p % 10 ^ (k + 1)) = fixT k (p % 10 ^ (k + 1) / 10) ++ [bdig false (p % 10 ^ (k + 1) % 10)] := rfl
    rw [e1, e2, fixT_top k (p / 10) h1, Nat.div_div_eq_div_mul, ← Nat.pow_succ']
    have e3 : p / 10 % 10 ^ k = p % 10 ^ (k + 1) / 10 := by
      rw [Nat.pow_succ', Nat.mod_mul_right_div_self]
    have e4 : p % 10 ^ (k + 1) % 10 = p % 10 := Nat.mod_mod_of_dvd _ ⟨10 ^ k, by rw [Nat.pow_succ']⟩
    rw [e3, e4]
    rfl
theorem fixT_base : ∀ (m y : Nat), y < 10 ^ (m + 1) → (m = 0 ∨ 10 ^ m ≤ y) → fixT (m + 1) y = baseS 10 false (m + 1) y
  | 0, y, h, _ => by
    rw [Nat.zero_add, Nat.pow_one] at h
    show fixT 0 (y / 10) ++ [bdig false (y % 10)] = (if y < 10 then _ else _)
    rw [if_pos h, Nat.mod_eq_of_lt h]
    rfl
  | m + 1, y, h, h0 => by
    have h1 : 10 ^ (m + 1) ≤ y := by rcases h0 with h0 | h0; omega; exact h0
    have hp : 10 ≤ 10 ^ (m + 1) := by rw [Nat.pow_succ]; have := Nat.pow_pos (n := m) (show 0 < 10 by omega); omega
    show fixT (m + 1) (y / 10) ++ [bdig false (y % 10)] = (if y < 10 then _ else _)
    rw [if_neg (by omega), fixT_base m (y / 10) (by rw [Nat.div_lt_iff_lt_mul (by omega), ← Nat.pow_succ]; exact h) (Or.inr (by rw [Nat.le_div_iff_mul_le (by omega), ← Nat.pow_succ]; exact h1))]

/-- A number with so many digits behind the point. -/
def keepN (many : Nat) : Nat := min many 6
def roundN (a many : Nat) : Nat := (2 * a + 10 ^ (6 - keepN many)) / (2 * 10 ^ (6 - keepN many))
/-- What is behind the point, with it. -/
def fracT (keep x : Nat) : List UInt8 := if keep = 0 then [] else 46 :: fixT keep (x % 10 ^ keep)
def fixedT (a many : Nat) : List UInt8 := baseS 10 false 20 (roundN a many / 10 ^ keepN many) ++ fracT (keepN many) (roundN a many) ++ List.replicate (many - keepN many) 48
def clampN (i : Int) : Nat := if i < 0 then 0 else if 200 < i then 200 else i.toNat
def fixedS (n : Int) (digits : Int) : List UInt8 := (if n < 0 then [45] else []) ++ fixedT n.natAbs (clampN digits)

/-- The text when so many digits are put, the last first. -/
def growT (keep x i : Nat) : List UInt8 := if i ≤ keep then fixT i (x % 10 ^ i) else fixT (i - keep) (x / 10 ^ keep % 10 ^ (i - keep)) ++ fracT keep x
theorem growT_zero (keep x : Nat) : growT keep x 0 = [] := by simp [growT, fixT]
theorem growT_step (keep x i : Nat) : growT keep x (i + 1) = bdig false (x / 10 ^ i % 10) :: (if i = keep ∧ 0 < keep then 46 :: growT keep x i else growT keep x i) := by
  by_cases h1 : i < keep
  · unfold growT
    rw [if_pos (by omega), if_neg (by omega), if_pos (by omega), fixT_top i _ (Nat.mod_lt _ (Nat.pow_pos (by omega)))]
    congr 2
    · rw [Nat.pow_succ, Nat.mod_mul_right_div_self]
    · rw [Nat.mod_mod_of_dvd _ ⟨10, by rw [Nat.pow_succ]⟩]
  · by_cases h2 : i = keep
    · subst h2
      unfold growT
      rw [if_neg (by omega), if_pos (Nat.le_refl _), show i + 1 - i = 1 from by omega, Nat.pow_one]
      have e : fixT 1 (x / 10 ^ i % 10) = [bdig false (x / 10 ^ i % 10)] := by
        show fixT 0 _ ++ [bdig false (x / 10 ^ i % 10 % 10)] = _
        rw [Nat.mod_mod]; rfl
      rw [e]
      unfold fracT
      by_cases h0 : i = 0
      · subst h0; simp [fixT]
      · rw [if_neg h0, if_pos ⟨rfl, by omega⟩]; rfl
    · obtain ⟨d, rfl⟩ : ∃ d, i = keep + 1 + d := ⟨i - keep - 1, by omega⟩
      unfold growT
      rw [if_neg (by omega), if_neg (by omega), if_neg (by omega), show keep + 1 + d + 1 - keep = d + 1 + 1 from by omega, show keep + 1 + d - keep = d + 1 from by omega,
        fixT_top (d + 1) _ (Nat.mod_lt _ (Nat.pow_pos (by omega)))]
      rw [List.cons_append]
      congr 2
      · rw [Nat.pow_succ 10 (d + 1), Nat.mod_mul_right_div_self, Nat.div_div_eq_div_mul, ← Nat.pow_add, show keep + (d + 1) = keep + 1 + d from by omega]
      · rw [Nat.mod_mod_of_dvd _ ⟨10, by rw [Nat.pow_succ 10 (d + 1)]⟩]
theorem growT_end (keep x i : Nat) (hi : keep < i) (hx : x < 10 ^ i) (hm : i = keep + 1 ∨ 10 ^ (i - 1) ≤ x) (h20 : i - keep ≤ 20) :
    growT keep x i = baseS 10 false 20 (x / 10 ^ keep) ++ fracT keep x := by
  obtain ⟨m, rfl⟩ : ∃ m, i = keep + (m + 1) := ⟨i - keep - 1, by omega⟩
  unfold growT
  have hp : 0 < 10 ^ keep := Nat.pow_pos (by omega)
  have h1 : x / 10 ^ keep < 10 ^ (m + 1) := by
    rw [Nat.div_lt_iff_lt_mul hp, ← Nat.pow_add, Nat.add_comm]; exact hx
  rw [if_neg (by omega), show keep + (m + 1) - keep = m + 1 from by omega, Nat.mod_eq_of_lt h1, fixT_base m _ h1]
  · rw [baseS_fuel 10 false (by omega) _ (20 - (m + 1)) m h1, show m + 1 + (20 - (m + 1)) = 20 from by omega]
  · rcases hm with h | h
    · exact Or.inl (by omega)
    · refine Or.inr ?_
      rw [Nat.le_div_iff_mul_le hp, ← Nat.pow_add, show m + keep = keep + (m + 1) - 1 from by omega]
      exact h
end Go.Proofs.YtbbhcbpfffabpaaGreatDoor

/- strconv.FormatUint at bases 10, 8, 16: walks. -/
namespace Go.Proofs.YtbbhcbpfffabpaaGreatDoor
open Go.RowKit Go.Sort

/-- A text that is told, and memory that stands. -/
def TextOut (l : List UInt8) (w : World) (e : Ending) (w' : World) : Prop := e = .returned (.string ⟨l.toArray⟩) ∧ Below w.heap.size w w'

theorem array24 : Tryz.prog.arrayLen 155 = 24 := by kernel_rfl
theorem array24_el : Tryz.prog.elem 155 = 5 := by kernel_rfl
theorem array24_at : Tryz.prog.underlying 155 = some (.array (Tryz.prog.arrayLen 155) (Tryz.prog.elem 155)) := by kernel_rfl

set_option maxRecDepth 100000 in
set_option maxHeartbeats 1000000 in
theorem fmt10_in (u : Nat) (hu : u < 18446744073709551616) (w : World) (hE : Env w) :
    Calls Tryz.prog 154 #[.int .u64 u, .int .i64 10] w (TextOut (Lib.decDigits u) w) := by
  by_cases hs : u < 100
  · have d1 : decide ((u : Int) < 100) = true := decide_eq_true (by omega)
    go_enter Tryz.func154, Tryz.ntmps154
    go_wp2_with (go_at_call 155; refine (Tryz.internal_strconv_small u hs _).mono ?_; rintro e w' ⟨rfl, rfl⟩)
    go_ret
    exact ⟨rfl, Below.refl _ _⟩
  · have d1 : decide ((u : Int) < 100) = false := decide_eq_false (by omega)
    have hu1 : 1 ≤ u := by omega
    have hnd20 : Lib.nDigits u ≤ 20 := by have := Lib.numDigits_eq u hu1 hu; split at this <;> omega
    have hsl1 : ∀ W, (Instr.sliceAt 155 (.pointer (some ⟨w.heap.size, 0, none⟩)) none (some (.int .i64 (Lib.nDigits u : Int))) none).run Tryz.prog W = .ok (.slice (some ⟨w.heap.size, 0, none⟩) (Lib.nDigits u) 24) W := fun W => by
      rw [run_sliceAt_array_h W 155 ⟨w.heap.size, 0, none⟩ array24_at .i64 (Lib.nDigits u : Int) (by omega) (by rw [array24]; omega)]
      rw [array24, array24_el, Tryz.sizeOf5]
      simp only [Result.andThen, slicedAt, Int.toNat_natCast, Nat.mul_one]
      rw [if_neg (by omega)]
      have ea : Addr.add ⟨w.heap.size, 0, none⟩ 0 = ⟨w.heap.size, 0, none⟩ := by unfold Addr.add; rw [if_pos rfl]
      rw [ea]; simp
    have hH0 := Lib.holds_zero0 w 155 (Lib.nDigits u) (by omega)
    have hfmt := Tryz.internal_strconv_formatBase10 w.heap.size 0 24 u (Array.replicate (Lib.nDigits u) 0) (w.alloc (.cells Lib.zeros24 155)) hH0 (by rw [Array.size_replicate]; exact Lib.lt_pow_nDigits u) hu (by rw [Array.size_replicate]; omega)
    rw [Array.size_replicate] at hfmt
    have HH0 := Lib.hid hH0
    have HT := Lib.hid (Lib.tabIs_alloc hE.tab (.cells Lib.zeros24 155))
    clear hH0
    go_enter Tryz.func154, Tryz.ntmps154
    go_wp2_with (go_at_call 156; refine (Tryz.internal_strconv_numDigits u hu1 hu _ HT.out).mono ?_; rintro e w' ⟨rfl, rfl⟩)
    go_at_call 157
    refine hfmt.mono ?_
    rintro e w' ⟨rfl, k, v', dk, rfl, hF⟩
    have hcv : (convert 66 9 (.slice (some ⟨w.heap.size, 0, none⟩) (Lib.nDigits u) 24)).run Tryz.prog ((putRow (fun (b : UInt8) => Value.int .u8 (b.toNat : Int)) (w.alloc (.cells Lib.zeros24 155)) w.heap.size 0 dk).drewN k) = .ok (.string ⟨(Lib.decDigits u).toArray⟩) ((putRow (fun (b : UInt8) => Value.int .u8 (b.toNat : Int)) (w.alloc (.cells Lib.zeros24 155)) w.heap.size 0 dk).drewN k) := by
      have h := run_convert_bytes_back (P := Tryz.prog) ((putRow (fun (b : UInt8) => Value.int .u8 (b.toNat : Int)) (w.alloc (.cells Lib.zeros24 155)) w.heap.size 0 dk).drewN k) 66 9 5 ⟨w.heap.size, 0, none⟩ 24 (Lib.decDigits u) Tryz.underlying66 Tryz.underlying5 Tryz.underlying9 (fun j hj => by
        rw [Lib.row_is_numeral hF j hj, Lib.add_plain, World.cell?_drewN]
        exact cell?_putRow (fun (b : UInt8) => Value.int .u8 (b.toNat : Int)) _ w.heap.size 0 _ dk HH0.out (by rw [hF.size, Array.size_replicate]) j (by rw [hF.size]; rw [Lib.decDigits_length] at hj; exact hj))
      rw [Lib.decDigits_length] at h
      exact h
    go_wp2
    go_ret
    obtain ⟨os, eo⟩ := Lib.fin_at w (.cells Lib.zeros24 155) dk k 0
    exact ⟨rfl, by rw [eo]; exact Lib.below_grow _ w (Nat.le_refl _) k os⟩
end Go.Proofs.YtbbhcbpfffabpaaGreatDoor
