/- Merged by program: T3CellB, T3CellC, T3RefMath, T3RefA, T3RefB, T3RefC. -/
import Derived.Laws.OwnMore
import Derived.Deep.QuietTactic
import Derived.BigQuiet
import Derived.Deep.DeepCutAuto
import Derived.Deep.CutBlock
import Derived.Test.YtbbhcbpfffabpaaGreatDoorGaj
import Derived.Test.YtbbhcbpfffabpaaGreatDoorGai
/- Contracts of cell.Input, Compare. -/
namespace Go.Proofs.YtbbhcbpfffabpaaGreatDoor.T3
open Go.Proofs.YtbbhcbpfffabpaaGreatDoor Go.Proofs
open Go.RowKit
open Go.Lib (compareBytes)

/-! ### Input -/
def looksB (s : ByteArray) : Bool := wholeB (trimB s)
def inK (s : ByteArray) : Int := if looksB s then 3 else 2
def inN (s : ByteArray) : Int := if looksB s then pN (trimB s).data.toList else 0

theorem dropWhile_le (p : UInt8 → Bool) : ∀ l : List UInt8, (l.dropWhile p).length ≤ l.length
  | [] => Nat.le_refl _
  | a :: l => by
    rw [List.dropWhile_cons]
    split
    · have := dropWhile_le p l; simp; omega
    · exact Nat.le_refl _
theorem trimB_size (s : ByteArray) : (trimB s).size ≤ s.size := by
  have h : (Lib.trimS s.data.toList [32, 9, 10]).length ≤ s.data.toList.length := by
    unfold Lib.trimS Lib.trimLeftS Lib.trimRightS
    refine Nat.le_trans (dropWhile_le _ _) ?_
    rw [List.length_reverse]
    refine Nat.le_trans (dropWhile_le _ _) ?_
    rw [List.length_reverse]
    exact Nat.le_refl _
  rw [Lib.size_eq, Lib.size_eq]
  exact h

def cmpC (k n : Int) (s : ByteArray) (k' n' : Int) (s' : ByteArray) : Int :=
  if k = 2 ∨ k' = 2 then compareBytes (strC k n s).data.toList (strC k' n' s').data.toList else cmpI (numC k n) (numC k' n')

theorem boxed2 (w : World) (x y z x' y' z' : Value) (t t' : TypeId) :
    Hid (Below w.heap.size w ((w.alloc (.cells #[x, y, z] t)).alloc (.cells #[x', y', z'] t'))) ∧ Tri ((w.alloc (.cells #[x, y, z] t)).alloc (.cells #[x', y', z'] t')) w.heap.size x y z ∧ Tri ((w.alloc (.cells #[x, y, z] t)).alloc (.cells #[x', y', z'] t')) (w.heap.size + 1) x' y' z' := by
  have h := tri_new (w.alloc (.cells #[x, y, z] t)) x' y' z' t'
  rw [World.size_alloc] at h
  exact ⟨Lib.hid (Below.step (below_new _ _) (below_new _ _)), (tri_new w x y z t).below (below_new _ _), h⟩

end Go.Proofs.YtbbhcbpfffabpaaGreatDoor.T3

/- Contract of cell.Can. -/
namespace Go.Proofs.YtbbhcbpfffabpaaGreatDoor.T3
open Go.Proofs.YtbbhcbpfffabpaaGreatDoor Go.Proofs
open Go.RowKit

/-- There can be such a cell. -/
def canB (k n : Int) (s : ByteArray) : Bool :=
  if k = 0 then decide (n = 0 ∧ s.toList = []) else if k = 1 then decide (s.toList = []) else if k = 2 then decide (n = 0) else if k = 3 then decide (looksB s = true ∧ n = inN s) else false
theorem canB_0 (n : Int) (s : ByteArray) : canB 0 n s = decide (n = 0 ∧ s.toList = []) := rfl
theorem canB_1 (n : Int) (s : ByteArray) : canB 1 n s = decide (s.toList = []) := rfl
theorem canB_2 (n : Int) (s : ByteArray) : canB 2 n s = decide (n = 0) := rfl
theorem canB_3 (n : Int) (s : ByteArray) : canB 3 n s = decide (looksB s = true ∧ n = inN s) := rfl
theorem canB_else {k : Int} (n : Int) (s : ByteArray) (g0 : (k == 0) = false) (g1 : (k == 1) = false) (g2 : (k == 2) = false) (g3 : (k == 3) = false) : canB k n s = false := by
  rw [beq_eq_false_iff_ne] at g0 g1 g2 g3
  unfold canB
  rw [if_neg g0, if_neg g1, if_neg g2, if_neg g3]

/-- How a cell stands: what it is, and that it can be or can't. -/
theorem can_cases (k n : Int) (s : ByteArray) :
    (k = 0 ∧ n = 0 ∧ s.toList = [] ∧ canB k n s = true) ∨ (k = 0 ∧ n = 0 ∧ ¬ s.toList = [] ∧ canB k n s = false) ∨ (k = 0 ∧ ¬ n = 0 ∧ canB k n s = false) ∨
    (k = 1 ∧ s.toList = [] ∧ canB k n s = true) ∨ (k = 1 ∧ ¬ s.toList = [] ∧ canB k n s = false) ∨
    (k = 2 ∧ n = 0 ∧ canB k n s = true) ∨ (k = 2 ∧ ¬ n = 0 ∧ canB k n s = false) ∨
    (k = 3 ∧ inK s = 3 ∧ n = inN s ∧ canB k n s = true) ∨ (k = 3 ∧ inK s = 3 ∧ ¬ n = inN s ∧ canB k n s = false) ∨ (k = 3 ∧ inK s = 2 ∧ canB k n s = false) ∨
    ((k == 0) = false ∧ (k == 1) = false ∧ (k == 2) = false ∧ (k == 3) = false ∧ canB k n s = false) := by
  rcases kind_cases k with rfl | rfl | rfl | rfl | ⟨g0, g1, g2, g3⟩
  · rw [canB_0]
    by_cases h1 : n = 0
    · by_cases h2 : s.toList = []
      · exact Or.inl ⟨rfl, h1, h2, decide_eq_true ⟨h1, h2⟩⟩
      · exact Or.inr (Or.inl ⟨rfl, h1, h2, decide_eq_false (fun h => h2 h.2)⟩)
    · exact Or.inr (Or.inr (Or.inl ⟨rfl, h1, decide_eq_false (fun h => h1 h.1)⟩))
  · rw [canB_1]
    by_cases h2 : s.toList = []
    · exact Or.inr (Or.inr (Or.inr (Or.inl ⟨rfl, h2, decide_eq_true h2⟩)))
    · exact Or.inr (Or.inr (Or.inr (Or.inr (Or.inl ⟨rfl, h2, decide_eq_false h2⟩))))
  · rw [canB_2]
    by_cases h1 : n = 0
    · exact Or.inr (Or.inr (Or.inr (Or.inr (Or.inr (Or.inl ⟨rfl, h1, decide_eq_true h1⟩)))))
    · exact Or.inr (Or.inr (Or.inr (Or.inr (Or.inr (Or.inr (Or.inl ⟨rfl, h1, decide_eq_false h1⟩))))))
  · rw [canB_3]
    by_cases h1 : looksB s = true
    · have hk : inK s = 3 := by unfold inK; rw [if_pos h1]
      by_cases h2 : n = inN s
      · exact Or.inr (Or.inr (Or.inr (Or.inr (Or.inr (Or.inr (Or.inr (Or.inl ⟨rfl, hk, h2, decide_eq_true ⟨h1, h2⟩⟩)))))))
      · exact Or.inr (Or.inr (Or.inr (Or.inr (Or.inr (Or.inr (Or.inr (Or.inr (Or.inl ⟨rfl, hk, h2, decide_eq_false (fun h => h2 h.2)⟩))))))))
    · have hk : inK s = 2 := by unfold inK; rw [if_neg h1]
      exact Or.inr (Or.inr (Or.inr (Or.inr (Or.inr (Or.inr (Or.inr (Or.inr (Or.inr (Or.inl ⟨rfl, hk, decide_eq_false (fun h => h1 h.1)⟩)))))))))
  · exact Or.inr (Or.inr (Or.inr (Or.inr (Or.inr (Or.inr (Or.inr (Or.inr (Or.inr (Or.inr ⟨g0, g1, g2, g3, canB_else n s g0 g1 g2 g3⟩)))))))))

theorem boxed1 (w : World) (x y z : Value) (t : TypeId) : Hid (Below w.heap.size w (w.alloc (.cells #[x, y, z] t))) ∧ Tri (w.alloc (.cells #[x, y, z] t)) w.heap.size x y z :=
  ⟨Lib.hid (below_new _ _), tri_new w x y z t⟩

end Go.Proofs.YtbbhcbpfffabpaaGreatDoor.T3

/- Plain mathematics of digits, the lowest first: no program. -/
namespace Go.Proofs.YtbbhcbpfffabpaaGreatDoor.T3
open Go.Proofs.YtbbhcbpfffabpaaGreatDoor Go.Proofs

def val : List Nat → Nat
  | [] => 0
  | d :: l => d + 10 * val l
def Dl (l : List Nat) : Prop := ∀ d ∈ l, d < 10
def sv (m : Bool) (l : List Nat) : Int := if m then -(val l : Int) else val l

theorem val_append (a b : List Nat) : val (a ++ b) = val a + 10 ^ a.length * val b := by
  induction a with
  | nil => simp [val]
  | cons d a ih =>
    simp only [List.cons_append, val, List.length_cons, ih, Nat.pow_succ]
    rw [Nat.mul_add, ← Nat.mul_assoc, Nat.mul_comm 10 (10 ^ a.length)]
    omega

theorem val_lt {l : List Nat} (h : Dl l) : val l < 10 ^ l.length := by
  induction l with
  | nil => simp [val]
  | cons d l ih =>
    have h1 : d < 10 := h d (by simp)
    have h2 := ih (fun x hx => h x (by simp [hx]))
    simp only [val, List.length_cons, Nat.pow_succ]
    omega

theorem val_zeros (n : Nat) : val (List.replicate n 0) = 0 := by
  induction n with
  | zero => rfl
  | succ n ih => simp [List.replicate_succ, val, ih]

theorem Dl.nil : Dl [] := by intro d h; simp at h
theorem Dl.append {a b : List Nat} (ha : Dl a) (hb : Dl b) : Dl (a ++ b) := by
  intro d h
  rcases List.mem_append.1 h with h | h
  · exact ha d h
  · exact hb d h
theorem Dl.one {d : Nat} (h : d < 10) : Dl [d] := by intro x hx; simp at hx; omega
theorem Dl.take {l : List Nat} (h : Dl l) (k : Nat) : Dl (l.take k) := fun d hd => h d (List.mem_of_mem_take hd)
theorem Dl.drop {l : List Nat} (h : Dl l) (k : Nat) : Dl (l.drop k) := fun d hd => h d (List.mem_of_mem_drop hd)
theorem Dl.zeros (n : Nat) : Dl (List.replicate n 0) := by intro d h; rw [List.mem_replicate] at h; omega

theorem Dl.getD {l : List Nat} (h : Dl l) (k : Nat) : l.getD k 0 < 10 := by
  rw [List.getD_eq_getElem?_getD]
  rcases Nat.lt_or_ge k l.length with hk | hk
  · rw [List.getElem?_eq_getElem hk]; exact h _ (List.getElem_mem hk)
  · rw [List.getElem?_eq_none hk]; decide

/-- The first k digits of a list that goes on with noughts. -/
def pre (l : List Nat) (k : Nat) : Nat := val (l.take k)

theorem pre_succ (l : List Nat) (k : Nat) : pre l (k + 1) = pre l k + 10 ^ k * l.getD k 0 := by
  unfold pre
  rcases Nat.lt_or_ge k l.length with h | h
  · rw [List.take_succ_eq_append_getElem h, val_append, List.length_take, Nat.min_eq_left (by omega)]
    simp [val, List.getD_eq_getElem?_getD, h]
  · rw [List.take_of_length_le (by omega), List.take_of_length_le (by omega)]
    simp [List.getD_eq_getElem?_getD, List.getElem?_eq_none h]

theorem pre_all (l : List Nat) (k : Nat) (h : l.length ≤ k) : pre l k = val l := by
  unfold pre; rw [List.take_of_length_le h]

theorem pre_lt {l : List Nat} (h : Dl l) (k : Nat) : pre l k < 10 ^ k := by
  induction k with
  | zero => simp [pre, val]
  | succ k ih =>
    rw [pre_succ, Nat.pow_succ]
    have := h.getD k
    have h2 : 10 ^ k * l.getD k 0 ≤ 10 ^ k * 9 := Nat.mul_le_mul_left _ (by omega)
    omega

/-- The digits from k on. -/
def suf (l : List Nat) (k : Nat) : Nat := val (l.drop k)
theorem suf_step (l : List Nat) (k : Nat) : suf l k = l.getD k 0 + 10 * suf l (k + 1) := by
  unfold suf
  rcases Nat.lt_or_ge k l.length with h | h
  · rw [List.drop_eq_getElem_cons h]
    simp [val, List.getD_eq_getElem?_getD, h]
  · rw [List.drop_of_length_le h, List.drop_of_length_le (by omega)]
    simp [val, List.getD_eq_getElem?_getD, List.getElem?_eq_none h]
theorem suf_zero (l : List Nat) : suf l 0 = val l := rfl
theorem suf_end (l : List Nat) (k : Nat) (h : l.length ≤ k) : suf l k = 0 := by
  unfold suf; rw [List.drop_of_length_le h]; rfl

end Go.Proofs.YtbbhcbpfffabpaaGreatDoor.T3

/- Contracts of the document's answers for numbers: what only reads. -/
namespace Go.Proofs.YtbbhcbpfffabpaaGreatDoor.T3
open Go.Proofs.YtbbhcbpfffabpaaGreatDoor Go.Proofs
open Go.RowKit

/-- A slice of digits reads as a list. -/
structure Rd (w : World) (p : Option Addr) (n c : Nat) (l : List Nat) : Prop where
  len : n = l.length
  cap : n ≤ c
  size : n ≤ 1000
  digs : Dl l
  nil : p = none → c = 0
  cells : l = [] ∨ ∃ b off, p = some ⟨b, off, none⟩ ∧ b < w.heap.size ∧ ∀ i, i < l.length → w.cell? ⟨b, off + i, none⟩ = some (.int .i64 ((l.getD i 0 : Nat) : Int))

theorem Rd.below {w w' : World} {p len cap l} (h : Rd w p len cap l) (hb : Below w.heap.size w w') : Rd w' p len cap l := by
  refine ⟨h.len, h.cap, h.size, h.digs, h.nil, ?_⟩
  rcases h.cells with hc | ⟨b, off, hp, hlt, hc⟩
  · exact Or.inl hc
  · exact Or.inr ⟨b, off, hp, Nat.lt_of_lt_of_le hlt hb.size, fun i hi => by rw [hb.cell (p := ⟨b, off + i, none⟩) hlt]; exact hc i hi⟩

theorem Rd.drewN {w : World} {p len cap l} (h : Rd w p len cap l) (n : Nat) : Rd (w.drewN n) p len cap l := h.below (Below.drewN' (Below.refl _ _) n)

set_option maxHeartbeats 400000 in
theorem digit_any (p : Option Addr) (len cap : Nat) (l : List Nat) (i : Int) (w : World) (h0 : 0 ≤ i) (h : Rd w p len cap l) :
    Calls Tryz.prog 79 #[.slice p len cap, .int .i64 i] w fun e w' => e = .returned (.int .i64 ((l.getD i.toNat 0 : Nat) : Int)) ∧ w = w' := by
  obtain ⟨n, rfl⟩ := Int.eq_ofNat_of_zero_le h0
  rw [Int.toNat_natCast]
  have hl := h.len
  have hs := h.size
  by_cases hn : n < len
  · rcases h.cells with hc | ⟨b, off, rfl, hlt, hc⟩
    · exfalso; rw [hc] at hl; simp at hl; omega
    · have hcell := hc n (by omega)
      have HL := Lib.hid hl; clear hl hc h
      generalize l.getD n 0 = d at *
      go_enter Tryz.func79, Tryz.ntmps79
      go_wp2
      go_ret
      exact ⟨rfl, rfl⟩
  · have hz : l.getD n 0 = 0 := by rw [List.getD_eq_getElem?_getD, List.getElem?_eq_none (by omega)]; rfl
    rw [hz]
    clear hl hz h
    go_enter Tryz.func79, Tryz.ntmps79
    go_wp2
    go_ret
    exact ⟨rfl, rfl⟩

theorem less_end {a b : List Nat} {k : Nat} (ha : Dl a) (hb : Dl b) (hs : suf a (k + 1) = suf b (k + 1)) (hne : a.getD k 0 ≠ b.getD k 0) :
    decide (val a < val b) = decide (a.getD k 0 < b.getD k 0) := by
  have e : ∀ l : List Nat, val l = pre l k + 10 ^ k * suf l k := by
    intro l
    have := val_append (l.take k) (l.drop k)
    rw [List.take_append_drop] at this
    rw [this]
    unfold pre suf
    rcases Nat.lt_or_ge k l.length with h | h
    · rw [List.length_take, Nat.min_eq_left (by omega)]
    · rw [List.drop_of_length_le h]; simp [val]
  have pa := pre_lt ha k
  have pb := pre_lt hb k
  rw [e a, e b, suf_step a k, suf_step b k, hs]
  generalize suf b (k + 1) = s at *
  generalize pre a k = x at *
  generalize pre b k = y at *
  generalize a.getD k 0 = c at *
  generalize b.getD k 0 = d at *
  generalize 10 ^ k = T at *
  have : decide (x + T * (c + 10 * s) < y + T * (d + 10 * s)) = decide (c < d) := by
    rw [decide_eq_decide, Nat.mul_add, Nat.mul_add]
    constructor
    · intro h
      rcases Nat.lt_or_ge c d with h2 | h2
      · exact h2
      · have : T * (d + 1) ≤ T * c := Nat.mul_le_mul_left _ (by omega)
        rw [Nat.mul_add] at this
        omega
    · intro h
      have : T * (c + 1) ≤ T * d := Nat.mul_le_mul_left _ (by omega)
      rw [Nat.mul_add] at this
      omega
  exact this

set_option maxHeartbeats 1000000 in
theorem less_any (p q : Option Addr) (n m cap cap' : Nat) (a b : List Nat) (w : World) (ha : Rd w p n cap a) (hb : Rd w q m cap' b) :
    Calls Tryz.prog 78 #[.slice p n cap, .slice q m cap'] w fun e w' => e = .returned (.bool (decide (val a < val b))) ∧ w = w' := by
  have hn := ha.size
  have hm := hb.size
  have hla := Lib.hid ha.len
  have hlb := Lib.hid hb.len
  have DA := Lib.hid (fun i h0 w' (e : w = w') => digit_any p n cap a i w' h0 (e ▸ ha))
  have DB := Lib.hid (fun i h0 w' (e : w = w') => digit_any q m cap' b i w' h0 (e ▸ hb))
  have hda := ha.digs
  have hdb := hb.digs
  have HDA := Lib.hid hda; clear hda
  have HDB := Lib.hid hdb; clear hdb
  clear ha hb
  go_enter Tryz.func78, Tryz.ntmps78
  go_wp2
  go_loop [5] (fun x => ∃ i : Int, x = .int .i64 i ∧ -1 ≤ i ∧ i ≤ n + m ∧ Hid (suf a (i + 1).toNat = suf b (i + 1).toNat)) (fun x => (intOf x + 1).toNat)
  case atStart => exact ⟨_, rfl, by omega, by omega, Lib.hid (by rw [suf_end a _ (by have := hla.out; omega), suf_end b _ (by have := hlb.out; omega)])⟩
  case round =>
    obtain ⟨i, rfl, hi1, hi2, hsuf⟩ := hrel
    by_cases h0 : 0 ≤ i
    · obtain ⟨k, rfl⟩ := Int.eq_ofNat_of_zero_le h0
      have hsk : suf a (k + 1) = suf b (k + 1) := by have := hsuf.out; rw [show ((k : Int) + 1).toNat = k + 1 from by omega] at this; exact this
      obtain ⟨x, hx⟩ : ∃ x, x = a.getD k 0 := ⟨_, rfl⟩
      obtain ⟨y, hy⟩ : ∃ y, y = b.getD k 0 := ⟨_, rfl⟩
      have hx9 : x < 10 := by rw [hx]; exact HDA.out.getD k
      have hy9 : y < 10 := by rw [hy]; exact HDB.out.getD k
      have CA := Lib.hid (show ∀ w', w = w' → Calls Tryz.prog 79 #[.slice p n cap, .int .i64 (k : Int)] w' fun e w'' => e = .returned (.int .i64 (x : Int)) ∧ w' = w'' from fun w' e => by rw [hx]; exact DA.out k (by omega) w' e)
      have CB := Lib.hid (show ∀ w', w = w' → Calls Tryz.prog 79 #[.slice q m cap', .int .i64 (k : Int)] w' fun e w'' => e = .returned (.int .i64 (y : Int)) ∧ w' = w'' from fun w' e => by rw [hy]; exact DB.out k (by omega) w' e)
      by_cases hne : x = y
      · have hnext : suf a k = suf b k := by rw [suf_step a k, suf_step b k, ← hx, ← hy, hne, hsk]
        have HN := Lib.hid hnext
        clear hnext hx hy hsk
        subst hne
        go_wp2_with fail
        refine (CA.out _ rfl).mono ?_
        rintro e w1 ⟨rfl, rfl⟩
        go_wp2_with fail
        refine (CB.out _ rfl).mono ?_
        rintro e w2 ⟨rfl, rfl⟩
        go_wp2_with fail
        go_round
        case rel => exact ⟨_, rfl, by omega, by omega, Lib.hid (by rw [show ((k : Int) - 1 + 1).toNat = k from by omega]; exact HN.out)⟩
        case measure => simp [intOf]
      · have hans : decide (val a < val b) = decide (x < y) := by
          rw [less_end HDA.out HDB.out hsk (by rw [← hx, ← hy]; exact hne), ← hx, ← hy]
        have HANS := Lib.hid hans
        have hb2 : ((x : Int) != y) = true := by rw [bne_iff_ne]; omega
        clear hans hx hy hsk hne
        go_wp2_with fail
        refine (CA.out _ rfl).mono ?_
        rintro e w1 ⟨rfl, rfl⟩
        go_wp2_with fail
        refine (CB.out _ rfl).mono ?_
        rintro e w2 ⟨rfl, rfl⟩
        go_wp2_with fail
        refine (CA.out _ rfl).mono ?_
        rintro e w1 ⟨rfl, rfl⟩
        go_wp2_with fail
        refine (CB.out _ rfl).mono ?_
        rintro e w2 ⟨rfl, rfl⟩
        go_wp2_with fail
        go_ret
        exact ⟨by rw [HANS.out]; rfl, rfl⟩
    · obtain rfl : i = -1 := by omega
      have hfin : decide (val a < val b) = false := by
        have h := hsuf.out
        rw [show ((-1 : Int) + 1).toNat = 0 from rfl, suf_zero, suf_zero] at h
        simp; omega
      have HF := Lib.hid hfin; clear hfin
      go_wp2
      go_ret
      exact ⟨by rw [HF.out]; rfl, rfl⟩

def TrimPost (p : Option Addr) (n cap : Nat) (l : List Nat) (w : World) (e : Ending) (w' : World) : Prop :=
  ∃ m, m ≤ n ∧ e = .returned (.slice p m cap) ∧ val (l.take m) = val l ∧ (m = 0 ∨ l.getD (m - 1) 0 ≠ 0) ∧ w = w'

theorem Rd.take {w : World} {p n c l} (h : Rd w p n c l) {m : Nat} (hm : m ≤ n) : Rd w p m c (l.take m) := by
  have h1 := h.len
  have h2 := h.cap
  have h3 := h.size
  refine ⟨by rw [List.length_take]; omega, by omega, by omega, h.digs.take m, h.nil, ?_⟩
  rcases h.cells with hc | ⟨b, off, hp, hlt, hc⟩
  · exact Or.inl (by rw [hc]; simp)
  · refine Or.inr ⟨b, off, hp, hlt, fun i hi => ?_⟩
    rw [List.length_take] at hi
    rw [hc i (by omega)]
    congr 3
    rw [List.getD_eq_getElem?_getD, List.getD_eq_getElem?_getD, List.getElem?_take_of_lt (by omega)]

theorem val_take_succ (l : List Nat) (k : Nat) (h : l.getD k 0 = 0) : val (l.take k) = val (l.take (k + 1)) := by
  have := pre_succ l k
  unfold pre at this
  rw [this, h]; simp

set_option maxHeartbeats 1000000 in
theorem trim_any (p : Option Addr) (n cap : Nat) (l : List Nat) (w : World) (h : Rd w p n cap l) :
    Calls Tryz.prog 81 #[.slice p n cap] w (TrimPost p n cap l w) := by
  have hs := h.size
  have hc := h.cap
  have HR := Lib.hid h; clear h
  go_enter Tryz.func81, Tryz.ntmps81
  go_wp2
  go_loop [0] (fun x => ∃ m : Nat, x = .slice p m cap ∧ m ≤ n ∧ Hid (val (l.take m) = val l)) (fun x => match x with | .slice _ m _ => m | _ => 0)
  case atStart => exact ⟨n, rfl, by omega, Lib.hid (by rw [List.take_of_length_le (by have := HR.out.len; omega)])⟩
  case round =>
    obtain ⟨m, rfl, hm, hv⟩ := hrel
    rcases Nat.eq_zero_or_pos m with h0 | h0
    · subst h0
      go_wp2
      go_ret
      exact ⟨0, by omega, rfl, hv.out, Or.inl rfl, rfl⟩
    · obtain ⟨k, rfl⟩ : ∃ k, m = k + 1 := ⟨m - 1, by omega⟩
      rcases HR.out.cells with hx | ⟨b, off, rfl, hlt, hx⟩
      · exfalso
        have := HR.out.len
        rw [hx] at this; simp at this; omega
      · have hcell := hx k (by have := HR.out.len; omega)
        clear hx
        by_cases hz : l.getD k 0 = 0
        · have hv2 := Lib.hid (show val (l.take k) = val l from by rw [val_take_succ l k hz]; exact hv.out)
          rw [hz] at hcell
          clear hz
          go_wp2
          go_round
          case rel => exact ⟨k, rfl, by omega, hv2⟩
          case measure => simp
        · have hzb : (((l.getD k 0 : Nat) : Int) == 0) = false := by rw [beq_eq_false_iff_ne]; omega
          have HZ := Lib.hid hz; clear hz
          generalize hd : l.getD k 0 = d at *
          have HD := Lib.hid hd; clear hd
          go_wp2
          go_ret
          exact ⟨k + 1, hm, rfl, hv.out, Or.inr (by rw [show k + 1 - 1 = k from by omega, HD.out]; exact HZ.out), rfl⟩
end Go.Proofs.YtbbhcbpfffabpaaGreatDoor.T3

/- Contracts of the document's answers for numbers: sums and differences of digits. -/
namespace Go.Proofs.YtbbhcbpfffabpaaGreatDoor.T3
open Go.Proofs.YtbbhcbpfffabpaaGreatDoor Go.Proofs
open Go.RowKit

def ints (l : List Nat) : List Value := l.map fun (d : Nat) => Value.int .i64 (d : Int)
theorem info_int : (Tryz.prog.info? 3).map (fun i => (i.zero, i.size, i.bytes)) = some (some (.int .i64 0), 1, 8) := by kernel_rfl

set_option maxRecDepth 100000 in
/-- A row of the call's own reads as its digits. -/
theorem own_rd {w : World} {base : Nat} {v : Value} {l : List Nat} {k : Nat} (h : w.ownsRow base 3 1 v k (ints l)) (hl : k = l.length) (hd : Dl l) (hs : k ≤ 1000) :
    ∃ p c, v = .slice p k c ∧ Rd w p k c l ∧ ∀ x, p = some x → base ≤ x.block := by
  obtain ⟨hlen, ⟨rfl, h0⟩ | ⟨g, cap, cur, rfl, hb, hg, hcap, hm, hsz, hx⟩⟩ := id h
  · subst h0
    have : l = [] := List.length_eq_zero_iff.1 hl.symm
    exact ⟨none, 0, rfl, ⟨hl, by omega, by omega, hd, fun _ => rfl, Or.inl this⟩, fun x h => by simp at h⟩
  · refine ⟨_, cap, rfl, ⟨hl, hcap, hs, hd, fun h => by simp at h, Or.inr ⟨g, 0, rfl, (h.lt g rfl).2, fun i hi => ?_⟩⟩, fun x h => by injection h with h; subst h; exact hb⟩
    rw [Nat.zero_add, h.cellAt i (by omega)]
    unfold ints
    rw [List.getElem?_map, List.getElem?_eq_getElem hi, List.getD_eq_getElem?_getD, List.getElem?_eq_getElem hi]
    rfl

set_option maxRecDepth 100000 in
theorem wp_append_digit {ops : Array Oper} {rest : List Oper} {o : Oper} {a : Act} {Q : Exit → Act → World → Prop} (hgd : o.guard = none) (s x : Operand)
    (ho : o.op = .call { callee := .builtin .append, args := #[s, x], argTypes := #[60, 60] }) (W w : World) (v : Value) (k : Nat) (l : List Nat) (D : Int) (d : Nat)
    (hs : a.eval s = v) (hown : w.ownsRow W.heap.size 3 1 v k (ints l)) (hx : a.eval x = .slice (some ⟨w.heap.size, 0, none⟩) 1 1) (hd : D = d) (hk : k ≤ 1000) (hbel : Below W.heap.size W w)
    (h : ∀ v' w', Hid (w'.ownsRow W.heap.size 3 1 v' (k + 1) (ints (l ++ [d]))) → Hid (Below W.heap.size W w') → wpList Tryz.prog ops Q rest (a.put o.dst v') w') :
    wpList Tryz.prog ops Q (o :: rest) a (w.alloc (.cells #[.int .i64 D] 3)) := by
  obtain ⟨i0, hi, hz0, hz1, hz2⟩ := info_parts info_int
  subst hd
  refine wpList_append_own _ hgd s x 60 ho W.heap.size 3 i0 (.int .i64 0) 1 8 Tryz.underlying60 hi hz0 hz1 hz2 rfl (by decide) v k (ints l) hs (hown.alloc _) ⟨w.heap.size, 0, none⟩ 1 1 [.int .i64 (d : Int)] hx rfl ?_ ?_ ?_ ?_ ?_ ?_
  · intro j u hj
    cases j with
    | zero => simp at hj; subst hj; simp [Addr.add, go_sem]
    | succ j => simp at hj
  · intro u hu; simp at hu; subst hu; rfl
  · simp only [maxLen]; omega
  · omega
  · simp; exact Nat.le_succ_of_le hbel.size
  · intro v' w' hown' hg _
    refine h v' w' (Lib.hid ?_) (Lib.hid ?_)
    · have e : ints (l ++ [d]) = ints l ++ [.int .i64 (d : Int)] := by simp [ints]
      rw [e]; exact hown'
    · exact (hbel.alloc hbel.size _).grown hg (by simp; exact Nat.le_succ_of_le hbel.size) (fun j hj => (hown.lt j hj).1)

structure Got (W : World) (w : World) (v : Value) (l : List Nat) : Prop where
  rd : ∃ p n c, v = .slice p n c ∧ Rd w p n c l ∧ ∀ x, p = some x → W.heap.size ≤ x.block
  below : Below W.heap.size W w

def SumPost (W : World) (z k : Nat) (e : Ending) (w' : World) : Prop :=
  ∃ v l, e = .returned v ∧ Got W w' v l ∧ val l = z ∧ l.length ≤ k

end Go.Proofs.YtbbhcbpfffabpaaGreatDoor.T3

/- Contracts of the document's answers for numbers: differences of digits. -/
namespace Go.Proofs.YtbbhcbpfffabpaaGreatDoor.T3
open Go.Proofs.YtbbhcbpfffabpaaGreatDoor Go.Proofs
open Go.RowKit

theorem quiet_read {P : Program} {f : FuncId} {args : Array Value} {w : World} {n : Nat} {v : Value}
    (h : Calls P f args (w.drewN n) fun e w' => e = .returned v ∧ w.drewN n = w') : Calls P f args (w.drewN n) fun e w'' => e = .returned v ∧ ∃ m, w'' = w.drewN m :=
  h.mono fun _ _ ⟨he, hw⟩ => ⟨he, n, hw.symm⟩

theorem pre_suf (l : List Nat) (k : Nat) : val l = pre l k + 10 ^ k * suf l k := by
  have h1 := val_append (l.take k) (l.drop k)
  rw [List.take_append_drop] at h1
  rw [h1]
  unfold pre suf
  rcases Nat.lt_or_ge k l.length with h | h
  · rw [List.length_take, Nat.min_eq_left (by omega)]
  · rw [List.drop_of_length_le h]; simp [val]

theorem minus_end {a b l : List Nat} {n bo : Nat} (hn : n = a.length) (ha : Dl a) (hl : Dl l) (hln : n = l.length) (h : val l + pre b n = pre a n + 10 ^ n * bo) (hle : val b ≤ val a) :
    val l + val b = val a := by
  have h1 := pre_all a n (by omega)
  have h2 := val_lt ha
  have h3 := val_lt hl
  rw [← hn] at h2
  rw [← hln] at h3
  have h4 := pre_suf b n
  have h5 : suf b n = 0 := by
    rcases Nat.eq_zero_or_pos (suf b n) with h | h
    · exact h
    · have : 10 ^ n * 1 ≤ 10 ^ n * suf b n := Nat.mul_le_mul_left _ h
      omega
  rw [h5] at h4
  rcases Nat.eq_zero_or_pos bo with h6 | h6
  · rw [h6] at h; omega
  · have : 10 ^ n * 1 ≤ 10 ^ n * bo := Nat.mul_le_mul_left _ h6
    omega

end Go.Proofs.YtbbhcbpfffabpaaGreatDoor.T3
