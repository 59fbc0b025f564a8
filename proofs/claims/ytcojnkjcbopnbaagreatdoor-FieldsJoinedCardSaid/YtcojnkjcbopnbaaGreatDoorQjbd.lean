/- Merged by program: Parts, RNamed, Bools. -/
import Derived.Test.YtcojnkjcbopnbaaGreatDoorQjak
import Derived.Test.YtcojnkjcbopnbaaGreatDoorQjaa
import Derived.Test.YtcojnkjcbopnbaaGreatDoorQjac
/- ref.Parts, Small: walks. -/
namespace Go.Proofs.YtcojnkjcbopnbaaGreatDoor
open Go.RowKit

/-- How many parts a tree has, of at most so many storeys. -/
def sumL (g : Tree → Nat) : List Tree → Nat
  | [] => 0
  | t :: r => g t + sumL g r
theorem sumL_snoc (g : Tree → Nat) (l : List Tree) (t : Tree) : sumL g (l ++ [t]) = sumL g l + g t := by
  induction l with
  | nil => simp [sumL]
  | cons a l ih => simp [sumL, ih]; omega
theorem sumL_mem (g : Tree → Nat) {l : List Tree} {t : Tree} (h : t ∈ l) : g t ≤ sumL g l := by
  induction l with
  | nil => exact absurd h (by simp)
  | cons a l ih =>
    show g t ≤ g a + sumL g l
    rcases List.mem_cons.1 h with rfl | h
    · omega
    · have := ih h; omega
def nodesN : Nat → Tree → Nat
  | 0, _ => 1
  | n + 1, t => 1 + sumL (nodesN n) t.kids
theorem nodesN_pos (n : Nat) (t : Tree) : 1 ≤ nodesN n t := by
  cases n with
  | zero => exact Nat.le_refl _
  | succ n => show 1 ≤ 1 + _; omega
theorem sumL_len (n : Nat) (l : List Tree) : l.length ≤ sumL (nodesN n) l := by
  induction l with
  | nil => exact Nat.le_refl _
  | cons a l ih =>
    show l.length + 1 ≤ nodesN n a + sumL (nodesN n) l
    have := nodesN_pos n a
    omega
theorem nodes_kids {n m : Nat} {t : Tree} (h : nodesN (n + 1) t ≤ m) : t.kids.length + 1 ≤ m ∧ ∀ c, c ∈ t.kids → nodesN n c ≤ m := by
  have h' : 1 + sumL (nodesN n) t.kids ≤ m := h
  have := sumL_len n t.kids
  exact ⟨by omega, fun c hc => by have := sumL_mem (nodesN n) hc; omega⟩

/-- What Parts answers. -/
structure PartsOf (d : Nat) (t : Tree) (m v : Nat) : Prop where
  pos : 1 ≤ v
  le : v ≤ m + 1
  is : v ≤ m → v = nodesN d t

set_option maxRecDepth 100000 in
theorem parts_spec (d : Nat) : ∀ (t : Tree) (cs : Array Value) (S : Nat → Prop) (m : Nat) (w : World), At w S t cs → d ≤ 1000 → m ≤ 1000 →
    Calls Tryz.prog 74 #[.agg cs, .int .i64 d, .int .i64 m] w fun e w' => ∃ v : Nat, e = .returned (.int .i64 v) ∧ Hid (PartsOf d t m v) ∧ Below w.heap.size w w' := by
  induction d with
  | zero =>
    intro t cs S m w h _ hm
    obtain ⟨a, c, rfl, _⟩ := h.opens
    clear h
    go_enter Tryz.func74, Tryz.ntmps74
    go_upto_region 1 with (fail)
    obtain ⟨W, hW, hX, hB, _⟩ := re_box w (reC t.k t.f t.lo t.hi (.slice a t.kids.length c))
    rw [← hW]
    clear hW
    obtain ⟨c0, c1, c2, c3, c4, c5, c6, c7⟩ := eight_re hX.out.eight
    go_wp2_with fail
    refine wp_loop_rounds 1 ?_
    rw [rounds_succ]
    by_cases hm1 : 1 ≤ m
    · by_cases h0 : 0 < t.kids.length
      · go_wp2_with fail
        go_ret
        exact ⟨m + 1, by go_num, Lib.hid ⟨by omega, by omega, by omega⟩, hB.out⟩
      · go_wp2_with fail
        go_ret
        exact ⟨m + 1, by go_num, Lib.hid ⟨by omega, by omega, by omega⟩, hB.out⟩
    · by_cases h0 : 0 < t.kids.length
      · go_wp2_with fail
        go_ret
        exact ⟨m + 1, by go_num, Lib.hid ⟨by omega, by omega, by omega⟩, hB.out⟩
      · go_wp2_with fail
        go_ret
        exact ⟨m + 1, by go_num, Lib.hid ⟨by omega, by omega, by omega⟩, hB.out⟩
  | succ d ih =>
    intro t cs S m w h hd hm
    have HI := Lib.hid ih; clear ih
    suffices H : ∀ D : Nat, D = d + 1 → Calls Tryz.prog 74 #[.agg cs, .int .i64 D, .int .i64 m] w fun e w' => ∃ v : Nat, e = .returned (.int .i64 v) ∧ Hid (PartsOf (d + 1) t m v) ∧ Below w.heap.size w w' from H _ rfl
    intro D hD
    have hD0 : (0 : Int) < D := by omega
    have hD1 : (D : Int) ≤ 1000 := by omega
    have HD := Lib.hid hD
    clear hD
    obtain ⟨sl, rfl, hsl⟩ := h.open
    clear h
    have hsh := hsl.shape
    go_enter Tryz.func74, Tryz.ntmps74
    go_upto_region 1 with (fail)
    obtain ⟨W, hW, hX, hB, _⟩ := re_box w (reC t.k t.f t.lo t.hi sl)
    rw [← hW]
    clear hW
    have S1 := Lib.hid (hsl.after hB.out)
    clear hsl
    obtain ⟨c0, c1, c2, c3, c4, c5, c6, c7⟩ := eight_re hX.out.eight
    obtain ⟨a, c, rfl⟩ := hsh
    go_wp2_with fail
    go_loopw [7, 8] (fun x y wr => ∃ n i : Nat, x = .int .i64 n ∧ y = .int .i64 i ∧ i ≤ t.kids.length ∧ i + 1 ≤ n ∧ n ≤ m + 1 ∧ Hid (n ≤ m → n = 1 + sumL (nodesN d) (t.kids.take i)) ∧ Hid (Below W.heap.size W wr)) (fun _ y _ => t.kids.length - (intOf y).toNat)
    case atStart => exact ⟨1, 0, rfl, rfl, by omega, by omega, by omega, Lib.hid fun _ => rfl, Lib.hid (Below.refl _ _)⟩
    case round =>
      obtain ⟨n, i, rfl, rfl, hi, hin, hnm, hN, hb⟩ := hrel
      clear c0 c1 c2 c3 c4 c5 c6 c7
      have X1 := Lib.hid (hX.out.after hb.out)
      obtain ⟨c0, c1, c2, c3, c4, c5, c6, c7⟩ := eight_re X1.out.eight
      have hi' : i ≤ 1000 := by omega
      by_cases hgo : i < t.kids.length
      · by_cases hle : n ≤ m
        · rcases S1.out with ⟨e, _⟩ | ⟨hl, b, off, c', cs, e, hc, hBb, h8, hat⟩
          · rw [e] at hgo; exact absurd hgo (by simp)
          · simp only [Value.slice.injEq] at e
            obtain ⟨rfl, _, rfl⟩ := e
            have hT := hat i hgo
            have hT' := hT.after hb.out
            obtain ⟨ai, ci, e, _⟩ := hT.opens
            have h8i := (h8 i hgo).after hT.size hb.out
            rw [e] at h8i hT'
            obtain ⟨d0, d1, d2, d3, d4, d5, d6, d7⟩ := eight_re h8i
            obtain ⟨q, hq⟩ : ∃ q : Nat, m - n = q := ⟨_, rfl⟩
            have hq' : (m : Int) - n = q := by omega
            have hqm : q ≤ 1000 := by omega
            have HC := Lib.hid (HI.out t.kids[i] _ S q _ hT' (by omega) hqm)
            have hd1 : (D : Int) - 1 = d := by have := HD.out; omega
            clear e hT hT' h8 hat h8i
            go_wp2_with fail
            refine HC.out.mono ?_
            rintro e w2 ⟨v, rfl, hv, b2⟩
            have B2 := Lib.hid (Below.step hb.out b2)
            have v1 := hv.out.pos
            have v2 := hv.out.le
            clear b2
            go_wp2_with fail
            go_roundw
            case rel =>
              refine ⟨n + v, i + 1, by go_num, by go_num, by omega, by omega, by omega, Lib.hid fun h => ?_, B2⟩
              have e1 := hN.out hle
              have e2 := hv.out.is (by omega)
              rw [List.take_succ_eq_append_getElem hgo, sumL_snoc]
              omega
            case measure => simp [intOf]; omega
        · go_wp2_with fail
          go_ret
          exact ⟨n, rfl, Lib.hid ⟨by omega, by omega, fun h => absurd h hle⟩, Below.step hB.out hb.out⟩
      · go_wp2_with fail
        go_ret
        refine ⟨n, rfl, Lib.hid ⟨by omega, by omega, fun h => ?_⟩, Below.step hB.out hb.out⟩
        have e1 := hN.out h
        rw [List.take_of_length_le (by omega)] at e1
        exact e1

set_option maxRecDepth 100000 in
theorem small_spec (t : Tree) (cs : Array Value) (S : Nat → Prop) (w : World) (h : At w S t cs) :
    Calls Tryz.prog 48 #[.agg cs] w fun e w' => ∃ b : Bool, e = .returned (.bool b) ∧ Hid (b = true → nodesN 150 t ≤ 400) ∧ Below w.heap.size w w' := by
  obtain ⟨W, hW, hX, hB, _⟩ := re_box w cs
  have HC := Lib.hid (parts_spec 150 t cs S 400 W (h.after hB.out) (by omega) (by omega))
  obtain ⟨a, c, rfl, _⟩ := h.opens
  clear h
  go_enter Tryz.func48, Tryz.ntmps48
  go_upto_region 1 with (fail)
  rw [← hW]
  clear hW
  obtain ⟨c0, c1, c2, c3, c4, c5, c6, c7⟩ := eight_re hX.out.eight
  go_wp2_with fail
  refine HC.out.mono ?_
  rintro e w1 ⟨v, rfl, hv, b1⟩
  have B1 := Lib.hid (Below.step hB.out b1)
  have v2 := hv.out.le
  clear b1
  go_wp2_with fail
  go_ret
  exact ⟨_, rfl, Lib.hid (fun h => by have h' : v ≤ 400 := by simp at h; omega
                                      have := hv.out.is h'; omega), B1.out⟩
end Go.Proofs.YtcojnkjcbopnbaaGreatDoor

/- aukletref04.Named: a walk. -/
namespace Go.Proofs.YtcojnkjcbopnbaaGreatDoor
open Go.RowKit

def upC (c : Nat) : Bool := decide (65 ≤ c) && decide (c ≤ 90)
def lowC (c : Nat) : Bool := decide (97 ≤ c) && decide (c ≤ 122)
def digC (c : Nat) : Bool := decide (48 ≤ c) && decide (c ≤ 57)
/-- Whether a byte is of the class of that name, and whether there is one. -/
def refNamed (name : ByteArray) (c : Nat) : Bool × Bool :=
  if (name.toList == [97, 108, 112, 104, 97]) = true then (upC c || lowC c, true) else
  if (name.toList == [100, 105, 103, 105, 116]) = true then (digC c, true) else
  if (name.toList == [97, 108, 110, 117, 109]) = true then (upC c || lowC c || digC c, true) else
  if (name.toList == [117, 112, 112, 101, 114]) = true then (upC c, true) else
  if (name.toList == [108, 111, 119, 101, 114]) = true then (lowC c, true) else
  if (name.toList == [115, 112, 97, 99, 101]) = true then (decide (c = 32) || (decide (9 ≤ c) && decide (c ≤ 13)), true) else
  if (name.toList == [98, 108, 97, 110, 107]) = true then (decide (c = 32) || decide (c = 9), true) else
  if (name.toList == [112, 117, 110, 99, 116]) = true then (decide (32 < c) && decide (c < 127) && !upC c && !lowC c && !digC c, true) else
  if (name.toList == [112, 114, 105, 110, 116]) = true then (decide (32 ≤ c) && decide (c < 127), true) else
  if (name.toList == [103, 114, 97, 112, 104]) = true then (decide (32 < c) && decide (c < 127), true) else
  if (name.toList == [99, 110, 116, 114, 108]) = true then (decide (c < 32) || decide (c = 127), true) else
  if (name.toList == [120, 100, 105, 103, 105, 116]) = true then (digC c || (decide (65 ≤ c) && decide (c ≤ 70)) || (decide (97 ≤ c) && decide (c ≤ 102)), true) else
  (false, false)

theorem nt {b : Bool} (h : b = false) : ¬ b = true := by rw [h]; decide
theorem named_at {name : ByteArray} {c : Nat} {r : Bool × Bool} (h : refNamed name c = r) {a b : Bool} (ha : a = r.1) (hb : b = r.2) :
    Ending.returned (.tuple #[.bool a, .bool b]) = .returned (.tuple #[.bool (refNamed name c).1, .bool (refNamed name c).2]) := by rw [h, ha, hb]
theorem bool_at {a b : Bool} (h : a = true ↔ b = true) : Value.bool a = Value.bool b := by rw [Bool.eq_iff_iff.2 h]

theorem ref_alpha {name : ByteArray} {c : Nat} (h0 : (name.toList == [97, 108, 112, 104, 97]) = true) : refNamed name c = (upC c || lowC c, true) := by
  unfold refNamed
  rw [if_pos h0]
theorem ref_digit {name : ByteArray} {c : Nat} (h0 : (name.toList == [97, 108, 112, 104, 97]) = false) (h1 : (name.toList == [100, 105, 103, 105, 116]) = true) : refNamed name c = (digC c, true) := by
  unfold refNamed
  rw [if_neg (nt h0), if_pos h1]
theorem ref_alnum {name : ByteArray} {c : Nat} (h0 : (name.toList == [97, 108, 112, 104, 97]) = false) (h1 : (name.toList == [100, 105, 103, 105, 116]) = false) (h2 : (name.toList == [97, 108, 110, 117, 109]) = true) : refNamed name c = (upC c || lowC c || digC c, true) := by
  unfold refNamed
  rw [if_neg (nt h0), if_neg (nt h1), if_pos h2]
theorem ref_upper {name : ByteArray} {c : Nat} (h0 : (name.toList == [97, 108, 112, 104, 97]) = false) (h1 : (name.toList == [100, 105, 103, 105, 116]) = false) (h2 : (name.toList == [97, 108, 110, 117, 109]) = false) (h3 : (name.toList == [117, 112, 112, 101, 114]) = true) : refNamed name c = (upC c, true) := by
  unfold refNamed
  rw [if_neg (nt h0), if_neg (nt h1), if_neg (nt h2), if_pos h3]
theorem ref_lower {name : ByteArray} {c : Nat} (h0 : (name.toList == [97, 108, 112, 104, 97]) = false) (h1 : (name.toList == [100, 105, 103, 105, 116]) = false) (h2 : (name.toList == [97, 108, 110, 117, 109]) = false) (h3 : (name.toList == [117, 112, 112, 101, 114]) = false) (h4 : (name.toList == [108, 111, 119, 101, 114]) = true) : refNamed name c = (lowC c, true) := by
  unfold refNamed
  rw [if_neg (nt h0), if_neg (nt h1), if_neg (nt h2), if_neg (nt h3), if_pos h4]
theorem ref_space {name : ByteArray} {c : Nat} (h0 : (name.toList == [97, 108, 112, 104, 97]) = false) (h1 : (name.toList == [100, 105, 103, 105, 116]) = false) (h2 : (name.toList == [97, 108, 110, 117, 109]) = false) (h3 : (name.toList == [117, 112, 112, 101, 114]) = false) (h4 : (name.toList == [108, 111, 119, 101, 114]) = false) (h5 : (name.toList == [115, 112, 97, 99, 101]) = true) : refNamed name c = (decide (c = 32) || (decide (9 ≤ c) && decide (c ≤ 13)), true) := by
  unfold refNamed
  rw [if_neg (nt h0), if_neg (nt h1), if_neg (nt h2), if_neg (nt h3), if_neg (nt h4), if_pos h5]
theorem ref_blank {name : ByteArray} {c : Nat} (h0 : (name.toList == [97, 108, 112, 104, 97]) = false) (h1 : (name.toList == [100, 105, 103, 105, 116]) = false) (h2 : (name.toList == [97, 108, 110, 117, 109]) = false) (h3 : (name.toList == [117, 112, 112, 101, 114]) = false) (h4 : (name.toList == [108, 111, 119, 101, 114]) = false) (h5 : (name.toList == [115, 112, 97, 99, 101]) = false) (h6 : (name.toList == [98, 108, 97, 110, 107]) = true) : refNamed name c = (decide (c = 32) || decide (c = 9), true) := by
  unfold refNamed
  rw [if_neg (nt h0), if_neg (nt h1), if_neg (nt h2), if_neg (nt h3), if_neg (nt h4), if_neg (nt h5), if_pos h6]
theorem ref_punct {name : ByteArray} {c : Nat} (h0 : (name.toList == [97, 108, 112, 104, 97]) = false) (h1 : (name.toList == [100, 105, 103, 105, 116]) = false) (h2 : (name.toList == [97, 108, 110, 117, 109]) = false) (h3 : (name.toList == [117, 112, 112, 101, 114]) = false) (h4 : (name.toList == [108, 111, 119, 101, 114]) = false) (h5 : (name.toList == [115, 112, 97, 99, 101]) = false) (h6 : (name.toList == [98, 108, 97, 110, 107]) = false) (h7 : (name.toList == [112, 117, 110, 99, 116]) = true) : refNamed name c = (decide (32 < c) && decide (c < 127) && !upC c && !lowC c && !digC c, true) := by
  unfold refNamed
  rw [if_neg (nt h0), if_neg (nt h1), if_neg (nt h2), if_neg (nt h3), if_neg (nt h4), if_neg (nt h5), if_neg (nt h6), if_pos h7]
theorem ref_print {name : ByteArray} {c : Nat} (h0 : (name.toList == [97, 108, 112, 104, 97]) = false) (h1 : (name.toList == [100, 105, 103, 105, 116]) = false) (h2 : (name.toList == [97, 108, 110, 117, 109]) = false) (h3 : (name.toList == [117, 112, 112, 101, 114]) = false) (h4 : (name.toList == [108, 111, 119, 101, 114]) = false) (h5 : (name.toList == [115, 112, 97, 99, 101]) = false) (h6 : (name.toList == [98, 108, 97, 110, 107]) = false) (h7 : (name.toList == [112, 117, 110, 99, 116]) = false) (h8 : (name.toList == [112, 114, 105, 110, 116]) = true) : refNamed name c = (decide (32 ≤ c) && decide (c < 127), true) := by
  unfold refNamed
  rw [if_neg (nt h0), if_neg (nt h1), if_neg (nt h2), if_neg (nt h3), if_neg (nt h4), if_neg (nt h5), if_neg (nt h6), if_neg (nt h7), if_pos h8]
theorem ref_graph {name : ByteArray} {c : Nat} (h0 : (name.toList == [97, 108, 112, 104, 97]) = false) (h1 : (name.toList == [100, 105, 103, 105, 116]) = false) (h2 : (name.toList == [97, 108, 110, 117, 109]) = false) (h3 : (name.toList == [117, 112, 112, 101, 114]) = false) (h4 : (name.toList == [108, 111, 119, 101, 114]) = false) (h5 : (name.toList == [115, 112, 97, 99, 101]) = false) (h6 : (name.toList == [98, 108, 97, 110, 107]) = false) (h7 : (name.toList == [112, 117, 110, 99, 116]) = false) (h8 : (name.toList == [112, 114, 105, 110, 116]) = false) (h9 : (name.toList == [103, 114, 97, 112, 104]) = true) : refNamed name c = (decide (32 < c) && decide (c < 127), true) := by
  unfold refNamed
  rw [if_neg (nt h0), if_neg (nt h1), if_neg (nt h2), if_neg (nt h3), if_neg (nt h4), if_neg (nt h5), if_neg (nt h6), if_neg (nt h7), if_neg (nt h8), if_pos h9]
theorem ref_cntrl {name : ByteArray} {c : Nat} (h0 : (name.toList == [97, 108, 112, 104, 97]) = false) (h1 : (name.toList == [100, 105, 103, 105, 116]) = false) (h2 : (name.toList == [97, 108, 110, 117, 109]) = false) (h3 : (name.toList == [117, 112, 112, 101, 114]) = false) (h4 : (name.toList == [108, 111, 119, 101, 114]) = false) (h5 : (name.toList == [115, 112, 97, 99, 101]) = false) (h6 : (name.toList == [98, 108, 97, 110, 107]) = false) (h7 : (name.toList == [112, 117, 110, 99, 116]) = false) (h8 : (name.toList == [112, 114, 105, 110, 116]) = false) (h9 : (name.toList == [103, 114, 97, 112, 104]) = false) (h10 : (name.toList == [99, 110, 116, 114, 108]) = true) : refNamed name c = (decide (c < 32) || decide (c = 127), true) := by
  unfold refNamed
  rw [if_neg (nt h0), if_neg (nt h1), if_neg (nt h2), if_neg (nt h3), if_neg (nt h4), if_neg (nt h5), if_neg (nt h6), if_neg (nt h7), if_neg (nt h8), if_neg (nt h9), if_pos h10]
theorem ref_xdigit {name : ByteArray} {c : Nat} (h0 : (name.toList == [97, 108, 112, 104, 97]) = false) (h1 : (name.toList == [100, 105, 103, 105, 116]) = false) (h2 : (name.toList == [97, 108, 110, 117, 109]) = false) (h3 : (name.toList == [117, 112, 112, 101, 114]) = false) (h4 : (name.toList == [108, 111, 119, 101, 114]) = false) (h5 : (name.toList == [115, 112, 97, 99, 101]) = false) (h6 : (name.toList == [98, 108, 97, 110, 107]) = false) (h7 : (name.toList == [112, 117, 110, 99, 116]) = false) (h8 : (name.toList == [112, 114, 105, 110, 116]) = false) (h9 : (name.toList == [103, 114, 97, 112, 104]) = false) (h10 : (name.toList == [99, 110, 116, 114, 108]) = false) (h11 : (name.toList == [120, 100, 105, 103, 105, 116]) = true) : refNamed name c = (digC c || (decide (65 ≤ c) && decide (c ≤ 70)) || (decide (97 ≤ c) && decide (c ≤ 102)), true) := by
  unfold refNamed
  rw [if_neg (nt h0), if_neg (nt h1), if_neg (nt h2), if_neg (nt h3), if_neg (nt h4), if_neg (nt h5), if_neg (nt h6), if_neg (nt h7), if_neg (nt h8), if_neg (nt h9), if_neg (nt h10), if_pos h11]
theorem ref_none {name : ByteArray} {c : Nat} (h0 : (name.toList == [97, 108, 112, 104, 97]) = false) (h1 : (name.toList == [100, 105, 103, 105, 116]) = false) (h2 : (name.toList == [97, 108, 110, 117, 109]) = false) (h3 : (name.toList == [117, 112, 112, 101, 114]) = false) (h4 : (name.toList == [108, 111, 119, 101, 114]) = false) (h5 : (name.toList == [115, 112, 97, 99, 101]) = false) (h6 : (name.toList == [98, 108, 97, 110, 107]) = false) (h7 : (name.toList == [112, 117, 110, 99, 116]) = false) (h8 : (name.toList == [112, 114, 105, 110, 116]) = false) (h9 : (name.toList == [103, 114, 97, 112, 104]) = false) (h10 : (name.toList == [99, 110, 116, 114, 108]) = false) (h11 : (name.toList == [120, 100, 105, 103, 105, 116]) = false) : refNamed name c = (false, false) := by
  unfold refNamed
  rw [if_neg (nt h0), if_neg (nt h1), if_neg (nt h2), if_neg (nt h3), if_neg (nt h4), if_neg (nt h5), if_neg (nt h6), if_neg (nt h7), if_neg (nt h8), if_neg (nt h9), if_neg (nt h10), if_neg (nt h11)]

set_option maxRecDepth 100000 in
set_option maxHeartbeats 1000000 in
theorem rnamed_spec (name : ByteArray) (c : Nat) (w : World) :
    Calls Tryz.prog 149 #[.string name, .int .i64 c] w fun e w' => e = .returned (.tuple #[.bool (refNamed name c).1, .bool (refNamed name c).2]) ∧ w' = w := by
  go_enter Tryz.func149, Tryz.ntmps149
  go_upto_region 1 with (fail)
  go_cut [6, 7, 8] (fun x y z wx => x = .bool (upC c) ∧ y = .bool (lowC c) ∧ z = .bool (digC c) ∧ wx = w)
  case first =>
    rcases (show c < 48 ∨ (48 ≤ c ∧ c ≤ 57) ∨ (58 ≤ c ∧ c < 65) ∨ (65 ≤ c ∧ c ≤ 90) ∨ (91 ≤ c ∧ c < 97) ∨ (97 ≤ c ∧ c ≤ 122) ∨ 123 ≤ c from by omega) with h | ⟨h, h'⟩ | ⟨h, h'⟩ | ⟨h, h'⟩ | ⟨h, h'⟩ | ⟨h, h'⟩ | h
    all_goals
      go_wp2_with fail
      go_meet
      refine ⟨bool_at ?_, bool_at ?_, bool_at ?_, rfl⟩ <;> simp [upC, lowC, digC] <;> omega
  case rest =>
    obtain ⟨rfl, rfl, rfl, rfl⟩ := hcut
    go_step
    cases h0 : (name.toList == [97, 108, 112, 104, 97])
    case true =>
      cases hq0 : upC c <;>
      cases hq1 : lowC c <;>
      (go_wp2_with fail
       all_goals (go_ret2; refine ⟨named_at (ref_alpha h0) (Bool.eq_iff_iff.2 ?_) rfl, rfl⟩; simp [hq0, hq1] <;> omega))
    cases h1 : (name.toList == [100, 105, 103, 105, 116])
    case true =>
      cases hq0 : digC c <;>
      (go_wp2_with fail
       all_goals (go_ret2; refine ⟨named_at (ref_digit h0 h1) (Bool.eq_iff_iff.2 ?_) rfl, rfl⟩; simp [hq0] <;> omega))
    cases h2 : (name.toList == [97, 108, 110, 117, 109])
    case true =>
      cases hq0 : upC c <;>
      cases hq1 : lowC c <;>
      cases hq2 : digC c <;>
      (go_wp2_with fail
       all_goals (go_ret2; refine ⟨named_at (ref_alnum h0 h1 h2) (Bool.eq_iff_iff.2 ?_) rfl, rfl⟩; simp [hq0, hq1, hq2] <;> omega))
    cases h3 : (name.toList == [117, 112, 112, 101, 114])
    case true =>
      cases hq0 : upC c <;>
      (go_wp2_with fail
       all_goals (go_ret2; refine ⟨named_at (ref_upper h0 h1 h2 h3) (Bool.eq_iff_iff.2 ?_) rfl, rfl⟩; simp [hq0] <;> omega))
    cases h4 : (name.toList == [108, 111, 119, 101, 114])
    case true =>
      cases hq0 : lowC c <;>
      (go_wp2_with fail
       all_goals (go_ret2; refine ⟨named_at (ref_lower h0 h1 h2 h3 h4) (Bool.eq_iff_iff.2 ?_) rfl, rfl⟩; simp [hq0] <;> omega))
    cases h5 : (name.toList == [115, 112, 97, 99, 101])
    case true =>
      (go_wp2_with fail
       all_goals (go_ret2; refine ⟨named_at (ref_space h0 h1 h2 h3 h4 h5) (Bool.eq_iff_iff.2 ?_) rfl, rfl⟩; simp <;> omega))
    cases h6 : (name.toList == [98, 108, 97, 110, 107])
    case true =>
      (go_wp2_with fail
       all_goals (go_ret2; refine ⟨named_at (ref_blank h0 h1 h2 h3 h4 h5 h6) (Bool.eq_iff_iff.2 ?_) rfl, rfl⟩; simp <;> omega))
    cases h7 : (name.toList == [112, 117, 110, 99, 116])
    case true =>
      cases hq0 : upC c <;>
      cases hq1 : lowC c <;>
      cases hq2 : digC c <;>
      (go_wp2_with fail
       all_goals (go_ret2; refine ⟨named_at (ref_punct h0 h1 h2 h3 h4 h5 h6 h7) (Bool.eq_iff_iff.2 ?_) rfl, rfl⟩; simp [hq0, hq1, hq2] <;> omega))
    cases h8 : (name.toList == [112, 114, 105, 110, 116])
    case true =>
      (go_wp2_with fail
       all_goals (go_ret2; refine ⟨named_at (ref_print h0 h1 h2 h3 h4 h5 h6 h7 h8) (Bool.eq_iff_iff.2 ?_) rfl, rfl⟩; simp <;> omega))
    cases h9 : (name.toList == [103, 114, 97, 112, 104])
    case true =>
      (go_wp2_with fail
       all_goals (go_ret2; refine ⟨named_at (ref_graph h0 h1 h2 h3 h4 h5 h6 h7 h8 h9) (Bool.eq_iff_iff.2 ?_) rfl, rfl⟩; simp <;> omega))
    cases h10 : (name.toList == [99, 110, 116, 114, 108])
    case true =>
      (go_wp2_with fail
       all_goals (go_ret2; refine ⟨named_at (ref_cntrl h0 h1 h2 h3 h4 h5 h6 h7 h8 h9 h10) (Bool.eq_iff_iff.2 ?_) rfl, rfl⟩; simp <;> omega))
    cases h11 : (name.toList == [120, 100, 105, 103, 105, 116])
    case true =>
      cases hq0 : digC c <;>
      (go_wp2_with fail
       all_goals (go_ret2; refine ⟨named_at (ref_xdigit h0 h1 h2 h3 h4 h5 h6 h7 h8 h9 h10 h11) (Bool.eq_iff_iff.2 ?_) rfl, rfl⟩; simp [hq0] <;> omega))
    go_wp2_with fail
    go_ret2
    exact ⟨named_at (ref_none h0 h1 h2 h3 h4 h5 h6 h7 h8 h9 h10 h11) rfl rfl, rfl⟩
end Go.Proofs.YtcojnkjcbopnbaaGreatDoor

/- A row of 256 truths in memory. -/
namespace Go.Proofs.YtcojnkjcbopnbaaGreatDoor
open Go.RowKit

def bools (p : Nat → Bool) : Array Value := Array.ofFn (n := 256) fun i => .bool (p i.val)
theorem bools_size (p : Nat → Bool) : (bools p).size = 256 := by simp [bools]
theorem bools_get (p : Nat → Bool) {i : Nat} (h : i < 256) : (bools p)[i]? = some (.bool (p i)) := by
  unfold bools
  rw [Array.getElem?_ofFn, dif_pos h]
theorem bools_none (p : Nat → Bool) {i : Nat} (h : ¬ i < 256) : (bools p)[i]? = none := by
  unfold bools
  rw [Array.getElem?_ofFn, dif_neg h]
theorem bools_congr {p q : Nat → Bool} (h : ∀ i, i < 256 → p i = q i) : bools p = bools q := by
  apply Array.ext_getElem?
  intro i
  by_cases hi : i < 256
  · rw [bools_get p hi, bools_get q hi, h i hi]
  · rw [bools_none p hi, bools_none q hi]
theorem bools_set (p : Nat → Bool) {k : Nat} (hk : k < 256) (b : Bool) : (bools p).setIfInBounds k (.bool b) = bools (fun j => if j = k then b else p j) := by
  apply Array.ext_getElem?
  intro i
  rw [Array.getElem?_setIfInBounds]
  by_cases hi : i < 256
  · rw [bools_get (fun j => if j = k then b else p j) hi, bools_get p hi, bools_size]
    by_cases h : k = i
    · rw [if_pos h, if_pos hk, if_pos h.symm]
    · rw [if_neg h, if_neg (Ne.symm h)]
  · rw [bools_none (fun j => if j = k then b else p j) hi, bools_none p hi]
    by_cases h : k = i
    · omega
    · rw [if_neg h]
theorem bools_one (p : Nat → Bool) : (bools p).all (·.oneCell') = true := by
  rw [Array.all_eq_true_iff_forall_mem]
  intro x hx
  simp only [bools, Array.mem_ofFn] at hx
  obtain ⟨i, rfl⟩ := hx
  rfl

structure Row (w : World) (b : Nat) (p : Nat → Bool) : Prop where
  row : w.heap[b]? = some (.cells (bools p) 197 (0, 0))

theorem Row.lt {w : World} {b : Nat} {p : Nat → Bool} (h : Row w b p) : b < w.heap.size := (Array.getElem?_eq_some_iff.1 h.row).1
theorem Row.below {w w' : World} {b B : Nat} {p : Nat → Bool} (h : Row w b p) (hb : Below B w w') (hB : b < B) : Row w' b p := ⟨by rw [hb.block b hB]; exact h.row⟩
theorem Row.after {w w' : World} {b : Nat} {p : Nat → Bool} (h : Row w b p) (hb : Below w.heap.size w w') : Row w' b p := h.below hb h.lt
theorem Row.c {w : World} {b : Nat} {p : Nat → Bool} (h : Row w b p) {i : Nat} (hi : i < 256) : w.cell? ⟨b, i, none⟩ = some (.bool (p i)) := by
  rw [cell_of_row _ _ i _ _ _ h.row]; exact bools_get p hi
theorem Row.z {w : World} {b : Nat} {p : Nat → Bool} (h : Row w b p) (i : Nat) : w.frozen? ⟨b, i, none⟩ = false := frozen_of_row _ _ i _ _ h.row
theorem Row.congr {w : World} {b : Nat} {p q : Nat → Bool} (h : Row w b p) (e : ∀ i, i < 256 → p i = q i) : Row w b q := ⟨by rw [← bools_congr e]; exact h.row⟩
theorem Row.set {w : World} {b : Nat} {p : Nat → Bool} (h : Row w b p) {k : Nat} (hk : k < 256) (x : Bool) : Row (w.setCell ⟨b, k, none⟩ (.bool x)) b (fun j => if j = k then x else p j) :=
  ⟨by rw [heap_setCell_same _ _ k _ _ _ h.row, bools_set p hk]⟩
theorem Row.other {w : World} {b : Nat} {p : Nat → Bool} (h : Row w b p) {b' k : Nat} (hb : b ≠ b') (v : Value) : Row (w.setCell ⟨b', k, none⟩ v) b p :=
  ⟨by rw [heap_setCell_other _ _ _ _ hb]; exact h.row⟩
theorem row_new (w : World) (p : Nat → Bool) : Row (w.alloc (.cells (bools p) 197)) w.heap.size p := ⟨heap_alloc_last w _⟩
theorem Row.setRow {w : World} {b : Nat} {p : Nat → Bool} (h : Row w b p) (q : Nat → Bool) : Row (w.setRow b (bools q)) b q := ⟨setRow_heap _ _ _ _ _ _ h.row⟩
theorem Row.setRow_other {w : World} {b c : Nat} {p : Nat → Bool} (h : Row w b p) (hc : b ≠ c) (q : Array Value) : Row (w.setRow c q) b p := ⟨by rw [Go.setRow_other _ _ _ _ hc]; exact h.row⟩
theorem Quad.setRow {w : World} {b c : Nat} {f : Nat → Nat} (h : Quad w b f) (hc : b ≠ c) (q : Array Value) : Quad (w.setRow c q) b f := by
  refine ⟨fun k hk => by rw [cell_setRow_other _ _ _ _ hc]; exact h.c k hk, fun k hk => ?_⟩
  have e : (w.setRow c q).frozen? ⟨b, k, none⟩ = w.frozen? ⟨b, k, none⟩ := by
    have := Go.setRow_other w c b q hc
    simp only [World.frozen?, this]
  rw [e]; exact h.z k hk
theorem below_setRowB {B : Nat} {w w' : World} (h : Below B w w') {b : Nat} (hb : B ≤ b) (q : Array Value) : Below B w (w'.setRow b q) :=
  ⟨h.os, h.tape, h.output, by have := h.size; simpa [World.setRow] using this, fun k hk => by rw [Go.setRow_other _ _ _ _ (by omega)]; exact h.block k hk⟩

theorem info_b : (Tryz.prog.info? 197).map (fun i => (i.zero, i.size)) = some (some (.agg (Array.replicate 256 (.bool false))), 256) := by kernel_rfl
theorem false_b : Array.replicate 256 (Value.bool false) = bools (fun _ => false) := by
  apply Array.ext_getElem?
  intro i
  by_cases hi : i < 256
  · rw [bools_get _ hi, Array.getElem?_replicate, if_pos hi]
  · rw [bools_none _ hi, Array.getElem?_replicate, if_neg hi]
theorem zero_b (w : World) : (zeroValue 197).run Tryz.prog w = .ok (.agg (bools (fun _ => false))) w := by
  rw [← false_b]
  exact (zero_of_info info_b).1 w
theorem build_b (w : World) : (Instr.build 197 #[]).run Tryz.prog w = .ok (.agg (bools (fun _ => false))) w := by
  rw [← false_b]
  kernel_rfl
theorem size_b : (Tryz.prog.info? 197).map (·.size) = some 256 := (zero_of_info info_b).2
theorem load_b {w : World} {b : Nat} {p : Nat → Bool} (h : Row w b p) : (loadCellsFrom ⟨b, 0, none⟩ 0 256 #[]).run Tryz.prog w = .ok (bools p) w := by
  have := run_loadCells_list (P := Tryz.prog) w ⟨b, 0, none⟩ (bools p).toList (fun j v hv => by
    have hadd : (⟨b, 0, none⟩ : Addr).add j = ⟨b, j, none⟩ := by unfold Addr.add; split <;> simp_all
    rw [hadd, cell_of_row _ _ j _ _ _ h.row]
    simpa using hv)
  have hs : (bools p).toList.length = 256 := by rw [Array.length_toList, bools_size]
  rw [hs] at this
  simpa [loadCells] using this
theorem store_b {w : World} {b : Nat} {p : Nat → Bool} (h : Row w b p) (q : Nat → Bool) : (storeCells ⟨b, 0, none⟩ (bools q).toList).run Tryz.prog w = .ok () (w.setRow b (bools q)) := by
  have := run_storeCells_from (P := Tryz.prog) b 197 (bools q).toList 0 (bools p) w h.row (by rw [Array.length_toList, bools_size, bools_size]) (fun v hv => (Array.all_eq_true_iff_forall_mem.1 (bools_one q)) v (by simpa using hv))
  simpa using this
end Go.Proofs.YtcojnkjcbopnbaaGreatDoor
