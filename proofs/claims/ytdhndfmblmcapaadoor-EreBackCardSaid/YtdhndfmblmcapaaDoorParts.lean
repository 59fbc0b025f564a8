/- ref.Parts, Small: walks. -/
import Derived.Test.YtdhndfmblmcapaaDoorCan
namespace Go.Proofs.YtdhndfmblmcapaaDoor
open Go.RowKit

/-- How many parts a tree has, of at most so many storeys. -/
def sumL (g : Tree → Nat) : List Tree → Nat
  | [] => 0
  | t :: r => g t + sumL g r
theorem sumL_snoc (g : Tree → Nat) (l : List Tree) (t : Tree) : sumL g (l ++ [t]) = sumL g l + g t := by
  induction l with
  | nil => simp [sumL]
  | cons a l ih => simp [sumL, ih]; omega
theorem sumL_mem (g : Tree → Nat) {l : List Tree} {t : Tree} (h : t ∈ l) : g t ≤ sumL g l := by
  induction l with
  | nil => exact absurd h (by simp)
  | cons a l ih =>
    show g t ≤ g a + sumL g l
    rcases List.mem_cons.1 h with rfl | h
    · omega
    · have := ih h; omega
def nodesN : Nat → Tree → Nat
  | 0, _ => 1
  | n + 1, t => 1 + sumL (nodesN n) t.kids
theorem nodesN_pos (n : Nat) (t : Tree) : 1 ≤ nodesN n t := by
  cases n with
  | zero => exact Nat.le_refl _
  | succ n => show 1 ≤ 1 + _; omega
theorem sumL_len (n : Nat) (l : List Tree) : l.length ≤ sumL (nodesN n) l := by
  induction l with
  | nil => exact Nat.le_refl _
  | cons a l ih =>
    show l.length + 1 ≤ nodesN n a + sumL (nodesN n) l
    have := nodesN_pos n a
    omega
theorem nodes_kids {n m : Nat} {t : Tree} (h : nodesN (n + 1) t ≤ m) : t.kids.length + 1 ≤ m ∧ ∀ c, c ∈ t.kids → nodesN n c ≤ m := by
  have h' : 1 + sumL (nodesN n) t.kids ≤ m := h
  have := sumL_len n t.kids
  exact ⟨by omega, fun c hc => by have := sumL_mem (nodesN n) hc; omega⟩

/-- What Parts answers. -/
structure PartsOf (d : Nat) (t : Tree) (m v : Nat) : Prop where
  pos : 1 ≤ v
  le : v ≤ m + 1
  is : v ≤ m → v = nodesN d t

set_option maxRecDepth 100000 in
theorem parts_spec (d : Nat) : ∀ (t : Tree) (cs : Array Value) (S : Nat → Prop) (m : Nat) (w : World), At w S t cs → d ≤ 1000 → m ≤ 1000 →
    Calls Tryd.prog 18 #[.agg cs, .int .i64 d, .int .i64 m] w fun e w' => ∃ v : Nat, e = .returned (.int .i64 v) ∧ Hid (PartsOf d t m v) ∧ Below w.heap.size w w' := by
  induction d with
  | zero =>
    intro t cs S m w h _ hm
    obtain ⟨a, c, rfl, _⟩ := h.opens
    clear h
    go_enter Tryd.func18, Tryd.ntmps18
    go_upto_region 1 with (fail)
    obtain ⟨W, hW, hX, hB, _⟩ := re_box w (reC t.k t.f t.lo t.hi (.slice a t.kids.length c))
    rw [← hW]
    clear hW
    obtain ⟨c0, c1, c2, c3, c4, c5, c6, c7⟩ := eight_re hX.out.eight
    go_wp2_with fail
    refine wp_loop_rounds 1 ?_
    rw [rounds_succ]
    by_cases hm1 : 1 ≤ m
    · by_cases h0 : 0 < t.kids.length
      · go_wp2_with fail
        go_ret
        exact ⟨m + 1, by go_num, Lib.hid ⟨by omega, by omega, by omega⟩, hB.out⟩
      · go_wp2_with fail
        go_ret
        exact ⟨m + 1, by go_num, Lib.hid ⟨by omega, by omega, by omega⟩, hB.out⟩
    · by_cases h0 : 0 < t.kids.length
      · go_wp2_with fail
        go_ret
        exact ⟨m + 1, by go_num, Lib.hid ⟨by omega, by omega, by omega⟩, hB.out⟩
      · go_wp2_with fail
        go_ret
        exact ⟨m + 1, by go_num, Lib.hid ⟨by omega, by omega, by omega⟩, hB.out⟩
  | succ d ih =>
    intro t cs S m w h hd hm
    have HI := Lib.hid ih; clear ih
    suffices H : ∀ D : Nat, D = d + 1 → Calls Tryd.prog 18 #[.agg cs, .int .i64 D, .int .i64 m] w fun e w' => ∃ v : Nat, e = .returned (.int .i64 v) ∧ Hid (PartsOf (d + 1) t m v) ∧ Below w.heap.size w w' from H _ rfl
    intro D hD
    have hD0 : (0 : Int) < D := by omega
    have hD1 : (D : Int) ≤ 1000 := by omega
    have HD := Lib.hid hD
    clear hD
    obtain ⟨sl, rfl, hsl⟩ := h.open
    clear h
    have hsh := hsl.shape
    go_enter Tryd.func18, Tryd.ntmps18
    go_upto_region 1 with (fail)
    obtain ⟨W, hW, hX, hB, _⟩ := re_box w (reC t.k t.f t.lo t.hi sl)
    rw [← hW]
    clear hW
    have S1 := Lib.hid (hsl.after hB.out)
    clear hsl
    obtain ⟨c0, c1, c2, c3, c4, c5, c6, c7⟩ := eight_re hX.out.eight
    obtain ⟨a, c, rfl⟩ := hsh
    go_wp2_with fail
    go_loopw [7, 8] (fun x y wr => ∃ n i : Nat, x = .int .i64 n ∧ y = .int .i64 i ∧ i ≤ t.kids.length ∧ i + 1 ≤ n ∧ n ≤ m + 1 ∧ Hid (n ≤ m → n = 1 + sumL (nodesN d) (t.kids.take i)) ∧ Hid (Below W.heap.size W wr)) (fun _ y _ => t.kids.length - (intOf y).toNat)
    case atStart => exact ⟨1, 0, rfl, rfl, by omega, by omega, by omega, Lib.hid fun _ => rfl, Lib.hid (Below.refl _ _)⟩
    case round =>
      obtain ⟨n, i, rfl, rfl, hi, hin, hnm, hN, hb⟩ := hrel
      clear c0 c1 c2 c3 c4 c5 c6 c7
      have X1 := Lib.hid (hX.out.after hb.out)
      obtain ⟨c0, c1, c2, c3, c4, c5, c6, c7⟩ := eight_re X1.out.eight
      have hi' : i ≤ 1000 := by omega
      by_cases hgo : i < t.kids.length
      · by_cases hle : n ≤ m
        · rcases S1.out with ⟨e, _⟩ | ⟨hl, b, off, c', cs, e, hc, hBb, h8, hat⟩
          · rw [e] at hgo; exact absurd hgo (by simp)
          · simp only [Value.slice.injEq] at e
            obtain ⟨rfl, _, rfl⟩ := e
            have hT := hat i hgo
            have hT' := hT.after hb.out
            obtain ⟨ai, ci, e, _⟩ := hT.opens
            have h8i := (h8 i hgo).after hT.size hb.out
            rw [e] at h8i hT'
            obtain ⟨d0, d1, d2, d3, d4, d5, d6, d7⟩ := eight_re h8i
            obtain ⟨q, hq⟩ : ∃ q : Nat, m - n = q := ⟨_, rfl⟩
            have hq' : (m : Int) - n = q := by omega
            have hqm : q ≤ 1000 := by omega
            have HC := Lib.hid (HI.out t.kids[i] _ S q _ hT' (by omega) hqm)
            have hd1 : (D : Int) - 1 = d := by have := HD.out; omega
            clear e hT hT' h8 hat h8i
            go_wp2_with fail
            refine HC.out.mono ?_
            rintro e w2 ⟨v, rfl, hv, b2⟩
            have B2 := Lib.hid (Below.step hb.out b2)
            have v1 := hv.out.pos
            have v2 := hv.out.le
            clear b2
            go_wp2_with fail
            go_roundw
            case rel =>
              refine ⟨n + v, i + 1, by go_num, by go_num, by omega, by omega, by omega, Lib.hid fun h => ?_, B2⟩
              have e1 := hN.out hle
              have e2 := hv.out.is (by omega)
              rw [List.take_succ_eq_append_getElem hgo, sumL_snoc]
              omega
            case measure => simp [intOf]; omega
        · go_wp2_with fail
          go_ret
          exact ⟨n, rfl, Lib.hid ⟨by omega, by omega, fun h => absurd h hle⟩, Below.step hB.out hb.out⟩
      · go_wp2_with fail
        go_ret
        refine ⟨n, rfl, Lib.hid ⟨by omega, by omega, fun h => ?_⟩, Below.step hB.out hb.out⟩
        have e1 := hN.out h
        rw [List.take_of_length_le (by omega)] at e1
        exact e1

set_option maxRecDepth 100000 in
theorem small_spec (t : Tree) (cs : Array Value) (S : Nat → Prop) (w : World) (h : At w S t cs) :
    Calls Tryd.prog 6 #[.agg cs] w fun e w' => ∃ b : Bool, e = .returned (.bool b) ∧ Hid (b = true → nodesN 150 t ≤ 400) ∧ Below w.heap.size w w' := by
  obtain ⟨W, hW, hX, hB, _⟩ := re_box w cs
  have HC := Lib.hid (parts_spec 150 t cs S 400 W (h.after hB.out) (by omega) (by omega))
  obtain ⟨a, c, rfl, _⟩ := h.opens
  clear h
  go_enter Tryd.func6, Tryd.ntmps6
  go_upto_region 1 with (fail)
  rw [← hW]
  clear hW
  obtain ⟨c0, c1, c2, c3, c4, c5, c6, c7⟩ := eight_re hX.out.eight
  go_wp2_with fail
  refine HC.out.mono ?_
  rintro e w1 ⟨v, rfl, hv, b1⟩
  have B1 := Lib.hid (Below.step hB.out b1)
  have v2 := hv.out.le
  clear b1
  go_wp2_with fail
  go_ret
  exact ⟨_, rfl, Lib.hid (fun h => by have h' : v ≤ 400 := by simp at h; omega
                                      have := hv.out.is h'; omega), B1.out⟩
end Go.Proofs.YtdhndfmblmcapaaDoor
