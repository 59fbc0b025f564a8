/- Merged by program: LongestR, ToldB, Find. -/
import Derived.Test.YtimipfdknfdbdaaGreatDoorQjaz
/- (*nfa.Prog).Longest and its function: walks. -/
namespace Go.Proofs.YtimipfdknfdbdaaGreatDoor
open Go.RowKit

/-- The last place told; -1, if there is none. -/
def lastN (l : List Nat) : Int := match l.getLast? with | none => -1 | some k => (k : Nat)
theorem lastN_snoc (l : List Nat) (k : Nat) : lastN (l ++ [k]) = (k : Nat) := by simp [lastN]
/-- The last place told so far, in a captured variable. -/
def TL (cb : Nat) (l : List Nat) (O : Nat → Prop) (w : World) : Prop := One w cb (.int .i64 (lastN l)) 3 ∧ O = fun k => k = cb
theorem teller_L (cb : Nat) : Teller (TL cb) := by
  constructor
  · rintro l O w ⟨h1, rfl⟩ k rfl
    exact h1.lt
  · rintro l O w w' ⟨h1, rfl⟩ hb
    exact ⟨h1.keep (hb cb rfl), rfl⟩

set_option maxRecDepth 100000 in
theorem longestCall (cb : Nat) (l : List Nat) (O : Nat → Prop) (w : World) (place : Nat) (h : TL cb l O w) (_ : l.length ≤ 1000000000000) :
    Calls Tryz.prog 90 #[.int .i64 place, .pointer (some ⟨cb, 0, none⟩)] w fun e w' => e = .returned (.tuple #[]) ∧ ∃ O', TL cb (l ++ [place]) O' w' ∧ Moved O O' w w' := by
  obtain ⟨h1, rfl⟩ := h
  have c0 := h1.c
  have z0 := h1.z
  have HF : Hid (TL cb (l ++ [place]) (fun k => k = cb) (w.setCell ⟨cb, 0, none⟩ (.int .i64 (place : Nat)))) := Lib.hid ⟨by rw [lastN_snoc]; exact h1.set _, rfl⟩
  have HM : Hid (Moved (fun k => k = cb) (fun k => k = cb) w (w.setCell ⟨cb, 0, none⟩ (.int .i64 (place : Nat)))) := Lib.hid ⟨rfl, rfl, rfl, by simp, fun k _ hn => heap_setCell_other w ⟨cb, 0, none⟩ k _ (fun e => hn e), fun k hk => Or.inl hk⟩
  clear h1
  go_enter Tryz.func90, Tryz.ntmps90
  go_wp2_with fail
  go_end0
  exact ⟨rfl, _, HF.out, HM.out⟩

set_option maxRecDepth 100000 in
theorem longR_spec (p o start at_ : Nat) (ss : List St) (sv : Value) (s : ByteArray) (hs : SsOk ss) (hst : start < ss.length) (hat : at_ ≤ s.size) (hsz : s.size ≤ 100000000) (w : World) (hm : MchR w p o ss sv start) :
    Calls Tryz.prog 74 #[.pointer (some ⟨p, o, none⟩), .string s, .int .i64 at_] w fun e w' => e = .returned (.int .i64 (lastN (toldN ss start s at_))) ∧ Below w.heap.size w w' := by
  obtain ⟨W, hW⟩ : ∃ W, W = w.alloc (.cells #[.int .i64 (-1)] 3) := ⟨_, rfl⟩
  have hb : Below w.heap.size w W := by rw [hW]; exact below_new _ _
  have h1 : One W w.heap.size (.int .i64 (-1)) 3 := by rw [hW]; exact one_new _ _ _
  have hT : TL w.heap.size [] (fun k => k = w.heap.size) W := ⟨h1, rfl⟩
  have HC := Lib.hid (walkR p o start w.heap.size at_ ss sv s (TL w.heap.size) (teller_L _) (longestCall w.heap.size) hs hst hat hsz _ W (hm.after hb) hT (fun k hk h => by
    have h' : k = w.heap.size := h
    have := (hm.own.lt _ hk).2
    omega))
  have HB := Lib.hid hb
  have hmf : ∀ (fn : Fn) (first cap : Array Value) (w : World), (Instr.makeFunc fn first cap).run Tryz.prog w = .ok (.func fn first cap) w := fun _ _ _ _ => rfl
  clear hm hs hst hat hsz hb h1 hT
  go_enter Tryz.func74, Tryz.ntmps74
  go_upto_region 2 with (fail)
  rw [← hW]
  clear hW
  go_wp2_with fail
  refine HC.out.mono ?_
  rintro e w1 ⟨rfl, O', ⟨h1, hO⟩, hmv⟩
  have c0 := h1.c
  have HB2 : Hid (Below w.heap.size w w1) := Lib.hid (HB.out.trans ⟨hmv.os, hmv.tape, hmv.output, hmv.size, fun k hk => hmv.block k (by have := HB.out.size; omega) (fun h => by
    have h' : k = w.heap.size := h
    omega)⟩)
  clear h1 hO hmv
  go_wp2_with fail
  go_ret
  exact ⟨rfl, HB2.out⟩
end Go.Proofs.YtimipfdknfdbdaaGreatDoor

/- Where a machine's places lie: plain Lean. -/
namespace Go.Proofs.YtimipfdknfdbdaaGreatDoor
open Go.RowKit

theorem comeN_told (ss : List St) (size d : Nat) : ∀ (i place : Nat) (x : Wk) (k : Nat), k ∈ (comeN ss size d i place x).told → k ∈ x.told ∨ k = place := by
  induction d with
  | zero => intro i place x k h; exact Or.inl h
  | succ d ih =>
    intro i place x k h
    unfold comeN at h
    split at h
    · exact Or.inl h
    · split at h
      · exact Or.inl h
      · rename_i s _
        split at h
        · rcases List.mem_append.1 h with h | h
          · exact Or.inl h
          · exact Or.inr (List.mem_singleton.1 h)
        · split at h
          · exact Or.inl h
          · split at h
            · split at h
              · exact ih _ _ ⟨x.seen.set i (place + 1), x.wait, x.told⟩ _ h
              · exact Or.inl h
            · split at h
              · split at h
                · exact ih _ _ ⟨x.seen.set i (place + 1), x.wait, x.told⟩ _ h
                · exact Or.inl h
              · split at h
                · rcases ih _ _ _ _ h with h | h
                  · exact ih _ _ ⟨x.seen.set i (place + 1), x.wait, x.told⟩ _ h
                  · exact Or.inr h
                · exact Or.inl h
theorem stepN_told (ss : List St) (size c place : Nat) (l : List Nat) : ∀ (x : Wk) (k : Nat), k ∈ (stepN ss size c place l x).told → k ∈ x.told ∨ k = place + 1 := by
  induction l with
  | nil => intro x k h; exact Or.inl h
  | cons i l ih =>
    intro x k h
    rcases ih (oneN ss size c place x i) k h with h | h
    · unfold oneN at h
      split at h
      · exact Or.inl h
      · split at h
        · exact comeN_told _ _ _ _ _ _ _ h
        · exact Or.inl h
    · exact Or.inr h
theorem walkN_told (ss : List St) (s : ByteArray) (d : Nat) : ∀ (place : Nat) (x : Wk) (k : Nat), k ∈ (walkN ss s d place x).told → k ∈ x.told ∨ (place < k ∧ k ≤ place + d) := by
  induction d with
  | zero => intro place x k h; exact Or.inl h
  | succ d ih =>
    intro place x k h
    unfold walkN at h
    split at h
    · exact Or.inl h
    · rcases ih _ _ _ h with h | h
      · rcases stepN_told _ _ _ _ _ _ _ h with h | h
        · exact Or.inl h
        · exact Or.inr ⟨by omega, by omega⟩
      · exact Or.inr ⟨by omega, by omega⟩
theorem toldN_in (ss : List St) (start : Nat) (s : ByteArray) (at_ : Nat) (hat : at_ ≤ s.size) (k : Nat) (h : k ∈ toldN ss start s at_) : at_ ≤ k ∧ k ≤ s.size := by
  unfold toldN at h
  rcases walkN_told _ _ _ _ _ _ h with h | h
  · rcases comeN_told _ _ _ _ _ _ _ h with h | h
    · simp [beginWk] at h
    · omega
  · omega
/-- The greatest place to which a machine goes. -/
def longN (ss : List St) (start : Nat) (s : ByteArray) (at_ : Nat) : Int := lastN (toldN ss start s at_)
/-- What is told of longest places. -/
def LongOk (L : Nat → Int) (n : Nat) : Prop := ∀ k, k ≤ n → L k = -1 ∨ ((k : Int) ≤ L k ∧ L k ≤ n)
theorem longN_ok (ss : List St) (start : Nat) (s : ByteArray) : LongOk (longN ss start s) s.size := by
  intro k hk
  unfold longN lastN
  split
  · exact Or.inl rfl
  · rename_i j h
    have := toldN_in ss start s k hk j (List.mem_of_getLast? h)
    exact Or.inr ⟨by omega, by omega⟩

/-- The first part from a place on. -/
def findN (L : Nat → Int) : Nat → Nat → Option (Nat × Nat)
  | 0, _ => none
  | d + 1, at_ => if 0 ≤ L at_ then some (at_, (L at_).toNat) else findN L d (at_ + 1)
theorem findN_in (L : Nat → Int) (n : Nat) (hL : LongOk L n) (d : Nat) : ∀ (at_ : Nat), at_ + d ≤ n + 1 → ∀ b e, findN L d at_ = some (b, e) → at_ ≤ b ∧ b ≤ e ∧ e ≤ n ∧ L b = e := by
  induction d with
  | zero => intro at_ _ b e h; cases h
  | succ d ih =>
    intro at_ hd b e h
    unfold findN at h
    split at h
    · simp only [Option.some.injEq, Prod.mk.injEq] at h
      obtain ⟨rfl, rfl⟩ := h
      rcases hL at_ (by omega) with h | h
      · omega
      · exact ⟨Nat.le_refl _, by omega, by omega, by omega⟩
    · have := ih (at_ + 1) (by omega) b e h
      exact ⟨by omega, this.2⟩
/-- All parts, one behind the other, from a place on; where the last one ended, and one. -/
def foundN (L : Nat → Int) (n : Nat) : Nat → Nat → Nat → List (Nat × Nat)
  | 0, _, _ => []
  | d + 1, at_, last =>
    match findN L (n + 1 - at_) at_ with
    | none => []
    | some (b, e) => if b = e ∧ e + 1 = last then foundN L n d (e + 1) last else (b, e) :: foundN L n d e (e + 1)
def allN (L : Nat → Int) (n : Nat) : List (Nat × Nat) := foundN L n (2 * n + 3) 0 0
/-- Parts in order, from a place on, behind an end. -/
inductive Ordered (n : Nat) : Nat → Nat → List (Nat × Nat) → Prop
  | nil (at_ last : Nat) : Ordered n at_ last []
  | cons (at_ last b e : Nat) (l : List (Nat × Nat)) (h1 : at_ ≤ b) (h2 : b ≤ e) (h3 : e ≤ n) (h4 : last ≤ e) (h : Ordered n e (e + 1) l) : Ordered n at_ last ((b, e) :: l)
theorem Ordered.weak {n a a' last : Nat} {l : List (Nat × Nat)} (h : Ordered n a last l) (ha : a' ≤ a) : Ordered n a' last l := by
  cases h with
  | nil => exact .nil _ _
  | cons _ _ b e l h1 h2 h3 h4 h => exact .cons _ _ b e l (by omega) h2 h3 h4 h
theorem foundN_ordered (L : Nat → Int) (n : Nat) (hL : LongOk L n) (d : Nat) : ∀ at_ last, last ≤ at_ + 1 → Ordered n at_ last (foundN L n d at_ last) := by
  induction d with
  | zero => intro at_ last _; exact .nil _ _
  | succ d ih =>
    intro at_ last hl
    unfold foundN
    split
    · exact .nil _ _
    · rename_i b e hf
      by_cases hat : at_ ≤ n
      · obtain ⟨h1, h2, h3, h4⟩ := findN_in L n hL _ at_ (by omega) b e hf
        split
        · exact (ih (e + 1) last (by omega)).weak (by omega)
        · exact .cons _ _ b e _ h1 h2 h3 (by omega) (ih e (e + 1) (by omega))
      · rw [show n + 1 - at_ = 0 by omega] at hf
        cases hf
theorem allN_none (L : Nat → Int) (n : Nat) : findN L (n + 1) 0 = none → allN L n = [] := by
  intro h
  unfold allN
  rw [show 2 * n + 3 = (2 * n + 2) + 1 by omega]
  unfold foundN
  rw [show n + 1 - 0 = n + 1 by omega, h]
theorem allN_some (L : Nat → Int) (n b e : Nat) : findN L (n + 1) 0 = some (b, e) → allN L n ≠ [] := by
  intro h
  unfold allN
  rw [show 2 * n + 3 = (2 * n + 2) + 1 by omega]
  unfold foundN
  rw [show n + 1 - 0 = n + 1 by omega, h]
  simp
theorem Ordered.get {n a last : Nat} {l : List (Nat × Nat)} (h : Ordered n a last l) : ∀ i (hi : i < l.length), l[i].1 ≤ l[i].2 ∧ l[i].2 ≤ n ∧ (∀ hp : 0 < i, l[i - 1].2 ≤ l[i].1 ∧ l[i - 1].2 < l[i].2) := by
  induction h with
  | nil => intro i hi; exact absurd hi (by simp)
  | cons at_ last b e l h1 h2 h3 h4 h ih =>
    intro i hi
    cases i with
    | zero => exact ⟨h2, h3, fun hp => by omega⟩
    | succ i =>
      have hi' : i < l.length := by simpa using hi
      obtain ⟨g1, g2, g3⟩ := ih i hi'
      refine ⟨g1, g2, fun _ => ?_⟩
      cases i with
      | zero =>
        cases h with
        | nil => exact absurd hi' (by simp)
        | cons _ _ b' e' l' k1 k2 k3 k4 k => exact ⟨k1, k4⟩
      | succ i => exact g3 (by omega)
end Go.Proofs.YtimipfdknfdbdaaGreatDoor

/- (*match.Pattern).Find, Is, Text: walks. -/
namespace Go.Proofs.YtimipfdknfdbdaaGreatDoor
open Go.RowKit

/-- What Find tells. -/
def findV : Option (Nat × Nat) → Value
  | none => .tuple #[.int .i64 0, .int .i64 0, .bool false]
  | some (b, e) => .tuple #[.int .i64 (b : Nat), .int .i64 (e : Nat), .bool true]

set_option maxRecDepth 100000 in
theorem find_spec (pp start at_ : Nat) (t s : ByteArray) (ss : List St) (sv : Value) (hs : SsOk ss) (hst : start < ss.length) (hsz : s.size ≤ 100000000) (w : World) (hm : PatM w pp t ss sv start) (hat : at_ ≤ s.size + 1) :
    Calls Tryz.prog 62 #[.pointer (some ⟨pp, 0, none⟩), .string s, .int .i64 at_] w fun e w' => e = .returned (findV (findN (longN ss start s) (s.size + 1 - at_) at_)) ∧ Below w.heap.size w w' := by
  have HS := Lib.hid hs
  have HSt := Lib.hid hst
  have HM := Lib.hid hm
  have HL := Lib.hid (fun (k : Nat) (hk : k ≤ s.size) (W : World) (h : MchR W pp 1 ss sv start) => longR_spec pp 1 start k ss sv s HS.out HSt.out hk hsz W h)
  have h0 : decide ((at_ : Int) < 0) = false := decide_eq_false (by omega)
  clear hs hst hm
  go_enter Tryz.func62, Tryz.ntmps62
  go_wp2_with fail
  clear h0
  go_loopw [9, 10] (fun bv i10 wr => i10 = i10 ∧ ∃ b : Nat, bv = .int .i64 b ∧ b ≤ s.size + 1 ∧ Hid (findN (longN ss start s) (s.size + 1 - at_) at_ = findN (longN ss start s) (s.size + 1 - b) b) ∧ Hid (Below w.heap.size w wr)) (fun bv _ _ => s.size + 1 - (intOf bv).toNat)
  case atStart => exact ⟨rfl, at_, rfl, hat, Lib.hid rfl, Lib.hid (Below.refl _ _)⟩
  case round =>
    obtain ⟨_, b, rfl, hb, hF, hB⟩ := hrel
    by_cases hgo : b ≤ s.size
    · have hd : decide ((b : Int) ≤ s.size) = true := decide_eq_true (by omega)
      have HC := Lib.hid (HL.out b hgo wr (HM.out.after hB.out).mch)
      obtain ⟨v, hv⟩ : ∃ v, v = longN ss start s b := ⟨_, rfl⟩
      unfold longN at hv
      rw [← hv] at HC
      have HV := Lib.hid hv
      have hF2 : Hid (findN (longN ss start s) (s.size + 1 - b) b = if 0 ≤ v then some (b, v.toNat) else findN (longN ss start s) (s.size + 1 - (b + 1)) (b + 1)) := Lib.hid (by
        rw [show s.size + 1 - b = (s.size - b) + 1 by omega, show s.size + 1 - (b + 1) = s.size - b by omega, hv]
        rfl)
      clear hv
      go_wp2_with fail
      refine HC.out.mono ?_
      rintro e w1 ⟨rfl, b1⟩
      have B1 := Lib.hid (Below.step hB.out b1)
      clear b1
      by_cases hpos : 0 ≤ v
      · have hd2 : decide ((0 : Int) ≤ v) = true := decide_eq_true hpos
        have hR := Lib.hid (show findN (longN ss start s) (s.size + 1 - at_) at_ = some (b, v.toNat) by rw [hF.out, hF2.out, if_pos hpos])
        have hvn := Lib.hid (show ((v.toNat : Nat) : Int) = v from Int.toNat_of_nonneg hpos)
        clear hpos hd
        go_wp2_with fail
        go_ret3
        refine ⟨?_, B1.out⟩
        rw [hR.out]
        show _ = Ending.returned (.tuple #[.int .i64 (b : Nat), .int .i64 (v.toNat : Nat), .bool true])
        rw [hvn.out]
        rfl
      · have hd2 : decide ((0 : Int) ≤ v) = false := decide_eq_false hpos
        have hR : Hid (findN (longN ss start s) (s.size + 1 - at_) at_ = findN (longN ss start s) (s.size + 1 - (b + 1)) (b + 1)) := Lib.hid (by rw [hF.out, hF2.out, if_neg hpos])
        clear hpos hd
        go_wp2_with fail
        go_roundw
        case rel => exact ⟨trivial, b + 1, by go_num, by omega, hR, B1⟩
        case measure => simp [intOf]; omega
    · have hd : decide ((b : Int) ≤ s.size) = false := decide_eq_false (by omega)
      have hR := Lib.hid (show findN (longN ss start s) (s.size + 1 - at_) at_ = none by
        rw [hF.out, show s.size + 1 - b = 0 by omega]; rfl)
      go_wp2_with fail
      go_ret3
      refine ⟨?_, hB.out⟩
      rw [hR.out]
      rfl

end Go.Proofs.YtimipfdknfdbdaaGreatDoor
