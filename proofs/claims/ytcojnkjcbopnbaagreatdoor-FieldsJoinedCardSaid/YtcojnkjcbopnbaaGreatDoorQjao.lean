/- Merged by program: ToldB, Find, Parts7. -/
import Derived.Test.YtcojnkjcbopnbaaGreatDoorQjan
import Derived.Test.YtcojnkjcbopnbaaGreatDoorQjal
/- Where a machine's places lie: plain Lean. -/
namespace Go.Proofs.YtcojnkjcbopnbaaGreatDoor
open Go.RowKit

theorem comeN_told (ss : List St) (size d : Nat) : ∀ (i place : Nat) (x : Wk) (k : Nat), k ∈ (comeN ss size d i place x).told → k ∈ x.told ∨ k = place := by
  induction d with
  | zero => intro i place x k h; exact Or.inl h
  | succ d ih =>
    intro i place x k h
    unfold comeN at h
    split at h
    · exact Or.inl h
    · split at h
      · exact Or.inl h
      · rename_i s _
        split at h
        · rcases List.mem_append.1 h with h | h
          · exact Or.inl h
          · exact Or.inr (List.mem_singleton.1 h)
        · split at h
          · exact Or.inl h
          · split at h
            · split at h
              · exact ih _ _ ⟨x.seen.set i (place + 1), x.wait, x.told⟩ _ h
              · exact Or.inl h
            · split at h
              · split at h
                · exact ih _ _ ⟨x.seen.set i (place + 1), x.wait, x.told⟩ _ h
                · exact Or.inl h
              · split at h
                · rcases ih _ _ _ _ h with h | h
                  · exact ih _ _ ⟨x.seen.set i (place + 1), x.wait, x.told⟩ _ h
                  · exact Or.inr h
                · exact Or.inl h
theorem stepN_told (ss : List St) (size c place : Nat) (l : List Nat) : ∀ (x : Wk) (k : Nat), k ∈ (stepN ss size c place l x).told → k ∈ x.told ∨ k = place + 1 := by
  induction l with
  | nil => intro x k h; exact Or.inl h
  | cons i l ih =>
    intro x k h
    rcases ih (oneN ss size c place x i) k h with h | h
    · unfold oneN at h
      split at h
      · exact Or.inl h
      · split at h
        · exact comeN_told _ _ _ _ _ _ _ h
        · exact Or.inl h
    · exact Or.inr h
theorem walkN_told (ss : List St) (s : ByteArray) (d : Nat) : ∀ (place : Nat) (x : Wk) (k : Nat), k ∈ (walkN ss s d place x).told → k ∈ x.told ∨ (place < k ∧ k ≤ place + d) := by
  induction d with
  | zero => intro place x k h; exact Or.inl h
  | succ d ih =>
    intro place x k h
    unfold walkN at h
    split at h
    · exact Or.inl h
    · rcases ih _ _ _ h with h | h
      · rcases stepN_told _ _ _ _ _ _ _ h with h | h
        · exact Or.inl h
        · exact Or.inr ⟨by omega, by omega⟩
      · exact Or.inr ⟨by omega, by omega⟩
theorem toldN_in (ss : List St) (start : Nat) (s : ByteArray) (at_ : Nat) (hat : at_ ≤ s.size) (k : Nat) (h : k ∈ toldN ss start s at_) : at_ ≤ k ∧ k ≤ s.size := by
  unfold toldN at h
  rcases walkN_told _ _ _ _ _ _ h with h | h
  · rcases comeN_told _ _ _ _ _ _ _ h with h | h
    · simp [beginWk] at h
    · omega
  · omega
/-- The greatest place to which a machine goes. -/
def longN (ss : List St) (start : Nat) (s : ByteArray) (at_ : Nat) : Int := lastN (toldN ss start s at_)
/-- What is told of longest places. -/
def LongOk (L : Nat → Int) (n : Nat) : Prop := ∀ k, k ≤ n → L k = -1 ∨ ((k : Int) ≤ L k ∧ L k ≤ n)
theorem longN_ok (ss : List St) (start : Nat) (s : ByteArray) : LongOk (longN ss start s) s.size := by
  intro k hk
  unfold longN lastN
  split
  · exact Or.inl rfl
  · rename_i j h
    have := toldN_in ss start s k hk j (List.mem_of_getLast? h)
    exact Or.inr ⟨by omega, by omega⟩

/-- The first part from a place on. -/
def findN (L : Nat → Int) : Nat → Nat → Option (Nat × Nat)
  | 0, _ => none
  | d + 1, at_ => if 0 ≤ L at_ then some (at_, (L at_).toNat) else findN L d (at_ + 1)
theorem findN_in (L : Nat → Int) (n : Nat) (hL : LongOk L n) (d : Nat) : ∀ (at_ : Nat), at_ + d ≤ n + 1 → ∀ b e, findN L d at_ = some (b, e) → at_ ≤ b ∧ b ≤ e ∧ e ≤ n ∧ L b = e := by
  induction d with
  | zero => intro at_ _ b e h; cases h
  | succ d ih =>
    intro at_ hd b e h
    unfold findN at h
    split at h
    · simp only [Option.some.injEq, Prod.mk.injEq] at h
      obtain ⟨rfl, rfl⟩ := h
      rcases hL at_ (by omega) with h | h
      · omega
      · exact ⟨Nat.le_refl _, by omega, by omega, by omega⟩
    · have := ih (at_ + 1) (by omega) b e h
      exact ⟨by omega, this.2⟩
/-- All parts, one behind the other, from a place on; where the last one ended, and one. -/
def foundN (L : Nat → Int) (n : Nat) : Nat → Nat → Nat → List (Nat × Nat)
  | 0, _, _ => []
  | d + 1, at_, last =>
    match findN L (n + 1 - at_) at_ with
    | none => []
    | some (b, e) => if b = e ∧ e + 1 = last then foundN L n d (e + 1) last else (b, e) :: foundN L n d e (e + 1)
def allN (L : Nat → Int) (n : Nat) : List (Nat × Nat) := foundN L n (2 * n + 3) 0 0
/-- Parts in order, from a place on, behind an end. -/
inductive Ordered (n : Nat) : Nat → Nat → List (Nat × Nat) → Prop
  | nil (at_ last : Nat) : Ordered n at_ last []
  | cons (at_ last b e : Nat) (l : List (Nat × Nat)) (h1 : at_ ≤ b) (h2 : b ≤ e) (h3 : e ≤ n) (h4 : last ≤ e) (h : Ordered n e (e + 1) l) : Ordered n at_ last ((b, e) :: l)
theorem Ordered.weak {n a a' last : Nat} {l : List (Nat × Nat)} (h : Ordered n a last l) (ha : a' ≤ a) : Ordered n a' last l := by
  cases h with
  | nil => exact .nil _ _
  | cons _ _ b e l h1 h2 h3 h4 h => exact .cons _ _ b e l (by omega) h2 h3 h4 h
theorem foundN_ordered (L : Nat → Int) (n : Nat) (hL : LongOk L n) (d : Nat) : ∀ at_ last, last ≤ at_ + 1 → Ordered n at_ last (foundN L n d at_ last) := by
  induction d with
  | zero => intro at_ last _; exact .nil _ _
  | succ d ih =>
    intro at_ last hl
    unfold foundN
    split
    · exact .nil _ _
    · rename_i b e hf
      by_cases hat : at_ ≤ n
      · obtain ⟨h1, h2, h3, h4⟩ := findN_in L n hL _ at_ (by omega) b e hf
        split
        · exact (ih (e + 1) last (by omega)).weak (by omega)
        · exact .cons _ _ b e _ h1 h2 h3 (by omega) (ih e (e + 1) (by omega))
      · rw [show n + 1 - at_ = 0 by omega] at hf
        cases hf
theorem allN_none (L : Nat → Int) (n : Nat) : findN L (n + 1) 0 = none → allN L n = [] := by
  intro h
  unfold allN
  rw [show 2 * n + 3 = (2 * n + 2) + 1 by omega]
  unfold foundN
  rw [show n + 1 - 0 = n + 1 by omega, h]
theorem allN_some (L : Nat → Int) (n b e : Nat) : findN L (n + 1) 0 = some (b, e) → allN L n ≠ [] := by
  intro h
  unfold allN
  rw [show 2 * n + 3 = (2 * n + 2) + 1 by omega]
  unfold foundN
  rw [show n + 1 - 0 = n + 1 by omega, h]
  simp
theorem Ordered.get {n a last : Nat} {l : List (Nat × Nat)} (h : Ordered n a last l) : ∀ i (hi : i < l.length), l[i].1 ≤ l[i].2 ∧ l[i].2 ≤ n ∧ (∀ hp : 0 < i, l[i - 1].2 ≤ l[i].1 ∧ l[i - 1].2 < l[i].2) := by
  induction h with
  | nil => intro i hi; exact absurd hi (by simp)
  | cons at_ last b e l h1 h2 h3 h4 h ih =>
    intro i hi
    cases i with
    | zero => exact ⟨h2, h3, fun hp => by omega⟩
    | succ i =>
      have hi' : i < l.length := by simpa using hi
      obtain ⟨g1, g2, g3⟩ := ih i hi'
      refine ⟨g1, g2, fun _ => ?_⟩
      cases i with
      | zero =>
        cases h with
        | nil => exact absurd hi' (by simp)
        | cons _ _ b' e' l' k1 k2 k3 k4 k => exact ⟨k1, k4⟩
      | succ i => exact g3 (by omega)
end Go.Proofs.YtcojnkjcbopnbaaGreatDoor

/- (*match.Pattern).Find, Is, Text: walks. -/
namespace Go.Proofs.YtcojnkjcbopnbaaGreatDoor
open Go.RowKit

/-- What Find tells. -/
def findV : Option (Nat × Nat) → Value
  | none => .tuple #[.int .i64 0, .int .i64 0, .bool false]
  | some (b, e) => .tuple #[.int .i64 (b : Nat), .int .i64 (e : Nat), .bool true]

set_option maxRecDepth 100000 in
theorem find_spec (pp start at_ : Nat) (t s : ByteArray) (ss : List St) (sv : Value) (hs : SsOk ss) (hst : start < ss.length) (hsz : s.size ≤ 100000000) (w : World) (hm : PatM w pp t ss sv start) (hat : at_ ≤ s.size + 1) :
    Calls Tryz.prog 45 #[.pointer (some ⟨pp, 0, none⟩), .string s, .int .i64 at_] w fun e w' => e = .returned (findV (findN (longN ss start s) (s.size + 1 - at_) at_)) ∧ Below w.heap.size w w' := by
  have HS := Lib.hid hs
  have HSt := Lib.hid hst
  have HM := Lib.hid hm
  have HL := Lib.hid (fun (k : Nat) (hk : k ≤ s.size) (W : World) (h : MchR W pp 1 ss sv start) => longR_spec pp 1 start k ss sv s HS.out HSt.out hk hsz W h)
  have h0 : decide ((at_ : Int) < 0) = false := decide_eq_false (by omega)
  clear hs hst hm
  go_enter Tryz.func45, Tryz.ntmps45
  go_wp2_with fail
  clear h0
  go_loopw [9, 10] (fun bv i10 wr => i10 = i10 ∧ ∃ b : Nat, bv = .int .i64 b ∧ b ≤ s.size + 1 ∧ Hid (findN (longN ss start s) (s.size + 1 - at_) at_ = findN (longN ss start s) (s.size + 1 - b) b) ∧ Hid (Below w.heap.size w wr)) (fun bv _ _ => s.size + 1 - (intOf bv).toNat)
  case atStart => exact ⟨rfl, at_, rfl, hat, Lib.hid rfl, Lib.hid (Below.refl _ _)⟩
  case round =>
    obtain ⟨_, b, rfl, hb, hF, hB⟩ := hrel
    by_cases hgo : b ≤ s.size
    · have hd : decide ((b : Int) ≤ s.size) = true := decide_eq_true (by omega)
      have HC := Lib.hid (HL.out b hgo wr (HM.out.after hB.out).mch)
      obtain ⟨v, hv⟩ : ∃ v, v = longN ss start s b := ⟨_, rfl⟩
      unfold longN at hv
      rw [← hv] at HC
      have HV := Lib.hid hv
      have hF2 : Hid (findN (longN ss start s) (s.size + 1 - b) b = if 0 ≤ v then some (b, v.toNat) else findN (longN ss start s) (s.size + 1 - (b + 1)) (b + 1)) := Lib.hid (by
        rw [show s.size + 1 - b = (s.size - b) + 1 by omega, show s.size + 1 - (b + 1) = s.size - b by omega, hv]
        rfl)
      clear hv
      go_wp2_with fail
      refine HC.out.mono ?_
      rintro e w1 ⟨rfl, b1⟩
      have B1 := Lib.hid (Below.step hB.out b1)
      clear b1
      by_cases hpos : 0 ≤ v
      · have hd2 : decide ((0 : Int) ≤ v) = true := decide_eq_true hpos
        have hR := Lib.hid (show findN (longN ss start s) (s.size + 1 - at_) at_ = some (b, v.toNat) by rw [hF.out, hF2.out, if_pos hpos])
        have hvn := Lib.hid (show ((v.toNat : Nat) : Int) = v from Int.toNat_of_nonneg hpos)
        clear hpos hd
        go_wp2_with fail
        go_ret3
        refine ⟨?_, B1.out⟩
        rw [hR.out]
        show _ = Ending.returned (.tuple #[.int .i64 (b : Nat), .int .i64 (v.toNat : Nat), .bool true])
        rw [hvn.out]
        rfl
      · have hd2 : decide ((0 : Int) ≤ v) = false := decide_eq_false hpos
        have hR : Hid (findN (longN ss start s) (s.size + 1 - at_) at_ = findN (longN ss start s) (s.size + 1 - (b + 1)) (b + 1)) := Lib.hid (by rw [hF.out, hF2.out, if_neg hpos])
        clear hpos hd
        go_wp2_with fail
        go_roundw
        case rel => exact ⟨trivial, b + 1, by go_num, by omega, hR, B1⟩
        case measure => simp [intOf]; omega
    · have hd : decide ((b : Int) ≤ s.size) = false := decide_eq_false (by omega)
      have hR := Lib.hid (show findN (longN ss start s) (s.size + 1 - at_) at_ = none by
        rw [hF.out, show s.size + 1 - b = 0 by omega]; rfl)
      go_wp2_with fail
      go_ret3
      refine ⟨?_, hB.out⟩
      rw [hR.out]
      rfl

end Go.Proofs.YtcojnkjcbopnbaaGreatDoor

/- (*match.Pattern).parts: its iterator's contract. -/
namespace Go.Proofs.YtcojnkjcbopnbaaGreatDoor
open Go.RowKit Go.Shelf
attribute [local go_sem] Oper.semAt_some

/-- Blocks stay. -/
structure KeepS (R : Nat → Prop) (W W' : World) : Prop where
  block : ∀ k, R k → W'.heap[k]? = W.heap[k]?
theorem KeepS.refl (R : Nat → Prop) (W : World) : KeepS R W W := ⟨fun _ _ => rfl⟩
theorem KeepS.trans {R : Nat → Prop} {A B C : World} (h : KeepS R A B) (k : KeepS R B C) : KeepS R A C := ⟨fun j hj => (k.block j hj).trans (h.block j hj)⟩
theorem KeepS.put {R : Nat → Prop} {w : World} (h : ∀ k, R k → k < w.heap.size) (W : World) (l : Nat) (o o' : Obj) (hl : w.heap.size ≤ l) (_ : W.heap[l]? = some o) (_ : o.isCells = false) (_ : o.isWalk = false) : KeepS R W (W.putObj l o') :=
  ⟨fun k hk => World.putObj_heap_other (by have := h k hk; omega)⟩
theorem grownBy_of {W W' : World} (h : Below W.heap.size W W') : W.grownBy W' none := ⟨h.os, h.tape, h.output, h.size, fun k hk _ => h.block k hk⟩
/-- What an iterator over parts reads. -/
def PartS (pp : Nat) (sv : Value) (Bp Bs : Nat) : Nat → Prop := fun k => PatS pp sv k ∨ k = Bp ∨ k = Bs

set_option maxRecDepth 100000 in
set_option maxHeartbeats 2000000 in
theorem parts1_in (n : Nat) (hn : 1 ≤ n) (pp start Bp Bs : Nat) (t s : ByteArray) (ss : List St) (sv : Value) (hs : SsOk ss) (hst : start < ss.length) (hsz : s.size ≤ 100000000) (l : Nat) (J Jx : List (Nat × Nat) → World → Prop)
    (W : World) (hm : PatM W pp t ss sv start) (hp : One W Bp (.pointer (some ⟨pp, 0, none⟩)) 58) (hsb : One W Bs (.string s) 9) (hJ : AbidesFrom W.heap.size J)
    (hY : ∀ pre x W1, J pre W1 → pre.length < (allN (longN ss start s) s.size).length → YieldAt Fence.wide (n - 1) Tryz.prog l #[.int .i64 (x.1 : Nat), .int .i64 (x.2 : Nat)] W1 fun e W' =>
      (e = .returned (.bool true) ∧ J (pre ++ [x]) W' ∧ KeepS (PartS pp sv Bp Bs) W1 W') ∨ (e = .returned (.bool false) ∧ Jx (pre ++ [x]) W')) (h0 : J [] W) :
    CallsIn Fence.wide n Tryz.prog 125 #[.func (.yield l) #[] #[], .pointer (some ⟨Bp, 0, none⟩), .pointer (some ⟨Bs, 0, none⟩)] W fun e W' => (∃ v, e = .returned v) ∧
      ((∃ ys, ys = allN (longN ss start s) s.size ∧ J ys W') ∨ (∃ pre, True ∧ Jx pre W')) := by
  have HY := Lib.hid hY
  have HM := Lib.hid hm
  have HP := Lib.hid hp
  have HSb := Lib.hid hsb
  have HJ := Lib.hid hJ
  have HFi := Lib.hid (fun (k : Nat) (hk : k ≤ s.size + 1) (V : World) (h : PatM V pp t ss sv start) => find_spec pp start k t s ss sv hs hst hsz V h hk)
  obtain ⟨L, hL⟩ : ∃ L, L = longN ss start s := ⟨_, rfl⟩
  have hLok : LongOk L s.size := by rw [hL]; exact longN_ok ss start s
  rw [← hL] at HFi HY ⊢
  have HLok := Lib.hid hLok
  clear hY hm hp hsb hJ hs hst hL hLok
  refine callsIn_of_wp Tryz.func125 rfl trivial ?_ rfl
  simp only [Tryz.ntmps125, List.size_toArray, List.length_cons, List.length_nil, Nat.reduceAdd, Nat.reduceSub, Array.replicate_succ, Array.replicate_zero, List.push_toArray, List.append_toArray, List.nil_append, List.cons_append]
  gi_wp2
  gi_loopw [4, 5, 6, 7, 8] (fun av lv i6 i7 i8 wr => i6 = i6 ∧ i7 = i7 ∧ i8 = i8 ∧ ∃ (at_ last d : Nat) (pre : List (Nat × Nat)), av = .int .i64 (at_ : Nat) ∧ lv = .int .i64 ((last : Nat) - 1) ∧ at_ ≤ s.size + 1 ∧ last ≤ at_ + 1 ∧ last ≤ s.size + 1 ∧ (s.size + 1 - at_) + (s.size + 1 - last) < d ∧ Hid (allN L s.size = pre ++ foundN L s.size d at_ last) ∧ Hid (J pre wr) ∧ Hid (KeepS (PartS pp sv Bp Bs) W wr))
    (fun av lv _ _ _ _ => (s.size + 1 - (intOf av).toNat) + (s.size + 1 - (intOf lv + 1).toNat))
  case atStart => exact ⟨rfl, rfl, rfl, 0, 0, 2 * s.size + 3, [], rfl, rfl, by omega, by omega, by omega, by omega, Lib.hid rfl, Lib.hid h0, Lib.hid (KeepS.refl _ _)⟩
  case round =>
    obtain ⟨_, _, _, at_, last, d, pre, rfl, rfl, h1, h2, h3, h4, hA, hJs, hK⟩ := hrel
    have c1 : wr.cell? ⟨Bp, 0, none⟩ = some (.pointer (some ⟨pp, 0, none⟩)) := (World.cell?_of_block (a := ⟨Bp, 0, none⟩) (hK.out.block Bp (Or.inr (Or.inl rfl)))).trans HP.out.c
    have c2 : wr.cell? ⟨Bs, 0, none⟩ = some (.string s) := (World.cell?_of_block (a := ⟨Bs, 0, none⟩) (hK.out.block Bs (Or.inr (Or.inr rfl)))).trans HSb.out.c
    have HMr := Lib.hid (HM.out.keep (w' := wr) fun k hk => hK.out.block k (Or.inl hk))
    have HC := Lib.hid (HFi.out at_ h1 wr HMr.out)
    obtain ⟨r, hr⟩ : ∃ r, r = findN L (s.size + 1 - at_) at_ := ⟨_, rfl⟩
    rw [← hr] at HC
    have HR := Lib.hid hr
    have hlow : ∀ k, PartS pp sv Bp Bs k → k < wr.heap.size := by
      rintro k (hk | rfl | rfl)
      · exact HMr.out.low k hk
      · exact cell_lt c1
      · exact cell_lt c2
    have HLow := Lib.hid hlow
    clear hr hlow
    gi_wp2
    refine ⟨trivial, ?_⟩
    refine (callsIn_wide.2 HC.out).mono ?_
    rintro e w1 ⟨rfl, b1⟩
    have J1 := Lib.hid (HJ.out pre wr w1 none hJs.out (grownBy_of b1) (fun r e => by cases e))
    have K1 : Hid (KeepS (PartS pp sv Bp Bs) W w1) := Lib.hid (hK.out.trans ⟨fun k hk => b1.block k (HLow.out k hk)⟩)
    clear b1 c1 c2
    cases r with
    | none =>
      have hE : Hid (allN L s.size = pre) := Lib.hid (by
        rw [hA.out]
        obtain ⟨d', rfl⟩ : ∃ d', d = d' + 1 := ⟨d - 1, by omega⟩
        unfold foundN
        rw [← HR.out]
        simp)
      unfold findV
      gi_wp2
      refine bodyPost_ret (results_none rfl _ _ _) rfl ?_
      exact ⟨⟨_, rfl⟩, .inl ⟨_, rfl, by rw [hE.out]; exact J1.out⟩⟩
    | some x =>
      obtain ⟨b, e⟩ := x
      have hin : at_ ≤ b ∧ b ≤ e ∧ e ≤ s.size ∧ L b = e := by
        by_cases hat : at_ ≤ s.size
        · exact findN_in L s.size HLok.out _ at_ (by omega) b e HR.out.symm
        · have h := HR.out
          rw [show s.size + 1 - at_ = 0 by omega] at h
          cases h
      obtain ⟨g1, g2, g3, _⟩ := hin
      obtain ⟨d', rfl⟩ : ∃ d', d = d' + 1 := ⟨d - 1, by omega⟩
      have hP : Hid (foundN L s.size (d' + 1) at_ last = if b = e ∧ e + 1 = last then foundN L s.size d' (e + 1) last else (b, e) :: foundN L s.size d' e (e + 1)) := Lib.hid (by
        conv => lhs; unfold foundN
        rw [← HR.out])
      unfold findV
      by_cases hskip : b = e ∧ e + 1 = last
      · have hQ : Hid (allN L s.size = pre ++ foundN L s.size d' (e + 1) last) := Lib.hid (by rw [hA.out, hP.out, if_pos hskip])
        obtain ⟨rfl, hel⟩ := hskip
        have hq : ((b : Int) == (last : Int) - 1) = true := beq_iff_eq.2 (by omega)
        clear hP hA HC HR
        gi_wp2
        go_roundw
        case rel => exact ⟨trivial, trivial, trivial, b + 1, last, d', pre, by go_num, rfl, by omega, by omega, by omega, by omega, hQ, J1, K1⟩
        case measure => simp [intOf]; omega
      · have hQ : Hid (allN L s.size = (pre ++ [(b, e)]) ++ foundN L s.size d' e (e + 1)) := Lib.hid (by rw [hA.out, hP.out, if_neg hskip]; simp)
        have hpl : pre.length < (allN L s.size).length := by rw [hQ.out]; simp
        have hy0 := HY.out pre (b, e) w1 J1.out hpl
        dsimp only at hy0
        have hfin : ∀ w3, J (pre ++ [(b, e)]) w3 → KeepS (PartS pp sv Bp Bs) w1 w3 → Hid (J (pre ++ [(b, e)]) w3) ∧ Hid (KeepS (PartS pp sv Bp Bs) W w3) := fun w3 a k => ⟨Lib.hid a, Lib.hid (K1.out.trans k)⟩
        have HFin := Lib.hid hfin
        clear hP hA HC HR hfin hpl
        by_cases hbe : b = e
        · subst hbe
          have hq : ((b : Int) == (last : Int) - 1) = false := beq_eq_false_iff_ne.2 (fun h => hskip ⟨rfl, by omega⟩)
          have hlast : last ≤ b := by
            have : ¬ (b + 1 = last) := fun h => hskip ⟨rfl, h⟩
            omega
          obtain ⟨fn, tmps, assign, body, hy, hRr⟩ := hy0
          clear hskip
          gi_wp2
          refine hRr.mono ?_
          rintro e W3 (⟨rfl, hJ3, hk3⟩ | ⟨rfl, hJx3⟩)
          · obtain ⟨J3, K3⟩ := HFin.out W3 hJ3 hk3
            clear hJ3 hk3
            gi_wp2
            go_roundw
            case rel => exact ⟨trivial, trivial, trivial, b, b + 1, d', _, rfl, by go_num, by omega, by omega, by omega, by omega, hQ, J3, K3⟩
            case measure => simp [intOf]; omega
          · gi_wp2
            refine bodyPost_ret (results_none rfl _ _ _) rfl ?_
            exact ⟨⟨_, rfl⟩, .inr ⟨_, trivial, hJx3⟩⟩
        · have hq : ((b : Int) == (e : Int)) = false := beq_eq_false_iff_ne.2 (fun h => hbe (by omega))
          obtain ⟨fn, tmps, assign, body, hy, hRr⟩ := hy0
          clear hskip
          gi_wp2
          refine hRr.mono ?_
          rintro e' W3 (⟨rfl, hJ3, hk3⟩ | ⟨rfl, hJx3⟩)
          · obtain ⟨J3, K3⟩ := HFin.out W3 hJ3 hk3
            clear hJ3 hk3
            gi_wp2
            go_roundw
            case rel => exact ⟨trivial, trivial, trivial, e, e + 1, d', _, rfl, by go_num, by omega, by omega, by omega, by omega, hQ, J3, K3⟩
            case measure => simp [intOf]; omega
          · gi_wp2
            refine bodyPost_ret (results_none rfl _ _ _) rfl ?_
            exact ⟨⟨_, rfl⟩, .inr ⟨_, trivial, hJx3⟩⟩

/-- parts: the pattern and the text are boxed; the function value captures the boxes. -/
theorem parts_in (pp : Nat) (s : ByteArray) (n : Nat) (w : World) :
    CallsIn Fence.wide n Tryz.prog 109 #[.pointer (some ⟨pp, 0, none⟩), .string s] w fun e w' => e = .returned (.func (.func 125) #[] #[.pointer (some ⟨w.heap.size, 0, none⟩), .pointer (some ⟨w.heap.size + 1, 0, none⟩)]) ∧
      w' = (w.alloc (.cells #[.pointer (some ⟨pp, 0, none⟩)] 58)).alloc (.cells #[.string s] 9) := by
  refine callsIn_of_wp Tryz.func109 rfl trivial ?_ rfl
  simp only [Tryz.ntmps109, List.size_toArray, List.length_cons, List.length_nil, Nat.reduceAdd, Nat.reduceSub, Array.replicate_succ, Array.replicate_zero, List.push_toArray, List.append_toArray, List.nil_append, List.cons_append]
  gi_wp2
  go_ret
  exact ⟨rfl, rfl⟩

/-- The value that parts hands back: all parts. -/
theorem parts_stops (n : Nat) (hn : 1 ≤ n) (pp start Bp Bs : Nat) (t s : ByteArray) (ss : List St) (sv : Value) (hs : SsOk ss) (hst : start < ss.length) (hsz : s.size ≤ 100000000) (w : World) (hm : PatM w pp t ss sv start)
    (hp : One w Bp (.pointer (some ⟨pp, 0, none⟩)) 58) (hsb : One w Bs (.string s) 9) :
    SeqStopsK Fence.wide n Tryz.prog 125 #[.pointer (some ⟨Bp, 0, none⟩), .pointer (some ⟨Bs, 0, none⟩)] (fun x : Nat × Nat => #[Value.int .i64 (x.1 : Nat), .int .i64 (x.2 : Nat)]) (KeepS (PartS pp sv Bp Bs))
      (fun ys => ys = allN (longN ss start s) s.size) (fun _ => True) (allN (longN ss start s) s.size).length w := fun l J Jx W hW hJ _ hY h0 =>
  parts1_in n hn pp start Bp Bs t s ss sv hs hst hsz l J Jx W (hm.after hW) (hp.after hW) (hsb.after hW) hJ hY h0
end Go.Proofs.YtcojnkjcbopnbaaGreatDoor
