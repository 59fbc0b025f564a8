/- (*nfa.Prog).Longest and its function: walks. -/
import Derived.Test.YtbojoiacedhjiaaNWalkL
namespace Go.Proofs.Ytbojoiacedhjiaa
open Go.RowKit

/-- The last place told; -1, if there is none. -/
def lastN (l : List Nat) : Int := match l.getLast? with | none => -1 | some k => (k : Nat)
theorem lastN_snoc (l : List Nat) (k : Nat) : lastN (l ++ [k]) = (k : Nat) := by simp [lastN]
/-- The last place told so far, in a captured variable. -/
def TL (cb : Nat) (l : List Nat) (O : Nat → Prop) (w : World) : Prop := One w cb (.int .i64 (lastN l)) 3 ∧ O = fun k => k = cb
theorem teller_L (cb : Nat) : Teller (TL cb) := by
  constructor
  · rintro l O w ⟨h1, rfl⟩ k rfl
    exact h1.lt
  · rintro l O w w' ⟨h1, rfl⟩ hb
    exact ⟨h1.keep (hb cb rfl), rfl⟩

set_option maxRecDepth 100000 in
theorem longestCall (cb : Nat) (l : List Nat) (O : Nat → Prop) (w : World) (place : Nat) (h : TL cb l O w) (_ : l.length ≤ 1000000000000) :
    Calls Try.prog 17 #[.int .i64 place, .pointer (some ⟨cb, 0, none⟩)] w fun e w' => e = .returned (.tuple #[]) ∧ ∃ O', TL cb (l ++ [place]) O' w' ∧ Moved O O' w w' := by
  obtain ⟨h1, rfl⟩ := h
  have c0 := h1.c
  have z0 := h1.z
  have HF : Hid (TL cb (l ++ [place]) (fun k => k = cb) (w.setCell ⟨cb, 0, none⟩ (.int .i64 (place : Nat)))) := Lib.hid ⟨by rw [lastN_snoc]; exact h1.set _, rfl⟩
  have HM : Hid (Moved (fun k => k = cb) (fun k => k = cb) w (w.setCell ⟨cb, 0, none⟩ (.int .i64 (place : Nat)))) := Lib.hid ⟨rfl, rfl, rfl, by simp, fun k _ hn => heap_setCell_other w ⟨cb, 0, none⟩ k _ (fun e => hn e), fun k hk => Or.inl hk⟩
  clear h1
  go_enter Try.func17, Try.ntmps17
  go_wp2_with fail
  go_end0
  exact ⟨rfl, _, HF.out, HM.out⟩

set_option maxRecDepth 100000 in
theorem longest_spec (p start at_ : Nat) (ss : List St) (sv : Value) (s : ByteArray) (hs : SsOk ss) (hst : start < ss.length) (hat : at_ ≤ s.size) (hsz : s.size ≤ 100000000) (w : World) (hm : Mch w p ss sv start) :
    Calls Try.prog 10 #[.pointer (some ⟨p, 0, none⟩), .string s, .int .i64 at_] w fun e w' => e = .returned (.int .i64 (lastN (toldN ss start s at_))) ∧ Below w.heap.size w w' := by
  obtain ⟨W, hW⟩ : ∃ W, W = w.alloc (.cells #[.int .i64 (-1)] 3) := ⟨_, rfl⟩
  have hb : Below w.heap.size w W := by rw [hW]; exact below_new _ _
  have h1 : One W w.heap.size (.int .i64 (-1)) 3 := by rw [hW]; exact one_new _ _ _
  have hT : TL w.heap.size [] (fun k => k = w.heap.size) W := ⟨h1, rfl⟩
  have HC := Lib.hid (walkL p start w.heap.size at_ ss sv s (TL w.heap.size) (teller_L _) (longestCall w.heap.size) hs hst hat hsz _ W (hm.after hb) hT (fun k hk h => by
    have h' : k = w.heap.size := h
    have := (hm.own.lt _ hk).2
    omega))
  have HB := Lib.hid hb
  have hmf : ∀ (fn : Fn) (first cap : Array Value) (w : World), (Instr.makeFunc fn first cap).run Try.prog w = .ok (.func fn first cap) w := fun _ _ _ _ => rfl
  clear hm hs hst hat hsz hb h1 hT
  go_enter Try.func10, Try.ntmps10
  go_upto_region 2 with (fail)
  rw [← hW]
  clear hW
  go_wp2_with fail
  refine HC.out.mono ?_
  rintro e w1 ⟨rfl, O', ⟨h1, hO⟩, hmv⟩
  have c0 := h1.c
  have HB2 : Hid (Below w.heap.size w w1) := Lib.hid (HB.out.trans ⟨hmv.os, hmv.tape, hmv.output, hmv.size, fun k hk => hmv.block k (by have := HB.out.size; omega) (fun h => by
    have h' : k = w.heap.size := h
    omega)⟩)
  clear h1 hO hmv
  go_wp2_with fail
  go_ret
  exact ⟨rfl, HB2.out⟩
end Go.Proofs.Ytbojoiacedhjiaa
