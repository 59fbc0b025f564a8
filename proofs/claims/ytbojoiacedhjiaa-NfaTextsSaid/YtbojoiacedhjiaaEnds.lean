/- (*nfa.Prog).Ends and its function: walks. -/
import Derived.Test.YtbojoiacedhjiaaNWalkE
namespace Go.Proofs.Ytbojoiacedhjiaa
open Go.RowKit

/-- The places told so far, in a captured variable. -/
def TE (cb : Nat) (l : List Nat) (O : Nat → Prop) (w : World) : Prop :=
  ∃ v, One w cb v 33 ∧ w.ownsRow 0 3 1 v l.length (ints l) ∧ v.ownBlock ≠ some cb ∧ O = fun k => k = cb ∨ v.ownBlock = some k
theorem teller_E (cb : Nat) : Teller (TE cb) := by
  constructor
  · rintro l O w ⟨v, h1, h2, h3, rfl⟩ k (rfl | hk)
    · exact h1.lt
    · exact (h2.lt k hk).2
  · rintro l O w w' ⟨v, h1, h2, h3, rfl⟩ hb
    refine ⟨v, h1.keep (hb cb (Or.inl rfl)), ⟨h2.1, ?_⟩, h3, rfl⟩
    rcases h2.2 with h0 | ⟨g, cap, cur, rfl, hg, hgg, rest⟩
    · exact Or.inl h0
    · exact Or.inr ⟨g, cap, cur, rfl, hg, by rw [hb g (Or.inr rfl)]; exact hgg, rest⟩

set_option maxRecDepth 100000 in
theorem endsCall (cb : Nat) (l : List Nat) (O : Nat → Prop) (w : World) (place : Nat) (h : TE cb l O w) (hl : l.length ≤ 1000000000000) :
    Calls Try.prog 12 #[.int .i64 place, .pointer (some ⟨cb, 0, none⟩)] w fun e w' => e = .returned (.tuple #[]) ∧ ∃ O', TE cb (l ++ [place]) O' w' ∧ Moved O O' w w' := by
  obtain ⟨v, h1, h2, h3, rfl⟩ := h
  obtain ⟨i0, hi0', hz0, hz1, hz2⟩ := info_parts info_int3
  have hb := below_new w (.cells #[.int .i64 (place : Nat)] 3)
  have R5 := Lib.hid (heap_alloc_last w (.cells #[.int .i64 (place : Nat)] 3))
  have M5 := Lib.hid (owns_after h2 hb)
  have c0 := h1.c
  have H1 := Lib.hid h1
  have H2 := Lib.hid h2
  have H3 := Lib.hid h3
  have hlt := h1.lt
  clear h1 h2 h3 hb
  go_enter Try.func12, Try.ntmps12
  go_wp2_with (at_builtin; refine wpList_append_own_at _ rfl _ _ 33 rfl 0 3 i0 (.int .i64 0) 1 8 Try.underlying33 hi0' hz0 hz1 hz2 rfl (by decide) _ _ _ rfl M5.out ⟨w.heap.size, 0, none⟩ 1 1 [.int .i64 (place : Nat)] rfl rfl ?c1 ?c2 ?c3 ?c4 (Nat.zero_le _) ?_)
  case c1 =>
    intro j u hj
    have e : (⟨w.heap.size, 0, none⟩ : Addr).add j = ⟨w.heap.size, j, none⟩ := by unfold Addr.add; split <;> simp_all
    rw [e]
    exact (cell_of_row _ _ j _ _ _ R5.out).trans (by simpa using hj)
  case c2 => intro u hu; simp at hu; subst hu; rfl
  case c3 => unfold maxLen; omega
  case c4 => omega
  intro v' w4 hown' hgrow _ hat'
  have hbn := below_new w (.cells #[.int .i64 (place : Nat)] 3)
  have ho' : w4.ownsRow 0 3 1 v' (l ++ [place]).length (ints (l ++ [place])) := by rw [ints_snoc, List.length_append]; exact hown'
  have hw4 : One w4 cb v 33 := H1.out.keep ((hgrow.block cb (by rw [World.size_alloc]; omega) (fun e => H3.out e.symm)).trans (hbn.block cb hlt))
  have z0 := hw4.z
  have y0 := hw4.c
  obtain ⟨av, nv, cv, rfl⟩ : ∃ av nv cv, v' = .slice av nv cv := by
    rcases hown'.2 with ⟨hv, h0⟩ | ⟨g, cap, cur, hv, _⟩
    · exact ⟨_, _, _, hv⟩
    · exact ⟨_, _, _, hv⟩
  have hn' : (Value.slice av nv cv).ownBlock ≠ some cb := by
    rcases hat' with e | e
    · rw [e]; exact H3.out
    · rw [e]; intro e'; simp at e'; omega
  have HF : Hid (TE cb (l ++ [place]) (fun k => k = cb ∨ (Value.slice av nv cv).ownBlock = some k) (w4.setCell ⟨cb, 0, none⟩ (.slice av nv cv))) :=
    Lib.hid ⟨_, hw4.set _, ownsRow_setCell_other ho' (a := ⟨cb, 0, none⟩) hn' _, hn', rfl⟩
  have hsz : w.heap.size ≤ w4.heap.size := Nat.le_trans hbn.size hgrow.size
  have HMv : Hid (Moved (fun k => k = cb ∨ v.ownBlock = some k) (fun k => k = cb ∨ (Value.slice av nv cv).ownBlock = some k) w (w4.setCell ⟨cb, 0, none⟩ (.slice av nv cv))) := by
    refine Lib.hid ⟨hgrow.os.trans hbn.os, hgrow.tape.trans hbn.tape, hgrow.output.trans hbn.output, by simpa using hsz, fun k hk hn => ?_, fun k hk => ?_⟩
    · rw [heap_setCell_other w4 ⟨cb, 0, none⟩ k _ (fun e => hn (Or.inl e)), hgrow.block k (by rw [World.size_alloc]; omega) (fun e => hn (Or.inr e.symm))]
      exact hbn.block k hk
    · rcases hk with rfl | hk
      · exact Or.inl (Or.inl rfl)
      · rcases hat' with e | e
        · exact Or.inl (Or.inr (e ▸ hk))
        · right
          rw [e] at hk
          have : w.heap.size + 1 = k ∨ w.heap.size ≤ k := by simp at hk; omega
          omega
  clear hown' hgrow ho' hat' hbn hw4 hn' hsz
  go_wp2_with fail
  go_end0
  exact ⟨rfl, _, HF.out, HMv.out⟩

/-- What Ends leaves. -/
def EndsP (w : World) (l : List Nat) (e : Ending) (w' : World) : Prop := ∃ v, e = .returned v ∧ w'.ownsRow 0 3 1 v l.length (ints l) ∧ Below w.heap.size w w'

set_option maxRecDepth 100000 in
theorem ends_spec (p start at_ : Nat) (ss : List St) (sv : Value) (s : ByteArray) (hs : SsOk ss) (hst : start < ss.length) (hat : at_ ≤ s.size) (hsz : s.size ≤ 100000000) (w : World) (hm : Mch w p ss sv start) :
    Calls Try.prog 8 #[.pointer (some ⟨p, 0, none⟩), .string s, .int .i64 at_] w (EndsP w (toldN ss start s at_)) := by
  obtain ⟨W, hW⟩ : ∃ W, W = w.alloc (.cells #[.slice none 0 0] 33) := ⟨_, rfl⟩
  have hb : Below w.heap.size w W := by rw [hW]; exact below_new _ _
  have h1 : One W w.heap.size (.slice none 0 0) 33 := by rw [hW]; exact one_new _ _ _
  have hT : TE w.heap.size [] (fun k => k = w.heap.size ∨ (Value.slice none 0 0).ownBlock = some k) W := ⟨_, h1, World.ownsRow_nil _ _ _ _, by simp [Value.ownBlock], rfl⟩
  have HC := Lib.hid (walkE p start w.heap.size at_ ss sv s (TE w.heap.size) (teller_E _) (endsCall w.heap.size) hs hst hat hsz _ W (hm.after hb) hT (fun k hk h => by
    rcases h with rfl | h
    · have := (hm.own.lt _ hk).2; omega
    · simp [Value.ownBlock] at h))
  have HB := Lib.hid hb
  have hmf : ∀ (fn : Fn) (first cap : Array Value) (w : World), (Instr.makeFunc fn first cap).run Try.prog w = .ok (.func fn first cap) w := fun _ _ _ _ => rfl
  clear hm hs hst hat hsz hb h1 hT
  go_enter Try.func8, Try.ntmps8
  go_upto_region 2 with (fail)
  rw [← hW]
  clear hW
  go_wp2_with fail
  refine HC.out.mono ?_
  rintro e w1 ⟨rfl, O', ⟨v, h1, h2, h3, hO⟩, hmv⟩
  have c0 := h1.c
  have HR := Lib.hid h2
  have HB2 : Hid (Below w.heap.size w w1) := Lib.hid (HB.out.trans ⟨hmv.os, hmv.tape, hmv.output, hmv.size, fun k hk => hmv.block k (by have := HB.out.size; omega) (fun h => by
    rcases h with h | h
    · omega
    · simp [Value.ownBlock] at h)⟩)
  clear h1 h2 h3 hO hmv
  go_wp2_with fail
  go_ret
  exact ⟨v, rfl, HR.out, HB2.out⟩
end Go.Proofs.Ytbojoiacedhjiaa
