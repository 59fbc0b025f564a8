/- Merged by program: SAtAny, LayTimes. -/
import Derived.Test.YtcojnkjcbopnbaaGreatDoorQjah
import Derived.Test.YtcojnkjcbopnbaaGreatDoorQjaq
import Derived.Test.YtcojnkjcbopnbaaGreatDoorQjaf
import Derived.Test.YtcojnkjcbopnbaaGreatDoorQjap
/- subst.At at any separator: walks (the pattern's New by its contract). -/
namespace Go.Proofs.YtcojnkjcbopnbaaGreatDoor
open Go.RowKit

theorem short_chars (s : ByteArray) : Short s.size (T2.chs s 0) := by
  intro x hx
  obtain ⟨i, hi, rfl⟩ := List.getElem_of_mem hx
  have h := T2.chs_get s 0 i hi
  rw [List.getElem?_eq_getElem hi] at h
  simp only [Option.some.injEq] at h
  rw [h]
  simp only [ByteArray.size_extract]
  omega
theorem mem_join (sep : List UInt8) : ∀ (l : List (List UInt8)) (x : List UInt8), x ∈ l → x.length ≤ (sJoin sep l).length
  | [], _, h => by simp at h
  | y :: l, x, h => by
    simp only [sJoin, List.length_append]
    rcases List.mem_cons.1 h with rfl | h
    · omega
    · have : x.length ≤ (l.flatMap fun p => sep ++ p).length := by
        induction l with
        | nil => simp at h
        | cons z l ih =>
          simp only [List.flatMap_cons, List.length_append]
          rcases List.mem_cons.1 h with rfl | h
          · omega
          · have := ih (List.mem_cons_of_mem _ h) h; omega
      omega
theorem short_join {sep s : List UInt8} {l : List ByteArray} (h : sJoin sep (bytesL l) = s) : Short s.length l := by
  intro x hx
  have := mem_join sep (bytesL l) x.data.toList (List.mem_map.2 ⟨x, hx, rfl⟩)
  rw [h] at this
  simpa using this
theorem short_split (s : List UInt8) : ∀ (l : List (Nat × Nat)) (at_ : Nat) (x : List UInt8), x ∈ sSplit s l at_ → x.length ≤ s.length
  | [], at_, x, h => by
    simp only [sSplit, List.mem_singleton] at h
    subst h
    simp
  | y :: l, at_, x, h => by
    unfold sSplit at h
    split at h
    · rcases List.mem_cons.1 h with rfl | h
      · simp only [List.length_take, List.length_drop]; omega
      · exact short_split s l _ x h
    · exact short_split s l _ x h

set_option maxRecDepth 100000 in
theorem at_chars (s sep : ByteArray) (hsep : sep.size = 0) (hs : s.size ≤ 1048576) (w : World) :
    Calls Tryz.prog 20 #[.string s, .string sep] w (AtOut True (fun l => l = T2.chs s 0) w) := by
  have HC := Lib.hid (T2.chars_any s hs w)
  have hd : sep.data.toList = [] := List.eq_nil_of_length_eq_zero (by rw [Array.length_toList]; exact hsep)
  have ht : sep.toList = [] := by rw [Lib.toList_data, hd]
  have a32 : ¬ sep.toList = [32] := by rw [ht]; simp
  have b32 : (sep.toList == [32]) = false := beq_eq_false_iff_ne.2 a32
  have b0 : sep.toList.isEmpty = true := by rw [ht]; rfl
  clear hd
  go_enter Tryz.func20, Tryz.ntmps20
  go_wp2_with fail
  refine HC.out.mono ?_
  rintro e w1 ⟨p, n, c, rfl, h1, hn, b1⟩
  subst hn
  have H1 := Lib.hid h1
  have B1 := Lib.hid b1
  clear h1 b1
  go_wp2_with fail
  go_ret3
  exact ⟨B1.out, Or.inr ⟨p, _, c, _, rfl, Lib.hid ⟨H1.out, rfl, rfl⟩⟩⟩

theorem at_byte2 (s sep : ByteArray) (c : UInt8) (hsep : sep.data.toList = [c]) (h32 : c ≠ 32) (h92 : c ≠ 92) (hs : s.size ≤ 100000) (w : World) (hm : ∃ m : Int, w.cell? ⟨0, 0, none⟩ = some (.int .i64 m)) :
    Calls Tryz.prog 20 #[.string s, .string sep] w (AtOut True (fun l => sJoin sep.data.toList (bytesL l) = s.data.toList) w) := by
  refine (at_byte s sep c hsep h32 h92 hs w hm).mono ?_
  rintro e w' ⟨v, rfl, l, h1, h2, h3, h4⟩
  obtain ⟨a, k, rfl⟩ := h1.shape
  exact ⟨h4, Or.inr ⟨a, _, k, l, rfl, Lib.hid ⟨h1, rfl, h2⟩⟩⟩

/-- What New tells: a pattern whose machine holds together, or why there is none. -/
def NewE (w : World) (s : ByteArray) (e : Ending) (w' : World) : Prop :=
  Below w.heap.size w w' ∧ ((∃ a y : Int, y ≠ 0 ∧ e = .returned (.tuple #[.pointer none, .int .i64 a, .int .i64 y])) ∨
    (∃ pp ss sv start, e = .returned (.tuple #[.pointer (some ⟨pp, 0, none⟩), .int .i64 0, .int .i64 0]) ∧ Hid (PatM w' pp s ss sv (start : Nat) ∧ SsOk ss ∧ start < ss.length)))

set_option maxRecDepth 100000 in
theorem split_empty (pp : Nat) (s : ByteArray) (h0 : s.size = 0) (w : World) :
    Calls Tryz.prog 35 #[.pointer (some ⟨pp, 0, none⟩), .string s] w fun e w' => e = .returned (.slice none 0 0) ∧ w' = w := by
  have hd : s.data.toList = [] := List.eq_nil_of_length_eq_zero (by rw [Array.length_toList]; exact h0)
  have hs0 : s.toList = [] := by rw [Lib.toList_data, hd]
  have hse : s.toList.isEmpty = true := by rw [hs0]; rfl
  clear hd
  go_enter Tryz.func35, Tryz.ntmps35
  go_wp2_with fail
  go_ret
  exact ⟨rfl, rfl⟩

theorem split_any (pp start : Nat) (t s : ByteArray) (ss : List St) (sv : Value) (hs : SsOk ss) (hst : start < ss.length) (hsz : s.size ≤ 100000) (w : World) (hm : PatM w pp t ss sv start) :
    Calls Tryz.prog 35 #[.pointer (some ⟨pp, 0, none⟩), .string s] w fun e w' => ∃ p n c l, e = .returned (.slice p n c) ∧ (NewStrs w w' (.slice p n c) l ∧ n = l.length) ∧ Short s.size l ∧ Below w.heap.size w w' := by
  by_cases h0 : s.size = 0
  · refine (split_empty pp s h0 w).mono ?_
    rintro e w' ⟨rfl, hw⟩
    subst hw
    exact ⟨none, 0, 0, [], rfl, ⟨World.ownsRow_nil _ _ _ _, rfl⟩, (fun x h => by simp at h), Below.refl _ _⟩
  · refine (split_spec pp start t s ss sv hs hst hsz h0 w hm _ rfl).mono ?_
    rintro e w' ⟨v, pl, rfl, h1, h2, h3⟩
    obtain ⟨a, k, rfl⟩ := h1.shape
    refine ⟨a, _, k, pl, rfl, ⟨h1, rfl⟩, fun x hx => ?_, h3⟩
    have h4 := short_split s.data.toList (allN (longN ss start s) s.size) 0 x.data.toList (by rw [← h2]; exact List.mem_map.2 ⟨x, hx, rfl⟩)
    simpa using h4

set_option maxRecDepth 100000 in
theorem at_patt (s sep : ByteArray) (h32 : sep.toList ≠ [32]) (h0 : sep.size ≠ 0) (h1 : sep.size ≠ 1 ∨ sep.toList = [92]) (hs : s.size ≤ 100000) (w : World) (hN : Calls Tryz.prog 28 #[.string sep] w (NewE w sep)) :
    Calls Tryz.prog 20 #[.string s, .string sep] w (AtOut True (Short s.size) w) := by
  have HN := Lib.hid hN
  have a32 : ¬ sep.toList = [32] := h32
  have b32 : (sep.toList == [32]) = false := beq_eq_false_iff_ne.2 a32
  have hne : sep.data.toList ≠ [] := fun e => h0 (by have := congrArg List.length e; simpa using this)
  have a0 : ¬ sep.toList = [] := by rw [Lib.toList_data]; exact hne
  have b0 : sep.toList.isEmpty = false := by cases h : sep.toList with
                                           | nil => exact absurd h a0
                                           | cons a b => rfl

  clear hN hne h32
  by_cases hs1 : sep.size = 1
  · have a92 : sep.toList = [92] := by rcases h1 with h | h; exact absurd hs1 h; exact h
    have b92 : (sep.toList == [92]) = true := beq_iff_eq.2 a92
    have c92 : (sep.toList != [92]) = false := by simp [bne, b92]
    have q1 : ((sep.size : Int) == 1) = true := by rw [hs1]; rfl
    clear h1 h0 hs1
    go_enter Tryz.func20, Tryz.ntmps20
    go_wp2_with fail
    refine HN.out.mono ?_
    rintro e w1 ⟨b1, ⟨a, y, hy, rfl⟩ | ⟨pp, ss, sv, start, rfl, hm⟩⟩
    · have B1 := Lib.hid b1
      have n0 : (y != 0) = true := by simpa using hy
      have HY := Lib.hid hy
      clear b1 hy
      go_wp2_with fail
      go_ret3
      exact ⟨B1.out, Or.inl ⟨trivial, a, y, HY.out, rfl⟩⟩
    · have B1 := Lib.hid b1
      have HS := Lib.hid (split_any pp start sep s ss sv hm.out.2.1 hm.out.2.2 hs w1 hm.out.1)
      clear b1 hm
      go_wp2_with fail
      refine HS.out.mono ?_
      rintro e w2 ⟨p, n, c, l, rfl, h1, h2, b2⟩
      have H1 := Lib.hid h1; have H2 := Lib.hid h2
      have B2 := Lib.hid (Below.step B1.out b2)
      clear h1 h2 b2
      go_wp2_with fail
      go_ret3
      exact ⟨B2.out, Or.inr ⟨p, n, c, l, rfl, Lib.hid ⟨own_low H1.out.1 B1.out.size, H1.out.2, H2.out⟩⟩⟩
  · have q1 : ((sep.size : Int) == 1) = false := beq_eq_false_iff_ne.2 (by omega)
    clear h1 h0 hs1
    go_enter Tryz.func20, Tryz.ntmps20
    go_wp2_with fail
    refine HN.out.mono ?_
    rintro e w1 ⟨b1, ⟨a, y, hy, rfl⟩ | ⟨pp, ss, sv, start, rfl, hm⟩⟩
    · have B1 := Lib.hid b1
      have n0 : (y != 0) = true := by simpa using hy
      have HY := Lib.hid hy
      clear b1 hy
      go_wp2_with fail
      go_ret3
      exact ⟨B1.out, Or.inl ⟨trivial, a, y, HY.out, rfl⟩⟩
    · have B1 := Lib.hid b1
      have HS := Lib.hid (split_any pp start sep s ss sv hm.out.2.1 hm.out.2.2 hs w1 hm.out.1)
      clear b1 hm
      go_wp2_with fail
      refine HS.out.mono ?_
      rintro e w2 ⟨p, n, c, l, rfl, h1, h2, b2⟩
      have H1 := Lib.hid h1; have H2 := Lib.hid h2
      have B2 := Lib.hid (Below.step B1.out b2)
      clear h1 h2 b2
      go_wp2_with fail
      go_ret3
      exact ⟨B2.out, Or.inr ⟨p, n, c, l, rfl, Lib.hid ⟨own_low H1.out.1 B1.out.size, H1.out.2, H2.out⟩⟩⟩
end Go.Proofs.YtcojnkjcbopnbaaGreatDoor

/- (*nfa.Prog).layTimes: a walk. -/
namespace Go.Proofs.YtcojnkjcbopnbaaGreatDoor
open Go.RowKit

/-- The next state of a state stored anew. -/
theorem Mch.setNext {w : World} {p : Nat} {ss : List St} {g cap : Nat} {st : Int} (h : Mch w p ss (.slice (some ⟨g, 0, none⟩) ss.length cap) st) (i n : Nat) (hi : i < ss.length) :
    Mch (w.setCell ⟨g, i * 7 + 5, none⟩ (.int .i64 n)) p (setNx ss i n) (.slice (some ⟨g, 0, none⟩) ss.length cap) st ∧ Turn p (.slice (some ⟨g, 0, none⟩) ss.length cap) w (w.setCell ⟨g, i * 7 + 5, none⟩ (.int .i64 n)) (.slice (some ⟨g, 0, none⟩) ss.length cap) := by
  have hg : g ≠ p := fun e => by have := (h.own.lt g rfl).1; omega
  have he : setNx ss i n = ss.set i { ss[i] with nx := n } := by unfold setNx; rw [List.getElem?_eq_getElem hi]
  refine ⟨⟨?_, ?_⟩, rfl, rfl, rfl, by simp, fun k _ _ hs => heap_setCell_other w ⟨g, i * 7 + 5, none⟩ k _ (fun e => hs (by rw [e]; rfl)), Or.inl rfl⟩
  · rw [heap_setCell_other w ⟨g, i * 7 + 5, none⟩ p _ (fun e => hg e.symm)]
    exact h.row
  · have := (h.own.stored (i * 7 + 5) (.int .i64 n)).1
    rw [flatS_set ss i hi n] at this
    rw [setNx_len, he]
    exact this

/-- Where the laying of a repetition stands. -/
structure TmI (V w : World) (p : Nat) (sv : Value) (st : Int) (x : Mk) (qs cs : Array Value) : Prop where
  ex : ∃ sv', Mch V p x.2 sv' st ∧ Turn p sv w V sv'
  q : PBox V w.heap.size qs
  part : PBox V (w.heap.size + 1) cs
theorem TmI.step {V V1 w : World} {p : Nat} {sv sv' : Value} {st : Int} {x r : Mk} {qs cs : Array Value} {e : Ending} (h : TmI V w p sv st x qs cs) (hm : Mch V p x.2 sv' st) (ht : Turn p sv w V sv') (hl : Laid V p sv' st r e V1) : TmI V1 w p sv st r qs cs := by
  obtain ⟨sv2, _, hM, hT⟩ := hl
  exact ⟨⟨sv2, hM, ht.trans hT⟩, h.q.turn hm hT, h.part.turn hm hT⟩

theorem tmI_new (w : World) (p : Nat) (sv : Value) (st : Int) (next : Nat) (ss : List St) (qs cs : Array Value) (h : Mch w p ss sv st) : ∃ W, W = (w.alloc (.cells qs 119)).alloc (.cells cs 119) ∧ Hid (TmI W w p sv st (next, ss) qs cs) := by
  refine ⟨_, rfl, Lib.hid ?_⟩
  have b1 := below_new w (.cells qs 119)
  have b2 := below_new (w.alloc (.cells qs 119)) (.cells cs 119)
  have hb := Below.step b1 b2
  have h2 := pbox_new (w.alloc (.cells qs 119)) cs
  rw [World.size_alloc] at h2
  exact ⟨⟨sv, h.after hb, Turn.of hb⟩, (pbox_new w qs).after b2, h2⟩

/-- What laying a part needs to hold. -/
structure TmC (d : Nat) (c : Plan) (cs : Array Value) (S : Nat → Prop) (p : Nat) (ss : List St) (sv : Value) (st : Int) (w : World) : Prop where
  ih : LayIH d
  at_ : PAt w S c cs
  low : ∀ k, S k → k < p
  wf : Wf d c
  m : Mch w p ss sv st
  len : ss.length + (d + 1) * 250000 ≤ 100000000
theorem TmC.call {d : Nat} {c : Plan} {cs : Array Value} {S : Nat → Prop} {p : Nat} {ss : List St} {sv sv' : Value} {st : Int} {w V : World} (h : TmC d c cs S p ss sv st w) {x : Mk} (hm : Mch V p x.2 sv' st) (ht : Turn p sv w V sv') (hl : x.2.length ≤ ss.length + 60000) :
    Calls Tryz.prog 68 #[.pointer (some ⟨p, 0, none⟩), .agg cs, .int .i64 x.1] V (Laid V p sv' st (layN d c x.1 x.2)) := by
  refine h.ih c cs S x.1 p x.2 sv' st V (h.at_.keep fun k hk hlt => ?_) h.low h.wf hm (by have := h.len; omega)
  have h1 := h.low k hk
  exact ht.block k hlt (by omega) (fun e => by have := (h.m.own.lt k e).1; omega)

theorem fork_one (next : Nat) : stC (forkS 0 next) = #[.int .i64 4, .int .u64 0, .int .u64 0, .int .u64 0, .int .u64 0, .int .i64 0, .int .i64 next] := rfl
theorem fork_two (a next : Nat) : stC (forkS a next) = #[.int .i64 4, .int .u64 0, .int .u64 0, .int .u64 0, .int .u64 0, .int .i64 a, .int .i64 next] := rfl

theorem iterN_ge (f : Mk → Mk) (h : ∀ x, x.2.length ≤ (f x).2.length) (j : Nat) (x : Mk) : x.2.length ≤ (iterN f j x).2.length := by
  induction j generalizing x with
  | zero => exact Nat.le_refl _
  | succ j ih => exact Nat.le_trans (h x) (ih (f x))
theorem foldl_ge {α : Type} (f : Mk → α → Mk) (l : List α) (h : ∀ x i, x.2.length ≤ (f x i).2.length) (x : Mk) : x.2.length ≤ (l.foldl f x).2.length := by
  induction l generalizing x with
  | nil => exact Nat.le_refl _
  | cons i r ih => exact Nat.le_trans (h x i) (ih (f x i))
theorem layN_ge (d : Nat) : ∀ (q : Plan) (next : Nat) (ss : List St), ss.length ≤ (layN d q next ss).2.length := by
  induction d with
  | zero => intro q next ss; exact Nat.le_refl _
  | succ d ih =>
    intro q next ss
    unfold layN
    split
    · rw [putN_len]; omega
    · split
      · exact foldl_ge _ _ (fun x i => ih _ _ _) (next, ss)
      · split
        · unfold altN
          split
          · exact Nat.le_refl _
          · refine Nat.le_trans (ih _ next ss) (foldl_ge _ _ (fun x i => ?_) _)
            unfold branchN
            rw [putN_len]
            have := ih q.kids.dropLast[i] next x.2
            omega
        · split
          · split
            · exact Nat.le_refl _
            · rename_i c _ _
              unfold timesN
              refine Nat.le_trans ?_ (iterN_ge _ (fun x => ih _ _ _) _ _)
              refine Nat.le_trans ?_ (iterN_ge _ (fun x => by
                unfold mayN
                rw [putN_len]
                have := ih c x.1 x.2
                omega) _ _)
              split
              · show _ ≤ (Go.Proofs.YtcojnkjcbopnbaaGreatDoor.setNx _ _ _).length
                rw [setNx_len]
                have := ih c ss.length (ss ++ [forkS 0 next])
                simp only [List.length_append, List.length_singleton] at this
                omega
              · exact Nat.le_refl _
          · exact Nat.le_refl _

/-- Where a repetition begins to be laid. -/
def initT (lay : Nat → List St → Mk) (hi : Int) (next : Nat) (ss : List St) : Mk := if hi = -1 then ringN lay next ss else (next, ss)
theorem initT_len (d : Nat) (c : Plan) (hw : Wf d c) (hi : Int) (next : Nat) (ss : List St) : (initT (layN d c) hi next ss).2.length ≤ ss.length + 500 := by
  unfold initT
  split
  · show (Go.Proofs.YtcojnkjcbopnbaaGreatDoor.setNx _ _ _).length ≤ _
    rw [setNx_len]
    have h1 := layN_len d c ss.length (ss ++ [forkS 0 next]) hw
    have h2 := hw.own.n
    simp only [List.length_append, List.length_singleton] at h1
    omega
  · show ss.length ≤ _
    omega
theorem mayT_len (d : Nat) (c : Plan) (hw : Wf d c) (next j : Nat) (hj : j ≤ 50) (x : Mk) : (iterN (mayN (layN d c) next) j x).2.length ≤ x.2.length + 25000 := by
  have h2 := hw.own.n
  have h1 := iterN_len (mayN (layN d c) next) (c.n + 1) (fun x => by
    have := layN_len d c x.1 x.2 hw
    unfold mayN
    rw [putN_len]
    omega) j x
  have h3 : j * (c.n + 1) ≤ 50 * 500 := Nat.mul_le_mul hj (by omega)
  omega
theorem mustT_len (d : Nat) (c : Plan) (hw : Wf d c) (j : Nat) (hj : j ≤ 50) (x : Mk) : (iterN (fun x : Mk => layN d c x.1 x.2) j x).2.length ≤ x.2.length + 25000 := by
  have h2 := hw.own.n
  have h1 := iterN_len (fun x : Mk => layN d c x.1 x.2) c.n (fun x => layN_len d c x.1 x.2 hw) j x
  have h3 : j * c.n ≤ 50 * 500 := Nat.mul_le_mul hj (by omega)
  omega

set_option maxRecDepth 100000 in
set_option maxHeartbeats 4000000 in
theorem layTimes_spec (d : Nat) (q c : Plan) (cs : Array Value) (S : Nat → Prop) (b cap next p : Nat) (ss : List St) (sv : Value) (st : Int) (w : World) (h9 : Nine w b 0 cs) (hC : TmC d c cs S p ss sv st w)
    (h0 : 0 ≤ q.lo) (h1 : q.lo ≤ 50) (h2 : q.hi = -1 ∨ (q.lo ≤ q.hi ∧ q.hi ≤ 50)) :
    Calls Tryz.prog 99 #[.pointer (some ⟨p, 0, none⟩), .agg (plC q.k q.f q.lo q.hi q.n (.slice (some ⟨b, 0, none⟩) 1 cap)), .int .i64 next] w (Laid w p sv st (timesN (layN d c) q.lo q.hi next ss)) := by
  obtain ⟨sl, e, hs⟩ := hC.at_.open
  obtain ⟨ac, cc, rfl⟩ := hs.shape
  obtain ⟨W, hW, HI⟩ := tmI_new w p sv st next ss (plC q.k q.f q.lo q.hi q.n (.slice (some ⟨b, 0, none⟩) 1 cap)) cs hC.m
  have HC := Lib.hid hC
  have HE := Lib.hid e
  have hb9 : b < w.heap.size := h9.lt hC.at_.size
  have h9' := h9.after hC.at_.size (below_new w (.cells (plC q.k q.f q.lo q.hi q.n (.slice (some ⟨b, 0, none⟩) 1 cap)) 119))
  rw [e] at h9' hW
  obtain ⟨V, hV, hY, hBV, HVs⟩ := pl_box w (plC q.k q.f q.lo q.hi q.n (.slice (some ⟨b, 0, none⟩) 1 cap))
  rw [← hV] at h9' hW
  obtain ⟨q0, q1, q2, q3, q4, q5, q6, q7, q8⟩ := nine_pl hY.out.nine
  obtain ⟨c0, c1, c2, c3, c4, c5, c6, c7, c8⟩ := nine_pl h9'
  clear hs e h9 h9' hC
  go_enter Tryz.func99, Tryz.ntmps99
  go_upto_region 1 with (fail)
  rw [← hV]
  clear hV
  go_upto_region 2 with (fail)
  have hVs : V.heap.size = w.heap.size + 1 := HVs.out
  rw [hVs]
  change Code.wp _ _ _ _ (V.alloc (.cells (plC c.k c.f c.lo c.hi c.n (.slice ac c.kids.length cc)) 119))
  rw [← hW]
  clear hW hVs hY hBV q0 q1 q2 q3 q4 q5 q6 q7 q8 c0 c1 c2 c3 c4 c5 c6 c7 c8
  have HIH := Lib.hid h2
  have hn : q.hi ≤ 50 := by omega
  have hn2 : -1 ≤ q.hi := by omega
  clear h2
  obtain ⟨x0, hx0⟩ : ∃ x0, x0 = initT (layN d c) q.hi next ss := ⟨_, rfl⟩
  have HX0 := Lib.hid hx0
  clear hx0
  obtain ⟨q0, q1, q2, q3, q4, q5, q6, q7, q8⟩ := nine_pl HI.out.q.nine
  go_upto_if 17 with (fail)
  go_cut [8, 9] (fun f g wx => g = g ∧ f = .int .i64 x0.1 ∧ Hid (TmI wx w p sv st x0 (plC q.k q.f q.lo q.hi q.n (.slice (some ⟨b, 0, none⟩) 1 cap)) cs))
  case first =>
    have hp9 := HI.out.part.nine
    rw [HE.out] at hp9
    obtain ⟨c0, c1, c2, c3, c4, c5, c6, c7, c8⟩ := nine_pl hp9
    clear hp9
    by_cases hh : q.hi = -1
    · have hq : (q.hi == -1) = true := beq_iff_eq.2 hh
      obtain ⟨sv0, hM0, hT0⟩ := HI.out.ex
      have HP := Lib.hid (put_spec p ss sv0 st (forkS 0 next) W hM0 (by have := HC.out.len; omega))
      rw [fork_one] at HP
      have HM0 := Lib.hid hM0
      have HT0 := Lib.hid hT0
      have HHH := Lib.hid hh
      clear hM0 hT0 hh
      go_wp2_with fail
      refine HP.out.mono ?_
      rintro e w1 ⟨sv1, rfl, hM1, hT1⟩
      have I1 := Lib.hid (TmI.step (x := (next, ss)) (r := putN ss (forkS 0 next)) HI.out HM0.out HT0.out ⟨sv1, rfl, hM1, hT1⟩)
      have HM1 := Lib.hid hM1
      have HT1 := Lib.hid (HT0.out.trans hT1)
      have hp9 := I1.out.part.nine
      rw [HE.out] at hp9
      clear hM1 hT1 c0 c1 c2 c3 c4 c5 c6 c7 c8
      obtain ⟨c0, c1, c2, c3, c4, c5, c6, c7, c8⟩ := nine_pl hp9
      have HCc := Lib.hid (HC.out.call (x := (ss.length, ss ++ [forkS 0 next])) HM1.out HT1.out (by simp))
      rw [HE.out] at HCc
      clear hp9
      unfold plC at HCc
      go_wp2_with fail
      refine HCc.out.mono ?_
      rintro e w2 ⟨sv2, rfl, hM2, hT2⟩
      have hge := layN_ge d c ss.length (ss ++ [forkS 0 next])
      obtain ⟨y, hy⟩ : ∃ y : Mk, y = layN d c ss.length (ss ++ [forkS 0 next]) := ⟨_, rfl⟩
      rw [← hy] at hM2 hge ⊢
      have hylt : ss.length < y.2.length := by simp only [List.length_append, List.length_singleton] at hge; omega
      obtain ⟨g, cap2, rfl, hg0, hg1⟩ := hM2.own.form (by omega)
      have I2 := I1.out.q.turn HM1.out hT2
      have I3 := I1.out.part.turn HM1.out hT2
      have hset := hM2.setNext ss.length y.1 hylt
      have hTT := (HT1.out.trans hT2).trans hset.2
      have hx : x0 = (ss.length, Go.Proofs.YtcojnkjcbopnbaaGreatDoor.setNx y.2 ss.length y.1) := by rw [HX0.out, hy]; unfold initT; rw [if_pos HHH.out]; rfl
      have HB : Hid (TmI (w2.setCell ⟨g, ss.length * 7 + 5, none⟩ (.int .i64 y.1)) w p sv st x0 (plC q.k q.f q.lo q.hi q.n (.slice (some ⟨b, 0, none⟩) 1 cap)) cs) := Lib.hid (by
        rw [hx]
        exact ⟨⟨_, hset.1, hTT⟩, I2.turn hM2 hset.2, I3.turn hM2 hset.2⟩)
      have hx1 : ss.length = x0.1 := by rw [hx]
      have HX1 := Lib.hid hx1
      have m0 := hM2.c0
      have r5 := hM2.own.cellAt (ss.length * 7 + 5) (by omega)
      have z5 := hM2.own.frozenAt (ss.length * 7 + 5)
      rw [flatS_get y.2 ss.length hylt 5 (by omega)] at r5
      have r5' : w2.cell? ⟨g, ss.length * 7 + 5, none⟩ = some (.int .i64 (y.2[ss.length]'hylt).nx) := r5
      clear hM2 hT2 hge hy I2 I3 hset hTT hx hx1 r5 c0 c1 c2 c3 c4 c5 c6 c7 c8
      go_wp2_with fail
      go_meet
      exact ⟨trivial, by rw [← HX1.out], HB⟩
    · have hq : (q.hi == -1) = false := beq_eq_false_iff_ne.2 hh
      have hx : x0 = (next, ss) := by rw [HX0.out]; unfold initT; rw [if_neg hh]
      have HI2 := HI
      rw [← hx] at HI2
      have hx1 : (next : Nat) = x0.1 := by rw [hx]
      have HX1 := Lib.hid hx1
      clear hx hh hx1
      go_wp2_with fail
      go_meet
      exact ⟨trivial, by rw [← HX1.out], HI2⟩
  case rest =>
  obtain ⟨_, rfl, hI⟩ := hcut
  have HL0 := Lib.hid (show x0.2.length ≤ ss.length + 500 by rw [HX0.out]; exact initT_len d c HC.out.wf q.hi next ss)
  clear q0 q1 q2 q3 q4 q5 q6 q7 q8
  obtain ⟨q0, q1, q2, q3, q4, q5, q6, q7, q8⟩ := nine_pl hI.out.q.nine
  go_wp2_with fail
  go_loopw [8, 39] (fun f y wr => ∃ (j : Nat) (x : Mk), y = .int .i64 j ∧ f = .int .i64 x.1 ∧ j ≤ (q.hi - q.lo).toNat ∧ Hid (x = iterN (mayN (layN d c) next) j x0) ∧ Hid (TmI wr w p sv st x (plC q.k q.f q.lo q.hi q.n (.slice (some ⟨b, 0, none⟩) 1 cap)) cs)) (fun _ y _ => (q.hi - q.lo).toNat - (intOf y).toNat)
  case atStart => exact ⟨0, x0, rfl, rfl, by omega, Lib.hid rfl, hI⟩
  case round =>
    obtain ⟨j, x, rfl, rfl, hj, hx, hI⟩ := hrel
    clear q0 q1 q2 q3 q4 q5 q6 q7 q8
    obtain ⟨q0, q1, q2, q3, q4, q5, q6, q7, q8⟩ := nine_pl hI.out.q.nine
    have hj50 : j ≤ 50 := by omega
    have HLx := Lib.hid (show x.2.length ≤ ss.length + 25500 by rw [hx.out]; have h1 := mayT_len d c HC.out.wf next j hj50 x0; have h2 := HL0.out; omega)
    by_cases hgo : j < (q.hi - q.lo).toNat
    · have hgo' : (j : Int) < q.hi - q.lo := by omega
      have hp9 := hI.out.part.nine
      rw [HE.out] at hp9
      obtain ⟨c0, c1, c2, c3, c4, c5, c6, c7, c8⟩ := nine_pl hp9
      clear hp9
      obtain ⟨sv1, hM1, hT1⟩ := hI.out.ex
      have HCc := Lib.hid (HC.out.call hM1 hT1 (by have := HLx.out; omega))
      rw [HE.out] at HCc
      have HM1 := Lib.hid hM1
      have HT1 := Lib.hid hT1
      clear hM1 hT1
      unfold plC at HCc
      go_wp2_with fail
      refine HCc.out.mono ?_
      rintro e w2 ⟨sv2, rfl, hM2, hT2⟩
      have I2 := Lib.hid (hI.out.step HM1.out HT1.out ⟨sv2, rfl, hM2, hT2⟩)
      have hl2 := layN_len d c x.1 x.2 HC.out.wf
      have hl3 := HC.out.wf.own.n
      have HP := Lib.hid (put_spec p _ sv2 st (forkS (layN d c x.1 x.2).1 next) w2 hM2 (by have := HC.out.len; have := HLx.out; omega))
      rw [fork_two] at HP
      have HM2 := Lib.hid hM2
      have HT2 := Lib.hid (HT1.out.trans hT2)
      clear hM2 hT2 hl2 hl3 c0 c1 c2 c3 c4 c5 c6 c7 c8 q0 q1 q2 q3 q4 q5 q6 q7 q8
      go_wp2_with fail
      refine HP.out.mono ?_
      rintro e w3 ⟨sv3, rfl, hM3, hT3⟩
      have I3 : Hid (TmI w3 w p sv st (mayN (layN d c) next x) (plC q.k q.f q.lo q.hi q.n (.slice (some ⟨b, 0, none⟩) 1 cap)) cs) := Lib.hid (I2.out.step HM2.out HT2.out ⟨sv3, rfl, hM3, hT3⟩)
      have hxn : Hid (mayN (layN d c) next x = iterN (mayN (layN d c) next) (j + 1) x0) := Lib.hid (by rw [iterN_succ, ← hx.out])
      clear hM3 hT3
      go_wp2_with fail
      go_roundw
      case rel => exact ⟨j + 1, mayN (layN d c) next x, by go_num, rfl, by omega, hxn, I3⟩
      case measure => simp [intOf]; omega
    · have hgo' : q.hi - q.lo ≤ (j : Int) := by omega
      have hxe : Hid (x = iterN (mayN (layN d c) next) (q.hi - q.lo).toNat x0) := Lib.hid (by rw [hx.out]; congr 1; omega)
      have HJ := Lib.hid hj
      clear hj hx hgo
      go_wp2_with fail
      go_loopw [8, 52] (fun f y wr => ∃ (i : Nat) (z : Mk), y = .int .i64 i ∧ f = .int .i64 z.1 ∧ i ≤ q.lo.toNat ∧ Hid (z = iterN (fun x : Mk => layN d c x.1 x.2) i x) ∧ Hid (TmI wr w p sv st z (plC q.k q.f q.lo q.hi q.n (.slice (some ⟨b, 0, none⟩) 1 cap)) cs)) (fun _ y _ => q.lo.toNat - (intOf y).toNat)
      case atStart => exact ⟨0, x, rfl, rfl, by omega, Lib.hid rfl, hI⟩
      case round =>
        obtain ⟨i, z, rfl, rfl, hi, hz, hI⟩ := hrel
        clear q0 q1 q2 q3 q4 q5 q6 q7 q8
        have HLz := Lib.hid (show z.2.length ≤ ss.length + 50500 by rw [hz.out]; have h1 := mustT_len d c HC.out.wf i (by omega) x; have h2 := HLx.out; omega)
        by_cases hgo : i < q.lo.toNat
        · have hgo2 : (i : Int) < q.lo := by omega
          have hp9 := hI.out.part.nine
          rw [HE.out] at hp9
          obtain ⟨c0, c1, c2, c3, c4, c5, c6, c7, c8⟩ := nine_pl hp9
          clear hp9
          obtain ⟨sv1, hM1, hT1⟩ := hI.out.ex
          have HCc := Lib.hid (HC.out.call hM1 hT1 (by have := HLz.out; omega))
          rw [HE.out] at HCc
          have HM1 := Lib.hid hM1
          have HT1 := Lib.hid hT1
          clear hM1 hT1
          unfold plC at HCc
          go_wp2_with fail
          refine HCc.out.mono ?_
          rintro e w2 ⟨sv2, rfl, hM2, hT2⟩
          have I2 := Lib.hid (hI.out.step HM1.out HT1.out ⟨sv2, rfl, hM2, hT2⟩)
          have hzn : Hid (layN d c z.1 z.2 = iterN (fun x : Mk => layN d c x.1 x.2) (i + 1) x) := Lib.hid (by rw [iterN_succ, ← hz.out])
          clear hM2 hT2 c0 c1 c2 c3 c4 c5 c6 c7 c8
          go_wp2_with fail
          go_roundw
          case rel => exact ⟨i + 1, layN d c z.1 z.2, by go_num, rfl, by omega, hzn, I2⟩
          case measure => simp [intOf]; omega
        · have hgo2 : q.lo ≤ (i : Int) := by omega
          have hze : z = timesN (layN d c) q.lo q.hi next ss := by
            rw [hz.out, show i = q.lo.toNat by omega, hxe.out, HX0.out]
            rfl
          have HZ := Lib.hid hze
          clear hze hz hgo
          go_wp2_with fail
          go_ret
          obtain ⟨sv', hM, hT⟩ := hI.out.ex
          exact ⟨sv', by rw [← HZ.out]; rfl, by rw [← HZ.out]; exact hM, hT⟩
end Go.Proofs.YtcojnkjcbopnbaaGreatDoor
