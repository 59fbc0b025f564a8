/- Merged by program: Bt, RPa. -/
import Derived.StillTailTactics
import Derived.Test.YtgdlpldngpoadaaGreatDoorSab
import Derived.Test.YtgdlpldngpoadaaGreatDoorSaf
/- All that was there stands, but one block; a node of two. -/
namespace Go.Proofs.YtgdlpldngpoadaaGreatDoor
open Go.RowKit

/-- All that was there stands, but one block. -/
structure Bt (p : Nat) (w w' : World) : Prop where
  os : w'.os = w.os
  tape : w'.tape = w.tape
  output : w'.output = w.output
  size : w.heap.size ≤ w'.heap.size
  block : ∀ k, k < w.heap.size → k ≠ p → w'.heap[k]? = w.heap[k]?
theorem Bt.refl (p : Nat) (w : World) : Bt p w w := ⟨rfl, rfl, rfl, Nat.le_refl _, fun _ _ _ => rfl⟩
theorem Bt.of {p : Nat} {w w' : World} (h : Below w.heap.size w w') : Bt p w w' := ⟨h.os, h.tape, h.output, h.size, fun k hk _ => h.block k hk⟩
theorem Bt.trans {p : Nat} {w w1 w2 : World} (h : Bt p w w1) (g : Bt p w1 w2) : Bt p w w2 :=
  ⟨g.os.trans h.os, g.tape.trans h.tape, g.output.trans h.output, Nat.le_trans h.size g.size, fun k hk hp => (g.block k (Nat.lt_of_lt_of_le hk h.size) hp).trans (h.block k hk hp)⟩
theorem Bt.below {p B : Nat} {w w' : World} (h : Bt p w w') (hB : B ≤ p) (hs : B ≤ w.heap.size) : Below B w w' :=
  ⟨h.os, h.tape, h.output, h.size, fun k hk => h.block k (by omega) (by omega)⟩
theorem At.bt {p B : Nat} {w w' : World} {t : Nd} {cs : Array Value} (h : At w (Up B) t cs) (hb : Bt p w w') (hp : p < B) : At w' (Up B) t cs := h.keep fun k hB hk => hb.block k hk (by have : B ≤ k := hB; omega)
theorem Box.bt {p : Nat} {w w' : World} {b : Nat} {cs : Array Value} (h : Box w b cs) (hb : Bt p w w') (hp : b ≠ p) : Box w' b cs := ⟨by rw [hb.block b h.lt hp]; exact h.row⟩

theorem drewNb (w : World) (n : Nat) : Below w.heap.size w (w.drewN n) := Below.drewN' (Below.refl _ w) n
theorem At.btS {p : Nat} {S : Nat → Prop} {w w' : World} {t : Nd} {cs : Array Value} (h : At w S t cs) (hb : Bt p w w') (hp : ¬ S p) : At w' S t cs := h.keep fun k hS hk => hb.block k hk (fun e => hp (e ▸ hS))
/-- A node of two. -/
theorem pair_at {V : World} {S : Nat → Prop} (k : Int) (s : ByteArray) (a : Int) {t u : Nd} {x : Option Addr} {c : Nat} {y : Option Addr} {d : Nat} {x2 : Option Addr} {c2 : Nat} {y2 : Option Addr} {d2 : Nat}
    (ht : At V S t (ndC t.k t.s t.n t.a (.slice x t.kids.length c) (.slice y t.p.length d))) (hu : At V S u (ndC u.k u.s u.n u.a (.slice x2 u.kids.length c2) (.slice y2 u.p.length d2))) (hS : S V.heap.size) :
    At (V.alloc (.cells #[.int .i64 t.k, .string t.s, .int .i64 t.n, .int .i64 t.a, .slice x t.kids.length c, .slice y t.p.length d, .int .i64 u.k, .string u.s, .int .i64 u.n, .int .i64 u.a, .slice x2 u.kids.length c2, .slice y2 u.p.length d2] 25)) S (.mk k s 0 a [t, u] []) (ndC k s 0 a (.slice (some ⟨V.heap.size, 0, none⟩) 2 2) (.slice none 0 0)) := by
  have hrow := heap_alloc_last V (.cells #[.int .i64 t.k, .string t.s, .int .i64 t.n, .int .i64 t.a, .slice x t.kids.length c, .slice y t.p.length d, .int .i64 u.k, .string u.s, .int .i64 u.n, .int .i64 u.a, .slice x2 u.kids.length c2, .slice y2 u.p.length d2] 25)
  have key : ∀ j, (V.alloc (.cells #[.int .i64 t.k, .string t.s, .int .i64 t.n, .int .i64 t.a, .slice x t.kids.length c, .slice y t.p.length d, .int .i64 u.k, .string u.s, .int .i64 u.n, .int .i64 u.a, .slice x2 u.kids.length c2, .slice y2 u.p.length d2] 25)).cell? ⟨V.heap.size, j, none⟩ = (#[.int .i64 t.k, .string t.s, .int .i64 t.n, .int .i64 t.a, .slice x t.kids.length c, .slice y t.p.length d, .int .i64 u.k, .string u.s, .int .i64 u.n, .int .i64 u.a, .slice x2 u.kids.length c2, .slice y2 u.p.length d2] : Array Value)[j]? := fun j => cell_of_row _ _ j _ _ _ hrow
  refine .node k s 0 a [t, u] [] V.heap.size 0 2 _ (fun i => if i = 0 then ndC t.k t.s t.n t.a (.slice x t.kids.length c) (.slice y t.p.length d) else ndC u.k u.s u.n u.a (.slice x2 u.kids.length c2) (.slice y2 u.p.length d2)) (by simp) (by simp) hS (.zero _ _) (fun i hi j hj => ?_) (fun i hi => ?_)
  · have hi2 : i = 0 ∨ i = 1 := by simp at hi; omega
    rcases hi2 with rfl | rfl
    · rw [key]
      match j, hj with
      | 0, _ => rfl
      | 1, _ => rfl
      | 2, _ => rfl
      | 3, _ => rfl
      | 4, _ => rfl
      | 5, _ => rfl
    · rw [key]
      match j, hj with
      | 0, _ => rfl
      | 1, _ => rfl
      | 2, _ => rfl
      | 3, _ => rfl
      | 4, _ => rfl
      | 5, _ => rfl
  · have hi2 : i = 0 ∨ i = 1 := by simp at hi; omega
    rcases hi2 with rfl | rfl
    · exact ht.after (below_new _ _)
    · exact hu.after (below_new _ _)

end Go.Proofs.YtgdlpldngpoadaaGreatDoor

/- The document's reader of programs in memory; tok, is, one, bad, deep, on, goes, line, lines, node, Left: walks, where nothing is wrong. -/
namespace Go.Proofs.YtgdlpldngpoadaaGreatDoor
open Go.RowKit

/-- The reader's block: its tokens, the place of the one that comes; nothing is wrong, and > compares. -/
structure PS (w : World) (p g c : Nat) (L : List Tok) (k : Nat) : Prop where
  row : w.heap[p]? = some (.cells #[.slice (some ⟨g, 0, none⟩) L.length c, .int .i64 k, .int .i64 0, .int .i64 0, .bool false] 51 (0, 0))
  toks : TkAt w g L
  there : g < w.heap.size
  lt : k < L.length
  few : L.length ≤ 3000
  ne : p ≠ g
theorem PS.plt {w : World} {p g c k : Nat} {L : List Tok} (h : PS w p g c L k) : p < w.heap.size := (Array.getElem?_eq_some_iff.1 h.row).1
theorem PS.after {w w' : World} {p g c k : Nat} {L : List Tok} (h : PS w p g c L k) (hb : Below w.heap.size w w') : PS w' p g c L k :=
  ⟨by rw [hb.block p h.plt]; exact h.row, h.toks.keep (hb.block g h.there), Nat.lt_of_lt_of_le h.there hb.size, h.lt, h.few, h.ne⟩
theorem PS.c0 {w : World} {p g c k : Nat} {L : List Tok} (h : PS w p g c L k) : w.cell? ⟨p, 0, none⟩ = some (.slice (some ⟨g, 0, none⟩) L.length c) := cell_of_row _ _ 0 _ _ _ h.row
theorem PS.c1 {w : World} {p g c k : Nat} {L : List Tok} (h : PS w p g c L k) : w.cell? ⟨p, 1, none⟩ = some (.int .i64 k) := cell_of_row _ _ 1 _ _ _ h.row
theorem PS.c2 {w : World} {p g c k : Nat} {L : List Tok} (h : PS w p g c L k) : w.cell? ⟨p, 2, none⟩ = some (.int .i64 0) := cell_of_row _ _ 2 _ _ _ h.row
theorem PS.c3 {w : World} {p g c k : Nat} {L : List Tok} (h : PS w p g c L k) : w.cell? ⟨p, 3, none⟩ = some (.int .i64 0) := cell_of_row _ _ 3 _ _ _ h.row
theorem PS.c4 {w : World} {p g c k : Nat} {L : List Tok} (h : PS w p g c L k) : w.cell? ⟨p, 4, none⟩ = some (.bool false) := cell_of_row _ _ 4 _ _ _ h.row
theorem PS.z {w : World} {p g c k : Nat} {L : List Tok} (h : PS w p g c L k) (j : Nat) : w.frozen? ⟨p, j, none⟩ = false := frozen_of_row _ _ j _ _ h.row
theorem PS.t {w : World} {p g c k : Nat} {L : List Tok} (h : PS w p g c L k) {T : Tok} (hT : L[k]? = some T) : w.cell? ⟨g, k * 3, none⟩ = some (.int .i64 T.K) ∧ w.cell? ⟨g, k * 3 + 1, none⟩ = some (.string T.S) ∧ w.cell? ⟨g, k * 3 + 2, none⟩ = some (.int .i64 T.A) := by
  obtain ⟨hk, e⟩ := List.getElem?_eq_some_iff.1 hT
  have := h.toks.cell k hk
  rw [e, Nat.zero_add] at this
  exact this
theorem PS.on {w : World} {p g c k : Nat} {L : List Tok} (h : PS w p g c L k) (hk : k + 1 < L.length) : PS (w.setCell ⟨p, 1, none⟩ (.int .i64 (k + 1 : Nat))) p g c L (k + 1) ∧ Bt p w (w.setCell ⟨p, 1, none⟩ (.int .i64 (k + 1 : Nat))) := by
  have other : ∀ j, j ≠ p → (w.setCell ⟨p, 1, none⟩ (.int .i64 (k + 1 : Nat))).heap[j]? = w.heap[j]? := fun j hj => heap_setCell_other _ _ _ _ hj
  exact ⟨⟨by rw [heap_setCell_same _ _ 1 _ _ _ h.row]; rfl, h.toks.keep (other g (Ne.symm h.ne)), by rw [World.size_setCell]; exact h.there, hk, h.few, h.ne⟩, ⟨rfl, rfl, rfl, by rw [World.size_setCell]; exact Nat.le_refl _, fun j _ hj => other j hj⟩⟩

set_option maxRecDepth 100000 in
theorem ptok (w : World) (p g c k : Nat) (L : List Tok) (h : PS w p g c L k) (T : Tok) (hT : L[k]? = some T) :
    Calls Tryz.prog 49 #[.pointer (some ⟨p, 0, none⟩)] w fun e w' => e = .returned (.agg #[.int .i64 T.K, .string T.S, .int .i64 T.A]) ∧ Below w.heap.size w w' := by
  have HI := info_tok1
  obtain ⟨W, hW, HR, HB⟩ : ∃ W, W = w.alloc (.cells (tkC 0 ⟨#[]⟩ 0) 68) ∧ Hid (W.heap[w.heap.size]? = some (.cells (tkC 0 ⟨#[]⟩ 0) 68 (0, 0))) ∧ Hid (Below w.heap.size w W) := ⟨_, rfl, Lib.hid (heap_alloc_last w _), Lib.hid (below_new w _)⟩
  have H := Lib.hid (h.after HB.out)
  have c0 := H.out.c0; have c1 := H.out.c1
  obtain ⟨t0, t1, t2⟩ := H.out.t hT
  have hk := h.lt
  have hf := h.few
  clear h hT
  go_enter Tryz.func49, Tryz.ntmps49
  go_upto_region 1 with (fail)
  change Code.wp _ _ _ _ (w.alloc (.cells (tkC 0 ⟨#[]⟩ 0) 68))
  rw [← hW]
  clear hW
  go_still_tail 10, (by kernel_rfl)
  have HRd : W.drew.heap[w.heap.size]? = some (.cells (tkC 0 ⟨#[]⟩ 0) 68 (0, 0)) := HR.out
  refine wpList_store_row rfl 68 (.tmp 2) (.tmp 12) rfl w.heap.size (tkC T.K T.S T.A) rfl rfl 68 (tkC 0 ⟨#[]⟩ 0) HRd HI rfl (tk_one _ _ _) ?_
  go_wp2_with fail
  refine bodyPost_ret (v := .agg (tkC T.K T.S T.A)) (results_cell_row (by rfl) _ _ w.heap.size 68 _ (0, 0) _ (by rfl) (setRow_heap _ _ _ _ _ _ HRd) Tryz.underlying68 (by rfl) HI) rfl ?_
  exact ⟨rfl, below_row HB.out.drew (Nat.le_refl _) _⟩

theorem tfield0 (T : Tok) : ∀ w : World, (Instr.field 68 (.agg #[.int .i64 T.K, .string T.S, .int .i64 T.A]) 0).run Tryz.prog w = .ok (.int .i64 T.K) w := fun _ => by kernel_rfl
theorem tfield1 (T : Tok) : ∀ w : World, (Instr.field 68 (.agg #[.int .i64 T.K, .string T.S, .int .i64 T.A]) 1).run Tryz.prog w = .ok (.string T.S) w := fun _ => by kernel_rfl
theorem tfield2 (T : Tok) : ∀ w : World, (Instr.field 68 (.agg #[.int .i64 T.K, .string T.S, .int .i64 T.A]) 2).run Tryz.prog w = .ok (.int .i64 T.A) w := fun _ => by kernel_rfl

/-- Whether a token is one of some signs or words. -/
def isB (M : List (List UInt8)) (T : Tok) : Bool := (decide (T.K = 9) || decide (T.K = 7)) && decide (T.S.data.toList ∈ M)
set_option maxRecDepth 100000 in
theorem pis (w : World) (p g c k : Nat) (L : List Tok) (h : PS w p g c L k) (T : Tok) (hT : L[k]? = some T) (M : List (List UInt8)) (n cap b : Nat) (hn : M.length = n) (hM : n ≤ 1000) (hc : ∀ i (h : i < M.length), w.cell? ⟨b, i, none⟩ = some (.string ⟨M[i].toArray⟩)) :
    Calls Tryz.prog 54 #[.pointer (some ⟨p, 0, none⟩), .slice (some ⟨b, 0, none⟩) n cap] w fun e w' => e = .returned (.bool (isB M T)) ∧ Below w.heap.size w w' := by
  have HT := Lib.hid (fun w h => ptok w p g c k L h T hT)
  have H := Lib.hid h
  have HIN := Lib.hid (fun w hc => in_spec M n cap b hn hM T.S T.S.data.toList rfl w hc)
  have HC := Lib.hid hc
  have keep : ∀ {w1 : World}, Below w.heap.size w w1 → ∀ i (h : i < M.length), w1.cell? ⟨b, i, none⟩ = some (.string ⟨M[i].toArray⟩) := fun {w1} hb i hi => by
    rw [hb.cell (p := ⟨b, i, none⟩) (cell_lt (HC.out i hi))]; exact HC.out i hi
  have HK := Lib.hid (fun w1 (hb : Below w.heap.size w w1) => keep hb)
  have f0 := tfield0 T
  have f1 := tfield1 T
  clear h hT hc keep hn
  have e79 : ∀ K : Int, (K = 9 ∨ K = 7) ∨ ((K == 9) = false ∧ (K == 7) = false) := fun K => by
    by_cases h1 : K = 9
    · exact Or.inl (Or.inl h1)
    · by_cases h2 : K = 7
      · exact Or.inl (Or.inr h2)
      · exact Or.inr ⟨by simpa using h1, by simpa using h2⟩
  rcases e79 T.K with h9 | ⟨h1, h2⟩
  · have HR : Hid (isB M T = decide (T.S.data.toList ∈ M)) := Lib.hid (by unfold isB; rcases h9 with h | h <;> simp [h])
    rw [HR.out]
    rcases h9 with h9 | h9
    all_goals
      first
        | have hb : (T.K == 9) = true := by rw [h9]; rfl
        | skip
      first
        | have hb1 : (T.K == 9) = false := by rw [h9]; rfl
        | skip
      first
        | have hb2 : (T.K == 7) = true := by rw [h9]; rfl
        | skip
      clear h9 e79
      go_enter Tryz.func54, Tryz.ntmps54
      go_wp2_with fail
      refine (HT.out _ H.out).mono ?_
      rintro e w1 ⟨rfl, b1⟩
      have B1 := Lib.hid b1
      have H1 := Lib.hid (H.out.after b1)
      have c3 := H1.out.c3
      clear b1
      go_wp2_with fail
      refine (HT.out _ H1.out).mono ?_
      rintro e w2 ⟨rfl, b2⟩
      have B2 := Lib.hid (Below.step B1.out b2)
      clear b2
      go_wp2_with fail
      refine (HIN.out _ (HK.out _ B2.out)).mono ?_
      rintro e w3 ⟨rfl, rfl⟩
      go_wp2_with fail
      go_ret
      exact ⟨rfl, B2.out⟩
  · have HR : Hid (isB M T = false) := Lib.hid (by unfold isB; simp at h1 h2; simp [h1, h2])
    rw [HR.out]
    clear e79
    go_enter Tryz.func54, Tryz.ntmps54
    go_wp2_with fail
    refine (HT.out _ H.out).mono ?_
    rintro e w1 ⟨rfl, b1⟩
    have B1 := Lib.hid b1
    have H1 := Lib.hid (H.out.after b1)
    have c3 := H1.out.c3
    clear b1
    go_wp2_with fail
    go_ret
    exact ⟨rfl, B1.out⟩
/-- .. of a row that is made for it. -/
theorem pis_alloc (w : World) (p g c k : Nat) (L : List Tok) (h : PS w p g c L k) (T : Tok) (hT : L[k]? = some T) (M : List (List UInt8)) (n : Nat) (hn : M.length = n) (r : Bool) (hr : isB M T = r) (hM : n ≤ 1000 := by decide) :
    Calls Tryz.prog 54 #[.pointer (some ⟨p, 0, none⟩), .slice (some ⟨w.heap.size, 0, none⟩) n n] (w.alloc (.cells (M.map fun x => Value.string ⟨x.toArray⟩).toArray 9)) fun e w' => e = .returned (.bool r) ∧ Below w.heap.size w w' := by
  subst hr
  refine (pis _ p g c k L (h.after (below_new _ _)) T hT M n n w.heap.size hn hM fun i h => by
    rw [cell_of_row _ _ i _ _ (0, 0) (heap_alloc_last w _)]
    simp [h]).mono ?_
  rintro e w' ⟨rfl, hb⟩
  exact ⟨rfl, Below.step (below_new _ _) hb⟩

set_option maxRecDepth 100000 in
theorem pone (w : World) (p g c k : Nat) (L : List Tok) (h : PS w p g c L k) (T : Tok) (hT : L[k]? = some T) (s : ByteArray) (l : List UInt8) (hs : s.data.toList = l) (r : Bool) (hr : isB [l] T = r) :
    Calls Tryz.prog 51 #[.pointer (some ⟨p, 0, none⟩), .string s] w fun e w' => e = .returned (.bool r) ∧ Below w.heap.size w w' := by
  have HP : Hid (Calls Tryz.prog 54 #[.pointer (some ⟨p, 0, none⟩), .slice (some ⟨w.heap.size, 0, none⟩) 1 1] (w.alloc (.cells #[.string s] 9)) fun e w' => e = .returned (.bool r) ∧ Below w.heap.size w w') := Lib.hid (by
    have h := pis_alloc w p g c k L h T hT [l] 1 rfl r hr
    have e : ([l].map fun x => Value.string ⟨x.toArray⟩).toArray = #[.string s] := by rw [← hs]; rfl
    rw [e] at h
    exact h)
  clear h hT hs hr
  go_enter Tryz.func51, Tryz.ntmps51
  go_wp2_with fail
  refine HP.out.mono ?_
  rintro e w1 ⟨rfl, b1⟩
  have B1 := Lib.hid b1
  clear b1
  go_wp2_with fail
  go_ret
  exact ⟨rfl, B1.out⟩

set_option maxRecDepth 100000 in
set_option maxRecDepth 100000 in
theorem pbad (p : Nat) (x : Int) (w : World) : Calls Tryz.prog 48 #[.pointer (some ⟨p, 0, none⟩), .bool false, .int .i64 x] w fun e w' => e = .returned (.tuple #[]) ∧ w' = w := by
  go_enter Tryz.func48, Tryz.ntmps48
  go_wp2_with fail
  go_end0
  exact ⟨rfl, rfl⟩
set_option maxRecDepth 100000 in
theorem pdeep (p d : Nat) (hd : d ≤ 200) (w : World) : Calls Tryz.prog 50 #[.pointer (some ⟨p, 0, none⟩), .int .i64 d] w fun e w' => e = .returned (.tuple #[]) ∧ w' = w := by
  have HB := Lib.hid (fun w => pbad p 2 w)
  have hb : decide ((200 : Int) < d) = false := decide_eq_false (by omega)
  clear hd
  go_enter Tryz.func50, Tryz.ntmps50
  go_wp2_with fail
  refine (HB.out _).mono ?_
  rintro e w1 ⟨rfl, rfl⟩
  go_wp2_with fail
  go_end0
  exact ⟨rfl, rfl⟩
set_option maxRecDepth 100000 in
theorem pon (w : World) (p g c k : Nat) (L : List Tok) (h : PS w p g c L k) (hk : k + 1 < L.length) : Calls Tryz.prog 55 #[.pointer (some ⟨p, 0, none⟩)] w fun e w' => e = .returned (.tuple #[]) ∧ PS w' p g c L (k + 1) ∧ Bt p w w' := by
  have c0 := h.c0; have c1 := h.c1; have c3 := h.c3; have z1 := h.z 1
  obtain ⟨j, hj⟩ : ∃ j, j = k + 1 := ⟨_, rfl⟩
  have hjk : (k : Int) + 1 = j := by omega
  have hlt : decide ((j : Int) < L.length) = true := decide_eq_true (by omega)
  have hltn : decide (j < L.length) = true := decide_eq_true (by omega)
  have hf := h.few
  have hk3 : k ≤ 3000 := by omega
  have HO := Lib.hid (fun n => (h.after (drewNb w n)).on hk)
  rw [← hj]
  have HJ := Lib.hid hj
  clear h hk hj
  go_enter Tryz.func55, Tryz.ntmps55
  go_wp2_with fail
  go_quiet (fail)
  rename_i nq _
  go_wp2_with fail
  go_end0
  have h := HO.out nq
  rw [← HJ.out] at h
  exact ⟨rfl, h.1, (Bt.of (drewNb w nq)).trans h.2⟩

set_option maxRecDepth 100000 in
theorem pgoes_no (w : World) (p g c k : Nat) (L : List Tok) (h : PS w p g c L k) (T : Tok) (hT : L[k]? = some T) (s : ByteArray) (l : List UInt8) (hs : s.data.toList = l) (hr : isB [l] T = false) :
    Calls Tryz.prog 58 #[.pointer (some ⟨p, 0, none⟩), .string s] w fun e w' => e = .returned (.bool false) ∧ Below w.heap.size w w' := by
  have HO := Lib.hid (pone w p g c k L h T hT s l hs false hr)
  clear h hT hs hr
  go_enter Tryz.func58, Tryz.ntmps58
  go_wp2_with fail
  refine HO.out.mono ?_
  rintro e w1 ⟨rfl, b1⟩
  have B1 := Lib.hid b1
  clear b1
  go_wp2_with fail
  go_ret
  exact ⟨rfl, B1.out⟩
set_option maxRecDepth 100000 in
theorem pline_no (w : World) (p g c k : Nat) (L : List Tok) (h : PS w p g c L k) (T : Tok) (hT : L[k]? = some T) (h1 : T.K ≠ 1) :
    Calls Tryz.prog 97 #[.pointer (some ⟨p, 0, none⟩)] w fun e w' => e = .returned (.bool false) ∧ Below w.heap.size w w' := by
  have HT := Lib.hid (ptok w p g c k L h T hT)
  have f0 := tfield0 T
  have hb : (T.K == 1) = false := by simpa using h1
  clear h hT h1
  go_enter Tryz.func97, Tryz.ntmps97
  go_wp2_with fail
  refine HT.out.mono ?_
  rintro e w1 ⟨rfl, b1⟩
  have B1 := Lib.hid b1
  clear b1
  go_wp2_with fail
  go_ret
  exact ⟨rfl, B1.out⟩
set_option maxRecDepth 100000 in
theorem plines_no (w : World) (p g c k : Nat) (L : List Tok) (h : PS w p g c L k) (T : Tok) (hT : L[k]? = some T) (h1 : T.K ≠ 1) :
    Calls Tryz.prog 56 #[.pointer (some ⟨p, 0, none⟩)] w fun e w' => e = .returned (.tuple #[]) ∧ Below w.heap.size w w' := by
  have HT := Lib.hid (pline_no w p g c k L h T hT h1)
  have c3 := h.c3
  clear h hT h1
  go_enter Tryz.func56, Tryz.ntmps56
  go_wp2_with fail
  refine wp_loop_rounds 1 ?_
  rw [rounds_succ]
  go_wp2_with fail
  refine HT.out.mono ?_
  rintro e w1 ⟨rfl, b1⟩
  have B1 := Lib.hid b1
  clear b1
  go_wp2_with fail
  go_end0
  exact ⟨rfl, B1.out⟩
set_option maxRecDepth 100000 in
theorem pnode (k a : Int) (s : ByteArray) (x : Option Addr) (n c : Nat) (w : World) :
    Calls Tryz.prog 57 #[.int .i64 k, .int .i64 a, .string s, .slice x n c] w fun e w' => e = .returned (.agg (ndC k s 0 a (.slice x n c) (.slice none 0 0))) ∧ Below w.heap.size w w' := by
  have HI := info_nd
  go_enter Tryz.func57, Tryz.ntmps57
  go_upto_region 1 with (fail)
  obtain ⟨W, hW, hX, hB, hsz⟩ := nd_box w zeroN
  change Code.wp _ _ _ _ (w.alloc (Obj.cells zeroN 25))
  rw [← hW]
  clear hW
  go_wp2_with (refine wpList_store_row rfl 25 (.tmp 8) (.tmp 13) rfl w.heap.size (ndC k s 0 a (.slice x n c) (.slice none 0 0)) rfl rfl 25 zeroN hX.out.row HI rfl (nd_one _ _ _ _ _ _ _ _ _ _) ?_)
  refine bodyPost_ret (v := .agg (ndC k s 0 a (.slice x n c) (.slice none 0 0))) (results_cell_row (by rfl) _ _ w.heap.size 25 _ (0, 0) _ (by rfl) (hX.out.setRow _).row Tryz.underlying25 (by rfl) HI) rfl ⟨rfl, ?_⟩
  exact below_setRow hB.out (Nat.le_refl _) _
set_option maxRecDepth 100000 in
theorem pleft (k : Int) (s : ByteArray) (n a : Int) (sl sp : Value) (w : World) (r : Bool) (hr : (decide (3 ≤ k) && decide (k ≤ 5)) = r) :
    Calls Tryz.prog 53 #[.agg (ndC k s n a sl sp)] w fun e w' => e = .returned (.bool r) ∧ Below w.heap.size w w' := by
  go_enter Tryz.func53, Tryz.ntmps53
  go_upto_region 1 with (fail)
  obtain ⟨W, hW, hX, hB, hsz⟩ := nd_box w (ndC k s n a sl sp)
  change Code.wp _ _ _ _ (w.alloc (Obj.cells (ndC k s n a sl sp) 25))
  rw [← hW]
  clear hW
  obtain ⟨c0, _⟩ := six_nd hX.out.six
  by_cases h1 : 3 ≤ k
  · have hb1 : decide (3 ≤ k) = true := decide_eq_true h1
    rw [hb1, Bool.true_and] at hr
    subst hr
    clear h1
    go_wp2_with fail
    go_ret
    exact ⟨rfl, hB.out⟩
  · have hb1 : decide (3 ≤ k) = false := decide_eq_false h1
    rw [hb1, Bool.false_and] at hr
    subst hr
    clear h1
    go_wp2_with fail
    go_ret
    exact ⟨rfl, hB.out⟩
set_option maxRecDepth 100000 in
theorem pshut_no (w : World) (p g c k : Nat) (L : List Tok) (h : PS w p g c L k) (T : Tok) (hT : L[k]? = some T) (hr : isB [[40]] T = false) :
    Calls Tryz.prog 143 #[.pointer (some ⟨p, 0, none⟩)] w fun e w' => e = .returned (.int .i64 (-1)) ∧ Below w.heap.size w w' := by
  have HO := Lib.hid (pone w p g c k L h T hT ⟨#[40]⟩ [40] rfl false hr)
  have c0 := h.c0; have c1 := h.c1
  have hk := h.lt
  clear h hT hr
  go_enter Tryz.func143, Tryz.ntmps143
  go_wp2_with fail
  refine wp_loop_rounds 1 ?_
  rw [rounds_succ]
  go_wp2_with fail
  refine HO.out.mono ?_
  rintro e w1 ⟨rfl, b1⟩
  have B1 := Lib.hid b1
  clear b1
  go_wp2_with fail
  go_ret
  exact ⟨rfl, B1.out⟩
end Go.Proofs.YtgdlpldngpoadaaGreatDoor
