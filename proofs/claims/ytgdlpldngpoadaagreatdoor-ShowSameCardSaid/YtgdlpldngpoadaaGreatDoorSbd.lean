/- Merged by program: LexPl, LexWw. -/
import Derived.Test.YtgdlpldngpoadaaGreatDoorSat
import Derived.Test.YtgdlpldngpoadaaGreatDoorSau
/- How many bytes a token takes: plain Lean. -/
namespace Go.Proofs.YtgdlpldngpoadaaGreatDoor
open Go.RowKit

theorem text_len : ∀ (f : Nat) (l : List UInt8), l.length ≤ f → ∀ x, textN l = some x → x.2 ≤ l.length
  | 0, l, hl, x, h => by
    obtain rfl := List.eq_nil_of_length_eq_zero (Nat.le_zero.1 hl)
    exact absurd h (by simp [textN])
  | f + 1, l, hl, x, h => by
    cases l with
    | nil => exact absurd h (by simp [textN])
    | cons c t =>
      have hl' : t.length ≤ f := by simpa using hl
      by_cases h10 : c.toNat = 10
      · rw [tx_feed (Or.inr ⟨c, t, rfl, h10⟩)] at h; exact absurd h (by simp)
      by_cases h34 : c.toNat = 34
      · rw [tx_end h34] at h
        have : x = ([], 1) := (Option.some.inj h).symm
        rw [this]; simp
      by_cases h92 : c.toNat = 92
      · rcases feed_or t with hf | ⟨d, u, rfl, hd⟩
        · rw [tx_esc_bad h92 hf] at h; exact absurd h (by simp)
        · rw [tx_esc h92 hd] at h
          cases hb : textN u with
          | none => rw [hb] at h; exact absurd h (by simp)
          | some y =>
            rw [hb] at h
            have := text_len f u (by simp at hl'; omega) y hb
            have : x = (meantN d ++ y.1, y.2 + 2) := (Option.some.inj h).symm
            rw [this]; simp; omega
      · rw [tx_on h10 h34 h92] at h
        cases hb : textN t with
        | none => rw [hb] at h; exact absurd h (by simp)
        | some y =>
          rw [hb] at h
          have := text_len f t hl' y hb
          have : x = ([c] ++ y.1, y.2 + 1) := (Option.some.inj h).symm
          rw [this]; simp; omega
theorem pat_len : ∀ (f : Nat) (l : List UInt8), l.length ≤ f → ∀ q x, patN q l = some x → x.2 ≤ l.length
  | 0, l, hl, q, x, h => by
    obtain rfl := List.eq_nil_of_length_eq_zero (Nat.le_zero.1 hl)
    exact absurd h (by simp [patN])
  | f + 1, l, hl, q, x, h => by
    cases l with
    | nil => exact absurd h (by simp [patN])
    | cons c t =>
      have hl' : t.length ≤ f := by simpa using hl
      by_cases h10 : c.toNat = 10
      · rw [pa_feed (Or.inr ⟨c, t, rfl, h10⟩)] at h; exact absurd h (by simp)
      by_cases h47 : q = 0 ∧ c.toNat = 47
      · rw [h47.1, pa_end h47.2] at h
        have : x = ([], 1) := (Option.some.inj h).symm
        rw [this]; simp
      by_cases h92 : c.toNat = 92
      · rcases feed_or t with hf | ⟨d, u, rfl, hd⟩
        · rw [pa_esc_bad h92 hf] at h; exact absurd h (by simp)
        · rw [pa_esc h92 hd] at h
          cases hb : patN (if q = 0 then 0 else 3) u with
          | none => rw [hb] at h; exact absurd h (by simp)
          | some y =>
            rw [hb] at h
            have := pat_len f u (by simp at hl'; omega) _ y hb
            have : x = (escN d ++ y.1, y.2 + 2) := (Option.some.inj h).symm
            rw [this]; simp; omega
      · rw [pa_on h10 h47 h92] at h
        cases hb : patN (nextQ q c) t with
        | none => rw [hb] at h; exact absurd h (by simp)
        | some y =>
          rw [hb] at h
          have := pat_len f t hl' _ y hb
          have : x = ([c] ++ y.1, y.2 + 1) := (Option.some.inj h).symm
          rw [this]; simp; omega
theorem runN_head {is : UInt8 → Bool} {c : UInt8} {t : List UInt8} (h : is c = true) : 1 ≤ runN is (c :: t) := by
  show 1 ≤ (if is c = true then runN is t + 1 else 0)
  rw [if_pos h]; omega
theorem num_len (l : List UInt8) : numN l ≤ l.length := by
  have h1 := runN_le digB l
  have h2 := runN_le digB (l.drop (runN digB l + 1))
  rw [List.length_drop] at h2
  unfold numN
  split
  · rename_i h
    have : runN digB l < l.length := by
      rcases Nat.lt_or_ge (runN digB l) l.length with h' | h'
      · exact h'
      · rw [List.drop_eq_nil_of_le h'] at h; exact absurd h (by simp)
    omega
  · exact h1
theorem num_pos {c : UInt8} {t : List UInt8} (h : digB c = true ∨ (c.toNat = 46 ∧ dotB t = true)) : 1 ≤ numN (c :: t) := by
  rcases h with h | ⟨h, _⟩
  · have := runN_head (t := t) h
    unfold numN
    split <;> omega
  · have hd : digB c = false := by unfold digB; rw [h]; decide
    have hr : runN digB (c :: t) = 0 := by
      show (if digB c = true then runN digB t + 1 else 0) = 0
      rw [hd]; rfl
    have hc : c = 46 := u8_eq 46 h rfl
    unfold numN
    rw [hr, if_pos (by rw [hc]; rfl)]
    omega
theorem sign_len (l : List UInt8) : signN l ≤ l.length := by
  unfold signN
  split
  · rename_i h; exact h.1
  · split
    · rename_i h; exact h.1
    · omega

/-- What a token is, when there is one. -/
inductive Got (l : List UInt8) (K : Int) (S : List UInt8) (m : Nat) : Prop where
  | no (hl : l = []) (hK : K = 0) (hS : S = []) (hm : m = 0)
  | yes (hl : l ≠ []) (hK : K ≠ 0) (h1 : 1 ≤ m) (hm : m ≤ l.length) (hS : K ≠ 3 → K ≠ 4 → S = l.take m)
theorem read_got {l : List UInt8} {op : Bool} {K : Int} {S : List UInt8} {m : Nat} (h : readN l op = .got K S m) : Got l K S m := by
  cases l with
  | nil =>
    have : Rd1.got 0 [] 0 = Rd1.got K S m := h
    injection this with h1 h2 h3
    exact .no rfl h1.symm h2.symm h3.symm
  | cons c r =>
    rw [rd_eq] at h
    by_cases h10 : c.toNat = 10
    · rw [if_pos h10] at h
      injection h with h1 h2 h3
      subst h1 h2 h3
      exact .yes (by simp) (by decide) (Nat.le_refl _) (by simp) (fun _ _ => rfl)
    rw [if_neg h10] at h
    by_cases hl : letB c = true
    · rw [if_pos hl] at h
      have hr := runN_head (is := namB) (t := r) (c := c) (by unfold namB; rw [hl]; rfl)
      have hle := runN_le namB (c :: r)
      unfold nameN at h
      split at h
      · exact absurd h (by simp)
      · injection h with h1 h2 h3
        subst h2 h3
        refine .yes (by simp) (fun h0 => ?_) hr hle (fun _ _ => rfl)
        rw [h0] at h1
        split at h1
        · exact absurd h1 (by decide)
        · split at h1
          · exact absurd h1 (by decide)
          · split at h1 <;> exact absurd h1 (by decide)
    rw [if_neg hl] at h
    by_cases hd : digB c = true ∨ (c.toNat = 46 ∧ dotB r = true)
    · rw [if_pos hd] at h
      injection h with h1 h2 h3
      subst h1 h2 h3
      exact .yes (by simp) (by decide) (num_pos hd) (num_len _) (fun _ _ => rfl)
    rw [if_neg hd] at h
    by_cases h34 : c.toNat = 34
    · rw [if_pos h34] at h
      cases ht : textN r with
      | none => rw [ht] at h; exact absurd h (by simp [quoteN])
      | some x =>
        rw [ht] at h
        have hx := text_len _ r (Nat.le_refl _) x ht
        injection h with h1 h2 h3
        subst h1 h3
        exact .yes (by simp) (by decide) (by omega) (by simp; omega) (fun h _ => absurd rfl h)
    rw [if_neg h34] at h
    by_cases h47 : c.toNat = 47 ∧ op = false
    · rw [if_pos h47] at h
      cases ht : patN 0 r with
      | none => rw [ht] at h; exact absurd h (by simp [quoteN])
      | some x =>
        rw [ht] at h
        have hx := pat_len _ r (Nat.le_refl _) 0 x ht
        injection h with h1 h2 h3
        subst h1 h3
        exact .yes (by simp) (by decide) (by omega) (by simp; omega) (fun _ h => absurd rfl h)
    rw [if_neg h47] at h
    unfold signR at h
    split at h
    · exact absurd h (by simp)
    · rename_i h0
      injection h with h1 h2 h3
      subst h1 h2 h3
      exact .yes (by simp) (by decide) (by omega) (sign_len _) (fun _ _ => rfl)
theorem read_le {s : ByteArray} {k m : Nat} {op : Bool} {K : Int} {S : List UInt8} (hk : k ≤ s.size) (h : readN (s.data.toList.drop k) op = .got K S m) : k + m ≤ s.size := by
  rcases read_got h with ⟨_, _, _, hm⟩ | ⟨_, _, _, hm, _⟩
  · omega
  · rw [List.length_drop, ← Lib.size_eq] at hm; omega
end Go.Proofs.YtgdlpldngpoadaaGreatDoor

/- lex.Words of a text that is not too long: a walk. -/
namespace Go.Proofs.YtgdlpldngpoadaaGreatDoor
open Go.RowKit

theorem own_slice {w : World} {B : Nat} {e : TypeId} {v : Value} {n sz : Nat} {xs : List Value} (h : w.ownsRow B e sz v n xs) : ∃ a c, v = .slice a n c := by
  rcases h.2 with ⟨rfl, rfl⟩ | ⟨g, cap, cur, rfl, _⟩
  · exact ⟨_, _, rfl⟩
  · exact ⟨_, _, rfl⟩
/-- The three results' variables. -/
structure WsB (V w : World) (v : Value) : Prop where
  bx : V.heap[w.heap.size]? = some (.cells #[v] 46 (0, 0))
  ax : V.heap[w.heap.size + 1]? = some (.cells #[.int .i64 0] 3 (0, 0))
  ex : V.heap[w.heap.size + 1 + 1]? = some (.cells #[.int .i64 0] 28 (0, 0))
  below : Below w.heap.size w V
theorem WsI.toB {V w : World} {v : Value} {l : List Tp} {s : ByteArray} {k : Nat} {L : Tok} (h : WsI V w v l s k L) : WsB V w v := ⟨h.bx, h.ax, h.ex, h.below⟩
theorem WsB.lt {V w : World} {v : Value} (h : WsB V w v) : w.heap.size + 3 ≤ V.heap.size := (Array.getElem?_eq_some_iff.1 h.ex).1
theorem WsI.after {V w V' : World} {v : Value} {l : List Tp} {s : ByteArray} {k : Nat} {L : Tok} (h : WsI V w v l s k L) (hb : But (w.heap.size + 1 + 1 + 1) V V') : WsB V' w v := by
  have hl := h.lt
  exact ⟨by rw [hb.block _ (by omega) (by omega)]; exact h.bx, by rw [hb.block _ (by omega) (by omega)]; exact h.ax, by rw [hb.block _ (by omega) (by omega)]; exact h.ex, h.below.trans (hb.below (by omega) (by omega))⟩
/-- The closure's end, when the reading was given up. -/
theorem WsB.fell {V w w'' : World} {v : Value} {a x : Int} (h : WsB V w v) (hC : Caught V w'' w.heap.size (w.heap.size + 1) (w.heap.size + 1 + 1) a x) : Below w.heap.size w w'' :=
  ⟨hC.os.trans h.below.os, hC.tape.trans h.below.tape, hC.output.trans h.below.output, Nat.le_trans h.below.size hC.size, fun k hk => (hC.block k (by have := h.lt; omega) (by omega) (by omega) (by omega)).trans (h.below.block k hk)⟩
theorem WsB.caught {V w : World} {v : Value} (h : WsB V w v) (a x : Int) :
    CallsD Tryz.prog 107 #[.pointer (some ⟨w.heap.size, 0, none⟩), .pointer (some ⟨w.heap.size + 1, 0, none⟩), .pointer (some ⟨w.heap.size + 1 + 1, 0, none⟩)] (.panicking ({ v := .iface 121 (.agg #[.int .i64 a, .int .i64 x]), recovered := false } :: [])) V fun e u' w' =>
      e = .returned (.tuple #[]) ∧ u' = .panicking ({ v := .iface 121 (.agg #[.int .i64 a, .int .i64 x]), recovered := true } :: []) ∧ Caught V w' w.heap.size (w.heap.size + 1) (w.heap.size + 1 + 1) a x :=
  catch_fault _ _ _ v a x V (cell_of_row _ _ 0 _ _ _ h.bx) (frozen_of_row _ _ 0 _ _ h.bx) (cell_of_row _ _ 0 _ _ _ h.ax) (frozen_of_row _ _ 0 _ _ h.ax) (cell_of_row _ _ 0 _ _ _ h.ex) (frozen_of_row _ _ 0 _ _ h.ex) (by omega) (by omega) (by omega)

theorem bad_out {s : List UInt8} {w w'' : World} {a : Nat} {x : Int} (h : wordsN s 3000 0 false = .bad a x) (hb : Below w.heap.size w w'') : OutW w (wordsN s 3000 0 false) (.returned (.tuple #[.slice none 0 0, .int .i64 a, .int .i64 x])) w'' := by
  rw [h]; exact ⟨hb, rfl⟩

theorem ws_bad {s : List UInt8} {r k : Nat} {op : Bool} {x : Int} (h : readN (s.drop (k + passA (s.drop k))) op = .bad x) : wordsN s r k op = .bad (k + passA (s.drop k)) x := by
  cases r <;> (unfold wordsN; rw [h])
theorem ws_full {s : List UInt8} {k : Nat} {op : Bool} {K : Int} {S : List UInt8} {m : Nat} (h : readN (s.drop (k + passA (s.drop k))) op = .got K S m) : wordsN s 0 k op = .bad (k + passA (s.drop k)) 2 := by
  unfold wordsN; rw [h]
theorem ws_end {s : List UInt8} {r k : Nat} {op : Bool} {S : List UInt8} {m : Nat} (h : readN (s.drop (k + passA (s.drop k))) op = .got 0 S m) : wordsN s (r + 1) k op = .ok [(0, S, k + passA (s.drop k))] := by
  unfold wordsN; rw [h]; rfl
theorem ws_on {s : List UInt8} {r k : Nat} {op : Bool} {K : Int} {S : List UInt8} {m : Nat} (h : readN (s.drop (k + passA (s.drop k))) op = .got K S m) (hK : K ≠ 0) : wordsN s (r + 1) k op = preW [(K, S, k + passA (s.drop k))] (wordsN s r (k + passA (s.drop k) + m) (opN K S)) := by
  conv => lhs; unfold wordsN
  rw [h]
  simp only [hK, if_false]
theorem preW_bad (l : List Tp) (a : Nat) (x : Int) : preW l (.bad a x) = .bad a x := rfl
theorem preW_pre (l m : List Tp) (o : Ws) : preW l (preW m o) = preW (l ++ m) o := by
  cases o with
  | ok l => simp [preW]
  | bad a x => rfl

/-- A slice's row behind append, the box behind the store. -/
theorem WsI.put {V w V1 : World} {v v' : Value} {l l' : List Tp} {s : ByteArray} {k : Nat} {L : Tok} (h : WsI V w v l s k L) (hg : V.grownBy V1 v.ownBlock) (hown : V1.ownsRow (w.heap.size + 4) 68 3 v' l'.length (toksV l')) : WsI (V1.setCell ⟨w.heap.size, 0, none⟩ v') w v' l' s k L := by
  have hl := h.lt
  have hne : ∀ k, k < w.heap.size + 4 → some k ≠ v.ownBlock := fun k hk e => by have := h.row k e.symm; omega
  have e1 : V1.heap[w.heap.size]? = some (.cells #[v] 46 (0, 0)) := by rw [hg.block _ (by omega) (hne _ (by omega))]; exact h.bx
  refine ⟨by rw [heap_setCell_same _ _ 0 _ _ _ e1]; rfl, ?_, ?_, ?_, ?_, ?_⟩
  · rw [heap_setCell_other _ _ _ _ (by show w.heap.size + 1 ≠ w.heap.size; omega), hg.block _ (by omega) (hne _ (by omega))]; exact h.ax
  · rw [heap_setCell_other _ _ _ _ (by show w.heap.size + 1 + 1 ≠ w.heap.size; omega), hg.block _ (by omega) (hne _ (by omega))]; exact h.ex
  · refine hown.kept (row := some w.heap.size) ⟨rfl, rfl, rfl, by simp [World.setCell], fun k _ hk => Below.heap_setCell _ _ _ _ (fun e => hk (by simp [e]))⟩ (Or.inr fun e => ?_)
    rcases hown.2 with ⟨rfl, _⟩ | ⟨g', cap, cur, rfl, hb, _⟩
    · exact absurd e (by simp [Value.ownBlock])
    · have : g' = w.heap.size := by simpa [Value.ownBlock] using e
      omega
  · exact h.rd.keep (by rw [heap_setCell_other _ _ _ _ (by show w.heap.size + 1 + 1 + 1 ≠ w.heap.size; omega), hg.block _ (by omega) (hne _ (by omega))])
  · exact (h.below.grown hg (by omega) (fun k hk => by have := h.row k hk; omega)).setCell (p := ⟨w.heap.size, 0, none⟩) (Nat.le_refl _) _

theorem WsI.row_lt {V w : World} {v : Value} {l : List Tp} {s : ByteArray} {k : Nat} {L : Tok} (h : WsI V w v l s k L) : ∀ g, v.ownBlock = some g → g < V.heap.size := by
  intro g hg
  rcases h.own.2 with ⟨rfl, _⟩ | ⟨g', cap, cur, rfl, hb, hrow, _⟩
  · exact absurd hg (by simp [Value.ownBlock])
  · have : g' = g := by simpa [Value.ownBlock] using hg
    subst this
    exact (Array.getElem?_eq_some_iff.1 hrow).1
theorem WsI.box_grown {V w V1 : World} {v : Value} {l : List Tp} {s : ByteArray} {k : Nat} {L : Tok} (h : WsI V w v l s k L) (hg : V.grownBy V1 v.ownBlock) : V1.heap[w.heap.size]? = some (.cells #[v] 46 (0, 0)) := by
  rw [hg.block _ (by have := h.lt; omega) (fun e => by have := h.row _ e.symm; omega)]; exact h.bx
/-- The tokens, told. -/
theorem WsI.toks {V w : World} {a : Option Addr} {n c : Nat} {l : List Tp} {s : ByteArray} {k : Nat} {L : Tok} (h : WsI V w (.slice a n c) l s k L) (hl : l ≠ []) : ∃ g, a = some ⟨g, 0, none⟩ ∧ w.heap.size + 4 ≤ g ∧ n = l.length ∧ ToksAt V g c l := by
  rcases h.own.2 with ⟨_, h0⟩ | ⟨g, cap, cur, hv, hb, hrow, hc1, _, hc2, ht⟩
  · exact absurd (List.eq_nil_of_length_eq_zero h0) hl
  · injection hv with h1 h2 h3
    subst h1 h2 h3
    refine ⟨g, rfl, hb, rfl, fun j u hj => ?_, (Array.getElem?_eq_some_iff.1 hrow).1, hc1⟩
    have := h.own.cells (g := g) rfl j u hj
    simpa [Addr.add_lit] using this
theorem ToksAt.keep {w w' : World} {g cap : Nat} {l : List Tp} (h : ToksAt w g cap l) (e : w'.heap[g]? = w.heap[g]?) (hs : w.heap.size ≤ w'.heap.size) : ToksAt w' g cap l :=
  ⟨fun j u hj => by rw [World.cell?_of_block (a := ⟨g, j, none⟩) e]; exact h.cell j u hj, Nat.lt_of_lt_of_le h.lt hs, h.cap⟩
/-- The three results, stored once more. -/
theorem WsI.out {V w : World} {v : Value} {l : List Tp} {s : ByteArray} {k : Nat} {L : Tok} (h : WsI V w v l s k L) (Z : World) (hZ : Z = ((V.setCell ⟨w.heap.size, 0, none⟩ v).setCell ⟨w.heap.size + 1, 0, none⟩ (.int .i64 0)).setCell ⟨w.heap.size + 1 + 1, 0, none⟩ (.int .i64 0)) :
    Z.cell? ⟨w.heap.size, 0, none⟩ = some v ∧ Z.cell? ⟨w.heap.size + 1, 0, none⟩ = some (.int .i64 0) ∧ Z.cell? ⟨w.heap.size + 1 + 1, 0, none⟩ = some (.int .i64 0) ∧ Below w.heap.size w Z ∧ (∀ g, w.heap.size + 4 ≤ g → Z.heap[g]? = V.heap[g]?) ∧ V.heap.size ≤ Z.heap.size := by
  have b0 : V.cell? ⟨w.heap.size, 0, none⟩ = some v := cell_of_row _ _ 0 _ _ _ h.bx
  have b1 : V.cell? ⟨w.heap.size + 1, 0, none⟩ = some (.int .i64 0) := cell_of_row _ _ 0 _ _ _ h.ax
  have b2 : V.cell? ⟨w.heap.size + 1 + 1, 0, none⟩ = some (.int .i64 0) := cell_of_row _ _ 0 _ _ _ h.ex
  subst hZ
  refine ⟨?_, ?_, ?_, ((h.below.setCell (p := ⟨w.heap.size, 0, none⟩) (Nat.le_refl _) _).setCell (p := ⟨w.heap.size + 1, 0, none⟩) (Nat.le_succ _) _).setCell (p := ⟨w.heap.size + 1 + 1, 0, none⟩) (by show _ ≤ w.heap.size + 1 + 1; omega) _, fun g hg => ?_, ?_⟩
  · rw [cell_other (addr_ne (Or.inl (by omega))), cell_other (addr_ne (Or.inl (by omega)))]; exact cell_same b0
  · rw [cell_other (addr_ne (Or.inl (by omega)))]; exact cell_same (by rw [cell_other (addr_ne (Or.inl (by omega)))]; exact b1)
  · exact cell_same (by rw [cell_other (addr_ne (Or.inl (by omega))), cell_other (addr_ne (Or.inl (by omega)))]; exact b2)
  · rw [heap_setCell_other _ _ _ _ (by show g ≠ w.heap.size + 1 + 1; omega), heap_setCell_other _ _ _ _ (by show g ≠ w.heap.size + 1; omega), heap_setCell_other _ _ _ _ (by show g ≠ w.heap.size; omega)]
  · rw [World.size_setCell, World.size_setCell, World.size_setCell]; exact Nat.le_refl _

set_option maxRecDepth 100000 in
set_option maxHeartbeats 2000000 in
theorem words_walk (s : ByteArray) (hs : s.size ≤ 8000) (w : World) :
    Calls Tryz.prog 74 #[.string s] w (OutW w (wordsN s.data.toList 3000 0 false)) := by
  have hmf : ∀ (fn : Fn) (first cap : Array Value) (w : World), (Instr.makeFunc fn first cap).run Tryz.prog w = .ok (.func fn first cap) w := fun _ _ _ _ => rfl
  obtain ⟨i0, hi, hz0, hz1, hz2⟩ := info_parts info_tok
  have HInfo := Lib.hid (And.intro hi (And.intro hz0 (And.intro hz1 hz2)))
  clear hi hz0 hz1 hz2
  obtain ⟨sl, hsl⟩ : ∃ sl, sl = s.data.toList := ⟨_, rfl⟩
  have HSl := Lib.hid hsl
  have HWd := Lib.hid (fun p k L w h hk => word_read p s k L w h hk hs)
  rw [← hsl] at HWd ⊢
  clear hsl
  go_enter_defers Tryz.func74, Tryz.ntmps74
  go_wp2_with fail
  obtain ⟨W, V, hW, hV, HS, HW, HI⟩ := WsI.fresh w s
  change Code.wp _ _ _ _ ((((w.alloc (Obj.cells #[.slice none 0 0] 46)).alloc (Obj.cells #[.int .i64 0] 3)).alloc (Obj.cells #[.int .i64 0] 28)).alloc (Obj.cells #[.string s, .int .i64 0, .int .i64 0, .string ⟨#[]⟩, .int .i64 0] 124))
  rw [← hW, ← hV]
  clear hW hV HS HW W
  go_loopg [6] 3000 (fun r x wr => x = x ∧ ∃ (v : Value) (l : List Tp) (k : Nat) (L : Tok), Hid (l.length + r = 3000) ∧ k ≤ s.size ∧ Hid (wordsN sl 3000 0 false = preW l (wordsN sl r k (operandB L))) ∧ Hid (WsI wr w v l s k L))
  case atStart => exact ⟨rfl, _, [], 0, zeroT, Lib.hid rfl, Nat.zero_le _, Lib.hid (by show _ = preW [] (wordsN sl 3000 0 false); cases wordsN sl 3000 0 false <;> rfl), HI⟩
  case round =>
    clear HI
    obtain ⟨_, v, l, k, L, HR, hk, HE, HI⟩ := hrel
    obtain ⟨a0, c0, hv⟩ := own_slice HI.out.own
    subst hv
    have hlt := HI.out.lt
    go_wp2_with fail
    refine (HWd.out (w.heap.size + 1 + 1 + 1) k L _ HI.out.rd hk).mono ?_
    intro e w4 ho
    obtain ⟨j, hj⟩ : ∃ j, j = k + passA (sl.drop k) := ⟨_, rfl⟩
    rw [← hj] at ho
    cases hn : readN (sl.drop j) (operandB L) with
    | bad x =>
      rw [hn] at ho
      obtain ⟨rfl, b4⟩ := ho
      have HN : Hid (wordsN sl 3000 0 false = .bad j x) := Lib.hid (by rw [HE.out, ws_bad (by rw [← hj]; exact hn), ← hj]; rfl)
      have HI4 := Lib.hid (HI.out.after b4)
      clear hn b4 hj
      go_wp2_with fail
      refine leaves_cons (f := 107) (args := #[.pointer (some ⟨w.heap.size, 0, none⟩), .pointer (some ⟨w.heap.size + 1, 0, none⟩), .pointer (some ⟨w.heap.size + 1 + 1, 0, none⟩)]) (by simp) (by simp [go_sem]) ?_
      refine (HI4.out.caught j x).mono ?_
      rintro e u' w'' ⟨rfl, rfl, hC⟩
      have eR := hC.r; have eA := hC.a; have eE := hC.e
      refine ⟨.tuple #[.slice none 0 0, .int .i64 j, .int .i64 x], ?_, ?_⟩
      · simp [results, Tryz.results74, go_sem, eR, eA, eE]
      · exact bad_out HN.out (HI4.out.fell hC)
    | got K S m =>
      rw [hn] at ho
      obtain ⟨t, rfl, ht, R4, b4⟩ := ho
      have HI4 := Lib.hid (HI.out.step b4 R4)
      have HNN := Lib.hid hn
      have HJ := Lib.hid hj
      clear hn b4 R4 hj
      go_upto_region 6 with (fail)
      have HT := Lib.hid (text_of ht.out)
      obtain ⟨W5, hW5, HI5, T5, hs5⟩ : ∃ W5, W5 = w4.alloc (.cells #[.int .i64 K, .string t, .int .i64 j] 68) ∧ Hid (WsI W5 w (.slice a0 l.length c0) l s (j + m) ⟨K, t, j⟩) ∧ Hid (TkB W5 w4.heap.size K t j) ∧ Hid (W5.heap.size = w4.heap.size + 1) :=
        ⟨_, rfl, Lib.hid (HI4.out.keep (below_new w4 _)), Lib.hid (TkB.new w4 _ _ _), Lib.hid (World.size_alloc _ _)⟩
      change Code.wp _ _ _ _ (w4.alloc (Obj.cells #[.int .i64 K, .string t, .int .i64 j] 68))
      rw [← hW5]
      clear hW5
      obtain ⟨b6, hb6⟩ : ∃ b6, b6 = w4.heap.size := ⟨_, rfl⟩
      rw [← hb6] at T5 ⊢
      have h64 : w.heap.size + 4 ≤ b6 := by rw [hb6]; exact HI4.out.lt
      have HB6 := Lib.hid hb6
      clear hb6
      have d0 := T5.out.c0
      have d1 := T5.out.c1
      have d2 := T5.out.c2
      have cb : W5.cell? ⟨w.heap.size, 0, none⟩ = some (.slice a0 l.length c0) := cell_of_row _ _ 0 _ _ _ HI5.out.bx
      by_cases hfull : l.length = 3000
      · have hfb : ((l.length : Int) == 3000) = true := by rw [hfull]; rfl
        have HN : Hid (wordsN sl 3000 0 false = .bad j 2) := Lib.hid (by
          have hr0 : gk = 0 := by have := HR.out; omega
          rw [HE.out, hr0, ws_full (by rw [← HJ.out]; exact HNN.out), ← HJ.out]; rfl)
        clear hfull
        go_wp2_with fail
        refine leaves_cons (f := 107) (args := #[.pointer (some ⟨w.heap.size, 0, none⟩), .pointer (some ⟨w.heap.size + 1, 0, none⟩), .pointer (some ⟨w.heap.size + 1 + 1, 0, none⟩)]) (by simp) (by simp [go_sem]) ?_
        refine (HI5.out.toB.caught j 2).mono ?_
        rintro e u' w'' ⟨rfl, rfl, hC⟩
        have eR := hC.r; have eA := hC.a; have eE := hC.e
        refine ⟨.tuple #[.slice none 0 0, .int .i64 j, .int .i64 2], ?_, ?_⟩
        · simp [results, Tryz.results74, go_sem, eR, eA, eE]
        · exact bad_out HN.out (HI5.out.toB.fell hC)
      · have hfb : ((l.length : Int) == 3000) = false := by simp; omega
        have HL3 : Hid (l.length < 3000) := Lib.hid (by have := HR.out; omega)
        obtain ⟨r', hr'⟩ : ∃ r', gk = r' + 1 := ⟨gk - 1, by have := HR.out; omega⟩
        have HR' := Lib.hid hr'
        clear hfull hr'
        go_upto_region 8 with (fail)
        obtain ⟨hi, hz0, hz1, hz2⟩ := HInfo.out
        have HO5 := Lib.hid HI5.out.own
        have zb : W5.frozen? ⟨w.heap.size, 0, none⟩ = false := frozen_of_row _ _ 0 _ _ HI5.out.bx
        have hs5l := HI5.out.lt
        go_wp2_with (at_builtin; refine wpList_append_own _ rfl _ _ 46 rfl (w.heap.size + 4) 68 i0 (.agg #[.int .i64 0, .string ⟨#[]⟩, .int .i64 0]) 3 32 Tryz.underlying46 hi hz0 hz1 hz2 rfl (by decide) _ _ _ rfl (HO5.out.alloc _) ⟨W5.heap.size, 0, none⟩ 1 1 [.int .i64 K, .string t, .int .i64 j] rfl rfl ?c1 ?c2 ?c3 ?c4 ?c5 ?_)
        case c1 =>
          intro i u hi
          simp only [Addr.add_lit, Nat.zero_add]
          rw [cell_of_row _ _ i _ _ (0, 0) (heap_alloc_last W5 _)]
          match i, hi with
          | 0, hi => exact hi
          | 1, hi => exact hi
          | 2, hi => exact hi
        case c2 => intro u hu; simp at hu; rcases hu with rfl | rfl | rfl <;> rfl
        case c3 => unfold maxLen; have := HL3.out; omega
        case c4 => have := HL3.out; omega
        case c5 => simp; omega
        intro v' w6 hown' hgrow _
        obtain ⟨a1, c1, hv'⟩ := own_slice hown'
        subst hv'
        have hbx := (HI5.out.keep (below_new W5 _)).box_grown hgrow
        have cb6 : w6.cell? ⟨w.heap.size, 0, none⟩ = some (.slice a0 l.length c0) := cell_of_row _ _ 0 _ _ _ hbx
        have zb6 : w6.frozen? ⟨w.heap.size, 0, none⟩ = false := frozen_of_row _ _ 0 _ _ hbx
        have hrl := HI4.out.row_lt
        have hbt : w6.heap[b6]? = W5.heap[b6]? := by
          have hb6 := HB6.out
          rw [hgrow.block b6 (by rw [World.size_alloc]; have := hs5.out; omega) (fun e => by have := hrl b6 e.symm; omega), Lib.alloc_old W5 _ b6 (by have := hs5.out; omega)]
        have T6 : Hid (TkB w6 b6 K t j) := Lib.hid ⟨by rw [hbt]; exact T5.out.row⟩
        obtain ⟨l', hl'⟩ : ∃ l' : List Tp, l' = l ++ [(K, S, j)] := ⟨_, rfl⟩
        have hll : l'.length = l.length + 1 := by rw [hl']; simp
        have hne' : l' ≠ [] := by rw [hl']; simp
        have hown6 : w6.ownsRow (w.heap.size + 4) 68 3 (.slice a1 (l.length + 1) c1) l'.length (toksV l') := by
          rw [hll, hl', toksV_snoc, show tokV (K, S, j) = [.int .i64 K, .string t, .int .i64 j] from by rw [HT.out]; rfl]
          exact hown'
        obtain ⟨W7, hW7, HI7, T7⟩ : ∃ W7, W7 = w6.setCell ⟨w.heap.size, 0, none⟩ (.slice a1 (l.length + 1) c1) ∧ Hid (WsI W7 w (.slice a1 (l.length + 1) c1) l' s (j + m) ⟨K, t, j⟩) ∧ Hid (TkB W7 b6 K t j) :=
          ⟨_, rfl, Lib.hid ((HI5.out.keep (below_new W5 _)).put hgrow hown6), Lib.hid ⟨by rw [heap_setCell_other _ _ _ _ (by show b6 ≠ w.heap.size; omega)]; exact T6.out.row⟩⟩
        have HLL := Lib.hid hll
        have HL' := Lib.hid hl'
        have HNE := Lib.hid hne'
        have HHI := Lib.hid hi
        clear hown6 hll hl' hne' hbt hbx hown' hgrow hi hz0 hz1 hz2 hrl d0 d1 d2 cb zb hs5l
        go_upto_region 9 with (fail)
        rw [← hW7]
        clear hW7 cb6 zb6
        have d0 := T7.out.c0
        have hlt7 := HI7.out.lt
        by_cases hK : K = 0
        · subst hK
          have HN : Hid (wordsN sl 3000 0 false = .ok l') := Lib.hid (by rw [HE.out, HR'.out, ws_end (by rw [← HJ.out]; exact HNN.out), ← HJ.out, HL'.out]; rfl)
          have b0 : W7.cell? ⟨w.heap.size, 0, none⟩ = some (.slice a1 (l.length + 1) c1) := cell_of_row _ _ 0 _ _ _ HI7.out.bx
          have b1 : W7.cell? ⟨w.heap.size + 1, 0, none⟩ = some (.int .i64 0) := cell_of_row _ _ 0 _ _ _ HI7.out.ax
          have b2 : W7.cell? ⟨w.heap.size + 1 + 1, 0, none⟩ = some (.int .i64 0) := cell_of_row _ _ 0 _ _ _ HI7.out.ex
          have y0 : W7.frozen? ⟨w.heap.size, 0, none⟩ = false := frozen_of_row _ _ 0 _ _ HI7.out.bx
          have y1 : W7.frozen? ⟨w.heap.size + 1, 0, none⟩ = false := frozen_of_row _ _ 0 _ _ HI7.out.ax
          have y2 : W7.frozen? ⟨w.heap.size + 1 + 1, 0, none⟩ = false := frozen_of_row _ _ 0 _ _ HI7.out.ex
          go_wp2_with fail
          obtain ⟨Z, hZ⟩ : ∃ Z, Z = ((W7.setCell ⟨w.heap.size, 0, none⟩ (.slice a1 (l.length + 1) c1)).setCell ⟨w.heap.size + 1, 0, none⟩ (.int .i64 0)).setCell ⟨w.heap.size + 1 + 1, 0, none⟩ (.int .i64 0) := ⟨_, rfl⟩
          have HZ := Lib.hid (HI7.out.out Z hZ)
          rw [← hZ]
          clear hZ b0 b1 b2 y0 y1 y2 d0
          refine leaves_cons (f := 107) (args := #[.pointer (some ⟨w.heap.size, 0, none⟩), .pointer (some ⟨w.heap.size + 1, 0, none⟩), .pointer (some ⟨w.heap.size + 1 + 1, 0, none⟩)]) (by simp) (by simp [go_sem]) ?_
          refine (catch_idle ⟨w.heap.size, 0, none⟩ ⟨w.heap.size + 1, 0, none⟩ ⟨w.heap.size + 1 + 1, 0, none⟩ Z).mono ?_
          rintro e u' w'' ⟨rfl, rfl, rfl⟩
          obtain ⟨eR, eA, eE, hB, hkeep, hsz⟩ := HZ.out
          obtain ⟨g, hg, hgl, hn, hT⟩ := HI7.out.toks HNE.out
          refine ⟨.tuple #[.slice a1 (l.length + 1) c1, .int .i64 0, .int .i64 0], ?_, ?_⟩
          · simp [results, Tryz.results74, go_sem, eR, eA, eE]
          · rw [HN.out]
            exact ⟨hB, g, c1, by rw [hg, hn], hT.keep (hkeep g hgl) hsz⟩
        · have hKb : (K == 0) = false := by simpa using hK
          have HN : Hid (wordsN sl 3000 0 false = preW l' (wordsN sl r' (j + m) (operandB ⟨K, t, j⟩))) := Lib.hid (by
            rw [HE.out, HR'.out, ws_on (by rw [← HJ.out]; exact HNN.out) hK, ← HJ.out, preW_pre, HL'.out]
            congr 2
            unfold operandB opN
            rw [ht.out])
          have HKM : Hid (j + m ≤ s.size) := Lib.hid (read_le (op := operandB L) (K := K) (S := S) (by rw [HJ.out, HSl.out]; exact pass_le s k hk) (by rw [← HSl.out]; exact HNN.out))
          go_wp2_with fail
          go_roundg r'
          case measure => have := HR'.out; omega
          case rel => exact ⟨trivial, _, l', j + m, _, Lib.hid (by have := HR.out; have := HR'.out; have := HLL.out; omega), HKM.out, HN, HI7⟩
end Go.Proofs.YtgdlpldngpoadaaGreatDoor
