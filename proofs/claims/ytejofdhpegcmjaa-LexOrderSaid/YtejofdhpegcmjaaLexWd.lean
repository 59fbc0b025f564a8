/- word: a walk. -/
import Derived.Test.YtejofdhpegcmjaaLexRe
namespace Go.Proofs.Ytejofdhpegcmjaa
open Go.RowKit

/-- A token in a block of its own. -/
structure TkB (w : World) (b : Nat) (K : Int) (S : ByteArray) (A : Int) : Prop where
  row : w.heap[b]? = some (.cells #[.int .i64 K, .string S, .int .i64 A] 30 (0, 0))
theorem TkB.lt {w : World} {b : Nat} {K : Int} {S : ByteArray} {A : Int} (h : TkB w b K S A) : b < w.heap.size := (Array.getElem?_eq_some_iff.1 h.row).1
theorem TkB.c0 {w : World} {b : Nat} {K : Int} {S : ByteArray} {A : Int} (h : TkB w b K S A) : w.cell? ⟨b, 0, none⟩ = some (.int .i64 K) := cell_of_row _ _ 0 _ _ _ h.row
theorem TkB.c1 {w : World} {b : Nat} {K : Int} {S : ByteArray} {A : Int} (h : TkB w b K S A) : w.cell? ⟨b, 1, none⟩ = some (.string S) := cell_of_row _ _ 1 _ _ _ h.row
theorem TkB.c2 {w : World} {b : Nat} {K : Int} {S : ByteArray} {A : Int} (h : TkB w b K S A) : w.cell? ⟨b, 2, none⟩ = some (.int .i64 A) := cell_of_row _ _ 2 _ _ _ h.row
theorem TkB.z {w : World} {b : Nat} {K : Int} {S : ByteArray} {A : Int} (h : TkB w b K S A) (j : Nat) : w.frozen? ⟨b, j, none⟩ = false := frozen_of_row _ _ j _ _ h.row
theorem TkB.but {p : Nat} {w w' : World} {b : Nat} {K : Int} {S : ByteArray} {A : Int} (h : TkB w b K S A) (hb : But p w w') (hp : b ≠ p) : TkB w' b K S A := ⟨by rw [hb.block b h.lt hp]; exact h.row⟩
theorem TkB.after {w w' : World} {b : Nat} {K : Int} {S : ByteArray} {A : Int} (h : TkB w b K S A) (hb : Below w.heap.size w w') : TkB w' b K S A := ⟨by rw [hb.block b h.lt]; exact h.row⟩
theorem TkB.new (w : World) (K : Int) (S : ByteArray) (A : Int) : TkB (w.alloc (.cells #[.int .i64 K, .string S, .int .i64 A] 30)) w.heap.size K S A := ⟨heap_alloc_last w _⟩
theorem TkB.put {w : World} {b : Nat} {K : Int} {S : ByteArray} {A : Int} (h : TkB w b K S A) (K' : Int) (S' : ByteArray) : TkB ((w.setCell ⟨b, 0, none⟩ (.int .i64 K')).setCell ⟨b, 1, none⟩ (.string S')) b K' S' A := by
  have h1 : (w.setCell ⟨b, 0, none⟩ (.int .i64 K')).heap[b]? = some (.cells #[.int .i64 K', .string S, .int .i64 A] 30 (0, 0)) := by rw [heap_setCell_same _ _ 0 _ _ _ h.row]; rfl
  exact ⟨by rw [heap_setCell_same _ _ 1 _ _ _ h1]; rfl⟩
theorem TkB.put3 {w : World} {b : Nat} {K : Int} {S : ByteArray} {A : Int} (h : TkB w b K S A) (K' : Int) (S' : ByteArray) (A' : Int) : TkB (((w.setCell ⟨b, 0, none⟩ (.int .i64 K')).setCell ⟨b, 1, none⟩ (.string S')).setCell ⟨b, 2, none⟩ (.int .i64 A')) b K' S' A' :=
  ⟨by rw [heap_setCell_same _ _ 2 _ _ _ (h.put K' S').row]; rfl⟩
theorem Rd.put3 {w : World} {p : Nat} {s : ByteArray} {k : Nat} {L : Tok} (h : Rd w p s k L) (K' : Int) (S' : ByteArray) (A' : Int) : Rd (((w.setCell ⟨p, 2, none⟩ (.int .i64 K')).setCell ⟨p, 3, none⟩ (.string S')).setCell ⟨p, 4, none⟩ (.int .i64 A')) p s k ⟨K', S', A'⟩ := by
  have h1 : (w.setCell ⟨p, 2, none⟩ (.int .i64 K')).heap[p]? = some (.cells #[.string s, .int .i64 k, .int .i64 K', .string L.S, .int .i64 L.A] 49 (0, 0)) := by rw [heap_setCell_same _ _ 2 _ _ _ h.row]; rfl
  have h2 : ((w.setCell ⟨p, 2, none⟩ (.int .i64 K')).setCell ⟨p, 3, none⟩ (.string S')).heap[p]? = some (.cells #[.string s, .int .i64 k, .int .i64 K', .string S', .int .i64 L.A] 49 (0, 0)) := by rw [heap_setCell_same _ _ 3 _ _ _ h1]; rfl
  exact ⟨by rw [heap_setCell_same _ _ 4 _ _ _ h2]; rfl⟩

/-- What reading a token comes to. -/
def WordAt (p : Nat) (s : ByteArray) (j : Nat) (o : Rd1) (w : World) (e : Ending) (w' : World) : Prop := match o with
  | .bad x => Fell p j x w e w'
  | .got K S n => ∃ t : ByteArray, e = .returned (.agg #[.int .i64 K, .string t, .int .i64 j]) ∧ Hid (t.data.toList = S) ∧ Rd w' p s (j + n) ⟨K, t, j⟩ ∧ But p w w'

set_option maxRecDepth 100000 in
set_option maxHeartbeats 1000000 in
theorem word_read (p : Nat) (s : ByteArray) (k : Nat) (L : Tok) (w : World) (h : Rd w p s k L) (hk : k ≤ s.size) (hs : s.size ≤ 8000) :
    Calls Try.prog 26 #[.pointer (some ⟨p, 0, none⟩)] w (WordAt p s (k + passA (s.data.toList.drop k)) (readN (s.data.toList.drop (k + passA (s.data.toList.drop k))) (operandB L)) w) := by
  have HPs := Lib.hid (fun w h => pass_spec p s k L w h hk hs)
  obtain ⟨j, hj⟩ : ∃ j, j = k + passA (s.data.toList.drop k) := ⟨_, rfl⟩
  have HJ : Hid (∀ w e w', PassAt p s k L w e w' → e = .returned (.tuple #[]) ∧ Rd w' p s j L ∧ But p w w' ∧ j ≤ s.size) := Lib.hid (fun w e w' h => by rw [hj]; exact h)
  rw [← hj]
  clear hj
  have HRe := Lib.hid (fun w h hj => read_spec p s j L w h hj hs)
  have R := Lib.hid h
  have hpl := h.lt
  clear h
  go_enter Try.func26, Try.ntmps26
  go_wp2_with fail
  obtain ⟨W, hW, RW, TW, BW, hWs⟩ : ∃ W, W = w.alloc (.cells #[.int .i64 0, .string ⟨#[]⟩, .int .i64 0] 30) ∧ Hid (Rd W p s k L) ∧ Hid (TkB W w.heap.size 0 ⟨#[]⟩ 0) ∧ Hid (Below w.heap.size w W) ∧ Hid (W.heap.size = w.heap.size + 1) :=
    ⟨_, rfl, Lib.hid (R.out.after (below_new w _)), Lib.hid (TkB.new w _ _ _), Lib.hid (below_new w _), Lib.hid (World.size_alloc _ _)⟩
  change Calls _ _ _ (w.alloc (Obj.cells #[.int .i64 0, .string ⟨#[]⟩, .int .i64 0] 30)) _
  rw [← hW]
  clear hW
  refine (HPs.out _ RW.out).mono ?_
  intro e w2 ho
  obtain ⟨rfl, R2, b2, hj⟩ := HJ.out _ _ _ ho
  have HR2 := Lib.hid R2
  have HB2 := Lib.hid ((But.of (p := p) BW.out).trans b2)
  have HT2 := Lib.hid (TW.out.but b2 (by omega))
  have hb2l : w.heap.size < w2.heap.size := HT2.out.lt
  clear ho R2 b2
  have c1 := HR2.out.c1
  go_upto_region 3 with (fail)
  obtain ⟨W3, hW3, RW3, T3, T2, B3, hs3⟩ : ∃ W3, W3 = w2.alloc (.cells #[.int .i64 0, .string ⟨#[]⟩, .int .i64 j] 30) ∧ Hid (Rd W3 p s j L) ∧ Hid (TkB W3 w2.heap.size 0 ⟨#[]⟩ j) ∧ Hid (TkB W3 w.heap.size 0 ⟨#[]⟩ 0) ∧ Hid (But p w W3) ∧ Hid (W3.heap.size = w2.heap.size + 1) :=
    ⟨_, rfl, Lib.hid (HR2.out.after (below_new w2 _)), Lib.hid (TkB.new w2 _ _ _), Lib.hid (HT2.out.after (below_new w2 _)), Lib.hid (HB2.out.then (below_new w2 _)), Lib.hid (World.size_alloc _ _)⟩
  change Code.wp _ _ _ _ (w2.alloc (Obj.cells #[.int .i64 0, .string ⟨#[]⟩, .int .i64 j] 30))
  rw [← hW3]
  clear hW3 c1
  obtain ⟨b3, hb3⟩ : ∃ b3, b3 = w2.heap.size := ⟨_, rfl⟩
  obtain ⟨b2, hb2⟩ : ∃ b2, b2 = w.heap.size := ⟨_, rfl⟩
  rw [← hb3] at T3 hb2l ⊢
  rw [← hb2] at T2 hb2l ⊢
  have HB3 := Lib.hid hb3
  have HBB := Lib.hid hb2
  have hpl2 : p < b2 := by omega
  clear hb3 hb2 hpl
  go_wp2_with fail
  refine (HRe.out _ RW3.out hj).mono ?_
  intro e w4 ho
  cases hn : readN (s.data.toList.drop j) (operandB L) with
  | bad x =>
    rw [hn] at ho
    obtain ⟨rfl, b4⟩ := ho
    have HB4 := Lib.hid (B3.out.trans b4)
    have HNN := Lib.hid hn
    clear hn b4
    go_wp2_with fail
    exact ⟨rfl, rfl, HB4.out⟩
  | got K S n =>
    rw [hn] at ho
    obtain ⟨t, rfl, ht, R4, b4⟩ := ho
    have HB4 := Lib.hid (B3.out.trans b4)
    have HR4 := Lib.hid R4
    have T34 := Lib.hid (T3.out.but b4 (by omega))
    have T24 := Lib.hid (T2.out.but b4 (by omega))
    have HNN := Lib.hid hn
    clear hn b4 R4
    have c0 := T34.out.c0
    have c1 := T34.out.c1
    have z0 := T34.out.z 0
    have z1 := T34.out.z 1
    go_upto_region 4 with (fail)
    obtain ⟨W5, hW5, R5, T35, T25, B5⟩ : ∃ W5, W5 = (w4.setCell ⟨b3, 0, none⟩ (.int .i64 K)).setCell ⟨b3, 1, none⟩ (.string t) ∧ Hid (Rd W5 p s (j + n) L) ∧ Hid (TkB W5 b3 K t j) ∧ Hid (TkB W5 b2 0 ⟨#[]⟩ 0) ∧ Hid (But p w W5) :=
      ⟨_, rfl, Lib.hid (HR4.out.keep (by rw [heap_setCell_other _ _ _ _ (by show p ≠ b3; omega), heap_setCell_other _ _ _ _ (by show p ≠ b3; omega)])), Lib.hid (T34.out.put K t), Lib.hid ((T24.out.but (but_put w4 b3 0 _) (by omega)).but (but_put _ b3 1 _) (by omega)),
        Lib.hid ⟨HB4.out.os, HB4.out.tape, HB4.out.output, by rw [World.size_setCell, World.size_setCell]; exact HB4.out.size, fun k hk hp => by
          have h1 := HBB.out
          rw [heap_setCell_other _ _ _ _ (by show k ≠ b3; omega), heap_setCell_other _ _ _ _ (by show k ≠ b3; omega)]
          exact HB4.out.block k hk hp⟩⟩
    rw [← hW5]
    clear hW5 c0 c1 z0 z1
    have c0 := T35.out.c0
    have c1 := T35.out.c1
    have c2 := T35.out.c2
    have d2 := R5.out.c2
    have d3 := R5.out.c3
    have d4 := R5.out.c4
    have y2 := R5.out.z 2
    have y3 := R5.out.z 3
    have y4 := R5.out.z 4
    go_upto_region 5 with (fail)
    obtain ⟨W6, hW6, R6, T36, T26, B6⟩ : ∃ W6, W6 = ((W5.setCell ⟨p, 2, none⟩ (.int .i64 K)).setCell ⟨p, 3, none⟩ (.string t)).setCell ⟨p, 4, none⟩ (.int .i64 j) ∧ Hid (Rd W6 p s (j + n) ⟨K, t, j⟩) ∧ Hid (TkB W6 b3 K t j) ∧ Hid (TkB W6 b2 0 ⟨#[]⟩ 0) ∧ Hid (But p w W6) :=
      ⟨_, rfl, Lib.hid (R5.out.put3 K t j), Lib.hid (((T35.out.but (but_put W5 p 2 _) (by omega)).but (but_put _ p 3 _) (by omega)).but (but_put _ p 4 _) (by omega)), Lib.hid (((T25.out.but (but_put W5 p 2 _) (by omega)).but (but_put _ p 3 _) (by omega)).but (but_put _ p 4 _) (by omega)),
        Lib.hid (((B5.out.put 2 _).put 3 _).put 4 _)⟩
    rw [← hW6]
    clear hW6 c0 c1 c2 d2 d3 d4 y2 y3 y4
    have c0 := T36.out.c0
    have c1 := T36.out.c1
    have c2 := T36.out.c2
    have d0 := T26.out.c0
    have d1 := T26.out.c1
    have d2 := T26.out.c2
    have y0 := T26.out.z 0
    have y1 := T26.out.z 1
    have y2 := T26.out.z 2
    go_wp2_with fail
    obtain ⟨W7, hW7, R7, T27, B7⟩ : ∃ W7, W7 = ((W6.setCell ⟨b2, 0, none⟩ (.int .i64 K)).setCell ⟨b2, 1, none⟩ (.string t)).setCell ⟨b2, 2, none⟩ (.int .i64 j) ∧ Hid (Rd W7 p s (j + n) ⟨K, t, j⟩) ∧ Hid (TkB W7 b2 K t j) ∧ Hid (But p w W7) :=
      ⟨_, rfl, Lib.hid (R6.out.keep (by rw [heap_setCell_other _ _ _ _ (by show p ≠ b2; omega), heap_setCell_other _ _ _ _ (by show p ≠ b2; omega), heap_setCell_other _ _ _ _ (by show p ≠ b2; omega)])), Lib.hid (T26.out.put3 K t j),
        Lib.hid ⟨B6.out.os, B6.out.tape, B6.out.output, by rw [World.size_setCell, World.size_setCell, World.size_setCell]; exact B6.out.size, fun k hk hp => by
          have h1 := HBB.out
          rw [heap_setCell_other _ _ _ _ (by show k ≠ b2; omega), heap_setCell_other _ _ _ _ (by show k ≠ b2; omega), heap_setCell_other _ _ _ _ (by show k ≠ b2; omega)]
          exact B6.out.block k hk hp⟩⟩
    rw [← hW7, HNN.out]
    clear hW7 c0 c1 c2 d0 d1 d2 y0 y1 y2
    have d0 := T27.out.c0
    have d1 := T27.out.c1
    have d2 := T27.out.c2
    refine bodyPost_ret (v := .agg #[.int .i64 K, .string t, .int .i64 j]) (by simp [results, Try.results26, go_sem, d0, d1, d2]) rfl ?_
    exact ⟨t, rfl, ht, R7.out, B7.out⟩
end Go.Proofs.Ytejofdhpegcmjaa
