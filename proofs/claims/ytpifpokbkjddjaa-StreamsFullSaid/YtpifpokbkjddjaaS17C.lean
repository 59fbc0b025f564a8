/- Streams of the program, called: what a call leaves; lives. -/
import Derived.Test.YtpifpokbkjddjaaS17B
namespace Go.Proofs.Ytpifpokbkjddjaa
open Go.RowKit

/-- Streams in a world that came of w0; they own blocks from B on. -/
structure Run (w0 : World) (P : StMem) (B : Nat) (w : World) (b : Nat) (s : Sst) (O : Nat → Prop) : Prop where
  mem : P w b O s
  from_ : ∀ k, O k → B ≤ k
  b0 : w0.heap.size ≤ B
  bw : B ≤ w.heap.size
  below : Below w0.heap.size w0 w
/-- What a call leaves, told of the blocks. -/
structure Went (w0 : World) (P : StMem) (B : Nat) (w : World) (b : Nat) (O : Nat → Prop) (s : Sst) (w' : World) (O' : Nat → Prop) : Prop where
  run : Run w0 P B w' b s O'
  sub : ∀ k, O' k → O k ∨ w.heap.size ≤ k
  but : ButS O w w'
  below : Below B w w'
theorem Run.after {w0 : World} {P : StMem} (H : StreamsOk w0 P) {B : Nat} {w w' : World} {b : Nat} {s : Sst} {O : Nat → Prop} (h : Run w0 P B w b s O) (hb : Below w.heap.size w w') : Run w0 P B w' b s O :=
  ⟨H.keep h.mem hb.size (fun k hk => hb.block k (H.lt h.mem k hk)), h.from_, h.b0, by have := h.bw; have := hb.size; omega, Below.step h.below hb⟩
theorem Run.left {w0 : World} {P : StMem} {B : Nat} {w w' : World} {b : Nat} {s s' : Sst} {O : Nat → Prop} (h : Run w0 P B w b s O) (hl : Leaves P w b O s' w') : ∃ O', Went w0 P B w b O s' w' O' := by
  obtain ⟨O', h1, h2, h3⟩ := hl
  have hb := h3.below h.from_ h.bw
  have h4 := h.bw
  refine ⟨O', ⟨h1, fun k hk => ?_, h.b0, by have := hb.size; omega, h.below.trans (hb.mono h.b0)⟩, h2, h3, hb⟩
  rcases h2 k hk with h5 | h5
  · exact h.from_ k h5
  · omega
theorem run_new {w0 : World} {P : StMem} (H : StreamsOk w0 P) (w : World) (main : ByteArray) (p : Option Addr) (n cap : Nat) (l : List (ByteArray × ByteArray)) (hb : Below w0.heap.size w0 w) (hf : FilesAt w p n cap l) (hn : n ≤ 6) (hm : main.size ≤ 1000) (hs : ∀ f ∈ l, f.2.size ≤ 1000) :
    Calls Try.prog 7 #[.string main, .slice p n cap] w fun e w' => ∃ b O, e = .returned (pt b) ∧ Run w0 P w.heap.size w' b ⟨⟨⟨#[]⟩, main, 0⟩, givenOf l, ⟨#[]⟩, []⟩ O ∧ Below w.heap.size w w' :=
  (H.new w main p n cap l hb hf hn hm hs).mono fun _ _ ⟨b, O, h1, h2, h3, h4⟩ => ⟨b, O, h1, ⟨h2, h3, hb.size, h4.size, Below.step hb h4⟩, h4⟩
theorem run_print {w0 : World} {P : StMem} (H : StreamsOk w0 P) {B : Nat} (w : World) {b : Nat} {s : Sst} {O : Nat → Prop} (h : Run w0 P B w b s O) (t : ByteArray) (ht : t.size ≤ 100000) :
    Calls Try.prog 8 #[pt b, .string t] w fun e w' => e = .returned (.int .i64 (printS s t).2) ∧ ∃ O', Went w0 P B w b O (printS s t).1 w' O' :=
  (H.print w b O s t h.below h.mem (fun k hk => by have := h.from_ k hk; have := h.b0; omega) ht).mono fun _ _ ⟨h1, h2⟩ => ⟨h1, h.left h2⟩
theorem run_write {w0 : World} {P : StMem} (H : StreamsOk w0 P) {B : Nat} (w : World) {b : Nat} {s : Sst} {O : Nat → Prop} (h : Run w0 P B w b s O) (name t : ByteArray) (more : Bool) (ht : t.size ≤ 100000) :
    Calls Try.prog 10 #[pt b, .string name, .string t, .bool more] w fun e w' => e = .returned (.int .i64 (writeS s name t more).2) ∧ ∃ O', Went w0 P B w b O (writeS s name t more).1 w' O' :=
  (H.write w b O s name t more h.below h.mem (fun k hk => by have := h.from_ k hk; have := h.b0; omega) ht).mono fun _ _ ⟨h1, h2⟩ => ⟨h1, h.left h2⟩
theorem run_out {w0 : World} {P : StMem} (H : StreamsOk w0 P) {B : Nat} (w : World) {b : Nat} {s : Sst} {O : Nat → Prop} (h : Run w0 P B w b s O) :
    Calls Try.prog 12 #[pt b] w fun e w' => e = .returned (.string s.out) ∧ ∃ O', Went w0 P B w b O s w' O' :=
  (H.out w b O s h.below h.mem (fun k hk => by have := h.from_ k hk; have := h.b0; omega)).mono fun _ _ ⟨h1, h2⟩ => ⟨h1, h.left h2⟩
/-- Files that a call told, apart from what streams own. -/
structure Told (w : World) (p : Option Addr) (n cap : Nat) (l : List (ByteArray × ByteArray)) (O : Nat → Prop) : Prop where
  at_ : FilesAt w p n cap l
  off : l = [] ∨ ∀ a, p = some a → a.block < w.heap.size ∧ ¬ O a.block
theorem Told.went {w0 : World} {P : StMem} {B : Nat} {w w' : World} {b : Nat} {s : Sst} {O O' : Nat → Prop} {p : Option Addr} {n cap : Nat} {l : List (ByteArray × ByteArray)} (h : Told w p n cap l O) (hw : Went w0 P B w b O s w' O') : Told w' p n cap l O' := by
  rcases h.off with h0 | h0
  · exact ⟨⟨h.at_.len, h.at_.room, h.at_.bound, h.at_.nil, Or.inl h0⟩, Or.inl h0⟩
  · refine ⟨h.at_.keep fun a ha hl => hw.but.block a.block hl (h0 a ha).2, Or.inr fun a ha => ⟨by have := (h0 a ha).1; have := hw.but.size; omega, fun ho => ?_⟩⟩
    rcases hw.sub _ ho with h1 | h1
    · exact (h0 a ha).2 h1
    · have := (h0 a ha).1; omega
theorem Told.after {w w' : World} {O : Nat → Prop} {p : Option Addr} {n cap : Nat} {l : List (ByteArray × ByteArray)} (h : Told w p n cap l O) (hb : Below w.heap.size w w') : Told w' p n cap l O :=
  ⟨h.at_.below hb, h.off.imp id fun h0 a ha => ⟨by have := (h0 a ha).1; have := hb.size; omega, (h0 a ha).2⟩⟩
theorem run_files {w0 : World} {P : StMem} (H : StreamsOk w0 P) {B : Nat} (w : World) {b : Nat} {s : Sst} {O : Nat → Prop} (h : Run w0 P B w b s O) :
    Calls Try.prog 13 #[pt b] w fun e w' => ∃ p n cap O', e = .returned (.slice p n cap) ∧ Told w' p n cap s.made O' ∧ Went w0 P B w b O s w' O' :=
  (H.files w b O s h.below h.mem (fun k hk => by have := h.from_ k hk; have := h.b0; omega)).mono fun e w' ⟨p, n, cap, O', h1, h2, h3, h4, h5, h6⟩ => by
    have hb := h6.below h.from_ h.bw
    have h7 := h.bw
    refine ⟨p, n, cap, O', h1, ⟨h2, ?_⟩, ⟨h4, fun k hk => ?_, h.b0, by have := hb.size; omega, h.below.trans (hb.mono h.b0)⟩, h5, h6, hb⟩
    · rcases h2.cells with h0 | ⟨b2, off, hp, hc⟩
      · exact Or.inl h0
      · by_cases hm : s.made = []
        · exact Or.inl hm
        · refine Or.inr fun a ha => ⟨?_, (h3 a ha).2⟩
          rw [hp] at ha
          obtain ⟨f, l, hfl⟩ := List.exists_cons_of_ne_nil hm
          have h8 := (hc 0 f (by rw [hfl]; rfl)).1
          have h9 : b2 < w'.heap.size := cell_lt h8
          injection ha with ha
          rw [← ha]
          exact h9
    · rcases h5 k hk with h8 | h8
      · exact h.from_ k h8
      · omega
theorem files_nil (w : World) : FilesAt w none 0 0 [] := ⟨rfl, Nat.le_refl _, by omega, fun _ => rfl, Or.inl rfl⟩
theorem files_one (w : World) (f : ByteArray × ByteArray) : FilesAt (w.alloc (.cells #[.string f.1, .string f.2] 42)) (some ⟨w.heap.size, 0, none⟩) 1 1 [f] := by
  refine ⟨rfl, Nat.le_refl _, by omega, fun e => by simp at e, Or.inr ⟨w.heap.size, 0, rfl, fun i g hi => ?_⟩⟩
  match i, hi with
  | 0, hi =>
    simp only [List.getElem?_cons_zero, Option.some.injEq] at hi
    subst hi
    exact ⟨by rw [cell_of_row _ _ 0 _ _ (0, 0) (heap_alloc_last w _)]; rfl, by rw [cell_of_row _ _ 1 _ _ (0, 0) (heap_alloc_last w _)]; rfl⟩
  | i + 1, hi => simp at hi

set_option maxRecDepth 100000 in
set_option maxHeartbeats 1000000 in
theorem lives17 {w0 : World} {P : StMem} (H : StreamsOk w0 P) (w : World) (hb : Below w0.heap.size w0 w) : Calls Try.prog 14 #[] w fun e w' => e = .returned (.bool true) ∧ Below w.heap.size w w' := by
  have HH := Lib.hid H
  have HN := Lib.hid (run_new H w ⟨#[]⟩ none 0 0 [] hb (files_nil w) (by omega) (by decide) (by simp))
  clear H hb
  go_enter Try.func14, Try.ntmps14
  go_wp2_with fail
  refine HN.out.mono ?_
  rintro e w1 ⟨b, O1, rfl, h1, bb⟩
  have R1 := Lib.hid h1
  have B1 := Lib.hid bb
  have HW := Lib.hid (run_write HH.out w1 h1 ⟨#[102]⟩ ⟨#[97]⟩ false (by decide))
  clear h1 bb HN
  unfold pt at HW ⊢
  go_wp2_with fail
  refine HW.out.mono ?_
  rintro e w2 ⟨rfl, O2, h2⟩
  have R2 := Lib.hid h2.run
  have B2 := Lib.hid (B1.out.trans h2.below)
  have HW2 := Lib.hid (run_write HH.out w2 h2.run ⟨#[102]⟩ ⟨#[98]⟩ false (by decide))
  rw [show (writeS ⟨⟨⟨#[]⟩, ⟨#[]⟩, 0⟩, givenOf [], ⟨#[]⟩, []⟩ ⟨#[102]⟩ ⟨#[97]⟩ false).2 = 0 from by decide +kernel]
  rw [show (writeS ⟨⟨⟨#[]⟩, ⟨#[]⟩, 0⟩, givenOf [], ⟨#[]⟩, []⟩ ⟨#[102]⟩ ⟨#[97]⟩ false).1 = ⟨⟨⟨#[]⟩, ⟨#[]⟩, 0⟩, [], ⟨#[]⟩, [(⟨#[102]⟩, ⟨#[97]⟩)]⟩ from by kernel_rfl] at HW2
  clear h2 HW R1 B1 R2
  unfold pt at HW2
  go_wp2_with fail
  refine HW2.out.mono ?_
  rintro e w3 ⟨rfl, O3, h3⟩
  have B3 := Lib.hid (B2.out.trans h3.below)
  rw [show (writeS ⟨⟨⟨#[]⟩, ⟨#[]⟩, 0⟩, [], ⟨#[]⟩, [(⟨#[102]⟩, ⟨#[97]⟩)]⟩ ⟨#[102]⟩ ⟨#[98]⟩ false).2 = 0 from by decide +kernel]
  have hr := h3.run
  rw [show (writeS ⟨⟨⟨#[]⟩, ⟨#[]⟩, 0⟩, [], ⟨#[]⟩, [(⟨#[102]⟩, ⟨#[97]⟩)]⟩ ⟨#[102]⟩ ⟨#[98]⟩ false).1 = ⟨⟨⟨#[]⟩, ⟨#[]⟩, 0⟩, [], ⟨#[]⟩, [(⟨#[102]⟩, ⟨#[97, 98]⟩)]⟩ from by kernel_rfl] at hr
  have HF := Lib.hid (run_files HH.out w3 hr)
  clear h3 HW2 B2 hr
  unfold pt at HF
  go_wp2_with fail
  refine HF.out.mono ?_
  rintro e w4 ⟨p, n, cap, O4, rfl, h4, h5⟩
  have B4 := Lib.hid (B3.out.trans h5.below)
  have T4 := Lib.hid (h4.at_)
  clear h4 h5 HF B3
  have HS := Lib.hid (fun q m c l hl => fsame_any (w4.alloc (.cells #[.string ⟨#[102]⟩, .string ⟨#[97, 98]⟩] 42)) p q n cap m c [(⟨#[102]⟩, ⟨#[97, 98]⟩)] l (T4.out.below (below_new _ _)) hl)
  have B5 := Lib.hid (B4.out.alloc (by have := B4.out.size; omega) (.cells #[.string ⟨#[102]⟩, .string ⟨#[97, 98]⟩] 42))
  have HT := Lib.hid (HS.out _ _ _ _ (files_one w4 (⟨#[102]⟩, ⟨#[97, 98]⟩)))
  clear HS
  go_wp2_with fail
  refine HT.out.mono ?_
  rintro e w6 ⟨rfl, bb⟩
  have B6 := Lib.hid (B5.out.trans (bb.mono (by have := B5.out.size; omega)))
  clear bb
  go_wp2_with fail
  go_ret
  exact ⟨by first | rfl | simp, B6.out⟩
end Go.Proofs.Ytpifpokbkjddjaa
