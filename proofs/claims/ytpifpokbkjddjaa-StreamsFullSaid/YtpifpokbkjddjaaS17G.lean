/- The law StreamsApart over the program's contracts: the walk (gen_s17g.py). -/
import Derived.Test.YtpifpokbkjddjaaS17E
import Derived.Test.YtpifpokbkjddjaaS17F
namespace Go.Proofs.Ytpifpokbkjddjaa
open Go.RowKit

theorem run_read {w0 : World} {P : StMem} (H : StreamsOk w0 P) {B : Nat} (w : World) {b : Nat} {s : Sst} {O : Nat → Prop} (h : Run w0 P B w b s O) (name : ByteArray) (c : UInt8) (hc : c ≠ 92) :
    Calls Try.prog 11 #[pt b, .string name, .string ⟨#[c]⟩] w fun e w' => e = .returned (.tuple #[.string (readG c name s.given).2.1, .int .i64 (readG c name s.given).2.2, .int .i64 0]) ∧ ∃ O', Went w0 P B w b O (readS c name s) w' O' :=
  (H.read w b O s name c hc h.below h.mem (fun k hk => by have := h.from_ k hk; have := h.b0; omega)).mono fun _ _ ⟨h1, h2⟩ => ⟨h1, h.left h2⟩
/-- Streams that lie apart are left as they are. -/
theorem Run.aside {w0 : World} {P : StMem} (H : StreamsOk w0 P) {Ba Bb a b : Nat} {w w' : World} {s s' : Sst} {Oa Oa' Ob : Nat → Prop} (ha : Went w0 P Ba w a Oa s' w' Oa') (hb : Run w0 P Bb w b s Ob) (hd : ∀ k, Oa k → ¬ Ob k) :
    Run w0 P Bb w' b s Ob ∧ ∀ k, Oa' k → ¬ Ob k := by
  refine ⟨⟨H.keep hb.mem ha.but.size (fun k hk => ha.but.block k (H.lt hb.mem k hk) (fun ho => hd k ho hk)), hb.from_, hb.b0, by have := hb.bw; have := ha.but.size; omega, ha.run.below⟩, fun k hk ho => ?_⟩
  rcases ha.sub k hk with h1 | h1
  · exact hd k h1 ho
  · have := H.lt hb.mem k ho; omega
theorem print_given (s : Sst) (t : ByteArray) : (printS s t).1.given = s.given := by
  unfold printS
  split <;> rfl
theorem write_given (s : Sst) (name t : ByteArray) (more : Bool) : (writeS s name t more).1.given = s.given := by
  unfold writeS
  repeat' split
  all_goals rfl
theorem flip {O Q : Nat → Prop} (h : ∀ k, O k → ¬ Q k) : ∀ k, Q k → ¬ O k := fun k hq ho => h k ho hq
/-- Two streams apart, of which one was written to. -/
def Two17 (w0 : World) (P : StMem) (Ba Bb : Nat) (w : World) (a b : Nat) (G : List Inp) (S : Sst) : Prop :=
  ∃ sA Oa Ob, Run w0 P Ba w a sA Oa ∧ sA.given = G ∧ Run w0 P Bb w b S Ob ∧ ∀ k, Oa k → ¬ Ob k

set_option maxRecDepth 100000 in
set_option maxHeartbeats 4000000 in
theorem apart_walk (w : World) (P : StMem) (H : StreamsOk w P) (pf : Option Addr) (nf cf : Nat) (lf : List (ByteArray × ByteArray)) (p : Option Addr) (n cap : Nat) (l : List Ac) (name : ByteArray) (hf : FilesAt w pf nf cf lf) (hl : ActsAt w p n cap l) :
    Calls Try.prog 3 #[.slice pf nf cf, .slice p n cap, .string name] w fun e w' => e = .returned (.bool true) ∧ Below w.heap.size w w' := by
  have HH := Lib.hid H
  have HL := Lib.hid hl
  have HLV := Lib.hid (fun V hV => lives17 H V hV)
  have HSH := Lib.hid (short_any lf pf nf cf w hf)
  have HN : Hid (n = l.length) := Lib.hid hl.len
  have hn : n ≤ 9223372036854775807 := Nat.le_trans hl.room hl.bound
  have hroom := hl.room
  obtain ⟨k6, hk6⟩ : ∃ k6, k6 = (shortL lf).length := ⟨_, rfl⟩
  have hk6le : k6 ≤ 6 := by rw [hk6]; exact short_len lf
  have HK6 := Lib.hid hk6
  obtain ⟨G0, hG0⟩ : ∃ G0, G0 = givenOf (shortL lf) := ⟨_, rfl⟩
  have HG0 := Lib.hid hG0
  clear H hl hf hk6 hG0
  go_enter Try.func3, Try.ntmps3
  go_wp2_with fail
  refine HSH.out.mono ?_
  rintro e w1 ⟨q, c, rfl, ho, b1⟩
  have O1 := Lib.hid ho.out
  have B1 := Lib.hid b1
  rw [← HK6.out] at O1 ⊢
  clear ho b1 HSH
  have hf1 := own_read O1.out HK6.out
  have hk6m : k6 ≤ 1000000 := by omega
  go_wp2_with (at_builtin; (refine wp_copy_files rfl _ _ rfl w1 q k6 c (shortL lf) rfl rfl hf1 hk6m ?_; intro p2 c2 w2 h2))
  have F2 := Lib.hid h2.out.1
  have B2 := Lib.hid (B1.out.trans (h2.out.2.2.1.mono B1.out.size))
  have O2 := Lib.hid (own_below O1.out h2.out.2.2.1)
  clear h2 hf1
  go_wp2_with fail
  refine (run_new HH.out w2 ⟨#[120]⟩ p2 k6 c2 (shortL lf) B2.out F2.out hk6le (by decide) (short_size lf)).mono ?_
  rintro e w3 ⟨a, Oa3, rfl, h3, bb⟩
  have RA3 := Lib.hid h3
  have B3 := Lib.hid (B2.out.trans (bb.mono B2.out.size))
  have O3 := Lib.hid (own_below O2.out bb)
  clear h3 bb O2 B2 F2 O1
  unfold pt
  have hf3 := own_read O3.out HK6.out
  go_wp2_with (at_builtin; (refine wp_copy_files rfl _ _ rfl w3 q k6 c (shortL lf) rfl rfl hf3 hk6m ?_; intro p4 c4 w4 h4))
  have F4 := Lib.hid h4.out.1
  have bb4 := h4.out.2.2.1
  have B4 := Lib.hid (B3.out.trans (bb4.mono B3.out.size))
  have RA4 := Lib.hid (Run.after HH.out RA3.out bb4)
  clear h4 hf3 bb4 O3
  go_wp2_with fail
  refine (run_new HH.out w4 ⟨#[120]⟩ p4 k6 c4 (shortL lf) B4.out F4.out hk6le (by decide) (short_size lf)).mono ?_
  rintro e w5 ⟨b, Ob5, rfl, h5, bb⟩
  have RA5 := Lib.hid (Run.after HH.out RA4.out bb)
  have B5 := Lib.hid (B4.out.trans (bb.mono B4.out.size))
  have D5 : Hid (∀ k, Oa3 k → ¬ Ob5 k) := Lib.hid (fun k h1 h2 => by have := HH.out.lt RA4.out.mem k h1; have := h5.from_ k h2; omega)
  obtain ⟨Ba, hBa⟩ : ∃ Ba, Ba = w2.heap.size := ⟨_, rfl⟩
  obtain ⟨Bb, hBb⟩ : ∃ Bb, Bb = w4.heap.size := ⟨_, rfl⟩
  rw [← hBa] at RA5
  rw [← hBb] at h5
  have hBaw : w.heap.size ≤ Ba := RA5.out.b0
  have hBbw : w.heap.size ≤ Bb := h5.b0
  have T5 : Hid (Two17 w P Ba Bb w5 a b G0 ⟨⟨⟨#[]⟩, ⟨#[120]⟩, 0⟩, G0, ⟨#[]⟩, []⟩) := Lib.hid ⟨_, Oa3, Ob5, RA5.out, HG0.out.symm, by rw [HG0.out]; exact h5, D5.out⟩
  clear h5 bb RA3 RA4 RA5 F4 B3 B4 hBa hBb B1 D5
  unfold pt
  go_wp2_with fail
  go_loopw [9] (fun y wr => ∃ i : Nat, y = .int .i64 i ∧ i ≤ 20 ∧ i ≤ n ∧ Hid (Two17 w P Ba Bb wr a b G0 ⟨⟨⟨#[]⟩, ⟨#[120]⟩, 0⟩, G0, ⟨#[]⟩, []⟩) ∧ Hid (Below w.heap.size w wr)) (fun y _ => n - (intOf y).toNat)
  case atStart => exact ⟨0, rfl, by omega, by omega, T5, B5⟩
  case round =>
    obtain ⟨i, rfl, hi20, hi, HT, hb⟩ := hrel
    by_cases hlt : i < n ∧ i < 20
    · obtain ⟨hlt, hlt20⟩ := hlt
      have hil : i < l.length := by rw [← HN.out]; exact hlt
      have hx := List.getElem?_eq_getElem hil
      have hao := HL.out.ok l[i] (List.getElem_mem hil)
      obtain ⟨x, hxe⟩ : ∃ x, x = l[i] := ⟨_, rfl⟩
      rw [← hxe] at hx hao
      obtain ⟨bl, off, rfl, hc⟩ : ∃ b off, p = some ⟨b, off, none⟩ ∧ ∀ i a, l[i]? = some a → w.cell? ⟨b, off + i * 5, none⟩ = some (.int .i64 a.k) ∧ w.cell? ⟨b, off + i * 5 + 1, none⟩ = some (.string a.name) ∧ w.cell? ⟨b, off + i * 5 + 2, none⟩ = some (.string a.s) ∧ w.cell? ⟨b, off + i * 5 + 3, none⟩ = some (.bool a.more) ∧ w.cell? ⟨b, off + i * 5 + 4, none⟩ = some (.int .u8 a.many) := by
        rcases HL.out.cells with h0 | h0
        · rw [h0] at hil; simp at hil
        · exact h0
      have hca := hc i x hx
      obtain ⟨k, nm, s, more, many⟩ := x
      dsimp only at hca
      have CC := Lib.hid (fun V (hV : Below w.heap.size w V) => (show V.cell? ⟨bl, off + i * 5, none⟩ = some (.int .i64 k) ∧ V.cell? ⟨bl, off + i * 5 + 1, none⟩ = some (.string nm) ∧ V.cell? ⟨bl, off + i * 5 + 2, none⟩ = some (.string s) ∧ V.cell? ⟨bl, off + i * 5 + 3, none⟩ = some (.bool more) ∧ V.cell? ⟨bl, off + i * 5 + 4, none⟩ = some (.int .u8 many) from by
        have key : ∀ (o : Nat) (v : Value), w.cell? ⟨bl, o, none⟩ = some v → V.cell? ⟨bl, o, none⟩ = some v := fun o v hv => by
          rw [hV.cell (p := ⟨bl, o, none⟩) (cell_lt hv)]; exact hv
        exact ⟨key _ _ hca.1, key _ _ hca.2.1, key _ _ hca.2.2.1, key _ _ hca.2.2.2.1, key _ _ hca.2.2.2.2⟩))
      have HAO := Lib.hid hao
      clear hc hca hx hxe hil hao
      have d1 : decide ((i : Int) < n) = true := decide_eq_true (by omega)
      have d2 : decide ((i : Int) < 20) = true := decide_eq_true (by omega)
      obtain ⟨c0, c1, c2, c3, c4⟩ := CC.out _ hb.out
      by_cases hbig : 300 < s.size
      · have d3 : decide ((300 : Int) < (s.size : Int)) = true := decide_eq_true (by omega)
        clear hbig
        go_wp2_with fail
        go_roundw
        case rel => exact ⟨i + 1, by go_num, by omega, by omega, HT, hb⟩
        case measure => simp [intOf]; omega
      have d3 : decide ((300 : Int) < (s.size : Int)) = false := decide_eq_false (by omega)
      have HTX := Lib.hid (fun V => atext_any ⟨k, nm, s, more, many⟩ HAO.out (show s.size ≤ 300 by omega) V)
      have HTS : Hid ((Ac.txt ⟨k, nm, s, more, many⟩).size ≤ 80000) := Lib.hid (dbl_size _ _ (by show s.size ≤ 80000; omega))
      obtain ⟨t, ht⟩ : ∃ t, t = Ac.txt ⟨k, nm, s, more, many⟩ := ⟨_, rfl⟩
      rw [← ht] at HTX HTS
      clear hbig ht
      unfold acC at HTX
      dsimp only at HTX
      by_cases hk : k.tmod 2 = 0
      · have m1 : k.tmod 2 = 0 := hk
        clear hk
        go_wp2_with fail
        refine (HTX.out _).mono ?_
        rintro e w6 ⟨rfl, bb⟩
        have B6 := Lib.hid (hb.out.trans (bb.mono hb.out.size))
        obtain ⟨sA, Oa, Ob, hra, hg, hrb, hd⟩ := HT.out
        have RA := Lib.hid (Run.after HH.out hra bb)
        have RB := Lib.hid (Run.after HH.out hrb bb)
        have HD := Lib.hid hd
        have HG := Lib.hid hg
        have HPR := Lib.hid (run_print HH.out w6 RA.out t (by have := HTS.out; omega))
        clear bb hra hg hrb hd c0 c1 c2 c3 c4 HT HTX m1
        unfold pt at HPR
        go_wp2_with fail
        refine HPR.out.mono ?_
        rintro e w7 ⟨rfl, Oa7, g⟩
        have B7 := Lib.hid (B6.out.trans (g.below.mono hBaw))
        have HT7 : Hid (Two17 w P Ba Bb w7 a b G0 ⟨⟨⟨#[]⟩, ⟨#[120]⟩, 0⟩, G0, ⟨#[]⟩, []⟩) := Lib.hid ⟨_, Oa7, Ob, g.run, by rw [print_given]; exact HG.out, (Run.aside HH.out g RB.out HD.out).1, (Run.aside HH.out g RB.out HD.out).2⟩
        clear g HPR
        go_wp2_with fail
        go_roundw
        case rel => exact ⟨i + 1, by go_num, by omega, by omega, HT7, B7⟩
        case measure => simp [intOf]; omega
      · have m1 : (k.tmod 2 == 0) = false := beq_eq_false_iff_ne.2 hk
        clear hk c0 c1 c2 c3 c4
        obtain ⟨c0, _, c2, _, _⟩ := CC.out _ hb.out
        go_upto_region 11 with (fail)
        clear c0 c2
        refine wp_region_held_drew (S := fun W' => Hid (Below w.heap.size w W')) (by kernel_rfl) ?_ (fun hS => ?_)
        · exact Lib.hid hb.out.drew
        obtain ⟨sA, Oa, Ob, hra, hg, hrb, hd⟩ := HT.out
        have RAd := Lib.hid (Run.after HH.out hra (below_drew _))
        have RBd := Lib.hid (Run.after HH.out hrb (below_drew _))
        have HD := Lib.hid hd
        have HG := Lib.hid hg
        clear hra hg hrb hd HT
        refine takeW (i := 0) (d := 64) (v := (.pointer (some ⟨a, 0, none⟩))) rfl rfl (by kernel_rfl) (by kernel_rfl) (by kernel_rfl) (fun _ _ _ h => h) (by rfl) (fun w' hSw => by obtain ⟨x0, x1, x2, x3, x4⟩ := CC.out _ hSw.out; go_simp) hS ?_
        simp only [List.setIfInBounds_toArray, List.set_cons_zero, List.set_cons_succ]
        refine takeW (i := 1) (d := 65) (v := (.slice (some ⟨bl, off, none⟩) n cap)) rfl rfl (by kernel_rfl) (by kernel_rfl) (by kernel_rfl) (fun _ _ _ h => h) (by rfl) (fun w' hSw => by obtain ⟨x0, x1, x2, x3, x4⟩ := CC.out _ hSw.out; go_simp) hS ?_
        simp only [List.setIfInBounds_toArray, List.set_cons_zero, List.set_cons_succ]
        refine takeW (i := 2) (d := 66) (v := (.int .i64 i)) rfl rfl (by kernel_rfl) (by kernel_rfl) (by kernel_rfl) (fun _ _ _ h => h) (by rfl) (fun w' hSw => by obtain ⟨x0, x1, x2, x3, x4⟩ := CC.out _ hSw.out; go_simp) hS ?_
        simp only [List.setIfInBounds_toArray, List.set_cons_zero, List.set_cons_succ]
        refine takeW (i := 6) (d := 70) (v := (.slice (some ⟨bl, off, none⟩) n cap)) rfl rfl (by kernel_rfl) (by kernel_rfl) (by kernel_rfl) (fun _ _ _ h => h) (by rfl) (fun w' hSw => by obtain ⟨x0, x1, x2, x3, x4⟩ := CC.out _ hSw.out; go_simp) hS ?_
        simp only [List.setIfInBounds_toArray, List.set_cons_zero, List.set_cons_succ]
        refine takeW (i := 7) (d := 71) (v := (.int .i64 i)) rfl rfl (by kernel_rfl) (by kernel_rfl) (by kernel_rfl) (fun _ _ _ h => h) (by rfl) (fun w' hSw => by obtain ⟨x0, x1, x2, x3, x4⟩ := CC.out _ hSw.out; go_simp) hS ?_
        simp only [List.setIfInBounds_toArray, List.set_cons_zero, List.set_cons_succ]
        refine takeW (i := 11) (d := 75) (v := (.slice (some ⟨bl, off, none⟩) n cap)) rfl rfl (by kernel_rfl) (by kernel_rfl) (by kernel_rfl) (fun _ _ _ h => h) (by rfl) (fun w' hSw => by obtain ⟨x0, x1, x2, x3, x4⟩ := CC.out _ hSw.out; go_simp) hS ?_
        simp only [List.setIfInBounds_toArray, List.set_cons_zero, List.set_cons_succ]
        refine takeW (i := 12) (d := 76) (v := (.int .i64 i)) rfl rfl (by kernel_rfl) (by kernel_rfl) (by kernel_rfl) (fun _ _ _ h => h) (by rfl) (fun w' hSw => by obtain ⟨x0, x1, x2, x3, x4⟩ := CC.out _ hSw.out; go_simp) hS ?_
        simp only [List.setIfInBounds_toArray, List.set_cons_zero, List.set_cons_succ]
        refine takeW (i := 3) (d := 67) (v := (.pointer (some ⟨bl, off + i * 5, none⟩))) rfl rfl (by kernel_rfl) (by kernel_rfl) (by kernel_rfl) (fun _ _ _ h => h) (by rfl) (fun w' hSw => by obtain ⟨x0, x1, x2, x3, x4⟩ := CC.out _ hSw.out; go_simp) hS ?_
        simp only [List.setIfInBounds_toArray, List.set_cons_zero, List.set_cons_succ]
        refine takeW (i := 4) (d := 68) (v := (.pointer (some ⟨bl, off + i * 5 + 1, none⟩))) rfl rfl (by kernel_rfl) (by kernel_rfl) (by kernel_rfl) (fun _ _ _ h => h) (by rfl) (fun w' hSw => by obtain ⟨x0, x1, x2, x3, x4⟩ := CC.out _ hSw.out; go_simp) hS ?_
        simp only [List.setIfInBounds_toArray, List.set_cons_zero, List.set_cons_succ]
        refine takeW (i := 5) (d := 69) (v := (.string nm)) rfl rfl (by kernel_rfl) (by kernel_rfl) (by kernel_rfl) (fun _ _ _ h => h) (by rfl) (fun w' hSw => by obtain ⟨x0, x1, x2, x3, x4⟩ := CC.out _ hSw.out; go_simp) hS ?_
        simp only [List.setIfInBounds_toArray, List.set_cons_zero, List.set_cons_succ]
        refine takeW (i := 8) (d := 72) (v := (.pointer (some ⟨bl, off + i * 5, none⟩))) rfl rfl (by kernel_rfl) (by kernel_rfl) (by kernel_rfl) (fun _ _ _ h => h) (by rfl) (fun w' hSw => by obtain ⟨x0, x1, x2, x3, x4⟩ := CC.out _ hSw.out; go_simp) hS ?_
        simp only [List.setIfInBounds_toArray, List.set_cons_zero, List.set_cons_succ]
        refine takeW (i := 9) (d := 73) (v := (.agg #[.int .i64 k, .string nm, .string s, .bool more, .int .u8 many])) rfl rfl (by kernel_rfl) (by kernel_rfl) (by kernel_rfl) (fun _ _ _ h => h) (by rfl) (fun w' hSw => by obtain ⟨x0, x1, x2, x3, x4⟩ := CC.out _ hSw.out; go_simp) hS ?_
        simp only [List.setIfInBounds_toArray, List.set_cons_zero, List.set_cons_succ]
        refine takeW (i := 13) (d := 77) (v := (.pointer (some ⟨bl, off + i * 5, none⟩))) rfl rfl (by kernel_rfl) (by kernel_rfl) (by kernel_rfl) (fun _ _ _ h => h) (by rfl) (fun w' hSw => by obtain ⟨x0, x1, x2, x3, x4⟩ := CC.out _ hSw.out; go_simp) hS ?_
        simp only [List.setIfInBounds_toArray, List.set_cons_zero, List.set_cons_succ]
        refine takeW (i := 14) (d := 78) (v := (.pointer (some ⟨bl, off + i * 5 + 3, none⟩))) rfl rfl (by kernel_rfl) (by kernel_rfl) (by kernel_rfl) (fun _ _ _ h => h) (by rfl) (fun w' hSw => by obtain ⟨x0, x1, x2, x3, x4⟩ := CC.out _ hSw.out; go_simp) hS ?_
        simp only [List.setIfInBounds_toArray, List.set_cons_zero, List.set_cons_succ]
        refine takeW (i := 15) (d := 79) (v := (.bool more)) rfl rfl (by kernel_rfl) (by kernel_rfl) (by kernel_rfl) (fun _ _ _ h => h) (by rfl) (fun w' hSw => by obtain ⟨x0, x1, x2, x3, x4⟩ := CC.out _ hSw.out; go_simp) hS ?_
        simp only [List.setIfInBounds_toArray, List.set_cons_zero, List.set_cons_succ]
        refine wpAnyH_ready (rs := [10]) (by kernel_rfl) (by simp) ?_
        refine AllReadyH.cons rfl (fun X hX => ?_) AllReadyH.nil
        rw [if_pos (by rfl)]
        go_simp
        refine (HTX.out _).mono ?_
        rintro e w6 ⟨rfl, bb⟩
        have B6 := Lib.hid (hS.out.trans (bb.mono hS.out.size))
        have RA := Lib.hid (Run.after HH.out RAd.out bb)
        have RB := Lib.hid (Run.after HH.out RBd.out bb)
        have HPR := Lib.hid (run_write HH.out w6 RA.out nm t more (by have := HTS.out; omega))
        unfold pt at HPR
        go_wp2_with fail
        refine hX.out _ _ B6 (fun hS2 => ?_)
        clear hX X hS bb RAd RBd
        refine wpAnyH_ready (rs := [16]) (by kernel_rfl) (by simp) ?_
        refine AllReadyH.cons rfl (fun X hX => ?_) AllReadyH.nil
        rw [if_pos (by rfl)]
        go_simp
        refine HPR.out.mono ?_
        rintro e w7 ⟨rfl, Oa7, g⟩
        have B7 := Lib.hid (B6.out.trans (g.below.mono hBaw))
        have HT7 : Hid (Two17 w P Ba Bb w7 a b G0 ⟨⟨⟨#[]⟩, ⟨#[120]⟩, 0⟩, G0, ⟨#[]⟩, []⟩) := Lib.hid ⟨_, Oa7, Ob, g.run, by rw [write_given]; exact HG.out, (Run.aside HH.out g RB.out HD.out).1, (Run.aside HH.out g RB.out HD.out).2⟩
        clear g HPR
        go_wp2_with fail
        refine hX.out _ _ B7 (fun hS3 => ?_)
        clear hX X hS2
        refine wpAnyH_done (by kernel_rfl) ?_ _
        clear hS3 HTX
        go_wp2_with fail
        go_roundw
        case rel => exact ⟨i + 1, by go_num, by omega, by omega, HT7, B7⟩
        case measure => simp [intOf]; omega
    · have hstop : (¬ i < n ∧ decide ((i : Int) < n) = false ∧ decide (i < n) = false) ∨ (decide ((i : Int) < n) = true ∧ decide (i < n) = true ∧ ¬ i < 20 ∧ decide ((i : Int) < 20) = false ∧ decide (i < 20) = false) := by
        by_cases h1 : i < n
        · exact Or.inr ⟨decide_eq_true (by omega), decide_eq_true h1, by omega, decide_eq_false (by omega), decide_eq_false (by omega)⟩
        · exact Or.inl ⟨h1, decide_eq_false (by omega), decide_eq_false h1⟩
      clear hlt
      rcases hstop with ⟨g1, d1, d2⟩ | ⟨d1, d2, g1, d3, d4⟩
      all_goals
        go_wp2_with fail
        go_loopw [10, 11, 12, 13, 14, 15, 16] (fun y z1 z2 z3 z4 z5 z6 wq => z1 = z1 ∧ z2 = z2 ∧ z3 = z3 ∧ z4 = z4 ∧ z5 = z5 ∧ z6 = z6 ∧ ∃ j : Nat, y = .int .i64 j ∧ j ≤ 5 ∧ Hid (∃ g, Two17 w P Ba Bb wq a b g ⟨⟨⟨#[]⟩, ⟨#[120]⟩, 0⟩, g, ⟨#[]⟩, []⟩) ∧ Hid (Below w.heap.size w wq)) (fun y _ _ _ _ _ _ _ => 5 - (intOf y).toNat)
        case atStart => exact ⟨rfl, rfl, rfl, rfl, rfl, rfl, 0, rfl, by omega, Lib.hid ⟨_, HT.out⟩, hb⟩
        case round =>
          obtain ⟨_, _, _, _, _, _, j, rfl, hj, HT2, hb2⟩ := hrel
          obtain ⟨g, sA, Oa, Ob, hra, hg, hrb, hd⟩ := HT2.out
          have RA := Lib.hid hra
          have RB := Lib.hid hrb
          have HD := Lib.hid hd
          have HG := Lib.hid hg
          clear hra hg hrb hd HT2
          by_cases hlt5 : j < 5
          · have d5 : decide ((j : Int) < 5) = true := decide_eq_true (by omega)
            have HR1 := Lib.hid (run_read HH.out _ RA.out name 10 (by decide))
            unfold pt at HR1
            go_wp2_with fail
            refine HR1.out.mono ?_
            rintro e w6 ⟨rfl, Oa6, h⟩
            have RB6 := Lib.hid (Run.aside HH.out h RB.out HD.out)
            have RA6 := Lib.hid h.run
            have B6 := Lib.hid (hb2.out.trans (h.below.mono hBaw))
            have HR2 := Lib.hid (run_read HH.out _ RB6.out.1 name 10 (by decide))
            clear h HR1 RA RB HD
            rw [HG.out]
            unfold pt at HR2
            dsimp only at HR2
            obtain ⟨rg, hrg⟩ : ∃ rg, rg = readG 10 name g := ⟨_, rfl⟩
            rw [← hrg] at HR2 ⊢
            have HRG := Lib.hid hrg
            clear hrg
            obtain ⟨r1, r2, r3⟩ := rg
            dsimp only at HR2 ⊢
            go_wp2_with fail
            refine HR2.out.mono ?_
            rintro e w7 ⟨rfl, Ob7, h⟩
            have RA7 := Lib.hid (Run.aside HH.out h RA6.out (flip RB6.out.2))
            have B7 := Lib.hid (B6.out.trans (h.below.mono hBbw))
            have HT7 : Hid (∃ g, Two17 w P Ba Bb w7 a b g ⟨⟨⟨#[]⟩, ⟨#[120]⟩, 0⟩, g, ⟨#[]⟩, []⟩) := Lib.hid ⟨_, _, Oa6, Ob7, RA7.out.1, (show (readG 10 name sA.given).1 = (readG 10 name g).1 from by rw [HG.out]), h.run, flip RA7.out.2⟩
            have q1 : (r2.toList == r2.toList) = true := beq_self_eq_true _
            clear h HR2
            go_wp2_with fail
            go_roundw
            case rel => exact ⟨trivial, trivial, trivial, trivial, trivial, trivial, j + 1, by go_num, by omega, HT7, B7⟩
            case measure => simp [intOf]; omega
          · have d5 : decide ((j : Int) < 5) = false := decide_eq_false (by omega)
            have HO := Lib.hid (run_out HH.out _ RB.out)
            unfold pt at HO
            go_wp2_with fail
            refine HO.out.mono ?_
            rintro e w6 ⟨rfl, Ob6, h⟩
            have RB6 := Lib.hid h.run
            have B6 := Lib.hid (hb2.out.trans (h.below.mono hBbw))
            have HF := Lib.hid (run_files HH.out _ RB6.out)
            clear h HO RA RB HD HG
            unfold pt at HF
            go_wp2_with fail
            refine HF.out.mono ?_
            rintro e w7 ⟨q7, m7, c7, Ob7, rfl, ht, h⟩
            obtain rfl : m7 = 0 := ht.at_.len
            have RB7 := Lib.hid h.run
            have B7 := Lib.hid (B6.out.trans (h.below.mono hBbw))
            clear ht h HF
            go_wp2_with fail
            refine (HLV.out _ RB7.out.below).mono ?_
            rintro e w8 ⟨rfl, bb⟩
            have B8 := Lib.hid (B7.out.trans (bb.mono B7.out.size))
            clear bb
            go_wp2_with fail
            go_ret
            exact ⟨rfl, B8.out⟩
end Go.Proofs.Ytpifpokbkjddjaa
