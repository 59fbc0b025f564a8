/- The law StreamsPrints over the program's contracts: the walk. -/
import Derived.Test.YtpifpokbkjddjaaS17C
namespace Go.Proofs.Ytpifpokbkjddjaa
open Go.RowKit

/-- Texts in a slice. -/
structure TxtsAt (w : World) (p : Option Addr) (n cap : Nat) (l : List ByteArray) : Prop where
  len : n = l.length
  room : n ≤ cap
  bound : cap ≤ 9223372036854775807
  cells : l = [] ∨ ∃ b off, p = some ⟨b, off, none⟩ ∧ ∀ i s, l[i]? = some s → w.cell? ⟨b, off + i, none⟩ = some (.string s)
def stP (o : ByteArray) (made : List (ByteArray × ByteArray)) : Sst := ⟨⟨⟨#[]⟩, ⟨#[]⟩, 0⟩, [], o, made⟩
theorem print_ok (o t : ByteArray) (made : List (ByteArray × ByteArray)) (h : o.size + sizesF made + t.size ≤ 65536) : printS (stP o made) t = (stP (o ++ t) made, 0) := by
  unfold printS fullB
  rw [if_neg (by simp only [decide_eq_true_eq]; show ¬ 65536 < o.size + sizesF made + t.size; omega)]
  rfl
/-- What a file that is written to alone has. -/
def OneF (name f : ByteArray) (made : List (ByteArray × ByteArray)) : Prop := (made = [] ∧ f = ⟨#[]⟩) ∨ made = [(name, f)]
theorem OneF.size {name f : ByteArray} {made : List (ByteArray × ByteArray)} (h : OneF name f made) : sizesF made = f.size := by
  rcases h with ⟨rfl, rfl⟩ | rfl
  · rfl
  · show f.size + 0 = f.size; omega
theorem empty_app (t : ByteArray) : (⟨#[]⟩ : ByteArray) ++ t = t := by
  apply ByteArray.ext
  rw [ByteArray.data_append]
  simp
theorem write_ok (o name f t : ByteArray) (made : List (ByteArray × ByteArray)) (more : Bool) (hn : name ≠ ⟨#[]⟩) (hf : OneF name f made) (h : o.size + f.size + t.size ≤ 65536) :
    ∃ made', writeS (stP o made) name t more = (stP o made', 0) ∧ OneF name (f ++ t) made' := by
  have hz := hf.size
  rcases hf with ⟨rfl, rfl⟩ | rfl
  · refine ⟨[(name, t)], ?_, Or.inr (by rw [empty_app])⟩
    have hm : moreT (stP o []) name t more = t := by
      unfold moreT stP giveN
      split
      · exact empty_app t
      · rfl
    unfold writeS
    rw [if_neg hn, if_neg (by show ¬ hasB [] name = true; simp [hasB]), hm, if_neg]
    · rfl
    · rintro (h1 | h1)
      · exact absurd h1 (by show ¬ 8 ≤ ([] : List (ByteArray × ByteArray)).length; simp)
      · unfold fullB at h1
        rw [decide_eq_true_eq] at h1
        have h2 : 65536 < o.size + 0 + t.size := h1
        omega
  · refine ⟨[(name, f ++ t)], ?_, Or.inr rfl⟩
    unfold writeS
    rw [if_neg hn, if_pos (by show hasB [(name, f)] name = true; simp [hasB]), if_neg]
    · show (stP o (appS [(name, f)] name t), (0 : Int)) = _
      unfold appS
      rw [if_pos rfl]
    · unfold fullB
      rw [decide_eq_true_eq]
      show ¬ 65536 < o.size + (f.size + 0) + t.size
      omega

set_option maxRecDepth 100000 in
set_option maxHeartbeats 4000000 in
theorem prints_walk (w : World) (P : StMem) (H : StreamsOk w P) (p : Option Addr) (n cap : Nat) (l : List ByteArray) (name : ByteArray) (hl : TxtsAt w p n cap l) :
    Calls Try.prog 5 #[.slice p n cap, .string name] w fun e w' => e = .returned (.bool true) ∧ Below w.heap.size w w' := by
  have HH := Lib.hid H
  have HL := Lib.hid hl
  have HLV := Lib.hid (fun V hV => lives17 H V hV)
  have HNW := Lib.hid (run_new H w ⟨#[]⟩ none 0 0 [] (Below.refl _ _) (files_nil w) (by omega) (by decide) (by simp))
  have HN : Hid (n = l.length) := Lib.hid hl.len
  have hn : n ≤ 9223372036854775807 := Nat.le_trans hl.room hl.bound
  have hroom := hl.room
  clear H hl
  by_cases hne : name = ⟨#[]⟩
  · subst hne
    go_enter Try.func5, Try.ntmps5
    go_wp2_with fail
    refine HNW.out.mono ?_
    rintro e w1 ⟨b, O1, rfl, h1, bb⟩
    have R1 := Lib.hid h1
    have B1 := Lib.hid bb
    clear h1 bb HNW
    unfold pt
    go_wp2_with fail
    refine (HLV.out _ R1.out.below).mono ?_
    rintro e w2 ⟨rfl, bb⟩
    have B2 := Lib.hid (Below.step B1.out bb)
    clear bb
    go_wp2_with fail
    go_ret
    exact ⟨rfl, B2.out⟩
  have a0 : ¬ name.toList = [] := fun e => hne (by rw [Lib.toList_data] at e; cases name with | mk d => exact congrArg ByteArray.mk (Array.toList_inj.1 e))
  have b0 : name.toList.isEmpty = false := by cases h : name.toList with | nil => exact absurd h a0 | cons a l => rfl
  have c0 : (name.toList == []) = false := beq_eq_false_iff_ne.2 a0
  have HNE := Lib.hid hne
  have HA := Lib.hid a0
  clear hne
  go_enter Try.func5, Try.ntmps5
  go_wp2_with fail
  refine HNW.out.mono ?_
  rintro e w1 ⟨b, O1, rfl, h1, bb⟩
  have R1 := Lib.hid h1
  have B1 := Lib.hid bb
  clear h1 bb HNW
  unfold pt
  go_wp2_with fail
  go_loopw [6, 7, 8] (fun y6 y7 y8 wr => ∃ (o f : ByteArray) (i : Nat), y6 = .string o ∧ y7 = .string f ∧ y8 = .int .i64 i ∧ i ≤ 40 ∧ i ≤ n ∧ o.size + f.size ≤ 500 * i ∧ Hid (∃ made O, OneF name f made ∧ Run w P w.heap.size wr b (stP o made) O) ∧ Hid (Below w.heap.size w wr)) (fun _ _ y8 _ => n - (intOf y8).toNat)
  case atStart => exact ⟨⟨#[]⟩, ⟨#[]⟩, 0, rfl, rfl, rfl, by omega, by omega, by decide, Lib.hid ⟨[], O1, Or.inl ⟨rfl, rfl⟩, R1.out⟩, B1⟩
  case round =>
    obtain ⟨o, f, i, rfl, rfl, rfl, hi40, hi, hsz, HR, hb⟩ := hrel
    by_cases hlt : i < n ∧ i < 40
    · obtain ⟨hlt, hlt40⟩ := hlt
      have hil : i < l.length := by rw [← HN.out]; exact hlt
      have hx := List.getElem?_eq_getElem hil
      obtain ⟨x, hxe⟩ : ∃ x, x = l[i] := ⟨_, rfl⟩
      rw [← hxe] at hx
      obtain ⟨bl, off, rfl, hc⟩ : ∃ b off, p = some ⟨b, off, none⟩ ∧ ∀ i s, l[i]? = some s → w.cell? ⟨b, off + i, none⟩ = some (.string s) := by
        rcases HL.out.cells with h0 | h0
        · rw [h0] at hil; simp at hil
        · exact h0
      have e0 := hc i x hx
      have q0 : wr.cell? ⟨bl, off + i, none⟩ = some (.string x) := by rw [hb.out.cell (p := ⟨bl, off + i, none⟩) (cell_lt e0)]; exact e0
      clear hc e0 hx hxe hil
      have d1 : decide ((i : Int) < n) = true := decide_eq_true (by omega)
      have d2 : decide ((i : Int) < 40) = true := decide_eq_true (by omega)
      by_cases hbig : 500 < x.size
      · have d3 : decide ((500 : Int) < (x.size : Int)) = true := decide_eq_true (by omega)
        clear hbig
        go_wp2_with fail
        go_roundw
        case rel => exact ⟨o, f, i + 1, rfl, rfl, by go_num, by omega, by omega, by omega, HR, hb⟩
        case measure => simp [intOf]; omega
      · have d3 : decide ((500 : Int) < (x.size : Int)) = false := decide_eq_false (by omega)
        have hx500 : x.size ≤ 500 := by omega
        clear hbig
        obtain ⟨made, O, hone, hrun⟩ := HR.out
        have HONE := Lib.hid hone
        have RR := Lib.hid hrun
        clear hone hrun HR
        by_cases hev : i % 2 = 0
        · have m1 : (i : Int).tmod 2 = 0 := by rw [Int.tmod_eq_emod_of_nonneg (by omega)]; omega
          have m2 : (i : Int) % 2 = 0 := by omega
          have no1 : ¬ 9223372036854775807 < o.size + x.size := by omega
          have hp := print_ok o x made (by rw [HONE.out.size]; omega)
          have HPR := Lib.hid (run_print HH.out wr RR.out x (by omega))
          rw [hp] at HPR
          have hz : (o ++ x).size + f.size ≤ 500 * (i + 1) := by rw [ByteArray.size_append]; omega
          have HZ := Lib.hid hz
          clear hp hz hev
          unfold pt at HPR
          go_wp2_with fail
          refine HPR.out.mono ?_
          rintro e w2 ⟨rfl, O2, h2⟩
          have R2 := Lib.hid h2.run
          have B2 := Lib.hid (hb.out.trans h2.below)
          clear h2 HPR q0
          go_wp2_with fail
          go_roundw
          case rel => exact ⟨o ++ x, f, i + 1, rfl, rfl, by go_num, by omega, by omega, HZ.out, Lib.hid ⟨made, O2, HONE.out, R2.out⟩, B2⟩
          case measure => simp [intOf]; omega
        · have m1 : (i : Int).tmod 2 = 1 := by rw [Int.tmod_eq_emod_of_nonneg (by omega)]; omega
          have m2 : (i : Int) % 2 = 1 := by omega
          have no1 : ¬ 9223372036854775807 < f.size + x.size := by omega
          have hp := fun more => write_ok o name f x made more HNE.out HONE.out (by omega)
          have HPR := Lib.hid (fun more => run_write HH.out wr RR.out name x more (by omega))
          have hz : o.size + (f ++ x).size ≤ 500 * (i + 1) := by rw [ByteArray.size_append]; omega
          have HZ := Lib.hid hz
          have HP := Lib.hid hp
          clear hp hz hev
          unfold pt at HPR
          go_wp2_with fail
          refine (HPR.out _).mono ?_
          rintro e w2 ⟨rfl, O2, h2⟩
          obtain ⟨made2, hw2, hone2⟩ := HP.out ((i : Int) % 3 == 0)
          rw [hw2] at h2 ⊢
          have R2 := Lib.hid h2.run
          have B2 := Lib.hid (hb.out.trans h2.below)
          have HO2 := Lib.hid hone2
          clear h2 HPR q0 hw2 hone2
          go_wp2_with fail
          go_roundw
          case rel => exact ⟨o, f ++ x, i + 1, rfl, rfl, by go_num, by omega, by omega, HZ.out, Lib.hid ⟨made2, O2, HO2.out, R2.out⟩, B2⟩
          case measure => simp [intOf]; omega
    · obtain ⟨made, O, hone, hrun⟩ := HR.out
      have HONE := Lib.hid hone
      have RR := Lib.hid hrun
      have HF := Lib.hid (run_files HH.out wr hrun)
      clear hone hrun HR
      have hstop : (¬ i < n ∧ decide ((i : Int) < n) = false ∧ decide (i < n) = false) ∨ (decide ((i : Int) < n) = true ∧ decide (i < n) = true ∧ ¬ i < 40 ∧ decide ((i : Int) < 40) = false ∧ decide (i < 40) = false) := by
        by_cases h1 : i < n
        · exact Or.inr ⟨decide_eq_true (by omega), decide_eq_true h1, by omega, decide_eq_false (by omega), decide_eq_false (by omega)⟩
        · exact Or.inl ⟨h1, decide_eq_false (by omega), decide_eq_false h1⟩
      clear hlt
      rcases hstop with ⟨g1, d1, d2⟩ | ⟨d1, d2, g1, d3, d4⟩
      all_goals
        unfold pt at HF
        go_wp2_with fail
        refine HF.out.mono ?_
        rintro e w2 ⟨q, m, c, O2, rfl, h2, h3⟩
        have T2 := Lib.hid h2
        have B2 := Lib.hid (hb.out.trans h3.below)
        have R2 := Lib.hid h3.run
        have HO := Lib.hid (run_out HH.out w2 h3.run)
        clear h2 h3 HF
        unfold pt at HO
        go_wp2_with fail
        refine HO.out.mono ?_
        rintro e w3 ⟨rfl, O3, h3⟩
        have T3 := Lib.hid (T2.out.went h3)
        have B3 := Lib.hid (B2.out.trans h3.below)
        have R3 := Lib.hid h3.run
        clear h3 HO T2
        have z1 : (o.toList == o.toList) = true := beq_self_eq_true _
        have HLv := Lib.hid (HLV.out _ R3.out.below)
        rcases HONE.out with ⟨rfl, rfl⟩ | rfl
        · obtain rfl : m = 0 := T3.out.at_.len
          unfold stP
          go_wp2_with fail
          refine HLv.out.mono ?_
          rintro e w4 ⟨rfl, bb⟩
          have B4 := Lib.hid (B3.out.trans (bb.mono (by have := B3.out.size; omega)))
          clear bb
          go_wp2_with fail
          go_ret
          exact ⟨by first | rfl | simp, B4.out⟩
        · obtain rfl : m = 1 := T3.out.at_.len
          obtain ⟨bq, oq, rfl, hc⟩ : ∃ b off, q = some ⟨b, off, none⟩ ∧ ∀ i g, ([(name, f)] : List (ByteArray × ByteArray))[i]? = some g → w3.cell? ⟨b, off + i * 2, none⟩ = some (.string g.1) ∧ w3.cell? ⟨b, off + i * 2 + 1, none⟩ = some (.string g.2) := by
            rcases T3.out.at_.cells with h0 | h0
            · exact absurd h0 (List.cons_ne_nil _ _)
            · exact h0
          obtain ⟨c1, c2⟩ := hc 0 (name, f) rfl
          simp only [Nat.zero_mul, Nat.add_zero] at c1 c2
          have hcap : 1 ≤ c := T3.out.at_.room
          have z2 : (name.toList == name.toList) = true := beq_self_eq_true _
          have z3 : (f.toList == f.toList) = true := beq_self_eq_true _
          clear hc
          unfold stP
          go_wp2_with fail
          refine HLv.out.mono ?_
          rintro e w4 ⟨rfl, bb⟩
          have B4 := Lib.hid (B3.out.trans (bb.mono (by have := B3.out.size; omega)))
          clear bb
          go_wp2_with fail
          go_ret
          exact ⟨by first | rfl | simp, B4.out⟩
end Go.Proofs.Ytpifpokbkjddjaa
