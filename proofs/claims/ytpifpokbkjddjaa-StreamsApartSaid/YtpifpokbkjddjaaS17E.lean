/- The law StreamsFull over the program's contracts: the walk (gen_s17e.py). -/
import Derived.Test.YtpifpokbkjddjaaS17D
import Derived.Test.YtpifpokbkjddjaaTake17
namespace Go.Proofs.Ytpifpokbkjddjaa
open Go.RowKit

/-- Acts in a slice. -/
structure ActsAt (w : World) (p : Option Addr) (n cap : Nat) (l : List Ac) : Prop where
  len : n = l.length
  room : n ≤ cap
  bound : cap ≤ 9223372036854775807
  cells : l = [] ∨ ∃ b off, p = some ⟨b, off, none⟩ ∧ ∀ i a, l[i]? = some a → w.cell? ⟨b, off + i * 5, none⟩ = some (.int .i64 a.k) ∧ w.cell? ⟨b, off + i * 5 + 1, none⟩ = some (.string a.name) ∧ w.cell? ⟨b, off + i * 5 + 2, none⟩ = some (.string a.s) ∧ w.cell? ⟨b, off + i * 5 + 3, none⟩ = some (.bool a.more) ∧ w.cell? ⟨b, off + i * 5 + 4, none⟩ = some (.int .u8 a.many)
  ok : ∀ a ∈ l, AcOk a
/-- What holds of streams to which nothing was given. -/
structure Inv (s : Sst) (n : Nat) : Prop where
  given : s.given = []
  all : s.all = n
  le : n ≤ 65536
  few : s.made.length ≤ 8
theorem print_inv {s : Sst} {n : Nat} (h : Inv s n) (t : ByteArray) : (∃ s', printS s t = (s', 0) ∧ Inv s' (n + t.size)) ∨ printS s t = (s, 8) := by
  unfold printS fullB
  by_cases hf : 65536 < s.all + t.size
  · exact Or.inr (by rw [if_pos (decide_eq_true hf)])
  · refine Or.inl ⟨{ s with out := s.out ++ t }, by rw [if_neg (by rw [decide_eq_true_eq]; exact hf)], ⟨h.given, ?_, by have := h.all; omega, h.few⟩⟩
    have h1 := h.all
    show (s.out ++ t).size + sizesF s.made = n + t.size
    rw [ByteArray.size_append]
    unfold Sst.all at h1
    omega
theorem app_size {name t : ByteArray} : ∀ {l : List (ByteArray × ByteArray)}, hasB l name = true → sizesF (appS l name t) = sizesF l + t.size ∧ (appS l name t).length = l.length
  | [], h => by simp [hasB] at h
  | f :: l, h => by
    unfold appS
    by_cases hf : f.1 = name
    · rw [if_pos hf]
      refine ⟨?_, rfl⟩
      show (f.2 ++ t).size + sizesF l = f.2.size + sizesF l + t.size
      rw [ByteArray.size_append]
      omega
    · rw [if_neg hf]
      have h2 : hasB l name = true := by
        unfold hasB at h
        rw [decide_eq_false hf, Bool.false_or] at h
        exact h
      have h3 := app_size (t := t) h2
      refine ⟨?_, by rw [List.length_cons, List.length_cons, h3.2]⟩
      show f.2.size + sizesF (appS l name t) = f.2.size + sizesF l + t.size
      rw [h3.1]
      omega
theorem sizes_snoc (f : ByteArray × ByteArray) : ∀ l : List (ByteArray × ByteArray), sizesF (l ++ [f]) = sizesF l + f.2.size
  | [] => by show f.2.size + 0 = 0 + f.2.size; omega
  | g :: l => by
    show g.2.size + sizesF (l ++ [f]) = g.2.size + sizesF l + f.2.size
    rw [sizes_snoc f l]
    omega
theorem write_inv {s : Sst} {n : Nat} (h : Inv s n) (name t : ByteArray) (more : Bool) (hn : name ≠ ⟨#[]⟩) : (∃ s', writeS s name t more = (s', 0) ∧ Inv s' (n + t.size)) ∨ writeS s name t more = (s, 8) := by
  have h1 := h.all
  unfold Sst.all at h1
  have hm : moreT s name t more = t := by
    unfold moreT
    rw [h.given]
    split
    · exact empty_app t
    · rfl
  unfold writeS
  rw [if_neg hn, hm]
  by_cases hh : hasB s.made name = true
  · rw [if_pos hh]
    by_cases hf : 65536 < s.all + t.size
    · exact Or.inr (by unfold fullB; rw [if_pos (decide_eq_true hf)])
    · have h2 := app_size (t := t) hh
      refine Or.inl ⟨{ s with made := appS s.made name t }, by unfold fullB; rw [if_neg (by rw [decide_eq_true_eq]; exact hf)], ⟨h.given, ?_, by have := h.all; omega, by show (appS s.made name t).length ≤ 8; rw [h2.2]; exact h.few⟩⟩
      show s.out.size + sizesF (appS s.made name t) = n + t.size
      rw [h2.1]
      omega
  · rw [if_neg hh]
    by_cases hf : 8 ≤ s.made.length ∨ fullB s t.size = true
    · exact Or.inr (by rw [if_pos hf])
    · have hf2 : ¬ 65536 < s.all + t.size := fun e => hf (Or.inr (decide_eq_true e))
      have hf3 : ¬ 8 ≤ s.made.length := fun e => hf (Or.inl e)
      refine Or.inl ⟨{ s with made := s.made ++ [(name, t)] }, by rw [if_neg hf], ⟨h.given, ?_, by have := h.all; omega, by show (s.made ++ [(name, t)]).length ≤ 8; rw [List.length_append]; show s.made.length + 1 ≤ 8; omega⟩⟩
      show s.out.size + sizesF (s.made ++ [(name, t)]) = n + t.size
      rw [sizes_snoc]
      show s.out.size + (sizesF s.made + t.size) = n + t.size
      omega

set_option maxRecDepth 100000 in
set_option maxHeartbeats 4000000 in
theorem full_walk (w : World) (P : StMem) (H : StreamsOk w P) (p : Option Addr) (n cap : Nat) (l : List Ac) (hl : ActsAt w p n cap l) :
    Calls Try.prog 4 #[.slice p n cap] w fun e w' => e = .returned (.bool true) ∧ Below w.heap.size w w' := by
  have HH := Lib.hid H
  have HL := Lib.hid hl
  have HLV := Lib.hid (fun V hV => lives17 H V hV)
  have HNW := Lib.hid (run_new H w ⟨#[]⟩ none 0 0 [] (Below.refl _ _) (files_nil w) (by omega) (by decide) (by simp))
  have HN : Hid (n = l.length) := Lib.hid hl.len
  have hn : n ≤ 9223372036854775807 := Nat.le_trans hl.room hl.bound
  have hroom := hl.room
  clear H hl
  go_enter Try.func4, Try.ntmps4
  go_wp2_with fail
  refine HNW.out.mono ?_
  rintro e w1 ⟨b, O1, rfl, h1, bb⟩
  have R1 := Lib.hid h1
  have B1 := Lib.hid bb
  clear h1 bb HNW
  try unfold pt
  go_wp2_with fail
  go_loopw [4, 5, 6, 7, 8, 9] (fun y4 y5 y6 y7 y8 y9 wr => y6 = y6 ∧ y7 = y7 ∧ y8 = y8 ∧ y9 = y9 ∧ ∃ (nn i : Nat), y4 = .int .i64 nn ∧ y5 = .int .i64 i ∧ i ≤ 40 ∧ i ≤ n ∧ Hid (∃ st O, Inv st nn ∧ Run w P w.heap.size wr b st O) ∧ Hid (Below w.heap.size w wr)) (fun _ y5 _ _ _ _ _ => n - (intOf y5).toNat)
  case atStart => exact ⟨rfl, rfl, rfl, rfl, 0, 0, rfl, rfl, by omega, by omega, Lib.hid ⟨_, O1, ⟨rfl, rfl, by omega, by show 0 ≤ 8; omega⟩, R1.out⟩, B1⟩
  case round =>
    obtain ⟨_, _, _, _, nn, i, rfl, rfl, hi40, hi, HR, hb⟩ := hrel
    by_cases hlt : i < n ∧ i < 40
    · obtain ⟨hlt, hlt40⟩ := hlt
      have hil : i < l.length := by rw [← HN.out]; exact hlt
      have hx := List.getElem?_eq_getElem hil
      have hao := HL.out.ok l[i] (List.getElem_mem hil)
      obtain ⟨x, hxe⟩ : ∃ x, x = l[i] := ⟨_, rfl⟩
      rw [← hxe] at hx hao
      obtain ⟨bl, off, rfl, hc⟩ : ∃ b off, p = some ⟨b, off, none⟩ ∧ ∀ i a, l[i]? = some a → w.cell? ⟨b, off + i * 5, none⟩ = some (.int .i64 a.k) ∧ w.cell? ⟨b, off + i * 5 + 1, none⟩ = some (.string a.name) ∧ w.cell? ⟨b, off + i * 5 + 2, none⟩ = some (.string a.s) ∧ w.cell? ⟨b, off + i * 5 + 3, none⟩ = some (.bool a.more) ∧ w.cell? ⟨b, off + i * 5 + 4, none⟩ = some (.int .u8 a.many) := by
        rcases HL.out.cells with h0 | h0
        · rw [h0] at hil; simp at hil
        · exact h0
      have hca := hc i x hx
      obtain ⟨k, name, s, more, many⟩ := x
      dsimp only at hca
      have CC := Lib.hid (fun V (hV : Below w.heap.size w V) => (show V.cell? ⟨bl, off + i * 5, none⟩ = some (.int .i64 k) ∧ V.cell? ⟨bl, off + i * 5 + 1, none⟩ = some (.string name) ∧ V.cell? ⟨bl, off + i * 5 + 2, none⟩ = some (.string s) ∧ V.cell? ⟨bl, off + i * 5 + 3, none⟩ = some (.bool more) ∧ V.cell? ⟨bl, off + i * 5 + 4, none⟩ = some (.int .u8 many) from by
        have key : ∀ (o : Nat) (v : Value), w.cell? ⟨bl, o, none⟩ = some v → V.cell? ⟨bl, o, none⟩ = some v := fun o v hv => by
          rw [hV.cell (p := ⟨bl, o, none⟩) (cell_lt hv)]; exact hv
        exact ⟨key _ _ hca.1, key _ _ hca.2.1, key _ _ hca.2.2.1, key _ _ hca.2.2.2.1, key _ _ hca.2.2.2.2⟩))
      have HAO := Lib.hid hao
      clear hc hca hx hxe hil hao
      have d1 : decide ((i : Int) < n) = true := decide_eq_true (by omega)
      have d2 : decide ((i : Int) < 40) = true := decide_eq_true (by omega)
      obtain ⟨c0, c1, c2, c3, c4⟩ := CC.out _ hb.out
      by_cases hbig : 300 < s.size
      · have d3 : decide ((300 : Int) < (s.size : Int)) = true := decide_eq_true (by omega)
        clear hbig
        go_wp2_with fail
        go_roundw
        case rel => exact ⟨trivial, trivial, trivial, trivial, nn, i + 1, rfl, by go_num, by omega, by omega, HR, hb⟩
        case measure => simp [intOf]; omega
      have d3 : decide ((300 : Int) < (s.size : Int)) = false := decide_eq_false (by omega)
      by_cases hne : name = ⟨#[]⟩
      · subst hne
        go_wp2_with fail
        go_roundw
        case rel => exact ⟨trivial, trivial, trivial, trivial, nn, i + 1, rfl, by go_num, by omega, by omega, HR, hb⟩
        case measure => simp [intOf]; omega
      have a0 : ¬ name.toList = [] := fun e => hne (by rw [Lib.toList_data] at e; cases name with | mk d => exact congrArg ByteArray.mk (Array.toList_inj.1 e))
      have b0 : name.toList.isEmpty = false := by cases h : name.toList with | nil => exact absurd h a0 | cons a l => rfl
      have e0 : (name.toList == []) = false := beq_eq_false_iff_ne.2 a0
      have HNE := Lib.hid hne
      have HTX := Lib.hid (fun V => atext_any ⟨k, name, s, more, many⟩ HAO.out (show s.size ≤ 300 by omega) V)
      have HTS : Hid ((Ac.txt ⟨k, name, s, more, many⟩).size ≤ 80000) := Lib.hid (dbl_size _ _ (by show s.size ≤ 80000; omega))
      obtain ⟨t, ht⟩ : ∃ t, t = Ac.txt ⟨k, name, s, more, many⟩ := ⟨_, rfl⟩
      rw [← ht] at HTX HTS
      clear hne hbig ht
      unfold acC at HTX
      dsimp only at HTX
      go_wp2_with fail
      refine (HTX.out _).mono ?_
      rintro e w2 ⟨rfl, bb⟩
      obtain ⟨st, O, hinv, hrun⟩ := HR.out
      have HI := Lib.hid hinv
      have R2 := Lib.hid (Run.after HH.out hrun bb)
      have B2 := Lib.hid (hb.out.trans (bb.mono (by have := hb.out.size; omega)))
      clear bb hrun hinv HR HTX
      clear c0 c1 c2 c3 c4
      try unfold pt
      go_wp2_with fail
      refine (run_files HH.out w2 R2.out).mono ?_
      rintro e w3 ⟨q3, m3, cp3, O3, rfl, h, g⟩
      have T3 := Lib.hid h
      have R3 := Lib.hid g.run
      have B3 := Lib.hid (B2.out.trans g.below)
      clear h g
      try unfold pt
      go_wp2_with fail
      refine (run_out HH.out w3 R3.out).mono ?_
      rintro e w4 ⟨rfl, O4, g⟩
      have R4 := Lib.hid g.run
      have B4 := Lib.hid (B3.out.trans g.below)
      have T4 := Lib.hid (T3.out.went g)
      clear g R2 R3 B2 B3 T3
      have hts := HTS.out
      have hnn : nn ≤ 65536 := HI.out.le
      obtain ⟨c0, c1, c2, c3, c4⟩ := CC.out _ B4.out
      by_cases hk : k = 2
      · subst hk
        rcases print_inv HI.out t with ⟨st2, hp, hi2⟩ | hp
        · have HPR := Lib.hid (run_print HH.out w4 R4.out t (by omega))
          rw [hp] at HPR
          have HI2 := Lib.hid hi2
          clear hp hi2
          unfold pt at HPR
          go_wp2_with fail
          refine HPR.out.mono ?_
          rintro e w5 ⟨rfl, O5, g⟩
          have R5 := Lib.hid g.run
          have B5 := Lib.hid (B4.out.trans g.below)
          clear g HPR T4 c0 c1 c2 c3 c4
          have no2 : (nn + t.size : Nat) ≤ 65536 := HI2.out.le
          go_wp2_with fail
          have hin := HI2.out
          have d8 : decide ((65536 : Int) < ((nn + t.size : Nat) : Int)) = false := decide_eq_false (by have := hin.le; omega)
          have hle : (nn + t.size) ≤ 65536 := hin.le
          clear hin
          try unfold pt
          go_wp2_with fail
          refine (run_files HH.out w5 R5.out).mono ?_
          rintro e w9 ⟨q9, m9, c9, O9, rfl, h, g⟩
          have T9a := Lib.hid h
          have R9 := Lib.hid g.run
          have B9 := Lib.hid (B5.out.trans g.below)
          clear h g
          have hm9 : m9 ≤ 8 := by have h1 := T9a.out.at_.len; have h2 := HI2.out.few; omega
          have d9 : decide ((8 : Int) < (m9 : Int)) = false := decide_eq_false (by omega)
          go_wp2_with fail
          go_roundw
          case rel => exact ⟨trivial, trivial, trivial, trivial, nn + t.size, i + 1, by go_num, by go_num, by omega, by omega, Lib.hid ⟨_, O9, HI2.out, R9.out⟩, B9⟩
          case measure => simp [intOf]; omega
        · have HPR := Lib.hid (run_print HH.out w4 R4.out t (by omega))
          rw [hp] at HPR
          clear hp
          unfold pt at HPR
          go_wp2_with fail
          refine HPR.out.mono ?_
          rintro e w5 ⟨rfl, O5, g⟩
          have R5 := Lib.hid g.run
          have B5 := Lib.hid (B4.out.trans g.below)
          have T5 := Lib.hid (T4.out.went g)
          clear g HPR T4 c0 c1 c2 c3 c4
          try unfold pt
          go_wp2_with fail
          refine (run_files HH.out w5 R5.out).mono ?_
          rintro e w6 ⟨q6, m6, c6, O6, rfl, h, g⟩
          have T6a := Lib.hid h
          have R6 := Lib.hid g.run
          have B6 := Lib.hid (B5.out.trans g.below)
          have T6 := Lib.hid (T5.out.went g)
          clear h g
          go_wp2_with fail
          refine (fsame_any w6 _ _ _ _ _ _ _ _ T6a.out.at_ T6.out.at_).mono ?_
          rintro e w7 ⟨rfl, bb⟩
          have R7 := Lib.hid (Run.after HH.out R6.out bb)
          have B7 := Lib.hid (B6.out.trans (bb.mono (by have := B6.out.size; omega)))
          clear bb
          have hdec : decide (st.made = st.made) = true := decide_eq_true rfl
          rw [hdec]
          clear hdec
          try unfold pt
          go_wp2_with fail
          refine (run_out HH.out w7 R7.out).mono ?_
          rintro e w8 ⟨rfl, O8, h⟩
          have R8 := Lib.hid h.run
          have B8 := Lib.hid (B7.out.trans h.below)
          clear h
          have z1 : (st.out.toList == st.out.toList) = true := beq_self_eq_true _
          have hin := HI.out
          have d8 : decide ((65536 : Int) < ((nn : Nat) : Int)) = false := decide_eq_false (by have := hin.le; omega)
          have hle : (nn) ≤ 65536 := hin.le
          clear hin
          try unfold pt
          go_wp2_with fail
          refine (run_files HH.out w8 R8.out).mono ?_
          rintro e w9 ⟨q9, m9, c9, O9, rfl, h, g⟩
          have T9a := Lib.hid h
          have R9 := Lib.hid g.run
          have B9 := Lib.hid (B8.out.trans g.below)
          clear h g
          have hm9 : m9 ≤ 8 := by have h1 := T9a.out.at_.len; have h2 := HI.out.few; omega
          have d9 : decide ((8 : Int) < (m9 : Int)) = false := decide_eq_false (by omega)
          go_wp2_with fail
          go_roundw
          case rel => exact ⟨trivial, trivial, trivial, trivial, nn, i + 1, by go_num, by go_num, by omega, by omega, Lib.hid ⟨_, O9, HI.out, R9.out⟩, B9⟩
          case measure => simp [intOf]; omega
      · have hk2 : (k == 2) = false := beq_eq_false_iff_ne.2 hk
        have R4d := Lib.hid (Run.after HH.out R4.out (below_drew _))
        have T4d := Lib.hid (T4.out.after (below_drew _))
        clear hk
        rcases write_inv HI.out name t more HNE.out with ⟨st2, hp, hi2⟩ | hp
        · have HPR := Lib.hid (run_write HH.out _ R4d.out name t more (by omega))
          rw [hp] at HPR
          have HI2 := Lib.hid hi2
          clear hp hi2
          unfold pt at HPR
          go_wp2_with fail
          refine wp_region_held_drew (S := fun W' => W'.cell? ⟨bl, off + i * 5 + 1, none⟩ = some (.string name) ∧ W'.cell? ⟨bl, off + i * 5 + 3, none⟩ = some (.bool more)) (by kernel_rfl) ?_ (fun hS => ?_)
          · exact ⟨(CC.out _ (B4.out.drew)).2.1, (CC.out _ (B4.out.drew)).2.2.2.1⟩
          clear c0 c1 c2 c3 c4
          refine takeW (i := 0) (d := 56) (v := (.pointer (some ⟨b, 0, none⟩))) rfl rfl (by kernel_rfl) (by kernel_rfl) (by kernel_rfl) (fun _ _ _ h => h) (by rfl) (fun w' hSw => by obtain ⟨x1, x3⟩ := hSw; go_simp) hS ?_
          simp only [List.setIfInBounds_toArray, List.set_cons_zero, List.set_cons_succ]
          refine takeW (i := 1) (d := 57) (v := (.slice (some ⟨bl, off, none⟩) n cap)) rfl rfl (by kernel_rfl) (by kernel_rfl) (by kernel_rfl) (fun _ _ _ h => h) (by rfl) (fun w' hSw => by obtain ⟨x1, x3⟩ := hSw; go_simp) hS ?_
          simp only [List.setIfInBounds_toArray, List.set_cons_zero, List.set_cons_succ]
          refine takeW (i := 2) (d := 58) (v := (.int .i64 i)) rfl rfl (by kernel_rfl) (by kernel_rfl) (by kernel_rfl) (fun _ _ _ h => h) (by rfl) (fun w' hSw => by obtain ⟨x1, x3⟩ := hSw; go_simp) hS ?_
          simp only [List.setIfInBounds_toArray, List.set_cons_zero, List.set_cons_succ]
          refine takeW (i := 6) (d := 62) (v := (.string t)) rfl rfl (by kernel_rfl) (by kernel_rfl) (by kernel_rfl) (fun _ _ _ h => h) (by rfl) (fun w' hSw => by obtain ⟨x1, x3⟩ := hSw; go_simp) hS ?_
          simp only [List.setIfInBounds_toArray, List.set_cons_zero, List.set_cons_succ]
          refine takeW (i := 7) (d := 63) (v := (.slice (some ⟨bl, off, none⟩) n cap)) rfl rfl (by kernel_rfl) (by kernel_rfl) (by kernel_rfl) (fun _ _ _ h => h) (by rfl) (fun w' hSw => by obtain ⟨x1, x3⟩ := hSw; go_simp) hS ?_
          simp only [List.setIfInBounds_toArray, List.set_cons_zero, List.set_cons_succ]
          refine takeW (i := 8) (d := 64) (v := (.int .i64 i)) rfl rfl (by kernel_rfl) (by kernel_rfl) (by kernel_rfl) (fun _ _ _ h => h) (by rfl) (fun w' hSw => by obtain ⟨x1, x3⟩ := hSw; go_simp) hS ?_
          simp only [List.setIfInBounds_toArray, List.set_cons_zero, List.set_cons_succ]
          refine takeW (i := 3) (d := 59) (v := (.pointer (some ⟨bl, off + i * 5, none⟩))) rfl rfl (by kernel_rfl) (by kernel_rfl) (by kernel_rfl) (fun _ _ _ h => h) (by rfl) (fun w' hSw => by obtain ⟨x1, x3⟩ := hSw; go_simp) hS ?_
          simp only [List.setIfInBounds_toArray, List.set_cons_zero, List.set_cons_succ]
          refine takeW (i := 4) (d := 60) (v := (.pointer (some ⟨bl, off + i * 5 + 1, none⟩))) rfl rfl (by kernel_rfl) (by kernel_rfl) (by kernel_rfl) (fun _ _ _ h => h) (by rfl) (fun w' hSw => by obtain ⟨x1, x3⟩ := hSw; go_simp) hS ?_
          simp only [List.setIfInBounds_toArray, List.set_cons_zero, List.set_cons_succ]
          refine takeW (i := 5) (d := 61) (v := (.string name)) rfl rfl (by kernel_rfl) (by kernel_rfl) (by kernel_rfl) (fun _ _ _ h => h) (by rfl) (fun w' hSw => by obtain ⟨x1, x3⟩ := hSw; go_simp) hS ?_
          simp only [List.setIfInBounds_toArray, List.set_cons_zero, List.set_cons_succ]
          refine takeW (i := 9) (d := 65) (v := (.pointer (some ⟨bl, off + i * 5, none⟩))) rfl rfl (by kernel_rfl) (by kernel_rfl) (by kernel_rfl) (fun _ _ _ h => h) (by rfl) (fun w' hSw => by obtain ⟨x1, x3⟩ := hSw; go_simp) hS ?_
          simp only [List.setIfInBounds_toArray, List.set_cons_zero, List.set_cons_succ]
          refine takeW (i := 10) (d := 66) (v := (.pointer (some ⟨bl, off + i * 5 + 3, none⟩))) rfl rfl (by kernel_rfl) (by kernel_rfl) (by kernel_rfl) (fun _ _ _ h => h) (by rfl) (fun w' hSw => by obtain ⟨x1, x3⟩ := hSw; go_simp) hS ?_
          simp only [List.setIfInBounds_toArray, List.set_cons_zero, List.set_cons_succ]
          refine takeW (i := 11) (d := 67) (v := (.bool more)) rfl rfl (by kernel_rfl) (by kernel_rfl) (by kernel_rfl) (fun _ _ _ h => h) (by rfl) (fun w' hSw => by obtain ⟨x1, x3⟩ := hSw; go_simp) hS ?_
          simp only [List.setIfInBounds_toArray, List.set_cons_zero, List.set_cons_succ]
          refine wpAnyH_ready (rs := [12]) (by kernel_rfl) (by simp) ?_
          refine AllReadyH.cons rfl (fun X hX => ?_) AllReadyH.nil
          rw [if_pos (by rfl)]
          go_simp
          refine HPR.out.mono ?_
          rintro e w5 ⟨rfl, O5, g⟩
          have R5 := Lib.hid g.run
          have B5 := Lib.hid (B4.out.drew.trans g.below)
          go_wp2_with fail
          refine hX.out _ _ ⟨(CC.out _ B5.out).2.1, (CC.out _ B5.out).2.2.2.1⟩ (fun hS2 => ?_)
          clear hX X hS g HPR
          refine takeW (i := 13) (d := 9) (v := (.int .i64 0)) rfl rfl (by kernel_rfl) (by kernel_rfl) (by kernel_rfl) (fun _ _ _ h => h) (by rfl) (fun w' hSw => by obtain ⟨x1, x3⟩ := hSw; go_simp) hS2 ?_
          simp only [List.setIfInBounds_toArray, List.set_cons_zero, List.set_cons_succ]
          refine wpAnyH_done (by kernel_rfl) ?_ _
          clear hS2
          have no2 : (nn + t.size : Nat) ≤ 65536 := HI2.out.le
          go_wp2_with fail
          have hin := HI2.out
          have d8 : decide ((65536 : Int) < ((nn + t.size : Nat) : Int)) = false := decide_eq_false (by have := hin.le; omega)
          have hle : (nn + t.size) ≤ 65536 := hin.le
          clear hin
          try unfold pt
          go_wp2_with fail
          refine (run_files HH.out w5 R5.out).mono ?_
          rintro e w9 ⟨q9, m9, c9, O9, rfl, h, g⟩
          have T9a := Lib.hid h
          have R9 := Lib.hid g.run
          have B9 := Lib.hid (B5.out.trans g.below)
          clear h g
          have hm9 : m9 ≤ 8 := by have h1 := T9a.out.at_.len; have h2 := HI2.out.few; omega
          have d9 : decide ((8 : Int) < (m9 : Int)) = false := decide_eq_false (by omega)
          go_wp2_with fail
          go_roundw
          case rel => exact ⟨trivial, trivial, trivial, trivial, nn + t.size, i + 1, by go_num, by go_num, by omega, by omega, Lib.hid ⟨_, O9, HI2.out, R9.out⟩, B9⟩
          case measure => simp [intOf]; omega
        · have HPR := Lib.hid (run_write HH.out _ R4d.out name t more (by omega))
          rw [hp] at HPR
          clear hp
          unfold pt at HPR
          go_wp2_with fail
          refine wp_region_held_drew (S := fun W' => W'.cell? ⟨bl, off + i * 5 + 1, none⟩ = some (.string name) ∧ W'.cell? ⟨bl, off + i * 5 + 3, none⟩ = some (.bool more)) (by kernel_rfl) ?_ (fun hS => ?_)
          · exact ⟨(CC.out _ (B4.out.drew)).2.1, (CC.out _ (B4.out.drew)).2.2.2.1⟩
          clear c0 c1 c2 c3 c4
          refine takeW (i := 0) (d := 56) (v := (.pointer (some ⟨b, 0, none⟩))) rfl rfl (by kernel_rfl) (by kernel_rfl) (by kernel_rfl) (fun _ _ _ h => h) (by rfl) (fun w' hSw => by obtain ⟨x1, x3⟩ := hSw; go_simp) hS ?_
          simp only [List.setIfInBounds_toArray, List.set_cons_zero, List.set_cons_succ]
          refine takeW (i := 1) (d := 57) (v := (.slice (some ⟨bl, off, none⟩) n cap)) rfl rfl (by kernel_rfl) (by kernel_rfl) (by kernel_rfl) (fun _ _ _ h => h) (by rfl) (fun w' hSw => by obtain ⟨x1, x3⟩ := hSw; go_simp) hS ?_
          simp only [List.setIfInBounds_toArray, List.set_cons_zero, List.set_cons_succ]
          refine takeW (i := 2) (d := 58) (v := (.int .i64 i)) rfl rfl (by kernel_rfl) (by kernel_rfl) (by kernel_rfl) (fun _ _ _ h => h) (by rfl) (fun w' hSw => by obtain ⟨x1, x3⟩ := hSw; go_simp) hS ?_
          simp only [List.setIfInBounds_toArray, List.set_cons_zero, List.set_cons_succ]
          refine takeW (i := 6) (d := 62) (v := (.string t)) rfl rfl (by kernel_rfl) (by kernel_rfl) (by kernel_rfl) (fun _ _ _ h => h) (by rfl) (fun w' hSw => by obtain ⟨x1, x3⟩ := hSw; go_simp) hS ?_
          simp only [List.setIfInBounds_toArray, List.set_cons_zero, List.set_cons_succ]
          refine takeW (i := 7) (d := 63) (v := (.slice (some ⟨bl, off, none⟩) n cap)) rfl rfl (by kernel_rfl) (by kernel_rfl) (by kernel_rfl) (fun _ _ _ h => h) (by rfl) (fun w' hSw => by obtain ⟨x1, x3⟩ := hSw; go_simp) hS ?_
          simp only [List.setIfInBounds_toArray, List.set_cons_zero, List.set_cons_succ]
          refine takeW (i := 8) (d := 64) (v := (.int .i64 i)) rfl rfl (by kernel_rfl) (by kernel_rfl) (by kernel_rfl) (fun _ _ _ h => h) (by rfl) (fun w' hSw => by obtain ⟨x1, x3⟩ := hSw; go_simp) hS ?_
          simp only [List.setIfInBounds_toArray, List.set_cons_zero, List.set_cons_succ]
          refine takeW (i := 3) (d := 59) (v := (.pointer (some ⟨bl, off + i * 5, none⟩))) rfl rfl (by kernel_rfl) (by kernel_rfl) (by kernel_rfl) (fun _ _ _ h => h) (by rfl) (fun w' hSw => by obtain ⟨x1, x3⟩ := hSw; go_simp) hS ?_
          simp only [List.setIfInBounds_toArray, List.set_cons_zero, List.set_cons_succ]
          refine takeW (i := 4) (d := 60) (v := (.pointer (some ⟨bl, off + i * 5 + 1, none⟩))) rfl rfl (by kernel_rfl) (by kernel_rfl) (by kernel_rfl) (fun _ _ _ h => h) (by rfl) (fun w' hSw => by obtain ⟨x1, x3⟩ := hSw; go_simp) hS ?_
          simp only [List.setIfInBounds_toArray, List.set_cons_zero, List.set_cons_succ]
          refine takeW (i := 5) (d := 61) (v := (.string name)) rfl rfl (by kernel_rfl) (by kernel_rfl) (by kernel_rfl) (fun _ _ _ h => h) (by rfl) (fun w' hSw => by obtain ⟨x1, x3⟩ := hSw; go_simp) hS ?_
          simp only [List.setIfInBounds_toArray, List.set_cons_zero, List.set_cons_succ]
          refine takeW (i := 9) (d := 65) (v := (.pointer (some ⟨bl, off + i * 5, none⟩))) rfl rfl (by kernel_rfl) (by kernel_rfl) (by kernel_rfl) (fun _ _ _ h => h) (by rfl) (fun w' hSw => by obtain ⟨x1, x3⟩ := hSw; go_simp) hS ?_
          simp only [List.setIfInBounds_toArray, List.set_cons_zero, List.set_cons_succ]
          refine takeW (i := 10) (d := 66) (v := (.pointer (some ⟨bl, off + i * 5 + 3, none⟩))) rfl rfl (by kernel_rfl) (by kernel_rfl) (by kernel_rfl) (fun _ _ _ h => h) (by rfl) (fun w' hSw => by obtain ⟨x1, x3⟩ := hSw; go_simp) hS ?_
          simp only [List.setIfInBounds_toArray, List.set_cons_zero, List.set_cons_succ]
          refine takeW (i := 11) (d := 67) (v := (.bool more)) rfl rfl (by kernel_rfl) (by kernel_rfl) (by kernel_rfl) (fun _ _ _ h => h) (by rfl) (fun w' hSw => by obtain ⟨x1, x3⟩ := hSw; go_simp) hS ?_
          simp only [List.setIfInBounds_toArray, List.set_cons_zero, List.set_cons_succ]
          refine wpAnyH_ready (rs := [12]) (by kernel_rfl) (by simp) ?_
          refine AllReadyH.cons rfl (fun X hX => ?_) AllReadyH.nil
          rw [if_pos (by rfl)]
          go_simp
          refine HPR.out.mono ?_
          rintro e w5 ⟨rfl, O5, g⟩
          have R5 := Lib.hid g.run
          have B5 := Lib.hid (B4.out.drew.trans g.below)
          have T5 := Lib.hid (T4d.out.went g)
          go_wp2_with fail
          refine hX.out _ _ ⟨(CC.out _ B5.out).2.1, (CC.out _ B5.out).2.2.2.1⟩ (fun hS2 => ?_)
          clear hX X hS g HPR
          refine takeW (i := 13) (d := 9) (v := (.int .i64 8)) rfl rfl (by kernel_rfl) (by kernel_rfl) (by kernel_rfl) (fun _ _ _ h => h) (by rfl) (fun w' hSw => by obtain ⟨x1, x3⟩ := hSw; go_simp) hS2 ?_
          simp only [List.setIfInBounds_toArray, List.set_cons_zero, List.set_cons_succ]
          refine wpAnyH_done (by kernel_rfl) ?_ _
          clear hS2
          try unfold pt
          go_wp2_with fail
          refine (run_files HH.out w5 R5.out).mono ?_
          rintro e w6 ⟨q6, m6, c6, O6, rfl, h, g⟩
          have T6a := Lib.hid h
          have R6 := Lib.hid g.run
          have B6 := Lib.hid (B5.out.trans g.below)
          have T6 := Lib.hid (T5.out.went g)
          clear h g
          go_wp2_with fail
          refine (fsame_any w6 _ _ _ _ _ _ _ _ T6a.out.at_ T6.out.at_).mono ?_
          rintro e w7 ⟨rfl, bb⟩
          have R7 := Lib.hid (Run.after HH.out R6.out bb)
          have B7 := Lib.hid (B6.out.trans (bb.mono (by have := B6.out.size; omega)))
          clear bb
          have hdec : decide (st.made = st.made) = true := decide_eq_true rfl
          rw [hdec]
          clear hdec
          try unfold pt
          go_wp2_with fail
          refine (run_out HH.out w7 R7.out).mono ?_
          rintro e w8 ⟨rfl, O8, h⟩
          have R8 := Lib.hid h.run
          have B8 := Lib.hid (B7.out.trans h.below)
          clear h
          have z1 : (st.out.toList == st.out.toList) = true := beq_self_eq_true _
          have hin := HI.out
          have d8 : decide ((65536 : Int) < ((nn : Nat) : Int)) = false := decide_eq_false (by have := hin.le; omega)
          have hle : (nn) ≤ 65536 := hin.le
          clear hin
          try unfold pt
          go_wp2_with fail
          refine (run_files HH.out w8 R8.out).mono ?_
          rintro e w9 ⟨q9, m9, c9, O9, rfl, h, g⟩
          have T9a := Lib.hid h
          have R9 := Lib.hid g.run
          have B9 := Lib.hid (B8.out.trans g.below)
          clear h g
          have hm9 : m9 ≤ 8 := by have h1 := T9a.out.at_.len; have h2 := HI.out.few; omega
          have d9 : decide ((8 : Int) < (m9 : Int)) = false := decide_eq_false (by omega)
          go_wp2_with fail
          go_roundw
          case rel => exact ⟨trivial, trivial, trivial, trivial, nn, i + 1, by go_num, by go_num, by omega, by omega, Lib.hid ⟨_, O9, HI.out, R9.out⟩, B9⟩
          case measure => simp [intOf]; omega
    · obtain ⟨st, O, hinv, hrun⟩ := HR.out
      have RR := Lib.hid hrun
      have HLv := Lib.hid (HLV.out _ RR.out.below)
      clear hinv hrun HR
      have hstop : (¬ i < n ∧ decide ((i : Int) < n) = false ∧ decide (i < n) = false) ∨ (decide ((i : Int) < n) = true ∧ decide (i < n) = true ∧ ¬ i < 40 ∧ decide ((i : Int) < 40) = false ∧ decide (i < 40) = false) := by
        by_cases h1 : i < n
        · exact Or.inr ⟨decide_eq_true (by omega), decide_eq_true h1, by omega, decide_eq_false (by omega), decide_eq_false (by omega)⟩
        · exact Or.inl ⟨h1, decide_eq_false (by omega), decide_eq_false h1⟩
      clear hlt
      rcases hstop with ⟨g1, d1, d2⟩ | ⟨d1, d2, g1, d3, d4⟩
      all_goals
        go_wp2_with fail
        refine HLv.out.mono ?_
        rintro e w4 ⟨rfl, bb⟩
        have B4 := Lib.hid (hb.out.trans (bb.mono (by have := hb.out.size; omega)))
        clear bb
        go_wp2_with fail
        go_ret
        exact ⟨rfl, B4.out⟩
end Go.Proofs.Ytpifpokbkjddjaa
