/- LexOrder: the tokens of any text have places that rise, and each but texts and patterns stands where it says: the law returns true, and its argument reads as before. No condition. -/
import Derived.Test.YtejofdhpegcmjaaPost
import Derived.Test.YtejofdhpegcmjaaLexOp
namespace Go.Proofs.Ytejofdhpegcmjaa.lexOrder
open Go.ChangeShapes Go.WideShapes Go.ChangeAt Go.RowKit Go.ChangeMaps

/-- A slice's three cells. -/
theorem toks_get {w : World} {g cap : Nat} {l : List Tp} (h : ToksAt w g cap l) (i : Nat) (hi : i < l.length) : w.cell? ⟨g, i * 3, none⟩ = some (.int .i64 l[i].1) ∧ w.cell? ⟨g, i * 3 + 1, none⟩ = some (.string ⟨l[i].2.1.toArray⟩) ∧ w.cell? ⟨g, i * 3 + 2, none⟩ = some (.int .i64 (l[i].2.2 : Nat)) := by
  obtain ⟨h1, h2, h3⟩ := toksV_get l i hi
  exact ⟨h.cell _ _ h1, h.cell _ _ h2, h.cell _ _ h3⟩

set_option maxRecDepth 100000 in
set_option maxHeartbeats 4000000 in
theorem walk (s : ByteArray) (hs : s.size ≤ maxLen) (w : World) :
    Calls Try.prog 5 #[.string s] w fun e w' => e = .returned (.bool true) ∧ Below w.heap.size w w' := by
  unfold maxLen at hs
  have HV := Lib.hid (fun w => lives w)
  have HW := Lib.hid (fun w => words_any s (by omega) w)
  cases ht : wordsTop s.data.toList with
  | bad a x =>
    have hx := top_bad ht
    rw [ht] at HW
    have hxb : (x != 0) = true := by simpa using hx
    clear hx ht
    go_enter Try.func5, Try.ntmps5
    go_wp2_with fail
    refine (HW.out _).mono ?_
    rintro e w1 ⟨a1, rfl⟩
    have A1 := Lib.hid a1; clear a1
    go_wp2_with fail
    refine (HV.out _).mono ?_
    rintro e w2 ⟨rfl, a2⟩
    have A2 := Lib.hid (Below.step A1.out a2); clear a2
    go_wp2_with fail
    go_ret
    exact ⟨rfl, A2.out⟩
  | ok l =>
    obtain ⟨ho, hs8⟩ := top_ord ht
    rw [← Lib.size_eq] at hs8
    have hn := top_count ht
    have HO := Lib.hid ho
    have HNE := Lib.hid (List.length_pos_iff.2 ho.ne)
    rw [ht] at HW
    obtain ⟨n, hnl⟩ : ∃ n, n = l.length := ⟨_, rfl⟩
    have HW2 : Hid (∀ w, Calls Try.prog 14 #[.string s] w fun e w' => Below w.heap.size w w' ∧ ∃ g cap, e = .returned (.tuple #[.slice (some ⟨g, 0, none⟩) n cap, .int .i64 0, .int .i64 0]) ∧ ToksAt w' g cap l) := Lib.hid (fun w => by rw [hnl]; exact HW.out w)
    rw [← hnl] at hn HNE
    have HNl := Lib.hid hnl
    clear ht ho HW hnl
    go_enter Try.func5, Try.ntmps5
    go_wp2_with fail
    refine (HW2.out _).mono ?_
    rintro e w1 ⟨a1, g, cap, rfl, T1⟩
    have A1 := Lib.hid a1; clear a1
    have HT1 := Lib.hid T1
    clear T1 HW2
    go_wp2_with fail
    go_loopw [6] (fun y wr => ∃ i : Nat, y = .int .i64 i ∧ i ≤ n ∧ Hid (Below w1.heap.size w1 wr)) (fun y _ => n - (intOf y).toNat)
    case atStart => exact ⟨0, rfl, Nat.zero_le _, Lib.hid (Below.refl _ _)⟩
    case round =>
      obtain ⟨i, rfl, hi, hB⟩ := hrel
      by_cases hgo : i < n
      · have hgl : i < l.length := by rw [← HNl.out]; exact hgo
        have HT := Lib.hid (HT1.out.after hB.out)
        obtain ⟨c0, c1, c2⟩ := toks_get HT.out i hgl
        obtain ⟨o1, o2, o3⟩ := HO.out.get i hgl
        have o4 := fun j (hj : j + 1 = i) => HO.out.rise j (by rw [hj]; exact hgl)
        obtain ⟨K, hK⟩ : ∃ K : Int, K = l[i].1 := ⟨_, rfl⟩
        obtain ⟨S, hS⟩ : ∃ S : ByteArray, S = ⟨l[i].2.1.toArray⟩ := ⟨_, rfl⟩
        obtain ⟨A, hA⟩ : ∃ A : Nat, A = l[i].2.2 := ⟨_, rfl⟩
        have hSl : S.data.toList = l[i].2.1 := by rw [hS]
        rw [← hK] at c0 o2 o3
        rw [← hS] at c1
        rw [← hA] at c2 o1 o3
        rw [← hSl] at o3
        rw [← Lib.size_eq] at o1 o3
        rw [← HNl.out] at o2
        have HA := Lib.hid hA
        have HK := Lib.hid hK
        have O4 := Lib.hid o4
        have O3 := Lib.hid o3
        have O2 := Lib.hid o2
        clear hK hS hA hSl o3 o4 o2
        go_upto_region 8 with (fail)
        obtain ⟨V, hV, d0, d1, d2, HBV, HTV⟩ : ∃ V, V = wr.alloc (.cells #[.int .i64 K, .string S, .int .i64 A] 30) ∧ V.cell? ⟨wr.heap.size, 0, none⟩ = some (.int .i64 K) ∧ V.cell? ⟨wr.heap.size, 1, none⟩ = some (.string S) ∧ V.cell? ⟨wr.heap.size, 2, none⟩ = some (.int .i64 A) ∧ Hid (Below w1.heap.size w1 V) ∧ Hid (ToksAt V g cap l) :=
          ⟨_, rfl, (TkB.new wr K S A).c0, (TkB.new wr K S A).c1, (TkB.new wr K S A).c2, Lib.hid (Below.step hB.out (below_new wr _)), Lib.hid (HT.out.after (below_new wr _))⟩
        change Code.wp _ _ _ _ (wr.alloc (Obj.cells #[.int .i64 K, .string S, .int .i64 A] 30))
        rw [← hV]
        clear hV c0 c1 c2
        obtain ⟨n1, hn1⟩ : ∃ n1, n1 = n - 1 := ⟨_, rfl⟩
        have wn : (n : Int) - 1 = (n1 : Int) := by have := HNE.out; omega
        obtain ⟨bK, hbK⟩ : ∃ bK, bK = (K == 0) := ⟨_, rfl⟩
        have q1 : (K == 0) = bK := hbK.symm
        have q2 : ((i : Int) == (n1 : Int)) = bK := by
          rw [hbK]
          by_cases h : K = 0
          · have : i + 1 = n := O2.out.1 h
            rw [h]; simp; omega
          · have : ¬ i + 1 = n := fun e => h (O2.out.2 e)
            have h2 : (K == 0) = false := by simpa using h
            rw [h2]; simp; omega
        have q3 : (i == n1) = bK := by
          rw [← q2]
          by_cases h : i = n1
          · subst h; simp
          · have h1 : (i == n1) = false := by simpa using h
            rw [h1]; symm; simp; omega
        have q4 : (bK != bK) = false := by cases bK <;> rfl
        have f1 : decide ((A : Int) < 0) = false := decide_eq_false (by omega)
        have f2 : decide ((s.size : Int) < (A : Int)) = false := decide_eq_false (by omega)
        have f3 : decide (s.size < A) = false := decide_eq_false (by omega)
        clear hbK hn1
        by_cases i0 : i = 0
        · have f4 : decide ((0 : Int) < (i : Int)) = false := decide_eq_false (by omega)
          have f5 : decide (0 < i) = false := decide_eq_false (by omega)
          clear i0 O4
          go_quiet (fail)
          go_wp2_with fail
          have TXT : (K = 3) ∨ (K = 4) ∨ (K ≠ 3 ∧ K ≠ 4) := by omega
          rcases TXT with h3 | h4 | ⟨h3, h4⟩
          · have k3 : (K != 3) = false := by rw [h3]; rfl
            have k3' : (K == 3) = true := by rw [h3]; rfl
            clear h3
            go_quiet (fail)
            go_wp2_with fail
            go_roundw
            case rel => exact ⟨i + 1, by go_num, by omega, Lib.hid (Below.drewN' HBV.out _)⟩
            case measure => simp [intOf]; omega
          · have k3 : (K != 3) = true := by rw [h4]; rfl
            have k3' : (K == 3) = false := by rw [h4]; rfl
            have k4 : (K != 4) = false := by rw [h4]; rfl
            have k4' : (K == 4) = true := by rw [h4]; rfl
            clear h4
            go_quiet (fail)
            go_wp2_with fail
            go_roundw
            case rel => exact ⟨i + 1, by go_num, by omega, Lib.hid (Below.drewN' HBV.out _)⟩
            case measure => simp [intOf]; omega
          · have k3 : (K != 3) = true := by simpa using h3
            have k3' : (K == 3) = false := by simpa using h3
            have k4 : (K != 4) = true := by simpa using h4
            have k4' : (K == 4) = false := by simpa using h4
            obtain ⟨p1, p2⟩ := O3.out h3 h4
            clear h3 h4
            obtain ⟨z, hz⟩ : ∃ z, z = S.size := ⟨_, rfl⟩
            rw [← hz] at p1 p2
            rw [← Lib.size_eq] at p1
            obtain ⟨d, hd⟩ : ∃ d, d = s.size - A := ⟨_, rfl⟩
            have w1' : (s.size : Int) - (A : Int) = (d : Int) := by omega
            obtain ⟨E, hE⟩ : ∃ E, E = A + z := ⟨_, rfl⟩
            have w2' : (A : Int) + (z : Int) = (E : Int) := by omega
            have hSz : (S.size : Int) = (z : Int) := by rw [hz]
            have hx : (s.extract A E).toList = S.toList := by
              rw [Lib.toList_data, Lib.toList_data, extract_list, hE, show A + z - A = z from by omega]; exact p2
            have x1 : ((s.extract A E).toList == S.toList) = true := by rw [hx]; exact beq_self_eq_true _
            have x2 : ((s.extract A E).toList != S.toList) = false := by rw [hx]; simp
            have r1 : decide ((d : Int) < (z : Int)) = false := decide_eq_false (by omega)
            have r2 : decide (d < z) = false := decide_eq_false (by omega)
            have r3 : decide ((d : Int) < (S.size : Int)) = false := decide_eq_false (by omega)
            have r4 : decide (d < S.size) = false := decide_eq_false (by omega)
            have y1 : A ≤ E := by omega
            have y2 : E ≤ s.size := by omega
            clear hx p1 p2 hd hE
            have HZ := Lib.hid hz
            clear hz
            go_quiet (fail)
            go_wp2_with fail
            go_roundw
            case rel => exact ⟨i + 1, by go_num, by omega, Lib.hid (Below.drewN' HBV.out _)⟩
            case measure => simp [intOf]; omega
        · have f4 : decide ((0 : Int) < (i : Int)) = true := decide_eq_true (by omega)
          have f5 : decide (0 < i) = true := decide_eq_true (by omega)
          obtain ⟨j, hj⟩ : ∃ j, j + 1 = i := ⟨i - 1, by omega⟩
          have hjl : j < l.length := by omega
          have wij : (i : Int) - 1 = (j : Int) := by omega
          have hrise := O4.out j hj
          have e2 := (toks_get HTV.out j hjl).2.2
          obtain ⟨A', hA'⟩ : ∃ A' : Nat, A' = l[j].2.2 := ⟨_, rfl⟩
          have hlt' : A' < A := by
            have h1 := HA.out
            rw [hA', h1]
            have : l[i] = l[j + 1] := by congr 1; exact hj.symm
            rw [this]
            exact hrise
          rw [← hA'] at e2
          have f6 : decide ((A : Int) ≤ (A' : Int)) = false := decide_eq_false (by omega)
          have f7 : decide (A ≤ A') = false := decide_eq_false (by omega)
          have hjn : j < n := by rw [HNl.out]; exact hjl
          clear i0 O4 hrise hA' hlt' hj hjl
          go_quiet (fail)
          go_wp2_with fail
          have TXT : (K = 3) ∨ (K = 4) ∨ (K ≠ 3 ∧ K ≠ 4) := by omega
          rcases TXT with h3 | h4 | ⟨h3, h4⟩
          · have k3 : (K != 3) = false := by rw [h3]; rfl
            have k3' : (K == 3) = true := by rw [h3]; rfl
            clear h3
            go_quiet (fail)
            go_wp2_with fail
            go_roundw
            case rel => exact ⟨i + 1, by go_num, by omega, Lib.hid (Below.drewN' HBV.out _)⟩
            case measure => simp [intOf]; omega
          · have k3 : (K != 3) = true := by rw [h4]; rfl
            have k3' : (K == 3) = false := by rw [h4]; rfl
            have k4 : (K != 4) = false := by rw [h4]; rfl
            have k4' : (K == 4) = true := by rw [h4]; rfl
            clear h4
            go_quiet (fail)
            go_wp2_with fail
            go_roundw
            case rel => exact ⟨i + 1, by go_num, by omega, Lib.hid (Below.drewN' HBV.out _)⟩
            case measure => simp [intOf]; omega
          · have k3 : (K != 3) = true := by simpa using h3
            have k3' : (K == 3) = false := by simpa using h3
            have k4 : (K != 4) = true := by simpa using h4
            have k4' : (K == 4) = false := by simpa using h4
            obtain ⟨p1, p2⟩ := O3.out h3 h4
            clear h3 h4
            obtain ⟨z, hz⟩ : ∃ z, z = S.size := ⟨_, rfl⟩
            rw [← hz] at p1 p2
            rw [← Lib.size_eq] at p1
            obtain ⟨d, hd⟩ : ∃ d, d = s.size - A := ⟨_, rfl⟩
            have w1' : (s.size : Int) - (A : Int) = (d : Int) := by omega
            obtain ⟨E, hE⟩ : ∃ E, E = A + z := ⟨_, rfl⟩
            have w2' : (A : Int) + (z : Int) = (E : Int) := by omega
            have hSz : (S.size : Int) = (z : Int) := by rw [hz]
            have hx : (s.extract A E).toList = S.toList := by
              rw [Lib.toList_data, Lib.toList_data, extract_list, hE, show A + z - A = z from by omega]; exact p2
            have x1 : ((s.extract A E).toList == S.toList) = true := by rw [hx]; exact beq_self_eq_true _
            have x2 : ((s.extract A E).toList != S.toList) = false := by rw [hx]; simp
            have r1 : decide ((d : Int) < (z : Int)) = false := decide_eq_false (by omega)
            have r2 : decide (d < z) = false := decide_eq_false (by omega)
            have r3 : decide ((d : Int) < (S.size : Int)) = false := decide_eq_false (by omega)
            have r4 : decide (d < S.size) = false := decide_eq_false (by omega)
            have y1 : A ≤ E := by omega
            have y2 : E ≤ s.size := by omega
            clear hx p1 p2 hd hE
            have HZ := Lib.hid hz
            clear hz
            go_quiet (fail)
            go_wp2_with fail
            go_roundw
            case rel => exact ⟨i + 1, by go_num, by omega, Lib.hid (Below.drewN' HBV.out _)⟩
            case measure => simp [intOf]; omega
      · have hin : i = n := by omega
        subst hin
        have hb : decide ((0 : Int) < (i : Int)) = true := decide_eq_true (by have := HNE.out; omega)
        have hb2 : decide (0 < i) = true := decide_eq_true HNE.out
        go_wp2_with fail
        refine (HV.out _).mono ?_
        rintro e w2 ⟨rfl, a2⟩
        have A2 := Lib.hid (Below.step (Below.step A1.out hB.out) a2); clear a2
        go_wp2_with fail
        go_ret
        exact ⟨rfl, A2.out⟩

set_option maxRecDepth 100000 in
theorem lifted (os : Os) (started : os.Started) (H : Type) (enc : TypeId × Value → H) :
    ReturnsInHanded {} Try.checked os 5 .any (Rows.lexOrderSpec.pre6 enc Try.prog Try.f5 Rows.lexOrderRow.domain false) (Rows.lexOrderSpec.post enc Try.prog Try.f5 false true false false) := by
  refine returnsInHanded_of_change_shaped (C := Try.checked) own started (by kernel_rfl) Try.func5
    (ChangeSpec.witness6 (enc := enc) (C := Try.checked) false ⟨#[], #[.string ⟨#[]⟩], []⟩ 8 (by kernel_rfl) (by kernel_rfl) (by kernel_rfl) (by kernel_rfl)) ?_
  intro W base args ds gs before hval0 hW _ _ hsh _
  have hval : ∀ (j : Nat) t v, Try.f5.params[j]? = some t → args[j]? = some v → Value.okWide Try.prog W .any base t v := hval0
  have hW' := hW
  obtain ⟨p, q, hA0, hV, rfl, hfz, hnd⟩ := hW
  have hA : DataW.TrodAll enc Try.prog W 0 (fun _ => true) true Try.f5.params.toList args.toList ds p := hA0
  rw [Try.params5] at hA hval
  obtain ⟨v0, vs0, d0, ds0, p0, q0, hargs, rfl, rfl, h0, r0⟩ := trodAll_cons hA
  obtain ⟨rfl, rfl, rfl⟩ := trodAll_nil r0
  obtain rfl : args = #[v0] := by cases args; simp_all
  obtain ⟨rfl, rfl⟩ := trodVars_none hV
  obtain ⟨a0, rfl, rfl, rfl, w0⟩ := open_string Try.underlying9 (hval 0 9 v0 rfl rfl) h0
  clear hA0 hval0
  simp only [List.append_nil] at hW'
  refine (walk a0 w0 W).mono fun e W' ⟨he, hg⟩ => ?_
  subst he
  exact ⟨_, rfl, post_bare hW' (fun _ _ _ => (trodAll_cons_mk (shut_bool Try.underlying4 _) trodAll_mk0)) (fun sp => (trodAll_cons_mk (shut_string Try.underlying9 w0) trodAll_mk0)) (fun _ => rfl) hg⟩

theorem proved : Rows.LexOrderSaid :=
  OpenClaim.holds_of_wide 5 Try.f5 rfl rfl rfl rfl rfl rfl rfl ⟨rfl, rfl, rfl, rfl, rfl⟩ rfl rfl rfl rfl rfl (by kernel_rfl) Try.func5 (by kernel_rfl)
    (of_decide_eq_true (by kernel_rfl)) (by unfold Func.isWrapper; first | (rw [if_pos (by decide +kernel)]; kernel_rfl) | (rw [if_neg (by decide +kernel)]; exact ⟨rfl, rfl⟩))
    (fun os started H enc _ => lifted os started H enc)
#print axioms proved
end Go.Proofs.Ytejofdhpegcmjaa.lexOrder
