/- Merged by program: K15T, K15G. -/
import Derived.Test.YtbbhcbpfffabpaaGreatDoorGbm
import Derived.Test.YtbbhcbpfffabpaaGreatDoorGbn
/- The program's takes (gen_k15f.py). -/
namespace Go.Proofs.YtbbhcbpfffabpaaGreatDoor
open Go.RowKit T3

theorem ne_bytesK {g : ByteArray} {l : List UInt8} (h : g ≠ ⟨l.toArray⟩) : (g.toList == l) = false := by
  rw [beq_eq_false_iff_ne]
  intro e
  rw [Lib.toList_data] at e
  exact h (by cases g with | mk d => exact congrArg ByteArray.mk (by rw [← e]))
/-- Whether there is such a function of so many cells. -/
def takesB (g : ByteArray) (n : Nat) : Bool :=
  if g = ⟨#[108, 101, 110, 103, 116, 104]⟩ then decide (n = 1) else if g = ⟨#[105, 110, 116]⟩ then decide (n = 1) else if g = ⟨#[116, 111, 108, 111, 119, 101, 114]⟩ then decide (n = 1) else if g = ⟨#[116, 111, 117, 112, 112, 101, 114]⟩ then decide (n = 1) else if g = ⟨#[105, 110, 100, 101, 120]⟩ then decide (n = 2) else if g = ⟨#[115, 117, 98, 115, 116, 114]⟩ then (decide (n = 2) || decide (n = 3)) else if g = ⟨#[115, 112, 114, 105, 110, 116, 102]⟩ then decide (1 ≤ n) else false

set_option maxRecDepth 100000 in
set_option maxHeartbeats 1000000 in
theorem takes_length (n : Nat) (w : World) : Calls Tryz.prog 10 #[.string ⟨#[108, 101, 110, 103, 116, 104]⟩, .int .i64 (n : Nat)] w fun e w' => e = .returned (.bool (takesB ⟨#[108, 101, 110, 103, 116, 104]⟩ n)) ∧ Below w.heap.size w w' := by
  have HT : Hid (takesB ⟨#[108, 101, 110, 103, 116, 104]⟩ n = ((n : Int) == 1)) := Lib.hid (by rw [show takesB ⟨#[108, 101, 110, 103, 116, 104]⟩ n = decide (n = 1) from by simp [takesB]]; rw [Bool.eq_iff_iff, decide_eq_true_iff, beq_iff_eq]; omega)
  go_enter Tryz.func10, Tryz.ntmps10
  go_wp2_with fail
  go_ret
  exact ⟨by rw [HT.out]; rfl, by first | exact Below.refl _ _ | exact below_drew _ | exact Below.drewN' (Below.refl _ _) _⟩

set_option maxRecDepth 100000 in
set_option maxHeartbeats 1000000 in
theorem takes_int (n : Nat) (w : World) : Calls Tryz.prog 10 #[.string ⟨#[105, 110, 116]⟩, .int .i64 (n : Nat)] w fun e w' => e = .returned (.bool (takesB ⟨#[105, 110, 116]⟩ n)) ∧ Below w.heap.size w w' := by
  have HT : Hid (takesB ⟨#[105, 110, 116]⟩ n = ((n : Int) == 1)) := Lib.hid (by rw [show takesB ⟨#[105, 110, 116]⟩ n = decide (n = 1) from by simp [takesB]]; rw [Bool.eq_iff_iff, decide_eq_true_iff, beq_iff_eq]; omega)
  go_enter Tryz.func10, Tryz.ntmps10
  go_wp2_with fail
  go_ret
  exact ⟨by rw [HT.out]; rfl, by first | exact Below.refl _ _ | exact below_drew _ | exact Below.drewN' (Below.refl _ _) _⟩

set_option maxRecDepth 100000 in
set_option maxHeartbeats 1000000 in
theorem takes_tolower (n : Nat) (w : World) : Calls Tryz.prog 10 #[.string ⟨#[116, 111, 108, 111, 119, 101, 114]⟩, .int .i64 (n : Nat)] w fun e w' => e = .returned (.bool (takesB ⟨#[116, 111, 108, 111, 119, 101, 114]⟩ n)) ∧ Below w.heap.size w w' := by
  have HT : Hid (takesB ⟨#[116, 111, 108, 111, 119, 101, 114]⟩ n = ((n : Int) == 1)) := Lib.hid (by rw [show takesB ⟨#[116, 111, 108, 111, 119, 101, 114]⟩ n = decide (n = 1) from by simp [takesB]]; rw [Bool.eq_iff_iff, decide_eq_true_iff, beq_iff_eq]; omega)
  go_enter Tryz.func10, Tryz.ntmps10
  go_wp2_with fail
  go_ret
  exact ⟨by rw [HT.out]; rfl, by first | exact Below.refl _ _ | exact below_drew _ | exact Below.drewN' (Below.refl _ _) _⟩

set_option maxRecDepth 100000 in
set_option maxHeartbeats 1000000 in
theorem takes_toupper (n : Nat) (w : World) : Calls Tryz.prog 10 #[.string ⟨#[116, 111, 117, 112, 112, 101, 114]⟩, .int .i64 (n : Nat)] w fun e w' => e = .returned (.bool (takesB ⟨#[116, 111, 117, 112, 112, 101, 114]⟩ n)) ∧ Below w.heap.size w w' := by
  have HT : Hid (takesB ⟨#[116, 111, 117, 112, 112, 101, 114]⟩ n = ((n : Int) == 1)) := Lib.hid (by rw [show takesB ⟨#[116, 111, 117, 112, 112, 101, 114]⟩ n = decide (n = 1) from by simp [takesB]]; rw [Bool.eq_iff_iff, decide_eq_true_iff, beq_iff_eq]; omega)
  go_enter Tryz.func10, Tryz.ntmps10
  go_wp2_with fail
  go_ret
  exact ⟨by rw [HT.out]; rfl, by first | exact Below.refl _ _ | exact below_drew _ | exact Below.drewN' (Below.refl _ _) _⟩

set_option maxRecDepth 100000 in
set_option maxHeartbeats 1000000 in
theorem takes_index (n : Nat) (w : World) : Calls Tryz.prog 10 #[.string ⟨#[105, 110, 100, 101, 120]⟩, .int .i64 (n : Nat)] w fun e w' => e = .returned (.bool (takesB ⟨#[105, 110, 100, 101, 120]⟩ n)) ∧ Below w.heap.size w w' := by
  have HT : Hid (takesB ⟨#[105, 110, 100, 101, 120]⟩ n = ((n : Int) == 2)) := Lib.hid (by rw [show takesB ⟨#[105, 110, 100, 101, 120]⟩ n = decide (n = 2) from by simp [takesB]]; rw [Bool.eq_iff_iff, decide_eq_true_iff, beq_iff_eq]; omega)
  go_enter Tryz.func10, Tryz.ntmps10
  go_wp2_with fail
  go_ret
  exact ⟨by rw [HT.out]; rfl, by first | exact Below.refl _ _ | exact below_drew _ | exact Below.drewN' (Below.refl _ _) _⟩

set_option maxRecDepth 100000 in
set_option maxHeartbeats 1000000 in
theorem takes_sprintf (n : Nat) (w : World) : Calls Tryz.prog 10 #[.string ⟨#[115, 112, 114, 105, 110, 116, 102]⟩, .int .i64 (n : Nat)] w fun e w' => e = .returned (.bool (takesB ⟨#[115, 112, 114, 105, 110, 116, 102]⟩ n)) ∧ Below w.heap.size w w' := by
  have HT : Hid (takesB ⟨#[115, 112, 114, 105, 110, 116, 102]⟩ n = decide ((1 : Int) ≤ (n : Int))) := Lib.hid (by rw [show takesB ⟨#[115, 112, 114, 105, 110, 116, 102]⟩ n = decide (1 ≤ n) from by simp [takesB]]; simp [decide_eq_decide]; omega)
  go_enter Tryz.func10, Tryz.ntmps10
  go_wp2_with fail
  go_ret
  exact ⟨by rw [HT.out]; rfl, by first | exact Below.refl _ _ | exact below_drew _ | exact Below.drewN' (Below.refl _ _) _⟩

set_option maxRecDepth 100000 in
set_option maxHeartbeats 1000000 in
theorem takes_substr (n : Nat) (w : World) : Calls Tryz.prog 10 #[.string ⟨#[115, 117, 98, 115, 116, 114]⟩, .int .i64 (n : Nat)] w fun e w' => e = .returned (.bool (takesB ⟨#[115, 117, 98, 115, 116, 114]⟩ n)) ∧ Below w.heap.size w w' := by
  have HT : Hid (takesB ⟨#[115, 117, 98, 115, 116, 114]⟩ n = (decide (n = 2) || decide (n = 3))) := Lib.hid (by simp [takesB])
  by_cases h2 : n = 2
  · subst h2
    have HF : Hid (takesB ⟨#[115, 117, 98, 115, 116, 114]⟩ 2 = true) := Lib.hid (by rw [HT.out]; rfl)
    go_enter Tryz.func10, Tryz.ntmps10
    go_wp2_with fail
    go_ret
    exact ⟨by rw [HF.out]; rfl, by first | exact Below.refl _ _ | exact below_drew _ | exact Below.drewN' (Below.refl _ _) _⟩
  · have d2 : ((n : Int) == 2) = false := by rw [beq_eq_false_iff_ne]; omega
    by_cases h3 : n = 3
    · subst h3
      have HF : Hid (takesB ⟨#[115, 117, 98, 115, 116, 114]⟩ 3 = true) := Lib.hid (by rw [HT.out]; rfl)
      clear d2 h2
      go_enter Tryz.func10, Tryz.ntmps10
      go_wp2_with fail
      go_ret
      exact ⟨by rw [HF.out]; rfl, by first | exact Below.refl _ _ | exact below_drew _ | exact Below.drewN' (Below.refl _ _) _⟩
    · have d3 : ((n : Int) == 3) = false := by rw [beq_eq_false_iff_ne]; omega
      have HF : Hid (takesB ⟨#[115, 117, 98, 115, 116, 114]⟩ n = false) := Lib.hid (by rw [HT.out]; simp [h2, h3])
      clear h2 h3
      go_enter Tryz.func10, Tryz.ntmps10
      go_wp2_with fail
      go_ret
      exact ⟨by rw [HF.out]; rfl, by first | exact Below.refl _ _ | exact below_drew _ | exact Below.drewN' (Below.refl _ _) _⟩

set_option maxRecDepth 100000 in
set_option maxHeartbeats 1000000 in
theorem takes_other (g : ByteArray) (n : Nat) (h0 : g ≠ ⟨#[108, 101, 110, 103, 116, 104]⟩) (h1 : g ≠ ⟨#[105, 110, 116]⟩) (h2 : g ≠ ⟨#[116, 111, 108, 111, 119, 101, 114]⟩) (h3 : g ≠ ⟨#[116, 111, 117, 112, 112, 101, 114]⟩) (h4 : g ≠ ⟨#[105, 110, 100, 101, 120]⟩) (h5 : g ≠ ⟨#[115, 117, 98, 115, 116, 114]⟩) (h6 : g ≠ ⟨#[115, 112, 114, 105, 110, 116, 102]⟩) (w : World) : Calls Tryz.prog 10 #[.string g, .int .i64 (n : Nat)] w fun e w' => e = .returned (.bool (takesB g n)) ∧ Below w.heap.size w w' := by
  have HT : Hid (takesB g n = false) := Lib.hid (by unfold takesB; rw [if_neg h0, if_neg h1, if_neg h2, if_neg h3, if_neg h4, if_neg h5, if_neg h6])
  have f0 : (g.toList == [108, 101, 110, 103, 116, 104]) = false := ne_bytesK h0
  have f1 : (g.toList == [105, 110, 116]) = false := ne_bytesK h1
  have f2 : (g.toList == [116, 111, 108, 111, 119, 101, 114]) = false := ne_bytesK h2
  have f3 : (g.toList == [116, 111, 117, 112, 112, 101, 114]) = false := ne_bytesK h3
  have f4 : (g.toList == [105, 110, 100, 101, 120]) = false := ne_bytesK h4
  have f5 : (g.toList == [115, 117, 98, 115, 116, 114]) = false := ne_bytesK h5
  have f6 : (g.toList == [115, 112, 114, 105, 110, 116, 102]) = false := ne_bytesK h6
  clear h0 h1 h2 h3 h4 h5 h6
  go_enter Tryz.func10, Tryz.ntmps10
  go_wp2_with fail
  go_ret
  exact ⟨by rw [HT.out]; rfl, by first | exact Below.refl _ _ | exact below_drew _ | exact Below.drewN' (Below.refl _ _) _⟩

theorem takes_all (g : ByteArray) (n : Nat) (w : World) : Calls Tryz.prog 10 #[.string g, .int .i64 (n : Nat)] w fun e w' => e = .returned (.bool (takesB g n)) ∧ Below w.heap.size w w' := by
  by_cases h0 : g = ⟨#[108, 101, 110, 103, 116, 104]⟩
  · subst h0; exact takes_length n w
  by_cases h1 : g = ⟨#[105, 110, 116]⟩
  · subst h1; exact takes_int n w
  by_cases h2 : g = ⟨#[116, 111, 108, 111, 119, 101, 114]⟩
  · subst h2; exact takes_tolower n w
  by_cases h3 : g = ⟨#[116, 111, 117, 112, 112, 101, 114]⟩
  · subst h3; exact takes_toupper n w
  by_cases h4 : g = ⟨#[105, 110, 100, 101, 120]⟩
  · subst h4; exact takes_index n w
  by_cases h5 : g = ⟨#[115, 117, 98, 115, 116, 114]⟩
  · subst h5; exact takes_substr n w
  by_cases h6 : g = ⟨#[115, 112, 114, 105, 110, 116, 102]⟩
  · subst h6; exact takes_sprintf n w
  exact takes_other g n h0 h1 h2 h3 h4 h5 h6 w
end Go.Proofs.YtbbhcbpfffabpaaGreatDoor

/- The program's Own (gen_k15f.py). -/
namespace Go.Proofs.YtbbhcbpfffabpaaGreatDoor
open Go.RowKit T3

theorem add_block (a : Addr) (n : Nat) : (a.add n).block = a.block := by
  unfold Addr.add
  split
  · rfl
  · rfl
set_option maxRecDepth 100000 in
/-- The cells behind the first ones of a slice, sliced. -/
theorem slice_low (q : Option Addr) (N c m : Nat) (h : m ≤ N) (hc : N ≤ c) (hb : c ≤ 9223372036854775807) : ∃ q2 c2, (∀ W, (Instr.sliceAt 22 (.slice q N c) (some (.int .i64 (m : Int))) none none).run Tryz.prog W = .ok (.slice q2 (N - m) c2) W) ∧ (∀ w l, CellsAt w q N c l → CellsAt w q2 (N - m) c2 (l.drop m)) ∧ ∀ a, q2 = some a → ∃ d, q = some d ∧ a.block = d.block := by
  refine ⟨if c = m then q else q.map (·.add (m * 3)), c - m, fun W => ?_, fun w l hC => ?_, fun a ha => ?_⟩
  · rw [run_sliceAt_slice _ _ _ _ _ _ Tryz.underlying22, run_slice_l _ _ _ _ _ Tryz.underlying22 .i64 (m : Int) (by omega) (by omega)]
    rw [elem_cells, Tryz.sizeOf25]
    simp only [Result.andThen, Int.toNat_natCast]
    rfl
  · have hl := hC.len
    by_cases hcm : c = m
    · have hN : N = m := by omega
      rw [if_pos hcm]
      refine ⟨by rw [List.length_drop]; omega, by omega, by omega, fun e => by omega, Or.inl (List.drop_eq_nil_of_le (by omega))⟩
    · rw [if_neg hcm]
      refine ⟨by rw [List.length_drop]; omega, by omega, by omega, fun e => ?_, ?_⟩
      · have : q = none := by
          cases q with
          | none => rfl
          | some a => exact absurd e (by simp)
        have := hC.nil this
        omega
      · rcases hC.cells with h0 | ⟨b, off, hp, hcc⟩
        · exact Or.inl (by rw [h0]; exact List.drop_nil)
        · refine Or.inr ⟨b, off + m * 3, by rw [hp]; exact congrArg some (addr_add b off (m * 3)), fun i x hi => ?_⟩
          rw [List.getElem?_drop] at hi
          have := hcc (m + i) x hi
          have e : off + m * 3 + i * 3 = off + (m + i) * 3 := by omega
          rw [e]
          exact this
  · by_cases hcm : c = m
    · rw [if_pos hcm] at ha
      exact ⟨a, ha, rfl⟩
    · rw [if_neg hcm] at ha
      cases q with
      | none => exact absurd ha (by simp)
      | some d =>
        simp only [Option.map_some, Option.some.injEq] at ha
        exact ⟨d, rfl, by rw [← ha]; exact add_block d _⟩

set_option maxRecDepth 100000 in
set_option maxHeartbeats 1000000 in
theorem kown_none (g : ByteArray) (p : Option Addr) (n cap : Nat) (h : takesB g n = false) (w : World) :
    Calls Tryz.prog 5 #[.string g, .slice p n cap] w fun e w' => e = .returned (errT 1) ∧ Below w.heap.size w w' := by
  have HI := info_cell
  have HTK := Lib.hid (fun w => by have h2 := takes_all g n w; rw [h] at h2; exact h2)
  clear h
  obtain ⟨W, hW, HR⟩ := rs_new w zeroC
  go_enter Tryz.func5, Tryz.ntmps5
  go_upto_region 1 with (fail)
  change Code.wp _ _ _ _ (w.alloc (.cells zeroC 25))
  rw [← hW]
  clear hW
  go_wp2_with fail
  refine (HTK.out _).mono ?_
  rintro e u0 ⟨rfl, bb⟩
  have R0 := Lib.hid (HR.out.after bb)
  clear bb HR
  go_wp2_with (refine wpList_store_row rfl 25 (.tmp 4) (.tmp 12) rfl w.heap.size (cellC 0 0 ⟨#[]⟩) rfl rfl 25 zeroC R0.out.r.row HI rfl (cell_one3 _ _ _) ?_)
  obtain ⟨Z, hZ, HZ⟩ : ∃ Z, Z = u0.setRow w.heap.size (cellC 0 0 ⟨#[]⟩) ∧ Hid (Rs w Z (cellC 0 0 ⟨#[]⟩)) := ⟨_, rfl, Lib.hid (R0.out.put _)⟩
  rw [← hZ]
  clear hZ
  obtain ⟨y0, y1, y2⟩ := three_of HZ.out.r
  refine bodyPost_ret (v := twoC 0 0 ⟨#[]⟩ 1) ?_ rfl ?_
  · simp [results, Tryz.results5, go_sem, y0, y1, y2, twoC, cellC]
  · exact ⟨rfl, HZ.out.below⟩

set_option maxRecDepth 100000 in
set_option maxHeartbeats 1000000 in
theorem kown_length (c : Cel) (p : Option Addr) (cap : Nat) (hc : Fits c.n ∧ c.s.size ≤ 300) (w : World) (hca : CellsAt w p 1 cap [c]) :
    Calls Tryz.prog 5 #[.string ⟨#[108, 101, 110, 103, 116, 104]⟩, .slice p 1 cap] w fun e0 w' => e0 = .returned (numA (ownRef.whole (ownRef.chars (strK c) : Nat))) ∧ Below w.heap.size w w' := by
  have HI := info_cell
  have HTK := Lib.hid (fun w => by have h2 := takes_all ⟨#[108, 101, 110, 103, 116, 104]⟩ 1 w; rw [show takesB ⟨#[108, 101, 110, 103, 116, 104]⟩ 1 = true from by simp [takesB]] at h2; exact h2)
  obtain ⟨b, off, rfl, hcl⟩ := hca.at_ (by simp)
  have HCL := Lib.hid hcl
  have hroom := hca.room
  have HSc := Lib.hid (fun w => str_p c hc.1 w)
  have Zc : Hid ((strK c).size ≤ 300) := Lib.hid (strK_size c hc.2)
  have Fc := Lib.hid hc
  obtain ⟨zc, hzc⟩ : ∃ z, z = strK c := ⟨_, rfl⟩
  rw [← hzc] at HSc Zc ⊢
  clear hcl hca hc hzc
  have hle := ownRefOk.charsLe zc Zc.out
  have HC := Lib.hid (fun w => len_p zc Zc.out w)
  obtain ⟨q, hq⟩ : ∃ q, q = ownRef.chars zc := ⟨_, rfl⟩
  rw [← hq] at HC hle ⊢
  have HWH := Lib.hid (fun w => kwhole (q : Nat) (by unfold Fits; omega) w)
  obtain ⟨k3, n3, s3, e3, hA⟩ := knumA_form (ownRef.whole (q : Nat))
  rw [hA] at HWH ⊢
  clear hA hq hle
  obtain ⟨W, hW, HR⟩ := rs_new w zeroC
  go_enter Tryz.func5, Tryz.ntmps5
  go_upto_region 1 with (fail)
  change Code.wp _ _ _ _ (w.alloc (.cells zeroC 25))
  rw [← hW]
  clear hW
  go_wp2_with fail
  refine (HTK.out _).mono ?_
  rintro e u0 ⟨rfl, bb⟩
  have R0 := Lib.hid (HR.out.after bb)
  clear bb HR
  obtain ⟨c0, c1, c2⟩ := HCL.out _ R0.out.below 0 c rfl
  simp only [Nat.zero_mul, Nat.add_zero] at c0 c1 c2
  go_wp2_with fail
  refine (HSc.out _).mono ?_
  rintro e u1 ⟨rfl, bb⟩
  have R1 := Lib.hid (R0.out.after bb)
  clear bb c0 c1 c2 R0
  go_wp2_with fail
  refine (HC.out _).mono ?_
  rintro e u2 ⟨rfl, bb⟩
  have R2 := Lib.hid (R1.out.after bb)
  clear bb  R1
  go_wp2_with fail
  refine (HWH.out _).mono ?_
  rintro e u3 ⟨rfl, bb⟩
  have R3 := Lib.hid (R2.out.after bb)
  unfold twoC
  clear bb  R2
  go_wp2_with (refine wpList_store_row rfl 25 (.tmp 4) (.tmp 23) rfl w.heap.size (cellC k3 n3 s3) rfl rfl 25 zeroC R3.out.r.row HI rfl (cell_one3 _ _ _) ?_)
  obtain ⟨Z, hZ, HZ⟩ : ∃ Z, Z = u3.setRow w.heap.size (cellC k3 n3 s3) ∧ Hid (Rs w Z (cellC k3 n3 s3)) := ⟨_, rfl, Lib.hid (R3.out.put _)⟩
  rw [← hZ]
  clear hZ
  obtain ⟨y0, y1, y2⟩ := three_of HZ.out.r
  refine bodyPost_ret (v := twoC k3 n3 s3 e3) ?_ rfl ?_
  · simp [results, Tryz.results5, go_sem, y0, y1, y2, twoC, cellC]
  · exact ⟨rfl, HZ.out.below⟩

set_option maxRecDepth 100000 in
set_option maxHeartbeats 1000000 in
theorem kown_tolower (c : Cel) (p : Option Addr) (cap : Nat) (hc : Fits c.n ∧ c.s.size ≤ 300) (w : World) (hca : CellsAt w p 1 cap [c]) :
    Calls Tryz.prog 5 #[.string ⟨#[116, 111, 108, 111, 119, 101, 114]⟩, .slice p 1 cap] w fun e0 w' => e0 = .returned (twoC 2 0 (ownRef.low (strK c)) 0) ∧ Below w.heap.size w w' := by
  have HI := info_cell
  have HTK := Lib.hid (fun w => by have h2 := takes_all ⟨#[116, 111, 108, 111, 119, 101, 114]⟩ 1 w; rw [show takesB ⟨#[116, 111, 108, 111, 119, 101, 114]⟩ 1 = true from by simp [takesB]] at h2; exact h2)
  obtain ⟨b, off, rfl, hcl⟩ := hca.at_ (by simp)
  have HCL := Lib.hid hcl
  have hroom := hca.room
  have HSc := Lib.hid (fun w => str_p c hc.1 w)
  have Zc : Hid ((strK c).size ≤ 300) := Lib.hid (strK_size c hc.2)
  have Fc := Lib.hid hc
  obtain ⟨zc, hzc⟩ : ∃ z, z = strK c := ⟨_, rfl⟩
  rw [← hzc] at HSc Zc ⊢
  clear hcl hca hc hzc
  have HC := Lib.hid (fun w => low_p zc Zc.out w)
  obtain ⟨q, hq⟩ : ∃ q, q = ownRef.low zc := ⟨_, rfl⟩
  rw [← hq] at HC ⊢
  have HOS := Lib.hid (fun w => ofStr_any q w)
  clear hq
  obtain ⟨W, hW, HR⟩ := rs_new w zeroC
  go_enter Tryz.func5, Tryz.ntmps5
  go_upto_region 1 with (fail)
  change Code.wp _ _ _ _ (w.alloc (.cells zeroC 25))
  rw [← hW]
  clear hW
  go_wp2_with fail
  refine (HTK.out _).mono ?_
  rintro e u0 ⟨rfl, bb⟩
  have R0 := Lib.hid (HR.out.after bb)
  clear bb HR
  obtain ⟨c0, c1, c2⟩ := HCL.out _ R0.out.below 0 c rfl
  simp only [Nat.zero_mul, Nat.add_zero] at c0 c1 c2
  go_wp2_with fail
  refine (HSc.out _).mono ?_
  rintro e u1 ⟨rfl, bb⟩
  have R1 := Lib.hid (R0.out.after bb)
  clear bb c0 c1 c2 R0
  go_wp2_with fail
  refine (HC.out _).mono ?_
  rintro e u2 ⟨rfl, bb⟩
  have R2 := Lib.hid (R1.out.after bb)
  clear bb  R1
  go_wp2_with fail
  refine (HOS.out _).mono ?_
  rintro e u3 ⟨rfl, bb⟩
  have R3 := Lib.hid (R2.out.after bb)
  clear bb  R2
  go_wp2_with (refine wpList_store_row rfl 25 (.tmp 4) (.tmp 40) rfl w.heap.size (cellC 2 0 q) rfl rfl 25 zeroC R3.out.r.row HI rfl (cell_one3 _ _ _) ?_)
  obtain ⟨Z, hZ, HZ⟩ : ∃ Z, Z = u3.setRow w.heap.size (cellC 2 0 q) ∧ Hid (Rs w Z (cellC 2 0 q)) := ⟨_, rfl, Lib.hid (R3.out.put _)⟩
  rw [← hZ]
  clear hZ
  obtain ⟨y0, y1, y2⟩ := three_of HZ.out.r
  refine bodyPost_ret (v := twoC 2 0 q 0) ?_ rfl ?_
  · simp [results, Tryz.results5, go_sem, y0, y1, y2, twoC, cellC]
  · exact ⟨rfl, HZ.out.below⟩

set_option maxRecDepth 100000 in
set_option maxHeartbeats 1000000 in
theorem kown_toupper (c : Cel) (p : Option Addr) (cap : Nat) (hc : Fits c.n ∧ c.s.size ≤ 300) (w : World) (hca : CellsAt w p 1 cap [c]) :
    Calls Tryz.prog 5 #[.string ⟨#[116, 111, 117, 112, 112, 101, 114]⟩, .slice p 1 cap] w fun e0 w' => e0 = .returned (twoC 2 0 (ownRef.up (strK c)) 0) ∧ Below w.heap.size w w' := by
  have HI := info_cell
  have HTK := Lib.hid (fun w => by have h2 := takes_all ⟨#[116, 111, 117, 112, 112, 101, 114]⟩ 1 w; rw [show takesB ⟨#[116, 111, 117, 112, 112, 101, 114]⟩ 1 = true from by simp [takesB]] at h2; exact h2)
  obtain ⟨b, off, rfl, hcl⟩ := hca.at_ (by simp)
  have HCL := Lib.hid hcl
  have hroom := hca.room
  have HSc := Lib.hid (fun w => str_p c hc.1 w)
  have Zc : Hid ((strK c).size ≤ 300) := Lib.hid (strK_size c hc.2)
  have Fc := Lib.hid hc
  obtain ⟨zc, hzc⟩ : ∃ z, z = strK c := ⟨_, rfl⟩
  rw [← hzc] at HSc Zc ⊢
  clear hcl hca hc hzc
  have HC := Lib.hid (fun w => up_p zc Zc.out w)
  obtain ⟨q, hq⟩ : ∃ q, q = ownRef.up zc := ⟨_, rfl⟩
  rw [← hq] at HC ⊢
  have HOS := Lib.hid (fun w => ofStr_any q w)
  clear hq
  obtain ⟨W, hW, HR⟩ := rs_new w zeroC
  go_enter Tryz.func5, Tryz.ntmps5
  go_upto_region 1 with (fail)
  change Code.wp _ _ _ _ (w.alloc (.cells zeroC 25))
  rw [← hW]
  clear hW
  go_wp2_with fail
  refine (HTK.out _).mono ?_
  rintro e u0 ⟨rfl, bb⟩
  have R0 := Lib.hid (HR.out.after bb)
  clear bb HR
  obtain ⟨c0, c1, c2⟩ := HCL.out _ R0.out.below 0 c rfl
  simp only [Nat.zero_mul, Nat.add_zero] at c0 c1 c2
  go_wp2_with fail
  refine (HSc.out _).mono ?_
  rintro e u1 ⟨rfl, bb⟩
  have R1 := Lib.hid (R0.out.after bb)
  clear bb c0 c1 c2 R0
  go_wp2_with fail
  refine (HC.out _).mono ?_
  rintro e u2 ⟨rfl, bb⟩
  have R2 := Lib.hid (R1.out.after bb)
  clear bb  R1
  go_wp2_with fail
  refine (HOS.out _).mono ?_
  rintro e u3 ⟨rfl, bb⟩
  have R3 := Lib.hid (R2.out.after bb)
  clear bb  R2
  go_wp2_with (refine wpList_store_row rfl 25 (.tmp 4) (.tmp 45) rfl w.heap.size (cellC 2 0 q) rfl rfl 25 zeroC R3.out.r.row HI rfl (cell_one3 _ _ _) ?_)
  obtain ⟨Z, hZ, HZ⟩ : ∃ Z, Z = u3.setRow w.heap.size (cellC 2 0 q) ∧ Hid (Rs w Z (cellC 2 0 q)) := ⟨_, rfl, Lib.hid (R3.out.put _)⟩
  rw [← hZ]
  clear hZ
  obtain ⟨y0, y1, y2⟩ := three_of HZ.out.r
  refine bodyPost_ret (v := twoC 2 0 q 0) ?_ rfl ?_
  · simp [results, Tryz.results5, go_sem, y0, y1, y2, twoC, cellC]
  · exact ⟨rfl, HZ.out.below⟩

set_option maxRecDepth 100000 in
set_option maxHeartbeats 1000000 in
theorem kown_int (c : Cel) (p : Option Addr) (cap : Nat) (hc : Fits c.n ∧ c.s.size ≤ 300) (w : World) (hca : CellsAt w p 1 cap [c]) :
    Calls Tryz.prog 5 #[.string ⟨#[105, 110, 116]⟩, .slice p 1 cap] w fun e0 w' => e0 = .returned (numA (ownRef.int (ownRef.num c).1, (ownRef.num c).2)) ∧ Below w.heap.size w w' := by
  have HI := info_cell
  have HTK := Lib.hid (fun w => by have h2 := takes_all ⟨#[105, 110, 116]⟩ 1 w; rw [show takesB ⟨#[105, 110, 116]⟩ 1 = true from by simp [takesB]] at h2; exact h2)
  obtain ⟨b, off, rfl, hcl⟩ := hca.at_ (by simp)
  have HCL := Lib.hid hcl
  have hroom := hca.room
  have HSc := Lib.hid (fun w => str_p c hc.1 w)
  have Zc : Hid ((strK c).size ≤ 300) := Lib.hid (strK_size c hc.2)
  have Fc := Lib.hid hc
  obtain ⟨zc, hzc⟩ : ∃ z, z = strK c := ⟨_, rfl⟩
  rw [← hzc] at HSc Zc
  clear hcl hca hc hzc
  have HIN := Lib.hid (fun w => kinteger c Fc.out.1 Fc.out.2 w)
  obtain ⟨k3, n3, s3, e3, hA⟩ := knumA_form (ownRef.int (ownRef.num c).1, (ownRef.num c).2)
  rw [hA] at HIN ⊢
  clear hA
  obtain ⟨W, hW, HR⟩ := rs_new w zeroC
  go_enter Tryz.func5, Tryz.ntmps5
  go_upto_region 1 with (fail)
  change Code.wp _ _ _ _ (w.alloc (.cells zeroC 25))
  rw [← hW]
  clear hW
  go_wp2_with fail
  refine (HTK.out _).mono ?_
  rintro e u0 ⟨rfl, bb⟩
  have R0 := Lib.hid (HR.out.after bb)
  clear bb HR
  obtain ⟨c0, c1, c2⟩ := HCL.out _ R0.out.below 0 c rfl
  simp only [Nat.zero_mul, Nat.add_zero] at c0 c1 c2
  go_wp2_with fail
  refine (HSc.out _).mono ?_
  rintro e u1 ⟨rfl, bb⟩
  have R1 := Lib.hid (R0.out.after bb)
  clear bb c0 c1 c2 R0
  obtain ⟨c0, c1, c2⟩ := HCL.out _ R1.out.below 0 c rfl
  simp only [Nat.zero_mul, Nat.add_zero] at c0 c1 c2
  go_wp2_with fail
  refine (HIN.out _).mono ?_
  rintro e u2 ⟨rfl, bb⟩
  have R2 := Lib.hid (R1.out.after bb)
  unfold twoC
  clear bb c0 c1 c2 R1
  go_wp2_with (refine wpList_store_row rfl 25 (.tmp 4) (.tmp 52) rfl w.heap.size (cellC k3 n3 s3) rfl rfl 25 zeroC R2.out.r.row HI rfl (cell_one3 _ _ _) ?_)
  obtain ⟨Z, hZ, HZ⟩ : ∃ Z, Z = u2.setRow w.heap.size (cellC k3 n3 s3) ∧ Hid (Rs w Z (cellC k3 n3 s3)) := ⟨_, rfl, Lib.hid (R2.out.put _)⟩
  rw [← hZ]
  clear hZ
  obtain ⟨y0, y1, y2⟩ := three_of HZ.out.r
  refine bodyPost_ret (v := twoC k3 n3 s3 e3) ?_ rfl ?_
  · simp [results, Tryz.results5, go_sem, y0, y1, y2, twoC, cellC]
  · exact ⟨rfl, HZ.out.below⟩

set_option maxRecDepth 100000 in
set_option maxHeartbeats 1000000 in
theorem kown_index (c : Cel) (d : Cel) (p : Option Addr) (cap : Nat) (hc : Fits c.n ∧ c.s.size ≤ 300) (hd : Fits d.n ∧ d.s.size ≤ 300) (w : World) (hca : CellsAt w p 2 cap [c, d]) (hE : Env w) :
    Calls Tryz.prog 5 #[.string ⟨#[105, 110, 100, 101, 120]⟩, .slice p 2 cap] w fun e0 w' => e0 = .returned (numA (ownRef.whole (ownRef.index (strK c) (strK d)))) ∧ Below w.heap.size w w' := by
  have HI := info_cell
  have HTK := Lib.hid (fun w => by have h2 := takes_all ⟨#[105, 110, 100, 101, 120]⟩ 2 w; rw [show takesB ⟨#[105, 110, 100, 101, 120]⟩ 2 = true from by simp [takesB]] at h2; exact h2)
  obtain ⟨b, off, rfl, hcl⟩ := hca.at_ (by simp)
  have HCL := Lib.hid hcl
  have hroom := hca.room
  have HSc := Lib.hid (fun w => str_p c hc.1 w)
  have Zc : Hid ((strK c).size ≤ 300) := Lib.hid (strK_size c hc.2)
  have Fc := Lib.hid hc
  obtain ⟨zc, hzc⟩ : ∃ z, z = strK c := ⟨_, rfl⟩
  rw [← hzc] at HSc Zc ⊢
  have HSd := Lib.hid (fun w => str_p d hd.1 w)
  have Zd : Hid ((strK d).size ≤ 300) := Lib.hid (strK_size d hd.2)
  have Fd := Lib.hid hd
  obtain ⟨zd, hzd⟩ : ∃ z, z = strK d := ⟨_, rfl⟩
  rw [← hzd] at HSd Zd ⊢
  clear hcl hca hc hzc hd hzd
  have HE := Lib.hid hE
  have HC := Lib.hid (fun w h => index_p zc zd Zc.out Zd.out w h)
  have HWH := Lib.hid (fun w => kwhole (ownRef.index zc zd) (ownRefOk.indexFits zc zd Zc.out Zd.out) w)
  obtain ⟨q, hq⟩ : ∃ q, q = ownRef.index zc zd := ⟨_, rfl⟩
  rw [← hq] at HC HWH ⊢
  obtain ⟨k3, n3, s3, e3, hA⟩ := knumA_form (ownRef.whole q)
  rw [hA] at HWH ⊢
  clear hA hq hE
  obtain ⟨W, hW, HR⟩ := rs_new w zeroC
  go_enter Tryz.func5, Tryz.ntmps5
  go_upto_region 1 with (fail)
  change Code.wp _ _ _ _ (w.alloc (.cells zeroC 25))
  rw [← hW]
  clear hW
  go_wp2_with fail
  refine (HTK.out _).mono ?_
  rintro e u0 ⟨rfl, bb⟩
  have R0 := Lib.hid (HR.out.after bb)
  clear bb HR
  obtain ⟨c0, c1, c2⟩ := HCL.out _ R0.out.below 0 c rfl
  simp only [Nat.zero_mul, Nat.add_zero] at c0 c1 c2
  go_wp2_with fail
  refine (HSc.out _).mono ?_
  rintro e u1 ⟨rfl, bb⟩
  have R1 := Lib.hid (R0.out.after bb)
  clear bb c0 c1 c2 R0
  obtain ⟨c0, c1, c2⟩ := HCL.out _ R1.out.below 0 c rfl
  simp only [Nat.zero_mul, Nat.add_zero] at c0 c1 c2
  obtain ⟨d0, d1, d2⟩ := HCL.out _ R1.out.below 1 d rfl
  simp only [Nat.one_mul] at d0 d1 d2
  go_wp2_with fail
  refine (HSd.out _).mono ?_
  rintro e u2 ⟨rfl, bb⟩
  have R2 := Lib.hid (R1.out.after bb)
  clear bb c0 c1 c2 d0 d1 d2 R1
  go_wp2_with fail
  refine (HC.out _ (HE.out.after R2.out.below)).mono ?_
  rintro e u3 ⟨rfl, bb⟩
  have R3 := Lib.hid (R2.out.after bb)
  clear bb  R2
  go_wp2_with fail
  refine (HWH.out _).mono ?_
  rintro e u4 ⟨rfl, bb⟩
  have R4 := Lib.hid (R3.out.after bb)
  unfold twoC
  clear bb  R3
  go_wp2_with (refine wpList_store_row rfl 25 (.tmp 4) (.tmp 34) rfl w.heap.size (cellC k3 n3 s3) rfl rfl 25 zeroC R4.out.r.row HI rfl (cell_one3 _ _ _) ?_)
  obtain ⟨Z, hZ, HZ⟩ : ∃ Z, Z = u4.setRow w.heap.size (cellC k3 n3 s3) ∧ Hid (Rs w Z (cellC k3 n3 s3)) := ⟨_, rfl, Lib.hid (R4.out.put _)⟩
  rw [← hZ]
  clear hZ
  obtain ⟨y0, y1, y2⟩ := three_of HZ.out.r
  refine bodyPost_ret (v := twoC k3 n3 s3 e3) ?_ rfl ?_
  · simp [results, Tryz.results5, go_sem, y0, y1, y2, twoC, cellC]
  · exact ⟨rfl, HZ.out.below⟩

set_option maxRecDepth 100000 in
set_option maxHeartbeats 1000000 in
theorem kown_substr (c : Cel) (l : List Cel) (p : Option Addr) (n cap : Nat) (hcc : Fits c.n ∧ c.s.size ≤ 300) (w : World) (hca : CellsAt w p n cap (c :: l)) (ht : takesB ⟨#[115, 117, 98, 115, 116, 114]⟩ n = true) (R : Value) (hR : ∃ k3 n3 s3 e3, R = twoC k3 n3 s3 e3)
    (hP : ∀ V q2 c2, Below w.heap.size w V → CellsAt V q2 l.length c2 l → (∀ a, q2 = some a → ∃ d, p = some d ∧ a.block = d.block) → Calls Tryz.prog 19 #[.string (strK c), .slice q2 l.length c2] V fun e0 w' => e0 = .returned R ∧ Below V.heap.size V w') :
    Calls Tryz.prog 5 #[.string ⟨#[115, 117, 98, 115, 116, 114]⟩, .slice p n cap] w fun e0 w' => e0 = .returned R ∧ Below w.heap.size w w' := by
  have HI := info_cell
  have HTK := Lib.hid (fun w => by have h2 := takes_all ⟨#[115, 117, 98, 115, 116, 114]⟩ n w; rw [ht] at h2; exact h2)
  have hn : n = l.length + 1 := hca.len
  have hroom := hca.room
  have hbound := hca.bound
  obtain ⟨q2, c2, hsl, hdr, hbl⟩ := slice_low p n cap 1 (by omega) hroom hbound
  obtain ⟨k3, n3, s3, e3, hA⟩ := hR
  obtain ⟨b, off, rfl, hcl⟩ := hca.at_ (by simp)
  have HCL := Lib.hid (fun V hb => hcl V hb 0 c rfl)
  have HSc := Lib.hid (fun w => str_p c hcc.1 w)
  have HC := Lib.hid (fun V (hb : Below w.heap.size w V) => by
    have h := hdr V (c :: l) (hca.below hb)
    rw [show n - 1 = l.length from by omega] at h
    exact hP V q2 c2 hb h hbl)
  obtain ⟨z, hz⟩ : ∃ z, z = strK c := ⟨_, rfl⟩
  rw [← hz] at HSc HC
  rw [hA] at HC ⊢
  have hg : decide ((n : Int) > 0) = true := decide_eq_true (by omega)
  have hg2 : decide (0 < (n : Int)) = true := decide_eq_true (by omega)
  have hg3 : decide (0 < n) = true := decide_eq_true (by omega)
  have hpos : 0 < n := by omega
  have hzs : Hid (∀ W, (Instr.sliceAt 22 (.slice (some ⟨b, off, none⟩) n cap) (some (.int .i64 1)) none none).run Tryz.prog W = .ok (.slice q2 (n - 1) c2) W) := Lib.hid hsl
  rw [show n - 1 = l.length from by omega] at hzs
  obtain ⟨m1, hm1⟩ : ∃ m1, m1 = l.length := ⟨_, rfl⟩
  rw [← hm1] at hzs HC
  have hsl := hzs.out
  clear hcl hca hcc hz hA hn hdr hbl hP ht hm1 hzs
  obtain ⟨W, hW, HR⟩ := rs_new w zeroC
  go_enter Tryz.func5, Tryz.ntmps5
  go_upto_region 1 with (fail)
  change Code.wp _ _ _ _ (w.alloc (.cells zeroC 25))
  rw [← hW]
  clear hW
  go_wp2_with fail
  refine (HTK.out _).mono ?_
  rintro e u0 ⟨rfl, bb⟩
  have R0 := Lib.hid (HR.out.after bb)
  clear bb HR
  obtain ⟨c0, c1, c2'⟩ := HCL.out _ R0.out.below
  simp only [Nat.zero_mul, Nat.add_zero] at c0 c1 c2'
  go_wp2_with fail
  refine (HSc.out _).mono ?_
  rintro e u1 ⟨rfl, bb⟩
  have R1 := Lib.hid (R0.out.after bb)
  clear bb c0 c1 c2' R0
  go_wp2_with fail
  refine (HC.out _ R1.out.below).mono ?_
  rintro e u2 ⟨rfl, bb⟩
  have R2 := Lib.hid (R1.out.after bb)
  unfold twoC
  clear bb  R1
  go_wp2_with (refine wpList_store_row rfl 25 (.tmp 4) (.tmp 60) rfl w.heap.size (cellC k3 n3 s3) rfl rfl 25 zeroC R2.out.r.row HI rfl (cell_one3 _ _ _) ?_)
  obtain ⟨Z, hZ, HZ⟩ : ∃ Z, Z = u2.setRow w.heap.size (cellC k3 n3 s3) ∧ Hid (Rs w Z (cellC k3 n3 s3)) := ⟨_, rfl, Lib.hid (R2.out.put _)⟩
  rw [← hZ]
  clear hZ
  obtain ⟨y0, y1, y2⟩ := three_of HZ.out.r
  refine bodyPost_ret (v := twoC k3 n3 s3 e3) ?_ rfl ?_
  · simp [results, Tryz.results5, go_sem, y0, y1, y2, twoC, cellC]
  · exact ⟨rfl, HZ.out.below⟩

set_option maxRecDepth 100000 in
set_option maxHeartbeats 1000000 in
theorem kown_sprintf (c : Cel) (l : List Cel) (p : Option Addr) (n cap : Nat) (hcc : Fits c.n ∧ c.s.size ≤ 300) (w : World) (hca : CellsAt w p n cap (c :: l)) (ht : takesB ⟨#[115, 112, 114, 105, 110, 116, 102]⟩ n = true) (R : Value) (hR : ∃ k3 n3 s3 e3, R = twoC k3 n3 s3 e3)
    (hP : ∀ V q2 c2, Below w.heap.size w V → CellsAt V q2 l.length c2 l → (∀ a, q2 = some a → ∃ d, p = some d ∧ a.block = d.block) → Calls Tryz.prog 20 #[.string (strK c), .slice q2 l.length c2] V fun e0 w' => e0 = .returned R ∧ Below V.heap.size V w') :
    Calls Tryz.prog 5 #[.string ⟨#[115, 112, 114, 105, 110, 116, 102]⟩, .slice p n cap] w fun e0 w' => e0 = .returned R ∧ Below w.heap.size w w' := by
  have HI := info_cell
  have HTK := Lib.hid (fun w => by have h2 := takes_all ⟨#[115, 112, 114, 105, 110, 116, 102]⟩ n w; rw [ht] at h2; exact h2)
  have hn : n = l.length + 1 := hca.len
  have hroom := hca.room
  have hbound := hca.bound
  obtain ⟨q2, c2, hsl, hdr, hbl⟩ := slice_low p n cap 1 (by omega) hroom hbound
  obtain ⟨k3, n3, s3, e3, hA⟩ := hR
  obtain ⟨b, off, rfl, hcl⟩ := hca.at_ (by simp)
  have HCL := Lib.hid (fun V hb => hcl V hb 0 c rfl)
  have HSc := Lib.hid (fun w => str_p c hcc.1 w)
  have HC := Lib.hid (fun V (hb : Below w.heap.size w V) => by
    have h := hdr V (c :: l) (hca.below hb)
    rw [show n - 1 = l.length from by omega] at h
    exact hP V q2 c2 hb h hbl)
  obtain ⟨z, hz⟩ : ∃ z, z = strK c := ⟨_, rfl⟩
  rw [← hz] at HSc HC
  rw [hA] at HC ⊢
  have hg : decide ((n : Int) > 0) = true := decide_eq_true (by omega)
  have hg2 : decide (0 < (n : Int)) = true := decide_eq_true (by omega)
  have hg3 : decide (0 < n) = true := decide_eq_true (by omega)
  have hpos : 0 < n := by omega
  have hzs : Hid (∀ W, (Instr.sliceAt 22 (.slice (some ⟨b, off, none⟩) n cap) (some (.int .i64 1)) none none).run Tryz.prog W = .ok (.slice q2 (n - 1) c2) W) := Lib.hid hsl
  rw [show n - 1 = l.length from by omega] at hzs
  obtain ⟨m1, hm1⟩ : ∃ m1, m1 = l.length := ⟨_, rfl⟩
  rw [← hm1] at hzs HC
  have hsl := hzs.out
  clear hcl hca hcc hz hA hn hdr hbl hP ht hm1 hzs
  obtain ⟨W, hW, HR⟩ := rs_new w zeroC
  go_enter Tryz.func5, Tryz.ntmps5
  go_upto_region 1 with (fail)
  change Code.wp _ _ _ _ (w.alloc (.cells zeroC 25))
  rw [← hW]
  clear hW
  go_wp2_with fail
  refine (HTK.out _).mono ?_
  rintro e u0 ⟨rfl, bb⟩
  have R0 := Lib.hid (HR.out.after bb)
  clear bb HR
  obtain ⟨c0, c1, c2'⟩ := HCL.out _ R0.out.below
  simp only [Nat.zero_mul, Nat.add_zero] at c0 c1 c2'
  go_wp2_with fail
  refine (HSc.out _).mono ?_
  rintro e u1 ⟨rfl, bb⟩
  have R1 := Lib.hid (R0.out.after bb)
  clear bb c0 c1 c2' R0
  go_wp2_with fail
  refine (HC.out _ R1.out.below).mono ?_
  rintro e u2 ⟨rfl, bb⟩
  have R2 := Lib.hid (R1.out.after bb)
  unfold twoC
  clear bb  R1
  go_wp2_with (refine wpList_store_row rfl 25 (.tmp 4) (.tmp 66) rfl w.heap.size (cellC k3 n3 s3) rfl rfl 25 zeroC R2.out.r.row HI rfl (cell_one3 _ _ _) ?_)
  obtain ⟨Z, hZ, HZ⟩ : ∃ Z, Z = u2.setRow w.heap.size (cellC k3 n3 s3) ∧ Hid (Rs w Z (cellC k3 n3 s3)) := ⟨_, rfl, Lib.hid (R2.out.put _)⟩
  rw [← hZ]
  clear hZ
  obtain ⟨y0, y1, y2⟩ := three_of HZ.out.r
  refine bodyPost_ret (v := twoC k3 n3 s3 e3) ?_ rfl ?_
  · simp [results, Tryz.results5, go_sem, y0, y1, y2, twoC, cellC]
  · exact ⟨rfl, HZ.out.below⟩
end Go.Proofs.YtbbhcbpfffabpaaGreatDoor
