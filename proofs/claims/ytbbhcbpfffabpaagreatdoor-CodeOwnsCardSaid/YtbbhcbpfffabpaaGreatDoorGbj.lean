/- Merged by program: C15Q, C15R, C15U, C15S. -/
import Derived.Laws.StructEq
import Derived.Test.YtbbhcbpfffabpaaGreatDoorGbi
import Derived.Test.YtbbhcbpfffabpaaGreatDoorGbh
/- The document's Own of layer 15: sprintf (gen_c15q.py). -/
namespace Go.Proofs.YtbbhcbpfffabpaaGreatDoor
open Go.RowKit T3

theorem elem_cells : Tryz.prog.elem 22 = 25 := by kernel_rfl
set_option maxRecDepth 100000 in
/-- The cells behind the first ones of a slice, sliced. -/
theorem slice_back (q : Option Addr) (N c m : Nat) (h : m ≤ N) (hc : N ≤ c) (hb : c ≤ 9223372036854775807) : ∃ q2 c2, (∀ W, (Instr.sliceAt 22 (.slice q N c) (some (.int .i64 (m : Int))) none none).run Tryz.prog W = .ok (.slice q2 (N - m) c2) W) ∧ ∀ w l, CellsAt w q N c l → CellsAt w q2 (N - m) c2 (l.drop m) := by
  refine ⟨if c = m then q else q.map (·.add (m * 3)), c - m, fun W => ?_, fun w l hC => ?_⟩
  · rw [run_sliceAt_slice _ _ _ _ _ _ Tryz.underlying22, run_slice_l _ _ _ _ _ Tryz.underlying22 .i64 (m : Int) (by omega) (by omega)]
    rw [elem_cells, Tryz.sizeOf25]
    simp only [Result.andThen, Int.toNat_natCast]
    rfl
  · have hl := hC.len
    by_cases hcm : c = m
    · have hN : N = m := by omega
      rw [if_pos hcm]
      refine ⟨by rw [List.length_drop]; omega, by omega, by omega, fun e => by omega, Or.inl (List.drop_eq_nil_of_le (by omega))⟩
    · rw [if_neg hcm]
      refine ⟨by rw [List.length_drop]; omega, by omega, by omega, fun e => ?_, ?_⟩
      · have : q = none := by
          cases q with
          | none => rfl
          | some a => exact absurd e (by simp)
        have := hC.nil this
        omega
      · rcases hC.cells with h0 | ⟨b, off, hp, hcc⟩
        · exact Or.inl (by rw [h0]; exact List.drop_nil)
        · refine Or.inr ⟨b, off + m * 3, by rw [hp]; exact congrArg some (addr_add b off (m * 3)), fun i x hi => ?_⟩
          rw [List.getElem?_drop] at hi
          have := hcc (m + i) x hi
          have e : off + m * 3 + i * 3 = off + (m + i) * 3 := by omega
          rw [e]
          exact this

set_option maxRecDepth 100000 in
set_option maxHeartbeats 1000000 in
theorem own_sprintf {R : OwnRef} (H : OwnRefOk R) (c : Cel) (l : List Cel) (p : Option Addr) (n cap : Nat) (hl : ∀ x ∈ c :: l, Fits x.n ∧ x.s.size ≤ 300) (w : World) (hca : CellsAt w p n cap (c :: l)) :
    Calls Tryz.prog 6 #[.string ⟨#[115, 112, 114, 105, 110, 116, 102]⟩, .slice p n cap] w fun e0 w' => e0 = .returned (if (R.form (strC c.k c.n c.s) l).2 ≠ 0 then errT (R.form (strC c.k c.n c.s) l).2 else strA (R.form (strC c.k c.n c.s) l).1) ∧ Below w.heap.size w w' := by
  have HI := info_cell
  have hn : n = l.length + 1 := hca.len
  have hroom := hca.room
  have hbound := hca.bound
  obtain ⟨q2, c2, hsl, hdr⟩ := slice_back p n cap 1 (by omega) hroom hbound
  have hd1 : ((n : Int) > 0) := by omega
  obtain ⟨b, off, rfl, hcl⟩ := hca.at_ (by simp)
  have HCL := Lib.hid (fun V hb => hcl V hb 0 c rfl)
  have HH := Lib.hid H
  have hcc := hl c (by simp)
  have HSc := Lib.hid (fun w => refStr_any c.k c.n c.s hcc.1 w)
  have Zc : Hid ((strC c.k c.n c.s).size ≤ 300) := Lib.hid (strC_size c.k c.n c.s hcc.2)
  obtain ⟨z, hz⟩ : ∃ z, z = strC c.k c.n c.s := ⟨_, rfl⟩
  rw [← hz] at HSc Zc ⊢
  have HC := Lib.hid (fun V (hb : Below w.heap.size w V) => HH.out.form z l q2 (n - 1) c2 V Zc.out (fun x hx => hl x (by simp [hx])) (hdr V (c :: l) (hca.below hb)))
  obtain ⟨q, e1, hq⟩ : ∃ q e1, R.form z l = (q, e1) := ⟨_, _, rfl⟩
  rw [hq] at HC ⊢
  simp only at HC ⊢
  have HNM := Lib.hid (fun w => refstr_any q w)
  obtain ⟨k3, n3, s3, e3, hA⟩ := strA_formP q
  rw [hA] at HNM ⊢
  obtain ⟨res, hres⟩ : ∃ res, res = (if e1 ≠ 0 then errT e1 else twoC k3 n3 s3 e3) := ⟨_, rfl⟩
  rw [← hres]
  have HRS := Lib.hid hres
  have HL := Lib.hid hn
  have hg : decide ((n : Int) > 0) = true := decide_eq_true hd1
  have hg2 : decide (0 < (n : Int)) = true := decide_eq_true hd1
  have hg3 : decide (0 < n) = true := decide_eq_true (by omega)
  have hpos : 0 < n := by omega
  have hzs : Hid (∀ W, (Instr.sliceAt 22 (.slice (some ⟨b, off, none⟩) n cap) (some (.int .i64 1)) none none).run Tryz.prog W = .ok (.slice q2 (n - 1) c2) W) := Lib.hid hsl
  obtain ⟨m1, hm1⟩ : ∃ m1, m1 = n - 1 := ⟨_, rfl⟩
  rw [← hm1] at hzs HC
  have hsl := hzs.out
  clear H hcl hca hcc hl hz hq hA hres hn hd1 hdr HH hzs hm1
  obtain ⟨W, hW, HR⟩ := rs_new w zeroC
  go_enter Tryz.func6, Tryz.ntmps6
  go_upto_region 1 with (fail)
  change Code.wp _ _ _ _ (w.alloc (.cells zeroC 25))
  rw [← hW]
  clear hW
  obtain ⟨c0, c1, c2'⟩ := HCL.out _ HR.out.below
  simp only [Nat.zero_mul, Nat.add_zero] at c0 c1 c2'
  go_wp2_with fail
  refine (HSc.out _).mono ?_
  rintro e u1 ⟨rfl, bb⟩
  have R1 := Lib.hid (HR.out.after bb)
  clear bb c0 c1 c2' HR
  obtain ⟨c0, c1, c2'⟩ := HCL.out _ R1.out.below
  simp only [Nat.zero_mul, Nat.add_zero] at c0 c1 c2'
  go_wp2_with fail
  refine (HC.out _ R1.out.below).mono ?_
  rintro e u2 ⟨rfl, bb⟩
  have R2 := Lib.hid (R1.out.after bb)
  clear bb c0 c1 c2' R1
  by_cases h1 : e1 = 0
  case neg =>
    have H1 := Lib.hid h1
    have hne : (e1 != 0) = true := by simpa using h1
    clear h1
    go_wp2_with (refine wpList_store_row rfl 25 (.tmp 4) (.tmp 134) rfl w.heap.size (cellC 0 0 ⟨#[]⟩) rfl rfl 25 zeroC R2.out.r.row HI rfl (cell_one3 _ _ _) ?_)
    obtain ⟨Z, hZ, HZ⟩ : ∃ Z, Z = u2.setRow w.heap.size (cellC 0 0 ⟨#[]⟩) ∧ Hid (Rs w Z (cellC 0 0 ⟨#[]⟩)) := ⟨_, rfl, Lib.hid (R2.out.put _)⟩
    rw [← hZ]
    clear hZ
    obtain ⟨y0, y1, y2⟩ := three_of HZ.out.r
    refine bodyPost_ret (v := twoC 0 0 ⟨#[]⟩ e1) ?_ rfl ?_
    · simp [results, Tryz.results6, go_sem, y0, y1, y2, twoC, cellC]
    · exact ⟨by rw [HRS.out, if_pos H1.out]; rfl, HZ.out.below⟩
  subst h1
  obtain ⟨c0, c1, c2'⟩ := HCL.out _ R2.out.below
  simp only [Nat.zero_mul, Nat.add_zero] at c0 c1 c2'
  go_wp2_with fail
  refine (HNM.out _).mono ?_
  rintro e u3 ⟨rfl, bb⟩
  have R3 := Lib.hid (R2.out.after bb)
  unfold twoC
  clear bb c0 c1 c2' R2
  go_wp2_with (refine wpList_store_row rfl 25 (.tmp 4) (.tmp 138) rfl w.heap.size (cellC k3 n3 s3) rfl rfl 25 zeroC R3.out.r.row HI rfl (cell_one3 _ _ _) ?_)
  obtain ⟨Z, hZ, HZ⟩ : ∃ Z, Z = u3.setRow w.heap.size (cellC k3 n3 s3) ∧ Hid (Rs w Z (cellC k3 n3 s3)) := ⟨_, rfl, Lib.hid (R3.out.put _)⟩
  rw [← hZ]
  clear hZ
  obtain ⟨y0, y1, y2⟩ := three_of HZ.out.r
  refine bodyPost_ret (v := twoC k3 n3 s3 e3) ?_ rfl ?_
  · simp [results, Tryz.results6, go_sem, y0, y1, y2, twoC, cellC]
  · exact ⟨by rw [HRS.out, if_neg (by simp)], HZ.out.below⟩
end Go.Proofs.YtbbhcbpfffabpaaGreatDoor

/- The document's Own of layer 15, at any name and any cells (gen_c15r.py). -/
namespace Go.Proofs.YtbbhcbpfffabpaaGreatDoor
open Go.RowKit T3


theorem refOwn_0 {R : OwnRef} (_ : OwnRefOk R) (g : ByteArray) (p : Option Addr) (n cap : Nat) (_ : ∀ x ∈ ([] : List Cel), Fits x.n ∧ x.s.size ≤ 300) (w : World) (hc : CellsAt w p n cap ([] : List Cel)) :
    Calls Tryz.prog 6 #[.string g, .slice p n cap] w fun e0 w' => e0 = .returned (ownF R g ([] : List Cel)) ∧ Below w.heap.size w w' := by
  have hn : n = 0 := hc.len
  by_cases h_length : g = ⟨#[108, 101, 110, 103, 116, 104]⟩
  · subst h_length
    exact (own_none_length p n cap (by omega) w).mono fun e0 w' h => ⟨h.1.trans (by first | rfl | simp [ownF]), h.2⟩
  by_cases h_int : g = ⟨#[105, 110, 116]⟩
  · subst h_int
    exact (own_none_int p n cap (by omega) w).mono fun e0 w' h => ⟨h.1.trans (by first | rfl | simp [ownF]), h.2⟩
  by_cases h_tolower : g = ⟨#[116, 111, 108, 111, 119, 101, 114]⟩
  · subst h_tolower
    exact (own_none_tolower p n cap (by omega) w).mono fun e0 w' h => ⟨h.1.trans (by first | rfl | simp [ownF]), h.2⟩
  by_cases h_toupper : g = ⟨#[116, 111, 117, 112, 112, 101, 114]⟩
  · subst h_toupper
    exact (own_none_toupper p n cap (by omega) w).mono fun e0 w' h => ⟨h.1.trans (by first | rfl | simp [ownF]), h.2⟩
  by_cases h_index : g = ⟨#[105, 110, 100, 101, 120]⟩
  · subst h_index
    exact (own_none_index p n cap (by omega) w).mono fun e0 w' h => ⟨h.1.trans (by first | rfl | simp [ownF]), h.2⟩
  by_cases h_substr : g = ⟨#[115, 117, 98, 115, 116, 114]⟩
  · subst h_substr
    exact (own_none_substr p n cap (by omega) (by omega) w).mono fun e0 w' h => ⟨h.1.trans (by first | rfl | simp [ownF]), h.2⟩
  by_cases h_sprintf : g = ⟨#[115, 112, 114, 105, 110, 116, 102]⟩
  · subst h_sprintf
    subst hn
    exact own_none_sprintf p cap w
  exact (own_none_other g p n cap h_length h_int h_tolower h_toupper h_index h_substr h_sprintf w).mono fun e0 w' h => ⟨h.1.trans (by simp only [ownF]), h.2⟩

theorem refOwn_1 {R : OwnRef} (H : OwnRefOk R) (g : ByteArray) (c : Cel) (p : Option Addr) (n cap : Nat) (hl : ∀ x ∈ [c], Fits x.n ∧ x.s.size ≤ 300) (w : World) (hc : CellsAt w p n cap [c]) :
    Calls Tryz.prog 6 #[.string g, .slice p n cap] w fun e0 w' => e0 = .returned (ownF R g [c]) ∧ Below w.heap.size w w' := by
  have hn : n = 1 := hc.len
  by_cases h_length : g = ⟨#[108, 101, 110, 103, 116, 104]⟩
  · subst h_length
    subst hn
    exact own_length H c p cap (hl c (by simp)) w hc
  by_cases h_int : g = ⟨#[105, 110, 116]⟩
  · subst h_int
    subst hn
    exact own_int H c p cap (hl c (by simp)) w hc
  by_cases h_tolower : g = ⟨#[116, 111, 108, 111, 119, 101, 114]⟩
  · subst h_tolower
    subst hn
    exact own_tolower H c p cap (hl c (by simp)) w hc
  by_cases h_toupper : g = ⟨#[116, 111, 117, 112, 112, 101, 114]⟩
  · subst h_toupper
    subst hn
    exact own_toupper H c p cap (hl c (by simp)) w hc
  by_cases h_index : g = ⟨#[105, 110, 100, 101, 120]⟩
  · subst h_index
    exact (own_none_index p n cap (by omega) w).mono fun e0 w' h => ⟨h.1.trans (by first | rfl | simp [ownF]), h.2⟩
  by_cases h_substr : g = ⟨#[115, 117, 98, 115, 116, 114]⟩
  · subst h_substr
    exact (own_none_substr p n cap (by omega) (by omega) w).mono fun e0 w' h => ⟨h.1.trans (by first | rfl | simp [ownF]), h.2⟩
  by_cases h_sprintf : g = ⟨#[115, 112, 114, 105, 110, 116, 102]⟩
  · subst h_sprintf
    exact (own_sprintf H c [] p n cap hl w hc).mono fun e0 w' h => ⟨h.1.trans (by first | rfl | simp [ownF, strK]), h.2⟩
  exact (own_none_other g p n cap h_length h_int h_tolower h_toupper h_index h_substr h_sprintf w).mono fun e0 w' h => ⟨h.1.trans (by simp only [ownF, if_neg h_length, if_neg h_int, if_neg h_tolower, if_neg h_toupper, if_neg h_sprintf]), h.2⟩

theorem refOwn_2 {R : OwnRef} (H : OwnRefOk R) (g : ByteArray) (c d : Cel) (p : Option Addr) (n cap : Nat) (hl : ∀ x ∈ [c, d], Fits x.n ∧ x.s.size ≤ 300) (w : World) (hc : CellsAt w p n cap [c, d]) :
    Calls Tryz.prog 6 #[.string g, .slice p n cap] w fun e0 w' => e0 = .returned (ownF R g [c, d]) ∧ Below w.heap.size w w' := by
  have hn : n = 2 := hc.len
  by_cases h_length : g = ⟨#[108, 101, 110, 103, 116, 104]⟩
  · subst h_length
    exact (own_none_length p n cap (by omega) w).mono fun e0 w' h => ⟨h.1.trans (by first | rfl | simp [ownF]), h.2⟩
  by_cases h_int : g = ⟨#[105, 110, 116]⟩
  · subst h_int
    exact (own_none_int p n cap (by omega) w).mono fun e0 w' h => ⟨h.1.trans (by first | rfl | simp [ownF]), h.2⟩
  by_cases h_tolower : g = ⟨#[116, 111, 108, 111, 119, 101, 114]⟩
  · subst h_tolower
    exact (own_none_tolower p n cap (by omega) w).mono fun e0 w' h => ⟨h.1.trans (by first | rfl | simp [ownF]), h.2⟩
  by_cases h_toupper : g = ⟨#[116, 111, 117, 112, 112, 101, 114]⟩
  · subst h_toupper
    exact (own_none_toupper p n cap (by omega) w).mono fun e0 w' h => ⟨h.1.trans (by first | rfl | simp [ownF]), h.2⟩
  by_cases h_index : g = ⟨#[105, 110, 100, 101, 120]⟩
  · subst h_index
    subst hn
    exact own_index H c d p cap (hl c (by simp)) (hl d (by simp)) w hc
  by_cases h_substr : g = ⟨#[115, 117, 98, 115, 116, 114]⟩
  · subst h_substr
    subst hn
    exact own_substr_2 H c d p cap (hl c (by simp)) (hl d (by simp)) w hc
  by_cases h_sprintf : g = ⟨#[115, 112, 114, 105, 110, 116, 102]⟩
  · subst h_sprintf
    exact (own_sprintf H c [d] p n cap hl w hc).mono fun e0 w' h => ⟨h.1.trans (by first | rfl | simp [ownF, strK]), h.2⟩
  exact (own_none_other g p n cap h_length h_int h_tolower h_toupper h_index h_substr h_sprintf w).mono fun e0 w' h => ⟨h.1.trans (by simp only [ownF, if_neg h_index, if_neg h_substr, if_neg h_sprintf]), h.2⟩

theorem refOwn_3 {R : OwnRef} (H : OwnRefOk R) (g : ByteArray) (c d e : Cel) (p : Option Addr) (n cap : Nat) (hl : ∀ x ∈ [c, d, e], Fits x.n ∧ x.s.size ≤ 300) (w : World) (hc : CellsAt w p n cap [c, d, e]) :
    Calls Tryz.prog 6 #[.string g, .slice p n cap] w fun e0 w' => e0 = .returned (ownF R g [c, d, e]) ∧ Below w.heap.size w w' := by
  have hn : n = 3 := hc.len
  by_cases h_length : g = ⟨#[108, 101, 110, 103, 116, 104]⟩
  · subst h_length
    exact (own_none_length p n cap (by omega) w).mono fun e0 w' h => ⟨h.1.trans (by first | rfl | simp [ownF]), h.2⟩
  by_cases h_int : g = ⟨#[105, 110, 116]⟩
  · subst h_int
    exact (own_none_int p n cap (by omega) w).mono fun e0 w' h => ⟨h.1.trans (by first | rfl | simp [ownF]), h.2⟩
  by_cases h_tolower : g = ⟨#[116, 111, 108, 111, 119, 101, 114]⟩
  · subst h_tolower
    exact (own_none_tolower p n cap (by omega) w).mono fun e0 w' h => ⟨h.1.trans (by first | rfl | simp [ownF]), h.2⟩
  by_cases h_toupper : g = ⟨#[116, 111, 117, 112, 112, 101, 114]⟩
  · subst h_toupper
    exact (own_none_toupper p n cap (by omega) w).mono fun e0 w' h => ⟨h.1.trans (by first | rfl | simp [ownF]), h.2⟩
  by_cases h_index : g = ⟨#[105, 110, 100, 101, 120]⟩
  · subst h_index
    exact (own_none_index p n cap (by omega) w).mono fun e0 w' h => ⟨h.1.trans (by first | rfl | simp [ownF]), h.2⟩
  by_cases h_substr : g = ⟨#[115, 117, 98, 115, 116, 114]⟩
  · subst h_substr
    subst hn
    exact own_substr_3 H c d e p cap (hl c (by simp)) (hl d (by simp)) (hl e (by simp)) w hc
  by_cases h_sprintf : g = ⟨#[115, 112, 114, 105, 110, 116, 102]⟩
  · subst h_sprintf
    exact (own_sprintf H c [d, e] p n cap hl w hc).mono fun e0 w' h => ⟨h.1.trans (by first | rfl | simp [ownF, strK]), h.2⟩
  exact (own_none_other g p n cap h_length h_int h_tolower h_toupper h_index h_substr h_sprintf w).mono fun e0 w' h => ⟨h.1.trans (by simp only [ownF, if_neg h_substr, if_neg h_sprintf]), h.2⟩

theorem refOwn_4 {R : OwnRef} (H : OwnRefOk R) (g : ByteArray) (c d e f : Cel) (l : List Cel) (p : Option Addr) (n cap : Nat) (hl : ∀ x ∈ (c :: d :: e :: f :: l), Fits x.n ∧ x.s.size ≤ 300) (w : World) (hc : CellsAt w p n cap (c :: d :: e :: f :: l)) :
    Calls Tryz.prog 6 #[.string g, .slice p n cap] w fun e0 w' => e0 = .returned (ownF R g (c :: d :: e :: f :: l)) ∧ Below w.heap.size w w' := by
  have hn : n = l.length + 4 := hc.len
  by_cases h_length : g = ⟨#[108, 101, 110, 103, 116, 104]⟩
  · subst h_length
    exact (own_none_length p n cap (by omega) w).mono fun e0 w' h => ⟨h.1.trans (by first | rfl | simp [ownF]), h.2⟩
  by_cases h_int : g = ⟨#[105, 110, 116]⟩
  · subst h_int
    exact (own_none_int p n cap (by omega) w).mono fun e0 w' h => ⟨h.1.trans (by first | rfl | simp [ownF]), h.2⟩
  by_cases h_tolower : g = ⟨#[116, 111, 108, 111, 119, 101, 114]⟩
  · subst h_tolower
    exact (own_none_tolower p n cap (by omega) w).mono fun e0 w' h => ⟨h.1.trans (by first | rfl | simp [ownF]), h.2⟩
  by_cases h_toupper : g = ⟨#[116, 111, 117, 112, 112, 101, 114]⟩
  · subst h_toupper
    exact (own_none_toupper p n cap (by omega) w).mono fun e0 w' h => ⟨h.1.trans (by first | rfl | simp [ownF]), h.2⟩
  by_cases h_index : g = ⟨#[105, 110, 100, 101, 120]⟩
  · subst h_index
    exact (own_none_index p n cap (by omega) w).mono fun e0 w' h => ⟨h.1.trans (by first | rfl | simp [ownF]), h.2⟩
  by_cases h_substr : g = ⟨#[115, 117, 98, 115, 116, 114]⟩
  · subst h_substr
    exact (own_none_substr p n cap (by omega) (by omega) w).mono fun e0 w' h => ⟨h.1.trans (by first | rfl | simp [ownF]), h.2⟩
  by_cases h_sprintf : g = ⟨#[115, 112, 114, 105, 110, 116, 102]⟩
  · subst h_sprintf
    exact (own_sprintf H c (d :: e :: f :: l) p n cap hl w hc).mono fun e0 w' h => ⟨h.1.trans (by first | rfl | simp [ownF, strK]), h.2⟩
  exact (own_none_other g p n cap h_length h_int h_tolower h_toupper h_index h_substr h_sprintf w).mono fun e0 w' h => ⟨h.1.trans (by simp only [ownF, if_neg h_sprintf]), h.2⟩

/-- The document's Own at any name and any cells. -/
theorem refOwn_any {R : OwnRef} (H : OwnRefOk R) (g : ByteArray) (l : List Cel) (p : Option Addr) (n cap : Nat) (hl : ∀ x ∈ l, Fits x.n ∧ x.s.size ≤ 300) (w : World) (hc : CellsAt w p n cap l) :
    Calls Tryz.prog 6 #[.string g, .slice p n cap] w fun e0 w' => e0 = .returned (ownF R g l) ∧ Below w.heap.size w w' := by
  match l, hl, hc with
  | [], hl, hc => exact refOwn_0 H g p n cap hl w hc
  | [c], hl, hc => exact refOwn_1 H g c p n cap hl w hc
  | [c, d], hl, hc => exact refOwn_2 H g c d p n cap hl w hc
  | [c, d, e], hl, hc => exact refOwn_3 H g c d e p n cap hl w hc
  | c :: d :: e :: f :: l, hl, hc => exact refOwn_4 H g c d e f l p n cap hl w hc
end Go.Proofs.YtbbhcbpfffabpaaGreatDoor

/- What the document's Own makes can be: Can of a Text, of a Number, of the zero cell. -/
namespace Go.Proofs.YtbbhcbpfffabpaaGreatDoor
open Go.RowKit T3

set_option maxHeartbeats 4000000 in
theorem can_text (s : ByteArray) (w : World) : Calls Tryz.prog 7 #[.agg (cellC 2 0 s)] w fun e w' => e = .returned (.bool true) ∧ Below w.heap.size w w' := by
  have HB := (boxed1 w (.int .i64 2) (.int .i64 0) (.string s) 25).1
  unfold cellC
  go_enter Tryz.func7, Tryz.ntmps7
  go_wp2_with fail
  go_quiet (fail)
  go_wp2_with fail
  go_ret
  exact ⟨rfl, Below.drewN' HB.out _⟩
set_option maxHeartbeats 4000000 in
theorem can_numb (n : Int) (w : World) : Calls Tryz.prog 7 #[.agg (cellC 1 n ⟨#[]⟩)] w fun e w' => e = .returned (.bool true) ∧ Below w.heap.size w w' := by
  have HB := (boxed1 w (.int .i64 1) (.int .i64 n) (.string ⟨#[]⟩) 25).1
  have he : (⟨#[]⟩ : ByteArray).toList.isEmpty = true := by rw [Lib.toList_data]; rfl
  unfold cellC
  go_enter Tryz.func7, Tryz.ntmps7
  go_wp2_with fail
  go_quiet (fail)
  go_wp2_with fail
  go_ret
  exact ⟨rfl, Below.drewN' HB.out _⟩
set_option maxHeartbeats 4000000 in
theorem can_zero (w : World) : Calls Tryz.prog 7 #[.agg (cellC 0 0 ⟨#[]⟩)] w fun e w' => e = .returned (.bool true) ∧ Below w.heap.size w w' := by
  have HB := (boxed1 w (.int .i64 0) (.int .i64 0) (.string ⟨#[]⟩) 25).1
  have he : (⟨#[]⟩ : ByteArray).toList.isEmpty = true := by rw [Lib.toList_data]; rfl
  unfold cellC
  go_enter Tryz.func7, Tryz.ntmps7
  go_wp2_with fail
  go_quiet (fail)
  go_wp2_with fail
  go_ret
  exact ⟨rfl, Below.drewN' HB.out _⟩

/-- A cell and an error; the cell can be. -/
def CanV (v : Value) : Prop := ∃ k n s e, v = twoC k n s e ∧ ∀ w : World, Calls Tryz.prog 7 #[.agg (cellC k n s)] w fun e w' => e = .returned (.bool true) ∧ Below w.heap.size w w'
theorem canV_err (e : Int) : CanV (errT e) := ⟨0, 0, ⟨#[]⟩, e, rfl, can_zero⟩
theorem canV_text (s : ByteArray) : CanV (twoC 2 0 s 0) := ⟨2, 0, s, 0, rfl, can_text s⟩
theorem canV_num (p : Int × Int) : CanV (numA p) := by
  unfold numA
  split
  · exact ⟨1, p.1, ⟨#[]⟩, 0, rfl, can_numb _⟩
  · exact ⟨0, 0, ⟨#[]⟩, _, rfl, can_zero⟩
theorem canV_str (s : ByteArray) : CanV (strA s) := by
  unfold strA
  split
  · exact canV_text s
  · exact ⟨0, 0, ⟨#[]⟩, 2, rfl, can_zero⟩
theorem canV_ite {c : Prop} [Decidable c] {a b : Value} (ha : CanV a) (hb : CanV b) : CanV (if c then a else b) := by
  split
  · exact ha
  · exact hb
theorem own_can (R : OwnRef) (g : ByteArray) : ∀ l : List Cel, CanV (ownF R g l)
  | [] => canV_err 1
  | [_] => canV_ite (canV_num _) (canV_ite (canV_text _) (canV_ite (canV_text _) (canV_ite (canV_num _) (canV_ite (canV_ite (canV_err _) (canV_str _)) (canV_err _)))))
  | [_, _] => canV_ite (canV_num _) (canV_ite (canV_ite (canV_err _) (canV_text _)) (canV_ite (canV_ite (canV_err _) (canV_str _)) (canV_err _)))
  | [_, _, _] => canV_ite (canV_ite (canV_err _) (canV_ite (canV_err _) (canV_text _))) (canV_ite (canV_ite (canV_err _) (canV_str _)) (canV_err _))
  | _ :: _ :: _ :: _ :: _ => canV_ite (canV_ite (canV_err _) (canV_str _)) (canV_err _)
end Go.Proofs.YtbbhcbpfffabpaaGreatDoor

/- The law CodeOwns over the program's contracts: the walk (gen_c15s.py). -/
namespace Go.Proofs.YtbbhcbpfffabpaaGreatDoor
open Go.RowKit T3

/-- What the program's Own is to answer, and the little that 'lives' asks. -/
structure OwnsOk (R : OwnRef) : Prop where
  own : ∀ (g : ByteArray) (l : List Cel) (p : Option Addr) (n cap : Nat) (w : World), l.length ≤ 6 → (∀ x ∈ l, Fits x.n ∧ fitB x.k x.n x.s = true) → CellsAt w p n cap l → (∀ a, p = some a → a.block < w.heap.size) → Env w → Calls Tryz.prog 5 #[.string g, .slice p n cap] w fun e w' => e = .returned (ownF R g l) ∧ Below w.heap.size w w'
  two : ∀ w : World, Env w → Calls Tryz.prog 34 #[.string ⟨#[43]⟩, .agg (cellC 2 0 ⟨#[51, 120]⟩), .agg (cellC 1 1000000 ⟨#[]⟩)] w fun e w' => e = .returned (twoC 1 4000000 ⟨#[]⟩ 0) ∧ Below w.heap.size w w'
  bool : ∀ w : World, Env w → Calls Tryz.prog 35 #[.bool true] w fun e w' => e = .returned (.agg (cellC 1 1000000 ⟨#[]⟩)) ∧ Below w.heap.size w w'

set_option maxRecDepth 100000 in
set_option maxHeartbeats 1000000 in
theorem livesO {R : OwnRef} (H : OwnsOk R) (w : World) (hE : Env w) : Calls Tryz.prog 8 #[] w fun e w' => e = .returned (.bool true) ∧ Below w.heap.size w w' := by
  have HI := info_cell
  have HT := Lib.hid H.two
  have HB := Lib.hid H.bool
  have HE := Lib.hid hE
  clear H hE
  go_enter Tryz.func8, Tryz.ntmps8
  go_wp2_with fail
  refine (HT.out _ HE.out).mono ?_
  rintro e w1 ⟨rfl, b1⟩
  have B1 := Lib.hid b1
  unfold twoC
  clear b1 HT
  go_upto_region 2 with (refine wpList_store_row rfl 25 (.tmp 1) (.tmp 7) rfl w1.heap.size (cellC 1 4000000 ⟨#[]⟩) rfl rfl 25 zeroC (heap_alloc_last _ _) HI rfl (cell_one3 _ _ _) ?_)
  obtain ⟨W2, hW2, X2, B2⟩ : ∃ W2, W2 = (w1.alloc (.cells zeroC 25)).setRow w1.heap.size (cellC 1 4000000 ⟨#[]⟩) ∧ Hid (Cx W2 w1.heap.size (cellC 1 4000000 ⟨#[]⟩)) ∧ Hid (Below w1.heap.size w1 W2) :=
    ⟨_, rfl, Lib.hid (Cx.setRow (cs := zeroC) ⟨heap_alloc_last _ _⟩ _), Lib.hid (below_row (below_new w1 _) (Nat.le_refl _) _)⟩
  change Code.wp _ _ _ _ ((w1.alloc (.cells zeroC 25)).setRow w1.heap.size (cellC 1 4000000 ⟨#[]⟩))
  rw [← hW2]
  clear hW2
  obtain ⟨a0, a1, a2⟩ := three_of X2.out
  go_wp2_with fail
  refine (HB.out _ (HE.out.after (Below.step B1.out B2.out))).mono ?_
  rintro e w3 ⟨rfl, b3⟩
  have B3 := Lib.hid (Below.step B1.out (Below.step B2.out b3))
  unfold cellC
  clear b3 a0 a1 a2
  go_wp2_with fail
  go_ret
  exact ⟨rfl, B3.out⟩
theorem pick_okO {l : List Cel} (hf : ∀ c, c ∈ l → Fits c.n) : ∀ x ∈ pickC l, Fits x.n ∧ fitB x.k x.n x.s = true := fun c hc => by
  have h := List.mem_filter.1 hc
  exact ⟨hf c (List.mem_of_mem_take h.1), h.2⟩
theorem fit_sizeO {k n : Int} {s : ByteArray} (h : fitB k n s = true) : s.size ≤ 300 := by
  unfold fitB at h
  rw [Bool.and_eq_true] at h
  exact of_decide_eq_true h.1
theorem pick_lenO (l : List Cel) : (pickC l).length ≤ 6 := by
  have h := List.length_filter_le okC (l.take 6)
  have h2 : (l.take 6).length ≤ 6 := by rw [List.length_take]; omega
  show ((l.take 6).filter okC).length ≤ 6
  omega

set_option maxRecDepth 100000 in
set_option maxHeartbeats 4000000 in
theorem owns_walk {R : OwnRef} (HR : OwnRefOk R) (H : OwnsOk R) (w : World) (p : Option Addr) (ln cap : Nat) (l : List Cel) (g : ByteArray) (hln : ln ≤ 9223372036854775807) (hlen : ln = l.length)
    (hcells : l = [] ∨ ∃ b off, p = some ⟨b, off, none⟩ ∧ ∀ i c, l[i]? = some c → w.cell? ⟨b, off + i * 3, none⟩ = some (.int .i64 c.k) ∧ w.cell? ⟨b, off + i * 3 + 1, none⟩ = some (.int .i64 c.n) ∧ w.cell? ⟨b, off + i * 3 + 2, none⟩ = some (.string c.s)) (hfit : ∀ c, c ∈ l → Fits c.n) (hE : Env w) :
    Calls Tryz.prog 3 #[.string g, .slice p ln cap] w fun e w' => e = .returned (.bool true) ∧ Below w.heap.size w w' := by
  have HI := info_cell
  have HLV := Lib.hid (fun w hE => livesO H w hE)
  have HE := Lib.hid hE
  have HLC := Lib.hid (lawCells_any l p ln cap w hln hlen hcells)
  have HOK := Lib.hid (pick_okO hfit)
  have HPL : Hid ((pickC l).length ≤ 6) := Lib.hid (pick_lenO l)
  obtain ⟨k, n, s, e, hv, hcan⟩ := own_can R g (pickC l)
  have HCN := Lib.hid hcan
  have HO := Lib.hid (fun w q m c (hc : CellsAt w q m c (pickC l)) (hlow : ∀ a, q = some a → a.block < w.heap.size) (he : Env w) => by have h := H.own g (pickC l) q m c w HPL.out HOK.out hc hlow he; rw [hv] at h; exact h)
  have HRO := Lib.hid (fun w q m c (hc : CellsAt w q m c (pickC l)) => by have h := refOwn_any HR g (pickC l) q m c (fun x hx => ⟨(HOK.out x hx).1, fit_sizeO (HOK.out x hx).2⟩) w hc; rw [hv] at h; exact h)
  clear H HR hln hlen hcells hfit hv hcan hE
  go_enter Tryz.func3, Tryz.ntmps3
  go_wp2_with fail
  refine HLC.out.mono ?_
  rintro e0 u0 ⟨q, c, rfl, hO, bb⟩
  have R0 := Lib.hid bb
  clear bb HLC
  obtain ⟨ml, hml⟩ : ∃ ml, ml = (pickC l).length := ⟨_, rfl⟩
  rw [← hml] at hO HPL ⊢
  have HML := Lib.hid hml
  clear hml
  have hmle : ml ≤ 1000000 := Nat.le_trans HPL.out (by decide)
  have hCL : CellsAt u0 q ml c (pickC l) := own_read hO.out HML.out
  go_wp2_with (at_builtin; (refine wp_copy_cells rfl _ _ rfl u0 q ml c (pickC l) rfl rfl hCL hmle ?_; intro p7 c7 u7 h7))
  have bb := h7.out.2.2.1
  have HC7 := Lib.hid h7.out.1
  have HL7 := Lib.hid h7.out.2.1
  have R1 := Lib.hid (Below.step R0.out bb)
  have O1 := Lib.hid (own_below hO.out bb)
  clear bb h7 hCL R0 hO
  go_wp2_with fail
  refine (HO.out _ _ _ _ HC7.out HL7.out (HE.out.after R1.out)).mono ?_
  rintro e0 u8 ⟨rfl, bb⟩
  have R2 := Lib.hid (Below.step R1.out bb)
  have O2 := Lib.hid (own_below O1.out bb)
  clear bb R1 O1 HC7 HL7
  unfold twoC
  go_upto_region 3 with (refine wpList_store_row rfl 25 (.tmp 5) (.tmp 17) rfl u8.heap.size (cellC k n s) rfl rfl 25 zeroC (heap_alloc_last _ _) HI rfl (cell_one3 _ _ _) ?_)
  obtain ⟨z8, hz, X8, BZ⟩ : ∃ Z, Z = (u8.alloc (.cells zeroC 25)).setRow u8.heap.size (cellC k n s) ∧ Hid (Cx Z u8.heap.size (cellC k n s)) ∧ Hid (Below u8.heap.size u8 Z) :=
    ⟨_, rfl, Lib.hid (Cx.setRow (cs := zeroC) ⟨heap_alloc_last _ _⟩ _), Lib.hid (below_row (below_new u8 _) (Nat.le_refl _) _)⟩
  change Code.wp _ _ _ _ ((u8.alloc (.cells zeroC 25)).setRow u8.heap.size (cellC k n s))
  rw [← hz]
  try simp only [Act.put]
  have R9 := Lib.hid (Below.step R2.out BZ.out)
  have O9 := Lib.hid (own_below O2.out BZ.out)
  clear hz BZ R2 O2
  obtain ⟨x00, x01, x02⟩ := three_of X8.out
  have hCL : CellsAt z8 q ml c (pickC l) := own_read O9.out HML.out
  go_wp2_with fail
  refine (HRO.out _ _ _ _ hCL).mono ?_
  rintro e0 u10 ⟨rfl, bb⟩
  have R10 := Lib.hid (Below.step R9.out bb)
  have O10 := Lib.hid (own_below O9.out bb)
  have Y10_0 := Lib.hid (X8.out.after bb)
  unfold twoC
  clear bb hCL x00 x01 x02 R9 O9 X8
  go_upto_region 4 with (refine wpList_store_row rfl 25 (.tmp 7) (.tmp 23) rfl u10.heap.size (cellC k n s) rfl rfl 25 zeroC (heap_alloc_last _ _) HI rfl (cell_one3 _ _ _) ?_)
  obtain ⟨z10, hz, X10, BZ⟩ : ∃ Z, Z = (u10.alloc (.cells zeroC 25)).setRow u10.heap.size (cellC k n s) ∧ Hid (Cx Z u10.heap.size (cellC k n s)) ∧ Hid (Below u10.heap.size u10 Z) :=
    ⟨_, rfl, Lib.hid (Cx.setRow (cs := zeroC) ⟨heap_alloc_last _ _⟩ _), Lib.hid (below_row (below_new u10 _) (Nat.le_refl _) _)⟩
  change Code.wp _ _ _ _ ((u10.alloc (.cells zeroC 25)).setRow u10.heap.size (cellC k n s))
  rw [← hz]
  try simp only [Act.put]
  have R11 := Lib.hid (Below.step R10.out BZ.out)
  have O11 := Lib.hid (own_below O10.out BZ.out)
  have Y11_0 := Lib.hid (Y10_0.out.after BZ.out)
  clear hz BZ R10 O10 Y10_0
  obtain ⟨x00, x01, x02⟩ := three_of Y11_0.out
  obtain ⟨x10, x11, x12⟩ := three_of X10.out
  go_wp2_with fail
  refine (HCN.out _).mono ?_
  rintro e0 u12 ⟨rfl, bb⟩
  have R12 := Lib.hid (Below.step R11.out bb)
  have O12 := Lib.hid (own_below O11.out bb)
  have Y12_0 := Lib.hid (Y11_0.out.after bb)
  have Y12_1 := Lib.hid (X10.out.after bb)
  clear bb  x00 x01 x02 x10 x11 x12 R11 O11 Y11_0 X10
  obtain ⟨x00, x01, x02⟩ := three_of Y12_0.out
  obtain ⟨x10, x11, x12⟩ := three_of Y12_1.out
  go_wp2_with fail
  refine (HLV.out _ (HE.out.after R12.out)).mono ?_
  rintro e0 u13 ⟨rfl, bb⟩
  have R13 := Lib.hid (Below.step R12.out bb)
  have O13 := Lib.hid (own_below O12.out bb)
  have Y13_0 := Lib.hid (Y12_0.out.after bb)
  have Y13_1 := Lib.hid (Y12_1.out.after bb)
  clear bb  x00 x01 x02 x10 x11 x12 R12 O12 Y12_0 Y12_1
  go_wp2_with fail
  go_ret
  exact ⟨rfl, R13.out⟩
end Go.Proofs.YtbbhcbpfffabpaaGreatDoor
