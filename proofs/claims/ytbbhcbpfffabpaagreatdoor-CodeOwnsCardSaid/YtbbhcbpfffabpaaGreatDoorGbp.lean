/- CodeOwns: for every name and all cells the law returns true: the program's Own and the document's make the same cell of the same cells, or tell the same error, and that cell can be. Conditions: none beyond the row's own (the three tables of the library that its calls read are laid as their initialisers lay them). -/
import Derived.Test.YtbbhcbpfffabpaaGreatDoorGbo
import Derived.Test.YtbbhcbpfffabpaaGreatDoorGbj
import Derived.Test.YtbbhcbpfffabpaaGreatDoorGbg
import Derived.Test.YtbbhcbpfffabpaaGreatDoorGbl
/- What the program's Own answers: OwnsOk (gen_k15f.py). -/
namespace Go.Proofs.YtbbhcbpfffabpaaGreatDoor
open Go.RowKit T3 Go.Shelf

theorem errT_form (x : Int) : ∃ k n s e, errT x = twoC k n s e := ⟨_, _, _, _, rfl⟩
theorem partF_form (z : ByteArray) (l : List Cel) : ∃ k n s e, partF z l = twoC k n s e := by
  unfold partF
  repeat' split
  all_goals exact ⟨_, _, _, _, rfl⟩
theorem madeF_form (q : ByteArray) (e1 : Int) : ∃ k n s e, (if e1 ≠ 0 then errT e1 else strA q) = twoC k n s e := by
  split
  · exact ⟨_, _, _, _, rfl⟩
  · exact strA_formP q
set_option maxRecDepth 100000 in
/-- Where there is no such function of so many cells, the answer is ErrArg. -/
theorem ownF_none (g : ByteArray) (l : List Cel) (h : takesB g l.length = false) : ownF ownRef g l = errT 1 := by
  have h0 : g = ⟨#[108, 101, 110, 103, 116, 104]⟩ → takesB ⟨#[108, 101, 110, 103, 116, 104]⟩ l.length = false := fun e => by rw [← e]; exact h
  have h1 : g = ⟨#[105, 110, 116]⟩ → takesB ⟨#[105, 110, 116]⟩ l.length = false := fun e => by rw [← e]; exact h
  have h2 : g = ⟨#[116, 111, 108, 111, 119, 101, 114]⟩ → takesB ⟨#[116, 111, 108, 111, 119, 101, 114]⟩ l.length = false := fun e => by rw [← e]; exact h
  have h3 : g = ⟨#[116, 111, 117, 112, 112, 101, 114]⟩ → takesB ⟨#[116, 111, 117, 112, 112, 101, 114]⟩ l.length = false := fun e => by rw [← e]; exact h
  have h4 : g = ⟨#[105, 110, 100, 101, 120]⟩ → takesB ⟨#[105, 110, 100, 101, 120]⟩ l.length = false := fun e => by rw [← e]; exact h
  have h5 : g = ⟨#[115, 117, 98, 115, 116, 114]⟩ → takesB ⟨#[115, 117, 98, 115, 116, 114]⟩ l.length = false := fun e => by rw [← e]; exact h
  have h6 : g = ⟨#[115, 112, 114, 105, 110, 116, 102]⟩ → takesB ⟨#[115, 112, 114, 105, 110, 116, 102]⟩ l.length = false := fun e => by rw [← e]; exact h
  match l with
  | [] => rfl
  | [c] =>
    have n0 : g ≠ ⟨#[108, 101, 110, 103, 116, 104]⟩ := fun e => absurd (h0 e) (by simp [takesB])
    have n1 : g ≠ ⟨#[105, 110, 116]⟩ := fun e => absurd (h1 e) (by simp [takesB])
    have n2 : g ≠ ⟨#[116, 111, 108, 111, 119, 101, 114]⟩ := fun e => absurd (h2 e) (by simp [takesB])
    have n3 : g ≠ ⟨#[116, 111, 117, 112, 112, 101, 114]⟩ := fun e => absurd (h3 e) (by simp [takesB])
    have n6 : g ≠ ⟨#[115, 112, 114, 105, 110, 116, 102]⟩ := fun e => absurd (h6 e) (by simp [takesB])
    simp only [ownF, n0, n1, n2, n3, n6, if_false]
  | [c, d] =>
    have n4 : g ≠ ⟨#[105, 110, 100, 101, 120]⟩ := fun e => absurd (h4 e) (by simp [takesB])
    have n5 : g ≠ ⟨#[115, 117, 98, 115, 116, 114]⟩ := fun e => absurd (h5 e) (by simp [takesB])
    have n6 : g ≠ ⟨#[115, 112, 114, 105, 110, 116, 102]⟩ := fun e => absurd (h6 e) (by simp [takesB])
    simp only [ownF, n4, n5, n6, if_false]
  | [c, d, e] =>
    have n5 : g ≠ ⟨#[115, 117, 98, 115, 116, 114]⟩ := fun e => absurd (h5 e) (by simp [takesB])
    have n6 : g ≠ ⟨#[115, 112, 114, 105, 110, 116, 102]⟩ := fun e => absurd (h6 e) (by simp [takesB])
    simp only [ownF, n5, n6, if_false]
  | c :: d :: e :: f :: l =>
    have n6 : g ≠ ⟨#[115, 112, 114, 105, 110, 116, 102]⟩ := fun e => absurd (h6 e) (by simp [takesB])
    show (if g = ⟨#[115, 112, 114, 105, 110, 116, 102]⟩ then (if (ownRef.form (strK c) (d :: e :: f :: l)).2 ≠ 0 then errT (ownRef.form (strK c) (d :: e :: f :: l)).2 else strA (ownRef.form (strK c) (d :: e :: f :: l)).1) else errT 1) = errT 1
    rw [if_neg n6]
theorem ownF_length (c : Cel) : ownF ownRef ⟨#[108, 101, 110, 103, 116, 104]⟩ [c] = numA (ownRef.whole (ownRef.chars (strK c) : Nat)) := rfl
theorem ownF_int (c : Cel) : ownF ownRef ⟨#[105, 110, 116]⟩ [c] = numA (ownRef.int (ownRef.num c).1, (ownRef.num c).2) := rfl
theorem ownF_tolower (c : Cel) : ownF ownRef ⟨#[116, 111, 108, 111, 119, 101, 114]⟩ [c] = twoC 2 0 (ownRef.low (strK c)) 0 := rfl
theorem ownF_toupper (c : Cel) : ownF ownRef ⟨#[116, 111, 117, 112, 112, 101, 114]⟩ [c] = twoC 2 0 (ownRef.up (strK c)) 0 := rfl
theorem ownF_index (c d : Cel) : ownF ownRef ⟨#[105, 110, 100, 101, 120]⟩ [c, d] = numA (ownRef.whole (ownRef.index (strK c) (strK d))) := rfl
theorem ownF_substr2 (c d : Cel) : ownF ownRef ⟨#[115, 117, 98, 115, 116, 114]⟩ [c, d] = partF (strK c) [d] := rfl
theorem ownF_substr3 (c d e : Cel) : ownF ownRef ⟨#[115, 117, 98, 115, 116, 114]⟩ [c, d, e] = partF (strK c) [d, e] := rfl
theorem ownF_sprintf (c : Cel) (l : List Cel) : ownF ownRef ⟨#[115, 112, 114, 105, 110, 116, 102]⟩ (c :: l) = (if (ownRef.form (strK c) l).2 ≠ 0 then errT (ownRef.form (strK c) l).2 else strA (ownRef.form (strK c) l).1) := by
  match l with
  | [] => rfl
  | [d] => rfl
  | [d, e] => rfl
  | d :: e :: f :: l => rfl

theorem own_all (g : ByteArray) (l : List Cel) (p : Option Addr) (n cap : Nat) (w : World) (hl : ∀ x ∈ l, Fits x.n ∧ fitB x.k x.n x.s = true) (hC : CellsAt w p n cap l) (hlow : ∀ a, p = some a → a.block < w.heap.size) (hE : Env w) :
    Calls Tryz.prog 5 #[.string g, .slice p n cap] w fun e w' => e = .returned (ownF ownRef g l) ∧ Below w.heap.size w w' := by
  have hf : ∀ x ∈ l, Fits x.n ∧ x.s.size ≤ 300 := fun x hx => ⟨(hl x hx).1, fit_sizeO (hl x hx).2⟩
  have hn := hC.len
  by_cases ht : takesB g n = true
  case neg =>
    have ht : takesB g n = false := by simpa using ht
    rw [ownF_none g l (by rw [← hn]; exact ht)]
    exact kown_none g p n cap ht w
  subst hn
  by_cases g_length : g = ⟨#[108, 101, 110, 103, 116, 104]⟩
  · subst g_length
    have hk : l.length = 1 := by simpa [takesB] using ht
    obtain ⟨c, rfl⟩ := List.length_eq_one_iff.1 hk
    have hc := hf c (by simp)
    rw [ownF_length]
    exact kown_length c p cap hc w hC
  by_cases g_int : g = ⟨#[105, 110, 116]⟩
  · subst g_int
    have hk : l.length = 1 := by simpa [takesB] using ht
    obtain ⟨c, rfl⟩ := List.length_eq_one_iff.1 hk
    have hc := hf c (by simp)
    rw [ownF_int]
    exact kown_int c p cap hc w hC
  by_cases g_tolower : g = ⟨#[116, 111, 108, 111, 119, 101, 114]⟩
  · subst g_tolower
    have hk : l.length = 1 := by simpa [takesB] using ht
    obtain ⟨c, rfl⟩ := List.length_eq_one_iff.1 hk
    have hc := hf c (by simp)
    rw [ownF_tolower]
    exact kown_tolower c p cap hc w hC
  by_cases g_toupper : g = ⟨#[116, 111, 117, 112, 112, 101, 114]⟩
  · subst g_toupper
    have hk : l.length = 1 := by simpa [takesB] using ht
    obtain ⟨c, rfl⟩ := List.length_eq_one_iff.1 hk
    have hc := hf c (by simp)
    rw [ownF_toupper]
    exact kown_toupper c p cap hc w hC
  by_cases g_index : g = ⟨#[105, 110, 100, 101, 120]⟩
  · subst g_index
    have hk : l.length = 2 := by simpa [takesB] using ht
    match l, hk with
    | [c, d], _ =>
      rw [ownF_index]
      exact kown_index c d p cap (hf c (by simp)) (hf d (by simp)) w hC hE
  by_cases g_substr : g = ⟨#[115, 117, 98, 115, 116, 114]⟩
  · subst g_substr
    have hk : l.length = 2 ∨ l.length = 3 := by simpa [takesB] using ht
    match l, hk with
    | [c, d], _ =>
      have hc := hf c (by simp)
      have hd := hf d (by simp)
      rw [ownF_substr2]
      exact kown_substr c [d] p _ cap hc w hC ht (partF (strK c) [d]) (partF_form _ _) (fun V q2 c2 _ h _ => kpart_1 (strK c) (strK_size c hc.2) d q2 c2 hd V h)
    | [c, d, e], _ =>
      have hc := hf c (by simp)
      have hd := hf d (by simp)
      have he := hf e (by simp)
      rw [ownF_substr3]
      exact kown_substr c [d, e] p _ cap hc w hC ht (partF (strK c) [d, e]) (partF_form _ _) (fun V q2 c2 _ h _ => kpart_2 (strK c) (strK_size c hc.2) d e q2 c2 hd he V h)
  by_cases g_sprintf : g = ⟨#[115, 112, 114, 105, 110, 116, 102]⟩
  · subst g_sprintf
    have hk : 1 ≤ l.length := by simpa [takesB] using ht
    match l, hk with
    | c :: l, _ =>
      have hc := hf c (by simp)
      rw [ownF_sprintf c l]
      exact kown_sprintf c l p _ cap hc w hC ht _ (madeF_form _ _) (fun V q2 c2 hb h hbl => kmade (strK c) (strK_size c hc.2) l q2 _ c2 V (fun x hx => hf x (by simp [hx])) h (fun a ha => by
        obtain ⟨d, hd, e⟩ := hbl a ha
        rw [e]
        exact Nat.lt_of_lt_of_le (hlow d hd) hb.size) (hE.after hb))
  exfalso
  have : takesB g l.length = false := by unfold takesB; rw [if_neg g_length, if_neg g_int, if_neg g_tolower, if_neg g_toupper, if_neg g_index, if_neg g_substr, if_neg g_sprintf]
  rw [this] at ht
  exact absurd ht (by simp)

set_option maxRecDepth 100000 in
set_option maxHeartbeats 1000000 in
theorem ktwo (w : World) : Calls Tryz.prog 34 #[.string ⟨#[43]⟩, .agg (cellC 2 0 ⟨#[51, 120]⟩), .agg (cellC 1 1000000 ⟨#[]⟩)] w fun e w' => e = .returned (twoC 1 4000000 ⟨#[]⟩ 0) ∧ Below w.heap.size w w' := by
  have HI := info_cell
  have h1 := fun w => num_any 2 0 ⟨#[51, 120]⟩ (by decide) w
  have h2 := fun w => num_any 1 1000000 ⟨#[]⟩ (by decide) w
  rw [show numL 2 0 ⟨#[51, 120]⟩ = (3000000, 0) from by kernel_rfl] at h1
  rw [show numL 1 1000000 ⟨#[]⟩ = (1000000, 0) from by kernel_rfl] at h2
  have h3 : ∀ w, Calls Tryz.prog 62 #[.int .i64 3000000, .int .i64 1000000] w fun e w' => e = .returned (.tuple #[.int .i64 (4000000, (0 : Int)).1, .int .i64 (4000000, (0 : Int)).2]) ∧ Below w.heap.size w w' := fun w => by
    have h := add_p 3000000 1000000 (by unfold Fits; omega) (by unfold Fits; omega) w
    rw [show T1.back (3000000 + 1000000) = (4000000, 0) from by kernel_rfl] at h
    exact h
  have HRK := Lib.hid (kreckon 62 (enters_of Tryz.func62 (by kernel_rfl) rfl) 2 0 ⟨#[51, 120]⟩ 1 1000000 ⟨#[]⟩ 3000000 0 1000000 0 (4000000, 0) h1 h2 h3)
  rw [show recF 0 0 (4000000, 0) = twoC 1 4000000 ⟨#[]⟩ 0 from rfl] at HRK
  clear h1 h2 h3
  obtain ⟨W, hW, HR⟩ := kw_new w (cellC 2 0 ⟨#[51, 120]⟩) (cellC 1 1000000 ⟨#[]⟩) zeroC
  go_enter Tryz.func34, Tryz.ntmps34
  go_upto_region 1 with (fail)
  change Code.wp _ _ _ _ (((w.alloc (.cells (cellC 2 0 ⟨#[51, 120]⟩) 25)).alloc (.cells (cellC 1 1000000 ⟨#[]⟩) 25)).alloc (.cells zeroC 25))
  rw [← hW]
  clear hW
  obtain ⟨a0, a1, a2⟩ := three_of HR.out.a
  obtain ⟨b0, b1, b2⟩ := three_of HR.out.b
  go_wp2_with fail
  refine (HRK.out _).mono ?_
  rintro e w1 ⟨rfl, bb⟩
  have HR1 := Lib.hid (HR.out.after bb)
  clear bb a0 a1 a2 b0 b1 b2 HR
  unfold twoC
  go_wp2_with (refine wpList_store_row rfl 25 (.tmp 6) (.tmp 14) rfl (w.heap.size + 1 + 1) (cellC 1 4000000 ⟨#[]⟩) rfl rfl 25 zeroC HR1.out.r.row HI rfl (cell_one3 _ _ _) ?_)
  obtain ⟨Z, hZ, HZ⟩ : ∃ Z, Z = w1.setRow (w.heap.size + 1 + 1) (cellC 1 4000000 ⟨#[]⟩) ∧ Hid (Kw w Z (cellC 2 0 ⟨#[51, 120]⟩) (cellC 1 1000000 ⟨#[]⟩) (cellC 1 4000000 ⟨#[]⟩)) := ⟨_, rfl, Lib.hid (HR1.out.put _)⟩
  rw [← hZ]
  clear hZ
  obtain ⟨d0, d1, d2⟩ := three_of HZ.out.r
  refine bodyPost_ret (v := twoC 1 4000000 ⟨#[]⟩ 0) ?_ rfl ?_
  · simp [results, Tryz.results34, go_sem, d0, d1, d2, twoC, cellC]
  · exact ⟨rfl, HZ.out.below⟩

theorem ownsOk : OwnsOk ownRef where
  own g l p n cap w _ hl hC hlow hE := own_all g l p n cap w hl hC hlow hE
  two w _ := ktwo w
  bool w _ := kbool true w
end Go.Proofs.YtbbhcbpfffabpaaGreatDoor

namespace Go.Proofs.YtbbhcbpfffabpaaGreatDoor.codeOwns
open Go.ChangeShapes Go.WideShapes Go.ChangeAt Go.RowKit Go.ChangeMaps

theorem laid_met (os : Os) : laidMet Tryz.prog Rows.codeOwnsRow.laid ((laidWorld os).forCall (fun _ _ => 0) ⟨#[], #[.string ⟨#[]⟩, .slice none 0 0], []⟩).memory :=
  laidMet_of_run' 8 (by kernel_rfl) (by kernel_rfl)
theorem reads (os : Os) {H : Type} (enc : TypeId × Value → H) : ∃ places, DataW.whole enc Tryz.prog ((laidWorld os).forCall (fun _ _ => 0) ⟨#[], #[.string ⟨#[]⟩, .slice none 0 0], []⟩).memory Tryz.f3.params.toList Rows.codeOwnsSpec.vars false #[.string ⟨#[]⟩, .slice none 0 0].toList 8 = some ([.lit (.string []), .nil], [], places) :=
  ⟨[], by kernel_rfl⟩

set_option maxRecDepth 100000 in
theorem lifted (os : Os) (started : os.Started) (H : Type) (enc : TypeId × Value → H) (F : Stop.Interp) :
    ReturnsInHanded {} Tryz.checked os 3 .any ((OpenSpec.ofChange Rows.codeOwnsSpec).preRow enc Tryz.prog Tryz.f3 Rows.codeOwnsRow.domain false Rows.codeOwnsRow.laid) (((OpenSpec.ofChange Rows.codeOwnsSpec).at F).post enc Tryz.prog Tryz.f3 false true false false) := by
  obtain ⟨places, hx⟩ := reads os enc
  refine returnsInHanded_of_row (C := Tryz.checked) (s := (OpenSpec.ofChange Rows.codeOwnsSpec)) own started (by kernel_rfl) Tryz.func3
    (witness_row_at (enc := enc) (C := Tryz.checked) false (laidWorld os) #[.string ⟨#[]⟩, .slice none 0 0] rfl (by kernel_rfl) (by kernel_rfl) (by kernel_rfl)
      (OpenSpec.preRow_of_cond 8 hx (by kernel_rfl) (fun k hk => by cases hk) (by kernel_rfl) (laid_met os))) ?_
  intro W base args ds gs before hval0 hW _ _ _ hlaid hsh _
  have hE : Env W := env_of hlaid hsh
  have hval : ∀ (j : Nat) t v, Tryz.f3.params[j]? = some t → args[j]? = some v → Value.okWide Tryz.prog W .any base t v := hval0
  have hW' := hW
  obtain ⟨p, q, hA0, hV, rfl, hfz, hnd⟩ := hW
  have hA : DataW.TrodAll enc Tryz.prog W 0 (fun _ => true) true Tryz.f3.params.toList args.toList ds p := hA0
  rw [Tryz.params3] at hA hval
  obtain ⟨v0, vs0, d0, ds0, p0, q0, hargs, rfl, rfl, h0, r0⟩ := trodAll_cons hA
  obtain ⟨v1, vs1, d1, ds1, p1, q1, rfl, rfl, rfl, h1, r1⟩ := trodAll_cons r0
  obtain ⟨rfl, rfl, rfl⟩ := trodAll_nil r1
  obtain rfl : args = #[v0, v1] := by cases args; simp_all
  obtain ⟨rfl, rfl⟩ := trodVars_none hV
  obtain ⟨a0, rfl, rfl, rfl, w0⟩ := open_string Tryz.underlying9 (hval 0 9 v0 rfl rfl) h0
  have hk1 := h1
  obtain ⟨a1, n1, c1, l1, rfl, w1⟩ := open_cells (hval 1 22 v1 rfl rfl) h1
  clear hA0 hval0
  simp only [List.append_nil, List.nil_append] at hW'
  refine (owns_walk ownRefOk ownsOk W a1 n1 c1 l1 a0 w1.big w1.len w1.cells w1.fits hE).mono fun e W' ⟨he, hg⟩ => ?_
  subst he
  have hlt : ∀ x ∈ p1, x.block < W.heap.size := fun x hx => hW'.lt x hx
  exact ⟨_, rfl, post_reads hW' (fun _ _ _ => (trodAll_cons_mk (shut_bool Tryz.underlying4 _) trodAll_mk0)) (fun sp hsp => by
    have h := (trodAll_cons_mk (shut_string Tryz.underlying9 w0) (trodAll_cons_mk (Go.WideElems.Trod_stays laid_out (by kernel_rfl) (of_decide_eq_true (by kernel_rfl)) hk1 (fun x hx => hg.same (hlt x hx)) hsp) (trodAll_mk0 (enc := enc) (P := Tryz.prog) (w := W') (base := 0) (spare := sp) (held := true))))
    simp only [List.append_nil, List.nil_append] at h
    exact h) (fun _ => rfl) hg⟩

theorem said : Rows.CodeOwnsSaid :=
  OpenClaim.holds_of_cond 3 Tryz.f3 rfl rfl rfl rfl rfl rfl rfl ⟨rfl, rfl, rfl, rfl, rfl⟩ rfl rfl rfl rfl rfl (by kernel_rfl) Tryz.func3 (by kernel_rfl)
    (of_decide_eq_true (by kernel_rfl)) (by unfold Func.isWrapper; first | (rw [if_pos (by decide +kernel)]; kernel_rfl) | (rw [if_neg (by decide +kernel)]; exact ⟨rfl, rfl⟩))
    (fun os started H enc _ F => by rw [OpenClaim.pre_eq_preRow]; exact lifted os started H enc F)

theorem plain (f : FuncId) (fn : Func) (hf : Tryz.pinned.checked.prog.funcNamed "auklet/aukletlaw15.CodeOwns" = some f) (hfn : Tryz.pinned.checked.prog.funcs[f]? = some fn) :
    false = Tryz.pinned.checked.prog.looks [] ∧ ∀ (j : Nat) t, fn.params[j]? = some t → Tryz.pinned.checked.prog.wantsStandIn t = false := by
  obtain rfl : f = 3 := Option.some.inj ((show Tryz.prog.funcNamed "auklet/aukletlaw15.CodeOwns" = some 3 by kernel_rfl).symm.trans hf) |>.symm
  obtain rfl : fn = Tryz.f3 := (Option.some.inj (Tryz.func3.symm.trans hfn)).symm
  refine ⟨by kernel_rfl, fun j t ht => ?_⟩
  rw [Tryz.params3] at ht
  have hm := Array.mem_of_getElem? ht
  simp only [List.mem_toArray, List.mem_cons, List.mem_nil_iff, or_false] at hm
  rcases hm with rfl | rfl
  · exact (show Tryz.prog.wantsStandIn 9 = false by kernel_rfl)
  · exact (show Tryz.prog.wantsStandIn 22 = false by kernel_rfl)

theorem proved : Rows.CodeOwnsCardSaid :=
  Claim7.holds_tied_plain_at .later [] _ _ _ _ said (fun _ h => by cases h) (by kernel_rfl) (fun _ h => by cases h) codeOwns_row_tie rfl ⟨rfl, rfl⟩ (by kernel_rfl) rfl plain (by kernel_rfl)
#print axioms proved
end Go.Proofs.YtbbhcbpfffabpaaGreatDoor.codeOwns
