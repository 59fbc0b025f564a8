/- FieldsAll: for any text and any byte the law returns true, and its arguments read as before. The condition: unicode/utf8's two tables as the program's text lays them (the card ties them). -/
import Derived.Test.YtcojnkjcbopnbaaGreatDoorCards
import Derived.Test.YtcojnkjcbopnbaaGreatDoorTie
import Derived.Test.YtcojnkjcbopnbaaGreatDoorPostD
import Derived.Test.YtcojnkjcbopnbaaGreatDoorFLives
import Derived.Test.YtcojnkjcbopnbaaGreatDoorFNext
namespace Go.Proofs.YtcojnkjcbopnbaaGreatDoor.fieldsAll
open Go.ChangeShapes Go.WideShapes Go.ChangeAt Go.RowKit Go.ChangeMaps

set_option maxRecDepth 100000 in
theorem walk_lives (s : ByteArray) (c : Nat) (h : 200 < s.size ∨ c = 92) (w : World) :
    Calls Tryz.prog 3 #[.string s, .int .u8 c] w fun e w' => e = .returned (.bool true) ∧ Below w.heap.size w w' := by
  have HL := Lib.hid (lives9 w)
  by_cases h1 : 200 < s.size
  · have hd : decide (200 < (s.size : Int)) = true := decide_eq_true (by omega)
    go_enter Tryz.func3, Tryz.ntmps3
    go_wp2_with fail
    refine HL.out.mono ?_
    rintro e w1 ⟨rfl, b1⟩
    have B1 := Lib.hid b1
    clear b1
    go_wp2_with fail
    go_ret
    exact ⟨rfl, B1.out⟩
  · have hd : decide (200 < (s.size : Int)) = false := decide_eq_false (by omega)
    have h2 : c = 92 := h.resolve_left h1
    have e2 : ((c : Int) == 92) = true := by rw [h2]; rfl
    clear h h2
    go_enter Tryz.func3, Tryz.ntmps3
    go_wp2_with fail
    refine HL.out.mono ?_
    rintro e w1 ⟨rfl, b1⟩
    have B1 := Lib.hid b1
    clear b1
    go_wp2_with fail
    go_ret
    exact ⟨rfl, B1.out⟩

theorem one_byte {s : ByteArray} {b : Nat} {c : UInt8} (h : b < s.size) (hb : bt s b = c) : s.extract b (b + 1) = ⟨#[c]⟩ := by
  apply chars_one
  rw [Lib.extract_data, show b + 1 - b = 1 from by omega, ← hb]
  have h1 := bt_list h
  have hl : b < s.data.toList.length := by simpa using h
  rw [List.drop_eq_getElem_cons hl, List.take_succ_cons, List.take_zero]
  rw [List.getElem?_eq_getElem hl] at h1
  simpa using h1

set_option maxRecDepth 100000 in
set_option maxHeartbeats 1000000 in
theorem walk_all (s : ByteArray) (c : Nat) (hc : c < 256) (hs : s.size ≤ 200) (h92 : c ≠ 92) (w : World) :
    Calls Tryz.prog 3 #[.string s, .int .u8 c] w fun e w' => e = .returned (.bool true) ∧ Below w.heap.size w w' := by
  have HL := Lib.hid lives9
  have hd : decide (200 < (s.size : Int)) = false := decide_eq_false (by omega)
  have e3 : ((c : Int) == 92) = false := beq_eq_false_iff_ne.2 (by omega)
  obtain ⟨W, hW⟩ : ∃ W, W = w.alloc (.cells #[.int .u8 (c : Nat)] 5) := ⟨_, rfl⟩
  have hB := below_new w (.cells #[.int .u8 (c : Nat)] 5)
  have hnat : c.toUInt8.toNat = c := by simp [Nat.toUInt8, UInt8.toNat_ofNat']; omega
  have hcell : W.cell? ⟨w.heap.size, 0, none⟩ = some (.int .u8 (c : Nat)) := by rw [hW]; exact cell_of_row _ _ 0 _ _ (0, 0) (heap_alloc_last w _)
  obtain ⟨sep, hsep⟩ : ∃ sep : ByteArray, sep = ⟨#[c.toUInt8]⟩ := ⟨_, rfl⟩
  have hcv : (convert 23 9 (.slice (some ⟨w.heap.size, 0, none⟩) 1 1)).run Tryz.prog W = .ok (.string sep) W := by
    rw [hsep]
    refine run_convert_bytes_back W 23 9 5 ⟨w.heap.size, 0, none⟩ 1 [c.toUInt8] Tryz.underlying23 Tryz.underlying5 Tryz.underlying9 ?_
    intro j hj
    obtain rfl : j = 0 := by simpa using hj
    have ha : (⟨w.heap.size, 0, none⟩ : Addr).add 0 = ⟨w.heap.size, 0, none⟩ := by unfold Addr.add; split <;> simp_all
    rw [ha, hcell]
    simp [hnat]
  rw [← hW] at hB
  have HB := Lib.hid hB
  have ne92 : c.toUInt8 ≠ 92 := fun h => h92 (by have := congrArg UInt8.toNat h; rw [hnat] at this; exact this)
  have NE := Lib.hid (fun (a : Nat) (h : s.size ≤ a) w => next_end s sep a h w)
  have NB : Hid (∀ (a : Nat) (h : a < s.size) w, Calls Tryz.prog 7 #[.string s, .int .i64 a, .string sep] w (OneOut s c.toUInt8 a w)) := Lib.hid (by rw [hsep]; exact fun a h w => next_byte s c.toUInt8 a h ne92 (by omega) w)
  have HO := Lib.hid (fun (b : Nat) (h : b < s.size) (hb : bt s b = c.toUInt8) => show s.extract 0 b ++ sep = s.extract 0 (b + 1) by rw [hsep, ← one_byte h hb]; exact T2.part_join s 0 b (b + 1) (by omega) (by omega))
  have HSn : Hid (sep.size = 1) := Lib.hid (by rw [hsep]; rfl)
  have qs : (s.toList == s.toList) = true := beq_self_eq_true _
  clear hB hsep ne92 hnat hcell
  go_enter Tryz.func3, Tryz.ntmps3
  rw [hW] at hcv
  go_upto_region 4 with (fail)
  rw [← hW]
  clear hcv hW
  go_wp2_with fail
  go_loopw [6, 7, 8] (fun x y z wr => ∃ a i : Nat, x = .string (s.extract 0 a) ∧ y = .int .i64 a ∧ z = .int .i64 i ∧ i ≤ a ∧ a ≤ s.size ∧ Hid (Below w.heap.size w wr)) (fun _ _ z _ => s.size + 1 - (intOf z).toNat)
  case atStart => exact ⟨0, 0, by rw [T2.part_none s 0 0 (by omega)], rfl, rfl, by omega, by omega, HB⟩
  case round =>
    obtain ⟨a, i, rfl, rfl, rfl, hia, ha, hbel⟩ := hrel
    have di : decide ((i : Int) ≤ s.size) = true := decide_eq_true (by omega)
    by_cases hlt : a < s.size
    · have N1 := Lib.hid (NB.out a hlt)
      go_wp2_with fail
      refine (N1.out _).mono ?_
      rintro e w1 ⟨e1, b, f, rfl, h⟩
      subst e1
      have HR := Lib.hid h.out.1
      have hab := h.out.1.1
      have hbf := h.out.2.1
      have hfs := h.out.2.2
      clear h
      have hX : s.extract 0 a ++ s.extract a b = s.extract 0 b := T2.part_join s 0 a b (by omega) (by omega)
      have hRs : (s.extract a b).size = b - a := T2.part_size s a b (by omega)
      obtain ⟨R, hR⟩ : ∃ R, R = s.extract a b := ⟨_, rfl⟩
      obtain ⟨X, hXe⟩ : ∃ X, X = s.extract 0 a := ⟨_, rfl⟩
      rw [← hR] at hX hRs ⊢
      rw [← hXe] at hX ⊢
      have HX := Lib.hid hX
      have hXs : X.size = a := by rw [hXe]; exact (T2.part_size s 0 a (by omega)).trans (by omega)
      have n1 : ¬ 9223372036854775807 < X.size + R.size + sep.size := by have := HSn.out; omega
      have n2 : ¬ 9223372036854775807 < X.size + R.size := by omega
      rcases HR.out with ⟨_, ⟨hf, hb1, hb2⟩ | ⟨hf, hb1⟩⟩
      · subst hf
        have dg : decide ((R.size : Int) < (b : Int) + 1 - (a : Int)) = true := decide_eq_true (by omega)
        have H2 := Lib.hid (HO.out b hb1 hb2)
        have hle : b + 1 ≤ s.size := hb1
        clear hX hRs hXs hb2 hR hXe HR
        go_wp2_with fail
        go_roundw
        case rel => exact ⟨b + 1, i + 1, congrArg Value.string (by rw [HX.out, H2.out]), by go_num, by go_num, by omega, hle, hbel⟩
        case measure => simp [intOf]; omega
      · subst hf
        subst hb1
        have dg : decide ((R.size : Int) < (s.size : Int) - (a : Int)) = false := decide_eq_false (by omega)
        clear hX hRs hXs hR hXe HR
        go_wp2_with fail
        go_roundw
        case rel => exact ⟨s.size, i + 1, congrArg Value.string (by rw [HX.out]), rfl, by go_num, by omega, Nat.le_refl _, hbel⟩
        case measure => simp [intOf]; omega
    · obtain rfl : a = s.size := by omega
      have hA : s.extract 0 s.size = s := T2.part_all s
      have N1 := Lib.hid (NE.out s.size (Nat.le_refl _))
      rw [hA]
      clear hA
      go_wp2_with fail
      refine (N1.out _).mono ?_
      rintro e w1 ⟨e0, e1⟩
      unfold NoRec at e0
      subst e0 e1
      go_wp2_with fail
      refine (HL.out _).mono ?_
      rintro e w3 ⟨rfl, b3⟩
      have B3 := Lib.hid (Below.step hbel.out b3)
      clear b3
      go_wp2_with fail
      go_ret
      exact ⟨rfl, B3.out⟩

theorem walk (s : ByteArray) (c : Int) (_ : s.size ≤ maxLen) (hc : (Lit.int .u8 c).wf = true) (w : World) :
    Calls Tryz.prog 3 #[.string s, .int .u8 c] w fun e w' => e = .returned (.bool true) ∧ Below w.heap.size w w' := by
  obtain ⟨n, rfl, hn⟩ := nat_byte hc
  by_cases h : 200 < s.size ∨ n = 92
  · exact walk_lives s n h w
  · exact walk_all s n hn (by omega) (by omega) w

theorem laid_met (os : Os) : laidMet Tryz.prog Rows.fieldsAllRow.laid ((laidWorld os).forCall (fun _ _ => 0) ⟨#[], #[.string ⟨#[]⟩, .int .u8 0], []⟩).memory :=
  laidMet_of_run' 8 (by kernel_rfl) (by kernel_rfl)
theorem reads (os : Os) {H : Type} (enc : TypeId × Value → H) : ∃ places, DataW.whole enc Tryz.prog ((laidWorld os).forCall (fun _ _ => 0) ⟨#[], #[.string ⟨#[]⟩, .int .u8 0], []⟩).memory Tryz.f3.params.toList Rows.fieldsAllSpec.vars false #[.string ⟨#[]⟩, .int .u8 0].toList 8 = some ([.lit (.string []), .lit (.int .u8 0)], [], places) :=
  ⟨[], by kernel_rfl⟩

set_option maxRecDepth 100000 in
theorem lifted (os : Os) (started : os.Started) (H : Type) (enc : TypeId × Value → H) (F : Stop.Interp) :
    ReturnsInHanded {} Tryz.checked os 3 .any ((OpenSpec.ofChange Rows.fieldsAllSpec).preRow enc Tryz.prog Tryz.f3 Rows.fieldsAllRow.domain false Rows.fieldsAllRow.laid) (((OpenSpec.ofChange Rows.fieldsAllSpec).at F).post enc Tryz.prog Tryz.f3 false true false false) := by
  obtain ⟨places, hx⟩ := reads os enc
  refine returnsInHanded_of_row (C := Tryz.checked) (s := (OpenSpec.ofChange Rows.fieldsAllSpec)) own started (by kernel_rfl) Tryz.func3
    (witness_row_at (enc := enc) (C := Tryz.checked) false (laidWorld os) #[.string ⟨#[]⟩, .int .u8 0] rfl (by kernel_rfl) (by kernel_rfl) (by kernel_rfl)
      (OpenSpec.preRow_of_cond 8 hx (by kernel_rfl) (fun k hk => by cases hk) (by kernel_rfl) (laid_met os))) ?_
  intro W base args ds gs before hval0 hW _ _ _ _ _ _
  have hval : ∀ (j : Nat) t v, Tryz.f3.params[j]? = some t → args[j]? = some v → Value.okWide Tryz.prog W .any base t v := hval0
  have hW' := hW
  obtain ⟨p, q, hA0, hV, rfl, hfz, hnd⟩ := hW
  have hA : DataW.TrodAll enc Tryz.prog W 0 (fun _ => true) true Tryz.f3.params.toList args.toList ds p := hA0
  rw [Tryz.params3] at hA hval
  obtain ⟨v0, vs0, d0, ds0, p0, q0, hargs, rfl, rfl, h0, r0⟩ := trodAll_cons hA
  obtain ⟨v1, vs1, d1, ds1, p1, q1, rfl, rfl, rfl, h1, r1⟩ := trodAll_cons r0
  obtain ⟨rfl, rfl, rfl⟩ := trodAll_nil r1
  obtain rfl : args = #[v0, v1] := by cases args; simp_all
  obtain ⟨rfl, rfl⟩ := trodVars_none hV
  obtain ⟨a0, rfl, rfl, rfl, w0⟩ := open_string Tryz.underlying9 (hval 0 9 v0 rfl rfl) h0
  obtain ⟨a1, rfl, rfl, rfl, w1⟩ := open_int Tryz.underlying5 (hval 1 5 v1 rfl rfl) h1
  clear hA0 hval0
  simp only [List.append_nil] at hW'
  refine (walk a0 a1 w0 w1 W).mono fun e W' ⟨he, hg⟩ => ?_
  subst he
  exact ⟨_, rfl, post_bare hW' (fun _ _ _ => (trodAll_cons_mk (shut_bool Tryz.underlying4 _) trodAll_mk0)) (fun sp => (trodAll_cons_mk (shut_string Tryz.underlying9 w0) (trodAll_cons_mk (shut_int Tryz.underlying5 w1) trodAll_mk0))) (fun _ => rfl) hg⟩

theorem said : Rows.FieldsAllSaid :=
  OpenClaim.holds_of_cond 3 Tryz.f3 rfl rfl rfl rfl rfl rfl rfl ⟨rfl, rfl, rfl, rfl, rfl⟩ rfl rfl rfl rfl rfl (by kernel_rfl) Tryz.func3 (by kernel_rfl)
    (of_decide_eq_true (by kernel_rfl)) (by unfold Func.isWrapper; first | (rw [if_pos (by decide +kernel)]; kernel_rfl) | (rw [if_neg (by decide +kernel)]; exact ⟨rfl, rfl⟩))
    (fun os started H enc _ F => by rw [OpenClaim.pre_eq_preRow]; exact lifted os started H enc F)

theorem plain (f : FuncId) (fn : Func) (hf : Tryz.pinned.checked.prog.funcNamed "auklet/aukletlaw09.FieldsAll" = some f) (hfn : Tryz.pinned.checked.prog.funcs[f]? = some fn) :
    true = Tryz.pinned.checked.prog.looks [] ∧ ∀ (j : Nat) t, fn.params[j]? = some t → Tryz.pinned.checked.prog.wantsStandIn t = false := by
  obtain rfl : f = 3 := Option.some.inj ((show Tryz.prog.funcNamed "auklet/aukletlaw09.FieldsAll" = some 3 by kernel_rfl).symm.trans hf) |>.symm
  obtain rfl : fn = Tryz.f3 := (Option.some.inj (Tryz.func3.symm.trans hfn)).symm
  refine ⟨by kernel_rfl, fun j t ht => ?_⟩
  rw [Tryz.params3] at ht
  have hm := Array.mem_of_getElem? ht
  simp only [List.mem_toArray, List.mem_cons, List.mem_nil_iff, or_false] at hm
  rcases hm with rfl | rfl
  · exact (show Tryz.prog.wantsStandIn 9 = false by kernel_rfl)
  · exact (show Tryz.prog.wantsStandIn 5 = false by kernel_rfl)

theorem proved : Rows.FieldsAllCardSaid :=
  Claim7.holds_tied_plain_at .later [] _ _ _ _ said (fun _ h => by cases h) (by kernel_rfl) (fun _ h => by cases h) fieldsAll_row_tie rfl ⟨rfl, rfl⟩ (by kernel_rfl) rfl plain (by kernel_rfl)
#print axioms proved
end Go.Proofs.YtcojnkjcbopnbaaGreatDoor.fieldsAll
