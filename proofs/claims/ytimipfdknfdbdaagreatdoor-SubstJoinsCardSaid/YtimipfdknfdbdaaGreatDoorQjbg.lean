/- SubstJoins: for any text and any byte the law returns true, and its arguments read as before. The condition: unicode/utf8's two tables as the program's text lays them (the card ties them). -/
import Derived.Test.YtimipfdknfdbdaaGreatDoorCards
import Derived.Test.YtimipfdknfdbdaaGreatDoorTie
import Derived.Test.YtimipfdknfdbdaaGreatDoorQjac
import Derived.Test.YtimipfdknfdbdaaGreatDoorQjbf
namespace Go.Proofs.YtimipfdknfdbdaaGreatDoor.substJoins
open Go.ChangeShapes Go.WideShapes Go.ChangeAt Go.RowKit Go.ChangeMaps

set_option maxRecDepth 100000 in
theorem walk_lives (s : ByteArray) (c : Nat) (hc : c < 256) (h : 200 < s.size ∨ c = 32 ∨ c = 92) (w : World) :
    Calls Tryz.prog 3 #[.string s, .int .u8 c] w fun e w' => e = .returned (.bool true) ∧ Below w.heap.size w w' := by
  have HL := Lib.hid (lives8_spec w)
  by_cases h1 : 200 < s.size
  · have hd : decide (200 < (s.size : Int)) = true := decide_eq_true (by omega)
    go_enter Tryz.func3, Tryz.ntmps3
    go_wp2_with fail
    refine HL.out.mono ?_
    rintro e w1 ⟨rfl, b1⟩
    have B1 := Lib.hid b1
    clear b1
    go_wp2_with fail
    go_ret
    exact ⟨rfl, B1.out⟩
  · have hd : decide (200 < (s.size : Int)) = false := decide_eq_false (by omega)
    by_cases h2 : c = 32
    · have e2 : ((c : Int) == 32) = true := by rw [h2]; rfl
      clear h h2
      go_enter Tryz.func3, Tryz.ntmps3
      go_wp2_with fail
      refine HL.out.mono ?_
      rintro e w1 ⟨rfl, b1⟩
      have B1 := Lib.hid b1
      clear b1
      go_wp2_with fail
      go_ret
      exact ⟨rfl, B1.out⟩
    · have e2 : ((c : Int) == 32) = false := beq_eq_false_iff_ne.2 (by omega)
      have e3 : ((c : Int) == 92) = true := by rw [show c = 92 by omega]; rfl
      clear h h2
      go_enter Tryz.func3, Tryz.ntmps3
      go_wp2_with fail
      refine HL.out.mono ?_
      rintro e w1 ⟨rfl, b1⟩
      have B1 := Lib.hid b1
      clear b1
      go_wp2_with fail
      go_ret
      exact ⟨rfl, B1.out⟩

set_option maxRecDepth 100000 in
theorem walk_joins (s : ByteArray) (c : Nat) (hc : c < 256) (hs : s.size ≤ 200) (h32 : c ≠ 32) (h92 : c ≠ 92) (w : World) (hm : ∃ m : Int, w.cell? ⟨0, 0, none⟩ = some (.int .i64 m)) :
    Calls Tryz.prog 3 #[.string s, .int .u8 c] w fun e w' => e = .returned (.bool true) ∧ Below w.heap.size w w' := by
  have HL := Lib.hid lives8_spec
  have hd : decide (200 < (s.size : Int)) = false := decide_eq_false (by omega)
  have e2 : ((c : Int) == 32) = false := beq_eq_false_iff_ne.2 (by omega)
  have e3 : ((c : Int) == 92) = false := beq_eq_false_iff_ne.2 (by omega)
  obtain ⟨W, hW⟩ : ∃ W, W = w.alloc (.cells #[.int .u8 (c : Nat)] 5) := ⟨_, rfl⟩
  have hB := below_new w (.cells #[.int .u8 (c : Nat)] 5)
  have hnat : c.toUInt8.toNat = c := by simp [Nat.toUInt8, UInt8.toNat_ofNat']; omega
  have hcell : W.cell? ⟨w.heap.size, 0, none⟩ = some (.int .u8 (c : Nat)) := by rw [hW]; exact cell_of_row _ _ 0 _ _ (0, 0) (heap_alloc_last w _)
  obtain ⟨sep, hsep⟩ : ∃ sep : ByteArray, sep = ⟨#[c.toUInt8]⟩ := ⟨_, rfl⟩
  have hcv : (convert 23 9 (.slice (some ⟨w.heap.size, 0, none⟩) 1 1)).run Tryz.prog W = .ok (.string sep) W := by
    rw [hsep]
    refine run_convert_bytes_back W 23 9 5 ⟨w.heap.size, 0, none⟩ 1 [c.toUInt8] Tryz.underlying23 Tryz.underlying5 Tryz.underlying9 ?_
    intro j hj
    obtain rfl : j = 0 := by simpa using hj
    have ha : (⟨w.heap.size, 0, none⟩ : Addr).add 0 = ⟨w.heap.size, 0, none⟩ := by unfold Addr.add; split <;> simp_all
    rw [ha, hcell]
    simp [hnat]
  rw [← hW] at hB
  have hsd : sep.data.toList = [c.toUInt8] := by rw [hsep]
  have ne32 : c.toUInt8 ≠ 32 := fun h => h32 (by have := congrArg UInt8.toNat h; rw [hnat] at this; exact this)
  have ne92 : c.toUInt8 ≠ 92 := fun h => h92 (by have := congrArg UInt8.toNat h; rw [hnat] at this; exact this)
  have hmW : ∃ m : Int, W.cell? ⟨0, 0, none⟩ = some (.int .i64 m) := by
    obtain ⟨m, h⟩ := hm
    exact ⟨m, by rw [hB.cell (p := ⟨0, 0, none⟩) (cell_lt h)]; exact h⟩
  have HAt := Lib.hid (at_byte s sep c.toUInt8 hsd ne32 ne92 (by omega) W hmW)
  have HJ := Lib.hid (fun v l w' (hv : StrsAt w' v l) (hl : l.length ≤ 201) (hj : sJoin sep.data.toList (bytesL l) = s.data.toList) => sjoin_spec l v sep w' hv (by omega) (by rw [hj, Array.length_toList]; show s.size ≤ _; omega))
  have HB := Lib.hid hB
  clear hm hmW hB hsep hsd ne32 ne92 hnat
  go_enter Tryz.func3, Tryz.ntmps3
  rw [hW] at hcv
  go_upto_region 4 with (fail)
  rw [← hW]
  clear hcv hW
  go_wp2_with fail
  refine HAt.out.mono ?_
  rintro e w1 ⟨v, rfl, l, h2, h3, h4, h5⟩
  have HJ1 := Lib.hid (HJ.out v l w1 h2 (by omega) h3)
  rw [h3] at HJ1
  have B1 := Lib.hid (Below.step HB.out h5)
  obtain ⟨a, k, rfl⟩ := h2.shape
  clear h2 h3 h4 h5 HJ HAt
  have es : (⟨s.data.toList.toArray⟩ : ByteArray) = s := by simp
  rw [es] at HJ1
  have q1 : (s.toList == s.toList) = true := beq_self_eq_true _
  clear es
  go_wp2_with fail
  refine HJ1.out.mono ?_
  rintro e w2 ⟨rfl, b2⟩
  have B2 := Lib.hid (Below.step B1.out b2)
  clear b2
  go_wp2_with fail
  refine (HL.out _).mono ?_
  rintro e w3 ⟨rfl, b3⟩
  have B3 := Lib.hid (Below.step B2.out b3)
  clear b3
  go_wp2_with fail
  go_ret
  exact ⟨rfl, B3.out⟩

theorem walk (s : ByteArray) (c : Int) (_ : s.size ≤ maxLen) (hc : (Lit.int .u8 c).wf = true) (w : World) (hm : ∃ m : Int, w.cell? ⟨0, 0, none⟩ = some (.int .i64 m)) :
    Calls Tryz.prog 3 #[.string s, .int .u8 c] w fun e w' => e = .returned (.bool true) ∧ Below w.heap.size w w' := by
  obtain ⟨n, rfl, hn⟩ := nat_byte hc
  by_cases h : 200 < s.size ∨ n = 32 ∨ n = 92
  · exact walk_lives s n hn h w
  · exact walk_joins s n hn (by omega) (by omega) (by omega) w hm

theorem laid_met (os : Os) : laidMet Tryz.prog Rows.substJoinsRow.laid ((laidWorld os).forCall (fun _ _ => 0) ⟨#[], #[.string ⟨#[]⟩, .int .u8 0], []⟩).memory :=
  laidMet_of_run' 8 (by kernel_rfl) (by kernel_rfl)
theorem reads (os : Os) {H : Type} (enc : TypeId × Value → H) : ∃ places, DataW.whole enc Tryz.prog ((laidWorld os).forCall (fun _ _ => 0) ⟨#[], #[.string ⟨#[]⟩, .int .u8 0], []⟩).memory Tryz.f3.params.toList Rows.substJoinsSpec.vars false #[.string ⟨#[]⟩, .int .u8 0].toList 8 = some ([.lit (.string []), .lit (.int .u8 0)], [], places) :=
  ⟨[], by kernel_rfl⟩

set_option maxRecDepth 100000 in
theorem lifted (os : Os) (started : os.Started) (H : Type) (enc : TypeId × Value → H) (F : Stop.Interp) :
    ReturnsInHanded {} Tryz.checked os 3 .any ((OpenSpec.ofChange Rows.substJoinsSpec).preRow enc Tryz.prog Tryz.f3 Rows.substJoinsRow.domain false Rows.substJoinsRow.laid) (((OpenSpec.ofChange Rows.substJoinsSpec).at F).post enc Tryz.prog Tryz.f3 false true false false) := by
  obtain ⟨places, hx⟩ := reads os enc
  refine returnsInHanded_of_row (C := Tryz.checked) (s := (OpenSpec.ofChange Rows.substJoinsSpec)) own started (by kernel_rfl) Tryz.func3
    (witness_row_at (enc := enc) (C := Tryz.checked) false (laidWorld os) #[.string ⟨#[]⟩, .int .u8 0] rfl (by kernel_rfl) (by kernel_rfl) (by kernel_rfl)
      (OpenSpec.preRow_of_cond 8 hx (by kernel_rfl) (fun k hk => by cases hk) (by kernel_rfl) (laid_met os))) ?_
  intro W base args ds gs before hval0 hW _ _ _ _ hsh _
  have hval : ∀ (j : Nat) t v, Tryz.f3.params[j]? = some t → args[j]? = some v → Value.okWide Tryz.prog W .any base t v := hval0
  have hW' := hW
  obtain ⟨p, q, hA0, hV, rfl, hfz, hnd⟩ := hW
  have hA : DataW.TrodAll enc Tryz.prog W 0 (fun _ => true) true Tryz.f3.params.toList args.toList ds p := hA0
  rw [Tryz.params3] at hA hval
  obtain ⟨v0, vs0, d0, ds0, p0, q0, hargs, rfl, rfl, h0, r0⟩ := trodAll_cons hA
  obtain ⟨v1, vs1, d1, ds1, p1, q1, rfl, rfl, rfl, h1, r1⟩ := trodAll_cons r0
  obtain ⟨rfl, rfl, rfl⟩ := trodAll_nil r1
  obtain rfl : args = #[v0, v1] := by cases args; simp_all
  obtain ⟨rfl, rfl⟩ := trodVars_none hV
  obtain ⟨a0, rfl, rfl, rfl, w0⟩ := open_string Tryz.underlying9 (hval 0 9 v0 rfl rfl) h0
  obtain ⟨a1, rfl, rfl, rfl, w1⟩ := open_int Tryz.underlying5 (hval 1 5 v1 rfl rfl) h1
  clear hA0 hval0
  simp only [List.append_nil] at hW'
  refine (walk a0 a1 w0 w1 W (max_cell hsh)).mono fun e W' ⟨he, hg⟩ => ?_
  subst he
  exact ⟨_, rfl, post_bare hW' (fun _ _ _ => (trodAll_cons_mk (shut_bool Tryz.underlying4 _) trodAll_mk0)) (fun sp => (trodAll_cons_mk (shut_string Tryz.underlying9 w0) (trodAll_cons_mk (shut_int Tryz.underlying5 w1) trodAll_mk0))) (fun _ => rfl) hg⟩

theorem said : Rows.SubstJoinsSaid :=
  OpenClaim.holds_of_cond 3 Tryz.f3 rfl rfl rfl rfl rfl rfl rfl ⟨rfl, rfl, rfl, rfl, rfl⟩ rfl rfl rfl rfl rfl (by kernel_rfl) Tryz.func3 (by kernel_rfl)
    (of_decide_eq_true (by kernel_rfl)) (by unfold Func.isWrapper; first | (rw [if_pos (by decide +kernel)]; kernel_rfl) | (rw [if_neg (by decide +kernel)]; exact ⟨rfl, rfl⟩))
    (fun os started H enc _ F => by rw [OpenClaim.pre_eq_preRow]; exact lifted os started H enc F)

theorem plain (f : FuncId) (fn : Func) (hf : Tryz.pinned.checked.prog.funcNamed "auklet/aukletlaw08.SubstJoins" = some f) (hfn : Tryz.pinned.checked.prog.funcs[f]? = some fn) :
    true = Tryz.pinned.checked.prog.looks [] ∧ ∀ (j : Nat) t, fn.params[j]? = some t → Tryz.pinned.checked.prog.wantsStandIn t = false := by
  obtain rfl : f = 3 := Option.some.inj ((show Tryz.prog.funcNamed "auklet/aukletlaw08.SubstJoins" = some 3 by kernel_rfl).symm.trans hf) |>.symm
  obtain rfl : fn = Tryz.f3 := (Option.some.inj (Tryz.func3.symm.trans hfn)).symm
  refine ⟨by kernel_rfl, fun j t ht => ?_⟩
  rw [Tryz.params3] at ht
  have hm := Array.mem_of_getElem? ht
  simp only [List.mem_toArray, List.mem_cons, List.mem_nil_iff, or_false] at hm
  rcases hm with rfl | rfl
  · exact (show Tryz.prog.wantsStandIn 9 = false by kernel_rfl)
  · exact (show Tryz.prog.wantsStandIn 5 = false by kernel_rfl)

theorem proved : Rows.SubstJoinsCardSaid :=
  Claim7.holds_tied_plain_at .later [] _ _ _ _ said (fun _ h => by cases h) (by kernel_rfl) (fun _ h => by cases h) substJoins_row_tie rfl ⟨rfl, rfl⟩ (by kernel_rfl) rfl plain (by kernel_rfl)
#print axioms proved
end Go.Proofs.YtimipfdknfdbdaaGreatDoor.substJoins
