/- fields.Rec.Text: a walk. -/
import Derived.Test.YtcojnkjcbopnbaaGreatDoorFRec
import Derived.Test.YtcojnkjcbopnbaaGreatDoorSJoinW
import Derived.Test.YtcojnkjcbopnbaaGreatDoorShuf
namespace Go.Proofs.YtcojnkjcbopnbaaGreatDoor
open Go.RowKit

theorem RecF.strs {w : World} {p : Nat} {v : Value} {l : List ByteArray} {t : ByteArray} {st : Bool} {o : ByteArray} (h : RecF w p v l t st o) : StrsAt w v l := own_low h.row (Nat.zero_le _)

/-- The text of a record. -/
def recT (l : List ByteArray) (t : ByteArray) (st : Bool) (o : ByteArray) : ByteArray := if st then ⟨(sJoin o.data.toList (bytesL l)).toArray⟩ else t

set_option maxRecDepth 100000 in
theorem rtext_spec (p : Nat) (v : Value) (l : List ByteArray) (t : ByteArray) (st : Bool) (o : ByteArray) (w : World) (h : RecF w p v l t st o) (hn : l.length ≤ 1000) (hlen : (sJoin o.data.toList (bytesL l)).length ≤ 140737488355328) :
    Calls Tryz.prog 15 #[.pointer (some ⟨p, 0, none⟩)] w fun e w' => e = .returned (.string (recT l t st o)) ∧ RecF w' p v l (recT l t st o) false (if st then emptyB else o) ∧ Below p w w' := by
  have H := Lib.hid h
  have HLT : p ≤ w.heap.size := Nat.le_of_lt h.mem.lt
  have c1 := h.mem.c1
  have c2 := h.mem.c2
  cases st with
  | false =>
    clear h
    go_enter Tryz.func15, Tryz.ntmps15
    go_wp2_with fail
    go_ret
    exact ⟨rfl, H.out, Below.refl _ _⟩
  | true =>
    have HS := Lib.hid h.strs
    have HJ := Lib.hid (fun w1 (hb : Below w.heap.size w w1) => sjoin_spec l v o w1 (HS.out.after hb) (by omega) hlen)
    obtain ⟨a, c, rfl⟩ := h.shape
    clear h
    go_enter Tryz.func15, Tryz.ntmps15
    go_upto_region 2 with (fail)
    refine wp_region_held_drew (S := fun w' => (∃ x, Hid (RecF w' p (.slice a l.length c) l x true o)) ∧ Hid (Below p w w')) (by kernel_rfl) ⟨⟨t, Lib.hid (H.out.after (below_drew _))⟩, Lib.hid (Below.mono (below_drew _) HLT)⟩ (fun hS => ?_)
    obtain ⟨V, hV⟩ : ∃ V, V = w.drew := ⟨_, rfl⟩
    have HV : Hid (Below w.heap.size w V) := Lib.hid (by rw [hV]; exact below_drew _)
    rw [← hV] at hS ⊢
    clear hV
    refine takeW (i := 0) (d := 7) (v := .pointer (some ⟨p, 0, none⟩)) rfl rfl (by kernel_rfl) (by kernel_rfl) (by kernel_rfl) (fun _ _ _ h => h) (by rfl) (fun w' hSw => by obtain ⟨⟨_, h1⟩, _⟩ := hSw; have c0 := h1.out.mem.c0; have c3 := h1.out.mem.c3; clear h1; go_simp) (by assumption) ?_
    simp only [List.setIfInBounds_toArray, List.set_cons_zero, List.set_cons_succ]
    refine takeW (i := 1) (d := 8) (v := .pointer (some ⟨p, 0, none⟩)) rfl rfl (by kernel_rfl) (by kernel_rfl) (by kernel_rfl) (fun _ _ _ h => h) (by rfl) (fun w' hSw => by obtain ⟨⟨_, h1⟩, _⟩ := hSw; have c0 := h1.out.mem.c0; have c3 := h1.out.mem.c3; clear h1; go_simp) (by assumption) ?_
    simp only [List.setIfInBounds_toArray, List.set_cons_zero, List.set_cons_succ]
    refine takeW (i := 2) (d := 9) (v := .pointer (some ⟨p, 0, none⟩)) rfl rfl (by kernel_rfl) (by kernel_rfl) (by kernel_rfl) (fun _ _ _ h => h) (by rfl) (fun w' hSw => by obtain ⟨⟨_, h1⟩, _⟩ := hSw; have c0 := h1.out.mem.c0; have c3 := h1.out.mem.c3; clear h1; go_simp) (by assumption) ?_
    simp only [List.setIfInBounds_toArray, List.set_cons_zero, List.set_cons_succ]
    refine takeW (i := 3) (d := 10) (v := .pointer (some ⟨p, 0, none⟩)) rfl rfl (by kernel_rfl) (by kernel_rfl) (by kernel_rfl) (fun _ _ _ h => h) (by rfl) (fun w' hSw => by obtain ⟨⟨_, h1⟩, _⟩ := hSw; have c0 := h1.out.mem.c0; have c3 := h1.out.mem.c3; clear h1; go_simp) (by assumption) ?_
    simp only [List.setIfInBounds_toArray, List.set_cons_zero, List.set_cons_succ]
    refine takeW (i := 4) (d := 11) (v := .slice a l.length c) rfl rfl (by kernel_rfl) (by kernel_rfl) (by kernel_rfl) (fun _ _ _ h => h) (by rfl) (fun w' hSw => by obtain ⟨⟨_, h1⟩, _⟩ := hSw; have c0 := h1.out.mem.c0; have c3 := h1.out.mem.c3; clear h1; go_simp) (by assumption) ?_
    simp only [List.setIfInBounds_toArray, List.set_cons_zero, List.set_cons_succ]
    refine takeW (i := 5) (d := 12) (v := .pointer (some ⟨p, 0, none⟩)) rfl rfl (by kernel_rfl) (by kernel_rfl) (by kernel_rfl) (fun _ _ _ h => h) (by rfl) (fun w' hSw => by obtain ⟨⟨_, h1⟩, _⟩ := hSw; have c0 := h1.out.mem.c0; have c3 := h1.out.mem.c3; clear h1; go_simp) (by assumption) ?_
    simp only [List.setIfInBounds_toArray, List.set_cons_zero, List.set_cons_succ]
    refine takeW (i := 6) (d := 13) (v := .pointer (some ⟨p, 0, none⟩)) rfl rfl (by kernel_rfl) (by kernel_rfl) (by kernel_rfl) (fun _ _ _ h => h) (by rfl) (fun w' hSw => by obtain ⟨⟨_, h1⟩, _⟩ := hSw; have c0 := h1.out.mem.c0; have c3 := h1.out.mem.c3; clear h1; go_simp) (by assumption) ?_
    simp only [List.setIfInBounds_toArray, List.set_cons_zero, List.set_cons_succ]
    refine takeW (i := 7) (d := 14) (v := .pointer (some ⟨p, 3, none⟩)) rfl rfl (by kernel_rfl) (by kernel_rfl) (by kernel_rfl) (fun _ _ _ h => h) (by rfl) (fun w' hSw => by obtain ⟨⟨_, h1⟩, _⟩ := hSw; have c0 := h1.out.mem.c0; have c3 := h1.out.mem.c3; clear h1; go_simp) (by assumption) ?_
    simp only [List.setIfInBounds_toArray, List.set_cons_zero, List.set_cons_succ]
    refine takeW (i := 8) (d := 15) (v := .string o) rfl rfl (by kernel_rfl) (by kernel_rfl) (by kernel_rfl) (fun _ _ _ h => h) (by rfl) (fun w' hSw => by obtain ⟨⟨_, h1⟩, _⟩ := hSw; have c0 := h1.out.mem.c0; have c3 := h1.out.mem.c3; clear h1; go_simp) (by assumption) ?_
    simp only [List.setIfInBounds_toArray, List.set_cons_zero, List.set_cons_succ]
    refine wpAnyH_ready (rs := [9]) (by kernel_rfl) (by simp) ?_
    refine AllReadyH.cons rfl (fun X hX => ?_) AllReadyH.nil
    rw [if_pos (by rfl)]
    go_simp
    refine (HJ.out V HV.out).mono ?_
    rintro e w1 ⟨rfl, b1⟩
    have B1 := Lib.hid (Below.step HV.out b1)
    have H1 := Lib.hid (H.out.after B1.out)
    go_wp2_with fail
    refine hX.out _ _ ⟨⟨t, H1⟩, Lib.hid (Below.mono B1.out HLT)⟩ (fun hS1 => ?_)
    clear hX X hS b1
    refine takeW (i := 10) (d := 17) (v := .pointer (some ⟨p, 0, none⟩)) rfl rfl (by kernel_rfl) (by kernel_rfl) (by kernel_rfl) (fun _ _ _ h => h) (by rfl) (fun w' hSw => by obtain ⟨⟨_, h1⟩, _⟩ := hSw; have c0 := h1.out.mem.c0; have c3 := h1.out.mem.c3; clear h1; go_simp) (by assumption) ?_
    simp only [List.setIfInBounds_toArray, List.set_cons_zero, List.set_cons_succ]
    refine takeW (i := 11) (d := 18) (v := .pointer (some ⟨p, 1, none⟩)) rfl rfl (by kernel_rfl) (by kernel_rfl) (by kernel_rfl) (fun _ _ _ h => h) (by rfl) (fun w' hSw => by obtain ⟨⟨_, h1⟩, _⟩ := hSw; have c0 := h1.out.mem.c0; have c3 := h1.out.mem.c3; clear h1; go_simp) (by assumption) ?_
    simp only [List.setIfInBounds_toArray, List.set_cons_zero, List.set_cons_succ]
    have c1 := H1.out.mem.c1
    have z1 := H1.out.mem.z 1
    refine wpAnyH_ready (rs := [12]) (by kernel_rfl) (by simp) ?_
    refine AllReadyH.cons rfl (fun X hX => ?_) AllReadyH.nil
    rw [if_pos (by rfl)]
    go_simp
    obtain ⟨T, hT⟩ : ∃ T : ByteArray, T = ⟨(sJoin o.data.toList (bytesL l)).toArray⟩ := ⟨_, rfl⟩
    rw [← hT]
    have B2 : Hid (Below p w (w1.setCell ⟨p, 1, none⟩ (.string T))) := Lib.hid (below_put (Below.mono B1.out HLT) (Nat.le_refl _) _ _)
    have H2 : Hid (RecF (w1.setCell ⟨p, 1, none⟩ (.string T)) p (.slice a l.length c) l T true o) := Lib.hid (H1.out.put1 T)
    refine hX.out _ _ ⟨⟨T, H2⟩, B2⟩ (fun hS2 => ?_)
    clear hX X hS1 hS2 c1 z1
    refine wpAnyH_done (by kernel_rfl) ?_ _
    obtain ⟨U, hU⟩ : ∃ U, U = w1.setCell ⟨p, 1, none⟩ (.string T) := ⟨_, rfl⟩
    rw [← hU] at B2 H2 ⊢
    clear hU B1 H1
    have c1 := H2.out.mem.c1
    have c2' := H2.out.mem.c2
    have c3 := H2.out.mem.c3
    have z2 := H2.out.mem.z 2
    have z3 := H2.out.mem.z 3
    have HT := Lib.hid hT
    clear hT
    go_wp2_with fail
    go_ret
    have e : recT l t true o = T := HT.out.symm
    rw [e]
    exact ⟨rfl, (H2.out.put2 false).put3 emptyB, below_put (below_put B2.out (Nat.le_refl _) _ _) (Nat.le_refl _) _ _⟩
end Go.Proofs.YtcojnkjcbopnbaaGreatDoor
