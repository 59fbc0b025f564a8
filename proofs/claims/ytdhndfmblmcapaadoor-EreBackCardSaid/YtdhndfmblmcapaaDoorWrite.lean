/- strings.Builder's WriteString; ere.setText, timesText: walks. -/
import Derived.Test.YtdhndfmblmcapaaDoorIsOf
import Derived.Test.YtdhndfmblmcapaaDoorShow
namespace Go.Proofs.YtdhndfmblmcapaaDoor
open Go.RowKit

set_option maxHeartbeats 2000000 in
set_option maxRecDepth 100000 in
theorem writeString_k (B b : Nat) (bs : List Value) (s : ByteArray) (w : World) (h : Lib.IsBuilderF 43 5 B b bs w) (hlen : bs.length + s.size ≤ 140737488355328) (hBw : B ≤ w.heap.size) :
    Calls Tryd.prog 31 #[.pointer (some ⟨b, 0, none⟩), .string s] w fun e w' => e = .returned (.tuple #[.int .i64 s.size, .nilIface]) ∧ (Lib.BuilderAtF 43 5 B b (.pointer (some ⟨b, 0, none⟩)) (bs ++ Lib.strCells s) w' ∧ Below B w w' ∧ Lib.OthersKept 5 (some b) w w') := by
  obtain ⟨i0, hi, hz0, hz1, hz2⟩ := info_parts info_byte
  go_enter Tryd.func31, Tryd.ntmps31
  go_wp2_with (go_at_call 41; refine (copyCheck_k B b bs _ h).mono ?_)
  rintro e w1 ⟨rfl, h1, hb1, hk1⟩
  obtain ⟨hB, v, hbk, hown, hne⟩ := h1
  have c0 : w1.cell? ⟨b, 0, none⟩ = some (.pointer (some ⟨b, 0, none⟩)) := by rw [Lib.cell_of_heap hbk]; rfl
  have c1 : w1.cell? ⟨b, 1, none⟩ = some v := by rw [Lib.cell_of_heap hbk]; rfl
  have hs1 := hb1.size
  go_wp2_with (at_builtin; refine Lib.wpList_append_own_stringF _ rfl _ _ 41 9 rfl B 5 i0 Tryd.underlying41 Tryd.underlying9 hi hz0 hz1 hz2 _ _ _ rfl hown s rfl ?c1 hlen ?c2 ?_)
  case c1 => unfold maxLen; omega
  case c2 => omega
  intro v' w2 hown' hgrow hnil
  have hlt : b < w1.heap.size := by
    rcases Nat.lt_or_ge b w1.heap.size with h' | h'
    · exact h'
    · simp [Array.getElem?_eq_none h'] at hbk
  have hb2 : w2.heap[b]? = some (.cells #[.pointer (some ⟨b, 0, none⟩), v] 43 (0, 0)) := by
    rw [hgrow.block b hlt (fun e => hne e.symm)]
    exact hbk
  have d0 : w2.cell? ⟨b, 0, none⟩ = some (.pointer (some ⟨b, 0, none⟩)) := by rw [Lib.cell_of_heap hb2]; rfl
  have d1 : w2.cell? ⟨b, 1, none⟩ = some v := by rw [Lib.cell_of_heap hb2]; rfl
  have f1 : w2.frozen? ⟨b, 1, none⟩ = false := Lib.frozen_of_heap hb2 1
  obtain ⟨ad, n', cap, rfl⟩ : ∃ ad n' cap, v' = .slice ad n' cap := by
    rcases hown'.2 with ⟨hv, h0⟩ | ⟨g, cap, cur, fz, hv, _⟩
    · exact ⟨_, _, _, hv⟩
    · exact ⟨_, _, _, hv⟩
  go_wp2
  go_ret2
  have hl : (Lib.strCells s).length = s.size := by simp [Lib.strCells]
  refine ⟨rfl, ?_, ?_, (hk1.grown hgrow (Lib.ownsRowF_kind hown)).setCell ⟨b, 1, none⟩ rfl _⟩
  · exact Lib.BuilderAtF.put (T := 43) (e := 5) hB hb2 (bs' := bs ++ Lib.strCells s) (by rw [List.length_append, hl]; exact hown') (by decide)
  · exact (hb1.grown hgrow (by omega) (fun k hk => (hown.lt k hk).1)).setCell (p := ⟨b, 1, none⟩) hB _

/-- Whether all bytes are in it. -/
def allB (f : Nat → Nat) : Bool := decide (f 0 = notW zero4 0 ∧ f 1 = notW zero4 1 ∧ f 2 = notW zero4 2 ∧ f 3 = notW zero4 3)
theorem allB_iff (f : Nat → Nat) : allB f = true ↔ ∀ k, k < 4 → f k = notW zero4 k := by
  unfold allB
  rw [decide_eq_true_eq]
  constructor
  · intro ⟨h0, h1, h2, h3⟩ k hk
    have : k = 0 ∨ k = 1 ∨ k = 2 ∨ k = 3 := by omega
    rcases this with rfl | rfl | rfl | rfl <;> assumption
  · intro h
    exact ⟨h 0 (by omega), h 1 (by omega), h 2 (by omega), h 3 (by omega)⟩
/-- How a set is written. -/
def setL (f : Nat → Nat) : List UInt8 := if allB f = true then [46] else showL f

def QS (w0 : World) (b : Nat) (f : Nat → Nat) (w' : World) : Prop :=
  Hid (Below w0.heap.size w0 w') ∧ w'.cell? ⟨b, 0, none⟩ = some (.int .u64 (f 0)) ∧ w'.cell? ⟨b, 1, none⟩ = some (.int .u64 (f 1)) ∧ w'.cell? ⟨b, 2, none⟩ = some (.int .u64 (f 2)) ∧ w'.cell? ⟨b, 3, none⟩ = some (.int .u64 (f 3))
theorem keepQ {w0 w1 w2 : World} {b : Nat} {f : Nat → Nat} (h : QS w0 b f w1) (hb : Below w1.heap.size w1 w2) : QS w0 b f w2 := by
  obtain ⟨h0, c0, c1, c2, c3⟩ := h
  have hl := cell_lt c0
  exact ⟨Lib.hid (Below.step h0.out hb), by rw [hb.cell (p := ⟨b, 0, none⟩) hl]; exact c0, by rw [hb.cell (p := ⟨b, 1, none⟩) hl]; exact c1, by rw [hb.cell (p := ⟨b, 2, none⟩) hl]; exact c2, by rw [hb.cell (p := ⟨b, 3, none⟩) hl]; exact c3⟩

set_option maxRecDepth 100000 in
theorem setText_spec (f : Nat → Nat) (hf : Fits f) (w : World) :
    Calls Tryd.prog 32 #[.agg (words f)] w fun e w' => ∃ t : ByteArray, e = .returned (.string t) ∧ Hid (t.data.toList = setL f) ∧ t.size ≤ 520 ∧ Below w.heap.size w w' := by
  have HN : Hid (∀ w, Calls Tryd.prog 43 #[.agg (words zero4)] w fun e w' => e = .returned (.agg #[.int .u64 (notW zero4 0), .int .u64 (notW zero4 1), .int .u64 (notW zero4 2), .int .u64 (notW zero4 3)]) ∧ Below w.heap.size w w') := Lib.hid (fun w => not_spec zero4 fits_zero w)
  have HS := Lib.hid (fun w => show_spec f hf w)
  have hq := fun w => equal_words f (notW zero4) w (allB f) (allB_iff f)
  go_enter Tryd.func32, Tryd.ntmps32
  go_upto_region 1 with (fail)
  obtain ⟨W, hW, Q, HB⟩ := quad_box w f 24
  change Code.wp _ _ _ _ (w.alloc (Obj.cells (words f) 24))
  rw [← hW]
  clear hW
  have H0 : Hid (QS W w.heap.size f W) := Lib.hid ⟨Lib.hid (Below.refl _ _), Q.out.c 0 (by omega), Q.out.c 1 (by omega), Q.out.c 2 (by omega), Q.out.c 3 (by omega)⟩
  go_region_held3 (fun w' => Hid (Below W.heap.size W w') ∧ w'.cell? ⟨w.heap.size, 0, none⟩ = some (.int .u64 (f 0)) ∧ w'.cell? ⟨w.heap.size, 1, none⟩ = some (.int .u64 (f 1)) ∧ w'.cell? ⟨w.heap.size, 2, none⟩ = some (.int .u64 (f 2)) ∧ w'.cell? ⟨w.heap.size, 3, none⟩ = some (.int .u64 (f 3)))
    (first | exact keepQ H0.out (below_drew _) | exact keepQ (by assumption) (by assumption) | assumption)
    (first | (go_at_call 43; refine (HN.out _).mono ?_; rintro e w1 ⟨rfl, b1⟩))
  have HB1 := (show Hid _ ∧ _ by assumption).1
  obtain ⟨_, c0, c1, c2, c3⟩ := (show Hid _ ∧ _ by assumption)
  cases ha : allB f with
  | true =>
    have HA := Lib.hid ha
    clear ha
    go_wp2_with fail
    go_ret
    refine ⟨_, rfl, Lib.hid (by unfold setL; rw [if_pos HA.out]), by decide, Below.step HB.out HB1.out⟩
  | false =>
    have HA := Lib.hid ha
    clear ha
    go_wp2_with fail
    refine (HS.out _).mono ?_
    rintro e w3 ⟨t, rfl, ht, hsz, b3⟩
    have B3 := Lib.hid (Below.step (Below.step HB.out HB1.out) b3)
    clear b3
    go_wp2_with fail
    go_ret
    exact ⟨t, rfl, Lib.hid (by unfold setL; rw [if_neg (by rw [HA.out]; decide)]; exact ht.out), hsz, B3.out⟩
end Go.Proofs.YtdhndfmblmcapaaDoor
