/- fields.Rec.Take: a walk, by a contract of subst.At. -/
import Derived.Test.YtcojnkjcbopnbaaGreatDoorFRec
import Derived.Test.YtcojnkjcbopnbaaGreatDoorFAtW
import Derived.Laws.Tables
namespace Go.Proofs.YtcojnkjcbopnbaaGreatDoor
open Go.RowKit

theorem info_rec : (Tryz.prog.info? 49).map (·.size) = some 4 := by kernel_rfl

theorem rec_one (a : Option Addr) (n c : Nat) (s : ByteArray) : (#[.slice a n c, .string s, .bool false, .string ⟨#[]⟩] : Array Value).all (·.oneCell') = true := by simp [Value.oneCell']

/-- What Take tells: why not, or a record with its fields. -/
def TakeOut (F : Prop) (p : Nat) (Q : List ByteArray → Prop) (s : ByteArray) (w : World) (e : Ending) (w' : World) : Prop :=
  Below p w w' ∧ ((∃ y : Int, y ≠ 0 ∧ e = .returned (.int .i64 y) ∧ (F ∨ ∃ l, Q l ∧ 100 < l.length)) ∨ (e = .returned (.int .i64 0) ∧ ∃ v l, RecF w' p v l s false emptyB ∧ l.length ≤ 100 ∧ Q l))

set_option maxRecDepth 100000 in
theorem take_spec (F : Prop) (Q : List ByteArray → Prop) (p : Nat) (v : Value) (l : List ByteArray) (t : ByteArray) (st : Bool) (o s fs : ByteArray) (w : World) (h : RecF w p v l t st o) (hA : Calls Tryz.prog 20 #[.string s, .string fs] w (AtOut F Q w)) :
    Calls Tryz.prog 11 #[.pointer (some ⟨p, 0, none⟩), .string s, .string fs] w (TakeOut F p Q s w) := by
  have H := Lib.hid h
  have HA := Lib.hid hA
  have HI := info_rec
  have HLT : Hid (p < w.heap.size) := Lib.hid h.mem.lt
  clear h hA
  go_enter Tryz.func11, Tryz.ntmps11
  go_wp2_with fail
  refine HA.out.mono ?_
  rintro e w1 ⟨b1, ⟨hF, a, y, hy, rfl⟩ | ⟨q, n, c, m, rfl, hq⟩⟩
  · have HF := Lib.hid hF
    have n0 : (y != 0) = true := by simpa using hy
    have HY := Lib.hid hy
    have B1 := Lib.hid b1
    clear b1 hy hF
    go_wp2_with fail
    go_ret
    exact ⟨B1.out.mono (Nat.le_of_lt HLT.out), Or.inl ⟨y, HY.out, rfl, Or.inl HF.out⟩⟩
  · obtain ⟨hn, rfl, hQ⟩ := hq.out
    have HN := Lib.hid hn
    have HQ := Lib.hid hQ
    have B1 := Lib.hid b1
    clear b1 hn hQ hq
    by_cases h100 : m.length ≤ 100
    · have d1 : decide ((100 : Int) < (m.length : Int)) = false := decide_eq_false (by omega)
      have H1 := Lib.hid (H.out.after B1.out)
      have hrow : Hid (w1.heap[p]? = some (.cells #[v, .string t, .bool st, .string o] 49 (0, 0))) := Lib.hid H1.out.mem.row
      obtain ⟨old, hold⟩ : ∃ old : Array Value, old = #[v, .string t, .bool st, .string o] := ⟨_, rfl⟩
      have HO : Hid (w1.heap[p]? = some (.cells old 49 (0, 0)) ∧ old.size = 4) := Lib.hid ⟨by rw [hold]; exact hrow.out, by rw [hold]; rfl⟩
      clear hold hrow
      go_wp2_with (refine wpList_store_row rfl 49 (.tmp 27) (.tmp 26) rfl p #[.slice q m.length c, .string s, .bool false, .string ⟨#[]⟩] rfl rfl 49 old HO.out.1 HI HO.out.2 (rec_one _ _ _ _) ?_)
      go_ret
      refine ⟨below_setRow (B1.out.mono (Nat.le_of_lt HLT.out)) (Nat.le_refl _) _, Or.inr ⟨rfl, .slice q m.length c, m, ⟨⟨setRow_heap w1 p old _ _ _ HO.out.1⟩, ?_⟩, h100, HQ.out⟩⟩
      have hO : w1.ownsRow (p + 1) 9 1 (.slice q m.length c) m.length (m.map Value.string) := own_low HN.out HLT.out
      refine ⟨hO.1, ?_⟩
      rcases hO.2 with h0 | ⟨g', cap', cur', e1, hbg, hg, rest⟩
      · exact Or.inl h0
      · exact Or.inr ⟨g', cap', cur', e1, hbg, by rw [setRow_other _ _ _ _ (by omega)]; exact hg, rest⟩
    · have d1 : decide ((100 : Int) < (m.length : Int)) = true := decide_eq_true (by omega)
      go_wp2_with fail
      go_ret
      exact ⟨B1.out.mono (Nat.le_of_lt HLT.out), Or.inl ⟨2, by decide, rfl, Or.inr ⟨m, HQ.out, by omega⟩⟩⟩
end Go.Proofs.YtcojnkjcbopnbaaGreatDoor
