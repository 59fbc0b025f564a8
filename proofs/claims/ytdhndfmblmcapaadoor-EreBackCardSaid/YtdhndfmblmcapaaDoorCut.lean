/- strings.Cut at a separator of one byte: walks. -/
import Derived.Test.YtdhndfmblmcapaaDoorRdr
namespace Go.Proofs.YtdhndfmblmcapaaDoor
open Go.RowKit

theorem text_eq {a b : ByteArray} (h : a.data.toList = b.data.toList) : a = b := by
  cases a; cases b
  congr 1
  exact Array.toList_inj.1 h
theorem index_at (a r : List UInt8) (c : UInt8) (h : c ∉ a) : Lib.indexByte (a ++ c :: r) c = a.length := by
  induction a with
  | nil => simp [Lib.indexByte]
  | cons b a ih =>
    have hb : (b == c) = false := by
      simp only [beq_eq_false_iff_ne, ne_eq]
      intro e
      exact h (by rw [e]; exact List.mem_cons_self)
    have h2 := ih (fun hm => h (List.mem_cons_of_mem _ hm))
    show (if b == c then 0 else if Lib.indexByte (a ++ c :: r) c == -1 then -1 else Lib.indexByte (a ++ c :: r) c + 1) = _
    rw [hb, h2]
    have h3 : ((a.length : Int) == -1) = false := by simp
    rw [h3]
    simp
theorem index_no (a : List UInt8) (c : UInt8) (h : c ∉ a) : Lib.indexByte a c = -1 := by
  have h1 := Lib.indexByte_ge a c
  have h2 : ¬ 0 ≤ Lib.indexByte a c := fun e => h ((indexByte_iff a c).1 e)
  omega

set_option maxRecDepth 100000 in
theorem lite_found (s a r : ByteArray) (c : UInt8) (hs : s.data.toList = a.data.toList ++ c :: r.data.toList) (hc : c ∉ a.data.toList) (hz : s.size ≤ 400) (w : World) :
    Calls Tryd.prog 73 #[.string s, .string ⟨#[c]⟩] w fun e w' => e = .returned (.tuple #[.string a, .string r, .bool true]) ∧ ∃ n, w' = w.drewN n := by
  have hI := Lib.hid (fun w => Tryd.stringslite_Index_one s c w)
  rw [hs, index_at _ _ _ hc] at hI
  have ha : a.data.toList.length = a.size := by simp
  have hr : r.data.toList.length = r.size := by simp
  have hl : s.size = a.size + r.size + 1 := by
    have : s.data.toList.length = s.size := by simp
    rw [← this, hs, List.length_append, List.length_cons, ha, hr]
    omega
  have e1 : s.extract 0 a.size = a := by
    apply text_eq
    simp only [ByteArray.data_extract, Array.toList_extract, List.extract_eq_take_drop, List.drop_zero, Nat.sub_zero, hs]
    rw [← ha]
    simp
  have e2 : s.extract (a.size + 1) s.size = r := by
    apply text_eq
    simp only [ByteArray.data_extract, Array.toList_extract, List.extract_eq_take_drop, hs]
    rw [List.take_of_length_le (by simp; omega), ← ha, List.drop_append]
    simp
  rw [ha] at hI
  have E1 := Lib.hid e1; clear e1
  have E2 := Lib.hid e2; clear e2
  clear hs hc ha hr
  have s1 : IntKind.i64.wrap ((a.size : Int) + 1) = (a.size : Int) + 1 := IntWalk.i64_in _ (by omega)
  have s2 : (0 : Int) ≤ (a.size : Int) + 1 := by omega
  have s3 : ((a.size : Int) + 1).toNat = a.size + 1 := by omega
  have s4 : (a.size : Int) + 1 ≤ s.size := by omega
  have s5 : (a.size : Int) ≤ s.size := by omega
  clear hl
  go_enter Tryd.func73, Tryd.ntmps73
  go_wp2_with fail
  refine (hI.out _).mono ?_
  rintro e w1 ⟨rfl, rfl⟩
  go_wp2_with fail
  go_quiet (fail)
  go_wp2_with fail
  rw [E1.out, E2.out]
  go_ret3
  exact ⟨rfl, _, rfl⟩

set_option maxRecDepth 100000 in
theorem cut_found (s a r : ByteArray) (c : UInt8) (hs : s.data.toList = a.data.toList ++ c :: r.data.toList) (hc : c ∉ a.data.toList) (hz : s.size ≤ 400) (w : World) :
    Calls Tryd.prog 65 #[.string s, .string ⟨#[c]⟩] w fun e w' => e = .returned (.tuple #[.string a, .string r, .bool true]) ∧ ∃ n, w' = w.drewN n := by
  have H := Lib.hid (fun w => lite_found s a r c hs hc hz w)
  clear hs hc hz
  go_enter Tryd.func65, Tryd.ntmps65
  go_wp2_with fail
  refine (H.out _).mono ?_
  rintro e w1 ⟨rfl, n, rfl⟩
  go_wp2_with fail
  go_ret3
  exact ⟨rfl, n, rfl⟩

set_option maxRecDepth 100000 in
theorem cut_none (s : ByteArray) (c : UInt8) (hc : c ∉ s.data.toList) (w : World) :
    Calls Tryd.prog 65 #[.string s, .string ⟨#[c]⟩] w fun e w' => e = .returned (.tuple #[.string s, .string ⟨#[]⟩, .bool false]) ∧ ∃ n, w' = w.drewN n := by
  have hI := Lib.hid (fun w => Tryd.stringslite_Index_one s c w)
  rw [index_no _ _ hc] at hI
  have H : Hid (∀ w, Calls Tryd.prog 73 #[.string s, .string ⟨#[c]⟩] w fun e w' => e = .returned (.tuple #[.string s, .string ⟨#[]⟩, .bool false]) ∧ w' = w) := Lib.hid (by
    intro w
    go_enter Tryd.func73, Tryd.ntmps73
    go_wp2_with fail
    refine (hI.out _).mono ?_
    rintro e w1 ⟨rfl, rfl⟩
    go_wp2_with fail
    go_ret3
    exact ⟨rfl, rfl⟩)
  clear hI hc
  go_enter Tryd.func65, Tryd.ntmps65
  go_wp2_with fail
  refine (H.out _).mono ?_
  rintro e w1 ⟨rfl, rfl⟩
  go_wp2_with fail
  go_ret3
  exact ⟨rfl, 0, rfl⟩
end Go.Proofs.YtdhndfmblmcapaaDoor
