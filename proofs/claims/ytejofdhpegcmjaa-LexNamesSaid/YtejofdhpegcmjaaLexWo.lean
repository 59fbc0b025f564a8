/- Word, Own, isSign: walks (gen_wo.py). -/
import Derived.Test.YtejofdhpegcmjaaLexP
namespace Go.Proofs.Ytejofdhpegcmjaa
open Go.RowKit

theorem word_or {l : List UInt8} (h : wordB l = true) : l = [66, 69, 71, 73, 78] ∨ l = [69, 78, 68] ∨ l = [102, 117, 110, 99, 116, 105, 111, 110] ∨ l = [105, 102] ∨ l = [101, 108, 115, 101] ∨ l = [119, 104, 105, 108, 101] ∨ l = [102, 111, 114] ∨ l = [100, 111] ∨ l = [98, 114, 101, 97, 107] ∨ l = [99, 111, 110, 116, 105, 110, 117, 101] ∨ l = [110, 101, 120, 116] ∨ l = [101, 120, 105, 116] ∨ l = [114, 101, 116, 117, 114, 110] ∨ l = [100, 101, 108, 101, 116, 101] ∨ l = [105, 110] ∨ l = [103, 101, 116, 108, 105, 110, 101] ∨ l = [112, 114, 105, 110, 116] ∨ l = [112, 114, 105, 110, 116, 102] ∨ l = [112, 101, 114, 115, 105, 115, 116] := by
  unfold wordB at h
  simpa [wordL] using h
theorem word_and {l : List UInt8} (h : wordB l = false) : (l == [66, 69, 71, 73, 78]) = false ∧ (l == [69, 78, 68]) = false ∧ (l == [102, 117, 110, 99, 116, 105, 111, 110]) = false ∧ (l == [105, 102]) = false ∧ (l == [101, 108, 115, 101]) = false ∧ (l == [119, 104, 105, 108, 101]) = false ∧ (l == [102, 111, 114]) = false ∧ (l == [100, 111]) = false ∧ (l == [98, 114, 101, 97, 107]) = false ∧ (l == [99, 111, 110, 116, 105, 110, 117, 101]) = false ∧ (l == [110, 101, 120, 116]) = false ∧ (l == [101, 120, 105, 116]) = false ∧ (l == [114, 101, 116, 117, 114, 110]) = false ∧ (l == [100, 101, 108, 101, 116, 101]) = false ∧ (l == [105, 110]) = false ∧ (l == [103, 101, 116, 108, 105, 110, 101]) = false ∧ (l == [112, 114, 105, 110, 116]) = false ∧ (l == [112, 114, 105, 110, 116, 102]) = false ∧ (l == [112, 101, 114, 115, 105, 115, 116]) = false := by
  unfold wordB at h
  simpa [wordL] using h
set_option maxRecDepth 100000 in
set_option maxHeartbeats 4000000 in
theorem word_yes (s : ByteArray) (h : wordB s.data.toList = true) (w : World) : Calls Try.prog 6 #[.string s] w fun e w' => e = .returned (.bool true) ∧ w' = w := by
  have h := word_or h
  rw [← Lib.toList_data] at h
  rcases h with h | h | h | h | h | h | h | h | h | h | h | h | h | h | h | h | h | h | h
  all_goals
    go_enter Try.func6, Try.ntmps6
    go_wp2_with fail
    go_ret
    exact ⟨rfl, rfl⟩
set_option maxRecDepth 100000 in
set_option maxHeartbeats 4000000 in
theorem word_no (s : ByteArray) (h : wordB s.data.toList = false) (w : World) : Calls Try.prog 6 #[.string s] w fun e w' => e = .returned (.bool false) ∧ w' = w := by
  have h := word_and h
  rw [← Lib.toList_data] at h
  obtain ⟨n0, n1, n2, n3, n4, n5, n6, n7, n8, n9, n10, n11, n12, n13, n14, n15, n16, n17, n18⟩ := h
  go_enter Try.func6, Try.ntmps6
  go_wp2_with fail
  go_ret
  exact ⟨rfl, rfl⟩
theorem word_spec (s : ByteArray) (l : List UInt8) (hl : s.data.toList = l) (w : World) : Calls Try.prog 6 #[.string s] w fun e w' => e = .returned (.bool (wordB l)) ∧ w' = w := by
  subst hl
  cases h : wordB s.data.toList
  · exact word_no s h w
  · exact word_yes s h w

theorem owns_or {l : List UInt8} (h : ownB l = true) : l = [108, 101, 110, 103, 116, 104] ∨ l = [115, 117, 98, 115, 116, 114] ∨ l = [105, 110, 100, 101, 120] ∨ l = [115, 112, 108, 105, 116] ∨ l = [115, 117, 98] ∨ l = [103, 115, 117, 98] ∨ l = [109, 97, 116, 99, 104] ∨ l = [115, 112, 114, 105, 110, 116, 102] ∨ l = [116, 111, 108, 111, 119, 101, 114] ∨ l = [116, 111, 117, 112, 112, 101, 114] ∨ l = [105, 110, 116] ∨ l = [115, 121, 110, 99] := by
  unfold ownB at h
  simpa [ownL] using h
theorem owns_and {l : List UInt8} (h : ownB l = false) : (l == [108, 101, 110, 103, 116, 104]) = false ∧ (l == [115, 117, 98, 115, 116, 114]) = false ∧ (l == [105, 110, 100, 101, 120]) = false ∧ (l == [115, 112, 108, 105, 116]) = false ∧ (l == [115, 117, 98]) = false ∧ (l == [103, 115, 117, 98]) = false ∧ (l == [109, 97, 116, 99, 104]) = false ∧ (l == [115, 112, 114, 105, 110, 116, 102]) = false ∧ (l == [116, 111, 108, 111, 119, 101, 114]) = false ∧ (l == [116, 111, 117, 112, 112, 101, 114]) = false ∧ (l == [105, 110, 116]) = false ∧ (l == [115, 121, 110, 99]) = false := by
  unfold ownB at h
  simpa [ownL] using h
set_option maxRecDepth 100000 in
set_option maxHeartbeats 4000000 in
theorem owns_yes (s : ByteArray) (h : ownB s.data.toList = true) (w : World) : Calls Try.prog 8 #[.string s] w fun e w' => e = .returned (.bool true) ∧ w' = w := by
  have h := owns_or h
  rw [← Lib.toList_data] at h
  rcases h with h | h | h | h | h | h | h | h | h | h | h | h
  all_goals
    go_enter Try.func8, Try.ntmps8
    go_wp2_with fail
    go_ret
    exact ⟨rfl, rfl⟩
set_option maxRecDepth 100000 in
set_option maxHeartbeats 4000000 in
theorem owns_no (s : ByteArray) (h : ownB s.data.toList = false) (w : World) : Calls Try.prog 8 #[.string s] w fun e w' => e = .returned (.bool false) ∧ w' = w := by
  have h := owns_and h
  rw [← Lib.toList_data] at h
  obtain ⟨n0, n1, n2, n3, n4, n5, n6, n7, n8, n9, n10, n11⟩ := h
  go_enter Try.func8, Try.ntmps8
  go_wp2_with fail
  go_ret
  exact ⟨rfl, rfl⟩
theorem owns_spec (s : ByteArray) (l : List UInt8) (hl : s.data.toList = l) (w : World) : Calls Try.prog 8 #[.string s] w fun e w' => e = .returned (.bool (ownB l)) ∧ w' = w := by
  subst hl
  cases h : ownB s.data.toList
  · exact owns_no s h w
  · exact owns_yes s h w

theorem sign_or {l : List UInt8} (h : signB l = true) : l = [43, 43] ∨ l = [45, 45] ∨ l = [43, 61] ∨ l = [45, 61] ∨ l = [42, 61] ∨ l = [47, 61] ∨ l = [37, 61] ∨ l = [61, 61] ∨ l = [33, 61] ∨ l = [60, 61] ∨ l = [62, 61] ∨ l = [62, 62] ∨ l = [33, 126] ∨ l = [38, 38] ∨ l = [124, 124] ∨ l = [123] ∨ l = [125] ∨ l = [40] ∨ l = [41] ∨ l = [91] ∨ l = [93] ∨ l = [59] ∨ l = [44] ∨ l = [43] ∨ l = [45] ∨ l = [42] ∨ l = [47] ∨ l = [37] ∨ l = [60] ∨ l = [62] ∨ l = [33] ∨ l = [126] ∨ l = [63] ∨ l = [58] ∨ l = [61] ∨ l = [36] := by
  unfold signB at h
  simpa [sign2L, sign1L] using h
theorem sign_and {l : List UInt8} (h : signB l = false) : (l == [43, 43]) = false ∧ (l == [45, 45]) = false ∧ (l == [43, 61]) = false ∧ (l == [45, 61]) = false ∧ (l == [42, 61]) = false ∧ (l == [47, 61]) = false ∧ (l == [37, 61]) = false ∧ (l == [61, 61]) = false ∧ (l == [33, 61]) = false ∧ (l == [60, 61]) = false ∧ (l == [62, 61]) = false ∧ (l == [62, 62]) = false ∧ (l == [33, 126]) = false ∧ (l == [38, 38]) = false ∧ (l == [124, 124]) = false ∧ (l == [123]) = false ∧ (l == [125]) = false ∧ (l == [40]) = false ∧ (l == [41]) = false ∧ (l == [91]) = false ∧ (l == [93]) = false ∧ (l == [59]) = false ∧ (l == [44]) = false ∧ (l == [43]) = false ∧ (l == [45]) = false ∧ (l == [42]) = false ∧ (l == [47]) = false ∧ (l == [37]) = false ∧ (l == [60]) = false ∧ (l == [62]) = false ∧ (l == [33]) = false ∧ (l == [126]) = false ∧ (l == [63]) = false ∧ (l == [58]) = false ∧ (l == [61]) = false ∧ (l == [36]) = false := by
  unfold signB at h
  simpa [sign2L, sign1L] using h
set_option maxRecDepth 100000 in
set_option maxHeartbeats 4000000 in
theorem sign_yes (s : ByteArray) (h : signB s.data.toList = true) (w : World) : Calls Try.prog 48 #[.string s] w fun e w' => e = .returned (.bool true) ∧ w' = w := by
  have h := sign_or h
  rw [← Lib.toList_data] at h
  rcases h with h | h | h | h | h | h | h | h | h | h | h | h | h | h | h | h | h | h | h | h | h | h | h | h | h | h | h | h | h | h | h | h | h | h | h | h
  all_goals
    go_enter Try.func48, Try.ntmps48
    go_wp2_with fail
    go_ret
    exact ⟨rfl, rfl⟩
set_option maxRecDepth 100000 in
set_option maxHeartbeats 4000000 in
theorem sign_no (s : ByteArray) (h : signB s.data.toList = false) (w : World) : Calls Try.prog 48 #[.string s] w fun e w' => e = .returned (.bool false) ∧ w' = w := by
  have h := sign_and h
  rw [← Lib.toList_data] at h
  obtain ⟨n0, n1, n2, n3, n4, n5, n6, n7, n8, n9, n10, n11, n12, n13, n14, n15, n16, n17, n18, n19, n20, n21, n22, n23, n24, n25, n26, n27, n28, n29, n30, n31, n32, n33, n34, n35⟩ := h
  go_enter Try.func48, Try.ntmps48
  go_wp2_with fail
  go_ret
  exact ⟨rfl, rfl⟩
theorem sign_spec (s : ByteArray) (l : List UInt8) (hl : s.data.toList = l) (w : World) : Calls Try.prog 48 #[.string s] w fun e w' => e = .returned (.bool (signB l)) ∧ w' = w := by
  subst hl
  cases h : signB s.data.toList
  · exact sign_no s h w
  · exact sign_yes s h w
end Go.Proofs.Ytejofdhpegcmjaa
