/- The classes by their spans are the document's: plain Lean. -/
import Derived.Test.YtfdgjgmgkcoopaaNamed
import Derived.Test.YtfdgjgmgkcoopaaRNamed
namespace Go.Proofs.Ytfdgjgmgkcoopaa

theorem agree_alpha : ∀ c : Fin 256, inSpans [65, 90, 97, 122] 2 c.val = (fun c : Nat => upC c || lowC c) c.val := by decide +kernel
theorem agree_digit : ∀ c : Fin 256, inSpans [48, 57] 1 c.val = (fun c : Nat => digC c) c.val := by decide +kernel
theorem agree_alnum : ∀ c : Fin 256, inSpans [48, 57, 65, 90, 97, 122] 3 c.val = (fun c : Nat => upC c || lowC c || digC c) c.val := by decide +kernel
theorem agree_upper : ∀ c : Fin 256, inSpans [65, 90] 1 c.val = (fun c : Nat => upC c) c.val := by decide +kernel
theorem agree_lower : ∀ c : Fin 256, inSpans [97, 122] 1 c.val = (fun c : Nat => lowC c) c.val := by decide +kernel
theorem agree_space : ∀ c : Fin 256, inSpans [9, 13, 32, 32] 2 c.val = (fun c : Nat => decide (c = 32) || (decide (9 ≤ c) && decide (c ≤ 13))) c.val := by decide +kernel
theorem agree_blank : ∀ c : Fin 256, inSpans [9, 9, 32, 32] 2 c.val = (fun c : Nat => decide (c = 32) || decide (c = 9)) c.val := by decide +kernel
theorem agree_punct : ∀ c : Fin 256, inSpans [33, 47, 58, 64, 91, 96, 123, 126] 4 c.val = (fun c : Nat => decide (32 < c) && decide (c < 127) && !upC c && !lowC c && !digC c) c.val := by decide +kernel
theorem agree_print : ∀ c : Fin 256, inSpans [32, 126] 1 c.val = (fun c : Nat => decide (32 ≤ c) && decide (c < 127)) c.val := by decide +kernel
theorem agree_graph : ∀ c : Fin 256, inSpans [33, 126] 1 c.val = (fun c : Nat => decide (32 < c) && decide (c < 127)) c.val := by decide +kernel
theorem agree_cntrl : ∀ c : Fin 256, inSpans [0, 31, 127, 127] 2 c.val = (fun c : Nat => decide (c < 32) || decide (c = 127)) c.val := by decide +kernel
theorem agree_xdigit : ∀ c : Fin 256, inSpans [48, 57, 65, 70, 97, 102] 3 c.val = (fun c : Nat => digC c || (decide (65 ≤ c) && decide (c ≤ 70)) || (decide (97 ≤ c) && decide (c ≤ 102))) c.val := by decide +kernel

theorem names_agree (name : ByteArray) : ∃ m, (spansOf name).size = 2 * m ∧ m ≤ 4 ∧ ∀ c, c < 256 → inSpans (spansOf name).data.toList m c = (refNamed name c).1 ∧ decide (0 < m) = (refNamed name c).2 := by
  cases h0 : (name.toList == [97, 108, 112, 104, 97])
  case true =>
    have e : spansOf name = ⟨#[65, 90, 97, 122]⟩ := by unfold spansOf; rw [if_pos h0]
    rw [e]
    exact ⟨2, rfl, by decide, fun c hc => by rw [ref_alpha h0]; exact ⟨agree_alpha ⟨c, hc⟩, rfl⟩⟩
  cases h1 : (name.toList == [100, 105, 103, 105, 116])
  case true =>
    have e : spansOf name = ⟨#[48, 57]⟩ := by unfold spansOf; rw [if_neg (nt h0), if_pos h1]
    rw [e]
    exact ⟨1, rfl, by decide, fun c hc => by rw [ref_digit h0 h1]; exact ⟨agree_digit ⟨c, hc⟩, rfl⟩⟩
  cases h2 : (name.toList == [97, 108, 110, 117, 109])
  case true =>
    have e : spansOf name = ⟨#[48, 57, 65, 90, 97, 122]⟩ := by unfold spansOf; rw [if_neg (nt h0), if_neg (nt h1), if_pos h2]
    rw [e]
    exact ⟨3, rfl, by decide, fun c hc => by rw [ref_alnum h0 h1 h2]; exact ⟨agree_alnum ⟨c, hc⟩, rfl⟩⟩
  cases h3 : (name.toList == [117, 112, 112, 101, 114])
  case true =>
    have e : spansOf name = ⟨#[65, 90]⟩ := by unfold spansOf; rw [if_neg (nt h0), if_neg (nt h1), if_neg (nt h2), if_pos h3]
    rw [e]
    exact ⟨1, rfl, by decide, fun c hc => by rw [ref_upper h0 h1 h2 h3]; exact ⟨agree_upper ⟨c, hc⟩, rfl⟩⟩
  cases h4 : (name.toList == [108, 111, 119, 101, 114])
  case true =>
    have e : spansOf name = ⟨#[97, 122]⟩ := by unfold spansOf; rw [if_neg (nt h0), if_neg (nt h1), if_neg (nt h2), if_neg (nt h3), if_pos h4]
    rw [e]
    exact ⟨1, rfl, by decide, fun c hc => by rw [ref_lower h0 h1 h2 h3 h4]; exact ⟨agree_lower ⟨c, hc⟩, rfl⟩⟩
  cases h5 : (name.toList == [115, 112, 97, 99, 101])
  case true =>
    have e : spansOf name = ⟨#[9, 13, 32, 32]⟩ := by unfold spansOf; rw [if_neg (nt h0), if_neg (nt h1), if_neg (nt h2), if_neg (nt h3), if_neg (nt h4), if_pos h5]
    rw [e]
    exact ⟨2, rfl, by decide, fun c hc => by rw [ref_space h0 h1 h2 h3 h4 h5]; exact ⟨agree_space ⟨c, hc⟩, rfl⟩⟩
  cases h6 : (name.toList == [98, 108, 97, 110, 107])
  case true =>
    have e : spansOf name = ⟨#[9, 9, 32, 32]⟩ := by unfold spansOf; rw [if_neg (nt h0), if_neg (nt h1), if_neg (nt h2), if_neg (nt h3), if_neg (nt h4), if_neg (nt h5), if_pos h6]
    rw [e]
    exact ⟨2, rfl, by decide, fun c hc => by rw [ref_blank h0 h1 h2 h3 h4 h5 h6]; exact ⟨agree_blank ⟨c, hc⟩, rfl⟩⟩
  cases h7 : (name.toList == [112, 117, 110, 99, 116])
  case true =>
    have e : spansOf name = ⟨#[33, 47, 58, 64, 91, 96, 123, 126]⟩ := by unfold spansOf; rw [if_neg (nt h0), if_neg (nt h1), if_neg (nt h2), if_neg (nt h3), if_neg (nt h4), if_neg (nt h5), if_neg (nt h6), if_pos h7]
    rw [e]
    exact ⟨4, rfl, by decide, fun c hc => by rw [ref_punct h0 h1 h2 h3 h4 h5 h6 h7]; exact ⟨agree_punct ⟨c, hc⟩, rfl⟩⟩
  cases h8 : (name.toList == [112, 114, 105, 110, 116])
  case true =>
    have e : spansOf name = ⟨#[32, 126]⟩ := by unfold spansOf; rw [if_neg (nt h0), if_neg (nt h1), if_neg (nt h2), if_neg (nt h3), if_neg (nt h4), if_neg (nt h5), if_neg (nt h6), if_neg (nt h7), if_pos h8]
    rw [e]
    exact ⟨1, rfl, by decide, fun c hc => by rw [ref_print h0 h1 h2 h3 h4 h5 h6 h7 h8]; exact ⟨agree_print ⟨c, hc⟩, rfl⟩⟩
  cases h9 : (name.toList == [103, 114, 97, 112, 104])
  case true =>
    have e : spansOf name = ⟨#[33, 126]⟩ := by unfold spansOf; rw [if_neg (nt h0), if_neg (nt h1), if_neg (nt h2), if_neg (nt h3), if_neg (nt h4), if_neg (nt h5), if_neg (nt h6), if_neg (nt h7), if_neg (nt h8), if_pos h9]
    rw [e]
    exact ⟨1, rfl, by decide, fun c hc => by rw [ref_graph h0 h1 h2 h3 h4 h5 h6 h7 h8 h9]; exact ⟨agree_graph ⟨c, hc⟩, rfl⟩⟩
  cases h10 : (name.toList == [99, 110, 116, 114, 108])
  case true =>
    have e : spansOf name = ⟨#[0, 31, 127, 127]⟩ := by unfold spansOf; rw [if_neg (nt h0), if_neg (nt h1), if_neg (nt h2), if_neg (nt h3), if_neg (nt h4), if_neg (nt h5), if_neg (nt h6), if_neg (nt h7), if_neg (nt h8), if_neg (nt h9), if_pos h10]
    rw [e]
    exact ⟨2, rfl, by decide, fun c hc => by rw [ref_cntrl h0 h1 h2 h3 h4 h5 h6 h7 h8 h9 h10]; exact ⟨agree_cntrl ⟨c, hc⟩, rfl⟩⟩
  cases h11 : (name.toList == [120, 100, 105, 103, 105, 116])
  case true =>
    have e : spansOf name = ⟨#[48, 57, 65, 70, 97, 102]⟩ := by unfold spansOf; rw [if_neg (nt h0), if_neg (nt h1), if_neg (nt h2), if_neg (nt h3), if_neg (nt h4), if_neg (nt h5), if_neg (nt h6), if_neg (nt h7), if_neg (nt h8), if_neg (nt h9), if_neg (nt h10), if_pos h11]
    rw [e]
    exact ⟨3, rfl, by decide, fun c hc => by rw [ref_xdigit h0 h1 h2 h3 h4 h5 h6 h7 h8 h9 h10 h11]; exact ⟨agree_xdigit ⟨c, hc⟩, rfl⟩⟩
  have e : spansOf name = ⟨#[]⟩ := by unfold spansOf; rw [if_neg (nt h0), if_neg (nt h1), if_neg (nt h2), if_neg (nt h3), if_neg (nt h4), if_neg (nt h5), if_neg (nt h6), if_neg (nt h7), if_neg (nt h8), if_neg (nt h9), if_neg (nt h10), if_neg (nt h11)]
  rw [e]
  exact ⟨0, rfl, by decide, fun c hc => by rw [ref_none h0 h1 h2 h3 h4 h5 h6 h7 h8 h9 h10 h11]; exact ⟨rfl, rfl⟩⟩
end Go.Proofs.Ytfdgjgmgkcoopaa
