/- class.spans: a walk. -/
import Derived.Test.YtfdgjgmgkcoopaaBase
namespace Go.Proofs.Ytfdgjgmgkcoopaa
open Go.RowKit

def spansOf (name : ByteArray) : ByteArray :=
  if (name.toList == [97, 108, 112, 104, 97]) = true then ⟨#[65, 90, 97, 122]⟩ else
  if (name.toList == [100, 105, 103, 105, 116]) = true then ⟨#[48, 57]⟩ else
  if (name.toList == [97, 108, 110, 117, 109]) = true then ⟨#[48, 57, 65, 90, 97, 122]⟩ else
  if (name.toList == [117, 112, 112, 101, 114]) = true then ⟨#[65, 90]⟩ else
  if (name.toList == [108, 111, 119, 101, 114]) = true then ⟨#[97, 122]⟩ else
  if (name.toList == [115, 112, 97, 99, 101]) = true then ⟨#[9, 13, 32, 32]⟩ else
  if (name.toList == [98, 108, 97, 110, 107]) = true then ⟨#[9, 9, 32, 32]⟩ else
  if (name.toList == [112, 117, 110, 99, 116]) = true then ⟨#[33, 47, 58, 64, 91, 96, 123, 126]⟩ else
  if (name.toList == [112, 114, 105, 110, 116]) = true then ⟨#[32, 126]⟩ else
  if (name.toList == [103, 114, 97, 112, 104]) = true then ⟨#[33, 126]⟩ else
  if (name.toList == [99, 110, 116, 114, 108]) = true then ⟨#[0, 31, 127, 127]⟩ else
  if (name.toList == [120, 100, 105, 103, 105, 116]) = true then ⟨#[48, 57, 65, 70, 97, 102]⟩ else
  ⟨#[]⟩

set_option maxRecDepth 100000 in
theorem spans_spec (name : ByteArray) (w : World) :
    Calls Try.prog 19 #[.string name] w fun e w' => e = .returned (.string (spansOf name)) ∧ w' = w := by
  go_enter Try.func19, Try.ntmps19
  cases h0 : (name.toList == [97, 108, 112, 104, 97])
  case true =>
    go_wp2_with fail
    go_ret
    exact ⟨by simp [spansOf, h0], rfl⟩
  cases h1 : (name.toList == [100, 105, 103, 105, 116])
  case true =>
    go_wp2_with fail
    go_ret
    exact ⟨by simp [spansOf, h0, h1], rfl⟩
  cases h2 : (name.toList == [97, 108, 110, 117, 109])
  case true =>
    go_wp2_with fail
    go_ret
    exact ⟨by simp [spansOf, h0, h1, h2], rfl⟩
  cases h3 : (name.toList == [117, 112, 112, 101, 114])
  case true =>
    go_wp2_with fail
    go_ret
    exact ⟨by simp [spansOf, h0, h1, h2, h3], rfl⟩
  cases h4 : (name.toList == [108, 111, 119, 101, 114])
  case true =>
    go_wp2_with fail
    go_ret
    exact ⟨by simp [spansOf, h0, h1, h2, h3, h4], rfl⟩
  cases h5 : (name.toList == [115, 112, 97, 99, 101])
  case true =>
    go_wp2_with fail
    go_ret
    exact ⟨by simp [spansOf, h0, h1, h2, h3, h4, h5], rfl⟩
  cases h6 : (name.toList == [98, 108, 97, 110, 107])
  case true =>
    go_wp2_with fail
    go_ret
    exact ⟨by simp [spansOf, h0, h1, h2, h3, h4, h5, h6], rfl⟩
  cases h7 : (name.toList == [112, 117, 110, 99, 116])
  case true =>
    go_wp2_with fail
    go_ret
    exact ⟨by simp [spansOf, h0, h1, h2, h3, h4, h5, h6, h7], rfl⟩
  cases h8 : (name.toList == [112, 114, 105, 110, 116])
  case true =>
    go_wp2_with fail
    go_ret
    exact ⟨by simp [spansOf, h0, h1, h2, h3, h4, h5, h6, h7, h8], rfl⟩
  cases h9 : (name.toList == [103, 114, 97, 112, 104])
  case true =>
    go_wp2_with fail
    go_ret
    exact ⟨by simp [spansOf, h0, h1, h2, h3, h4, h5, h6, h7, h8, h9], rfl⟩
  cases h10 : (name.toList == [99, 110, 116, 114, 108])
  case true =>
    go_wp2_with fail
    go_ret
    exact ⟨by simp [spansOf, h0, h1, h2, h3, h4, h5, h6, h7, h8, h9, h10], rfl⟩
  cases h11 : (name.toList == [120, 100, 105, 103, 105, 116])
  case true =>
    go_wp2_with fail
    go_ret
    exact ⟨by simp [spansOf, h0, h1, h2, h3, h4, h5, h6, h7, h8, h9, h10, h11], rfl⟩
  go_wp2_with fail
  go_ret
  exact ⟨by simp [spansOf, h0, h1, h2, h3, h4, h5, h6, h7, h8, h9, h10, h11], rfl⟩
end Go.Proofs.Ytfdgjgmgkcoopaa
