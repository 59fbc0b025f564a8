/- Contract of aukletlaw02.lives: it returns true. -/
import Derived.Test.YtcpcmonlpdeboaaFind
import Derived.KernelRfl
namespace Go.Proofs.Ytcpcmonlpdeboaa
open Go.RowKit

theorem lives_len : cnt ⟨#[104, 195, 169, 255]⟩ 0 = 3 := by kernel_rfl
theorem lives_sub : subB ⟨#[104, 101, 108, 108, 111]⟩ 2 3 = ⟨#[101, 108, 108]⟩ := by kernel_rfl
theorem lives_miss0 : hitB ⟨#[98, 97, 110, 97, 110, 97]⟩ ⟨#[110, 97]⟩ 0 = false := by kernel_rfl
theorem lives_miss1 : hitB ⟨#[98, 97, 110, 97, 110, 97]⟩ ⟨#[110, 97]⟩ 1 = false := by kernel_rfl
theorem lives_idx {n : Nat} (h : IsIdx ⟨#[98, 97, 110, 97, 110, 97]⟩ ⟨#[110, 97]⟩ n) : n = 3 := by
  refine idx_unique h (Or.inr ⟨2, rfl, of_decide_eq_true (by kernel_rfl), by kernel_rfl, ?_⟩)
  intro p hp
  rw [show adv ⟨#[98, 97, 110, 97, 110, 97]⟩ 0 2 = 2 from by kernel_rfl] at hp
  have : p = 0 ∨ p = 1 := by omega
  rcases this with rfl | rfl
  · exact lives_miss0
  · exact lives_miss1

set_option maxRecDepth 100000 in
set_option maxHeartbeats 400000 in
theorem lives_any (m : Int) (w : World) (hm : w.cell? ⟨0, 0, none⟩ = some (.int .i64 m)) :
    Calls Try.prog 12 #[] w fun e w' => e = .returned (.bool true) ∧ Below w.heap.size w w' := by
  have h0 := cell_size hm
  have HL := Lib.hid (fun w => len_any ⟨#[104, 195, 169, 255]⟩ (by decide) w)
  rw [lives_len] at HL
  have HS := Lib.hid (fun w => sub_any ⟨#[104, 101, 108, 108, 111]⟩ 2 3 (by decide) (by decide) (by decide) w)
  rw [lives_sub] at HS
  have HI := Lib.hid (fun wr (hb : Below w.heap.size w wr) => index_any ⟨#[98, 97, 110, 97, 110, 97]⟩ ⟨#[110, 97]⟩ m (by decide) (by decide) wr ((hb.cell (p := ⟨0, 0, none⟩) h0).trans hm))
  clear h0 hm
  go_enter Try.func12, Try.ntmps12
  go_wp2_with fail
  refine (HL.out _).mono ?_
  rintro e w1 ⟨rfl, b1⟩
  have B1 := Lib.hid b1; clear b1
  go_wp2_with fail
  refine (HS.out _).mono ?_
  rintro e w2 ⟨rfl, b2⟩
  have B2 := Lib.hid (Below.step B1.out b2); clear b2
  go_wp2_with fail
  refine (HI.out _ B2.out).mono ?_
  rintro e w3 ⟨n, hn, rfl, b3⟩
  have B3 := Lib.hid (Below.step B2.out b3); clear b3
  obtain rfl := lives_idx hn
  clear hn
  go_wp2_with fail
  go_ret
  exact ⟨rfl, B3.out⟩
end Go.Proofs.Ytcpcmonlpdeboaa
