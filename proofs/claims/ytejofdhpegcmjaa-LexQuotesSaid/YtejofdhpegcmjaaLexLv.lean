/- lex.Words of any text; the law's lives: a walk. -/
import Derived.Test.YtejofdhpegcmjaaLexWw
namespace Go.Proofs.Ytejofdhpegcmjaa
open Go.RowKit

theorem words_any (s : ByteArray) (hs : s.size ≤ 9223372036854775807) (w : World) :
    Calls Try.prog 14 #[.string s] w (OutW w (wordsTop s.data.toList)) := by
  unfold wordsTop
  by_cases h : 8000 < s.size
  · rw [if_pos (by rw [← Lib.size_eq]; exact h)]
    refine (words_long s h hs w).mono ?_
    rintro e w' ⟨rfl, hb⟩
    exact ⟨hb, rfl⟩
  · rw [if_neg (by rw [← Lib.size_eq]; exact h)]
    exact words_walk s (by omega) w
theorem words_is (s : ByteArray) (l : List Tp) (n : Nat) (hl : wordsTop s.data.toList = .ok l) (hn : l.length = n) (hs : s.size ≤ 9223372036854775807) (w : World) :
    Calls Try.prog 14 #[.string s] w fun e w' => ∃ g cap, e = .returned (.tuple #[.slice (some ⟨g, 0, none⟩) n cap, .int .i64 0, .int .i64 0]) ∧ Hid (ToksAt w' g cap l) ∧ Below w.heap.size w w' := by
  subst hn
  refine (words_any s hs w).mono ?_
  rintro e w' ⟨hb, ho⟩
  rw [hl] at ho
  obtain ⟨g, cap, rfl, ht⟩ := ho
  exact ⟨g, cap, rfl, Lib.hid ht, hb⟩

def live1 : List Tp := [(5, [97], 0), (9, [47], 2), (5, [98], 4), (0, [], 5)]
def live2 : List Tp := [(5, [97], 0), (9, [126], 2), (4, [98], 4), (0, [], 7)]
theorem live1_eq : wordsTop [97, 32, 47, 32, 98] = .ok live1 := by kernel_rfl
theorem live2_eq : wordsTop [97, 32, 126, 32, 47, 98, 47] = .ok live2 := by kernel_rfl

set_option maxRecDepth 100000 in
set_option maxHeartbeats 1000000 in
theorem lives (w : World) : Calls Try.prog 12 #[] w fun e w' => e = .returned (.bool true) ∧ Below w.heap.size w w' := by
  have H1 := Lib.hid (fun w => words_is ⟨#[97, 32, 47, 32, 98]⟩ live1 4 live1_eq rfl (by decide) w)
  have H2 := Lib.hid (fun w => words_is ⟨#[97, 32, 126, 32, 47, 98, 47]⟩ live2 4 live2_eq rfl (by decide) w)
  obtain ⟨S1, hS1⟩ : ∃ S1 : ByteArray, S1 = ⟨#[47]⟩ := ⟨_, rfl⟩
  have e1 : S1.toList = [47] := by rw [Lib.toList_data, hS1]
  have HS := Lib.hid hS1
  clear hS1
  go_enter Try.func12, Try.ntmps12
  go_wp2_with fail
  refine (H1.out _).mono ?_
  rintro e w1 ⟨g1, k1, rfl, t1, b1⟩
  have B1 := Lib.hid b1; clear b1
  go_wp2_with fail
  refine (H2.out _).mono ?_
  rintro e w2 ⟨g2, k2, rfl, t2, b2⟩
  have B2 := Lib.hid (Below.step B1.out b2)
  have T1 := Lib.hid (t1.out.after b2)
  have c1 : w2.cell? ⟨g1, 4, none⟩ = some (.string S1) := by rw [HS.out]; exact T1.out.cell 4 _ rfl
  have c2 : w2.cell? ⟨g2, 6, none⟩ = some (.int .i64 4) := t2.out.cell 6 _ rfl
  clear b2
  go_wp2_with fail
  go_ret
  exact ⟨rfl, B2.out⟩
end Go.Proofs.Ytejofdhpegcmjaa
