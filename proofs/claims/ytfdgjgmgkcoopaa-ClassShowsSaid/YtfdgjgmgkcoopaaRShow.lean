/- aukletref04.Show: a walk. -/
import Derived.Test.YtfdgjgmgkcoopaaShow
import Derived.Test.YtfdgjgmgkcoopaaOf
import Derived.Test.YtfdgjgmgkcoopaaRow
namespace Go.Proofs.Ytfdgjgmgkcoopaa
open Go.RowKit

structure RInv (w wr : World) (b N g c : Nat) (p : Nat → Bool) (l : List UInt8) : Prop where
  own : wr.ownsRow w.heap.size 5 1 (.slice (some ⟨g, 0, none⟩) N c) N (u8s l)
  row : Row wr b p
  below : Below w.heap.size w wr

theorem RInv.next {w wr w' : World} {b N g c g' c' : Nat} {p : Nat → Bool} {l l' : List UInt8} (h : RInv w wr b N g c p l) (hg : wr.grownBy w' (.slice (some ⟨g, 0, none⟩) N c : Value).ownBlock)
    (ho : w'.ownsRow w.heap.size 5 1 (.slice (some ⟨g', 0, none⟩) (N + 1) c') (N + 1) (u8s l')) : RInv w w' b (N + 1) g' c' p l' :=
  ⟨ho, h.row.grown h.own hg, own_grown h.own hg h.below (Nat.le_refl _)⟩

theorem rshow_boxed (w w1 : World) (f : Nat → Nat) (hb : Below w.heap.size w w1) : ∃ W, W = (w1.alloc (.cells #[.int .u8 91] 5)).alloc (.cells (bools (bit f)) 27) ∧
    (storeCells ⟨w1.heap.size + 1, 0, none⟩ (bools (bit f)).toList).run Try.prog ((w1.alloc (.cells #[.int .u8 91] 5)).alloc (.cells (bools (fun _ => false)) 27)) = .ok () W ∧
    Hid (RInv w W (w1.heap.size + 1) 1 w1.heap.size 1 (bit f) [91]) ∧ Hid (Below w1.heap.size w1 W) := by
  refine ⟨_, rfl, ?_, Lib.hid ⟨?_, ?_, ?_⟩, Lib.hid (Below.step (below_new _ _) (below_new _ _))⟩
  · have h := run_storeCells_new (P := Try.prog) (w1.alloc (.cells #[.int .u8 91] 5)) 27 (bools (fun _ => false)) (bools (bit f)) (by rw [bools_size]; exact size_b) (by rw [bools_size, bools_size]) (bools_one _)
    rw [World.size_alloc] at h
    exact h
  · have h := World.ownsRow_lit (base := w.heap.size) (e := 5) (size := 1) w1 #[.int .u8 91] 1 hb.size (by simp only [maxLen]; omega) (by simp)
    exact h.alloc _
  · have h := row_new (w1.alloc (.cells #[.int .u8 91] 5)) (bit f)
    rw [World.size_alloc] at h
    exact h
  · exact Below.step (Below.step hb (below_new _ _)) (below_new _ _)

def preL (e : Bool) : List UInt8 := if e = true then [91, 94] else [91]
theorem showL_eq (f : Nat → Nat) : showL f = preL (empty4 f) ++ listTo (fun c => bit f c || empty4 f) 256 ++ [93] := by
  unfold showL preL
  cases h : empty4 f
  · rw [if_neg (by decide), if_neg (by decide), listTo_congr (p := fun c => bit f c || false) (q := bit f) 256 (Nat.le_refl _) (fun c _ => by simp)]
  · rw [if_pos rfl, if_pos rfl, listTo_congr (p := fun c => bit f c || true) (q := fun _ => true) 256 (Nat.le_refl _) (fun c _ => by simp)]

set_option maxRecDepth 100000 in
set_option maxHeartbeats 1000000 in
theorem rshow_spec (f : Nat → Nat) (w : World) :
    Calls Try.prog 17 #[.agg (words f)] w fun e w' => ∃ t : ByteArray, e = .returned (.string t) ∧ Hid (t.data.toList = showL f) ∧ Below w.heap.size w w' := by
  have HO := Lib.hid (fun w => of_spec f w)
  obtain ⟨E, hE⟩ : ∃ E, E = empty4 f := ⟨_, rfl⟩
  have hq : ∀ w, (Op.equalIn 10000 24 (.agg #[.int .u64 (f 0), .int .u64 (f 1), .int .u64 (f 2), .int .u64 (f 3)]) (.agg #[.int .u64 0, .int .u64 0, .int .u64 0, .int .u64 0])).run Try.prog w = .ok E w := fun w => equal_words f zero4 w E (by rw [hE]; exact empty_iff f)
  have HS := Lib.hid (showL_eq f)
  rw [← hE] at HS
  clear hE
  obtain ⟨P, hP⟩ : ∃ P : Nat → Bool, P = fun c => bit f c || E := ⟨_, rfl⟩
  rw [← hP] at HS
  have HPk : Hid (∀ k, P k = (bit f k || E)) := Lib.hid fun k => by rw [hP]
  clear hP
  have hz := zero_b
  have hsz := bools_size (bit f)
  go_enter Try.func17, Try.ntmps17
  go_upto_region 1 with (fail)
  obtain ⟨W0, hW0, Q, HB⟩ := quad_box w f 24
  rw [← hW0]
  clear hW0
  have c0 := Q.out.c 0 (by omega); have c1 := Q.out.c 1 (by omega); have c2 := Q.out.c 2 (by omega); have c3 := Q.out.c 3 (by omega)
  go_wp2_with fail
  refine (HO.out _).mono ?_
  rintro e w1 ⟨rfl, b1⟩
  clear c0 c1 c2 c3
  obtain ⟨W, hW, hst, HI, HB2⟩ := rshow_boxed w w1 f (Below.step HB.out b1)
  have Q1 := Lib.hid ((Q.out.after b1).after HB2.out)
  go_upto_region 2 with (fail)
  rw [← hW]
  clear hW hst hz hsz HB2
  have c0 := Q1.out.c 0 (by omega); have c1 := Q1.out.c 1 (by omega); have c2 := Q1.out.c 2 (by omega); have c3 := Q1.out.c 3 (by omega)
  go_upto_region 3 with (fail)
  clear c0 c1 c2 c3 hq
  obtain ⟨b, hb⟩ : ∃ b, b = w1.heap.size + 1 := ⟨_, rfl⟩
  rw [← hb] at HI ⊢
  clear hb
  go_step
  go_step
  go_simp
  go_step
  go_step
  go_simp
  go_step
  go_cut [4] (fun y wx => ∃ N g c, y = .slice (some ⟨g, 0, none⟩) N c ∧ N ≤ 2 ∧ Hid (RInv w wx b N g c (bit f) (preL E)))
  case first =>
    cases E
    case false =>
      go_wp2_with fail
      go_meet
      exact ⟨1, _, _, rfl, by omega, HI⟩
    case true =>
      go_wp2_with (at_builtin; refine wp_append_u8 rfl _ _ rfl w.heap.size W (.slice (some ⟨w1.heap.size, 0, none⟩) 1 1) 1 [91] _ 94 rfl HI.out.own rfl rfl (by omega) HI.out.below.size ?_; intro vg vc w4 hown4 hg4)
      have H4 := Lib.hid (HI.out.next hg4.out hown4.out)
      go_meet
      exact ⟨2, _, _, rfl, by omega, H4⟩
  case rest =>
    obtain ⟨N, g, c, rfl, hN, hI⟩ := hcut
    go_step
    go_wp2_with fail
    go_loopw [4, 6] (fun y x wr => ∃ (k N g c : Nat), x = .int .i64 k ∧ k ≤ 256 ∧ y = .slice (some ⟨g, 0, none⟩) N c ∧ N ≤ 2 + 2 * k ∧ Hid (RInv w wr b N g c (bit f) (preL E ++ listTo P k))) (fun _ x _ => 256 - (intOf x).toNat)
    case atStart => exact ⟨0, N, g, c, rfl, by omega, rfl, by omega, by simpa [listTo] using hI⟩
    case round =>
      clear hI hN
      obtain ⟨k, N, g, c, rfl, hk, rfl, hN, hI⟩ := hrel
      by_cases hgo : k < 256
      · have hc := hI.out.row.c hgo
        have hP := HPk.out k
        obtain ⟨q, hq⟩ : ∃ q, q = bit f k := ⟨_, rfl⟩
        rw [← hq] at hc hP
        clear hq
        have hnext : Hid (listTo P (k + 1) = listTo P k ++ if P k = true then escOf k else []) := Lib.hid rfl
        cases hPk : P k
        case false =>
          rw [hPk] at hP
          obtain ⟨h1, h2⟩ := Bool.or_eq_false_iff.1 hP.symm
          subst h1 h2
          clear hP
          go_wp2_with fail
          go_roundw
          case rel =>
            refine ⟨k + 1, N, g, c, by go_num, by omega, rfl, by omega, Lib.hid ?_⟩
            rw [hnext.out, if_neg (by rw [hPk]; decide), List.append_nil]
            exact hI.out
          case measure => simp [intOf]; omega
        case true =>
          rw [hPk] at hP
          have hor : q = true ∨ (q = false ∧ E = true) := by
            rcases Bool.or_eq_true_iff.1 hP.symm with h | h
            · exact Or.inl h
            · cases q
              · exact Or.inr ⟨rfl, h⟩
              · exact Or.inl rfl
          have hU := u8_nat hgo
          have HU : Hid (((k.toUInt8).toNat : Int) = (k : Int)) := Lib.hid (by rw [hU])
          clear hP hU
          rcases hor with rfl | ⟨rfl, rfl⟩
          all_goals
            go_upto_region 9 with (fail)
            go_cut [44] (fun y wx => y = .bool (spc k) ∧ wx = wr)
            case first =>
              clear hnext HU hI HPk
              rcases (show k = 94 ∨ k = 45 ∨ k = 93 ∨ k = 91 ∨ k = 92 ∨ (k ≠ 94 ∧ k ≠ 45 ∧ k ≠ 93 ∧ k ≠ 91 ∧ k ≠ 92) from by omega) with rfl | rfl | rfl | rfl | rfl | ⟨h0, h1, h2, h3, h4⟩
              case' inr.inr.inr.inr.inr =>
                have e0 : ((k : Int) == 94) = false := by simp; omega
                have e1 : ((k : Int) == 45) = false := by simp; omega
                have e2 : ((k : Int) == 93) = false := by simp; omega
                have e3 : ((k : Int) == 91) = false := by simp; omega
                have e4 : ((k : Int) == 92) = false := by simp; omega
              all_goals
                go_wp2_with fail
                go_meet
                refine ⟨?_, rfl⟩
                first | rfl | simp [spc, h0, h1, h2, h3, h4]
            case rest =>
              obtain ⟨rfl, rfl⟩ := hcut
              go_step
              cases hsp : spc k
              case false =>
                go_wp2_with (at_builtin; refine wp_append_u8 rfl _ _ rfl w.heap.size _ (.slice (some ⟨g, 0, none⟩) N c) N (preL _ ++ listTo P k) _ k.toUInt8 rfl hI.out.own rfl HU.out (by omega) hI.out.below.size ?_; intro vg vc w4 hown4 hg4)
                have H4 := Lib.hid (hI.out.next hg4.out hown4.out)
                go_roundw
                case rel =>
                  refine ⟨k + 1, N + 1, vg, vc, by go_num, by omega, rfl, by omega, Lib.hid ?_⟩
                  rw [hnext.out, if_pos hPk]
                  unfold escOf
                  rw [if_neg (by rw [hsp]; decide), ← List.append_assoc]
                  exact H4.out
                case measure => simp [intOf]; omega
              case true =>
                go_upto_region 11 with (at_builtin; refine wp_append_u8 rfl _ _ rfl w.heap.size _ (.slice (some ⟨g, 0, none⟩) N c) N (preL _ ++ listTo P k) _ 92 rfl hI.out.own rfl rfl (by omega) hI.out.below.size ?_; intro vg vc w4 hown4 hg4)
                have H4 := Lib.hid (hI.out.next hg4.out hown4.out)
                clear hown4 hg4
                go_wp2_with (at_builtin; refine wp_append_u8 rfl _ _ rfl w.heap.size w4 (.slice (some ⟨vg, 0, none⟩) (N + 1) vc) (N + 1) (preL _ ++ listTo P k ++ [92]) _ k.toUInt8 rfl H4.out.own rfl HU.out (by omega) H4.out.below.size ?_; intro ug uc w5 hown5 hg5)
                have H5 := Lib.hid (H4.out.next hg5.out hown5.out)
                go_roundw
                case rel =>
                  refine ⟨k + 1, N + 1 + 1, ug, uc, by go_num, by omega, rfl, by omega, Lib.hid ?_⟩
                  rw [hnext.out, if_pos hPk]
                  unfold escOf
                  rw [if_pos hsp, show [92, k.toUInt8] = [(92 : UInt8)] ++ [k.toUInt8] from rfl, ← List.append_assoc, ← List.append_assoc]
                  exact H5.out
                case measure => simp [intOf]; omega
      · obtain rfl : k = 256 := by omega
        go_wp2_with (at_builtin; refine wp_append_u8 rfl _ _ rfl w.heap.size wr (.slice (some ⟨g, 0, none⟩) N c) N (preL E ++ listTo P 256) _ 93 rfl hI.out.own rfl rfl (by omega) hI.out.below.size ?_; intro vg vc w4 hown4 hg4; have hbk := own_text hown4.out)
        have H4 := Lib.hid (hI.out.next hg4.out hown4.out)
        go_ret
        exact ⟨_, rfl, Lib.hid (by rw [HS.out]; simp), H4.out.below⟩
end Go.Proofs.Ytfdgjgmgkcoopaa
