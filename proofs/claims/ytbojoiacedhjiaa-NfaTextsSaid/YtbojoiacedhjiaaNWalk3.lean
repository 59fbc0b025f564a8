/- aukletlaw06.NfaTexts: walks. -/
import Derived.Test.YtbojoiacedhjiaaNLives
import Derived.Test.YtbojoiacedhjiaaJoin
namespace Go.Proofs.Ytbojoiacedhjiaa
open Go.RowKit

/-- The cells of a byte's tree. -/
def byteC (s : ByteArray) (j : Nat) : Array Value := reC 1 (oneF (byteN s j)) 0 0 (.slice none 0 0)
theorem byteN_get (s : ByteArray) (j : Nat) (h : j < s.size) : byteN s j = s[j].toNat := dif_pos h
theorem bytes_get (s : ByteArray) (j : Nat) (h : j < (bytesT s.data.toList).length) : (bytesT s.data.toList)[j] = oneT (byteN s j) := by
  have h' : j < s.size := by rw [bytesT_len] at h; simpa using h
  rw [byteN_get s j h']
  simp only [bytesT, List.getElem_map]
  rfl
theorem slAt_bytes {w : World} {base : Nat} {v : Value} (s : ByteArray) (h : w.ownsRow base 28 8 v s.size (flatC (byteC s) s.size)) : SlAt w (fun k => base ≤ k) (bytesT s.data.toList) v := by
  have hl : (bytesT s.data.toList).length = s.size := by rw [bytesT_len]; simp
  rcases h.2 with ⟨rfl, h0⟩ | ⟨g, cap, cur, rfl, hb, _, hcap, _⟩
  · exact Or.inl ⟨List.eq_nil_of_length_eq_zero (by omega), none, 0, rfl⟩
  · by_cases e : bytesT s.data.toList = []
    · have h0 : s.size = 0 := by rw [← hl, e]; rfl
      exact Or.inl ⟨e, some ⟨g, 0, none⟩, cap, by rw [h0]⟩
    · refine Or.inr ⟨e, g, 0, cap, byteC s, by rw [hl], by omega, hb, fun i hi => owns_eight h (fun _ _ => rfl) i (by omega), fun i hi => ?_⟩
      rw [bytes_get s i hi]
      exact one_at w _ _

set_option maxRecDepth 100000 in
set_option maxHeartbeats 1000000 in
theorem walk_long (s a b : ByteArray) (h : 30 < s.size ∨ 30 < a.size ∨ 30 < b.size) (w : World) :
    Calls Try.prog 3 #[.string s, .string a, .string b] w fun e w' => e = .returned (.bool true) ∧ Below w.heap.size w w' := by
  have HV := Lib.hid (fun w => lives_spec w)
  by_cases h1 : 30 < s.size
  · go_enter Try.func3, Try.ntmps3
    go_wp2_with fail
    refine (HV.out _).mono ?_
    rintro e w1 ⟨rfl, b1⟩
    have B1 := Lib.hid b1; clear b1
    go_wp2_with fail
    go_ret
    exact ⟨rfl, B1.out⟩
  · by_cases h2 : 30 < a.size
    · go_enter Try.func3, Try.ntmps3
      go_wp2_with fail
      refine (HV.out _).mono ?_
      rintro e w1 ⟨rfl, b1⟩
      have B1 := Lib.hid b1; clear b1
      go_wp2_with fail
      go_ret
      exact ⟨rfl, B1.out⟩
    · have h3 : 30 < b.size := by omega
      go_enter Try.func3, Try.ntmps3
      go_wp2_with fail
      refine (HV.out _).mono ?_
      rintro e w1 ⟨rfl, b1⟩
      have B1 := Lib.hid b1; clear b1
      go_wp2_with fail
      go_ret
      exact ⟨rfl, B1.out⟩

theorem joined_told (s a b : ByteArray) (hs : s.size ≤ 30) : toldN (textM s.data.toList).2 (textM s.data.toList).1 (a ++ s ++ b) a.size = [a.size + s.size] := by
  have hl : s.data.toList.length = s.size := by simp
  rw [text_told s.data.toList (a ++ s ++ b) a.size (by simp only [ByteArray.size_append]; omega) (fun i hi => ?_), hl]
  have hi' : i < s.size := by omega
  rw [byteN_get _ _ (by simp only [ByteArray.size_append]; omega)]
  rw [ByteArray.getElem_append_left (by simp only [ByteArray.size_append]; omega)]
  rw [ByteArray.getElem_append_right (by omega)]
  simp only [Nat.add_sub_cancel_left]
  rfl

set_option maxRecDepth 100000 in
set_option maxHeartbeats 2000000 in
theorem walk_short (s a b : ByteArray) (hs : s.size ≤ 30) (ha : a.size ≤ 30) (hb : b.size ≤ 30) (w : World) :
    Calls Try.prog 3 #[.string s, .string a, .string b] w fun e w' => e = .returned (.bool true) ∧ Below w.heap.size w w' := by
  have HV := Lib.hid (fun w => lives_spec w)
  have HJ := Lib.hid (fun w v S h => join_spec (bytesT s.data.toList) v S w (by rw [bytesT_len]; simp; omega) h (fun t ht => by obtain ⟨c, rfl⟩ := bytesT_mem _ t ht; rfl))
  have hl30 : s.data.toList.length ≤ 30 := by simpa using hs
  have HM := Lib.hid (fun w rs B h => built_spec (textT s.data.toList) rs B w h (good_text _ hl30) (plan_few _ hl30) (noAlt_text _))
  rw [machN_text _ hl30] at HM
  have HE := Lib.hid (fun w p sv h => ends_spec p (textM s.data.toList).1 a.size (textM s.data.toList).2 sv (a ++ s ++ b) (textM_ok s.data.toList hl30) (by rw [textM_start, textM_len]; omega) (by simp only [ByteArray.size_append]; omega) (by simp only [ByteArray.size_append]; omega) w h)
  rw [joined_told s a b hs] at HE
  clear hl30
  go_enter Try.func3, Try.ntmps3
  have bN := below_new w (.cells #[] 28)
  have oN := Lib.hid (World.ownsRow_lit (base := w.heap.size) (e := 28) (size := 8) w #[] 0 (Nat.le_refl _) (by unfold maxLen; omega) rfl)
  have B0 := Lib.hid bN
  clear bN
  go_wp2_with fail
  go_loopw [7, 8] (fun lv y wr => ∃ i : Nat, y = .int .i64 i ∧ i ≤ s.size ∧ Hid (wr.ownsRow w.heap.size 28 8 lv i (flatC (byteC s) i)) ∧ Hid (Below w.heap.size w wr)) (fun _ y _ => s.size - (intOf y).toNat)
  case atStart => exact ⟨0, rfl, by omega, oN, B0⟩
  case round =>
    obtain ⟨i, rfl, hi, hown, hbl⟩ := hrel
    by_cases hgo : i < s.size
    · go_upto_region 8 with (fail)
      obtain ⟨V, hV, Q, HB', hsz'⟩ : ∃ V, V = wr.alloc (.cells (words zero4) 26) ∧ Hid (Quad V wr.heap.size zero4) ∧ Hid (Below wr.heap.size wr V) ∧ Hid (V.heap.size = wr.heap.size + 1) := ⟨_, rfl, Lib.hid (quad_new wr zero4 _), Lib.hid (below_new _ _), Lib.hid (World.size_alloc _ _)⟩
      change Code.wp _ _ _ _ (wr.alloc (Obj.cells (words zero4) 26))
      rw [← hV]
      clear hV
      have hk4 : s[i].toNat / 64 < 4 := by have := UInt8.toNat_lt s[i]; omega
      have hc0 := Q.out.c (s[i].toNat / 64) hk4
      have hz0 := Q.out.z (s[i].toNat / 64) hk4
      have hi0 : (0 : Int) ≤ i := by omega
      have hi1 : (i : Int) < s.size := by omega
      go_region
      have hpw : IntKind.u64.wrap ((2 : Int) ^ (s[i].toNat % 64)) = ((2 ^ (s[i].toNat % 64) : Nat) : Int) := by
        obtain ⟨pw, hp⟩ : ∃ pw : Nat, pw = 2 ^ (s[i].toNat % 64) := ⟨_, rfl⟩
        have hl : pw < 18446744073709551616 := by rw [hp]; exact pow_lt64 _
        have e2 : ((2 : Int) ^ (s[i].toNat % 64)) = (pw : Int) := by rw [hp]; push_cast; rfl
        rw [e2, ← hp, IntKind.wrap_u64]
        clear hp e2
        omega
      rw [hpw]
      clear hpw hc0 hz0
      obtain ⟨D, hD, QD, BD⟩ : ∃ D, D = (V.setCell ⟨wr.heap.size, s[i].toNat / 64, none⟩ (.int .u64 ((2 ^ (s[i].toNat % 64) : Nat) : Int))).drew ∧ Hid (Quad D wr.heap.size (oneF (byteN s i))) ∧ Hid (Below wr.heap.size wr D) :=
        ⟨_, rfl, Lib.hid (by rw [byteN_get s i hgo]; exact ((Q.out.set hk4 _).congr (g := oneF s[i].toNat) (fun j _ => by unfold oneF zero4; by_cases e : j = s[i].toNat / 64 <;> simp [e])).after (below_drew _)), Lib.hid ((HB'.out.setCell (by simp) _).drew)⟩
      rw [← hD]
      clear hD
      obtain ⟨i0, hi0', hz0, hz1, hz2⟩ := info_parts info_re3
      have q0 := QD.out.c 0 (by omega); have q1 := QD.out.c 1 (by omega); have q2 := QD.out.c 2 (by omega); have q3 := QD.out.c 3 (by omega)
      have O5 := Lib.hid (owns_after (owns_after hown.out BD.out) (below_new D (.cells (byteC s i) 28)))
      have R5 := Lib.hid (heap_alloc_last D (.cells (byteC s i) 28))
      have B5 := Lib.hid (Below.step (Below.step hbl.out BD.out) (below_new D (.cells (byteC s i) 28)))
      have hge : w.heap.size ≤ (D.alloc (.cells (byteC s i) 28)).heap.size := B5.out.size
      clear Q HB' hsz' hk4 hown hbl QD BD
      go_wp2_with (at_builtin; refine wpList_append_own _ rfl _ _ 23 rfl w.heap.size 28 i0 (.agg #[.int .i64 0, .int .u64 0, .int .u64 0, .int .u64 0, .int .u64 0, .int .i64 0, .int .i64 0, .slice none 0 0]) 8 80 Try.underlying23 hi0' hz0 hz1 hz2 rfl (by decide) _ _ _ rfl O5.out ⟨D.heap.size, 0, none⟩ 1 1 (byteC s i).toList rfl rfl ?c1 ?c2 ?c3 ?c4 ?c5 ?_)
      case c1 =>
        intro j u hj
        have e : (⟨D.heap.size, 0, none⟩ : Addr).add j = ⟨D.heap.size, j, none⟩ := by unfold Addr.add; split <;> simp_all
        rw [e]
        exact (cell_of_row _ _ j _ _ _ R5.out).trans (by simpa using hj)
      case c2 =>
        intro u hu
        have h := re_one 1 (oneF (byteN s i)) 0 0 none 0 0
        rw [Array.all_eq_true_iff_forall_mem] at h
        exact h u (by simpa [byteC] using hu)
      case c3 => unfold maxLen; omega
      case c4 => omega
      case c5 => exact hge
      intro v' w4 hown' hgrow _
      have hgrow' : (D.alloc (.cells (byteC s i) 28)).grownBy w4 _ := hgrow
      have hlt5 := O5.out.lt
      have OW := Lib.hid hown'
      have BW : Hid (Below w.heap.size w w4) := Lib.hid (B5.out.grown hgrow' hge (fun k hk => (hlt5 k hk).1))
      clear hown' hgrow hgrow' hlt5 q0 q1 q2 q3 hge
      go_wp2_with fail
      go_roundw
      case rel => exact ⟨i + 1, by go_num, by omega, Lib.hid (by rw [flatC_succ]; exact OW.out), BW⟩
      case measure => simp [intOf]; omega
    · obtain rfl : i = s.size := by omega
      have HS := Lib.hid (slAt_bytes s hown.out)
      have HJ1 := Lib.hid (HJ.out wr _ _ HS.out)
      clear hown
      go_wp2_with fail
      refine HJ1.out.mono ?_
      rintro e w1 ⟨ds, rfl, hat, b1⟩
      have B1 := Lib.hid (Below.step hbl.out b1)
      have HB1 := Lib.hid (HM.out w1 ds _ hat)
      clear hat b1 HJ1
      go_wp2_with fail
      refine HB1.out.mono ?_
      rintro e w2 ⟨p, sv, rfl, hm, b2⟩
      have B2 := Lib.hid (Below.step B1.out b2)
      have HE2 := Lib.hid (HE.out w2 p sv hm)
      clear hm b2 HB1
      go_wp2_with fail
      refine HE2.out.mono ?_
      rintro e w3 ⟨v, rfl, hv, b3⟩
      have B3 := Lib.hid (Below.step B2.out b3)
      have N3 := Lib.hid ((nums_of hv).after (below_new w3 (.cells #[.int .i64 ((a.size + s.size : Nat) : Int)] 3)))
      have M3 : Hid (NumsAt (w3.alloc (.cells #[.int .i64 ((a.size + s.size : Nat) : Int)] 3)) (.slice (some ⟨w3.heap.size, 0, none⟩) 1 1) [a.size + s.size]) := Lib.hid (nums_of (World.ownsRow_lit (base := 0) (e := 3) (size := 1) w3 #[.int .i64 ((a.size + s.size : Nat) : Int)] 1 (Nat.zero_le _) (by unfold maxLen; omega) rfl))
      have HS3 := Lib.hid (same_spec [a.size + s.size] _ _ _ (by show 1 ≤ 1000000000; omega) N3.out M3.out)
      have B4 := Lib.hid (Below.step B3.out (below_new w3 (.cells #[.int .i64 ((a.size + s.size : Nat) : Int)] 3)))
      rw [show ((a.size + s.size : Nat) : Int) = (a.size : Int) + (s.size : Int) from Int.natCast_add _ _] at HS3 B4
      clear hv b3 N3 M3 HE2
      go_wp2_with fail
      refine HS3.out.mono ?_
      rintro e w4 ⟨rfl, b4⟩
      have B5 := Lib.hid (Below.step B4.out b4)
      clear b4 HS3
      go_wp2_with fail
      refine (HV.out _).mono ?_
      rintro e w5 ⟨rfl, b5⟩
      have B6 := Lib.hid (Below.step B5.out b5)
      clear b5
      go_wp2_with fail
      go_ret
      exact ⟨rfl, B6.out⟩
end Go.Proofs.Ytbojoiacedhjiaa
