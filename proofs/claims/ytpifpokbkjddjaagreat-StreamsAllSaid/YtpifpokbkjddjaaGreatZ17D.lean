/- The law StreamsAll over the program's contracts: the walk. -/
import Derived.Test.YtpifpokbkjddjaaGreatZ17N
import Derived.Test.YtpifpokbkjddjaaGreatTake17
import Derived.Lib.ConvBytes
namespace Go.Proofs.YtpifpokbkjddjaaGreat
open Go.RowKit

theorem conv_byte (W : World) (k : Nat) (c : UInt8) (h : W.cell? ⟨k, 0, none⟩ = some (.int .u8 (c.toNat : Nat))) : (convert 25 9 (.slice (some ⟨k, 0, none⟩) 1 1)).run Tryz.prog W = .ok (.string ⟨#[c]⟩) W := by
  refine run_convert_bytes_back W 25 9 5 ⟨k, 0, none⟩ 1 [c] Tryz.underlying25 Tryz.underlying5 Tryz.underlying9 ?_
  intro j hj
  obtain rfl : j = 0 := by simpa using hj
  have ha : (⟨k, 0, none⟩ : Addr).add 0 = ⟨k, 0, none⟩ := by unfold Addr.add; split <;> simp_all
  rw [ha, h]
  simp
theorem next_le {c : UInt8} {i : Inp} {r : ByteArray} {p : Nat} (h : nextB c i = some (r, p)) : p ≤ i.text.size := by
  unfold nextB at h
  split at h
  · injection h with h
    rw [← (Prod.mk.inj h).2]
    exact Nat.min_le_right _ _
  · exact absurd h (by simp)
/-- The state of a reading. -/
def At17 (w0 : World) (P : StMem) (B : Nat) (w : World) (b : Nat) (m : ByteArray) (a : Nat) : Prop := ∃ s O, Run w0 P B w b s O ∧ s.main.text = m ∧ s.main.pos = a

set_option maxRecDepth 100000 in
set_option maxHeartbeats 4000000 in
theorem all_walk (w : World) (P : StMem) (H : StreamsOk w P) (m : ByteArray) (c : UInt8) :
    Calls Tryz.prog 3 #[.string m, .int .u8 (c.toNat : Nat)] w fun e w' => e = .returned (.bool true) ∧ Below w.heap.size w w' := by
  have HH := Lib.hid H
  have HLV := Lib.hid (fun V hV => lives17 H V hV)
  clear H
  by_cases hbig : 200 < m.size
  · have d1 : decide ((200 : Int) < (m.size : Int)) = true := decide_eq_true (by omega)
    have HL := Lib.hid (HLV.out w (Below.refl _ _))
    clear hbig
    go_enter Tryz.func3, Tryz.ntmps3
    go_wp2_with fail
    refine HL.out.mono ?_
    rintro e w1 ⟨rfl, bb⟩
    have B1 := Lib.hid bb
    clear bb
    go_wp2_with fail
    go_ret
    exact ⟨rfl, B1.out⟩
  have d1 : decide ((200 : Int) < (m.size : Int)) = false := decide_eq_false (by omega)
  have hm : m.size ≤ 200 := by omega
  clear hbig
  by_cases h92 : c = 92
  · have e1 : ((c.toNat : Int) == 92) = true := by rw [h92]; rfl
    have e2 : (c.toNat == 92) = true := by rw [h92]; rfl
    have HL := Lib.hid (HLV.out w (Below.refl _ _))
    clear h92
    go_enter Tryz.func3, Tryz.ntmps3
    go_wp2_with fail
    refine HL.out.mono ?_
    rintro e w1 ⟨rfl, bb⟩
    have B1 := Lib.hid bb
    clear bb
    go_wp2_with fail
    go_ret
    exact ⟨rfl, B1.out⟩
  have hne : c.toNat ≠ 92 := fun e => h92 (by apply UInt8.toNat_inj.1; exact e)
  have e1 : ((c.toNat : Int) == 92) = false := beq_eq_false_iff_ne.2 (by omega)
  have e2 : (c.toNat == 92) = false := beq_eq_false_iff_ne.2 hne
  have H92 := Lib.hid h92
  obtain ⟨rs, hrs⟩ : ∃ rs : ByteArray, rs = ⟨#[c]⟩ := ⟨_, rfl⟩
  have HRS := Lib.hid hrs
  clear h92 hne hrs
  go_enter Tryz.func3, Tryz.ntmps3
  go_upto_region 3 with (fail)
  clear d1 e1 e2
  go_cut [5, 6] from 24 to 29 (fun x y wx => y = .string rs ∧ ∃ b, x = .pointer (some ⟨b, 0, none⟩) ∧ Hid (∃ B, At17 w P B wx b m 0 ∧ w.heap.size ≤ B) ∧ Hid (Below w.heap.size w wx))
  case first =>
    have HN := Lib.hid (fun V (hV : Below w.heap.size w V) => run_new HH.out V m none 0 0 [] hV (files_nil V) (by omega) (by omega) (by simp))
    refine wp_region_held_drew (S := fun W' => Hid (Below w.heap.size w W')) (by kernel_rfl) ?_ (fun hS => ?_)
    · exact Lib.hid (below_drew _)
    refine takeW (i := 0) (d := 24) (v := (.string m)) rfl rfl (by kernel_rfl) (by kernel_rfl) (by kernel_rfl) (fun _ _ _ h => h) (by rfl) (fun w' _ => by go_simp) hS ?_
    simp only [List.setIfInBounds_toArray, List.set_cons_zero, List.set_cons_succ]
    refine takeW (i := 2) (d := 26) (v := (.int .u8 (c.toNat : Nat))) rfl rfl (by kernel_rfl) (by kernel_rfl) (by kernel_rfl) (fun _ _ _ h => h) (by rfl) (fun w' _ => by go_simp) hS ?_
    simp only [List.setIfInBounds_toArray, List.set_cons_zero, List.set_cons_succ]
    refine wpAnyH_ready (rs := [1, 3]) (by kernel_rfl) (by simp) ?_
    refine AllReadyH.cons rfl (fun X hX => ?_) (AllReadyH.cons rfl (fun X hX => ?_) AllReadyH.nil)
    · rw [if_pos (by rfl)]
      go_simp
      refine (HN.out _ hS.out).mono ?_
      rintro e w1 ⟨b, O1, rfl, h1, bb⟩
      have R1 := Lib.hid h1
      have B1 := Lib.hid (hS.out.trans (bb.mono hS.out.size))
      unfold pt
      go_wp2_with fail
      refine hX.out _ _ B1 (fun hS2 => ?_)
      clear hX X h1 bb
      refine takeW (i := 5) (d := 5) (v := (.pointer (some ⟨b, 0, none⟩))) rfl rfl (by kernel_rfl) (by kernel_rfl) (by kernel_rfl) (fun _ _ _ h => h) (by rfl) (fun w' _ => by go_simp) hS2 ?_
      simp only [List.setIfInBounds_toArray, List.set_cons_zero, List.set_cons_succ]
      refine wpAnyH_ready (rs := [3]) (by kernel_rfl) (by simp) ?_
      refine AllReadyH.cons rfl (fun X hX => ?_) AllReadyH.nil
      rw [if_pos (by rfl)]
      go_simp
      have B2 := Lib.hid (B1.out.alloc (by have := B1.out.size; omega) (.cells #[.int .u8 (c.toNat : Nat)] 5))
      refine hX.out _ _ B2 (fun hS3 => ?_)
      clear hX X
      have R2 := Lib.hid (Run.after HH.out R1.out (below_new w1 (.cells #[.int .u8 (c.toNat : Nat)] 5)))
      refine wpAnyH_ready (rs := [4]) (by kernel_rfl) (by simp) ?_
      refine AllReadyH.cons rfl (fun X hX => ?_) AllReadyH.nil
      rw [if_pos (by rfl)]
      have hcv := conv_byte (w1.alloc (.cells #[.int .u8 (c.toNat : Nat)] 5)) w1.heap.size c (by rw [cell_of_row _ _ 0 _ _ (0, 0) (heap_alloc_last w1 _)]; rfl)
      go_simp
      refine hX.out _ _ B2 (fun hS4 => ?_)
      clear hX X hcv
      refine takeW (i := 6) (d := 6) (v := (.string ⟨#[c]⟩)) rfl rfl (by kernel_rfl) (by kernel_rfl) (by kernel_rfl) (fun _ _ _ h => h) (by rfl) (fun w' _ => by go_simp) hS4 ?_
      simp only [List.setIfInBounds_toArray, List.set_cons_zero, List.set_cons_succ]
      refine wpAnyH_done (by kernel_rfl) ?_ _
      go_wp2_with fail
      go_meet
      exact ⟨by rw [HRS.out], b, rfl, Lib.hid ⟨_, ⟨_, O1, R2.out, rfl, rfl⟩, by have := hS.out.size; omega⟩, B2⟩
    · rw [if_pos (by rfl)]
      go_simp
      have B2 := Lib.hid (hS.out.alloc (by have := hS.out.size; omega) (.cells #[.int .u8 (c.toNat : Nat)] 5))
      refine hX.out _ _ B2 (fun hS3 => ?_)
      clear hX X
      have hcell : (w.drew.alloc (.cells #[.int .u8 (c.toNat : Nat)] 5)).cell? ⟨w.heap.size, 0, none⟩ = some (.int .u8 (c.toNat : Nat)) := (show (w.drew.alloc (.cells #[.int .u8 (c.toNat : Nat)] 5)).cell? ⟨w.drew.heap.size, 0, none⟩ = some (.int .u8 (c.toNat : Nat)) from by rw [cell_of_row _ _ 0 _ _ (0, 0) (heap_alloc_last w.drew _)]; rfl)
      have HCE := Lib.hid hcell
      clear hcell
      refine wpAnyH_ready (rs := [1, 4]) (by kernel_rfl) (by simp) ?_
      refine AllReadyH.cons rfl (fun X hX => ?_) (AllReadyH.cons rfl (fun X hX => ?_) AllReadyH.nil)
      · rw [if_pos (by rfl)]
        go_simp
        refine (HN.out _ B2.out).mono ?_
        rintro e w1 ⟨b, O1, rfl, h1, bb⟩
        have R1 := Lib.hid h1
        have B1 := Lib.hid (B2.out.trans (bb.mono B2.out.size))
        have hcell2 : w1.cell? ⟨w.heap.size, 0, none⟩ = some (.int .u8 (c.toNat : Nat)) := by rw [bb.cell (p := ⟨w.heap.size, 0, none⟩) (cell_lt HCE.out)]; exact HCE.out
        have HC2 := Lib.hid hcell2
        clear hcell2
        unfold pt
        go_wp2_with fail
        refine hX.out _ _ B1 (fun hS4 => ?_)
        clear hX X h1 bb
        refine takeW (i := 5) (d := 5) (v := (.pointer (some ⟨b, 0, none⟩))) rfl rfl (by kernel_rfl) (by kernel_rfl) (by kernel_rfl) (fun _ _ _ h => h) (by rfl) (fun w' _ => by go_simp) hS4 ?_
        simp only [List.setIfInBounds_toArray, List.set_cons_zero, List.set_cons_succ]
        refine wpAnyH_ready (rs := [4]) (by kernel_rfl) (by simp) ?_
        refine AllReadyH.cons rfl (fun X hX => ?_) AllReadyH.nil
        rw [if_pos (by rfl)]
        have hcv := conv_byte w1 w.heap.size c (HC2.out)
        go_simp
        refine hX.out _ _ B1 (fun hS5 => ?_)
        clear hX X hcv
        refine takeW (i := 6) (d := 6) (v := (.string ⟨#[c]⟩)) rfl rfl (by kernel_rfl) (by kernel_rfl) (by kernel_rfl) (fun _ _ _ h => h) (by rfl) (fun w' _ => by go_simp) hS5 ?_
        simp only [List.setIfInBounds_toArray, List.set_cons_zero, List.set_cons_succ]
        refine wpAnyH_done (by kernel_rfl) ?_ _
        go_wp2_with fail
        go_meet
        exact ⟨by rw [HRS.out], b, rfl, Lib.hid ⟨_, ⟨_, O1, R1.out, rfl, rfl⟩, by have := B2.out.size; omega⟩, B1⟩
      · rw [if_pos (by rfl)]
        have hcv := conv_byte ((w.alloc (.cells #[.int .u8 (c.toNat : Nat)] 5)).drew) w.heap.size c ((show ((w.alloc (.cells #[.int .u8 (c.toNat : Nat)] 5)).drew).cell? ⟨w.heap.size, 0, none⟩ = some (.int .u8 (c.toNat : Nat)) from HCE.out))
        go_simp
        refine hX.out _ _ B2 (fun hS4 => ?_)
        clear hX X hcv
        refine wpAnyH_ready (rs := [1]) (by kernel_rfl) (by simp) ?_
        refine AllReadyH.cons rfl (fun X hX => ?_) AllReadyH.nil
        rw [if_pos (by rfl)]
        go_simp
        refine (HN.out _ B2.out).mono ?_
        rintro e w1 ⟨b, O1, rfl, h1, bb⟩
        have R1 := Lib.hid h1
        have B1 := Lib.hid (B2.out.trans (bb.mono B2.out.size))
        unfold pt
        go_wp2_with fail
        refine hX.out _ _ B1 (fun hS5 => ?_)
        clear hX X h1 bb
        refine takeW (i := 5) (d := 5) (v := (.pointer (some ⟨b, 0, none⟩))) rfl rfl (by kernel_rfl) (by kernel_rfl) (by kernel_rfl) (fun _ _ _ h => h) (by rfl) (fun w' _ => by go_simp) hS5 ?_
        simp only [List.setIfInBounds_toArray, List.set_cons_zero, List.set_cons_succ]
        refine takeW (i := 6) (d := 6) (v := (.string ⟨#[c]⟩)) rfl rfl (by kernel_rfl) (by kernel_rfl) (by kernel_rfl) (fun _ _ _ h => h) (by rfl) (fun w' _ => by go_simp) hS5 ?_
        simp only [List.setIfInBounds_toArray, List.set_cons_zero, List.set_cons_succ]
        refine wpAnyH_done (by kernel_rfl) ?_ _
        go_wp2_with fail
        go_meet
        exact ⟨by rw [HRS.out], b, rfl, Lib.hid ⟨_, ⟨_, O1, R1.out, rfl, rfl⟩, by have := B2.out.size; omega⟩, B1⟩
  case rest =>
    obtain ⟨rfl, b, rfl, HA, hbc⟩ := hcut
    obtain ⟨B, hat, hB⟩ := HA.out
    have HA0 := Lib.hid hat
    clear HA hat
    go_wp2_with fail
    go_loopw [7, 8, 9, 10, 11, 12, 13, 14, 15] (fun y7 y8 z1 z2 z3 z4 z5 z6 z7 wr => z1 = z1 ∧ z2 = z2 ∧ z3 = z3 ∧ z4 = z4 ∧ z5 = z5 ∧ z6 = z6 ∧ z7 = z7 ∧ ∃ a i : Nat, y7 = .int .i64 a ∧ y8 = .int .i64 i ∧ a ≤ m.size ∧ i ≤ m.size + 1 ∧ Hid (At17 w P B wr b m a) ∧ Hid (Below w.heap.size w wr)) (fun _ y8 _ _ _ _ _ _ _ _ => m.size + 1 - (intOf y8).toNat)
    case atStart => exact ⟨rfl, rfl, rfl, rfl, rfl, rfl, rfl, 0, 0, rfl, rfl, by omega, by omega, HA0, hbc⟩
    case round =>
      obtain ⟨_, _, _, _, _, _, _, a, i, rfl, rfl, ha, hi, HA, hb⟩ := hrel
      obtain ⟨s, O, hrun, htx, hps⟩ := HA.out
      have RR := Lib.hid hrun
      by_cases hlt : i ≤ m.size
      · have d2 : decide ((i : Int) ≤ (m.size : Int)) = true := decide_eq_true (by omega)
        have d2b : decide (i ≤ m.size) = true := decide_eq_true hlt
        have HM := Lib.hid (run_main HH.out wr hrun c H92.out)
        have HNX := Lib.hid (fun V => refNext_byte m rs c a HRS.out H92.out (by omega) (by omega) V)
        have hnb : nextB c s.main = nextB c ⟨⟨#[]⟩, m, a⟩ := by rw [← htx, ← hps]; rfl
        rw [← HRS.out] at HM
        cases hx : nextB c ⟨⟨#[]⟩, m, a⟩ with
        | none =>
          have e1 : recI c s.main = ⟨#[]⟩ := by unfold recI; rw [hnb, hx]
          have e2 : (nextB c s.main).isSome = false := by rw [hnb, hx]; rfl
          have e3 : nextV c m a = .tuple #[.string ⟨#[]⟩, .int .i64 0, .bool false, .int .i64 0] := by unfold nextV; rw [hx]
          rw [e1, e2] at HM
          rw [e3] at HNX
          clear e1 e2 e3 hx hnb hrun htx hps
          unfold pt at HM
          go_wp2_with fail
          refine HM.out.mono ?_
          rintro e w2 ⟨rfl, O2, g⟩
          have R2 := Lib.hid g.run
          have B2 := Lib.hid (hb.out.trans (g.below.mono hB))
          clear g HM
          go_wp2_with fail
          refine (HNX.out _).mono ?_
          rintro e w3 ⟨rfl, bb⟩
          have B3 := Lib.hid (B2.out.trans (bb.mono B2.out.size))
          have R3 := Lib.hid (Run.after HH.out R2.out bb)
          have HL := Lib.hid (HLV.out _ R3.out.below)
          clear bb HNX
          go_wp2_with fail
          refine HL.out.mono ?_
          rintro e w4 ⟨rfl, bb⟩
          have B4 := Lib.hid (B3.out.trans (bb.mono B3.out.size))
          clear bb
          go_wp2_with fail
          go_ret
          exact ⟨rfl, B4.out⟩
        | some rp =>
          obtain ⟨r, p⟩ := rp
          have hp : p ≤ m.size := next_le hx
          have e1 : recI c s.main = r := by unfold recI; rw [hnb, hx]
          have e2 : (nextB c s.main).isSome = true := by rw [hnb, hx]; rfl
          have e3 : nextV c m a = .tuple #[.string r, .int .i64 (p : Nat), .bool true, .int .i64 0] := by unfold nextV; rw [hx]
          have e4 : stepI c s.main = { s.main with pos := p } := by unfold stepI; rw [hnb, hx]
          rw [e1, e2] at HM
          rw [e3] at HNX
          have HS := Lib.hid e4
          have HTX := Lib.hid htx
          clear e1 e2 e3 e4 hx hnb hrun htx hps
          unfold pt at HM
          go_wp2_with fail
          refine HM.out.mono ?_
          rintro e w2 ⟨rfl, O2, g⟩
          have R2 := Lib.hid g.run
          have B2 := Lib.hid (hb.out.trans (g.below.mono hB))
          clear g HM
          go_wp2_with fail
          refine (HNX.out _).mono ?_
          rintro e w3 ⟨rfl, bb⟩
          have B3 := Lib.hid (B2.out.trans (bb.mono B2.out.size))
          have R3 := Lib.hid (Run.after HH.out R2.out bb)
          have HA3 : Hid (At17 w P B w3 b m p) := Lib.hid ⟨_, O2, R3.out, by show (stepI c s.main).text = m; rw [HS.out]; exact HTX.out, by show (stepI c s.main).pos = p; rw [HS.out]⟩
          have q1 : (r.toList == r.toList) = true := beq_self_eq_true _
          clear bb HNX
          go_wp2_with fail
          go_roundw
          case rel => exact ⟨trivial, trivial, trivial, trivial, trivial, trivial, trivial, p, i + 1, rfl, by go_num, hp, by omega, HA3, B3⟩
          case measure => simp [intOf]; omega
      · have d2 : decide ((i : Int) ≤ (m.size : Int)) = false := decide_eq_false (by omega)
        have d2b : decide (i ≤ m.size) = false := decide_eq_false hlt
        have HL := Lib.hid (HLV.out _ RR.out.below)
        clear hrun htx hps hlt
        go_wp2_with fail
        refine HL.out.mono ?_
        rintro e w4 ⟨rfl, bb⟩
        have B4 := Lib.hid (hb.out.trans (bb.mono (by have := hb.out.size; omega)))
        clear bb
        go_wp2_with fail
        go_ret
        exact ⟨rfl, B4.out⟩
end Go.Proofs.YtpifpokbkjddjaaGreat
