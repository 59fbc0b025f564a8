/- Merged by program: LexTx. -/
import Derived.Test.YtgdlpldngpoadaaGreatDoorSap
import Derived.Test.YtgdlpldngpoadaaGreatDoorSab
/- text: a walk. -/
namespace Go.Proofs.YtgdlpldngpoadaaGreatDoor
open Go.RowKit

/-- What reading a text, or a pattern, comes to. -/
def OutT (B p b0 : Nat) (l : List UInt8) (s : ByteArray) (k : Nat) (L : Tok) (o : Option (List UInt8 × Nat)) (w : World) (e : Ending) (w' : World) : Prop := match o with
  | none => FellB B p b0 3 w e w'
  | some r => ∃ t : ByteArray, e = .returned (.string t) ∧ Hid (t.data.toList = l ++ r.1) ∧ Rd w' p s (k + r.2) L ∧ ButB B p w w'
theorem OutT.step {B p b0 : Nat} {l m : List UInt8} {s : ByteArray} {k n : Nat} {L : Tok} {o o1 : Option (List UInt8 × Nat)} {w w1 : World} {e : Ending} {w' : World} (hb : ButB B p w w1) (ho : o = o1.map fun r => (m ++ r.1, r.2 + n))
    (h : OutT B p b0 (l ++ m) s (k + n) L o1 w1 e w') : OutT B p b0 l s k L o w e w' := by
  subst ho
  cases o1 with
  | none => exact ⟨h.1, hb.trans h.2⟩
  | some r =>
    obtain ⟨t, h1, h2, h3, h4⟩ := h
    refine ⟨t, h1, Lib.hid ?_, ?_, hb.trans h4⟩
    · rw [h2.out, List.append_assoc]
    · have e : k + n + r.2 = k + (r.2 + n) := by omega
      rw [← e]; exact h3

/-- Where the reading of a text stands: the byte c was read last. -/
structure TxI (B g p b0 : Nat) (s : ByteArray) (L : Tok) (P : Ending → World → Prop) (N : List UInt8 → Option (List UInt8 × Nat)) (l : List UInt8) (j : Nat) (c : UInt8) (r : List UInt8) (w : World) : Prop where
  qd : Qd B g p b0 l w
  rd : Rd w p s (j + 1) L
  len : l.length ≤ j
  hd : s.data.toList.drop j = c :: r
  nf : c.toNat ≠ 10
  go : ∀ e w', OutT B p b0 l s j L (N (c :: r)) w e w' → P e w'
theorem TxI.fell {B g p b0 : Nat} {s : ByteArray} {L : Tok} {P : Ending → World → Prop} {N : List UInt8 → Option (List UInt8 × Nat)} {l : List UInt8} {j : Nat} {c : UInt8} {r : List UInt8} {w : World} (h : TxI B g p b0 s L P N l j c r w) (hn : N (c :: r) = none) {e : Ending} {w' : World} (he : FellB B p b0 3 w e w') : P e w' :=
  h.go e w' (by rw [hn]; exact he)
theorem TxI.step {B g p b0 : Nat} {s : ByteArray} {L : Tok} {P : Ending → World → Prop} {N : List UInt8 → Option (List UInt8 × Nat)} {l m : List UInt8} {j n : Nat} {c d : UInt8} {r u : List UInt8} {w w1 : World} (h : TxI B g p b0 s L P N l j c r w) (hm : N (c :: r) = (N (d :: u)).map fun x => (m ++ x.1, x.2 + n)) (hmn : m.length ≤ n)
    (hd : s.data.toList.drop (j + n) = d :: u) (hnf : d.toNat ≠ 10) (hQ : Qd B g p b0 (l ++ m) w1) (hR : Rd w1 p s (j + n + 1) L) (hb : ButB B p w w1) : TxI B g p b0 s L P N (l ++ m) (j + n) d u w1 :=
  ⟨hQ, hR, by have := h.len; rw [List.length_append]; omega, hd, hnf, fun e w' ho => h.go e w' (ho.step hb hm)⟩
theorem TxI.lt {B g p b0 : Nat} {s : ByteArray} {L : Tok} {P : Ending → World → Prop} {N : List UInt8 → Option (List UInt8 × Nat)} {l : List UInt8} {j : Nat} {c : UInt8} {r : List UInt8} {w : World} (h : TxI B g p b0 s L P N l j c r w) : j < s.size := drop_lt h.hd

theorem tx_feed {l : List UInt8} (h : l = [] ∨ ∃ c r, l = c :: r ∧ c.toNat = 10) : textN l = none := by
  rcases h with rfl | ⟨c, r, rfl, hc⟩
  · rfl
  · unfold textN; rw [if_pos hc]
theorem tx_end {c : UInt8} {r : List UInt8} (hc : c.toNat = 34) : textN (c :: r) = some ([], 1) := by
  unfold textN; rw [if_neg (by omega), if_pos hc]
theorem tx_esc_bad {c : UInt8} {r : List UInt8} (hc : c.toNat = 92) (h : r = [] ∨ ∃ d u, r = d :: u ∧ d.toNat = 10) : textN (c :: r) = none := by
  unfold textN
  rw [if_neg (by omega), if_neg (by omega), if_pos hc]
  rcases h with rfl | ⟨d, u, rfl, hd⟩
  · rfl
  · simp only []; rw [if_pos hd]
theorem tx_esc {c d : UInt8} {u : List UInt8} (hc : c.toNat = 92) (hd : d.toNat ≠ 10) : textN (c :: d :: u) = (textN u).map fun r => (meantN d ++ r.1, r.2 + 2) := by
  conv => lhs; unfold textN
  rw [if_neg (by omega), if_neg (by omega), if_pos hc]
  simp only []; rw [if_neg hd]
theorem tx_on {c : UInt8} {r : List UInt8} (h1 : c.toNat ≠ 10) (h2 : c.toNat ≠ 34) (h3 : c.toNat ≠ 92) : textN (c :: r) = (textN r).map fun x => ([c] ++ x.1, x.2 + 1) := by
  conv => lhs; unfold textN
  rw [if_neg h1, if_neg h2, if_neg h3]
  rfl
theorem meant_len (d : UInt8) : (meantN d).length ≤ 2 := by unfold meantN; split <;> (try split) <;> (try split) <;> simp
theorem meant_ne (d : UInt8) : meantN d ≠ [] := by unfold meantN; split <;> (try split) <;> (try split) <;> simp

set_option maxRecDepth 100000 in
set_option maxHeartbeats 1000000 in
theorem text_walk (p : Nat) (s : ByteArray) (k : Nat) (L : Tok) (w : World) (P : Ending → World → Prop) (hR : Rd w p s k L) (hk : k < s.size) (hs : s.size ≤ 8000)
    (hGo : ∀ e w', OutT w.heap.size p k [] s (k + 1) L (textN (s.data.toList.drop (k + 1))) w e w' → P e w') :
    Calls Tryz.prog 161 #[.pointer (some ⟨p, 0, none⟩)] w P := by
  have HGo := Lib.hid hGo
  have hp := hR.lt
  have R := Lib.hid hR
  obtain ⟨B, hB⟩ : ∃ B, B = w.heap.size := ⟨_, rfl⟩
  have HO := Lib.hid (open_spec p s k L w hR (by omega) hs)
  have HN := Lib.hid (fun g l j c r w h1 h2 h3 h4 => next_go B g p k l s j L c r w h1 h2 (by omega) h3 h4 hs)
  have HNB := Lib.hid (fun g l j w h1 h2 h3 h4 => next_bad B g p k l s j L w h1 h2 h3 h4)
  have HBy := Lib.hid (fun g l c w h1 h2 => qbyte B g p k l c w h1 h2)
  have HTx := Lib.hid (fun g l t w h1 h2 h3 => qtext B g p k l t w h1 h2 h3)
  have HSt := Lib.hid (fun g l w h1 => qstring B g p k l w h1)
  have HMe := Lib.hid (fun c w => meant_spec c w)
  rw [← hB] at HGo
  have HpB : Hid (p < B ∧ B = w.heap.size) := Lib.hid ⟨by omega, hB⟩
  clear hGo hR
  go_enter Tryz.func161, Tryz.ntmps161
  go_wp2_with fail
  refine HO.out.mono ?_
  rintro e w1 ⟨rfl, Q0, R0, b0, _⟩
  rw [← hB] at Q0 ⊢
  obtain ⟨g, hg⟩ : ∃ g, g = B := ⟨_, rfl⟩
  have HQ0 : Hid (Qd B g p k [] w1) := Lib.hid (by rw [hg]; exact Q0)
  have HR0 := Lib.hid R0
  have HB0 : Hid (ButB B p w w1) := Lib.hid (by rw [hB]; exact b0.toB (Nat.le_refl _))
  rw [← hg]
  clear Q0 R0 b0 hg hB
  have hdr : s.data.toList.drop k = s.data.toList[k]'(by simpa using hk) :: s.data.toList.drop (k + 1) := drop_at _
  rcases feed_or (s.data.toList.drop (k + 1)) with hf | ⟨c, r, hcr, hc10⟩
  · have HF := Lib.hid hf; clear hf hdr
    go_wp2_with fail
    refine (HNB.out g [] (k + 1) _ HQ0.out HR0.out hk HF.out).mono ?_
    rintro e w2 ⟨rfl, b1⟩
    have HE := Lib.hid (HGo.out _ w2 (by rw [tx_feed HF.out]; exact ⟨rfl, HB0.out.trans (b1.toB HQ0.out.le)⟩))
    clear b1
    go_wp2_with fail
    exact ⟨rfl, HE.out⟩
  · have HCR := Lib.hid hcr; clear hcr hdr
    go_wp2_with fail
    refine (HN.out g [] (k + 1) c r _ HQ0.out HR0.out HCR.out hc10).mono ?_
    rintro e w2 ⟨rfl, Q1, R1, b1⟩
    have I1 : Hid (TxI B g p k s L P textN [] (k + 1) c r w2) := Lib.hid ⟨Q1, R1, Nat.zero_le _, HCR.out, hc10, fun e w' ho => HGo.out e w' (by
      rw [HCR.out]
      exact OutT.step (m := []) (n := 0) (HB0.out.trans (b1.toB HQ0.out.le)) (by cases textN (c :: r) <;> rfl) ho)⟩
    clear Q1 R1 b1
    go_wp2_with fail
    go_loopg [4] (s.size - (k + 1)) (fun q x wr => ∃ (l' : List UInt8) (j : Nat) (c : UInt8) (r : List UInt8), x = .int .u8 c.toNat ∧ Hid (s.size - j = q) ∧ Hid (TxI B g p k s L P textN l' j c r wr))
    case atStart => exact ⟨[], k + 1, c, r, rfl, Lib.hid rfl, I1⟩
    case round =>
      clear I1 HCR hc10
      obtain ⟨l', j, c, r, rfl, hq, hM⟩ := hrel
      have hlen := hM.out.len
      have hlt := hM.out.lt
      have hpB := HpB.out.1
      have hr1 := Lib.hid (drop_tail hM.out.hd)
      by_cases h34 : c.toNat = 34
      · have H34 := Lib.hid h34
        have hb : ((c.toNat : Int) != 34) = false := by rw [h34]; rfl
        clear h34
        go_wp2_with fail
        refine (HSt.out g l' _ hM.out.qd).mono ?_
        rintro e w3 ⟨t, rfl, ht, b3⟩
        have HE := Lib.hid (hM.out.go _ w3 (by rw [tx_end H34.out]; exact ⟨t, rfl, Lib.hid (by rw [ht.out]; simp), hM.out.rd.keep (b3.block p hpB), ButB.of b3⟩))
        clear b3
        go_wp2_with fail
        exact HE.out
      · have hb : ((c.toNat : Int) != 34) = true := by simp; omega
        by_cases h92 : c.toNat = 92
        · have hb92 : ((c.toNat : Int) == 92) = true := by rw [h92]; rfl
          have H92 := Lib.hid h92; clear h92
          go_upto_region 6 with (fail)
          refine wp_region_held_drew (S := fun _ => True) (by kernel_rfl) trivial (fun _ => ?_)
          obtain ⟨V, hV⟩ : ∃ V, V = wr.drew := ⟨_, rfl⟩
          have HM1 : Hid (Qd B g p k l' V ∧ Rd V p s (j + 1) L ∧ ButB B p wr V) := Lib.hid (by
            rw [hV]
            exact ⟨hM.out.qd.keep (But.of (p := p) (below_drew wr)) hpB, hM.out.rd.after (below_drew wr), ButB.of (Below.drew (Below.refl B wr))⟩)
          rw [← hV]
          clear hV
          refine takeW (i := 0) (d := 15) (v := .pointer (some ⟨g, 0, none⟩)) rfl rfl (by kernel_rfl) (by kernel_rfl) (by kernel_rfl) (fun _ _ _ h => h) (by rfl) (fun _ _ => by go_simp) trivial ?_
          simp only [List.setIfInBounds_toArray, List.set_cons_zero, List.set_cons_succ]
          refine takeW (i := 1) (d := 16) (v := .pointer (some ⟨g, 0, none⟩)) rfl rfl (by kernel_rfl) (by kernel_rfl) (by kernel_rfl) (fun _ _ _ h => h) (by rfl) (fun _ _ => by go_simp) trivial ?_
          simp only [List.setIfInBounds_toArray, List.set_cons_zero, List.set_cons_succ]
          refine takeW (i := 2) (d := 17) (v := .pointer (some ⟨g, 2, none⟩)) rfl rfl (by kernel_rfl) (by kernel_rfl) (by kernel_rfl) (fun _ _ _ h => h) (by rfl) (fun _ _ => by go_simp) trivial ?_
          simp only [List.setIfInBounds_toArray, List.set_cons_zero, List.set_cons_succ]
          refine takeW (i := 3) (d := 18) (v := .pointer (some ⟨g, 0, none⟩)) rfl rfl (by kernel_rfl) (by kernel_rfl) (by kernel_rfl) (fun _ _ _ h => h) (by rfl) (fun _ _ => by go_simp) trivial ?_
          simp only [List.setIfInBounds_toArray, List.set_cons_zero, List.set_cons_succ]
          have HR1 : Hid (s.data.toList.drop (j + 1) = r) := hr1
          rcases feed_or r with hf | ⟨d, u, hdu, hd10⟩
          · have HF := Lib.hid hf; clear hf
            refine wpAnyH_ready (rs := [4]) (by kernel_rfl) (by simp) ?_
            refine AllReadyH.cons rfl (fun X hX => ?_) AllReadyH.nil
            rw [if_pos (by rfl)]
            go_simp
            refine (HNB.out g l' (j + 1) _ HM1.out.1 HM1.out.2.1 hlt (by rw [HR1.out]; exact HF.out)).mono ?_
            rintro e w3 ⟨rfl, b3⟩
            have HE := Lib.hid (hM.out.fell (tx_esc_bad H92.out HF.out) ⟨rfl, HM1.out.2.2.trans (b3.toB HM1.out.1.le)⟩)
            clear b3
            go_wp2_with fail
            exact ⟨rfl, HE.out⟩
          · have HDU := Lib.hid hdu; clear hdu
            have hd2 := Lib.hid (HR1.out.trans HDU.out)
            have hlt2 := drop_lt hd2.out
            have hu := Lib.hid (drop_tail hd2.out)
            refine wpAnyH_ready (rs := [4]) (by kernel_rfl) (by simp) ?_
            refine AllReadyH.cons rfl (fun X hX => ?_) AllReadyH.nil
            rw [if_pos (by rfl)]
            go_simp
            refine (HN.out g l' (j + 1) d u _ HM1.out.1 HM1.out.2.1 hd2.out hd10).mono ?_
            rintro e w3 ⟨rfl, Q3, R3, b3⟩
            have HM3 : Hid (Qd B g p k l' w3 ∧ Rd w3 p s (j + 2) L ∧ ButB B p wr w3) := Lib.hid ⟨Q3, R3, HM1.out.2.2.trans (b3.toB HM1.out.1.le)⟩
            clear Q3 R3 b3
            go_wp2_with fail
            refine hX.out _ _ trivial (fun _ => ?_)
            clear hX X
            refine wpAnyH_ready (rs := [5]) (by kernel_rfl) (by simp) ?_
            refine AllReadyH.cons rfl (fun X hX => ?_) AllReadyH.nil
            rw [if_pos (by rfl)]
            go_simp
            refine (HMe.out d _).mono ?_
            rintro e w4 ⟨t, rfl, ht, b4⟩
            have htn : t.data.toList ≠ [] := by rw [ht.out]; exact meant_ne d
            have HTN := Lib.hid htn
            have HTS : Hid (t.size ≤ 2) := Lib.hid (by have := meant_len d; rw [← ht.out] at this; rw [Lib.size_eq]; exact this)
            have HM4 : Hid (Qd B g p k l' w4 ∧ Rd w4 p s (j + 2) L ∧ ButB B p wr w4) := Lib.hid ⟨HM3.out.1.keep (But.of (p := p) b4) hpB, HM3.out.2.1.after b4, HM3.out.2.2.trans ((But.of (p := p) b4).toB HM3.out.1.le)⟩
            clear b4 htn
            go_wp2_with fail
            refine hX.out _ _ trivial (fun _ => ?_)
            clear hX X
            refine wpAnyH_ready (rs := [6]) (by kernel_rfl) (by simp) ?_
            refine AllReadyH.cons rfl (fun X hX => ?_) AllReadyH.nil
            rw [if_pos (by rfl)]
            go_simp
            refine (HTx.out g l' t _ HM4.out.1 (by have := HTS.out; omega) HTN.out).mono ?_
            rintro e w5 ⟨rfl, Q5, b5⟩
            have HM5 : Hid (Qd B g p k (l' ++ meantN d) w5 ∧ Rd w5 p s (j + 2) L ∧ ButB B p wr w5) := Lib.hid ⟨by rw [← ht.out]; exact Q5, HM4.out.2.1.keep (b5.block p hpB), HM4.out.2.2.trans (ButB.of b5)⟩
            clear Q5 b5
            go_wp2_with fail
            refine hX.out _ _ trivial (fun _ => ?_)
            clear hX X
            refine wpAnyH_done (by kernel_rfl) ?_ _
            rcases feed_or u with hf | ⟨c2, r2, hcr2, hc210⟩
            · have HF := Lib.hid hf; clear hf
              go_wp2_with fail
              refine (HNB.out g _ (j + 2) _ HM5.out.1 HM5.out.2.1 hlt2 (by rw [hu.out]; exact HF.out)).mono ?_
              rintro e w6 ⟨rfl, b6⟩
              have HE := Lib.hid (hM.out.fell (by rw [HDU.out, tx_esc H92.out hd10, tx_feed HF.out]; rfl) ⟨rfl, HM5.out.2.2.trans (b6.toB HM5.out.1.le)⟩)
              clear b6
              go_wp2_with fail
              exact ⟨rfl, HE.out⟩
            · have HC2 := Lib.hid hcr2; clear hcr2
              go_wp2_with fail
              refine (HN.out g _ (j + 2) c2 r2 _ HM5.out.1 HM5.out.2.1 (hu.out.trans HC2.out) hc210).mono ?_
              rintro e w6 ⟨rfl, Q6, R6, b6⟩
              have I2 : Hid (TxI B g p k s L P textN (l' ++ meantN d) (j + 2) c2 r2 w6) := Lib.hid (hM.out.step (by rw [HDU.out, tx_esc H92.out hd10, HC2.out]) (meant_len d) (hu.out.trans HC2.out) hc210 Q6 R6 (HM5.out.2.2.trans (b6.toB HM5.out.1.le)))
              clear Q6 R6 b6
              have hlt3 := I2.out.lt
              go_wp2_with fail
              go_roundg (s.size - (j + 2))
              case measure => have := hq.out; omega
              case rel => exact ⟨_, _, _, _, rfl, Lib.hid rfl, I2⟩
        · have hb92 : ((c.toNat : Int) == 92) = false := by simp; omega
          have h34' := h34
          clear h34
          go_wp2_with fail
          refine (HBy.out g l' c _ hM.out.qd (by omega)).mono ?_
          rintro e w3 ⟨rfl, Q3, b3⟩
          have HM3 : Hid (Qd B g p k (l' ++ [c]) w3 ∧ Rd w3 p s (j + 1) L ∧ ButB B p wr w3) := Lib.hid ⟨Q3, hM.out.rd.keep (b3.block p hpB), ButB.of b3⟩
          clear Q3 b3
          rcases feed_or r with hf | ⟨c2, r2, hcr2, hc210⟩
          · have HF := Lib.hid hf; clear hf
            go_wp2_with fail
            refine (HNB.out g _ (j + 1) _ HM3.out.1 HM3.out.2.1 hlt (by rw [hr1.out]; exact HF.out)).mono ?_
            rintro e w6 ⟨rfl, b6⟩
            have HE := Lib.hid (hM.out.fell (by rw [tx_on hM.out.nf h34' h92, tx_feed HF.out]; rfl) ⟨rfl, HM3.out.2.2.trans (b6.toB HM3.out.1.le)⟩)
            clear b6
            go_wp2_with fail
            exact ⟨rfl, HE.out⟩
          · have HC2 := Lib.hid hcr2; clear hcr2
            go_wp2_with fail
            refine (HN.out g _ (j + 1) c2 r2 _ HM3.out.1 HM3.out.2.1 (hr1.out.trans HC2.out) hc210).mono ?_
            rintro e w6 ⟨rfl, Q6, R6, b6⟩
            have I2 : Hid (TxI B g p k s L P textN (l' ++ [c]) (j + 1) c2 r2 w6) := Lib.hid (hM.out.step (by rw [tx_on hM.out.nf h34' h92, HC2.out]) (by simp) (hr1.out.trans HC2.out) hc210 Q6 R6 (HM3.out.2.2.trans (b6.toB HM3.out.1.le)))
            clear Q6 R6 b6
            have hlt3 := I2.out.lt
            go_wp2_with fail
            go_roundg (s.size - (j + 1))
            case measure => have := hq.out; omega
            case rel => exact ⟨_, _, _, _, rfl, Lib.hid rfl, I2⟩

/-- A text is read: what it stands for. -/
def QuoteAt (p : Nat) (s : ByteArray) (k : Nat) (L : Tok) (o : Option (List UInt8 × Nat)) (w : World) (e : Ending) (w' : World) : Prop := match o with
  | none => Fell p k 3 w e w'
  | some r => ∃ t : ByteArray, e = .returned (.string t) ∧ Hid (t.data.toList = r.1) ∧ Rd w' p s (k + 1 + r.2) L ∧ But p w w'
theorem OutT.quote {p : Nat} {s : ByteArray} {k : Nat} {L : Tok} {o : Option (List UInt8 × Nat)} {w : World} {e : Ending} {w' : World} (h : OutT w.heap.size p k [] s (k + 1) L o w e w') : QuoteAt p s k L o w e w' := by
  cases o with
  | none => exact ⟨h.1, h.2.toBut⟩
  | some r =>
    obtain ⟨t, h1, h2, h3, h4⟩ := h
    exact ⟨t, h1, h2, h3, h4.toBut⟩
theorem text_spec (p : Nat) (s : ByteArray) (k : Nat) (L : Tok) (w : World) (hR : Rd w p s k L) (hk : k < s.size) (hs : s.size ≤ 8000) :
    Calls Tryz.prog 161 #[.pointer (some ⟨p, 0, none⟩)] w (QuoteAt p s k L (textN (s.data.toList.drop (k + 1))) w) :=
  text_walk p s k L w _ hR hk hs fun _ _ h => h.quote
end Go.Proofs.YtgdlpldngpoadaaGreatDoor
