/- bracket: a walk. -/
import Derived.Test.YtejofdhpegcmjaaLexE
namespace Go.Proofs.Ytejofdhpegcmjaa
open Go.RowKit

theorem hp_spec (s p : ByteArray) (b : Bool) (h : Lib.hasPrefix s.data.toList p.data.toList = b) (w : World) :
    Calls Try.prog 33 #[.string s, .string p] w fun e w' => e = .returned (.bool b) ∧ w' = w := by
  rw [← h]; exact Try.strings_HasPrefix s p w
def headIs (l : List UInt8) (c : UInt8) : Bool := match l with | [] => false | d :: _ => c == d
theorem hp_one (l : List UInt8) (c : UInt8) : Lib.hasPrefix l [c] = headIs l c := by
  cases l with
  | nil => rfl
  | cons d r =>
    show (c == d && _) = (c == d)
    simp [List.isPrefixOf]
theorem headIs_yes {l : List UInt8} {c : UInt8} (h : headIs l c = true) : ∃ r, l = c :: r := by
  cases l with
  | nil => exact absurd h (by simp [headIs])
  | cons d r =>
    have : c = d := by simpa [headIs] using h
    exact ⟨r, by rw [this]⟩
theorem hp1_spec (s : ByteArray) (c : UInt8) (l : List UInt8) (hl : s.data.toList = l) (w : World) :
    Calls Try.prog 33 #[.string s, .string ⟨#[c]⟩] w fun e w' => e = .returned (.bool (headIs l c)) ∧ w' = w :=
  hp_spec s ⟨#[c]⟩ _ (by subst hl; exact hp_one _ _) w

theorem u8_eq {c : UInt8} {n : Nat} (d : UInt8) (h : c.toNat = n) (hd : d.toNat = n) : c = d := UInt8.toNat.inj (by rw [h, hd])

theorem br_feed {q : Nat} {l : List UInt8} (h : l = [] ∨ ∃ c r, l = c :: r ∧ c.toNat = 10) : brN q l = none := by
  rcases h with rfl | ⟨c, r, rfl, hc⟩
  · rfl
  · unfold brN; rw [if_pos hc]
theorem br_esc_bad {q : Nat} {c : UInt8} {r : List UInt8} (hc : c.toNat = 92) (h : r = [] ∨ ∃ d u, r = d :: u ∧ d.toNat = 10) : brN q (c :: r) = none := by
  unfold brN
  rw [if_neg (by omega), if_pos hc]
  rcases h with rfl | ⟨d, u, rfl, hd⟩
  · rfl
  · simp only []; rw [if_pos hd]
theorem br_esc {q : Nat} {c d : UInt8} {u : List UInt8} (hc : c.toNat = 92) (hd : d.toNat ≠ 10) : brN q (c :: d :: u) = (brN 3 u).map fun r => (escN d ++ r.1, r.2 + 2) := by
  conv => lhs; unfold brN
  rw [if_neg (by omega), if_pos hc]
  simp only []; rw [if_neg hd]
theorem br_end {c : UInt8} {r : List UInt8} (hc : c.toNat = 93) : brN 3 (c :: r) = some ([c], 1) := by
  unfold brN
  rw [if_neg (by omega), if_neg (by omega), if_pos ⟨rfl, hc⟩]
theorem br_on {q : Nat} {c : UInt8} {r : List UInt8} (h1 : c.toNat ≠ 10) (h2 : c.toNat ≠ 92) (h3 : ¬ (q = 3 ∧ c.toNat = 93)) : brN q (c :: r) = (brN (nextQ q c) r).map fun x => ([c] ++ x.1, x.2 + 1) := by
  conv => lhs; unfold brN
  rw [if_neg h1, if_neg h2, if_neg h3]
  rfl
theorem br_on3 {c : UInt8} {r : List UInt8} (h1 : c.toNat ≠ 10) (h2 : c.toNat ≠ 92) (h3 : c.toNat ≠ 93) : brN 3 (c :: r) = (brN 3 r).map fun x => ([c] ++ x.1, x.2 + 1) := by
  rw [br_on h1 h2 (fun h => h3 h.2), show nextQ 3 c = 3 by simp [nextQ, h3]]
theorem br_12 {l : List UInt8} (h : headIs l 94 = false) : brN 1 l = brN 2 l := by
  cases l with
  | nil => rfl
  | cons c r =>
    have h94 : c.toNat ≠ 94 := fun e => by
      have := u8_eq 94 e rfl
      subst this
      simp [headIs] at h
    unfold brN nextQ
    simp [h94]
theorem br_23 {l : List UInt8} (h : headIs l 93 = false) : brN 2 l = brN 3 l := by
  cases l with
  | nil => rfl
  | cons c r =>
    have h93 : c.toNat ≠ 93 := fun e => by
      have := u8_eq 93 e rfl
      subst this
      simp [headIs] at h
    unfold brN nextQ
    simp [h93]

/-- Where the reading of a bracket stands. -/
structure BrI (B g p b0 : Nat) (s : ByteArray) (L : Tok) (P : Ending → World → Prop) (q : Nat) (l : List UInt8) (j : Nat) (w : World) : Prop where
  qd : Qd B g p b0 l w
  rd : Rd w p s j L
  len : l.length ≤ j
  le : j ≤ s.size
  go : ∀ e w', OutQ B g p b0 l s j L (brN q (s.data.toList.drop j)) w e w' → P e w'

theorem BrI.fell {B g p b0 : Nat} {s : ByteArray} {L : Tok} {P : Ending → World → Prop} {q : Nat} {l : List UInt8} {j : Nat} {w : World} (h : BrI B g p b0 s L P q l j w) (hn : brN q (s.data.toList.drop j) = none) {e : Ending} {w' : World} (he : FellB B p b0 3 w e w') : P e w' :=
  h.go e w' (by rw [hn]; exact he)
theorem BrI.step {B g p b0 : Nat} {s : ByteArray} {L : Tok} {P : Ending → World → Prop} {q q' : Nat} {l m : List UInt8} {j n : Nat} {w w1 : World} (h : BrI B g p b0 s L P q l j w) (hm : brN q (s.data.toList.drop j) = (brN q' (s.data.toList.drop (j + n))).map fun r => (m ++ r.1, r.2 + n)) (hmn : m.length ≤ n) (hle : j + n ≤ s.size)
    (hQ : Qd B g p b0 (l ++ m) w1) (hR : Rd w1 p s (j + n) L) (hb : ButB B p w w1) : BrI B g p b0 s L P q' (l ++ m) (j + n) w1 :=
  ⟨hQ, hR, by have := h.len; rw [List.length_append]; omega, hle, fun e w' ho => h.go e w' (ho.step hb hm)⟩
theorem BrI.drewN {B g p b0 : Nat} {s : ByteArray} {L : Tok} {P : Ending → World → Prop} {q : Nat} {l : List UInt8} {j : Nat} {w : World} (h : BrI B g p b0 s L P q l j w) (hp : p < B) (n : Nat) : BrI B g p b0 s L P q l j (w.drewN n) :=
  ⟨h.qd.keep (But.of (p := p) (drewN_below w n)) hp, h.rd.drewN n, h.len, h.le, fun e w' ho => h.go e w' (by
    cases hx : brN q (s.data.toList.drop j) with
    | none => rw [hx] at ho; exact ⟨ho.1, ((ButB.refl B p w).drewN n).trans ho.2⟩
    | some r => rw [hx] at ho; exact ⟨ho.1, ho.2.1, ho.2.2.1, ((ButB.refl B p w).drewN n).trans ho.2.2.2⟩)⟩
theorem esc_len (d : UInt8) : (escN d).length ≤ 2 := by unfold escN; split <;> simp
theorem feed_or (l : List UInt8) : (l = [] ∨ ∃ c r, l = c :: r ∧ c.toNat = 10) ∨ ∃ c r, l = c :: r ∧ c.toNat ≠ 10 := by
  cases l with
  | nil => exact Or.inl (Or.inl rfl)
  | cons c r =>
    by_cases h : c.toNat = 10
    · exact Or.inl (Or.inr ⟨c, r, rfl, h⟩)
    · exact Or.inr ⟨c, r, rfl, h⟩

set_option maxRecDepth 100000 in
set_option maxHeartbeats 1000000 in
theorem br_walk (B g p b0 : Nat) (l : List UInt8) (s : ByteArray) (k : Nat) (L : Tok) (w : World) (P : Ending → World → Prop) (hI : BrI B g p b0 s L P 1 l k w) (hp : p < B) (hs : s.size ≤ 8000) :
    Calls Try.prog 47 #[.pointer (some ⟨g, 0, none⟩)] w P := by
  have HL := Lib.hid (fun j w h (hj : j ≤ s.size) => left_spec p s j L w h hj)
  have HH := Lib.hid (fun s c l h w => hp1_spec s c l h w)
  have HN := Lib.hid (fun l j c r w h1 h2 h3 h4 => next_go B g p b0 l s j L c r w h1 h2 hp h3 h4 hs)
  have HNB := Lib.hid (fun l j w h1 h2 h3 h4 => next_bad B g p b0 l s j L w h1 h2 h3 h4)
  have HPP := Lib.hid (fun l j c w h1 h2 h3 h4 => put_plain B g p b0 l s j L c w h1 h2 hp h3 h4)
  have HPE := Lib.hid (fun l j c d r w h1 h2 h3 h4 h5 h6 => put_esc B g p b0 l s j L c d r w h1 h2 hp h3 hs h4 h5 h6)
  have HPB := Lib.hid (fun l j c w h1 h2 h3 h4 h5 => put_bad B g p b0 l s j L c w h1 h2 h3 h4 h5)
  have HI := Lib.hid hI
  have c0 : w.cell? ⟨g, 0, none⟩ = some (.pointer (some ⟨p, 0, none⟩)) := by obtain ⟨_, _, _, h⟩ := hI.qd; exact h.c0
  clear hI
  go_enter Try.func47, Try.ntmps47
  go_wp2_with fail
  refine (HL.out k _ HI.out.rd HI.out.le).mono ?_
  rintro e w1 ⟨t, rfl, ht, hsz, n, rfl⟩
  go_wp2_with fail
  refine (HH.out t 94 _ ht.out _).mono ?_
  rintro e w1 ⟨rfl, rfl⟩
  have HI1 := Lib.hid (HI.out.drewN hp n)
  clear hsz c0
  go_upto_if 8 with (fail)
  go_cut [0] (fun a wx => a = .pointer (some ⟨g, 0, none⟩) ∧ ∃ l1 j1, Hid (BrI B g p b0 s L P 2 l1 j1 wx))
  case first =>
    cases h94 : headIs (s.data.toList.drop k) 94
    case false =>
      have I2 : Hid (BrI B g p b0 s L P 2 l k (w.drewN n)) := Lib.hid (by
        have h := HI1.out
        exact ⟨h.qd, h.rd, h.len, h.le, fun e w' ho => h.go e w' (by rw [br_12 h94]; exact ho)⟩)
      clear h94
      go_wp2_with fail
      go_meet
      exact ⟨rfl, l, k, I2⟩
    case true =>
      obtain ⟨r, hr⟩ := headIs_yes h94
      have HR := Lib.hid hr; clear hr h94
      go_wp2_with fail
      refine (HN.out l k 94 r _ HI1.out.qd HI1.out.rd HR.out (by decide)).mono ?_
      rintro e w1 ⟨rfl, Q1, R1, b1⟩
      have HQ1 := Lib.hid Q1; have HR1 := Lib.hid R1; have HB1 := Lib.hid (b1.toB HI1.out.qd.le)
      clear Q1 R1 b1
      have hlen := HI1.out.len
      have hle := HI1.out.le
      go_wp2_with fail
      refine (HPP.out l (k + 1) 94 _ HQ1.out HR1.out (by omega) (by decide)).mono ?_
      rintro e w2 ⟨rfl, Q2, R2, b2⟩
      have I2 : Hid (BrI B g p b0 s L P 2 (l ++ [94]) (k + 1) w2) := Lib.hid (HI1.out.step (q' := 2) (m := [94]) (n := 1) (by rw [HR.out, drop_tail HR.out]; exact br_on (by decide) (by decide) (by decide)) (by simp) (drop_lt HR.out) Q2 R2 (HB1.out.trans b2))
      clear Q2 R2 b2
      go_wp2_with fail
      go_meet
      exact ⟨rfl, _, _, I2⟩
  case rest =>
    clear HI HI1 ht
    obtain ⟨rfl, l1, j1, HI1⟩ := hcut
    have c0 : wc.cell? ⟨g, 0, none⟩ = some (.pointer (some ⟨p, 0, none⟩)) := by obtain ⟨_, _, _, h⟩ := HI1.out.qd; exact h.c0
    go_wp2_with fail
    refine (HL.out j1 _ HI1.out.rd HI1.out.le).mono ?_
    rintro e w1 ⟨t2, rfl, ht, hsz, n2, rfl⟩
    go_wp2_with fail
    refine (HH.out t2 93 _ ht.out _).mono ?_
    rintro e w1 ⟨rfl, rfl⟩
    have HI2 := Lib.hid (HI1.out.drewN hp n2)
    clear hsz c0
    go_upto_if 18 with (fail)
    go_cut [0] (fun a wx => a = .pointer (some ⟨g, 0, none⟩) ∧ ∃ l1 j1, Hid (BrI B g p b0 s L P 3 l1 j1 wx))
    case first =>
      cases h93 : headIs (s.data.toList.drop j1) 93
      case false =>
        have I2 : Hid (BrI B g p b0 s L P 3 l1 j1 (wc.drewN n2)) := Lib.hid (by
          have h := HI2.out
          exact ⟨h.qd, h.rd, h.len, h.le, fun e w' ho => h.go e w' (by rw [br_23 h93]; exact ho)⟩)
        clear h93
        go_wp2_with fail
        go_meet
        exact ⟨rfl, l1, j1, I2⟩
      case true =>
        obtain ⟨r, hr⟩ := headIs_yes h93
        have HR := Lib.hid hr; clear hr h93
        go_wp2_with fail
        refine (HN.out l1 j1 93 r _ HI2.out.qd HI2.out.rd HR.out (by decide)).mono ?_
        rintro e w1 ⟨rfl, Q1, R1, b1⟩
        have HQ1 := Lib.hid Q1; have HR1 := Lib.hid R1; have HB1 := Lib.hid (b1.toB HI2.out.qd.le)
        clear Q1 R1 b1
        have hlen := HI2.out.len
        have hle := HI2.out.le
        go_wp2_with fail
        refine (HPP.out l1 (j1 + 1) 93 _ HQ1.out HR1.out (by omega) (by decide)).mono ?_
        rintro e w2 ⟨rfl, Q2, R2, b2⟩
        have I2 : Hid (BrI B g p b0 s L P 3 (l1 ++ [93]) (j1 + 1) w2) := Lib.hid (HI2.out.step (q' := 3) (m := [93]) (n := 1) (by rw [HR.out, drop_tail HR.out]; exact br_on (by decide) (by decide) (by decide)) (by simp) (drop_lt HR.out) Q2 R2 (HB1.out.trans b2))
        clear Q2 R2 b2
        go_wp2_with fail
        go_meet
        exact ⟨rfl, _, _, I2⟩
    case rest =>
      clear HI1 HI2 ht
      obtain ⟨rfl, l2, j2, HI2⟩ := hcut
      go_wp2_with fail
      go_loopg [2] (s.size - j2) (fun q _ wr => ∃ (l' : List UInt8) (j : Nat), Hid (s.size - j = q) ∧ Hid (BrI B g p b0 s L P 3 l' j wr))
      case atStart => exact ⟨l2, j2, Lib.hid rfl, HI2⟩
      case round =>
        clear HI2
        obtain ⟨l', j, hq, hM⟩ := hrel
        have hlen := hM.out.len
        have hle := hM.out.le
        rcases feed_or (s.data.toList.drop j) with hf | ⟨c, r, hcr, hc10⟩
        · have HF := Lib.hid hf; clear hf
          go_wp2_with fail
          refine (HNB.out l' j _ hM.out.qd hM.out.rd hle HF.out).mono ?_
          rintro e w1 ⟨rfl, b1⟩
          have HE := Lib.hid (hM.out.fell (br_feed HF.out) ⟨rfl, b1.toB hM.out.qd.le⟩)
          clear b1
          go_wp2_with fail
          exact ⟨rfl, HE.out⟩
        · have HCR := Lib.hid hcr; clear hcr
          have hlt := drop_lt HCR.out
          go_wp2_with fail
          refine (HN.out l' j c r _ hM.out.qd hM.out.rd HCR.out hc10).mono ?_
          rintro e w1 ⟨rfl, Q1, R1, b1⟩
          have HQ1 := Lib.hid Q1; have HR1 := Lib.hid R1; have HB1 := Lib.hid (b1.toB hM.out.qd.le)
          clear Q1 R1 b1
          by_cases h92 : c.toNat = 92
          · have hb : ((c.toNat : Int) == 93) = false := by rw [h92]; rfl
            have H92 := Lib.hid h92; clear h92
            rcases feed_or r with hf | ⟨d, u, hdu, hd10⟩
            · have HF := Lib.hid hf; clear hf
              go_wp2_with fail
              refine (HPB.out l' (j + 1) c _ HQ1.out HR1.out hlt H92.out (by rw [drop_tail HCR.out]; exact HF.out)).mono ?_
              rintro e w2 ⟨rfl, b2⟩
              have HE := Lib.hid (hM.out.fell (by rw [HCR.out]; exact br_esc_bad H92.out HF.out) ⟨rfl, HB1.out.trans b2⟩)
              clear b2
              go_wp2_with fail
              exact ⟨rfl, HE.out⟩
            · have HDU := Lib.hid hdu; clear hdu
              have hd2 := Lib.hid ((drop_tail HCR.out).trans HDU.out)
              have hlt2 := drop_lt hd2.out
              go_wp2_with fail
              refine (HPE.out l' (j + 1) c d u _ HQ1.out HR1.out (by omega) H92.out hd2.out hd10).mono ?_
              rintro e w2 ⟨rfl, Q2, R2, b2⟩
              have I2 : Hid (BrI B g p b0 s L P 3 (l' ++ escN d) (j + 2) w2) := Lib.hid (hM.out.step (q' := 3) (m := escN d) (n := 2) (by rw [HCR.out, HDU.out, br_esc H92.out hd10]; have := drop_tail hd2.out; rw [this]) (esc_len d) (by omega) Q2 R2 (HB1.out.trans b2))
              clear Q2 R2 b2
              go_wp2_with fail
              go_roundg (s.size - (j + 2))
              case measure => have := hq.out; omega
              case rel => exact ⟨_, _, Lib.hid rfl, I2⟩
          · go_wp2_with fail
            refine (HPP.out l' (j + 1) c _ HQ1.out HR1.out (by omega) h92).mono ?_
            rintro e w2 ⟨rfl, Q2, R2, b2⟩
            by_cases h93 : c.toNat = 93
            · have HE := Lib.hid (hM.out.go _ w2 (by rw [HCR.out, br_end h93]; exact ⟨rfl, Q2, R2, HB1.out.trans b2⟩))
              clear Q2 R2 b2
              go_wp2_with fail
              refine bodyPost_ret (results_none rfl _ _ _) rfl ?_
              exact HE.out
            · have hb : ((c.toNat : Int) == 93) = false := by simp; omega
              have I2 : Hid (BrI B g p b0 s L P 3 (l' ++ [c]) (j + 1) w2) := Lib.hid (hM.out.step (q' := 3) (m := [c]) (n := 1) (by rw [HCR.out, drop_tail HCR.out]; exact br_on3 hc10 h92 h93) (by simp) hlt Q2 R2 (HB1.out.trans b2))
              clear Q2 R2 b2 h93
              go_wp2_with fail
              go_roundg (s.size - (j + 1))
              case measure => have := hq.out; omega
              case rel => exact ⟨_, _, Lib.hid rfl, I2⟩
end Go.Proofs.Ytejofdhpegcmjaa
