/- Merged by program: LexPa. -/
import Derived.Test.YtgdlpldngpoadaaGreatDoorSar
/- pattern: a walk. -/
namespace Go.Proofs.YtgdlpldngpoadaaGreatDoor
open Go.RowKit

theorem pa_feed {q : Nat} {l : List UInt8} (h : l = [] ∨ ∃ c r, l = c :: r ∧ c.toNat = 10) : patN q l = none := by
  rcases h with rfl | ⟨c, r, rfl, hc⟩
  · rfl
  · unfold patN; rw [if_pos hc]
theorem pa_end {c : UInt8} {r : List UInt8} (hc : c.toNat = 47) : patN 0 (c :: r) = some ([], 1) := by
  unfold patN; rw [if_neg (by omega), if_pos ⟨rfl, hc⟩]
theorem pa_esc_bad {q : Nat} {c : UInt8} {r : List UInt8} (hc : c.toNat = 92) (h : r = [] ∨ ∃ d u, r = d :: u ∧ d.toNat = 10) : patN q (c :: r) = none := by
  unfold patN
  rw [if_neg (by omega), if_neg (by omega), if_pos hc]
  rcases h with rfl | ⟨d, u, rfl, hd⟩
  · rfl
  · simp only []; rw [if_pos hd]
theorem pa_esc {q : Nat} {c d : UInt8} {u : List UInt8} (hc : c.toNat = 92) (hd : d.toNat ≠ 10) : patN q (c :: d :: u) = (patN (if q = 0 then 0 else 3) u).map fun r => (escN d ++ r.1, r.2 + 2) := by
  conv => lhs; unfold patN
  rw [if_neg (by omega), if_neg (by omega), if_pos hc]
  simp only []; rw [if_neg hd]
theorem pa_on {q : Nat} {c : UInt8} {r : List UInt8} (h1 : c.toNat ≠ 10) (h2 : ¬ (q = 0 ∧ c.toNat = 47)) (h3 : c.toNat ≠ 92) : patN q (c :: r) = (patN (nextQ q c) r).map fun x => ([c] ++ x.1, x.2 + 1) := by
  conv => lhs; unfold patN
  rw [if_neg h1, if_neg h2, if_neg h3]
  rfl
theorem pa_on0 {c : UInt8} {r : List UInt8} (h1 : c.toNat ≠ 10) (h2 : c.toNat ≠ 47) (h3 : c.toNat ≠ 92) (h4 : c.toNat ≠ 91) : patN 0 (c :: r) = (patN 0 r).map fun x => ([c] ++ x.1, x.2 + 1) := by
  rw [pa_on h1 (fun h => h2 h.2) h3, show nextQ 0 c = 0 by simp [nextQ, h4]]
theorem pa_br : ∀ (n : Nat) (l : List UInt8), l.length ≤ n → ∀ q, q = 1 ∨ q = 2 ∨ q = 3 → patN q l = (brN q l).bind fun r => (patN 0 (l.drop r.2)).map fun x => (r.1 ++ x.1, x.2 + r.2)
  | 0, l, hl, q, _ => by
    obtain rfl := List.eq_nil_of_length_eq_zero (Nat.le_zero.1 hl)
    rfl
  | n + 1, l, hl, q, hq => by
    cases l with
    | nil => rfl
    | cons c t =>
      by_cases h10 : c.toNat = 10
      · rw [pa_feed (Or.inr ⟨c, t, rfl, h10⟩), br_feed (Or.inr ⟨c, t, rfl, h10⟩)]; rfl
      by_cases h92 : c.toNat = 92
      · rcases feed_or t with hf | ⟨d, u, rfl, hd⟩
        · rw [pa_esc_bad h92 hf, br_esc_bad h92 hf]; rfl
        · rw [pa_esc h92 hd, br_esc h92 hd, if_neg (by omega), pa_br n u (by simp at hl; omega) 3 (Or.inr (Or.inr rfl))]
          cases brN 3 u with
          | none => rfl
          | some x =>
            simp only [Option.map_some, Option.bind_some]
            rw [show List.drop (x.2 + 2) (c :: d :: u) = List.drop x.2 u from rfl]
            cases patN 0 (List.drop x.2 u) <;> simp [Nat.add_assoc]
      by_cases he : q = 3 ∧ c.toNat = 93
      · obtain ⟨rfl, h93⟩ := he
        rw [pa_on h10 (by omega) h92, br_end h93, show nextQ 3 c = 0 by simp [nextQ, h93]]
        rfl
      · rw [pa_on h10 (by omega) h92, br_on h10 h92 he]
        have hq' : nextQ q c = 1 ∨ nextQ q c = 2 ∨ nextQ q c = 3 := by
          unfold nextQ
          rcases hq with rfl | rfl | rfl
          · by_cases h : c.toNat = 94 <;> simp [h]
          · simp
          · have : ¬ c.toNat = 93 := fun h => he ⟨rfl, h⟩
            simp [this]
        rw [pa_br n t (by simpa using hl) _ hq']
        cases brN (nextQ q c) t with
        | none => rfl
        | some x =>
          simp only [Option.map_some, Option.bind_some]
          rw [show List.drop (x.2 + 1) (c :: t) = List.drop x.2 t from rfl]
          cases patN 0 (List.drop x.2 t) <;> simp [Nat.add_assoc]

theorem br_len' : ∀ (f : Nat) (l : List UInt8), l.length ≤ f → ∀ (q : Nat) (m : List UInt8) (n : Nat), brN q l = some (m, n) → m.length ≤ n ∧ n ≤ l.length
  | 0, l, hl, q, m, n, h => by
    obtain rfl := List.eq_nil_of_length_eq_zero (Nat.le_zero.1 hl)
    exact absurd h (by simp [brN])
  | f + 1, l, hl, q, m, n, h => by
    cases l with
    | nil => exact absurd h (by simp [brN])
    | cons c t =>
      have hl' : t.length ≤ f := by simpa using hl
      by_cases h10 : c.toNat = 10
      · rw [br_feed (Or.inr ⟨c, t, rfl, h10⟩)] at h; exact absurd h (by simp)
      by_cases h92 : c.toNat = 92
      · rcases feed_or t with hf | ⟨d, u, rfl, hd⟩
        · rw [br_esc_bad h92 hf] at h; exact absurd h (by simp)
        · rw [br_esc h92 hd] at h
          cases hb : brN 3 u with
          | none => rw [hb] at h; exact absurd h (by simp)
          | some x =>
            rw [hb] at h
            have := br_len' f u (by simp at hl'; omega) 3 x.1 x.2 hb
            simp only [Option.map_some, Option.some.injEq, Prod.mk.injEq] at h
            have he := esc_len d
            obtain ⟨h1, h2⟩ := h
            subst h1 h2
            simp
            omega
      by_cases he : q = 3 ∧ c.toNat = 93
      · obtain ⟨rfl, h93⟩ := he
        rw [br_end h93] at h
        simp only [Option.some.injEq, Prod.mk.injEq] at h
        obtain ⟨h1, h2⟩ := h
        subst h1 h2
        simp
      · rw [br_on h10 h92 he] at h
        cases hb : brN (nextQ q c) t with
        | none => rw [hb] at h; exact absurd h (by simp)
        | some x =>
          rw [hb] at h
          have := br_len' f t hl' _ x.1 x.2 hb
          simp only [Option.map_some, Option.some.injEq, Prod.mk.injEq] at h
          obtain ⟨h1, h2⟩ := h
          subst h1 h2
          simp
          omega
theorem br_len {s : ByteArray} {j q : Nat} {r m : List UInt8} {n : Nat} (h : brN q r = some (m, n)) (hr : s.data.toList.drop (j + 1) = r) (hj : j < s.size) : m.length ≤ n ∧ j + 1 + n ≤ s.size := by
  have := br_len' _ r (Nat.le_refl _) q m n h
  rw [← hr, List.length_drop] at this
  have e : s.data.toList.length = s.size := (Lib.size_eq s).symm
  omega

set_option maxRecDepth 100000 in
set_option maxHeartbeats 1000000 in
theorem pattern_walk (p : Nat) (s : ByteArray) (k : Nat) (L : Tok) (w : World) (P : Ending → World → Prop) (hR : Rd w p s k L) (hk : k < s.size) (hs : s.size ≤ 8000)
    (hGo : ∀ e w', OutT w.heap.size p k [] s (k + 1) L (patN 0 (s.data.toList.drop (k + 1))) w e w' → P e w') :
    Calls Tryz.prog 163 #[.pointer (some ⟨p, 0, none⟩)] w P := by
  have HGo := Lib.hid hGo
  have hp := hR.lt
  have R := Lib.hid hR
  obtain ⟨B, hB⟩ : ∃ B, B = w.heap.size := ⟨_, rfl⟩
  have HO := Lib.hid (open_spec p s k L w hR (by omega) hs)
  have HN := Lib.hid (fun g l j c r w h1 h2 h3 h4 => next_go B g p k l s j L c r w h1 h2 (by omega) h3 h4 hs)
  have HNB := Lib.hid (fun g l j w h1 h2 h3 h4 => next_bad B g p k l s j L w h1 h2 h3 h4)
  have HPP := Lib.hid (fun g l j c w h1 h2 h3 h4 => put_plain B g p k l s j L c w h1 h2 (by omega) h3 h4)
  have HPE := Lib.hid (fun g l j c d r w h1 h2 h3 h4 h5 h6 => put_esc B g p k l s j L c d r w h1 h2 (by omega) h3 hs h4 h5 h6)
  have HPB := Lib.hid (fun g l j c w h1 h2 h3 h4 h5 => put_bad B g p k l s j L c w h1 h2 h3 h4 h5)
  have HBr := Lib.hid (fun g l j w h => br_walk B g p k l s j L w (OutQ B g p k l s j L (brN 1 (s.data.toList.drop j)) w) h (by omega) hs)
  have HSt := Lib.hid (fun g l w h1 => qstring B g p k l w h1)
  rw [← hB] at HGo
  have HpB : Hid (p < B ∧ B = w.heap.size) := Lib.hid ⟨by omega, hB⟩
  clear hGo hR
  go_enter Tryz.func163, Tryz.ntmps163
  go_wp2_with fail
  refine HO.out.mono ?_
  rintro e w1 ⟨rfl, Q0, R0, b0, _⟩
  rw [← hB] at Q0 ⊢
  obtain ⟨g, hg⟩ : ∃ g, g = B := ⟨_, rfl⟩
  have HQ0 : Hid (Qd B g p k [] w1) := Lib.hid (by rw [hg]; exact Q0)
  have HR0 := Lib.hid R0
  have HB0 : Hid (ButB B p w w1) := Lib.hid (by rw [hB]; exact b0.toB (Nat.le_refl _))
  rw [← hg]
  clear Q0 R0 b0 hg hB
  have hdr : s.data.toList.drop k = s.data.toList[k]'(by simpa using hk) :: s.data.toList.drop (k + 1) := drop_at _
  rcases feed_or (s.data.toList.drop (k + 1)) with hf | ⟨c, r, hcr, hc10⟩
  · have HF := Lib.hid hf; clear hf hdr
    go_wp2_with fail
    refine (HNB.out g [] (k + 1) _ HQ0.out HR0.out hk HF.out).mono ?_
    rintro e w2 ⟨rfl, b1⟩
    have HE := Lib.hid (HGo.out _ w2 (by rw [pa_feed HF.out]; exact ⟨rfl, HB0.out.trans (b1.toB HQ0.out.le)⟩))
    clear b1
    go_wp2_with fail
    exact ⟨rfl, HE.out⟩
  · have HCR := Lib.hid hcr; clear hcr hdr
    go_wp2_with fail
    refine (HN.out g [] (k + 1) c r _ HQ0.out HR0.out HCR.out hc10).mono ?_
    rintro e w2 ⟨rfl, Q1, R1, b1⟩
    have I1 : Hid (TxI B g p k s L P (patN 0) [] (k + 1) c r w2) := Lib.hid ⟨Q1, R1, Nat.zero_le _, HCR.out, hc10, fun e w' ho => HGo.out e w' (by
      rw [HCR.out]
      exact OutT.step (m := []) (n := 0) (HB0.out.trans (b1.toB HQ0.out.le)) (by cases patN 0 (c :: r) <;> rfl) ho)⟩
    clear Q1 R1 b1
    go_wp2_with fail
    go_loopg [4] (s.size - (k + 1)) (fun q x wr => ∃ (l' : List UInt8) (j : Nat) (c : UInt8) (r : List UInt8), x = .int .u8 c.toNat ∧ Hid (s.size - j = q) ∧ Hid (TxI B g p k s L P (patN 0) l' j c r wr))
    case atStart => exact ⟨[], k + 1, c, r, rfl, Lib.hid rfl, I1⟩
    case round =>
      clear I1 HCR hc10
      obtain ⟨l', j, c, r, rfl, hq, hM⟩ := hrel
      have hlen := hM.out.len
      have hlt := hM.out.lt
      have hpB := HpB.out.1
      have hr1 := Lib.hid (drop_tail hM.out.hd)
      by_cases h47 : c.toNat = 47
      · have H47 := Lib.hid h47
        have hb : ((c.toNat : Int) != 47) = false := by rw [h47]; rfl
        clear h47
        go_wp2_with fail
        refine (HSt.out g l' _ hM.out.qd).mono ?_
        rintro e w3 ⟨t, rfl, ht, b3⟩
        have HE := Lib.hid (hM.out.go _ w3 (by rw [pa_end H47.out]; exact ⟨t, rfl, Lib.hid (by rw [ht.out]; simp), hM.out.rd.keep (b3.block p hpB), ButB.of b3⟩))
        clear b3
        go_wp2_with fail
        exact HE.out
      · have hb : ((c.toNat : Int) != 47) = true := by simp; omega
        by_cases h92 : c.toNat = 92
        · have hb91 : ((c.toNat : Int) == 91) = false := by rw [h92]; rfl
          have H92 := Lib.hid h92; clear h92
          rcases feed_or r with hf | ⟨d, u, hdu, hd10⟩
          · have HF := Lib.hid hf; clear hf
            go_wp2_with fail
            refine (HPB.out g l' (j + 1) c _ hM.out.qd hM.out.rd hlt H92.out (by rw [hr1.out]; exact HF.out)).mono ?_
            rintro e w3 ⟨rfl, b3⟩
            have HE := Lib.hid (hM.out.fell (pa_esc_bad H92.out HF.out) ⟨rfl, b3⟩)
            clear b3
            go_wp2_with fail
            exact ⟨rfl, HE.out⟩
          · have HDU := Lib.hid hdu; clear hdu
            have hd2 := Lib.hid (hr1.out.trans HDU.out)
            have hlt2 := drop_lt hd2.out
            have hu := Lib.hid (drop_tail hd2.out)
            go_wp2_with fail
            refine (HPE.out g l' (j + 1) c d u _ hM.out.qd hM.out.rd (by omega) H92.out hd2.out hd10).mono ?_
            rintro e w3 ⟨rfl, Q3, R3, b3⟩
            have HM5 : Hid (Qd B g p k (l' ++ escN d) w3 ∧ Rd w3 p s (j + 2) L ∧ ButB B p wr w3) := Lib.hid ⟨Q3, R3, b3⟩
            clear Q3 R3 b3
            rcases feed_or u with hf | ⟨c2, r2, hcr2, hc210⟩
            · have HF := Lib.hid hf; clear hf
              go_wp2_with fail
              refine (HNB.out g _ (j + 2) _ HM5.out.1 HM5.out.2.1 hlt2 (by rw [hu.out]; exact HF.out)).mono ?_
              rintro e w6 ⟨rfl, b6⟩
              have HE := Lib.hid (hM.out.fell (by rw [HDU.out, pa_esc H92.out hd10, pa_feed HF.out]; rfl) ⟨rfl, HM5.out.2.2.trans (b6.toB HM5.out.1.le)⟩)
              clear b6
              go_wp2_with fail
              exact ⟨rfl, HE.out⟩
            · have HC2 := Lib.hid hcr2; clear hcr2
              go_wp2_with fail
              refine (HN.out g _ (j + 2) c2 r2 _ HM5.out.1 HM5.out.2.1 (hu.out.trans HC2.out) hc210).mono ?_
              rintro e w6 ⟨rfl, Q6, R6, b6⟩
              have I2 : Hid (TxI B g p k s L P (patN 0) (l' ++ escN d) (j + 2) c2 r2 w6) := Lib.hid (hM.out.step (by rw [HDU.out, pa_esc H92.out hd10, HC2.out]; rfl) (esc_len d) (hu.out.trans HC2.out) hc210 Q6 R6 (HM5.out.2.2.trans (b6.toB HM5.out.1.le)))
              clear Q6 R6 b6
              have hlt3 := I2.out.lt
              go_wp2_with fail
              go_roundg (s.size - (j + 2))
              case measure => have := hq.out; omega
              case rel => exact ⟨_, _, _, _, rfl, Lib.hid rfl, I2⟩
        · have h92' := h92
          clear h92
          have h47' := h47
          clear h47
          by_cases h91 : c.toNat = 91
          · have hb91 : ((c.toNat : Int) == 91) = true := by rw [h91]; rfl
            have H91 := Lib.hid h91; clear h91
            have HPN : Hid (patN 0 (c :: r) = (patN 1 r).map fun x => ([c] ++ x.1, x.2 + 1)) := Lib.hid (by rw [pa_on hM.out.nf (fun h => h47' h.2) h92', show nextQ 0 c = 1 by simp [nextQ, H91.out]])
            go_wp2_with fail
            refine (HPP.out g l' (j + 1) c _ hM.out.qd hM.out.rd (by omega) h92').mono ?_
            rintro e w3 ⟨rfl, Q3, R3, b3⟩
            have HM3 : Hid (Qd B g p k (l' ++ [c]) w3 ∧ Rd w3 p s (j + 1) L ∧ ButB B p wr w3) := Lib.hid ⟨Q3, R3, b3⟩
            clear Q3 R3 b3
            go_wp2_with fail
            refine (HBr.out g (l' ++ [c]) (j + 1) _ ⟨HM3.out.1, HM3.out.2.1, by simp; omega, hlt, fun _ _ h => h⟩).mono ?_
            intro e w4 ho
            rw [hr1.out] at ho
            have hpb := pa_br _ r (Nat.le_refl _) 1 (Or.inl rfl)
            have HPB2 := Lib.hid hpb
            clear hpb
            cases hbr : brN 1 r with
            | none =>
              rw [hbr] at ho
              obtain ⟨rfl, b4⟩ := ho
              have HBR := Lib.hid hbr; clear hbr
              have HE := Lib.hid (hM.out.fell (by rw [HPN.out, HPB2.out, HBR.out]; rfl) ⟨rfl, HM3.out.2.2.trans b4⟩)
              clear b4
              go_wp2_with fail
              exact ⟨rfl, HE.out⟩
            | some x =>
              rw [hbr] at ho
              obtain ⟨rfl, Q4, R4, b4⟩ := ho
              have HBR := Lib.hid hbr; clear hbr
              obtain ⟨m, n⟩ := x
              have HM5 : Hid (Qd B g p k (l' ++ [c] ++ m) w4 ∧ Rd w4 p s (j + 1 + n) L ∧ ButB B p wr w4) := Lib.hid ⟨Q4, R4, HM3.out.2.2.trans b4⟩
              clear Q4 R4 b4
              have hu : Hid (s.data.toList.drop (j + 1 + n) = r.drop n) := Lib.hid (by rw [← List.drop_drop, hr1.out])
              have hPP : Hid (patN 0 (c :: r) = (patN 0 (r.drop n)).map fun x => (([c] ++ m) ++ x.1, x.2 + (1 + n))) := Lib.hid (by
                rw [HPN.out, HPB2.out, HBR.out]
                simp only [Option.bind_some]
                cases patN 0 (List.drop n r) <;> simp <;> omega)
              have hmn : Hid (m.length ≤ n ∧ j + 1 + n ≤ s.size) := Lib.hid (br_len HBR.out hr1.out hlt)
              obtain ⟨hmn1, hle2⟩ := hmn.out
              clear HPN HPB2 HBR
              rcases feed_or (r.drop n) with hf | ⟨c2, r2, hcr2, hc210⟩
              · have HF := Lib.hid hf; clear hf
                go_wp2_with fail
                refine (HNB.out g _ (j + 1 + n) _ HM5.out.1 HM5.out.2.1 hle2 (by rw [hu.out]; exact HF.out)).mono ?_
                rintro e w6 ⟨rfl, b6⟩
                have HE := Lib.hid (hM.out.fell (by rw [hPP.out, pa_feed HF.out]; rfl) ⟨rfl, HM5.out.2.2.trans (b6.toB HM5.out.1.le)⟩)
                clear b6
                go_wp2_with fail
                exact ⟨rfl, HE.out⟩
              · have HC2 := Lib.hid hcr2; clear hcr2
                go_wp2_with fail
                refine (HN.out g _ (j + 1 + n) c2 r2 _ HM5.out.1 HM5.out.2.1 (hu.out.trans HC2.out) hc210).mono ?_
                rintro e w6 ⟨rfl, Q6, R6, b6⟩
                have I2 : Hid (TxI B g p k s L P (patN 0) (l' ++ ([c] ++ m)) (j + (1 + n)) c2 r2 w6) := Lib.hid (hM.out.step (by rw [hPP.out, HC2.out]) (by simp; omega) (by rw [← Nat.add_assoc]; exact hu.out.trans HC2.out) hc210 (by rw [← List.append_assoc]; exact Q6) (by rw [← Nat.add_assoc]; exact R6) (HM5.out.2.2.trans (b6.toB HM5.out.1.le)))
                clear Q6 R6 b6
                have hlt3 := I2.out.lt
                go_wp2_with fail
                go_roundg (s.size - (j + (1 + n)))
                case measure => have := hq.out; omega
                case rel => exact ⟨_, _, _, _, rfl, Lib.hid rfl, I2⟩
          · have hb91 : ((c.toNat : Int) == 91) = false := by simp; omega
            have h91' := h91
            clear h91
            go_wp2_with fail
            refine (HPP.out g l' (j + 1) c _ hM.out.qd hM.out.rd (by omega) h92').mono ?_
            rintro e w3 ⟨rfl, Q3, R3, b3⟩
            have HM3 : Hid (Qd B g p k (l' ++ [c]) w3 ∧ Rd w3 p s (j + 1) L ∧ ButB B p wr w3) := Lib.hid ⟨Q3, R3, b3⟩
            clear Q3 R3 b3
            rcases feed_or r with hf | ⟨c2, r2, hcr2, hc210⟩
            · have HF := Lib.hid hf; clear hf
              go_wp2_with fail
              refine (HNB.out g _ (j + 1) _ HM3.out.1 HM3.out.2.1 hlt (by rw [hr1.out]; exact HF.out)).mono ?_
              rintro e w6 ⟨rfl, b6⟩
              have HE := Lib.hid (hM.out.fell (by rw [pa_on0 hM.out.nf h47' h92' h91', pa_feed HF.out]; rfl) ⟨rfl, HM3.out.2.2.trans (b6.toB HM3.out.1.le)⟩)
              clear b6
              go_wp2_with fail
              exact ⟨rfl, HE.out⟩
            · have HC2 := Lib.hid hcr2; clear hcr2
              go_wp2_with fail
              refine (HN.out g _ (j + 1) c2 r2 _ HM3.out.1 HM3.out.2.1 (hr1.out.trans HC2.out) hc210).mono ?_
              rintro e w6 ⟨rfl, Q6, R6, b6⟩
              have I2 : Hid (TxI B g p k s L P (patN 0) (l' ++ [c]) (j + 1) c2 r2 w6) := Lib.hid (hM.out.step (by rw [pa_on0 hM.out.nf h47' h92' h91', HC2.out]) (by simp) (hr1.out.trans HC2.out) hc210 Q6 R6 (HM3.out.2.2.trans (b6.toB HM3.out.1.le)))
              clear Q6 R6 b6
              have hlt3 := I2.out.lt
              go_wp2_with fail
              go_roundg (s.size - (j + 1))
              case measure => have := hq.out; omega
              case rel => exact ⟨_, _, _, _, rfl, Lib.hid rfl, I2⟩

theorem pattern_spec (p : Nat) (s : ByteArray) (k : Nat) (L : Tok) (w : World) (hR : Rd w p s k L) (hk : k < s.size) (hs : s.size ≤ 8000) :
    Calls Tryz.prog 163 #[.pointer (some ⟨p, 0, none⟩)] w (QuoteAt p s k L (patN 0 (s.data.toList.drop (k + 1))) w) :=
  pattern_walk p s k L w _ hR hk hs fun _ _ h => h.quote
end Go.Proofs.YtgdlpldngpoadaaGreatDoor
