/- Merged by program: LexBr, LexO. -/
import Derived.Test.YtgdlpldngpoadaaGreatDoorSao
/- bracket: a walk. -/
namespace Go.Proofs.YtgdlpldngpoadaaGreatDoor
open Go.RowKit

theorem hp_spec (s p : ByteArray) (b : Bool) (h : Lib.hasPrefix s.data.toList p.data.toList = b) (w : World) :
    Calls Tryz.prog 105 #[.string s, .string p] w fun e w' => e = .returned (.bool b) ∧ w' = w := by
  rw [← h]; exact Tryz.strings_HasPrefix s p w
def headIs (l : List UInt8) (c : UInt8) : Bool := match l with | [] => false | d :: _ => c == d
theorem hp_one (l : List UInt8) (c : UInt8) : Lib.hasPrefix l [c] = headIs l c := by
  cases l with
  | nil => rfl
  | cons d r =>
    show (c == d && _) = (c == d)
    simp [List.isPrefixOf]
theorem headIs_yes {l : List UInt8} {c : UInt8} (h : headIs l c = true) : ∃ r, l = c :: r := by
  cases l with
  | nil => exact absurd h (by simp [headIs])
  | cons d r =>
    have : c = d := by simpa [headIs] using h
    exact ⟨r, by rw [this]⟩
theorem hp1_spec (s : ByteArray) (c : UInt8) (l : List UInt8) (hl : s.data.toList = l) (w : World) :
    Calls Tryz.prog 105 #[.string s, .string ⟨#[c]⟩] w fun e w' => e = .returned (.bool (headIs l c)) ∧ w' = w :=
  hp_spec s ⟨#[c]⟩ _ (by subst hl; exact hp_one _ _) w

theorem u8_eq {c : UInt8} {n : Nat} (d : UInt8) (h : c.toNat = n) (hd : d.toNat = n) : c = d := UInt8.toNat.inj (by rw [h, hd])

theorem br_feed {q : Nat} {l : List UInt8} (h : l = [] ∨ ∃ c r, l = c :: r ∧ c.toNat = 10) : brN q l = none := by
  rcases h with rfl | ⟨c, r, rfl, hc⟩
  · rfl
  · unfold brN; rw [if_pos hc]
theorem br_esc_bad {q : Nat} {c : UInt8} {r : List UInt8} (hc : c.toNat = 92) (h : r = [] ∨ ∃ d u, r = d :: u ∧ d.toNat = 10) : brN q (c :: r) = none := by
  unfold brN
  rw [if_neg (by omega), if_pos hc]
  rcases h with rfl | ⟨d, u, rfl, hd⟩
  · rfl
  · simp only []; rw [if_pos hd]
theorem br_esc {q : Nat} {c d : UInt8} {u : List UInt8} (hc : c.toNat = 92) (hd : d.toNat ≠ 10) : brN q (c :: d :: u) = (brN 3 u).map fun r => (escN d ++ r.1, r.2 + 2) := by
  conv => lhs; unfold brN
  rw [if_neg (by omega), if_pos hc]
  simp only []; rw [if_neg hd]
theorem br_end {c : UInt8} {r : List UInt8} (hc : c.toNat = 93) : brN 3 (c :: r) = some ([c], 1) := by
  unfold brN
  rw [if_neg (by omega), if_neg (by omega), if_pos ⟨rfl, hc⟩]
theorem br_on {q : Nat} {c : UInt8} {r : List UInt8} (h1 : c.toNat ≠ 10) (h2 : c.toNat ≠ 92) (h3 : ¬ (q = 3 ∧ c.toNat = 93)) : brN q (c :: r) = (brN (nextQ q c) r).map fun x => ([c] ++ x.1, x.2 + 1) := by
  conv => lhs; unfold brN
  rw [if_neg h1, if_neg h2, if_neg h3]
  rfl
theorem br_on3 {c : UInt8} {r : List UInt8} (h1 : c.toNat ≠ 10) (h2 : c.toNat ≠ 92) (h3 : c.toNat ≠ 93) : brN 3 (c :: r) = (brN 3 r).map fun x => ([c] ++ x.1, x.2 + 1) := by
  rw [br_on h1 h2 (fun h => h3 h.2), show nextQ 3 c = 3 by simp [nextQ, h3]]
theorem br_12 {l : List UInt8} (h : headIs l 94 = false) : brN 1 l = brN 2 l := by
  cases l with
  | nil => rfl
  | cons c r =>
    have h94 : c.toNat ≠ 94 := fun e => by
      have := u8_eq 94 e rfl
      subst this
      simp [headIs] at h
    unfold brN nextQ
    simp [h94]
theorem br_23 {l : List UInt8} (h : headIs l 93 = false) : brN 2 l = brN 3 l := by
  cases l with
  | nil => rfl
  | cons c r =>
    have h93 : c.toNat ≠ 93 := fun e => by
      have := u8_eq 93 e rfl
      subst this
      simp [headIs] at h
    unfold brN nextQ
    simp [h93]

/-- Where the reading of a bracket stands. -/
structure BrI (B g p b0 : Nat) (s : ByteArray) (L : Tok) (P : Ending → World → Prop) (q : Nat) (l : List UInt8) (j : Nat) (w : World) : Prop where
  qd : Qd B g p b0 l w
  rd : Rd w p s j L
  len : l.length ≤ j
  le : j ≤ s.size
  go : ∀ e w', OutQ B g p b0 l s j L (brN q (s.data.toList.drop j)) w e w' → P e w'

theorem BrI.fell {B g p b0 : Nat} {s : ByteArray} {L : Tok} {P : Ending → World → Prop} {q : Nat} {l : List UInt8} {j : Nat} {w : World} (h : BrI B g p b0 s L P q l j w) (hn : brN q (s.data.toList.drop j) = none) {e : Ending} {w' : World} (he : FellB B p b0 3 w e w') : P e w' :=
  h.go e w' (by rw [hn]; exact he)
theorem BrI.step {B g p b0 : Nat} {s : ByteArray} {L : Tok} {P : Ending → World → Prop} {q q' : Nat} {l m : List UInt8} {j n : Nat} {w w1 : World} (h : BrI B g p b0 s L P q l j w) (hm : brN q (s.data.toList.drop j) = (brN q' (s.data.toList.drop (j + n))).map fun r => (m ++ r.1, r.2 + n)) (hmn : m.length ≤ n) (hle : j + n ≤ s.size)
    (hQ : Qd B g p b0 (l ++ m) w1) (hR : Rd w1 p s (j + n) L) (hb : ButB B p w w1) : BrI B g p b0 s L P q' (l ++ m) (j + n) w1 :=
  ⟨hQ, hR, by have := h.len; rw [List.length_append]; omega, hle, fun e w' ho => h.go e w' (ho.step hb hm)⟩
theorem BrI.drewN {B g p b0 : Nat} {s : ByteArray} {L : Tok} {P : Ending → World → Prop} {q : Nat} {l : List UInt8} {j : Nat} {w : World} (h : BrI B g p b0 s L P q l j w) (hp : p < B) (n : Nat) : BrI B g p b0 s L P q l j (w.drewN n) :=
  ⟨h.qd.keep (But.of (p := p) (drewN_below w n)) hp, h.rd.drewN n, h.len, h.le, fun e w' ho => h.go e w' (by
    cases hx : brN q (s.data.toList.drop j) with
    | none => rw [hx] at ho; exact ⟨ho.1, ((ButB.refl B p w).drewN n).trans ho.2⟩
    | some r => rw [hx] at ho; exact ⟨ho.1, ho.2.1, ho.2.2.1, ((ButB.refl B p w).drewN n).trans ho.2.2.2⟩)⟩
theorem esc_len (d : UInt8) : (escN d).length ≤ 2 := by unfold escN; split <;> simp
theorem feed_or (l : List UInt8) : (l = [] ∨ ∃ c r, l = c :: r ∧ c.toNat = 10) ∨ ∃ c r, l = c :: r ∧ c.toNat ≠ 10 := by
  cases l with
  | nil => exact Or.inl (Or.inl rfl)
  | cons c r =>
    by_cases h : c.toNat = 10
    · exact Or.inl (Or.inr ⟨c, r, rfl, h⟩)
    · exact Or.inr ⟨c, r, rfl, h⟩

set_option maxRecDepth 100000 in
set_option maxHeartbeats 1000000 in
theorem br_walk (B g p b0 : Nat) (l : List UInt8) (s : ByteArray) (k : Nat) (L : Tok) (w : World) (P : Ending → World → Prop) (hI : BrI B g p b0 s L P 1 l k w) (hp : p < B) (hs : s.size ≤ 8000) :
    Calls Tryz.prog 184 #[.pointer (some ⟨g, 0, none⟩)] w P := by
  have HL := Lib.hid (fun j w h (hj : j ≤ s.size) => left_spec p s j L w h hj)
  have HH := Lib.hid (fun s c l h w => hp1_spec s c l h w)
  have HN := Lib.hid (fun l j c r w h1 h2 h3 h4 => next_go B g p b0 l s j L c r w h1 h2 hp h3 h4 hs)
  have HNB := Lib.hid (fun l j w h1 h2 h3 h4 => next_bad B g p b0 l s j L w h1 h2 h3 h4)
  have HPP := Lib.hid (fun l j c w h1 h2 h3 h4 => put_plain B g p b0 l s j L c w h1 h2 hp h3 h4)
  have HPE := Lib.hid (fun l j c d r w h1 h2 h3 h4 h5 h6 => put_esc B g p b0 l s j L c d r w h1 h2 hp h3 hs h4 h5 h6)
  have HPB := Lib.hid (fun l j c w h1 h2 h3 h4 h5 => put_bad B g p b0 l s j L c w h1 h2 h3 h4 h5)
  have HI := Lib.hid hI
  have c0 : w.cell? ⟨g, 0, none⟩ = some (.pointer (some ⟨p, 0, none⟩)) := by obtain ⟨_, _, _, h⟩ := hI.qd; exact h.c0
  clear hI
  go_enter Tryz.func184, Tryz.ntmps184
  go_wp2_with fail
  refine (HL.out k _ HI.out.rd HI.out.le).mono ?_
  rintro e w1 ⟨t, rfl, ht, hsz, n, rfl⟩
  go_wp2_with fail
  refine (HH.out t 94 _ ht.out _).mono ?_
  rintro e w1 ⟨rfl, rfl⟩
  have HI1 := Lib.hid (HI.out.drewN hp n)
  clear hsz c0
  go_upto_if 8 with (fail)
  go_cut [0] (fun a wx => a = .pointer (some ⟨g, 0, none⟩) ∧ ∃ l1 j1, Hid (BrI B g p b0 s L P 2 l1 j1 wx))
  case first =>
    cases h94 : headIs (s.data.toList.drop k) 94
    case false =>
      have I2 : Hid (BrI B g p b0 s L P 2 l k (w.drewN n)) := Lib.hid (by
        have h := HI1.out
        exact ⟨h.qd, h.rd, h.len, h.le, fun e w' ho => h.go e w' (by rw [br_12 h94]; exact ho)⟩)
      clear h94
      go_wp2_with fail
      go_meet
      exact ⟨rfl, l, k, I2⟩
    case true =>
      obtain ⟨r, hr⟩ := headIs_yes h94
      have HR := Lib.hid hr; clear hr h94
      go_wp2_with fail
      refine (HN.out l k 94 r _ HI1.out.qd HI1.out.rd HR.out (by decide)).mono ?_
      rintro e w1 ⟨rfl, Q1, R1, b1⟩
      have HQ1 := Lib.hid Q1; have HR1 := Lib.hid R1; have HB1 := Lib.hid (b1.toB HI1.out.qd.le)
      clear Q1 R1 b1
      have hlen := HI1.out.len
      have hle := HI1.out.le
      go_wp2_with fail
      refine (HPP.out l (k + 1) 94 _ HQ1.out HR1.out (by omega) (by decide)).mono ?_
      rintro e w2 ⟨rfl, Q2, R2, b2⟩
      have I2 : Hid (BrI B g p b0 s L P 2 (l ++ [94]) (k + 1) w2) := Lib.hid (HI1.out.step (q' := 2) (m := [94]) (n := 1) (by rw [HR.out, drop_tail HR.out]; exact br_on (by decide) (by decide) (by decide)) (by simp) (drop_lt HR.out) Q2 R2 (HB1.out.trans b2))
      clear Q2 R2 b2
      go_wp2_with fail
      go_meet
      exact ⟨rfl, _, _, I2⟩
  case rest =>
    clear HI HI1 ht
    obtain ⟨rfl, l1, j1, HI1⟩ := hcut
    have c0 : wc.cell? ⟨g, 0, none⟩ = some (.pointer (some ⟨p, 0, none⟩)) := by obtain ⟨_, _, _, h⟩ := HI1.out.qd; exact h.c0
    go_wp2_with fail
    refine (HL.out j1 _ HI1.out.rd HI1.out.le).mono ?_
    rintro e w1 ⟨t2, rfl, ht, hsz, n2, rfl⟩
    go_wp2_with fail
    refine (HH.out t2 93 _ ht.out _).mono ?_
    rintro e w1 ⟨rfl, rfl⟩
    have HI2 := Lib.hid (HI1.out.drewN hp n2)
    clear hsz c0
    go_upto_if 18 with (fail)
    go_cut [0] (fun a wx => a = .pointer (some ⟨g, 0, none⟩) ∧ ∃ l1 j1, Hid (BrI B g p b0 s L P 3 l1 j1 wx))
    case first =>
      cases h93 : headIs (s.data.toList.drop j1) 93
      case false =>
        have I2 : Hid (BrI B g p b0 s L P 3 l1 j1 (wc.drewN n2)) := Lib.hid (by
          have h := HI2.out
          exact ⟨h.qd, h.rd, h.len, h.le, fun e w' ho => h.go e w' (by rw [br_23 h93]; exact ho)⟩)
        clear h93
        go_wp2_with fail
        go_meet
        exact ⟨rfl, l1, j1, I2⟩
      case true =>
        obtain ⟨r, hr⟩ := headIs_yes h93
        have HR := Lib.hid hr; clear hr h93
        go_wp2_with fail
        refine (HN.out l1 j1 93 r _ HI2.out.qd HI2.out.rd HR.out (by decide)).mono ?_
        rintro e w1 ⟨rfl, Q1, R1, b1⟩
        have HQ1 := Lib.hid Q1; have HR1 := Lib.hid R1; have HB1 := Lib.hid (b1.toB HI2.out.qd.le)
        clear Q1 R1 b1
        have hlen := HI2.out.len
        have hle := HI2.out.le
        go_wp2_with fail
        refine (HPP.out l1 (j1 + 1) 93 _ HQ1.out HR1.out (by omega) (by decide)).mono ?_
        rintro e w2 ⟨rfl, Q2, R2, b2⟩
        have I2 : Hid (BrI B g p b0 s L P 3 (l1 ++ [93]) (j1 + 1) w2) := Lib.hid (HI2.out.step (q' := 3) (m := [93]) (n := 1) (by rw [HR.out, drop_tail HR.out]; exact br_on (by decide) (by decide) (by decide)) (by simp) (drop_lt HR.out) Q2 R2 (HB1.out.trans b2))
        clear Q2 R2 b2
        go_wp2_with fail
        go_meet
        exact ⟨rfl, _, _, I2⟩
    case rest =>
      clear HI1 HI2 ht
      obtain ⟨rfl, l2, j2, HI2⟩ := hcut
      go_wp2_with fail
      go_loopg [2] (s.size - j2) (fun q _ wr => ∃ (l' : List UInt8) (j : Nat), Hid (s.size - j = q) ∧ Hid (BrI B g p b0 s L P 3 l' j wr))
      case atStart => exact ⟨l2, j2, Lib.hid rfl, HI2⟩
      case round =>
        clear HI2
        obtain ⟨l', j, hq, hM⟩ := hrel
        have hlen := hM.out.len
        have hle := hM.out.le
        rcases feed_or (s.data.toList.drop j) with hf | ⟨c, r, hcr, hc10⟩
        · have HF := Lib.hid hf; clear hf
          go_wp2_with fail
          refine (HNB.out l' j _ hM.out.qd hM.out.rd hle HF.out).mono ?_
          rintro e w1 ⟨rfl, b1⟩
          have HE := Lib.hid (hM.out.fell (br_feed HF.out) ⟨rfl, b1.toB hM.out.qd.le⟩)
          clear b1
          go_wp2_with fail
          exact ⟨rfl, HE.out⟩
        · have HCR := Lib.hid hcr; clear hcr
          have hlt := drop_lt HCR.out
          go_wp2_with fail
          refine (HN.out l' j c r _ hM.out.qd hM.out.rd HCR.out hc10).mono ?_
          rintro e w1 ⟨rfl, Q1, R1, b1⟩
          have HQ1 := Lib.hid Q1; have HR1 := Lib.hid R1; have HB1 := Lib.hid (b1.toB hM.out.qd.le)
          clear Q1 R1 b1
          by_cases h92 : c.toNat = 92
          · have hb : ((c.toNat : Int) == 93) = false := by rw [h92]; rfl
            have H92 := Lib.hid h92; clear h92
            rcases feed_or r with hf | ⟨d, u, hdu, hd10⟩
            · have HF := Lib.hid hf; clear hf
              go_wp2_with fail
              refine (HPB.out l' (j + 1) c _ HQ1.out HR1.out hlt H92.out (by rw [drop_tail HCR.out]; exact HF.out)).mono ?_
              rintro e w2 ⟨rfl, b2⟩
              have HE := Lib.hid (hM.out.fell (by rw [HCR.out]; exact br_esc_bad H92.out HF.out) ⟨rfl, HB1.out.trans b2⟩)
              clear b2
              go_wp2_with fail
              exact ⟨rfl, HE.out⟩
            · have HDU := Lib.hid hdu; clear hdu
              have hd2 := Lib.hid ((drop_tail HCR.out).trans HDU.out)
              have hlt2 := drop_lt hd2.out
              go_wp2_with fail
              refine (HPE.out l' (j + 1) c d u _ HQ1.out HR1.out (by omega) H92.out hd2.out hd10).mono ?_
              rintro e w2 ⟨rfl, Q2, R2, b2⟩
              have I2 : Hid (BrI B g p b0 s L P 3 (l' ++ escN d) (j + 2) w2) := Lib.hid (hM.out.step (q' := 3) (m := escN d) (n := 2) (by rw [HCR.out, HDU.out, br_esc H92.out hd10]; have := drop_tail hd2.out; rw [this]) (esc_len d) (by omega) Q2 R2 (HB1.out.trans b2))
              clear Q2 R2 b2
              go_wp2_with fail
              go_roundg (s.size - (j + 2))
              case measure => have := hq.out; omega
              case rel => exact ⟨_, _, Lib.hid rfl, I2⟩
          · go_wp2_with fail
            refine (HPP.out l' (j + 1) c _ HQ1.out HR1.out (by omega) h92).mono ?_
            rintro e w2 ⟨rfl, Q2, R2, b2⟩
            by_cases h93 : c.toNat = 93
            · have HE := Lib.hid (hM.out.go _ w2 (by rw [HCR.out, br_end h93]; exact ⟨rfl, Q2, R2, HB1.out.trans b2⟩))
              clear Q2 R2 b2
              go_wp2_with fail
              refine bodyPost_ret (results_none rfl _ _ _) rfl ?_
              exact HE.out
            · have hb : ((c.toNat : Int) == 93) = false := by simp; omega
              have I2 : Hid (BrI B g p b0 s L P 3 (l' ++ [c]) (j + 1) w2) := Lib.hid (hM.out.step (q' := 3) (m := [c]) (n := 1) (by rw [HCR.out, drop_tail HCR.out]; exact br_on3 hc10 h92 h93) (by simp) hlt Q2 R2 (HB1.out.trans b2))
              clear Q2 R2 b2 h93
              go_wp2_with fail
              go_roundg (s.size - (j + 1))
              case measure => have := hq.out; omega
              case rel => exact ⟨_, _, Lib.hid rfl, I2⟩
end Go.Proofs.YtgdlpldngpoadaaGreatDoor

/- isOperand, name, number: walks. -/
namespace Go.Proofs.YtgdlpldngpoadaaGreatDoor
open Go.RowKit

theorem head_iff {l : List UInt8} {c : UInt8} : l.head? = some c ↔ headIs l c = true := by
  cases l with
  | nil => simp [headIs]
  | cons d r =>
    constructor
    · intro h
      have h : d = c := Option.some.inj h
      rw [h]
      simp [headIs]
    · intro h
      have h : c = d := by simpa [headIs] using h
      rw [h]
      rfl

def tokC (t : Tok) : Array Value := #[.int .i64 t.K, .string t.S, .int .i64 t.A]
set_option maxRecDepth 100000 in
set_option maxHeartbeats 2000000 in
theorem operand_spec (K A : Int) (S : ByteArray) (w : World) : Calls Tryz.prog 162 #[.agg #[.int .i64 K, .string S, .int .i64 A]] w fun e w' => e = .returned (.bool (operandB ⟨K, S, A⟩)) ∧ Below w.heap.size w w' := by
  have b1 := Lib.hid (below_new w (.cells #[.int .i64 K, .string S, .int .i64 A] 68))
  by_cases h1 : K = 2 ∨ K = 3 ∨ K = 5 ∨ K = 8
  · have HB : Hid (operandB ⟨K, S, A⟩ = true) := Lib.hid (by unfold operandB; simp [h1])
    rcases h1 with rfl | rfl | rfl | rfl
    all_goals
      go_enter Tryz.func162, Tryz.ntmps162
      go_wp2_with fail
      go_ret
      exact ⟨by rw [HB.out]; rfl, b1.out⟩
  · have k2 : (K == 2) = false := by simp; omega
    have k3 : (K == 3) = false := by simp; omega
    have k5 : (K == 5) = false := by simp; omega
    have k8 : (K == 8) = false := by simp; omega
    by_cases h9 : K = 9
    · subst h9
      by_cases hS : S.toList ∈ endsOperand
      · have HB : Hid (operandB ⟨9, S, A⟩ = true) := Lib.hid (by unfold operandB; rw [← Lib.toList_data]; simp [hS])
        have h : S.toList = [41] ∨ S.toList = [93] ∨ S.toList = [43, 43] ∨ S.toList = [45, 45] ∨ S.toList = [36] := by simpa [endsOperand] using hS
        clear hS h1
        rcases h with h | h | h | h | h
        all_goals
          go_enter Tryz.func162, Tryz.ntmps162
          go_wp2_with fail
          go_ret
          exact ⟨by rw [HB.out]; rfl, b1.out⟩
      · have HB : Hid (operandB ⟨9, S, A⟩ = false) := Lib.hid (by unfold operandB; rw [← Lib.toList_data]; simp [hS])
        have h : (S.toList == [41]) = false ∧ (S.toList == [93]) = false ∧ (S.toList == [43, 43]) = false ∧ (S.toList == [45, 45]) = false ∧ (S.toList == [36]) = false := by simpa [endsOperand] using hS
        obtain ⟨e1, e2, e3, e4, e5⟩ := h
        clear hS h1
        go_enter Tryz.func162, Tryz.ntmps162
        go_wp2_with fail
        go_ret
        exact ⟨by rw [HB.out]; rfl, b1.out⟩
    · have k9 : (K == 9) = false := by simp; omega
      have HB : Hid (operandB ⟨K, S, A⟩ = false) := Lib.hid (by unfold operandB; simp [h9]; omega)
      clear h1 h9
      go_enter Tryz.func162, Tryz.ntmps162
      go_wp2_with fail
      go_ret
      exact ⟨by rw [HB.out]; rfl, b1.out⟩

/-- What reading a token's kind and text comes to. -/
def ReadAt (p : Nat) (s : ByteArray) (k : Nat) (L : Tok) (o : Rd1) (w : World) (e : Ending) (w' : World) : Prop := match o with
  | .bad x => Fell p k x w e w'
  | .got K S n => ∃ t : ByteArray, e = .returned (.tuple #[.int .i64 K, .string t]) ∧ Hid (t.data.toList = S) ∧ Rd w' p s (k + n) L ∧ But p w w'

set_option maxRecDepth 100000 in
set_option maxHeartbeats 1000000 in
theorem name_spec (p : Nat) (s : ByteArray) (k : Nat) (L : Tok) (w : World) (h : Rd w p s k L) (hk : k ≤ s.size) (hs : s.size ≤ 8000) :
    Calls Tryz.prog 158 #[.pointer (some ⟨p, 0, none⟩)] w (ReadAt p s k L (nameN (s.data.toList.drop k)) w) := by
  have HL := Lib.hid (fun j w h (hj : j ≤ s.size) => left_spec p s j L w h hj)
  have HRun := Lib.hid (fun t w h => run_nam t h w)
  have HT := Lib.hid (fun n w h hn => take_spec p s k n L w h hn hs)
  have HW := Lib.hid (fun t l hl w => word_spec t l hl w)
  have HO := Lib.hid (fun t l hl w => owns_spec t l hl w)
  have HH := Lib.hid (fun t c l hl w => hp1_spec t c l hl w)
  have R := Lib.hid h
  have c1 := h.c1
  have hlen : (s.data.toList.drop k).length = s.size - k := by rw [List.length_drop, ← Lib.size_eq]
  have hrn := runN_le namB (s.data.toList.drop k)
  rw [hlen] at hrn
  obtain ⟨l, hl⟩ : ∃ l, l = s.data.toList.drop k := ⟨_, rfl⟩
  rw [← hl] at hrn ⊢
  obtain ⟨n, hn⟩ : ∃ n, n = runN namB l := ⟨_, rfl⟩
  rw [← hn] at hrn
  have HN := Lib.hid hn
  have HLl := Lib.hid hl
  clear h hn hl hlen
  by_cases h40 : 40 < n
  · have HE : Hid (nameN l = .bad 2) := Lib.hid (by unfold nameN; rw [← HN.out, if_pos h40])
    go_enter Tryz.func158, Tryz.ntmps158
    go_wp2_with fail
    refine (HL.out k _ R.out hk).mono ?_
    rintro e w1 ⟨t, rfl, ht, hsz, m, rfl⟩
    have B1 := Lib.hid (drewN_below w m)
    have d1 : (w.drewN m).cell? ⟨p, 1, none⟩ = some (.int .i64 k) := by simpa using c1
    go_wp2_with fail
    refine (HRun.out t _ (by omega)).mono ?_
    rintro e w1 ⟨rfl, rfl⟩
    rw [ht.out, ← HLl.out, ← HN.out]
    clear hsz c1
    go_wp2_with fail
    rw [HE.out]
    exact ⟨rfl, rfl, But.of B1.out⟩
  · have HE : Hid (nameN l = .got (if wordB (l.take n) = true then 7 else if ownB (l.take n) = true then 8 else if (l.drop n).head? = some 40 then 6 else 5) (l.take n) n) := Lib.hid (by unfold nameN; rw [← HN.out, if_neg h40])
    go_enter Tryz.func158, Tryz.ntmps158
    go_wp2_with fail
    refine (HL.out k _ R.out hk).mono ?_
    rintro e w1 ⟨t, rfl, ht, hsz, m, rfl⟩
    have B1 := Lib.hid (But.of (p := p) (drewN_below w m))
    have R1 := Lib.hid (R.out.drewN m)
    go_wp2_with fail
    refine (HRun.out t _ (by omega)).mono ?_
    rintro e w1 ⟨rfl, rfl⟩
    rw [ht.out, ← HLl.out, ← HN.out]
    clear hsz c1
    go_wp2_with fail
    refine (HT.out n _ R1.out (by omega)).mono ?_
    rintro e w2 ⟨t2, rfl, ht2, hsz2, R2, b2⟩
    have HR2 := Lib.hid R2
    have HB2 := Lib.hid (B1.out.trans b2)
    have HT2 : Hid (t2.data.toList = l.take n) := Lib.hid (by rw [ht2.out, HLl.out])
    clear R2 b2 hsz2 ht2 ht
    cases hw : wordB (l.take n)
    case true =>
      rw [hw, if_pos rfl] at HE
      have HWd := Lib.hid hw; clear hw
      go_wp2_with fail
      refine (HW.out t2 _ HT2.out _).mono ?_
      rintro e w3 ⟨rfl, rfl⟩
      rw [HWd.out]
      go_wp2_with fail
      go_ret2
      rw [HE.out]
      exact ⟨t2, rfl, HT2, HR2.out, HB2.out⟩
    case false =>
      rw [hw, if_neg (by decide)] at HE
      have HWd := Lib.hid hw; clear hw
      cases ho : ownB (l.take n)
      case true =>
        rw [ho, if_pos rfl] at HE
        have HOd := Lib.hid ho; clear ho
        go_wp2_with fail
        refine (HW.out t2 _ HT2.out _).mono ?_
        rintro e w3 ⟨rfl, rfl⟩
        rw [HWd.out]
        go_wp2_with fail
        refine (HO.out t2 _ HT2.out _).mono ?_
        rintro e w3 ⟨rfl, rfl⟩
        rw [HOd.out]
        go_wp2_with fail
        go_ret2
        rw [HE.out]
        exact ⟨t2, rfl, HT2, HR2.out, HB2.out⟩
      case false =>
        rw [ho, if_neg (by decide)] at HE
        have HOd := Lib.hid ho; clear ho
        go_wp2_with fail
        refine (HW.out t2 _ HT2.out _).mono ?_
        rintro e w3 ⟨rfl, rfl⟩
        rw [HWd.out]
        go_wp2_with fail
        refine (HO.out t2 _ HT2.out _).mono ?_
        rintro e w3 ⟨rfl, rfl⟩
        rw [HOd.out]
        go_wp2_with fail
        refine (HL.out (k + n) _ HR2.out (by omega)).mono ?_
        rintro e w3 ⟨t3, rfl, ht3, hsz3, m3, rfl⟩
        have HR3 := Lib.hid (HR2.out.drewN m3)
        have HB3 := Lib.hid (HB2.out.trans (But.of (drewN_below _ m3)))
        have HT3 : Hid (t3.data.toList = l.drop n) := Lib.hid (by rw [ht3.out, HLl.out, List.drop_drop])
        clear ht3 hsz3
        cases hh : headIs (l.drop n) 40
        case true =>
          rw [if_pos (head_iff.2 hh)] at HE
          have HHd := Lib.hid hh; clear hh
          go_wp2_with fail
          refine (HH.out t3 40 _ HT3.out _).mono ?_
          rintro e w4 ⟨rfl, rfl⟩
          rw [HHd.out]
          go_wp2_with fail
          go_ret2
          rw [HE.out]
          exact ⟨t2, rfl, HT2, HR3.out, HB3.out⟩
        case false =>
          rw [if_neg (fun h => by rw [head_iff.1 h] at hh; exact absurd hh (by decide))] at HE
          have HHd := Lib.hid hh; clear hh
          go_wp2_with fail
          refine (HH.out t3 40 _ HT3.out _).mono ?_
          rintro e w4 ⟨rfl, rfl⟩
          rw [HHd.out]
          go_wp2_with fail
          go_ret2
          rw [HE.out]
          exact ⟨t2, rfl, HT2, HR3.out, HB3.out⟩
end Go.Proofs.YtgdlpldngpoadaaGreatDoor
