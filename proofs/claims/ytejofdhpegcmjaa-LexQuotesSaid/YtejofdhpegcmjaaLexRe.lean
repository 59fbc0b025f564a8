/- read: a walk. -/
import Derived.Test.YtejofdhpegcmjaaLexPs
import Derived.Test.YtejofdhpegcmjaaLexPa
namespace Go.Proofs.Ytejofdhpegcmjaa
open Go.RowKit

theorem at_one {t : ByteArray} {c d : UInt8} {r : List UInt8} (h : t.data.toList = c :: d :: r) : ∃ h1 : 1 < t.size, t[1] = d := by
  have hl : t.data.toList.length = t.size := by simp
  have h1 : 1 < t.size := by rw [← hl, h]; simp
  refine ⟨h1, ?_⟩
  have : t.data.toList[1]? = some t[1] := by rw [List.getElem?_eq_getElem (by omega)]; rfl
  rw [h] at this
  simpa using this.symm
def dotB (r : List UInt8) : Bool := match r with | [] => false | d :: _ => digB d
def signR (l : List UInt8) : Rd1 := if signN l = 0 then .bad 4 else .got 9 (l.take (signN l)) (signN l)
theorem rd_eq (c : UInt8) (r : List UInt8) (op : Bool) : readN (c :: r) op = if c.toNat = 10 then .got 1 [c] 1 else if letB c = true then nameN (c :: r)
    else if digB c = true ∨ (c.toNat = 46 ∧ dotB r = true) then .got 2 ((c :: r).take (numN (c :: r))) (numN (c :: r))
    else if c.toNat = 34 then quoteN 3 (textN r) else if c.toNat = 47 ∧ op = false then quoteN 4 (patN 0 r) else signR (c :: r) := by
  cases r <;> rfl
theorem rd_feed {c : UInt8} {r : List UInt8} {op : Bool} (h : c.toNat = 10) : readN (c :: r) op = .got 1 [c] 1 := by
  rw [rd_eq, if_pos h]
theorem rd_let {c : UInt8} {r : List UInt8} {op : Bool} (h : c.toNat ≠ 10) (hl : letB c = true) : readN (c :: r) op = nameN (c :: r) := by
  rw [rd_eq, if_neg h, if_pos hl]
theorem rd_num {c : UInt8} {r : List UInt8} {op : Bool} (h : c.toNat ≠ 10) (hl : letB c = false) (hd : digB c = true ∨ (c.toNat = 46 ∧ dotB r = true)) : readN (c :: r) op = .got 2 ((c :: r).take (numN (c :: r))) (numN (c :: r)) := by
  rw [rd_eq, if_neg h, if_neg (by rw [hl]; decide), if_pos hd]
theorem no_num {c : UInt8} {r : List UInt8} (hd : digB c = false) (h : ¬ (c.toNat = 46 ∧ dotB r = true)) : ¬ (digB c = true ∨ (c.toNat = 46 ∧ dotB r = true)) := by
  rintro (x | x)
  · rw [hd] at x; exact absurd x (by decide)
  · exact h x
theorem rd_str {c : UInt8} {r : List UInt8} {op : Bool} (hl : letB c = false) (hd : digB c = false) (h34 : c.toNat = 34) : readN (c :: r) op = quoteN 3 (textN r) := by
  rw [rd_eq, if_neg (by omega), if_neg (by rw [hl]; decide), if_neg (no_num hd (by omega)), if_pos h34]
theorem rd_pat {c : UInt8} {r : List UInt8} (hl : letB c = false) (hd : digB c = false) (h47 : c.toNat = 47) : readN (c :: r) false = quoteN 4 (patN 0 r) := by
  rw [rd_eq, if_neg (by omega), if_neg (by rw [hl]; decide), if_neg (no_num hd (by omega)), if_neg (by omega), if_pos ⟨h47, rfl⟩]
theorem rd_sign {c : UInt8} {r : List UInt8} {op : Bool} (h : c.toNat ≠ 10) (hl : letB c = false) (hd : digB c = false) (hdot : ¬ (c.toNat = 46 ∧ dotB r = true)) (h34 : c.toNat ≠ 34) (h47 : ¬ (c.toNat = 47 ∧ op = false)) : readN (c :: r) op = signR (c :: r) := by
  rw [rd_eq, if_neg h, if_neg (by rw [hl]; decide), if_neg (no_num hd hdot), if_neg h34, if_neg h47]

set_option maxRecDepth 100000 in
set_option maxHeartbeats 2000000 in
theorem read_spec (p : Nat) (s : ByteArray) (k : Nat) (L : Tok) (w : World) (h : Rd w p s k L) (hk : k ≤ s.size) (hs : s.size ≤ 8000) :
    Calls Try.prog 30 #[.pointer (some ⟨p, 0, none⟩)] w (ReadAt p s k L (readN (s.data.toList.drop k) (operandB L)) w) := by
  have HL := Lib.hid (fun j w h (hj : j ≤ s.size) => left_spec p s j L w h hj)
  have HT := Lib.hid (fun n w h hn => take_spec p s k n L w h hn hs)
  have HLt := Lib.hid (fun c b h w => letter_is c b h w)
  have HDg := Lib.hid (fun c b h w => digit_is c b h w)
  have HNm := Lib.hid (fun w h => name_spec p s k L w h hk hs)
  have HNu := Lib.hid (fun w h => number_spec p s k L w h hk hs)
  have HSg := Lib.hid (fun w h => sign_walk p s k L w h hk hs)
  have HTx := Lib.hid (fun w h hk => text_spec p s k L w h hk hs)
  have HPa := Lib.hid (fun w h hk => pattern_spec p s k L w h hk hs)
  have HOp := Lib.hid (fun w => operand_spec L.K L.A L.S w)
  have R := Lib.hid h
  clear h
  obtain ⟨l, hl⟩ : ∃ l, l = s.data.toList.drop k := ⟨_, rfl⟩
  have HLl := Lib.hid hl
  rw [← hl] at HNm HNu HSg ⊢
  clear hl
  cases l with
  | nil =>
    go_enter Try.func30, Try.ntmps30
    go_wp2_with fail
    refine (HL.out k _ R.out hk).mono ?_
    rintro e w1 ⟨t, rfl, ht, hsz, n, rfl⟩
    have B1 := Lib.hid (But.of (p := p) (drewN_below w n))
    have R1 := Lib.hid (R.out.drewN n)
    have ht0 : t.size = 0 := by rw [Lib.size_eq, ht.out, ← HLl.out]; rfl
    obtain ⟨e1, e2, e3⟩ := emp_of ht0
    clear ht0 hsz ht
    go_wp2_with fail
    go_ret2
    exact ⟨⟨#[]⟩, rfl, Lib.hid rfl, R1.out, B1.out⟩
  | cons c r =>
    have hlt := drop_lt HLl.out.symm
    have hr := Lib.hid (drop_tail HLl.out.symm)
    go_enter Try.func30, Try.ntmps30
    go_wp2_with fail
    refine (HL.out k _ R.out hk).mono ?_
    rintro e w1 ⟨t, rfl, ht, hsz, n, rfl⟩
    have B1 := Lib.hid (But.of (p := p) (drewN_below w n))
    have R1 := Lib.hid (R.out.drewN n)
    obtain ⟨V, hV⟩ : ∃ V, V = w.drewN n := ⟨_, rfl⟩
    rw [← hV] at R1 B1 ⊢
    clear hV R
    have HTL : Hid (t.data.toList = c :: r) := Lib.hid (by rw [ht.out, HLl.out])
    obtain ⟨h0, e0⟩ := head_of HTL.out
    subst e0
    obtain ⟨ne1, ne2⟩ := ne_of h0
    have hsz2 : t.size ≤ 8000 := by omega
    clear ht hsz
    by_cases h10 : t[0].toNat = 10
    · have HE := Lib.hid (rd_feed (r := r) (op := operandB L) h10)
      have HTk : Hid ((t[0] :: r).take 1 = [t[0]]) := Lib.hid rfl
      clear HLt HDg
      have h10b : ((t[0].toNat : Int) == 10) = true := by rw [h10]; rfl
      clear h10
      go_wp2_with fail
      refine (HT.out 1 _ R1.out hlt).mono ?_
      rintro e w2 ⟨t2, rfl, ht2, hsz3, R2, b2⟩
      have HB2 := Lib.hid (B1.out.trans b2)
      have HR2 := Lib.hid R2
      clear b2 R2 hsz3
      go_wp2_with fail
      go_ret2
      rw [HE.out]
      exact ⟨t2, rfl, Lib.hid (by rw [ht2.out, ← HLl.out, HTk.out]), HR2.out, HB2.out⟩
    have h10b : ((t[0].toNat : Int) == 10) = false := by simp; omega
    cases hlet : letB t[0]
    case true =>
      have HE := Lib.hid (rd_let (r := r) (op := operandB L) h10 hlet)
      have HLB := Lib.hid (fun w => HLt.out t[0] true hlet w)
      clear hlet h10
      go_wp2_with fail
      refine (HLB.out _).mono ?_
      rintro e w2 ⟨rfl, rfl⟩
      go_wp2_with fail
      refine (HNm.out _ R1.out).mono ?_
      intro e w3 ho
      cases hn : nameN (t[0] :: r) with
      | bad x =>
        rw [hn] at ho
        obtain ⟨rfl, b3⟩ := ho
        have HB3 := Lib.hid (B1.out.trans b3)
        have HNN := Lib.hid hn
        clear hn b3
        go_wp2_with fail
        rw [HE.out, HNN.out]
        exact ⟨rfl, rfl, HB3.out⟩
      | got K S m =>
        rw [hn] at ho
        obtain ⟨t2, rfl, ht2, R2, b3⟩ := ho
        have HB3 := Lib.hid (B1.out.trans b3)
        have HR2 := Lib.hid R2
        have HNN := Lib.hid hn
        clear hn b3 R2
        go_wp2_with fail
        go_ret2
        rw [HE.out, HNN.out]
        exact ⟨t2, rfl, ht2, HR2.out, HB3.out⟩
    case false =>
    have HLB := Lib.hid (fun w => HLt.out t[0] false hlet w)
    cases hdg : digB t[0]
    case true =>
      have HE := Lib.hid (rd_num (r := r) (op := operandB L) h10 hlet (Or.inl hdg))
      have HDB := Lib.hid (fun w => HDg.out t[0] true hdg w)
      clear hlet h10 hdg
      go_wp2_with fail
      refine (HLB.out _).mono ?_
      rintro e w2 ⟨rfl, rfl⟩
      go_wp2_with fail
      refine (HDB.out _).mono ?_
      rintro e w2 ⟨rfl, rfl⟩
      go_wp2_with fail
      refine (HNu.out _ R1.out).mono ?_
      rintro e w3 ⟨t2, rfl, ht2, hsz3, R2, b3⟩
      have HB3 := Lib.hid (B1.out.trans b3)
      have HR2 := Lib.hid R2
      clear b3 R2 hsz3
      go_wp2_with fail
      go_ret2
      rw [HE.out]
      exact ⟨t2, rfl, Lib.hid (by rw [ht2.out, ← HLl.out]), HR2.out, HB3.out⟩
    case false =>
    have HDB := Lib.hid (fun w => HDg.out t[0] false hdg w)
    by_cases hdot : t[0].toNat = 46 ∧ dotB r = true
    · have HE := Lib.hid (rd_num (r := r) (op := operandB L) h10 hlet (Or.inr hdot))
      obtain ⟨h46, hdt⟩ := hdot
      have h46b : ((t[0].toNat : Int) == 46) = true := by rw [h46]; rfl
      obtain ⟨d, u, rfl⟩ : ∃ d u, r = d :: u := by cases r with | nil => exact absurd hdt (by decide) | cons d u => exact ⟨d, u, rfl⟩
      obtain ⟨h1, e1⟩ := at_one HTL.out
      have HD1 := Lib.hid (fun w => HDg.out t[1] true (by rw [e1]; exact hdt) w)
      have h1b : decide ((1 : Int) < (t.size : Int)) = true := decide_eq_true (by omega)
      clear hlet h10 hdg hdt h46 e1
      go_wp2_with fail
      refine (HLB.out _).mono ?_
      rintro e w2 ⟨rfl, rfl⟩
      go_wp2_with fail
      refine (HDB.out _).mono ?_
      rintro e w2 ⟨rfl, rfl⟩
      go_wp2_with fail
      refine (HD1.out _).mono ?_
      rintro e w2 ⟨rfl, rfl⟩
      go_wp2_with fail
      refine (HNu.out _ R1.out).mono ?_
      rintro e w3 ⟨t2, rfl, ht2, hsz3, R2, b3⟩
      have HB3 := Lib.hid (B1.out.trans b3)
      have HR2 := Lib.hid R2
      clear b3 R2 hsz3
      go_wp2_with fail
      go_ret2
      rw [HE.out]
      exact ⟨t2, rfl, Lib.hid (by rw [ht2.out, ← HLl.out]), HR2.out, HB3.out⟩
    by_cases h34 : t[0].toNat = 34
    · have HE := Lib.hid (rd_str (r := r) (op := operandB L) hlet hdg h34)
      have h46b : ((t[0].toNat : Int) == 46) = false := by simp; omega
      have h34b : ((t[0].toNat : Int) == 34) = true := by rw [h34]; rfl
      clear hlet h10 hdg hdot h34
      go_wp2_with fail
      refine (HLB.out _).mono ?_
      rintro e w2 ⟨rfl, rfl⟩
      go_wp2_with fail
      refine (HDB.out _).mono ?_
      rintro e w2 ⟨rfl, rfl⟩
      go_wp2_with fail
      refine (HTx.out _ R1.out hlt).mono ?_
      intro e w3 ho
      rw [hr.out] at ho
      cases hn : textN r with
      | none =>
        rw [hn] at ho
        obtain ⟨rfl, b3⟩ := ho
        have HB3 := Lib.hid (B1.out.trans b3)
        have HNN := Lib.hid hn
        clear hn b3
        go_wp2_with fail
        rw [HE.out, HNN.out]
        exact ⟨rfl, rfl, HB3.out⟩
      | some x =>
        rw [hn] at ho
        obtain ⟨t2, rfl, ht2, R2, b3⟩ := ho
        have HB3 := Lib.hid (B1.out.trans b3)
        have HR2 : Hid (Rd w3 p s (k + (x.2 + 1)) L) := Lib.hid (by have e : k + (x.2 + 1) = k + 1 + x.2 := by omega
                                                                    rw [e]; exact R2)
        have HNN := Lib.hid hn
        clear hn b3 R2
        go_wp2_with fail
        go_ret2
        rw [HE.out, HNN.out]
        exact ⟨t2, rfl, ht2, HR2.out, HB3.out⟩
    have h34b : ((t[0].toNat : Int) == 34) = false := by simp; omega
    have c2 := R1.out.c2
    have c3 := R1.out.c3
    have c4 := R1.out.c4
    by_cases h47 : t[0].toNat = 47
    · have h47b : ((t[0].toNat : Int) == 47) = true := by rw [h47]; rfl
      have h46b : ((t[0].toNat : Int) == 46) = false := by simp; omega
      cases hop : operandB L
      case false =>
        have HE : Hid (readN (t[0] :: r) (operandB L) = quoteN 4 (patN 0 r)) := Lib.hid (by rw [hop]; exact rd_pat hlet hdg h47)
        have HOB : Hid (∀ w, Calls Try.prog 39 #[.agg #[.int .i64 L.K, .string L.S, .int .i64 L.A]] w fun e w' => e = .returned (.bool false) ∧ Below w.heap.size w w') := Lib.hid (fun w => by rw [← hop]; exact HOp.out w)
        clear hlet h10 hdg hdot h34 h47 hop
        go_wp2_with fail
        refine (HLB.out _).mono ?_
        rintro e w2 ⟨rfl, rfl⟩
        go_wp2_with fail
        refine (HDB.out _).mono ?_
        rintro e w2 ⟨rfl, rfl⟩
        go_wp2_with fail
        refine (HOB.out _).mono ?_
        rintro e w2 ⟨rfl, b2⟩
        have HR2 := Lib.hid (R1.out.after b2)
        have HB2 := Lib.hid (B1.out.trans (.of b2))
        clear b2 c2 c3 c4
        go_wp2_with fail
        refine (HPa.out _ HR2.out hlt).mono ?_
        intro e w3 ho
        rw [hr.out] at ho
        cases hn : patN 0 r with
        | none =>
          rw [hn] at ho
          obtain ⟨rfl, b3⟩ := ho
          have HB3 := Lib.hid (HB2.out.trans b3)
          have HNN := Lib.hid hn
          clear hn b3
          go_wp2_with fail
          rw [HE.out, HNN.out]
          exact ⟨rfl, rfl, HB3.out⟩
        | some x =>
          rw [hn] at ho
          obtain ⟨t2, rfl, ht2, R2, b3⟩ := ho
          have HB3 := Lib.hid (HB2.out.trans b3)
          have HR3 : Hid (Rd w3 p s (k + (x.2 + 1)) L) := Lib.hid (by have e : k + (x.2 + 1) = k + 1 + x.2 := by omega
                                                                      rw [e]; exact R2)
          have HNN := Lib.hid hn
          clear hn b3 R2
          go_wp2_with fail
          go_ret2
          rw [HE.out, HNN.out]
          exact ⟨t2, rfl, ht2, HR3.out, HB3.out⟩
      case true =>
        have HE := Lib.hid (rd_sign (r := r) (op := operandB L) h10 hlet hdg hdot h34 (by rw [hop]; simp))
        have HOB : Hid (∀ w, Calls Try.prog 39 #[.agg #[.int .i64 L.K, .string L.S, .int .i64 L.A]] w fun e w' => e = .returned (.bool true) ∧ Below w.heap.size w w') := Lib.hid (fun w => by rw [← hop]; exact HOp.out w)
        clear hlet h10 hdg hdot h34 h47 hop
        go_wp2_with fail
        refine (HLB.out _).mono ?_
        rintro e w2 ⟨rfl, rfl⟩
        go_wp2_with fail
        refine (HDB.out _).mono ?_
        rintro e w2 ⟨rfl, rfl⟩
        go_wp2_with fail
        refine (HOB.out _).mono ?_
        rintro e w2 ⟨rfl, b2⟩
        have HR2 := Lib.hid (R1.out.after b2)
        have HB2 := Lib.hid (B1.out.trans (.of b2))
        clear b2 c2 c3 c4
        go_wp2_with fail
        refine (HSg.out _ HR2.out).mono ?_
        intro e w3 ho
        have HSR : Hid (∀ x, x = signR (t[0] :: r) → x = if signN (t[0] :: r) = 0 then .bad 4 else .got 9 ((t[0] :: r).take (signN (t[0] :: r))) (signN (t[0] :: r))) := Lib.hid (fun x h => h)
        rcases ho with ⟨hn, rfl, b3⟩ | ⟨hn, t2, rfl, ht2, hsz3, R2, b3⟩
        · have HB3 := Lib.hid (HB2.out.trans b3)
          have HE2 : Hid (signR (t[0] :: r) = .bad 4) := Lib.hid (by unfold signR; rw [if_pos hn])
          clear hn b3 HSR
          go_wp2_with fail
          rw [HE.out, HE2.out]
          exact ⟨rfl, rfl, HB3.out⟩
        · have HB3 := Lib.hid (HB2.out.trans b3)
          have HE2 : Hid (signR (t[0] :: r) = .got 9 ((t[0] :: r).take (signN (t[0] :: r))) (signN (t[0] :: r))) := Lib.hid (by unfold signR; rw [if_neg (by omega)])
          have HR3 := Lib.hid R2
          clear hn b3 R2 hsz3 HSR
          go_wp2_with fail
          go_ret2
          rw [HE.out, HE2.out]
          exact ⟨t2, rfl, Lib.hid (by rw [ht2.out, ← HLl.out]), HR3.out, HB3.out⟩
    have h47b : ((t[0].toNat : Int) == 47) = false := by simp; omega
    have HE := Lib.hid (rd_sign (r := r) (op := operandB L) h10 hlet hdg hdot h34 (fun x => h47 x.1))
    clear c2 c3 c4
    have DOTS : ((t[0].toNat : Int) == 46) = false ∨ (((t[0].toNat : Int) == 46) = true ∧ decide ((1 : Int) < (t.size : Int)) = false) ∨ (((t[0].toNat : Int) == 46) = true ∧ ∃ h1 : 1 < t.size, digB t[1] = false) := by
      by_cases h46 : t[0].toNat = 46
      · right
        have e46 : ((t[0].toNat : Int) == 46) = true := by rw [h46]; rfl
        cases r with
        | nil => exact Or.inl ⟨e46, decide_eq_false (by have := HTL.out; have h2 := Lib.size_eq t; rw [this] at h2; simp at h2; omega)⟩
        | cons d u =>
          obtain ⟨h1, e1⟩ := at_one HTL.out
          refine Or.inr ⟨e46, h1, ?_⟩
          rw [e1]
          cases hx : digB d
          · rfl
          · exact absurd ⟨h46, hx⟩ hdot
      · exact Or.inl (by simp; omega)
    clear hlet h10 hdg hdot h34 h47
    have FIN : Hid (∀ e w3, SignAt p s k L (signN (t[0] :: r)) V e w3 → (∃ b, e = .panicked b ∧ ReadAt p s k L (signR (t[0] :: r)) w e w3) ∨ ∃ t2, e = .returned (.string t2) ∧ ReadAt p s k L (signR (t[0] :: r)) w (.returned (.tuple #[.int .i64 9, .string t2])) w3) := Lib.hid (fun e w3 ho => by
      rcases ho with ⟨hn, rfl, b3⟩ | ⟨hn, t2, rfl, ht2, hsz3, R2, b3⟩
      · left
        refine ⟨_, rfl, ?_⟩
        unfold signR
        rw [if_pos hn]
        exact ⟨rfl, B1.out.trans b3⟩
      · right
        refine ⟨t2, rfl, ?_⟩
        unfold signR
        rw [if_neg (by omega)]
        exact ⟨t2, rfl, Lib.hid (by rw [ht2.out, ← HLl.out]), R2, B1.out.trans b3⟩)
    rcases DOTS with h46b | ⟨h46b, h1b⟩ | ⟨h46b, h1, hd1⟩
    case inr.inr =>
      have HD1 := Lib.hid (fun w => HDg.out t[1] false hd1 w)
      have h1b : decide ((1 : Int) < (t.size : Int)) = true := decide_eq_true (by omega)
      clear hd1
      go_wp2_with fail
      refine (HLB.out _).mono ?_
      rintro e w2 ⟨rfl, rfl⟩
      go_wp2_with fail
      refine (HDB.out _).mono ?_
      rintro e w2 ⟨rfl, rfl⟩
      go_wp2_with fail
      refine (HD1.out _).mono ?_
      rintro e w2 ⟨rfl, rfl⟩
      go_wp2_with fail
      refine (HSg.out _ R1.out).mono ?_
      intro e w3 ho
      rcases FIN.out e w3 ho with ⟨b, rfl, hf⟩ | ⟨t2, rfl, hf⟩
      · have HF := Lib.hid hf
        clear hf ho
        go_wp2_with fail
        rw [HE.out]
        exact ⟨rfl, HF.out⟩
      · have HF := Lib.hid hf
        clear hf ho
        go_wp2_with fail
        go_ret2
        rw [HE.out]
        exact HF.out
    all_goals
      go_wp2_with fail
      refine (HLB.out _).mono ?_
      rintro e w2 ⟨rfl, rfl⟩
      go_wp2_with fail
      refine (HDB.out _).mono ?_
      rintro e w2 ⟨rfl, rfl⟩
      go_wp2_with fail
      refine (HSg.out _ R1.out).mono ?_
      intro e w3 ho
      rcases FIN.out e w3 ho with ⟨b, rfl, hf⟩ | ⟨t2, rfl, hf⟩
      · have HF := Lib.hid hf
        clear hf ho
        go_wp2_with fail
        rw [HE.out]
        exact ⟨rfl, HF.out⟩
      · have HF := Lib.hid hf
        clear hf ho
        go_wp2_with fail
        go_ret2
        rw [HE.out]
        exact HF.out
end Go.Proofs.Ytejofdhpegcmjaa
