/- Merged by program: LexRe, LexWd. -/
import Derived.Test.YtgdlpldngpoadaaGreatDoorSaq
import Derived.Test.YtgdlpldngpoadaaGreatDoorSas
/- read: a walk. -/
namespace Go.Proofs.YtgdlpldngpoadaaGreatDoor
open Go.RowKit

theorem at_one {t : ByteArray} {c d : UInt8} {r : List UInt8} (h : t.data.toList = c :: d :: r) : ∃ h1 : 1 < t.size, t[1] = d := by
  have hl : t.data.toList.length = t.size := by simp
  have h1 : 1 < t.size := by rw [← hl, h]; simp
  refine ⟨h1, ?_⟩
  have : t.data.toList[1]? = some t[1] := by rw [List.getElem?_eq_getElem (by omega)]; rfl
  rw [h] at this
  simpa using this.symm
def dotB (r : List UInt8) : Bool := match r with | [] => false | d :: _ => digB d
def signR (l : List UInt8) : Rd1 := if signN l = 0 then .bad 4 else .got 9 (l.take (signN l)) (signN l)
theorem rd_eq (c : UInt8) (r : List UInt8) (op : Bool) : readN (c :: r) op = if c.toNat = 10 then .got 1 [c] 1 else if letB c = true then nameN (c :: r)
    else if digB c = true ∨ (c.toNat = 46 ∧ dotB r = true) then .got 2 ((c :: r).take (numN (c :: r))) (numN (c :: r))
    else if c.toNat = 34 then quoteN 3 (textN r) else if c.toNat = 47 ∧ op = false then quoteN 4 (patN 0 r) else signR (c :: r) := by
  cases r <;> rfl
theorem rd_feed {c : UInt8} {r : List UInt8} {op : Bool} (h : c.toNat = 10) : readN (c :: r) op = .got 1 [c] 1 := by
  rw [rd_eq, if_pos h]
theorem rd_let {c : UInt8} {r : List UInt8} {op : Bool} (h : c.toNat ≠ 10) (hl : letB c = true) : readN (c :: r) op = nameN (c :: r) := by
  rw [rd_eq, if_neg h, if_pos hl]
theorem rd_num {c : UInt8} {r : List UInt8} {op : Bool} (h : c.toNat ≠ 10) (hl : letB c = false) (hd : digB c = true ∨ (c.toNat = 46 ∧ dotB r = true)) : readN (c :: r) op = .got 2 ((c :: r).take (numN (c :: r))) (numN (c :: r)) := by
  rw [rd_eq, if_neg h, if_neg (by rw [hl]; decide), if_pos hd]
theorem no_num {c : UInt8} {r : List UInt8} (hd : digB c = false) (h : ¬ (c.toNat = 46 ∧ dotB r = true)) : ¬ (digB c = true ∨ (c.toNat = 46 ∧ dotB r = true)) := by
  rintro (x | x)
  · rw [hd] at x; exact absurd x (by decide)
  · exact h x
theorem rd_str {c : UInt8} {r : List UInt8} {op : Bool} (hl : letB c = false) (hd : digB c = false) (h34 : c.toNat = 34) : readN (c :: r) op = quoteN 3 (textN r) := by
  rw [rd_eq, if_neg (by omega), if_neg (by rw [hl]; decide), if_neg (no_num hd (by omega)), if_pos h34]
theorem rd_pat {c : UInt8} {r : List UInt8} (hl : letB c = false) (hd : digB c = false) (h47 : c.toNat = 47) : readN (c :: r) false = quoteN 4 (patN 0 r) := by
  rw [rd_eq, if_neg (by omega), if_neg (by rw [hl]; decide), if_neg (no_num hd (by omega)), if_neg (by omega), if_pos ⟨h47, rfl⟩]
theorem rd_sign {c : UInt8} {r : List UInt8} {op : Bool} (h : c.toNat ≠ 10) (hl : letB c = false) (hd : digB c = false) (hdot : ¬ (c.toNat = 46 ∧ dotB r = true)) (h34 : c.toNat ≠ 34) (h47 : ¬ (c.toNat = 47 ∧ op = false)) : readN (c :: r) op = signR (c :: r) := by
  rw [rd_eq, if_neg h, if_neg (by rw [hl]; decide), if_neg (no_num hd hdot), if_neg h34, if_neg h47]

set_option maxRecDepth 100000 in
set_option maxHeartbeats 2000000 in
theorem read_spec (p : Nat) (s : ByteArray) (k : Nat) (L : Tok) (w : World) (h : Rd w p s k L) (hk : k ≤ s.size) (hs : s.size ≤ 8000) :
    Calls Tryz.prog 132 #[.pointer (some ⟨p, 0, none⟩)] w (ReadAt p s k L (readN (s.data.toList.drop k) (operandB L)) w) := by
  have HL := Lib.hid (fun j w h (hj : j ≤ s.size) => left_spec p s j L w h hj)
  have HT := Lib.hid (fun n w h hn => take_spec p s k n L w h hn hs)
  have HLt := Lib.hid (fun c b h w => letter_is c b h w)
  have HDg := Lib.hid (fun c b h w => digit_is c b h w)
  have HNm := Lib.hid (fun w h => name_spec p s k L w h hk hs)
  have HNu := Lib.hid (fun w h => number_spec p s k L w h hk hs)
  have HSg := Lib.hid (fun w h => sign_walk p s k L w h hk hs)
  have HTx := Lib.hid (fun w h hk => text_spec p s k L w h hk hs)
  have HPa := Lib.hid (fun w h hk => pattern_spec p s k L w h hk hs)
  have HOp := Lib.hid (fun w => operand_spec L.K L.A L.S w)
  have R := Lib.hid h
  clear h
  obtain ⟨l, hl⟩ : ∃ l, l = s.data.toList.drop k := ⟨_, rfl⟩
  have HLl := Lib.hid hl
  rw [← hl] at HNm HNu HSg ⊢
  clear hl
  cases l with
  | nil =>
    go_enter Tryz.func132, Tryz.ntmps132
    go_wp2_with fail
    refine (HL.out k _ R.out hk).mono ?_
    rintro e w1 ⟨t, rfl, ht, hsz, n, rfl⟩
    have B1 := Lib.hid (But.of (p := p) (drewN_below w n))
    have R1 := Lib.hid (R.out.drewN n)
    have ht0 : t.size = 0 := by rw [Lib.size_eq, ht.out, ← HLl.out]; rfl
    obtain ⟨e1, e2, e3⟩ := emp_of ht0
    clear ht0 hsz ht
    go_wp2_with fail
    go_ret2
    exact ⟨⟨#[]⟩, rfl, Lib.hid rfl, R1.out, B1.out⟩
  | cons c r =>
    have hlt := drop_lt HLl.out.symm
    have hr := Lib.hid (drop_tail HLl.out.symm)
    go_enter Tryz.func132, Tryz.ntmps132
    go_wp2_with fail
    refine (HL.out k _ R.out hk).mono ?_
    rintro e w1 ⟨t, rfl, ht, hsz, n, rfl⟩
    have B1 := Lib.hid (But.of (p := p) (drewN_below w n))
    have R1 := Lib.hid (R.out.drewN n)
    obtain ⟨V, hV⟩ : ∃ V, V = w.drewN n := ⟨_, rfl⟩
    rw [← hV] at R1 B1 ⊢
    clear hV R
    have HTL : Hid (t.data.toList = c :: r) := Lib.hid (by rw [ht.out, HLl.out])
    obtain ⟨h0, e0⟩ := head_of HTL.out
    subst e0
    obtain ⟨ne1, ne2⟩ := ne_of h0
    have hsz2 : t.size ≤ 8000 := by omega
    clear ht hsz
    by_cases h10 : t[0].toNat = 10
    · have HE := Lib.hid (rd_feed (r := r) (op := operandB L) h10)
      have HTk : Hid ((t[0] :: r).take 1 = [t[0]]) := Lib.hid rfl
      clear HLt HDg
      have h10b : ((t[0].toNat : Int) == 10) = true := by rw [h10]; rfl
      clear h10
      go_wp2_with fail
      refine (HT.out 1 _ R1.out hlt).mono ?_
      rintro e w2 ⟨t2, rfl, ht2, hsz3, R2, b2⟩
      have HB2 := Lib.hid (B1.out.trans b2)
      have HR2 := Lib.hid R2
      clear b2 R2 hsz3
      go_wp2_with fail
      go_ret2
      rw [HE.out]
      exact ⟨t2, rfl, Lib.hid (by rw [ht2.out, ← HLl.out, HTk.out]), HR2.out, HB2.out⟩
    have h10b : ((t[0].toNat : Int) == 10) = false := by simp; omega
    cases hlet : letB t[0]
    case true =>
      have HE := Lib.hid (rd_let (r := r) (op := operandB L) h10 hlet)
      have HLB := Lib.hid (fun w => HLt.out t[0] true hlet w)
      clear hlet h10
      go_wp2_with fail
      refine (HLB.out _).mono ?_
      rintro e w2 ⟨rfl, rfl⟩
      go_wp2_with fail
      refine (HNm.out _ R1.out).mono ?_
      intro e w3 ho
      cases hn : nameN (t[0] :: r) with
      | bad x =>
        rw [hn] at ho
        obtain ⟨rfl, b3⟩ := ho
        have HB3 := Lib.hid (B1.out.trans b3)
        have HNN := Lib.hid hn
        clear hn b3
        go_wp2_with fail
        rw [HE.out, HNN.out]
        exact ⟨rfl, rfl, HB3.out⟩
      | got K S m =>
        rw [hn] at ho
        obtain ⟨t2, rfl, ht2, R2, b3⟩ := ho
        have HB3 := Lib.hid (B1.out.trans b3)
        have HR2 := Lib.hid R2
        have HNN := Lib.hid hn
        clear hn b3 R2
        go_wp2_with fail
        go_ret2
        rw [HE.out, HNN.out]
        exact ⟨t2, rfl, ht2, HR2.out, HB3.out⟩
    case false =>
    have HLB := Lib.hid (fun w => HLt.out t[0] false hlet w)
    cases hdg : digB t[0]
    case true =>
      have HE := Lib.hid (rd_num (r := r) (op := operandB L) h10 hlet (Or.inl hdg))
      have HDB := Lib.hid (fun w => HDg.out t[0] true hdg w)
      clear hlet h10 hdg
      go_wp2_with fail
      refine (HLB.out _).mono ?_
      rintro e w2 ⟨rfl, rfl⟩
      go_wp2_with fail
      refine (HDB.out _).mono ?_
      rintro e w2 ⟨rfl, rfl⟩
      go_wp2_with fail
      refine (HNu.out _ R1.out).mono ?_
      rintro e w3 ⟨t2, rfl, ht2, hsz3, R2, b3⟩
      have HB3 := Lib.hid (B1.out.trans b3)
      have HR2 := Lib.hid R2
      clear b3 R2 hsz3
      go_wp2_with fail
      go_ret2
      rw [HE.out]
      exact ⟨t2, rfl, Lib.hid (by rw [ht2.out, ← HLl.out]), HR2.out, HB3.out⟩
    case false =>
    have HDB := Lib.hid (fun w => HDg.out t[0] false hdg w)
    by_cases hdot : t[0].toNat = 46 ∧ dotB r = true
    · have HE := Lib.hid (rd_num (r := r) (op := operandB L) h10 hlet (Or.inr hdot))
      obtain ⟨h46, hdt⟩ := hdot
      have h46b : ((t[0].toNat : Int) == 46) = true := by rw [h46]; rfl
      obtain ⟨d, u, rfl⟩ : ∃ d u, r = d :: u := by cases r with | nil => exact absurd hdt (by decide) | cons d u => exact ⟨d, u, rfl⟩
      obtain ⟨h1, e1⟩ := at_one HTL.out
      have HD1 := Lib.hid (fun w => HDg.out t[1] true (by rw [e1]; exact hdt) w)
      have h1b : decide ((1 : Int) < (t.size : Int)) = true := decide_eq_true (by omega)
      clear hlet h10 hdg hdt h46 e1
      go_wp2_with fail
      refine (HLB.out _).mono ?_
      rintro e w2 ⟨rfl, rfl⟩
      go_wp2_with fail
      refine (HDB.out _).mono ?_
      rintro e w2 ⟨rfl, rfl⟩
      go_wp2_with fail
      refine (HD1.out _).mono ?_
      rintro e w2 ⟨rfl, rfl⟩
      go_wp2_with fail
      refine (HNu.out _ R1.out).mono ?_
      rintro e w3 ⟨t2, rfl, ht2, hsz3, R2, b3⟩
      have HB3 := Lib.hid (B1.out.trans b3)
      have HR2 := Lib.hid R2
      clear b3 R2 hsz3
      go_wp2_with fail
      go_ret2
      rw [HE.out]
      exact ⟨t2, rfl, Lib.hid (by rw [ht2.out, ← HLl.out]), HR2.out, HB3.out⟩
    by_cases h34 : t[0].toNat = 34
    · have HE := Lib.hid (rd_str (r := r) (op := operandB L) hlet hdg h34)
      have h46b : ((t[0].toNat : Int) == 46) = false := by simp; omega
      have h34b : ((t[0].toNat : Int) == 34) = true := by rw [h34]; rfl
      clear hlet h10 hdg hdot h34
      go_wp2_with fail
      refine (HLB.out _).mono ?_
      rintro e w2 ⟨rfl, rfl⟩
      go_wp2_with fail
      refine (HDB.out _).mono ?_
      rintro e w2 ⟨rfl, rfl⟩
      go_wp2_with fail
      refine (HTx.out _ R1.out hlt).mono ?_
      intro e w3 ho
      rw [hr.out] at ho
      cases hn : textN r with
      | none =>
        rw [hn] at ho
        obtain ⟨rfl, b3⟩ := ho
        have HB3 := Lib.hid (B1.out.trans b3)
        have HNN := Lib.hid hn
        clear hn b3
        go_wp2_with fail
        rw [HE.out, HNN.out]
        exact ⟨rfl, rfl, HB3.out⟩
      | some x =>
        rw [hn] at ho
        obtain ⟨t2, rfl, ht2, R2, b3⟩ := ho
        have HB3 := Lib.hid (B1.out.trans b3)
        have HR2 : Hid (Rd w3 p s (k + (x.2 + 1)) L) := Lib.hid (by have e : k + (x.2 + 1) = k + 1 + x.2 := by omega
                                                                    rw [e]; exact R2)
        have HNN := Lib.hid hn
        clear hn b3 R2
        go_wp2_with fail
        go_ret2
        rw [HE.out, HNN.out]
        exact ⟨t2, rfl, ht2, HR2.out, HB3.out⟩
    have h34b : ((t[0].toNat : Int) == 34) = false := by simp; omega
    have c2 := R1.out.c2
    have c3 := R1.out.c3
    have c4 := R1.out.c4
    by_cases h47 : t[0].toNat = 47
    · have h47b : ((t[0].toNat : Int) == 47) = true := by rw [h47]; rfl
      have h46b : ((t[0].toNat : Int) == 46) = false := by simp; omega
      cases hop : operandB L
      case false =>
        have HE : Hid (readN (t[0] :: r) (operandB L) = quoteN 4 (patN 0 r)) := Lib.hid (by rw [hop]; exact rd_pat hlet hdg h47)
        have HOB : Hid (∀ w, Calls Tryz.prog 162 #[.agg #[.int .i64 L.K, .string L.S, .int .i64 L.A]] w fun e w' => e = .returned (.bool false) ∧ Below w.heap.size w w') := Lib.hid (fun w => by rw [← hop]; exact HOp.out w)
        clear hlet h10 hdg hdot h34 h47 hop
        go_wp2_with fail
        refine (HLB.out _).mono ?_
        rintro e w2 ⟨rfl, rfl⟩
        go_wp2_with fail
        refine (HDB.out _).mono ?_
        rintro e w2 ⟨rfl, rfl⟩
        go_wp2_with fail
        refine (HOB.out _).mono ?_
        rintro e w2 ⟨rfl, b2⟩
        have HR2 := Lib.hid (R1.out.after b2)
        have HB2 := Lib.hid (B1.out.trans (.of b2))
        clear b2 c2 c3 c4
        go_wp2_with fail
        refine (HPa.out _ HR2.out hlt).mono ?_
        intro e w3 ho
        rw [hr.out] at ho
        cases hn : patN 0 r with
        | none =>
          rw [hn] at ho
          obtain ⟨rfl, b3⟩ := ho
          have HB3 := Lib.hid (HB2.out.trans b3)
          have HNN := Lib.hid hn
          clear hn b3
          go_wp2_with fail
          rw [HE.out, HNN.out]
          exact ⟨rfl, rfl, HB3.out⟩
        | some x =>
          rw [hn] at ho
          obtain ⟨t2, rfl, ht2, R2, b3⟩ := ho
          have HB3 := Lib.hid (HB2.out.trans b3)
          have HR3 : Hid (Rd w3 p s (k + (x.2 + 1)) L) := Lib.hid (by have e : k + (x.2 + 1) = k + 1 + x.2 := by omega
                                                                      rw [e]; exact R2)
          have HNN := Lib.hid hn
          clear hn b3 R2
          go_wp2_with fail
          go_ret2
          rw [HE.out, HNN.out]
          exact ⟨t2, rfl, ht2, HR3.out, HB3.out⟩
      case true =>
        have HE := Lib.hid (rd_sign (r := r) (op := operandB L) h10 hlet hdg hdot h34 (by rw [hop]; simp))
        have HOB : Hid (∀ w, Calls Tryz.prog 162 #[.agg #[.int .i64 L.K, .string L.S, .int .i64 L.A]] w fun e w' => e = .returned (.bool true) ∧ Below w.heap.size w w') := Lib.hid (fun w => by rw [← hop]; exact HOp.out w)
        clear hlet h10 hdg hdot h34 h47 hop
        go_wp2_with fail
        refine (HLB.out _).mono ?_
        rintro e w2 ⟨rfl, rfl⟩
        go_wp2_with fail
        refine (HDB.out _).mono ?_
        rintro e w2 ⟨rfl, rfl⟩
        go_wp2_with fail
        refine (HOB.out _).mono ?_
        rintro e w2 ⟨rfl, b2⟩
        have HR2 := Lib.hid (R1.out.after b2)
        have HB2 := Lib.hid (B1.out.trans (.of b2))
        clear b2 c2 c3 c4
        go_wp2_with fail
        refine (HSg.out _ HR2.out).mono ?_
        intro e w3 ho
        have HSR : Hid (∀ x, x = signR (t[0] :: r) → x = if signN (t[0] :: r) = 0 then .bad 4 else .got 9 ((t[0] :: r).take (signN (t[0] :: r))) (signN (t[0] :: r))) := Lib.hid (fun x h => h)
        rcases ho with ⟨hn, rfl, b3⟩ | ⟨hn, t2, rfl, ht2, hsz3, R2, b3⟩
        · have HB3 := Lib.hid (HB2.out.trans b3)
          have HE2 : Hid (signR (t[0] :: r) = .bad 4) := Lib.hid (by unfold signR; rw [if_pos hn])
          clear hn b3 HSR
          go_wp2_with fail
          rw [HE.out, HE2.out]
          exact ⟨rfl, rfl, HB3.out⟩
        · have HB3 := Lib.hid (HB2.out.trans b3)
          have HE2 : Hid (signR (t[0] :: r) = .got 9 ((t[0] :: r).take (signN (t[0] :: r))) (signN (t[0] :: r))) := Lib.hid (by unfold signR; rw [if_neg (by omega)])
          have HR3 := Lib.hid R2
          clear hn b3 R2 hsz3 HSR
          go_wp2_with fail
          go_ret2
          rw [HE.out, HE2.out]
          exact ⟨t2, rfl, Lib.hid (by rw [ht2.out, ← HLl.out]), HR3.out, HB3.out⟩
    have h47b : ((t[0].toNat : Int) == 47) = false := by simp; omega
    have HE := Lib.hid (rd_sign (r := r) (op := operandB L) h10 hlet hdg hdot h34 (fun x => h47 x.1))
    clear c2 c3 c4
    have DOTS : ((t[0].toNat : Int) == 46) = false ∨ (((t[0].toNat : Int) == 46) = true ∧ decide ((1 : Int) < (t.size : Int)) = false) ∨ (((t[0].toNat : Int) == 46) = true ∧ ∃ h1 : 1 < t.size, digB t[1] = false) := by
      by_cases h46 : t[0].toNat = 46
      · right
        have e46 : ((t[0].toNat : Int) == 46) = true := by rw [h46]; rfl
        cases r with
        | nil => exact Or.inl ⟨e46, decide_eq_false (by have := HTL.out; have h2 := Lib.size_eq t; rw [this] at h2; simp at h2; omega)⟩
        | cons d u =>
          obtain ⟨h1, e1⟩ := at_one HTL.out
          refine Or.inr ⟨e46, h1, ?_⟩
          rw [e1]
          cases hx : digB d
          · rfl
          · exact absurd ⟨h46, hx⟩ hdot
      · exact Or.inl (by simp; omega)
    clear hlet h10 hdg hdot h34 h47
    have FIN : Hid (∀ e w3, SignAt p s k L (signN (t[0] :: r)) V e w3 → (∃ b, e = .panicked b ∧ ReadAt p s k L (signR (t[0] :: r)) w e w3) ∨ ∃ t2, e = .returned (.string t2) ∧ ReadAt p s k L (signR (t[0] :: r)) w (.returned (.tuple #[.int .i64 9, .string t2])) w3) := Lib.hid (fun e w3 ho => by
      rcases ho with ⟨hn, rfl, b3⟩ | ⟨hn, t2, rfl, ht2, hsz3, R2, b3⟩
      · left
        refine ⟨_, rfl, ?_⟩
        unfold signR
        rw [if_pos hn]
        exact ⟨rfl, B1.out.trans b3⟩
      · right
        refine ⟨t2, rfl, ?_⟩
        unfold signR
        rw [if_neg (by omega)]
        exact ⟨t2, rfl, Lib.hid (by rw [ht2.out, ← HLl.out]), R2, B1.out.trans b3⟩)
    rcases DOTS with h46b | ⟨h46b, h1b⟩ | ⟨h46b, h1, hd1⟩
    case inr.inr =>
      have HD1 := Lib.hid (fun w => HDg.out t[1] false hd1 w)
      have h1b : decide ((1 : Int) < (t.size : Int)) = true := decide_eq_true (by omega)
      clear hd1
      go_wp2_with fail
      refine (HLB.out _).mono ?_
      rintro e w2 ⟨rfl, rfl⟩
      go_wp2_with fail
      refine (HDB.out _).mono ?_
      rintro e w2 ⟨rfl, rfl⟩
      go_wp2_with fail
      refine (HD1.out _).mono ?_
      rintro e w2 ⟨rfl, rfl⟩
      go_wp2_with fail
      refine (HSg.out _ R1.out).mono ?_
      intro e w3 ho
      rcases FIN.out e w3 ho with ⟨b, rfl, hf⟩ | ⟨t2, rfl, hf⟩
      · have HF := Lib.hid hf
        clear hf ho
        go_wp2_with fail
        rw [HE.out]
        exact ⟨rfl, HF.out⟩
      · have HF := Lib.hid hf
        clear hf ho
        go_wp2_with fail
        go_ret2
        rw [HE.out]
        exact HF.out
    all_goals
      go_wp2_with fail
      refine (HLB.out _).mono ?_
      rintro e w2 ⟨rfl, rfl⟩
      go_wp2_with fail
      refine (HDB.out _).mono ?_
      rintro e w2 ⟨rfl, rfl⟩
      go_wp2_with fail
      refine (HSg.out _ R1.out).mono ?_
      intro e w3 ho
      rcases FIN.out e w3 ho with ⟨b, rfl, hf⟩ | ⟨t2, rfl, hf⟩
      · have HF := Lib.hid hf
        clear hf ho
        go_wp2_with fail
        rw [HE.out]
        exact ⟨rfl, HF.out⟩
      · have HF := Lib.hid hf
        clear hf ho
        go_wp2_with fail
        go_ret2
        rw [HE.out]
        exact HF.out
end Go.Proofs.YtgdlpldngpoadaaGreatDoor

/- word: a walk. -/
namespace Go.Proofs.YtgdlpldngpoadaaGreatDoor
open Go.RowKit

/-- A token in a block of its own. -/
structure TkB (w : World) (b : Nat) (K : Int) (S : ByteArray) (A : Int) : Prop where
  row : w.heap[b]? = some (.cells #[.int .i64 K, .string S, .int .i64 A] 68 (0, 0))
theorem TkB.lt {w : World} {b : Nat} {K : Int} {S : ByteArray} {A : Int} (h : TkB w b K S A) : b < w.heap.size := (Array.getElem?_eq_some_iff.1 h.row).1
theorem TkB.c0 {w : World} {b : Nat} {K : Int} {S : ByteArray} {A : Int} (h : TkB w b K S A) : w.cell? ⟨b, 0, none⟩ = some (.int .i64 K) := cell_of_row _ _ 0 _ _ _ h.row
theorem TkB.c1 {w : World} {b : Nat} {K : Int} {S : ByteArray} {A : Int} (h : TkB w b K S A) : w.cell? ⟨b, 1, none⟩ = some (.string S) := cell_of_row _ _ 1 _ _ _ h.row
theorem TkB.c2 {w : World} {b : Nat} {K : Int} {S : ByteArray} {A : Int} (h : TkB w b K S A) : w.cell? ⟨b, 2, none⟩ = some (.int .i64 A) := cell_of_row _ _ 2 _ _ _ h.row
theorem TkB.z {w : World} {b : Nat} {K : Int} {S : ByteArray} {A : Int} (h : TkB w b K S A) (j : Nat) : w.frozen? ⟨b, j, none⟩ = false := frozen_of_row _ _ j _ _ h.row
theorem TkB.but {p : Nat} {w w' : World} {b : Nat} {K : Int} {S : ByteArray} {A : Int} (h : TkB w b K S A) (hb : But p w w') (hp : b ≠ p) : TkB w' b K S A := ⟨by rw [hb.block b h.lt hp]; exact h.row⟩
theorem TkB.after {w w' : World} {b : Nat} {K : Int} {S : ByteArray} {A : Int} (h : TkB w b K S A) (hb : Below w.heap.size w w') : TkB w' b K S A := ⟨by rw [hb.block b h.lt]; exact h.row⟩
theorem TkB.new (w : World) (K : Int) (S : ByteArray) (A : Int) : TkB (w.alloc (.cells #[.int .i64 K, .string S, .int .i64 A] 68)) w.heap.size K S A := ⟨heap_alloc_last w _⟩
theorem TkB.put {w : World} {b : Nat} {K : Int} {S : ByteArray} {A : Int} (h : TkB w b K S A) (K' : Int) (S' : ByteArray) : TkB ((w.setCell ⟨b, 0, none⟩ (.int .i64 K')).setCell ⟨b, 1, none⟩ (.string S')) b K' S' A := by
  have h1 : (w.setCell ⟨b, 0, none⟩ (.int .i64 K')).heap[b]? = some (.cells #[.int .i64 K', .string S, .int .i64 A] 68 (0, 0)) := by rw [heap_setCell_same _ _ 0 _ _ _ h.row]; rfl
  exact ⟨by rw [heap_setCell_same _ _ 1 _ _ _ h1]; rfl⟩
theorem TkB.put3 {w : World} {b : Nat} {K : Int} {S : ByteArray} {A : Int} (h : TkB w b K S A) (K' : Int) (S' : ByteArray) (A' : Int) : TkB (((w.setCell ⟨b, 0, none⟩ (.int .i64 K')).setCell ⟨b, 1, none⟩ (.string S')).setCell ⟨b, 2, none⟩ (.int .i64 A')) b K' S' A' :=
  ⟨by rw [heap_setCell_same _ _ 2 _ _ _ (h.put K' S').row]; rfl⟩
theorem Rd.put3 {w : World} {p : Nat} {s : ByteArray} {k : Nat} {L : Tok} (h : Rd w p s k L) (K' : Int) (S' : ByteArray) (A' : Int) : Rd (((w.setCell ⟨p, 2, none⟩ (.int .i64 K')).setCell ⟨p, 3, none⟩ (.string S')).setCell ⟨p, 4, none⟩ (.int .i64 A')) p s k ⟨K', S', A'⟩ := by
  have h1 : (w.setCell ⟨p, 2, none⟩ (.int .i64 K')).heap[p]? = some (.cells #[.string s, .int .i64 k, .int .i64 K', .string L.S, .int .i64 L.A] 124 (0, 0)) := by rw [heap_setCell_same _ _ 2 _ _ _ h.row]; rfl
  have h2 : ((w.setCell ⟨p, 2, none⟩ (.int .i64 K')).setCell ⟨p, 3, none⟩ (.string S')).heap[p]? = some (.cells #[.string s, .int .i64 k, .int .i64 K', .string S', .int .i64 L.A] 124 (0, 0)) := by rw [heap_setCell_same _ _ 3 _ _ _ h1]; rfl
  exact ⟨by rw [heap_setCell_same _ _ 4 _ _ _ h2]; rfl⟩

/-- What reading a token comes to. -/
def WordAt (p : Nat) (s : ByteArray) (j : Nat) (o : Rd1) (w : World) (e : Ending) (w' : World) : Prop := match o with
  | .bad x => Fell p j x w e w'
  | .got K S n => ∃ t : ByteArray, e = .returned (.agg #[.int .i64 K, .string t, .int .i64 j]) ∧ Hid (t.data.toList = S) ∧ Rd w' p s (j + n) ⟨K, t, j⟩ ∧ But p w w'

set_option maxRecDepth 100000 in
set_option maxHeartbeats 1000000 in
theorem word_read (p : Nat) (s : ByteArray) (k : Nat) (L : Tok) (w : World) (h : Rd w p s k L) (hk : k ≤ s.size) (hs : s.size ≤ 8000) :
    Calls Tryz.prog 108 #[.pointer (some ⟨p, 0, none⟩)] w (WordAt p s (k + passA (s.data.toList.drop k)) (readN (s.data.toList.drop (k + passA (s.data.toList.drop k))) (operandB L)) w) := by
  have HPs := Lib.hid (fun w h => pass_spec p s k L w h hk hs)
  obtain ⟨j, hj⟩ : ∃ j, j = k + passA (s.data.toList.drop k) := ⟨_, rfl⟩
  have HJ : Hid (∀ w e w', PassAt p s k L w e w' → e = .returned (.tuple #[]) ∧ Rd w' p s j L ∧ But p w w' ∧ j ≤ s.size) := Lib.hid (fun w e w' h => by rw [hj]; exact h)
  rw [← hj]
  clear hj
  have HRe := Lib.hid (fun w h hj => read_spec p s j L w h hj hs)
  have R := Lib.hid h
  have hpl := h.lt
  clear h
  go_enter Tryz.func108, Tryz.ntmps108
  go_wp2_with fail
  obtain ⟨W, hW, RW, TW, BW, hWs⟩ : ∃ W, W = w.alloc (.cells #[.int .i64 0, .string ⟨#[]⟩, .int .i64 0] 68) ∧ Hid (Rd W p s k L) ∧ Hid (TkB W w.heap.size 0 ⟨#[]⟩ 0) ∧ Hid (Below w.heap.size w W) ∧ Hid (W.heap.size = w.heap.size + 1) :=
    ⟨_, rfl, Lib.hid (R.out.after (below_new w _)), Lib.hid (TkB.new w _ _ _), Lib.hid (below_new w _), Lib.hid (World.size_alloc _ _)⟩
  change Calls _ _ _ (w.alloc (Obj.cells #[.int .i64 0, .string ⟨#[]⟩, .int .i64 0] 68)) _
  rw [← hW]
  clear hW
  refine (HPs.out _ RW.out).mono ?_
  intro e w2 ho
  obtain ⟨rfl, R2, b2, hj⟩ := HJ.out _ _ _ ho
  have HR2 := Lib.hid R2
  have HB2 := Lib.hid ((But.of (p := p) BW.out).trans b2)
  have HT2 := Lib.hid (TW.out.but b2 (by omega))
  have hb2l : w.heap.size < w2.heap.size := HT2.out.lt
  clear ho R2 b2
  have c1 := HR2.out.c1
  go_upto_region 3 with (fail)
  obtain ⟨W3, hW3, RW3, T3, T2, B3, hs3⟩ : ∃ W3, W3 = w2.alloc (.cells #[.int .i64 0, .string ⟨#[]⟩, .int .i64 j] 68) ∧ Hid (Rd W3 p s j L) ∧ Hid (TkB W3 w2.heap.size 0 ⟨#[]⟩ j) ∧ Hid (TkB W3 w.heap.size 0 ⟨#[]⟩ 0) ∧ Hid (But p w W3) ∧ Hid (W3.heap.size = w2.heap.size + 1) :=
    ⟨_, rfl, Lib.hid (HR2.out.after (below_new w2 _)), Lib.hid (TkB.new w2 _ _ _), Lib.hid (HT2.out.after (below_new w2 _)), Lib.hid (HB2.out.then (below_new w2 _)), Lib.hid (World.size_alloc _ _)⟩
  change Code.wp _ _ _ _ (w2.alloc (Obj.cells #[.int .i64 0, .string ⟨#[]⟩, .int .i64 j] 68))
  rw [← hW3]
  clear hW3 c1
  obtain ⟨b3, hb3⟩ : ∃ b3, b3 = w2.heap.size := ⟨_, rfl⟩
  obtain ⟨b2, hb2⟩ : ∃ b2, b2 = w.heap.size := ⟨_, rfl⟩
  rw [← hb3] at T3 hb2l ⊢
  rw [← hb2] at T2 hb2l ⊢
  have HB3 := Lib.hid hb3
  have HBB := Lib.hid hb2
  have hpl2 : p < b2 := by omega
  clear hb3 hb2 hpl
  go_wp2_with fail
  refine (HRe.out _ RW3.out hj).mono ?_
  intro e w4 ho
  cases hn : readN (s.data.toList.drop j) (operandB L) with
  | bad x =>
    rw [hn] at ho
    obtain ⟨rfl, b4⟩ := ho
    have HB4 := Lib.hid (B3.out.trans b4)
    have HNN := Lib.hid hn
    clear hn b4
    go_wp2_with fail
    exact ⟨rfl, rfl, HB4.out⟩
  | got K S n =>
    rw [hn] at ho
    obtain ⟨t, rfl, ht, R4, b4⟩ := ho
    have HB4 := Lib.hid (B3.out.trans b4)
    have HR4 := Lib.hid R4
    have T34 := Lib.hid (T3.out.but b4 (by omega))
    have T24 := Lib.hid (T2.out.but b4 (by omega))
    have HNN := Lib.hid hn
    clear hn b4 R4
    have c0 := T34.out.c0
    have c1 := T34.out.c1
    have z0 := T34.out.z 0
    have z1 := T34.out.z 1
    go_upto_region 4 with (fail)
    obtain ⟨W5, hW5, R5, T35, T25, B5⟩ : ∃ W5, W5 = (w4.setCell ⟨b3, 0, none⟩ (.int .i64 K)).setCell ⟨b3, 1, none⟩ (.string t) ∧ Hid (Rd W5 p s (j + n) L) ∧ Hid (TkB W5 b3 K t j) ∧ Hid (TkB W5 b2 0 ⟨#[]⟩ 0) ∧ Hid (But p w W5) :=
      ⟨_, rfl, Lib.hid (HR4.out.keep (by rw [heap_setCell_other _ _ _ _ (by show p ≠ b3; omega), heap_setCell_other _ _ _ _ (by show p ≠ b3; omega)])), Lib.hid (T34.out.put K t), Lib.hid ((T24.out.but (but_put w4 b3 0 _) (by omega)).but (but_put _ b3 1 _) (by omega)),
        Lib.hid ⟨HB4.out.os, HB4.out.tape, HB4.out.output, by rw [World.size_setCell, World.size_setCell]; exact HB4.out.size, fun k hk hp => by
          have h1 := HBB.out
          rw [heap_setCell_other _ _ _ _ (by show k ≠ b3; omega), heap_setCell_other _ _ _ _ (by show k ≠ b3; omega)]
          exact HB4.out.block k hk hp⟩⟩
    rw [← hW5]
    clear hW5 c0 c1 z0 z1
    have c0 := T35.out.c0
    have c1 := T35.out.c1
    have c2 := T35.out.c2
    have d2 := R5.out.c2
    have d3 := R5.out.c3
    have d4 := R5.out.c4
    have y2 := R5.out.z 2
    have y3 := R5.out.z 3
    have y4 := R5.out.z 4
    go_upto_region 5 with (fail)
    obtain ⟨W6, hW6, R6, T36, T26, B6⟩ : ∃ W6, W6 = ((W5.setCell ⟨p, 2, none⟩ (.int .i64 K)).setCell ⟨p, 3, none⟩ (.string t)).setCell ⟨p, 4, none⟩ (.int .i64 j) ∧ Hid (Rd W6 p s (j + n) ⟨K, t, j⟩) ∧ Hid (TkB W6 b3 K t j) ∧ Hid (TkB W6 b2 0 ⟨#[]⟩ 0) ∧ Hid (But p w W6) :=
      ⟨_, rfl, Lib.hid (R5.out.put3 K t j), Lib.hid (((T35.out.but (but_put W5 p 2 _) (by omega)).but (but_put _ p 3 _) (by omega)).but (but_put _ p 4 _) (by omega)), Lib.hid (((T25.out.but (but_put W5 p 2 _) (by omega)).but (but_put _ p 3 _) (by omega)).but (but_put _ p 4 _) (by omega)),
        Lib.hid (((B5.out.put 2 _).put 3 _).put 4 _)⟩
    rw [← hW6]
    clear hW6 c0 c1 c2 d2 d3 d4 y2 y3 y4
    have c0 := T36.out.c0
    have c1 := T36.out.c1
    have c2 := T36.out.c2
    have d0 := T26.out.c0
    have d1 := T26.out.c1
    have d2 := T26.out.c2
    have y0 := T26.out.z 0
    have y1 := T26.out.z 1
    have y2 := T26.out.z 2
    go_wp2_with fail
    obtain ⟨W7, hW7, R7, T27, B7⟩ : ∃ W7, W7 = ((W6.setCell ⟨b2, 0, none⟩ (.int .i64 K)).setCell ⟨b2, 1, none⟩ (.string t)).setCell ⟨b2, 2, none⟩ (.int .i64 j) ∧ Hid (Rd W7 p s (j + n) ⟨K, t, j⟩) ∧ Hid (TkB W7 b2 K t j) ∧ Hid (But p w W7) :=
      ⟨_, rfl, Lib.hid (R6.out.keep (by rw [heap_setCell_other _ _ _ _ (by show p ≠ b2; omega), heap_setCell_other _ _ _ _ (by show p ≠ b2; omega), heap_setCell_other _ _ _ _ (by show p ≠ b2; omega)])), Lib.hid (T26.out.put3 K t j),
        Lib.hid ⟨B6.out.os, B6.out.tape, B6.out.output, by rw [World.size_setCell, World.size_setCell, World.size_setCell]; exact B6.out.size, fun k hk hp => by
          have h1 := HBB.out
          rw [heap_setCell_other _ _ _ _ (by show k ≠ b2; omega), heap_setCell_other _ _ _ _ (by show k ≠ b2; omega), heap_setCell_other _ _ _ _ (by show k ≠ b2; omega)]
          exact B6.out.block k hk hp⟩⟩
    rw [← hW7, HNN.out]
    clear hW7 c0 c1 c2 d0 d1 d2 y0 y1 y2
    have d0 := T27.out.c0
    have d1 := T27.out.c1
    have d2 := T27.out.c2
    refine bodyPost_ret (v := .agg #[.int .i64 K, .string t, .int .i64 j]) (by simp [results, Tryz.results108, go_sem, d0, d1, d2]) rfl ?_
    exact ⟨t, rfl, ht, R7.out, B7.out⟩
end Go.Proofs.YtgdlpldngpoadaaGreatDoor
