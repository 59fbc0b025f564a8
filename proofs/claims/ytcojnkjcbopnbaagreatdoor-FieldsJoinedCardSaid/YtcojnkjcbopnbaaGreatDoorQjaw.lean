/- Merged by program: Union, Members, ClassA. -/
import Derived.Test.YtcojnkjcbopnbaaGreatDoorQjac
import Derived.Test.YtcojnkjcbopnbaaGreatDoorQjav
import Derived.Test.YtcojnkjcbopnbaaGreatDoorQjah
/- class.Union: a walk. -/
namespace Go.Proofs.YtcojnkjcbopnbaaGreatDoor
open Go.RowKit

def orW (f g : Nat → Nat) : Nat → Nat := fun k => f k ||| g k
theorem fits_or {f g : Nat → Nat} (hf : Fits f) (hg : Fits g) : Fits (orW f g) := fun k hk => Nat.or_lt_two_pow (n := 64) (hf k hk) (hg k hk)
theorem bit_or (f g : Nat → Nat) (c : Nat) : bit (orW f g) c = (bit f c || bit g c) := by simp [bit, orW, Nat.testBit_or]

set_option maxRecDepth 100000 in
theorem union_spec (f g : Nat → Nat) (hf : Fits f) (hg : Fits g) (w : World) :
    Calls Tryz.prog 161 #[.agg (words f), .agg (words g)] w fun e w' => e = .returned (.agg (words (orW f g))) ∧ Below w.heap.size w w' := by
  go_enter Tryz.func161, Tryz.ntmps161
  go_wp2_with fail
  obtain ⟨W, hW, Q0, Q1, Q2, HB⟩ := boxed3 w f g zero4 65 65 65
  change Code.wp _ _ _ _ (((w.alloc (Obj.cells (words f) 65)).alloc (Obj.cells (words g) 65)).alloc (Obj.cells (words zero4) 65))
  rw [← hW]
  clear hW
  go_loopw [5, 6] (fun _ y wr => ∃ k : Nat, y = .int .i64 k ∧ k ≤ 4 ∧ Hid (Quad wr w.heap.size (fun j => if j < k then orW f g j else f j)) ∧ Hid (Quad wr (w.heap.size + 1) g) ∧ Hid (Quad wr (w.heap.size + 1 + 1) zero4) ∧ Hid (Below w.heap.size w wr)) (fun _ y _ => 4 - (intOf y).toNat)
  case atStart => exact ⟨0, rfl, by omega, by simpa using Q0, Q1, Q2, HB⟩
  case round =>
    obtain ⟨k, rfl, hk, q0, q1, q2, hb⟩ := hrel
    by_cases hgo : k < 4
    · have hc := q0.out.c k hgo
      have hz := q0.out.z k hgo
      have hd := q1.out.c k hgo
      simp only [Nat.lt_irrefl, if_false] at hc
      have hx := bits_or_u64_nat (f k) (g k) (hf k hgo) (hg k hgo)
      go_wp2_with fail
      go_region
      all_goals
        go_wp2_with fail
        try rw [hx]
        go_roundw
        case rel =>
          refine ⟨k + 1, by go_num, by omega, Lib.hid ((Quad.congr ((q0.out.after (below_drew _)).set hgo _) fun j hj => ?_)), Lib.hid ((q1.out.after (below_drew _)).other (by omega) _), Lib.hid ((q2.out.after (below_drew _)).other (by omega) _), Lib.hid (hb.out.drew.setCell (by simp) _)⟩
          by_cases h1 : j = k
          · simp [h1, orW]
          · rw [if_neg h1]
            by_cases h2 : j < k
            · rw [if_pos h2, if_pos (by omega)]
            · rw [if_neg h2, if_neg (by omega)]
        case measure => simp [intOf]; omega
    · obtain rfl : k = 4 := by omega
      have Q := q0.out.congr (g := orW f g) (fun j hj => by rw [if_pos hj])
      have c0 := Q.c 0 (by omega); have c1 := Q.c 1 (by omega); have c2 := Q.c 2 (by omega); have c3 := Q.c 3 (by omega)
      have z0 := q2.out.z 0 (by omega); have z1 := q2.out.z 1 (by omega); have z2 := q2.out.z 2 (by omega); have z3 := q2.out.z 3 (by omega)
      have y0 := q2.out.c 0 (by omega); have y1 := q2.out.c 1 (by omega); have y2 := q2.out.c 2 (by omega); have y3 := q2.out.c 3 (by omega)
      have HQ := Lib.hid Q; clear Q
      go_wp2_with fail
      obtain ⟨e0, e1, e2, e3⟩ := put4_reads q2.out (orW f g)
      unfold put4 at e0 e1 e2 e3
      refine bodyPost_ret (v := .agg (words (orW f g))) (by simp [results, Tryz.results161, go_sem, e0, e1, e2, e3, words]) rfl ⟨rfl, ?_⟩
      exact below_put4 hb.out (by omega) (orW f g)
end Go.Proofs.YtcojnkjcbopnbaaGreatDoor

/- class.members: a walk over a text's members, one behind the other. -/
namespace Go.Proofs.YtcojnkjcbopnbaaGreatDoor
open Go.RowKit

theorem drop_get {s : ByteArray} {k : Nat} {c : UInt8} {r : List UInt8} (h : s.data.toList.drop k = c :: r) : ∃ hk : k < s.size, s[k] = c := by
  have hk : k < s.size := by
    rcases Nat.lt_or_ge k s.size with h' | h'
    · exact h'
    · rw [List.drop_eq_nil_of_le (by simpa using h')] at h; cases h
  refine ⟨hk, ?_⟩
  have hk2 : k < s.data.toList.length := by simpa using hk
  rw [List.drop_eq_getElem_cons hk2] at h
  injection h with h1 _
theorem extract_drop (s : ByteArray) (k : Nat) : (s.extract k s.size).data.toList = s.data.toList.drop k := by
  obtain ⟨⟨l⟩⟩ := s
  have : List.take (l.length - k) (List.drop k l) = List.drop k l := List.take_of_length_le (by simp)
  simpa [ByteArray.extract_mk, ByteArray.size] using this

/-- A member at a place: its first byte, its last one, how many bytes it is of. -/
def MemAt (l : List UInt8) (a b : UInt8) (n : Nat) : Prop :=
  (n = 1 ∧ a = b ∧ ∃ d r, l = a :: d :: r ∧ a ≠ 92 ∧ a ≠ 91 ∧ d ≠ 45) ∨ (n = 2 ∧ a = b ∧ ∃ d r, l = 92 :: a :: d :: r ∧ a ≠ 110 ∧ a ≠ 116 ∧ d ≠ 45) ∨
  (n = 3 ∧ a.toNat ≤ b.toNat ∧ ∃ r, l = a :: 45 :: b :: r ∧ a ≠ 92 ∧ a ≠ 91 ∧ b ≠ 93 ∧ b ≠ 91 ∧ b ≠ 92)

theorem u8_ne {a b : UInt8} (h : a ≠ b) : a.toNat ≠ b.toNat := fun e => h (UInt8.toNat_inj.1 e)

theorem member_spec (s : ByteArray) (k n : Nat) (a b : UInt8) (h : MemAt (s.data.toList.drop k) a b n) (hs : s.size ≤ 1152921504606846976) (w : World) :
    Calls Tryz.prog 160 #[.string s, .int .i64 k] w fun e w' => ∃ g, e = .returned (.tuple #[.agg (words g), .int .i64 ((k + n : Nat) : Int), .int .i64 0]) ∧ Hid (Span zero4 g a.toNat (b.toNat + 1)) ∧ Below w.heap.size w w' := by
  have two (i : Nat) : s.data.toList.drop (k + i) = (s.data.toList.drop k).drop i := by rw [List.drop_drop]
  rcases h with ⟨rfl, rfl, d, r, e, h1, h2, h3⟩ | ⟨rfl, rfl, d, r, e, h1, h2, h3⟩ | ⟨rfl, hab, r, e, h1, h2, h3, h4, h5⟩
  · obtain ⟨hk, ek⟩ := drop_get e
    have e1 := two 1
    rw [e] at e1
    obtain ⟨hk1, _⟩ := drop_get (s := s) (k := k + 1) e1
    refine member_one s k 1 a.toNat hk (by omega) hs a.toNat_lt (fun w => ?_) ?_ (fun w => goesOn_no _ ?_ w) w
    · have := byteAt_plain s k hk hs (by rw [ek]; exact u8_ne h1) w
      rwa [ek] at this
    · rw [extract_drop, e]
      simp [Lib.hasPrefix, List.isPrefixOf, Ne.symm h2]
    · rw [extract_drop, e1]
      simp [Lib.hasPrefix, List.isPrefixOf, Ne.symm h3]
  · obtain ⟨hk, ek⟩ := drop_get e
    have e1 := two 1
    rw [e] at e1
    obtain ⟨hk1, ek1⟩ := drop_get (s := s) (k := k + 1) e1
    have e2 := two 2
    rw [e] at e2
    obtain ⟨hk2, _⟩ := drop_get (s := s) (k := k + 2) e2
    refine member_one s k 2 a.toNat hk (by omega) hs a.toNat_lt (fun w => ?_) ?_ (fun w => goesOn_no _ ?_ w) w
    · have := byteAt_esc s k hk1 hs (by rw [ek]; rfl) (by rw [ek1]; exact u8_ne h1) (by rw [ek1]; exact u8_ne h2) w
      rwa [ek1] at this
    · rw [extract_drop, e]
      simp [Lib.hasPrefix, List.isPrefixOf]
    · rw [extract_drop, e2]
      simp [Lib.hasPrefix, List.isPrefixOf, Ne.symm h3]
  · obtain ⟨hk, ek⟩ := drop_get e
    have e1 := two 1
    rw [e] at e1
    have e2 := two 2
    rw [e] at e2
    obtain ⟨hk2, ek2⟩ := drop_get (s := s) (k := k + 2) e2
    refine member_range s k a.toNat b.toNat (by omega) hs hab b.toNat_lt (fun w => ?_) ?_ (fun w => goesOn_yes _ ?_ ?_ ?_ w) (fun w => ?_) w
    · have := byteAt_plain s k hk hs (by rw [ek]; exact u8_ne h1) w
      rwa [ek] at this
    · rw [extract_drop, e]
      simp [Lib.hasPrefix, List.isPrefixOf]
    · rw [extract_drop, e1]
      simp [Lib.hasPrefix, List.isPrefixOf]
    · rw [extract_drop, e1]
      simp [Lib.hasPrefix, List.isPrefixOf, Ne.symm h3]
    · rw [extract_drop, e1]
      simp [Lib.hasPrefix, List.isPrefixOf, Ne.symm h4]
    · have := byteAt_plain s (k + 2) hk2 hs (by rw [ek2]; exact u8_ne h5) w
      rwa [ek2] at this

def lenOf : List (UInt8 × UInt8 × Nat) → Nat
  | [] => 0
  | x :: r => x.2.2 + lenOf r
def inItems : List (UInt8 × UInt8 × Nat) → Nat → Bool
  | [], _ => false
  | x :: r, c => (decide (x.1.toNat ≤ c) && decide (c ≤ x.2.1.toNat)) || inItems r c
/-- A text begins with these members, and a ] behind. -/
def Chain : List UInt8 → List (UInt8 × UInt8 × Nat) → Prop
  | _, [] => False
  | l, [x] => MemAt l x.1 x.2.1 x.2.2 ∧ ∃ r, l.drop x.2.2 = 93 :: r
  | l, x :: y :: r => MemAt l x.1 x.2.1 x.2.2 ∧ (∃ d t, l.drop x.2.2 = d :: t ∧ d ≠ 93) ∧ Chain (l.drop x.2.2) (y :: r)

theorem Chain.head {l : List UInt8} {x : UInt8 × UInt8 × Nat} {r : List (UInt8 × UInt8 × Nat)} (h : Chain l (x :: r)) : MemAt l x.1 x.2.1 x.2.2 := by
  cases r with
  | nil => exact h.1
  | cons y r => exact h.1
theorem MemAt.pos {l : List UInt8} {a b : UInt8} {n : Nat} (h : MemAt l a b n) : 1 ≤ n ∧ n ≤ 3 := by
  rcases h with ⟨rfl, _⟩ | ⟨rfl, _⟩ | ⟨rfl, _⟩ <;> omega

structure MInv (s : ByteArray) (k : Nat) (its rest : List (UInt8 × UInt8 × Nat)) (pos : Nat) (g : Nat → Nat) : Prop where
  chain : Chain (s.data.toList.drop pos) rest
  len : pos + lenOf rest = k + lenOf its
  fits : Fits g
  bits : ∀ c, c < 256 → (bit g c || inItems rest c) = inItems its c

set_option maxRecDepth 100000 in
theorem members_spec (s : ByteArray) (k : Nat) (its : List (UInt8 × UInt8 × Nat)) (h : Chain (s.data.toList.drop k) its) (hs : s.size ≤ 1152921504606846976) (w : World) :
    Calls Tryz.prog 158 #[.string s, .int .i64 k] w fun e w' => ∃ g, e = .returned (.tuple #[.agg (words g), .int .i64 ((k + lenOf its + 1 : Nat) : Int), .int .i64 0]) ∧ Hid (Fits g ∧ ∀ c, c < 256 → bit g c = inItems its c) ∧ Below w.heap.size w w' := by
  have HH := Lib.hid h; clear h
  have HM := Lib.hid (fun k n a b h w => member_spec s k n a b h hs w)
  go_enter Tryz.func158, Tryz.ntmps158
  go_wp2_with fail
  obtain ⟨W, hW, Q0, Q1, HB⟩ := boxed2 w zero4 zero4 65 65
  change Code.wp _ _ _ _ ((w.alloc (Obj.cells (words zero4) 65)).alloc (Obj.cells (words zero4) 65))
  rw [← hW]
  clear hW
  go_loopw [1] (fun x wr => ∃ (pos : Nat) (rest : List (UInt8 × UInt8 × Nat)) (g : Nat → Nat), x = .int .i64 pos ∧ pos ≤ s.size ∧ Hid (MInv s k its rest pos g) ∧ Hid (Quad wr w.heap.size zero4) ∧ Hid (Quad wr (w.heap.size + 1) g) ∧ Hid (Below w.heap.size w wr)) (fun x _ => s.size - (intOf x).toNat)
  case atStart =>
    obtain ⟨x, tl, hx⟩ : ∃ x tl, its = x :: tl := by
      cases hi : its with
      | nil => rw [hi] at HH; exact absurd HH.out (by simp [Chain])
      | cons x tl => exact ⟨x, tl, rfl⟩
    have hk : k < s.size := by
      have h := HH.out
      rw [hx] at h
      have h1 := h.head
      rcases Nat.lt_or_ge k s.size with h' | h'
      · exact h'
      · rw [List.drop_eq_nil_of_le (by simpa using h')] at h1
        rcases h1 with ⟨_, _, d, r, e, _⟩ | ⟨_, _, d, r, e, _⟩ | ⟨_, _, r, e, _⟩ <;> cases e
    exact ⟨k, its, zero4, rfl, by omega, Lib.hid ⟨HH.out, rfl, fits_zero, fun c _ => by rw [bit_zero, Bool.false_or]⟩, Q0, Q1, HB⟩
  case round =>
    obtain ⟨pos, rest, g, rfl, hpos, hI, q0, q1, hB⟩ := hrel
    obtain ⟨a, b, n, tl, rfl⟩ : ∃ a b n tl, rest = (a, b, n) :: tl := by
      cases rest with
      | nil => exact absurd hI.out.chain (by simp [Chain])
      | cons x tl => exact ⟨x.1, x.2.1, x.2.2, tl, rfl⟩
    have hm := Lib.hid (hI.out.chain.head)
    have hn := hm.out.pos
    have HE : Hid ((∃ d r, s.data.toList.drop (pos + n) = d :: r) ∧ Lib.hasPrefix (s.extract (pos + n) s.size).data.toList [93] = tl.isEmpty) := by
      refine Lib.hid ?_
      rw [extract_drop]
      have e2 : s.data.toList.drop (pos + n) = (s.data.toList.drop pos).drop n := by rw [List.drop_drop]
      rw [e2]
      have hc := hI.out.chain
      cases tl with
      | nil =>
        obtain ⟨r, hr⟩ := hc.2
        exact ⟨⟨_, _, hr⟩, by rw [hr]; simp [Lib.hasPrefix, List.isPrefixOf]⟩
      | cons y r =>
        obtain ⟨d, t, hr, hd⟩ := hc.2.1
        exact ⟨⟨_, _, hr⟩, by rw [hr]; simp [Lib.hasPrefix, List.isPrefixOf, Ne.symm hd]⟩
    have hpn : pos + n < s.size := by
      obtain ⟨⟨d, r, hr⟩, _⟩ := HE.out
      exact (drop_get hr).1
    have HP := Lib.hid (fun w => hp_spec (s.extract (pos + n) s.size) ⟨#[93]⟩ tl.isEmpty HE.out.2 w)
    go_wp2_with fail
    refine (HM.out pos n a b hm.out _).mono ?_
    rintro e w1 ⟨gp, rfl, hS, b1⟩
    have B1 := Lib.hid b1; clear b1
    simp only [words]
    go_upto_region 5 with (fail)
    obtain ⟨W2, hW2, QP, HB2⟩ := quad_box w1 gp 65
    change Code.wp _ _ _ _ (w1.alloc (Obj.cells (words gp) 65))
    rw [← hW2]
    clear hW2
    have HU := Lib.hid (fun w => union_spec g gp hI.out.fits hS.out.1 w)
    have q0' := Lib.hid ((q0.out.after B1.out).after HB2.out)
    have q1' := Lib.hid ((q1.out.after B1.out).after HB2.out)
    have hB' := Lib.hid (Below.step (Below.step hB.out B1.out) HB2.out)
    clear q0 q1 hB B1 HB2
    have c0 := q1'.out.c 0 (by omega); have c1 := q1'.out.c 1 (by omega); have c2 := q1'.out.c 2 (by omega); have c3 := q1'.out.c 3 (by omega)
    have d0 := QP.out.c 0 (by omega); have d1 := QP.out.c 1 (by omega); have d2 := QP.out.c 2 (by omega); have d3 := QP.out.c 3 (by omega)
    go_wp2_with fail
    refine (HU.out _).mono ?_
    rintro e w3 ⟨rfl, b3⟩
    clear c0 c1 c2 c3 d0 d1 d2 d3
    have q0 := Lib.hid (q0'.out.after b3)
    have q1 := Lib.hid (q1'.out.after b3)
    have hB := Lib.hid (Below.step hB'.out b3)
    clear q0' q1' hB' b3
    have hbits : Hid (∀ c, c < 256 → (bit (orW g gp) c || inItems tl c) = inItems its c) := by
      refine Lib.hid fun c hc => ?_
      have h1 := hI.out.bits c hc
      have h2 := hS.out.2 c hc
      rw [bit_zero, Bool.false_or] at h2
      rw [bit_or, h2, ← h1]
      show _ = (bit g c || ((decide (a.toNat ≤ c) && decide (c ≤ b.toNat)) || inItems tl c))
      rw [show decide (c < b.toNat + 1) = decide (c ≤ b.toNat) from decide_eq_decide.2 (by omega), Bool.or_assoc]
    have hfit := Lib.hid (fits_or hI.out.fits hS.out.1)
    have z0 := q1.out.z 0 (by omega); have z1 := q1.out.z 1 (by omega); have z2 := q1.out.z 2 (by omega); have z3 := q1.out.z 3 (by omega)
    have y0 := q1.out.c 0 (by omega); have y1 := q1.out.c 1 (by omega); have y2 := q1.out.c 2 (by omega); have y3 := q1.out.c 3 (by omega)
    simp only [words]
    go_upto_region 6 with (fail)
    clear y0 y1 y2 y3 z0 z1 z2 z3
    obtain ⟨W4, hW4, r0, r1, rB⟩ : ∃ W4, W4 = put4 w3 (w.heap.size + 1) (orW g gp) ∧ Hid (Quad W4 w.heap.size zero4) ∧ Hid (Quad W4 (w.heap.size + 1) (orW g gp)) ∧ Hid (Below w.heap.size w W4) :=
      ⟨_, rfl, Lib.hid (q0.out.put4_other (by omega) _), Lib.hid (q1.out.put4 _), Lib.hid (below_put4 hB.out (by omega) _)⟩
    change Code.wp _ _ _ _ (put4 w3 (w.heap.size + 1) (orW g gp))
    rw [← hW4]
    clear hW4 q0 q1 hB
    go_wp2_with fail
    refine (HP.out _).mono ?_
    rintro e w5 ⟨rfl, rfl⟩
    cases tl with
    | nil =>
      have hlen : pos + n = k + lenOf its := by have := hI.out.len; simpa [lenOf] using this
      have c0 := r1.out.c 0 (by omega); have c1 := r1.out.c 1 (by omega); have c2 := r1.out.c 2 (by omega); have c3 := r1.out.c 3 (by omega)
      have z0 := r0.out.z 0 (by omega); have z1 := r0.out.z 1 (by omega); have z2 := r0.out.z 2 (by omega); have z3 := r0.out.z 3 (by omega)
      have y0 := r0.out.c 0 (by omega); have y1 := r0.out.c 1 (by omega); have y2 := r0.out.c 2 (by omega); have y3 := r0.out.c 3 (by omega)
      have HL := Lib.hid hlen; clear hlen
      go_wp2_with fail
      obtain ⟨e0, e1, e2, e3⟩ := put4_reads r0.out (orW g gp)
      unfold put4 at e0 e1 e2 e3
      refine bodyPost_ret (v := .tuple #[.agg (words (orW g gp)), .int .i64 ((pos + n + 1 : Nat) : Int), .int .i64 0]) (by simp [results, Tryz.results158, go_sem, e0, e1, e2, e3, words]) rfl ⟨orW g gp, by rw [HL.out], Lib.hid ⟨hfit.out, fun c hc => ?_⟩, below_put4 rB.out (by omega) _⟩
      have := hbits.out c hc
      rwa [show inItems [] c = false from rfl, Bool.or_false] at this
    | cons y r =>
      have hch := Lib.hid hI.out.chain.2.2
      have hlen : pos + n + lenOf (y :: r) = k + lenOf its := by have := hI.out.len; simp only [lenOf] at this ⊢; omega
      go_wp2_with fail
      go_roundw
      case rel =>
        refine ⟨pos + n, y :: r, orW g gp, by go_num, by omega, Lib.hid ⟨?_, hlen, hfit.out, hbits.out⟩, r0, r1, rB⟩
        have := hch.out
        rwa [List.drop_drop] at this
      case measure => simp [intOf]; omega
end Go.Proofs.YtcojnkjcbopnbaaGreatDoor

/- class.escaped, byteAt, goesOn, classAt at any text: walks. -/
namespace Go.Proofs.YtcojnkjcbopnbaaGreatDoor
open Go.RowKit

/-- The first cell of the first block: bytealg.MaxLen. -/
def MX (w : World) : Prop := ∃ m : Int, w.cell? ⟨0, 0, none⟩ = some (.int .i64 m)
theorem MX.after {w w' : World} (h : MX w) (hb : Below w.heap.size w w') : MX w' := by
  obtain ⟨m, hm⟩ := h
  exact ⟨m, by rw [hb.cell (p := ⟨0, 0, none⟩) (cell_lt hm)]; exact hm⟩

set_option maxRecDepth 100000 in
theorem escaped_any (c : Nat) (hc : c < 256) (w : World) :
    Calls Tryz.prog 166 #[.int .u8 c] w fun e w' => ∃ d : Nat, e = .returned (.int .u8 d) ∧ d < 256 ∧ w' = w := by
  by_cases h1 : c = 110
  · subst h1
    go_enter Tryz.func166, Tryz.ntmps166
    go_wp2_with fail
    go_ret
    exact ⟨10, rfl, by omega, rfl⟩
  · by_cases h2 : c = 116
    · subst h2
      go_enter Tryz.func166, Tryz.ntmps166
      go_wp2_with fail
      go_ret
      exact ⟨9, rfl, by omega, rfl⟩
    · refine (escaped_spec c h1 h2 w).mono ?_
      rintro e w' ⟨rfl, rfl⟩
      exact ⟨c, rfl, hc, rfl⟩

/-- What byteAt tells. -/
def ByteOut (s : ByteArray) (k : Nat) (w : World) (e : Ending) (w' : World) : Prop :=
  ∃ (c n : Nat) (x : Int), e = .returned (.tuple #[.int .u8 c, .int .i64 n, .int .i64 x]) ∧ c < 256 ∧ Hid (x = 0 → k < n ∧ n ≤ s.size) ∧ w' = w

set_option maxRecDepth 100000 in
theorem byteAt_any (s : ByteArray) (k : Nat) (h : k ≤ s.size) (hs : s.size ≤ 1152921504606846976) (w : World) :
    Calls Tryz.prog 163 #[.string s, .int .i64 k] w (ByteOut s k w) := by
  by_cases hk : k = s.size
  · have e1 : ((k : Int) == (s.size : Int)) = true := by rw [hk]; exact beq_self_eq_true _
    clear hk h
    go_enter Tryz.func163, Tryz.ntmps163
    go_wp2_with fail
    go_ret3
    exact ⟨0, 0, 3, rfl, by omega, Lib.hid (fun h => absurd h (by decide)), rfl⟩
  · have hlt : k < s.size := by omega
    by_cases hc : s[k].toNat = 92
    · by_cases hk1 : k + 1 = s.size
      · have e0 : ((k : Int) == (s.size : Int)) = false := beq_eq_false_iff_ne.2 (by omega)
        have e1 : ((k : Int) + 1 == (s.size : Int)) = true := beq_iff_eq.2 (by omega)
        clear hk h hk1
        go_enter Tryz.func163, Tryz.ntmps163
        go_wp2_with fail
        go_ret3
        exact ⟨0, 0, 3, rfl, by omega, Lib.hid (fun h => absurd h (by decide)), rfl⟩
      · have hlt1 : k + 1 < s.size := by omega
        have C := Lib.hid (fun w => escaped_any s[k + 1].toNat (UInt8.toNat_lt _) w)
        have HK : Hid (k < k + 2 ∧ k + 2 ≤ s.size) := Lib.hid ⟨by omega, by omega⟩
        go_enter Tryz.func163, Tryz.ntmps163
        go_wp2_with fail
        refine (C.out _).mono ?_
        rintro e w1 ⟨d, rfl, hd, rfl⟩
        go_wp2_with fail
        go_ret3
        exact ⟨d, k + 2, 0, by first | rfl | (simp; done), hd, Lib.hid (fun _ => HK.out), rfl⟩
    · refine (byteAt_plain s k hlt hs hc w).mono ?_
      rintro e w' ⟨rfl, rfl⟩
      exact ⟨_, k + 1, 0, rfl, UInt8.toNat_lt _, Lib.hid (fun _ => ⟨by omega, by omega⟩), rfl⟩

set_option maxRecDepth 100000 in
theorem goesOn_any (s : ByteArray) (w : World) :
    Calls Tryz.prog 164 #[.string s] w fun e w' => ∃ b : Bool, e = .returned (.bool b) ∧ Hid (b = true → 0 < s.size) ∧ w' = w := by
  cases h : Lib.hasPrefix s.data.toList [45] with
  | false => exact (goesOn_no s h w).mono fun e w' ⟨h1, h2⟩ => ⟨false, h1, Lib.hid (fun h => absurd h (by decide)), h2⟩
  | true =>
    have hpos : Hid (0 < s.size) := Lib.hid (by
      rcases Nat.eq_zero_or_pos s.size with e | e
      · have : s.data.toList = [] := by
          have h1 : s.data.toList.length = 0 := by simpa using e
          exact List.eq_nil_of_length_eq_zero h1
        rw [this] at h
        cases h
      · exact e)
    have C := Lib.hid (fun w => hp_spec s ⟨#[45]⟩ true h w)
    obtain ⟨b1, hb1⟩ : ∃ b, b = Lib.hasPrefix s.data.toList [45, 93] := ⟨_, rfl⟩
    obtain ⟨b2, hb2⟩ : ∃ b, b = Lib.hasPrefix s.data.toList [45, 91, 58] := ⟨_, rfl⟩
    have D := Lib.hid (fun w => hp_spec s ⟨#[45, 93]⟩ b1 hb1.symm w)
    have E := Lib.hid (fun w => hp_spec s ⟨#[45, 91, 58]⟩ b2 hb2.symm w)
    clear h hb1 hb2
    go_enter Tryz.func164, Tryz.ntmps164
    go_wp2_with fail
    refine (C.out _).mono ?_
    rintro e w1 ⟨rfl, rfl⟩
    go_wp2_with fail
    refine (D.out _).mono ?_
    rintro e w2 ⟨rfl, rfl⟩
    cases b1 with
    | true =>
      go_wp2_with fail
      go_ret
      exact ⟨false, rfl, Lib.hid (fun h => absurd h (by decide)), rfl⟩
    | false =>
      go_wp2_with fail
      refine (E.out _).mono ?_
      rintro e w3 ⟨rfl, rfl⟩
      cases b2 with
      | true =>
        go_wp2_with fail
        go_ret
        exact ⟨false, rfl, Lib.hid (fun h => absurd h (by decide)), rfl⟩
      | false =>
        go_wp2_with fail
        go_ret
        exact ⟨true, rfl, Lib.hid (fun _ => hpos.out), rfl⟩

/-- What is told of a set that is read from a place on. -/
def SetOut (s : ByteArray) (k : Nat) (w : World) (e : Ending) (w' : World) : Prop :=
  ∃ (f : Nat → Nat) (n : Nat) (x : Int), e = .returned (.tuple #[.agg (words f), .int .i64 n, .int .i64 x]) ∧ Hid (Fits f ∧ (x = 0 → k < n ∧ n ≤ s.size)) ∧ Below w.heap.size w w'

theorem index_in (l p : List UInt8) (h : 0 ≤ Lib.index l p) : (Lib.index l p).toNat + p.length ≤ l.length := by
  induction l with
  | nil =>
    unfold Lib.index at h ⊢
    cases p with
    | nil => simp
    | cons a r => simp at h
  | cons b l ih =>
    unfold Lib.index at h ⊢
    split at h
    · rename_i hp
      rw [if_pos hp]
      have := (List.isPrefixOf_iff_prefix.1 hp).length_le
      simpa using this
    · rename_i hp
      rw [if_neg hp]
      split at h
      · exact absurd h (by decide)
      · rename_i h1
        rw [if_neg h1]
        have hg := Lib.index_ge l p
        have h2 : Lib.index l p ≠ -1 := fun e => h1 (by rw [e]; rfl)
        have := ih (by omega)
        simp only [List.length_cons]
        omega
theorem cut_len (l p : List UInt8) (h : (Lib.cut l p).2.2 = true) : (Lib.cut l p).1.length + p.length ≤ l.length := by
  unfold Lib.cut at h ⊢
  split at h
  · rename_i h0
    rw [if_pos h0]
    have := index_in l p h0
    simp only [List.length_take]
    omega
  · cases h
def Even4 (l : ByteArray) : Prop := ∃ m, l.size = 2 * m ∧ m ≤ 4
theorem ite_p {P : ByteArray → Prop} {c : Prop} [Decidable c] {a b : ByteArray} (h1 : P a) (h2 : P b) : P (if c then a else b) := by split <;> assumption
theorem spans_even (name : ByteArray) : Even4 (spansOf name) := by
  unfold spansOf
  repeat' first | exact ⟨0, rfl, by decide⟩ | exact ⟨1, rfl, by decide⟩ | exact ⟨2, rfl, by decide⟩ | exact ⟨3, rfl, by decide⟩ | exact ⟨4, rfl, by decide⟩ | refine ite_p ?_ ?_

/-- Noughts stored. -/
theorem zput_reads {w : World} {b : Nat} {g : Nat → Nat} (h : Quad w b g) :
    ((((w.setCell ⟨b, 0, none⟩ (.int .u64 0)).setCell ⟨b, 1, none⟩ (.int .u64 0)).setCell ⟨b, 2, none⟩ (.int .u64 0)).setCell ⟨b, 3, none⟩ (.int .u64 0)).cell? ⟨b, 0, none⟩ = some (.int .u64 0) ∧
    ((((w.setCell ⟨b, 0, none⟩ (.int .u64 0)).setCell ⟨b, 1, none⟩ (.int .u64 0)).setCell ⟨b, 2, none⟩ (.int .u64 0)).setCell ⟨b, 3, none⟩ (.int .u64 0)).cell? ⟨b, 1, none⟩ = some (.int .u64 0) ∧
    ((((w.setCell ⟨b, 0, none⟩ (.int .u64 0)).setCell ⟨b, 1, none⟩ (.int .u64 0)).setCell ⟨b, 2, none⟩ (.int .u64 0)).setCell ⟨b, 3, none⟩ (.int .u64 0)).cell? ⟨b, 2, none⟩ = some (.int .u64 0) ∧
    ((((w.setCell ⟨b, 0, none⟩ (.int .u64 0)).setCell ⟨b, 1, none⟩ (.int .u64 0)).setCell ⟨b, 2, none⟩ (.int .u64 0)).setCell ⟨b, 3, none⟩ (.int .u64 0)).cell? ⟨b, 3, none⟩ = some (.int .u64 0) := put4_reads h zero4

set_option maxRecDepth 100000 in
set_option maxHeartbeats 1000000 in
theorem classAt_any (s : ByteArray) (k : Nat) (h : k ≤ s.size) (hs : s.size ≤ 400) (w : World) (hx : MX w) :
    Calls Tryz.prog 162 #[.string s, .int .i64 k] w (SetOut s k w) := by
  obtain ⟨mx, hmx⟩ := hx
  obtain ⟨W, hW, Q, HB⟩ := quad_box w zero4 65
  have hmW : W.cell? ⟨0, 0, none⟩ = some (.int .i64 mx) := by rw [HB.out.cell (p := ⟨0, 0, none⟩) (cell_lt hmx)]; exact hmx
  have hes : (s.extract k s.size).size = s.size - k := by rw [ByteArray.size_extract]; omega
  have HC := Lib.hid (Tryz.strings_Cut (s.extract k s.size) ⟨#[58, 93]⟩ mx W (by rw [hes]; omega) hmW)
  have hcl := cut_len (s.extract k s.size).data.toList [58, 93]
  obtain ⟨name, hname⟩ : ∃ name : ByteArray, name = ⟨(Lib.cut (s.extract k s.size).data.toList [58, 93]).1.toArray⟩ := ⟨_, rfl⟩
  obtain ⟨rest, hrest⟩ : ∃ rest : ByteArray, rest = ⟨(Lib.cut (s.extract k s.size).data.toList [58, 93]).2.1.toArray⟩ := ⟨_, rfl⟩
  obtain ⟨ok, hok⟩ : ∃ ok, ok = (Lib.cut (s.extract k s.size).data.toList [58, 93]).2.2 := ⟨_, rfl⟩
  have hnl : name.size = (Lib.cut (s.extract k s.size).data.toList [58, 93]).1.length := by rw [hname]; show (List.toArray _).size = _; rw [List.size_toArray]
  have hlen : ok = true → k + name.size + 2 ≤ s.size := fun e => by
    have h1 := hcl (hok ▸ e)
    have h2 : (s.extract k s.size).data.toList.length = s.size - k := by rw [← hes]; exact Array.length_toList
    rw [← hnl, h2] at h1
    simp at h1
    omega
  change Hid (Calls _ _ _ _ fun e w' => e = .returned (.tuple #[.string ⟨(Lib.cut (s.extract k s.size).data.toList [58, 93]).1.toArray⟩, .string ⟨(Lib.cut (s.extract k s.size).data.toList [58, 93]).2.1.toArray⟩, .bool (Lib.cut (s.extract k s.size).data.toList [58, 93]).2.2]) ∧ ∃ n, w' = W.drewN n) at HC
  rw [← hname, ← hrest, ← hok] at HC
  have HLen := Lib.hid hlen
  have hk1 : (k : Int) ≤ s.size := by omega
  clear hcl hname hrest hok hnl hlen hmW hmx hes
  go_enter Tryz.func162, Tryz.ntmps162
  go_upto_region 1 with (fail)
  change Code.wp _ _ _ _ (w.alloc (Obj.cells (words zero4) 65))
  rw [← hW]
  clear hW
  go_wp2_with fail
  refine HC.out.mono ?_
  rintro e w1 ⟨rfl, n1, rfl⟩
  have Q1 := Lib.hid (Q.out.after (drewN_below W n1))
  have B1 := Lib.hid (Below.step HB.out (drewN_below W n1))
  cases ok with
  | false =>
    have z0 := Q1.out.z 0 (by omega); have z1 := Q1.out.z 1 (by omega); have z2 := Q1.out.z 2 (by omega); have z3 := Q1.out.z 3 (by omega)
    have y0 := Q1.out.c 0 (by omega); have y1 := Q1.out.c 1 (by omega); have y2 := Q1.out.c 2 (by omega); have y3 := Q1.out.c 3 (by omega)
    go_wp2_with fail
    obtain ⟨e0, e1, e2, e3⟩ := zput_reads Q1.out
    exact bodyPost_ret (v := .tuple #[.agg (words zero4), .int .i64 ((0 : Nat) : Int), .int .i64 3]) (by simp [results, Tryz.results162, go_sem, e0, e1, e2, e3, words, zero4]) rfl ⟨zero4, 0, 3, rfl, Lib.hid ⟨fits_zero, fun h => absurd h (by decide)⟩, below_put4 B1.out (by omega) zero4⟩
  | true =>
    have hl := HLen.out rfl
    obtain ⟨m, hm, hm4⟩ := spans_even name
    have HN := Lib.hid (fun w => named_spec name m hm hm4 w)
    clear hm hm4 HLen
    go_wp2_with fail
    refine (HN.out _).mono ?_
    rintro e w2 ⟨g, rfl, hg, b2⟩
    have Q2 := Lib.hid (Q1.out.after b2)
    have B2 := Lib.hid (Below.step B1.out b2)
    clear b2
    simp only [words]
    go_upto_region 5 with (fail)
    obtain ⟨W3, hW3, QP, HB3⟩ := quad_box w2 g 65
    change Code.wp _ _ _ _ (w2.alloc (Obj.cells (words g) 65))
    rw [← hW3]
    clear hW3
    have Q3 := Lib.hid (Q2.out.after HB3.out)
    have B3 := Lib.hid (Below.step B2.out HB3.out)
    have z0 := Q3.out.z 0 (by omega); have z1 := Q3.out.z 1 (by omega); have z2 := Q3.out.z 2 (by omega); have z3 := Q3.out.z 3 (by omega)
    have y0 := Q3.out.c 0 (by omega); have y1 := Q3.out.c 1 (by omega); have y2 := Q3.out.c 2 (by omega); have y3 := Q3.out.c 3 (by omega)
    by_cases hm0 : 0 < m
    · have hd : decide (0 < m) = true := decide_eq_true hm0
      have d0 := QP.out.c 0 (by omega); have d1 := QP.out.c 1 (by omega); have d2 := QP.out.c 2 (by omega); have d3 := QP.out.c 3 (by omega)
      clear hm0
      go_wp2_with fail
      obtain ⟨e0, e1, e2, e3⟩ := put4_reads Q3.out g
      unfold put4 at e0 e1 e2 e3
      exact bodyPost_ret (v := .tuple #[.agg (words g), .int .i64 ((k + name.size + 2 : Nat) : Int), .int .i64 0]) (by simp [results, Tryz.results162, go_sem, e0, e1, e2, e3, words]) rfl ⟨g, k + name.size + 2, 0, rfl, Lib.hid ⟨hg.out.fits, fun _ => ⟨by omega, hl⟩⟩, below_put4 B3.out (by omega) g⟩
    · have hd : decide (0 < m) = false := decide_eq_false hm0
      clear hm0
      go_wp2_with fail
      obtain ⟨e0, e1, e2, e3⟩ := zput_reads Q3.out
      exact bodyPost_ret (v := .tuple #[.agg (words zero4), .int .i64 ((0 : Nat) : Int), .int .i64 40]) (by simp [results, Tryz.results162, go_sem, e0, e1, e2, e3, words, zero4]) rfl ⟨zero4, 0, 40, rfl, Lib.hid ⟨fits_zero, fun h => absurd h (by decide)⟩, below_put4 B3.out (by omega) zero4⟩
end Go.Proofs.YtcojnkjcbopnbaaGreatDoor
