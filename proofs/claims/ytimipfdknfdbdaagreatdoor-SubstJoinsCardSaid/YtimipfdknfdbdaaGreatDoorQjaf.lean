/- Merged by program: Members, SetRow, E5Went. -/
import Derived.Test.YtimipfdknfdbdaaGreatDoorQjae
import Derived.Test.YtimipfdknfdbdaaGreatDoorQjad
/- class.members: a walk over a text's members, one behind the other. -/
namespace Go.Proofs.YtimipfdknfdbdaaGreatDoor
open Go.RowKit

theorem drop_get {s : ByteArray} {k : Nat} {c : UInt8} {r : List UInt8} (h : s.data.toList.drop k = c :: r) : ∃ hk : k < s.size, s[k] = c := by
  have hk : k < s.size := by
    rcases Nat.lt_or_ge k s.size with h' | h'
    · exact h'
    · rw [List.drop_eq_nil_of_le (by simpa using h')] at h; cases h
  refine ⟨hk, ?_⟩
  have hk2 : k < s.data.toList.length := by simpa using hk
  rw [List.drop_eq_getElem_cons hk2] at h
  injection h with h1 _
theorem extract_drop (s : ByteArray) (k : Nat) : (s.extract k s.size).data.toList = s.data.toList.drop k := by
  obtain ⟨⟨l⟩⟩ := s
  have : List.take (l.length - k) (List.drop k l) = List.drop k l := List.take_of_length_le (by simp)
  simpa [ByteArray.extract_mk, ByteArray.size] using this

/-- A member at a place: its first byte, its last one, how many bytes it is of. -/
def MemAt (l : List UInt8) (a b : UInt8) (n : Nat) : Prop :=
  (n = 1 ∧ a = b ∧ ∃ d r, l = a :: d :: r ∧ a ≠ 92 ∧ a ≠ 91 ∧ d ≠ 45) ∨ (n = 2 ∧ a = b ∧ ∃ d r, l = 92 :: a :: d :: r ∧ a ≠ 110 ∧ a ≠ 116 ∧ d ≠ 45) ∨
  (n = 3 ∧ a.toNat ≤ b.toNat ∧ ∃ r, l = a :: 45 :: b :: r ∧ a ≠ 92 ∧ a ≠ 91 ∧ b ≠ 93 ∧ b ≠ 91 ∧ b ≠ 92)

theorem u8_ne {a b : UInt8} (h : a ≠ b) : a.toNat ≠ b.toNat := fun e => h (UInt8.toNat_inj.1 e)

theorem member_spec (s : ByteArray) (k n : Nat) (a b : UInt8) (h : MemAt (s.data.toList.drop k) a b n) (hs : s.size ≤ 1152921504606846976) (w : World) :
    Calls Tryz.prog 100 #[.string s, .int .i64 k] w fun e w' => ∃ g, e = .returned (.tuple #[.agg (words g), .int .i64 ((k + n : Nat) : Int), .int .i64 0]) ∧ Hid (Span zero4 g a.toNat (b.toNat + 1)) ∧ Below w.heap.size w w' := by
  have two (i : Nat) : s.data.toList.drop (k + i) = (s.data.toList.drop k).drop i := by rw [List.drop_drop]
  rcases h with ⟨rfl, rfl, d, r, e, h1, h2, h3⟩ | ⟨rfl, rfl, d, r, e, h1, h2, h3⟩ | ⟨rfl, hab, r, e, h1, h2, h3, h4, h5⟩
  · obtain ⟨hk, ek⟩ := drop_get e
    have e1 := two 1
    rw [e] at e1
    obtain ⟨hk1, _⟩ := drop_get (s := s) (k := k + 1) e1
    refine member_one s k 1 a.toNat hk (by omega) hs a.toNat_lt (fun w => ?_) ?_ (fun w => goesOn_no _ ?_ w) w
    · have := byteAt_plain s k hk hs (by rw [ek]; exact u8_ne h1) w
      rwa [ek] at this
    · rw [extract_drop, e]
      simp [Lib.hasPrefix, List.isPrefixOf, Ne.symm h2]
    · rw [extract_drop, e1]
      simp [Lib.hasPrefix, List.isPrefixOf, Ne.symm h3]
  · obtain ⟨hk, ek⟩ := drop_get e
    have e1 := two 1
    rw [e] at e1
    obtain ⟨hk1, ek1⟩ := drop_get (s := s) (k := k + 1) e1
    have e2 := two 2
    rw [e] at e2
    obtain ⟨hk2, _⟩ := drop_get (s := s) (k := k + 2) e2
    refine member_one s k 2 a.toNat hk (by omega) hs a.toNat_lt (fun w => ?_) ?_ (fun w => goesOn_no _ ?_ w) w
    · have := byteAt_esc s k hk1 hs (by rw [ek]; rfl) (by rw [ek1]; exact u8_ne h1) (by rw [ek1]; exact u8_ne h2) w
      rwa [ek1] at this
    · rw [extract_drop, e]
      simp [Lib.hasPrefix, List.isPrefixOf]
    · rw [extract_drop, e2]
      simp [Lib.hasPrefix, List.isPrefixOf, Ne.symm h3]
  · obtain ⟨hk, ek⟩ := drop_get e
    have e1 := two 1
    rw [e] at e1
    have e2 := two 2
    rw [e] at e2
    obtain ⟨hk2, ek2⟩ := drop_get (s := s) (k := k + 2) e2
    refine member_range s k a.toNat b.toNat (by omega) hs hab b.toNat_lt (fun w => ?_) ?_ (fun w => goesOn_yes _ ?_ ?_ ?_ w) (fun w => ?_) w
    · have := byteAt_plain s k hk hs (by rw [ek]; exact u8_ne h1) w
      rwa [ek] at this
    · rw [extract_drop, e]
      simp [Lib.hasPrefix, List.isPrefixOf]
    · rw [extract_drop, e1]
      simp [Lib.hasPrefix, List.isPrefixOf]
    · rw [extract_drop, e1]
      simp [Lib.hasPrefix, List.isPrefixOf, Ne.symm h3]
    · rw [extract_drop, e1]
      simp [Lib.hasPrefix, List.isPrefixOf, Ne.symm h4]
    · have := byteAt_plain s (k + 2) hk2 hs (by rw [ek2]; exact u8_ne h5) w
      rwa [ek2] at this

def lenOf : List (UInt8 × UInt8 × Nat) → Nat
  | [] => 0
  | x :: r => x.2.2 + lenOf r
def inItems : List (UInt8 × UInt8 × Nat) → Nat → Bool
  | [], _ => false
  | x :: r, c => (decide (x.1.toNat ≤ c) && decide (c ≤ x.2.1.toNat)) || inItems r c
/-- A text begins with these members, and a ] behind. -/
def Chain : List UInt8 → List (UInt8 × UInt8 × Nat) → Prop
  | _, [] => False
  | l, [x] => MemAt l x.1 x.2.1 x.2.2 ∧ ∃ r, l.drop x.2.2 = 93 :: r
  | l, x :: y :: r => MemAt l x.1 x.2.1 x.2.2 ∧ (∃ d t, l.drop x.2.2 = d :: t ∧ d ≠ 93) ∧ Chain (l.drop x.2.2) (y :: r)

theorem Chain.head {l : List UInt8} {x : UInt8 × UInt8 × Nat} {r : List (UInt8 × UInt8 × Nat)} (h : Chain l (x :: r)) : MemAt l x.1 x.2.1 x.2.2 := by
  cases r with
  | nil => exact h.1
  | cons y r => exact h.1
theorem MemAt.pos {l : List UInt8} {a b : UInt8} {n : Nat} (h : MemAt l a b n) : 1 ≤ n ∧ n ≤ 3 := by
  rcases h with ⟨rfl, _⟩ | ⟨rfl, _⟩ | ⟨rfl, _⟩ <;> omega

structure MInv (s : ByteArray) (k : Nat) (its rest : List (UInt8 × UInt8 × Nat)) (pos : Nat) (g : Nat → Nat) : Prop where
  chain : Chain (s.data.toList.drop pos) rest
  len : pos + lenOf rest = k + lenOf its
  fits : Fits g
  bits : ∀ c, c < 256 → (bit g c || inItems rest c) = inItems its c

set_option maxRecDepth 100000 in
theorem members_spec (s : ByteArray) (k : Nat) (its : List (UInt8 × UInt8 × Nat)) (h : Chain (s.data.toList.drop k) its) (hs : s.size ≤ 1152921504606846976) (w : World) :
    Calls Tryz.prog 99 #[.string s, .int .i64 k] w fun e w' => ∃ g, e = .returned (.tuple #[.agg (words g), .int .i64 ((k + lenOf its + 1 : Nat) : Int), .int .i64 0]) ∧ Hid (Fits g ∧ ∀ c, c < 256 → bit g c = inItems its c) ∧ Below w.heap.size w w' := by
  have HH := Lib.hid h; clear h
  have HM := Lib.hid (fun k n a b h w => member_spec s k n a b h hs w)
  go_enter Tryz.func99, Tryz.ntmps99
  go_wp2_with fail
  obtain ⟨W, hW, Q0, Q1, HB⟩ := boxed2 w zero4 zero4 45 45
  change Code.wp _ _ _ _ ((w.alloc (Obj.cells (words zero4) 45)).alloc (Obj.cells (words zero4) 45))
  rw [← hW]
  clear hW
  go_loopw [1] (fun x wr => ∃ (pos : Nat) (rest : List (UInt8 × UInt8 × Nat)) (g : Nat → Nat), x = .int .i64 pos ∧ pos ≤ s.size ∧ Hid (MInv s k its rest pos g) ∧ Hid (Quad wr w.heap.size zero4) ∧ Hid (Quad wr (w.heap.size + 1) g) ∧ Hid (Below w.heap.size w wr)) (fun x _ => s.size - (intOf x).toNat)
  case atStart =>
    obtain ⟨x, tl, hx⟩ : ∃ x tl, its = x :: tl := by
      cases hi : its with
      | nil => rw [hi] at HH; exact absurd HH.out (by simp [Chain])
      | cons x tl => exact ⟨x, tl, rfl⟩
    have hk : k < s.size := by
      have h := HH.out
      rw [hx] at h
      have h1 := h.head
      rcases Nat.lt_or_ge k s.size with h' | h'
      · exact h'
      · rw [List.drop_eq_nil_of_le (by simpa using h')] at h1
        rcases h1 with ⟨_, _, d, r, e, _⟩ | ⟨_, _, d, r, e, _⟩ | ⟨_, _, r, e, _⟩ <;> cases e
    exact ⟨k, its, zero4, rfl, by omega, Lib.hid ⟨HH.out, rfl, fits_zero, fun c _ => by rw [bit_zero, Bool.false_or]⟩, Q0, Q1, HB⟩
  case round =>
    obtain ⟨pos, rest, g, rfl, hpos, hI, q0, q1, hB⟩ := hrel
    obtain ⟨a, b, n, tl, rfl⟩ : ∃ a b n tl, rest = (a, b, n) :: tl := by
      cases rest with
      | nil => exact absurd hI.out.chain (by simp [Chain])
      | cons x tl => exact ⟨x.1, x.2.1, x.2.2, tl, rfl⟩
    have hm := Lib.hid (hI.out.chain.head)
    have hn := hm.out.pos
    have HE : Hid ((∃ d r, s.data.toList.drop (pos + n) = d :: r) ∧ Lib.hasPrefix (s.extract (pos + n) s.size).data.toList [93] = tl.isEmpty) := by
      refine Lib.hid ?_
      rw [extract_drop]
      have e2 : s.data.toList.drop (pos + n) = (s.data.toList.drop pos).drop n := by rw [List.drop_drop]
      rw [e2]
      have hc := hI.out.chain
      cases tl with
      | nil =>
        obtain ⟨r, hr⟩ := hc.2
        exact ⟨⟨_, _, hr⟩, by rw [hr]; simp [Lib.hasPrefix, List.isPrefixOf]⟩
      | cons y r =>
        obtain ⟨d, t, hr, hd⟩ := hc.2.1
        exact ⟨⟨_, _, hr⟩, by rw [hr]; simp [Lib.hasPrefix, List.isPrefixOf, Ne.symm hd]⟩
    have hpn : pos + n < s.size := by
      obtain ⟨⟨d, r, hr⟩, _⟩ := HE.out
      exact (drop_get hr).1
    have HP := Lib.hid (fun w => hp_spec (s.extract (pos + n) s.size) ⟨#[93]⟩ tl.isEmpty HE.out.2 w)
    go_wp2_with fail
    refine (HM.out pos n a b hm.out _).mono ?_
    rintro e w1 ⟨gp, rfl, hS, b1⟩
    have B1 := Lib.hid b1; clear b1
    simp only [words]
    go_upto_region 5 with (fail)
    obtain ⟨W2, hW2, QP, HB2⟩ := quad_box w1 gp 45
    change Code.wp _ _ _ _ (w1.alloc (Obj.cells (words gp) 45))
    rw [← hW2]
    clear hW2
    have HU := Lib.hid (fun w => union_spec g gp hI.out.fits hS.out.1 w)
    have q0' := Lib.hid ((q0.out.after B1.out).after HB2.out)
    have q1' := Lib.hid ((q1.out.after B1.out).after HB2.out)
    have hB' := Lib.hid (Below.step (Below.step hB.out B1.out) HB2.out)
    clear q0 q1 hB B1 HB2
    have c0 := q1'.out.c 0 (by omega); have c1 := q1'.out.c 1 (by omega); have c2 := q1'.out.c 2 (by omega); have c3 := q1'.out.c 3 (by omega)
    have d0 := QP.out.c 0 (by omega); have d1 := QP.out.c 1 (by omega); have d2 := QP.out.c 2 (by omega); have d3 := QP.out.c 3 (by omega)
    go_wp2_with fail
    refine (HU.out _).mono ?_
    rintro e w3 ⟨rfl, b3⟩
    clear c0 c1 c2 c3 d0 d1 d2 d3
    have q0 := Lib.hid (q0'.out.after b3)
    have q1 := Lib.hid (q1'.out.after b3)
    have hB := Lib.hid (Below.step hB'.out b3)
    clear q0' q1' hB' b3
    have hbits : Hid (∀ c, c < 256 → (bit (orW g gp) c || inItems tl c) = inItems its c) := by
      refine Lib.hid fun c hc => ?_
      have h1 := hI.out.bits c hc
      have h2 := hS.out.2 c hc
      rw [bit_zero, Bool.false_or] at h2
      rw [bit_or, h2, ← h1]
      show _ = (bit g c || ((decide (a.toNat ≤ c) && decide (c ≤ b.toNat)) || inItems tl c))
      rw [show decide (c < b.toNat + 1) = decide (c ≤ b.toNat) from decide_eq_decide.2 (by omega), Bool.or_assoc]
    have hfit := Lib.hid (fits_or hI.out.fits hS.out.1)
    have z0 := q1.out.z 0 (by omega); have z1 := q1.out.z 1 (by omega); have z2 := q1.out.z 2 (by omega); have z3 := q1.out.z 3 (by omega)
    have y0 := q1.out.c 0 (by omega); have y1 := q1.out.c 1 (by omega); have y2 := q1.out.c 2 (by omega); have y3 := q1.out.c 3 (by omega)
    simp only [words]
    go_upto_region 6 with (fail)
    clear y0 y1 y2 y3 z0 z1 z2 z3
    obtain ⟨W4, hW4, r0, r1, rB⟩ : ∃ W4, W4 = put4 w3 (w.heap.size + 1) (orW g gp) ∧ Hid (Quad W4 w.heap.size zero4) ∧ Hid (Quad W4 (w.heap.size + 1) (orW g gp)) ∧ Hid (Below w.heap.size w W4) :=
      ⟨_, rfl, Lib.hid (q0.out.put4_other (by omega) _), Lib.hid (q1.out.put4 _), Lib.hid (below_put4 hB.out (by omega) _)⟩
    change Code.wp _ _ _ _ (put4 w3 (w.heap.size + 1) (orW g gp))
    rw [← hW4]
    clear hW4 q0 q1 hB
    go_wp2_with fail
    refine (HP.out _).mono ?_
    rintro e w5 ⟨rfl, rfl⟩
    cases tl with
    | nil =>
      have hlen : pos + n = k + lenOf its := by have := hI.out.len; simpa [lenOf] using this
      have c0 := r1.out.c 0 (by omega); have c1 := r1.out.c 1 (by omega); have c2 := r1.out.c 2 (by omega); have c3 := r1.out.c 3 (by omega)
      have z0 := r0.out.z 0 (by omega); have z1 := r0.out.z 1 (by omega); have z2 := r0.out.z 2 (by omega); have z3 := r0.out.z 3 (by omega)
      have y0 := r0.out.c 0 (by omega); have y1 := r0.out.c 1 (by omega); have y2 := r0.out.c 2 (by omega); have y3 := r0.out.c 3 (by omega)
      have HL := Lib.hid hlen; clear hlen
      go_wp2_with fail
      obtain ⟨e0, e1, e2, e3⟩ := put4_reads r0.out (orW g gp)
      unfold put4 at e0 e1 e2 e3
      refine bodyPost_ret (v := .tuple #[.agg (words (orW g gp)), .int .i64 ((pos + n + 1 : Nat) : Int), .int .i64 0]) (by simp [results, Tryz.results99, go_sem, e0, e1, e2, e3, words]) rfl ⟨orW g gp, by rw [HL.out], Lib.hid ⟨hfit.out, fun c hc => ?_⟩, below_put4 rB.out (by omega) _⟩
      have := hbits.out c hc
      rwa [show inItems [] c = false from rfl, Bool.or_false] at this
    | cons y r =>
      have hch := Lib.hid hI.out.chain.2.2
      have hlen : pos + n + lenOf (y :: r) = k + lenOf its := by have := hI.out.len; simp only [lenOf] at this ⊢; omega
      go_wp2_with fail
      go_roundw
      case rel =>
        refine ⟨pos + n, y :: r, orW g gp, by go_num, by omega, Lib.hid ⟨?_, hlen, hfit.out, hbits.out⟩, r0, r1, rB⟩
        have := hch.out
        rwa [List.drop_drop] at this
      case measure => simp [intOf]; omega
end Go.Proofs.YtimipfdknfdbdaaGreatDoor

/- What memory keeps behind a row's store. -/
namespace Go.Proofs.YtimipfdknfdbdaaGreatDoor
open Go.RowKit

theorem At.setRowS {V : World} {S : Nat → Prop} {g : Nat} {t : Tree} {cs : Array Value} (h : At V S t cs) (hg : ¬ S g) (ds : Array Value) : At (V.setRow g ds) S t cs :=
  h.keep fun _ hk _ => Go.setRow_other _ _ _ _ (fun e => hg (e ▸ hk))
theorem At.setRow {V : World} {C g : Nat} {t : Tree} {cs : Array Value} (h : At V (Up C) t cs) (hg : g < C) (ds : Array Value) : At (V.setRow g ds) (Up C) t cs := h.setRowS (by unfold Up; omega) ds
theorem But.setRow {p g : Nat} {w V : World} (h : But p w V) (hg : w.heap.size ≤ g) (ds : Array Value) : But p w (V.setRow g ds) :=
  ⟨h.os, h.tape, h.output, by have := h.size; simpa [World.setRow] using this, fun k hk hp => by rw [Go.setRow_other _ _ _ _ (by omega)]; exact h.block k hk hp⟩
theorem Rdr.setRow {p g : Nat} {V : World} {s : ByteArray} {k d : Nat} (h : Rdr V p s k d) (hg : p ≠ g) (ds : Array Value) : Rdr (V.setRow g ds) p s k d :=
  ⟨by rw [Go.setRow_other _ _ _ _ hg]; exact h.row⟩

theorem Box.put {w : World} {b : Nat} {cs : Array Value} (h : Box w b cs) (j : Nat) (v : Value) : Box (w.setCell ⟨b, j, none⟩ v) b (cs.setIfInBounds j v) :=
  ⟨by rw [heap_setCell_same _ _ j _ _ _ h.row]⟩
theorem Box.other {w : World} {b : Nat} {cs : Array Value} (h : Box w b cs) {c : Nat} (hc : b ≠ c) (j : Nat) (v : Value) : Box (w.setCell ⟨c, j, none⟩ v) b cs :=
  ⟨by rw [heap_setCell_other _ _ _ _ hc]; exact h.row⟩
theorem Box.drew {w : World} {b : Nat} {cs : Array Value} (h : Box w b cs) : Box w.drew b cs := h.after (below_drew w)

end Go.Proofs.YtimipfdknfdbdaaGreatDoor

/- What a part of the reading comes to. -/
namespace Go.Proofs.YtimipfdknfdbdaaGreatDoor.E5
open Go.Proofs.YtimipfdknfdbdaaGreatDoor Go.Proofs
open Go.RowKit

/-- A tree was read. -/
def Went (p : Nat) (s : ByteArray) (k d : Nat) (t : Tree) (w : World) (e : Ending) (w' : World) : Prop :=
  ∃ cs, e = .returned (.agg cs) ∧ At w' (Up w.heap.size) t cs ∧ Rdr w' p s k d ∧ But p w w'
/-- The reading was given up: too many brackets. -/
def Fell (p : Nat) (w : World) (e : Ending) (w' : World) : Prop :=
  ∃ a : Int, e = .panicked [{ v := .iface 74 (.agg #[.int .i64 a, .int .i64 2]), recovered := false }] ∧ But p w w'
def PartAt (f : Nat) (ok : List UInt8 → Prop) (l : List UInt8) (t : Tree) (n : Nat) : Prop :=
  ∀ (s : ByteArray) (k d p : Nat) (w : World) (rest : List UInt8), s.data.toList.drop k = l ++ rest → ok rest → s.size ≤ 400 → k ≤ s.size → d ≤ 20 → Rdr w p s k d →
    (d + n ≤ 20 → Calls Tryz.prog f #[.pointer (some ⟨p, 0, none⟩)] w (Went p s (k + l.length) d t w)) ∧ (20 < d + n → Calls Tryz.prog f #[.pointer (some ⟨p, 0, none⟩)] w (Fell p w))
def AtomAt := PartAt 69 (fun _ => True)
def PieceAt := PartAt 57 (fun r => ∀ c, r.head? = some c → c ∉ [42, 43, 63, 123])
def BranchAt := PartAt 37 (fun r => r = [] ∨ r.head? = some 124 ∨ r.head? = some 41)
def PatternAt := PartAt 27 (fun r => r = [] ∨ r.head? = some 41)

theorem went_end {p g : Nat} {w V : World} {s : ByteArray} {k d : Nat} {t : Tree} {cs : Array Value} (hat : At (V.setRow g cs) (Up w.heap.size) t cs) (R : Rdr V p s k d) (B : But p w V) (hg : w.heap.size ≤ g) (hp : p < w.heap.size) :
    Went p s k d t w (.returned (.agg cs)) (V.setRow g cs) :=
  ⟨cs, rfl, hat, R.setRow (by omega) _, B.setRow hg _⟩

/-- The bytes that are no atoms by themselves. -/
def plainB (c : UInt8) : Bool := !([40, 91, 92, 42, 43, 63, 123, 46, 94, 36] : List UInt8).contains c
theorem plainB_ne : ∀ c : Fin 256, plainB c.val.toUInt8 = true → ((c.val : Int) == 40) = false ∧ ((c.val : Int) == 91) = false ∧ ((c.val : Int) == 92) = false ∧ ((c.val : Int) == 42) = false ∧ ((c.val : Int) == 43) = false ∧ ((c.val : Int) == 63) = false ∧ ((c.val : Int) == 123) = false ∧ ((c.val : Int) == 46) = false ∧ ((c.val : Int) == 94) = false ∧ ((c.val : Int) == 36) = false := by decide +kernel

set_option maxRecDepth 100000 in
theorem atom_byte (c : UInt8) (hp : plainB c = true) : AtomAt [c] (oneT c.toNat) 0 := by
  intro s k d p w rest hdrop _ hs _ hd hr
  refine ⟨fun _ => ?_, fun h => by omega⟩
  obtain ⟨hk, ek⟩ := drop_get hdrop
  have HN := Lib.hid (plainB_ne ⟨c.toNat, UInt8.toNat_lt c⟩ (by simpa using hp))
  rw [← ek] at HN ⊢
  have HA := Lib.hid (fun w => ofByte_spec s[k].toNat (UInt8.toNat_lt _) w)
  have HI := info_re
  clear hdrop hp ek
  go_enter Tryz.func69, Tryz.ntmps69
  go_upto_region 1 with (fail)
  obtain ⟨W, hW, hX, hB, _⟩ := re_box w zeroR
  change Code.wp _ _ _ _ (w.alloc (Obj.cells zeroR 48))
  rw [← hW]
  clear hW
  have R := Lib.hid (hr.after hB.out)
  have c0 := R.out.c0; have c1 := R.out.c1; have z1 := R.out.z 1
  go_upto_region 4 with (fail)
  obtain ⟨V, hV, R1, X1, B1⟩ : ∃ V, V = W.setCell ⟨p, 1, none⟩ (.int .i64 ((k : Int) + 1)) ∧ Hid (Rdr V p s (k + 1) d) ∧ Hid (Box V w.heap.size zeroR) ∧ Hid (But p w V) :=
    ⟨_, rfl, Lib.hid (R.out.put1 (k + 1)), Lib.hid (hX.out.but (but_put _ _ _ _) (by have := hr.lt; omega)), Lib.hid ((But.of hB.out).put _ _)⟩
  rw [← hV]
  clear hV c0 c1 z1
  obtain ⟨n0, n1, n2, n3, n4, n5, n6, n7, n8, n9⟩ := HN.out
  go_wp2_with fail
  refine (HA.out _).mono ?_
  rintro e w1 ⟨rfl, b1⟩
  have X2 := Lib.hid (X1.out.after b1)
  have R2 := Lib.hid (R1.out.after b1)
  have B2 := Lib.hid (B1.out.then b1)
  clear b1
  go_wp2_with (refine wpList_store_row rfl 48 (.tmp 2) (.tmp 57) rfl w.heap.size (reC 1 (oneF s[k].toNat) 0 0 (.slice none 0 0)) rfl rfl 48 zeroR X2.out.row HI rfl (re_one _ _ _ _ _ _ _) ?_)
  refine bodyPost_ret (v := .agg (reC 1 (oneF s[k].toNat) 0 0 (.slice none 0 0))) (results_cell_row (by rfl) _ _ w.heap.size 48 _ (0, 0) _ (by rfl) (X2.out.setRow _).row Tryz.underlying48 (by rfl) HI) rfl ?_
  exact went_end (.leaf _ _ _ _ _ _) R2.out B2.out (Nat.le_refl _) hr.lt
end Go.Proofs.YtimipfdknfdbdaaGreatDoor.E5
