/- Merged by program: T2Rune, FAtW, FTake, Build, Writer. -/
import Derived.WalkMore
import Derived.IntWalk
import Derived.Laws.Tables
import Derived.Laws.Externs
import Derived.Lib.FrozenHead2
import Derived.Test.YtcojnkjcbopnbaaGreatDoorQjae
import Derived.Test.YtcojnkjcbopnbaaGreatDoorQjac
import Derived.Test.YtcojnkjcbopnbaaGreatDoorQjab
import Derived.Test.YtcojnkjcbopnbaaGreatDoorQjad
import Derived.Test.YtcojnkjcbopnbaaGreatDoorQjaa
/- A rune beyond ASCII is no blank: strings.IndexRune, ContainsRune at the blanks; the closure of Words. -/
namespace Go.Proofs.YtcojnkjcbopnbaaGreatDoor.T2
open Go.Proofs.YtcojnkjcbopnbaaGreatDoor Go.Proofs
open Go.RowKit

set_option maxRecDepth 100000 in
set_option maxHeartbeats 1000000 in
theorem rune_bad (r : Nat) (h1 : 55296 ≤ r) (h2 : r ≤ 57343) (w : World) :
    Calls Tryz.prog 75 #[.string ⟨#[32, 9, 10]⟩, .int .i32 r] w fun e w' => e = .returned (.int .i64 (-1)) ∧ Below w.heap.size w w' := by
  have hv := fun w => Tryz.utf8_ValidRune r w
  rw [show Lib.validRune r = false from by unfold Lib.validRune; simp; omega] at hv
  have HV := Lib.hid hv; clear hv
  have hne : ((r : Int) == 65533) = false := by rw [beq_eq_false_iff_ne]; omega
  go_enter Tryz.func75, Tryz.ntmps75
  go_wp2_with fail
  refine (HV.out _).mono ?_
  rintro e w1 ⟨rfl, rfl⟩
  go_wp2_with fail
  go_ret
  exact ⟨rfl, Below.refl _ _⟩

theorem blanks_next (w : World) (ty : TypeId) :
    ((Instr.next (.pointer (some ⟨w.heap.size, 0, none⟩)) true ty).run Tryz.prog (w.iter ⟨#[32, 9, 10]⟩ 0) = .ok (.tuple #[.bool true, .int .i64 0, .int .i32 32]) (w.iter ⟨#[32, 9, 10]⟩ 1)) ∧
    ((Instr.next (.pointer (some ⟨w.heap.size, 0, none⟩)) true ty).run Tryz.prog (w.iter ⟨#[32, 9, 10]⟩ 1) = .ok (.tuple #[.bool true, .int .i64 1, .int .i32 9]) (w.iter ⟨#[32, 9, 10]⟩ 2)) ∧
    ((Instr.next (.pointer (some ⟨w.heap.size, 0, none⟩)) true ty).run Tryz.prog (w.iter ⟨#[32, 9, 10]⟩ 2) = .ok (.tuple #[.bool true, .int .i64 2, .int .i32 10]) (w.iter ⟨#[32, 9, 10]⟩ 3)) :=
  ⟨run_next_any w ⟨#[32, 9, 10]⟩ 0 ty (by decide), run_next_any w ⟨#[32, 9, 10]⟩ 1 ty (by decide), run_next_any w ⟨#[32, 9, 10]⟩ 2 ty (by decide)⟩

set_option maxRecDepth 100000 in
set_option maxHeartbeats 1000000 in
theorem rune_error (w : World) :
    Calls Tryz.prog 75 #[.string ⟨#[32, 9, 10]⟩, .int .i32 65533] w fun e w' => e = .returned (.int .i64 (-1)) ∧ Below w.heap.size w w' := by
  go_enter Tryz.func75, Tryz.ntmps75
  go_wp2_with fail
  go_loopw [6] (fun _ wr => ∃ pos : Nat, wr = w.iter ⟨#[32, 9, 10]⟩ pos ∧ pos ≤ 3) (fun _ wr => 3 - wr.iterPos w.heap.size)
  case atStart => exact ⟨0, rfl, by omega⟩
  case round =>
    obtain ⟨pos, rfl, hp⟩ := hrel
    have hcs : pos = 0 ∨ pos = 1 ∨ pos = 2 ∨ pos = 3 := by omega
    rcases hcs with rfl | rfl | rfl | rfl
    · have hnx := fun ty => (blanks_next w ty).1
      go_wp2_with fail
      go_roundw
      case rel => exact ⟨1, rfl, by omega⟩
      case measure => simp only [World.iterPos_iter]; omega
    · have hnx := fun ty => (blanks_next w ty).2.1
      go_wp2_with fail
      go_roundw
      case rel => exact ⟨2, rfl, by omega⟩
      case measure => simp only [World.iterPos_iter]; omega
    · have hnx := fun ty => (blanks_next w ty).2.2
      go_wp2_with fail
      go_roundw
      case rel => exact ⟨3, rfl, by omega⟩
      case measure => simp only [World.iterPos_iter]; omega
    · have hnx : ∀ ty, (Instr.next (.pointer (some ⟨w.heap.size, 0, none⟩)) true ty).run Tryz.prog (w.iter ⟨#[32, 9, 10]⟩ 3) = _ := fun ty => run_next_end w ⟨#[32, 9, 10]⟩ 3 ty (by decide)
      go_wp2_with fail
      go_ret
      exact ⟨rfl, below_iter _ _ _⟩

/-! ### Runes of two, three and four bytes -/
theorem byte_high {n : Nat} (h : n < 128) : (UInt8.ofNat (128 + n)).toNat = 128 + n := by
  rw [UInt8.toNat_ofNat']; omega

theorem enc_two (r : Nat) (h1 : 128 ≤ r) (h2 : r < 2048) : ∃ a b : UInt8, Utf8.encode r = ⟨#[a, b]⟩ ∧ 128 ≤ b.toNat := by
  have hv : Utf8.valid r = true := by unfold Utf8.valid; simp; omega
  refine ⟨UInt8.ofNat (192 + r / 64), UInt8.ofNat (128 + r % 64), ?_, by rw [byte_high (by omega)]; omega⟩
  unfold Utf8.encode
  simp only [hv, if_true, Int.toNat_natCast]
  rw [if_neg (by omega), if_pos (by omega)]

theorem enc_three (r : Nat) (hv : Utf8.valid r = true) (h1 : 2048 ≤ r) (h2 : r < 65536) : ∃ a b c : UInt8, Utf8.encode r = ⟨#[a, b, c]⟩ ∧ 128 ≤ c.toNat := by
  refine ⟨UInt8.ofNat (224 + r / 4096), UInt8.ofNat (128 + r / 64 % 64), UInt8.ofNat (128 + r % 64), ?_, by rw [byte_high (by omega)]; omega⟩
  unfold Utf8.encode
  simp only [hv, if_true, Int.toNat_natCast]
  rw [if_neg (by omega), if_neg (by omega), if_pos (by omega)]

theorem enc_four (r : Nat) (hv : Utf8.valid r = true) (h1 : 65536 ≤ r) : ∃ a b c d : UInt8, Utf8.encode r = ⟨#[a, b, c, d]⟩ ∧ 128 ≤ d.toNat := by
  refine ⟨UInt8.ofNat (240 + r / 262144), UInt8.ofNat (128 + r / 4096 % 64), UInt8.ofNat (128 + r / 64 % 64), UInt8.ofNat (128 + r % 64), ?_, by rw [byte_high (by omega)]; omega⟩
  unfold Utf8.encode
  simp only [hv, if_true, Int.toNat_natCast]
  rw [if_neg (by omega), if_neg (by omega), if_neg (by omega)]

theorem index_high (c : Int) (h1 : 128 ≤ c) (h2 : c < 256) (l : List UInt8) (hl : ∀ b ∈ l, b.toNat < 128) : Lib.indexByte l c.toNat.toUInt8 = -1 := by
  induction l with
  | nil => rfl
  | cons b l ih =>
    have hb := hl b (List.mem_cons_self ..)
    have hne : (b == c.toNat.toUInt8) = false := by
      rw [beq_eq_false_iff_ne]
      rintro rfl
      have : (c.toNat.toUInt8).toNat = c.toNat := by
        show (UInt8.ofNat c.toNat).toNat = _
        rw [UInt8.toNat_ofNat']; omega
      omega
    unfold Lib.indexByte
    rw [hne, ih (fun x hx => hl x (List.mem_cons_of_mem _ hx))]
    rfl

/-- A call that turns nothing, met behind some draws and so many more. -/
theorem still_call {P : Program} {f : FuncId} {args : Array Value} {w : World} {a n : Nat} {v : Value}
    (h : Calls P f args (w.drewN (a + n)) fun e w' => e = .returned v ∧ w' = w.drewN (a + n)) :
    Calls P f args (w.drewN (a + n)) fun e w' => e = .returned v ∧ ∃ k, w' = w.drewN (a + k) :=
  h.mono fun _ _ ⟨he, hw⟩ => ⟨he, n, hw⟩

/-- The bytes of a rune beyond ASCII: two to four, the last one beyond ASCII. -/
theorem enc_high (r : Nat) (hv : Utf8.valid r = true) (h1 : 128 ≤ r) : ∃ (rs : ByteArray) (L : Nat) (hL : L < rs.size), Utf8.encode r = rs ∧ rs.size = L + 1 ∧ 1 ≤ L ∧ L ≤ 3 ∧ 128 ≤ (rs[L]'hL).toNat := by
  rcases Nat.lt_or_ge r 2048 with h2 | h2
  · obtain ⟨a, b, he, hb⟩ := enc_two r h1 h2
    exact ⟨⟨#[a, b]⟩, 1, Nat.lt_succ_self 1, he, rfl, by omega, by omega, hb⟩
  · rcases Nat.lt_or_ge r 65536 with h3 | h3
    · obtain ⟨a, b, c, he, hb⟩ := enc_three r hv h2 h3
      exact ⟨⟨#[a, b, c]⟩, 2, Nat.lt_succ_self 2, he, rfl, by omega, by omega, hb⟩
    · obtain ⟨a, b, c, d, he, hb⟩ := enc_four r hv h3
      exact ⟨⟨#[a, b, c, d]⟩, 3, Nat.lt_succ_self 3, he, rfl, by omega, by omega, hb⟩

set_option maxRecDepth 100000 in
set_option maxHeartbeats 1000000 in
theorem rune_high (s : ByteArray) (ha : ∀ b ∈ s.data.toList, b.toNat < 128) (r : Nat) (h1 : 128 ≤ r) (h2 : r ≤ 1114111) (h3 : r ≠ 65533) (hv0 : r < 55296 ∨ 57343 < r) (w : World) :
    Calls Tryz.prog 75 #[.string s, .int .i32 r] w fun e w' => e = .returned (.int .i64 (-1)) ∧ Below w.heap.size w w' := by
  have hv := fun w => Tryz.utf8_ValidRune r w
  rw [show Lib.validRune r = true from by unfold Lib.validRune; simp; omega] at hv
  have HV := Lib.hid hv; clear hv
  obtain ⟨rs, L, hL, henc, hsz, hL1, hL3, hlast⟩ := enc_high r (by unfold Utf8.valid; simp; omega) h1
  have hne : ((r : Int) == 65533) = false := by rw [beq_eq_false_iff_ne]; omega
  have hge : decide ((r : Int) < 128) = false := by simp; omega
  have hL8 := rs[L].toNat_lt
  have IB := Lib.hid (fun w => show Calls Tryz.prog 105 #[.string (s.extract (L + 1) s.size), .int .u8 (rs[L].toNat : Int)] w fun e w' => e = .returned (.int .i64 (-1)) ∧ w' = w from by
    have h := Tryz.strings_IndexByte (s.extract (L + 1) s.size) (rs[L].toNat : Int) w
    rw [index_high (rs[L].toNat : Int) (by omega) (by omega) _ (by
      intro b hb
      rw [Lib.extract_data] at hb
      exact ha b (List.mem_of_mem_drop (List.mem_of_mem_take hb)))] at h
    exact h)
  by_cases hlt : L < s.size
  · have hsb : s[L].toNat < 128 := ha _ (by
      have : s[L] = s.data.toList[L]'(by rw [← Lib.size_eq]; exact hlt) := rfl
      rw [this]; exact List.getElem_mem _)
    have hb2 : ((s[L].toNat : Int) == (rs[L].toNat : Int)) = false := by rw [beq_eq_false_iff_ne]; omega
    have hb3 : ((s[L].toNat : Int) != (rs[L].toNat : Int)) = true := by rw [bne_iff_ne]; omega
    clear hsb hlast hL8 ha h1 h2 h3 hv0
    go_enter Tryz.func75, Tryz.ntmps75
    go_wp2_with fail
    refine (HV.out _).mono ?_
    rintro e w1 ⟨rfl, rfl⟩
    go_wp2_with fail
    go_step3
    go_wp2_with fail
    have hi2 : (L : Int) < rs.size := by omega
    clear henc hne hge hsz
    go_loopw [9] (fun x wr => x = .int .i64 L ∧ wr = w1) (fun _ _ => 0)
    case atStart => exact ⟨rfl, rfl⟩
    case round =>
      obtain ⟨rfl, rfl⟩ := hrel
      have hi0 : (0 : Int) ≤ L := by omega
      have hi1 : (L : Int) < s.size := by omega
      go_wp2_with fail
      go_step3
      go_wp2_with fail
      go_quiet (fail)
      go_wp2_with fail
      have s1 : IntKind.i64.wrap ((L : Int) + 1) = (L : Int) + 1 := IntWalk.i64_in _ (by omega)
      have s2 : (0 : Int) ≤ (L : Int) + 1 := by omega
      have s3 : ((L : Int) + 1).toNat = L + 1 := by omega
      have s4 : L + 1 ≤ s.size := by omega
      clear hb2 hb3
      go_quiet ((go_at_call 105; exact still_call (IB.out _)))
      clear s1 s2 s3 s4
      go_wp2_with fail
      rw [Exit.noGoto_ret]
      go_wp2_with fail
      rw [Exit.noGoto_ret]
      go_ret
      exact ⟨rfl, Below.drewN' (Below.refl _ _) _⟩
  · clear hlast hL8 ha h1 h2 h3 hv0
    go_enter Tryz.func75, Tryz.ntmps75
    go_wp2_with fail
    refine (HV.out _).mono ?_
    rintro e w1 ⟨rfl, rfl⟩
    go_wp2_with fail
    go_step3
    go_wp2_with fail
    clear henc hne hge
    go_loopw [9] (fun x wr => x = .int .i64 L ∧ wr = w1) (fun _ _ => 0)
    case atStart => exact ⟨rfl, rfl⟩
    case round =>
      obtain ⟨rfl, rfl⟩ := hrel
      go_wp2_with fail
      rw [Exit.noGoto_ret]
      go_ret
      exact ⟨rfl, Below.refl _ _⟩

/-! ### The predicate -/
def blankR (r : Nat) : Bool := r == 32 || r == 9 || r == 10

theorem high_any (r : Nat) (h1 : 128 ≤ r) (h2 : r ≤ 1114111) (w : World) :
    Calls Tryz.prog 75 #[.string ⟨#[32, 9, 10]⟩, .int .i32 r] w fun e w' => e = .returned (.int .i64 (-1)) ∧ Below w.heap.size w w' := by
  by_cases h3 : r = 65533
  · subst h3; exact rune_error w
  · by_cases h4 : 55296 ≤ r ∧ r ≤ 57343
    · exact rune_bad r h4.1 h4.2 w
    · exact rune_high ⟨#[32, 9, 10]⟩ (by decide) r h1 h2 h3 (by omega) w

theorem low_blank : ∀ r : Fin 128, (decide (0 ≤ Lib.indexByte [32, 9, 10] (UInt8.ofNat r.val))) = blankR r.val := by decide

set_option maxRecDepth 100000 in
theorem contains_any (r : Nat) (h2 : r ≤ 1114111) (w : World) :
    Calls Tryz.prog 51 #[.string ⟨#[32, 9, 10]⟩, .int .i32 r] w fun e w' => e = .returned (.bool (blankR r)) ∧ Below w.heap.size w w' := by
  rcases Nat.lt_or_ge r 128 with h | h
  · refine (Tryz.strings_ContainsRune_ascii ⟨#[32, 9, 10]⟩ r w (by omega) (by omega)).mono ?_
    rintro e w' ⟨rfl, rfl⟩
    refine ⟨?_, Below.refl _ _⟩
    have hl := low_blank ⟨r, h⟩
    rw [← hl]
    rfl
  · have hb : blankR r = false := by
      unfold blankR
      simp only [Bool.or_eq_false_iff, beq_eq_false_iff_ne]
      omega
    rw [hb]
    have H := Lib.hid (fun w => high_any r h h2 w)
    clear hb h h2
    go_enter Tryz.func51, Tryz.ntmps51
    go_wp2_with fail
    refine (H.out _).mono ?_
    rintro e w1 ⟨rfl, b1⟩
    have B1 := Lib.hid b1; clear b1
    go_wp2_with fail
    go_ret
    exact ⟨rfl, B1.out⟩

set_option maxRecDepth 100000 in
theorem closure_any (r : Nat) (h2 : r ≤ 1114111) (w : World) :
    Calls Tryz.prog 50 #[.int .i32 r] w fun e w' => e = .returned (.bool (blankR r)) ∧ Below w.heap.size w w' := by
  have H := Lib.hid (fun w => contains_any r h2 w)
  clear h2
  generalize blankR r = x at *
  go_enter Tryz.func50, Tryz.ntmps50
  go_wp2_with fail
  refine (H.out _).mono ?_
  rintro e w1 ⟨rfl, b1⟩
  have B1 := Lib.hid b1; clear b1
  go_wp2_with fail
  go_ret
  exact ⟨rfl, B1.out⟩

theorem words_pred (w : World) : PredGrows Tryz.prog 50 #[] blankR w :=
  fun W x hx _ => closure_any x hx W

set_option maxRecDepth 100000 in
theorem words_any (s : ByteArray) (hs : s.size ≤ 4294967296) (w : World) :
    Calls Tryz.prog 32 #[.string s] w fun e w' => ∃ p c, e = .returned (.slice p (Lib.goFieldsP blankR s).length c) ∧ NewStrs w w' (.slice p (Lib.goFieldsP blankR s).length c) (Lib.goFieldsP blankR s) ∧ Below w.heap.size w w' := by
  have H := Lib.hid (fun w => Tryz.strings_FieldsFunc_grows 50 #[] (enters_of Tryz.func50 (by kernel_rfl) rfl) blankR s w hs (words_pred w))
  clear hs
  go_enter Tryz.func32, Tryz.ntmps32
  go_wp2_with fail
  refine (H.out _).mono ?_
  rintro e w1 ⟨A, rfl, _, hown, b1⟩
  have B1 := Lib.hid b1; clear b1
  have HR : Hid (NewStrs w w1 _ (Lib.goFieldsP blankR s)) := Lib.hid hown; clear hown
  go_wp2_with fail
  go_ret
  exact ⟨_, _, rfl, HR.out, B1.out⟩

end Go.Proofs.YtcojnkjcbopnbaaGreatDoor.T2

/- subst.At at a blank: a walk. -/
namespace Go.Proofs.YtcojnkjcbopnbaaGreatDoor
open Go.RowKit

/-- None of the texts is longer. -/
def Short (m : Nat) (l : List ByteArray) : Prop := ∀ x ∈ l, x.size ≤ m

theorem short_words (p : Nat → Bool) (s : ByteArray) : Short s.size (Lib.goFieldsP p s) := by
  intro x hx
  have hx' : x ∈ (Lib.spansOfP p s).map fun x => s.extract x.1 x.2 := hx
  obtain ⟨y, _, rfl⟩ := List.mem_map.1 hx'
  simp only [ByteArray.size_extract]
  omega

/-- What At tells: texts, or why there are none. -/
def AtOut (F : Prop) (Q : List ByteArray → Prop) (w : World) (e : Ending) (w' : World) : Prop :=
  Below w.heap.size w w' ∧ ((F ∧ ∃ a y : Int, y ≠ 0 ∧ e = .returned (.tuple #[.slice none 0 0, .int .i64 a, .int .i64 y])) ∨
    (∃ p n c l, e = .returned (.tuple #[.slice p n c, .int .i64 0, .int .i64 0]) ∧ Hid (NewStrs w w' (.slice p n c) l ∧ n = l.length ∧ Q l)))

set_option maxRecDepth 100000 in
theorem at_words (s sep : ByteArray) (hsep : sep.toList = [32]) (hs : s.size ≤ 4294967296) (w : World) :
    Calls Tryz.prog 20 #[.string s, .string sep] w (AtOut False (fun l => l = Lib.goFieldsP T2.blankR s) w) := by
  have HW := Lib.hid (T2.words_any s hs w)
  have b32 : (sep.toList == [32]) = true := beq_iff_eq.2 hsep
  go_enter Tryz.func20, Tryz.ntmps20
  go_wp2_with fail
  refine HW.out.mono ?_
  rintro e w1 ⟨p, c, rfl, h1, b1⟩
  have H1 := Lib.hid h1
  have B1 := Lib.hid b1
  clear h1 b1
  go_wp2_with fail
  go_ret3
  exact ⟨B1.out, Or.inr ⟨p, _, c, _, rfl, Lib.hid ⟨H1.out, rfl, rfl⟩⟩⟩
end Go.Proofs.YtcojnkjcbopnbaaGreatDoor

/- fields.Rec.Take: a walk, by a contract of subst.At. -/
namespace Go.Proofs.YtcojnkjcbopnbaaGreatDoor
open Go.RowKit

theorem info_rec : (Tryz.prog.info? 49).map (·.size) = some 4 := by kernel_rfl

theorem rec_one (a : Option Addr) (n c : Nat) (s : ByteArray) : (#[.slice a n c, .string s, .bool false, .string ⟨#[]⟩] : Array Value).all (·.oneCell') = true := by simp [Value.oneCell']

/-- What Take tells: why not, or a record with its fields. -/
def TakeOut (F : Prop) (p : Nat) (Q : List ByteArray → Prop) (s : ByteArray) (w : World) (e : Ending) (w' : World) : Prop :=
  Below p w w' ∧ ((∃ y : Int, y ≠ 0 ∧ e = .returned (.int .i64 y) ∧ (F ∨ ∃ l, Q l ∧ 100 < l.length)) ∨ (e = .returned (.int .i64 0) ∧ ∃ v l, RecF w' p v l s false emptyB ∧ l.length ≤ 100 ∧ Q l))

set_option maxRecDepth 100000 in
theorem take_spec (F : Prop) (Q : List ByteArray → Prop) (p : Nat) (v : Value) (l : List ByteArray) (t : ByteArray) (st : Bool) (o s fs : ByteArray) (w : World) (h : RecF w p v l t st o) (hA : Calls Tryz.prog 20 #[.string s, .string fs] w (AtOut F Q w)) :
    Calls Tryz.prog 11 #[.pointer (some ⟨p, 0, none⟩), .string s, .string fs] w (TakeOut F p Q s w) := by
  have H := Lib.hid h
  have HA := Lib.hid hA
  have HI := info_rec
  have HLT : Hid (p < w.heap.size) := Lib.hid h.mem.lt
  clear h hA
  go_enter Tryz.func11, Tryz.ntmps11
  go_wp2_with fail
  refine HA.out.mono ?_
  rintro e w1 ⟨b1, ⟨hF, a, y, hy, rfl⟩ | ⟨q, n, c, m, rfl, hq⟩⟩
  · have HF := Lib.hid hF
    have n0 : (y != 0) = true := by simpa using hy
    have HY := Lib.hid hy
    have B1 := Lib.hid b1
    clear b1 hy hF
    go_wp2_with fail
    go_ret
    exact ⟨B1.out.mono (Nat.le_of_lt HLT.out), Or.inl ⟨y, HY.out, rfl, Or.inl HF.out⟩⟩
  · obtain ⟨hn, rfl, hQ⟩ := hq.out
    have HN := Lib.hid hn
    have HQ := Lib.hid hQ
    have B1 := Lib.hid b1
    clear b1 hn hQ hq
    by_cases h100 : m.length ≤ 100
    · have d1 : decide ((100 : Int) < (m.length : Int)) = false := decide_eq_false (by omega)
      have H1 := Lib.hid (H.out.after B1.out)
      have hrow : Hid (w1.heap[p]? = some (.cells #[v, .string t, .bool st, .string o] 49 (0, 0))) := Lib.hid H1.out.mem.row
      obtain ⟨old, hold⟩ : ∃ old : Array Value, old = #[v, .string t, .bool st, .string o] := ⟨_, rfl⟩
      have HO : Hid (w1.heap[p]? = some (.cells old 49 (0, 0)) ∧ old.size = 4) := Lib.hid ⟨by rw [hold]; exact hrow.out, by rw [hold]; rfl⟩
      clear hold hrow
      go_wp2_with (refine wpList_store_row rfl 49 (.tmp 27) (.tmp 26) rfl p #[.slice q m.length c, .string s, .bool false, .string ⟨#[]⟩] rfl rfl 49 old HO.out.1 HI HO.out.2 (rec_one _ _ _ _) ?_)
      go_ret
      refine ⟨below_setRow (B1.out.mono (Nat.le_of_lt HLT.out)) (Nat.le_refl _) _, Or.inr ⟨rfl, .slice q m.length c, m, ⟨⟨setRow_heap w1 p old _ _ _ HO.out.1⟩, ?_⟩, h100, HQ.out⟩⟩
      have hO : w1.ownsRow (p + 1) 9 1 (.slice q m.length c) m.length (m.map Value.string) := own_low HN.out HLT.out
      refine ⟨hO.1, ?_⟩
      rcases hO.2 with h0 | ⟨g', cap', cur', e1, hbg, hg, rest⟩
      · exact Or.inl h0
      · exact Or.inr ⟨g', cap', cur', e1, hbg, by rw [setRow_other _ _ _ _ (by omega)]; exact hg, rest⟩
    · have d1 : decide ((100 : Int) < (m.length : Int)) = true := decide_eq_true (by omega)
      go_wp2_with fail
      go_ret
      exact ⟨B1.out.mono (Nat.le_of_lt HLT.out), Or.inl ⟨2, by decide, rfl, Or.inr ⟨m, HQ.out, by omega⟩⟩⟩
end Go.Proofs.YtcojnkjcbopnbaaGreatDoor

/- strings.Builder's copyCheck and WriteByte: walks (the dump's copyCheck has no panic's text: the shelf's laying does not fit). -/
namespace Go.Proofs.YtcojnkjcbopnbaaGreatDoor
open Go.RowKit

theorem info_builder : (Tryz.prog.info? 80).map (·.size) = some 2 := by kernel_rfl
theorem lies_builder : liesAt Tryz.prog Tryz.prog.depth 80 (2 / Tryz.prog.cellsOf 80) 0 80 1 = true := by kernel_rfl
theorem info_byte : (Tryz.prog.info? 5).map (fun i => (i.zero, i.size, i.bytes)) = some (some (.int .u8 0), 1, 1) := by kernel_rfl

set_option maxHeartbeats 1000000 in
set_option maxRecDepth 100000 in
theorem copy_used (b : Nat) (w : World) (h0 : w.cell? ⟨b, 0, none⟩ = some (.pointer (some ⟨b, 0, none⟩))) :
    Calls Tryz.prog 89 #[.pointer (some ⟨b, 0, none⟩)] w fun e w' => e = .returned (.tuple #[]) ∧ w' = w := by
  obtain ⟨j, hj, _⟩ := Option.map_eq_some_iff.1 info_builder
  go_enter Tryz.func89, Tryz.ntmps89
  go_wp2
  rw [Lib.run_neq_ptr_same w _ Tryz.underlying78 hj]
  go_wp2
  go_end0
  exact ⟨rfl, rfl⟩

set_option maxHeartbeats 1000000 in
set_option maxRecDepth 100000 in
theorem copy_fresh (b : Nat) (w : World) (h0 : w.cell? ⟨b, 0, none⟩ = some (.pointer none)) (hsh : w.shape? b = some (80, 2)) (hfz : w.frozen? ⟨b, 0, none⟩ = false) :
    Calls Tryz.prog 89 #[.pointer (some ⟨b, 0, none⟩)] w fun e w' => e = .returned (.tuple #[]) ∧ w' = w.setCell ⟨b, 0, none⟩ (.pointer (some ⟨b, 0, none⟩)) := by
  obtain ⟨j, hj, hjs⟩ := Option.map_eq_some_iff.1 info_builder
  go_enter Tryz.func89, Tryz.ntmps89
  go_wp2
  rw [Lib.run_to_unsafe w ⟨b, 0, none⟩ Tryz.underlying78 Tryz.underlying167 hj (by rw [hjs]; decide) hsh (Nat.zero_lt_succ 1)]
  simp only [Result.andThen]
  rw [Oper.upon_value]
  go_wp2
  rw [run_callFunc_extern Tryz.func114 (by kernel_rfl) (by kernel_rfl) (by kernel_rfl) (e := Extern.AbiNoEscape.same) (by kernel_rfl)]
  rw [Lib.run_noEscape]
  simp only [Result.andThen]
  rw [Oper.upon_value]
  go_wp2
  rw [Lib.run_from_unsafe w ⟨b, 0, none⟩ Tryz.underlying167 Tryz.underlying78 hj hsh lies_builder]
  simp only [Result.andThen]
  rw [Oper.upon_value]
  go_wp2
  go_end0
  exact ⟨rfl, rfl⟩

theorem copyCheck_k (B b : Nat) (bs : List Value) (w : World) (h : Lib.IsBuilderF 80 5 B b bs w) :
    Calls Tryz.prog 89 #[.pointer (some ⟨b, 0, none⟩)] w fun e w' => e = .returned (.tuple #[]) ∧ (Lib.BuilderAtF 80 5 B b (.pointer (some ⟨b, 0, none⟩)) bs w' ∧ Below B w w' ∧ Lib.OthersKept 5 (some b) w w') := by
  rcases h with h | h
  · refine (copy_fresh b w h.cell0 h.shape h.frozen0).mono ?_
    rintro e w' ⟨rfl, rfl⟩
    exact ⟨rfl, h.used _, (Below.refl B w).setCell (p := ⟨b, 0, none⟩) h.1 _, (Lib.OthersKept.refl _ _ w).setCell ⟨b, 0, none⟩ rfl _⟩
  · refine (copy_used b w h.cell0).mono ?_
    rintro e w' ⟨rfl, rfl⟩
    exact ⟨rfl, h, Below.refl B _, Lib.OthersKept.refl _ _ _⟩

end Go.Proofs.YtcojnkjcbopnbaaGreatDoor

/- strings.Builder's WriteString, Reset: walks; a builder that holds bytes. -/
namespace Go.Proofs.YtcojnkjcbopnbaaGreatDoor
open Go.RowKit

theorem byteCells_snoc (l : List UInt8) (c : UInt8) : Lib.byteCells (l ++ [c]) = Lib.byteCells l ++ [.int .u8 (c.toNat : Int)] := by simp [Lib.byteCells]
set_option maxHeartbeats 2000000 in
set_option maxRecDepth 100000 in
theorem writeString_k (B b : Nat) (bs : List Value) (s : ByteArray) (w : World) (h : Lib.IsBuilderF 80 5 B b bs w) (hlen : bs.length + s.size ≤ 140737488355328) (hBw : B ≤ w.heap.size) :
    Calls Tryz.prog 58 #[.pointer (some ⟨b, 0, none⟩), .string s] w fun e w' => e = .returned (.tuple #[.int .i64 s.size, .nilIface]) ∧ (Lib.BuilderAtF 80 5 B b (.pointer (some ⟨b, 0, none⟩)) (bs ++ Lib.strCells s) w' ∧ Below B w w' ∧ Lib.OthersKept 5 (some b) w w') := by
  obtain ⟨i0, hi, hz0, hz1, hz2⟩ := info_parts info_byte
  go_enter Tryz.func58, Tryz.ntmps58
  go_wp2_with (go_at_call 89; refine (copyCheck_k B b bs _ h).mono ?_)
  rintro e w1 ⟨rfl, h1, hb1, hk1⟩
  obtain ⟨hB, v, hbk, hown, hne⟩ := h1
  have c0 : w1.cell? ⟨b, 0, none⟩ = some (.pointer (some ⟨b, 0, none⟩)) := by rw [Lib.cell_of_heap hbk]; rfl
  have c1 : w1.cell? ⟨b, 1, none⟩ = some v := by rw [Lib.cell_of_heap hbk]; rfl
  have hs1 := hb1.size
  go_wp2_with (at_builtin; refine Lib.wpList_append_own_stringF _ rfl _ _ 23 9 rfl B 5 i0 Tryz.underlying23 Tryz.underlying9 hi hz0 hz1 hz2 _ _ _ rfl hown s rfl ?c1 hlen ?c2 ?_)
  case c1 => unfold maxLen; omega
  case c2 => omega
  intro v' w2 hown' hgrow hnil
  have hlt : b < w1.heap.size := by
    rcases Nat.lt_or_ge b w1.heap.size with h' | h'
    · exact h'
    · simp [Array.getElem?_eq_none h'] at hbk
  have hb2 : w2.heap[b]? = some (.cells #[.pointer (some ⟨b, 0, none⟩), v] 80 (0, 0)) := by
    rw [hgrow.block b hlt (fun e => hne e.symm)]
    exact hbk
  have d0 : w2.cell? ⟨b, 0, none⟩ = some (.pointer (some ⟨b, 0, none⟩)) := by rw [Lib.cell_of_heap hb2]; rfl
  have d1 : w2.cell? ⟨b, 1, none⟩ = some v := by rw [Lib.cell_of_heap hb2]; rfl
  have f1 : w2.frozen? ⟨b, 1, none⟩ = false := Lib.frozen_of_heap hb2 1
  obtain ⟨ad, n', cap, rfl⟩ : ∃ ad n' cap, v' = .slice ad n' cap := by
    rcases hown'.2 with ⟨hv, h0⟩ | ⟨g, cap, cur, fz, hv, _⟩
    · exact ⟨_, _, _, hv⟩
    · exact ⟨_, _, _, hv⟩
  go_wp2
  go_ret2
  have hl : (Lib.strCells s).length = s.size := by simp [Lib.strCells]
  refine ⟨rfl, ?_, ?_, (hk1.grown hgrow (Lib.ownsRowF_kind hown)).setCell ⟨b, 1, none⟩ rfl _⟩
  · exact Lib.BuilderAtF.put (T := 80) (e := 5) hB hb2 (bs' := bs ++ Lib.strCells s) (by rw [List.length_append, hl]; exact hown') (by decide)
  · exact (hb1.grown hgrow (by omega) (fun k hk => (hown.lt k hk).1)).setCell (p := ⟨b, 1, none⟩) hB _

/-- A builder that holds those bytes. -/
structure BOk (B b : Nat) (l : List UInt8) (w : World) : Prop where
  is : Lib.IsBuilderF 80 5 B b (Lib.byteCells l) w
  le : B ≤ w.heap.size
/-- What writing leaves. -/
structure Wrote (B b : Nat) (l : List UInt8) (w w' : World) : Prop where
  ok : BOk B b l w'
  below : Below B w w'
  others : Lib.OthersKept 5 (some b) w w'
theorem Wrote.trans {B b : Nat} {l m : List UInt8} {w w1 w2 : World} (h : Wrote B b l w w1) (g : Wrote B b m w1 w2) : Wrote B b m w w2 := ⟨g.ok, h.below.trans g.below, h.others.trans g.others⟩
theorem Wrote.refl {B b : Nat} {l : List UInt8} {w : World} (h : BOk B b l w) : Wrote B b l w w := ⟨h, Below.refl _ _, Lib.OthersKept.refl _ _ _⟩
theorem BOk.alloc {B b : Nat} {l : List UInt8} {w : World} (h : BOk B b l w) (o : Obj) : BOk B b l (w.alloc o) := ⟨h.is.alloc o, by have := h.le; rw [World.size_alloc]; omega⟩
theorem Wrote.alloc {B b : Nat} {l : List UInt8} {w w1 : World} (h : Wrote B b l w w1) (o : Obj) : Wrote B b l w (w1.alloc o) := ⟨h.ok.alloc o, h.below.alloc h.ok.le o, h.others.alloc o⟩
theorem BOk.row {B b : Nat} {l : List UInt8} {w : World} (h : BOk B b l w) : B ≤ b ∧ ∃ c, w.heap[b]? = some (.cells c 80 (0, 0)) := by
  rcases h.is with ⟨h1, v, h2, _⟩ | ⟨h1, v, h2, _⟩
  · exact ⟨h1, _, h2⟩
  · exact ⟨h1, _, h2⟩
theorem text_spec (B b : Nat) (l : List UInt8) (s : ByteArray) (w : World) (h : BOk B b l w) (hlen : l.length + s.size ≤ 140737488355328) :
    Calls Tryz.prog 58 #[.pointer (some ⟨b, 0, none⟩), .string s] w fun e w' => e = .returned (.tuple #[.int .i64 s.size, .nilIface]) ∧ Wrote B b (l ++ s.data.toList) w w' := by
  refine (writeString_k B b (Lib.byteCells l) s w h.is (by rw [Lib.byteCells_length]; exact hlen) h.le).mono ?_
  rintro e w' ⟨rfl, h1, h2, h3⟩
  refine ⟨rfl, ⟨Or.inr ?_, by have := h2.size; have := h.le; omega⟩, h2, h3⟩
  have e : Lib.byteCells (l ++ s.data.toList) = Lib.byteCells l ++ Lib.strCells s := by simp [Lib.byteCells, Lib.strCells]
  rw [e]
  exact h1

end Go.Proofs.YtcojnkjcbopnbaaGreatDoor
