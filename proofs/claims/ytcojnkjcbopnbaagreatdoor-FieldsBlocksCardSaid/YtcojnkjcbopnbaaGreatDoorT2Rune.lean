/- A rune beyond ASCII is no blank: strings.IndexRune, ContainsRune at the blanks; the closure of Words. -/
import Derived.Test.YtcojnkjcbopnbaaGreatDoorT2Strs
import Derived.Test.YtcojnkjcbopnbaaGreatDoorFOwn
import Derived.Test.YtcojnkjcbopnbaaGreatDoorShelf
import Derived.WalkMore
import Derived.IntWalk
namespace Go.Proofs.YtcojnkjcbopnbaaGreatDoor.T2
open Go.Proofs.YtcojnkjcbopnbaaGreatDoor Go.Proofs
open Go.RowKit

set_option maxRecDepth 100000 in
set_option maxHeartbeats 1000000 in
theorem rune_bad (r : Nat) (h1 : 55296 ≤ r) (h2 : r ≤ 57343) (w : World) :
    Calls Tryz.prog 75 #[.string ⟨#[32, 9, 10]⟩, .int .i32 r] w fun e w' => e = .returned (.int .i64 (-1)) ∧ Below w.heap.size w w' := by
  have hv := fun w => Tryz.utf8_ValidRune r w
  rw [show Lib.validRune r = false from by unfold Lib.validRune; simp; omega] at hv
  have HV := Lib.hid hv; clear hv
  have hne : ((r : Int) == 65533) = false := by rw [beq_eq_false_iff_ne]; omega
  go_enter Tryz.func75, Tryz.ntmps75
  go_wp2_with fail
  refine (HV.out _).mono ?_
  rintro e w1 ⟨rfl, rfl⟩
  go_wp2_with fail
  go_ret
  exact ⟨rfl, Below.refl _ _⟩

theorem blanks_next (w : World) (ty : TypeId) :
    ((Instr.next (.pointer (some ⟨w.heap.size, 0, none⟩)) true ty).run Tryz.prog (w.iter ⟨#[32, 9, 10]⟩ 0) = .ok (.tuple #[.bool true, .int .i64 0, .int .i32 32]) (w.iter ⟨#[32, 9, 10]⟩ 1)) ∧
    ((Instr.next (.pointer (some ⟨w.heap.size, 0, none⟩)) true ty).run Tryz.prog (w.iter ⟨#[32, 9, 10]⟩ 1) = .ok (.tuple #[.bool true, .int .i64 1, .int .i32 9]) (w.iter ⟨#[32, 9, 10]⟩ 2)) ∧
    ((Instr.next (.pointer (some ⟨w.heap.size, 0, none⟩)) true ty).run Tryz.prog (w.iter ⟨#[32, 9, 10]⟩ 2) = .ok (.tuple #[.bool true, .int .i64 2, .int .i32 10]) (w.iter ⟨#[32, 9, 10]⟩ 3)) :=
  ⟨run_next_any w ⟨#[32, 9, 10]⟩ 0 ty (by decide), run_next_any w ⟨#[32, 9, 10]⟩ 1 ty (by decide), run_next_any w ⟨#[32, 9, 10]⟩ 2 ty (by decide)⟩

set_option maxRecDepth 100000 in
set_option maxHeartbeats 1000000 in
theorem rune_error (w : World) :
    Calls Tryz.prog 75 #[.string ⟨#[32, 9, 10]⟩, .int .i32 65533] w fun e w' => e = .returned (.int .i64 (-1)) ∧ Below w.heap.size w w' := by
  go_enter Tryz.func75, Tryz.ntmps75
  go_wp2_with fail
  go_loopw [6] (fun _ wr => ∃ pos : Nat, wr = w.iter ⟨#[32, 9, 10]⟩ pos ∧ pos ≤ 3) (fun _ wr => 3 - wr.iterPos w.heap.size)
  case atStart => exact ⟨0, rfl, by omega⟩
  case round =>
    obtain ⟨pos, rfl, hp⟩ := hrel
    have hcs : pos = 0 ∨ pos = 1 ∨ pos = 2 ∨ pos = 3 := by omega
    rcases hcs with rfl | rfl | rfl | rfl
    · have hnx := fun ty => (blanks_next w ty).1
      go_wp2_with fail
      go_roundw
      case rel => exact ⟨1, rfl, by omega⟩
      case measure => simp only [World.iterPos_iter]; omega
    · have hnx := fun ty => (blanks_next w ty).2.1
      go_wp2_with fail
      go_roundw
      case rel => exact ⟨2, rfl, by omega⟩
      case measure => simp only [World.iterPos_iter]; omega
    · have hnx := fun ty => (blanks_next w ty).2.2
      go_wp2_with fail
      go_roundw
      case rel => exact ⟨3, rfl, by omega⟩
      case measure => simp only [World.iterPos_iter]; omega
    · have hnx : ∀ ty, (Instr.next (.pointer (some ⟨w.heap.size, 0, none⟩)) true ty).run Tryz.prog (w.iter ⟨#[32, 9, 10]⟩ 3) = _ := fun ty => run_next_end w ⟨#[32, 9, 10]⟩ 3 ty (by decide)
      go_wp2_with fail
      go_ret
      exact ⟨rfl, below_iter _ _ _⟩

/-! ### Runes of two, three and four bytes -/
theorem byte_high {n : Nat} (h : n < 128) : (UInt8.ofNat (128 + n)).toNat = 128 + n := by
  rw [UInt8.toNat_ofNat']; omega

theorem enc_two (r : Nat) (h1 : 128 ≤ r) (h2 : r < 2048) : ∃ a b : UInt8, Utf8.encode r = ⟨#[a, b]⟩ ∧ 128 ≤ b.toNat := by
  have hv : Utf8.valid r = true := by unfold Utf8.valid; simp; omega
  refine ⟨UInt8.ofNat (192 + r / 64), UInt8.ofNat (128 + r % 64), ?_, by rw [byte_high (by omega)]; omega⟩
  unfold Utf8.encode
  simp only [hv, if_true, Int.toNat_natCast]
  rw [if_neg (by omega), if_pos (by omega)]

theorem enc_three (r : Nat) (hv : Utf8.valid r = true) (h1 : 2048 ≤ r) (h2 : r < 65536) : ∃ a b c : UInt8, Utf8.encode r = ⟨#[a, b, c]⟩ ∧ 128 ≤ c.toNat := by
  refine ⟨UInt8.ofNat (224 + r / 4096), UInt8.ofNat (128 + r / 64 % 64), UInt8.ofNat (128 + r % 64), ?_, by rw [byte_high (by omega)]; omega⟩
  unfold Utf8.encode
  simp only [hv, if_true, Int.toNat_natCast]
  rw [if_neg (by omega), if_neg (by omega), if_pos (by omega)]

theorem enc_four (r : Nat) (hv : Utf8.valid r = true) (h1 : 65536 ≤ r) : ∃ a b c d : UInt8, Utf8.encode r = ⟨#[a, b, c, d]⟩ ∧ 128 ≤ d.toNat := by
  refine ⟨UInt8.ofNat (240 + r / 262144), UInt8.ofNat (128 + r / 4096 % 64), UInt8.ofNat (128 + r / 64 % 64), UInt8.ofNat (128 + r % 64), ?_, by rw [byte_high (by omega)]; omega⟩
  unfold Utf8.encode
  simp only [hv, if_true, Int.toNat_natCast]
  rw [if_neg (by omega), if_neg (by omega), if_neg (by omega)]

theorem index_high (c : Int) (h1 : 128 ≤ c) (h2 : c < 256) (l : List UInt8) (hl : ∀ b ∈ l, b.toNat < 128) : Lib.indexByte l c.toNat.toUInt8 = -1 := by
  induction l with
  | nil => rfl
  | cons b l ih =>
    have hb := hl b (List.mem_cons_self ..)
    have hne : (b == c.toNat.toUInt8) = false := by
      rw [beq_eq_false_iff_ne]
      rintro rfl
      have : (c.toNat.toUInt8).toNat = c.toNat := by
        show (UInt8.ofNat c.toNat).toNat = _
        rw [UInt8.toNat_ofNat']; omega
      omega
    unfold Lib.indexByte
    rw [hne, ih (fun x hx => hl x (List.mem_cons_of_mem _ hx))]
    rfl

/-- A call that turns nothing, met behind some draws and so many more. -/
theorem still_call {P : Program} {f : FuncId} {args : Array Value} {w : World} {a n : Nat} {v : Value}
    (h : Calls P f args (w.drewN (a + n)) fun e w' => e = .returned v ∧ w' = w.drewN (a + n)) :
    Calls P f args (w.drewN (a + n)) fun e w' => e = .returned v ∧ ∃ k, w' = w.drewN (a + k) :=
  h.mono fun _ _ ⟨he, hw⟩ => ⟨he, n, hw⟩

/-- The bytes of a rune beyond ASCII: two to four, the last one beyond ASCII. -/
theorem enc_high (r : Nat) (hv : Utf8.valid r = true) (h1 : 128 ≤ r) : ∃ (rs : ByteArray) (L : Nat) (hL : L < rs.size), Utf8.encode r = rs ∧ rs.size = L + 1 ∧ 1 ≤ L ∧ L ≤ 3 ∧ 128 ≤ (rs[L]'hL).toNat := by
  rcases Nat.lt_or_ge r 2048 with h2 | h2
  · obtain ⟨a, b, he, hb⟩ := enc_two r h1 h2
    exact ⟨⟨#[a, b]⟩, 1, Nat.lt_succ_self 1, he, rfl, by omega, by omega, hb⟩
  · rcases Nat.lt_or_ge r 65536 with h3 | h3
    · obtain ⟨a, b, c, he, hb⟩ := enc_three r hv h2 h3
      exact ⟨⟨#[a, b, c]⟩, 2, Nat.lt_succ_self 2, he, rfl, by omega, by omega, hb⟩
    · obtain ⟨a, b, c, d, he, hb⟩ := enc_four r hv h3
      exact ⟨⟨#[a, b, c, d]⟩, 3, Nat.lt_succ_self 3, he, rfl, by omega, by omega, hb⟩

set_option maxRecDepth 100000 in
set_option maxHeartbeats 1000000 in
theorem rune_high (s : ByteArray) (ha : ∀ b ∈ s.data.toList, b.toNat < 128) (r : Nat) (h1 : 128 ≤ r) (h2 : r ≤ 1114111) (h3 : r ≠ 65533) (hv0 : r < 55296 ∨ 57343 < r) (w : World) :
    Calls Tryz.prog 75 #[.string s, .int .i32 r] w fun e w' => e = .returned (.int .i64 (-1)) ∧ Below w.heap.size w w' := by
  have hv := fun w => Tryz.utf8_ValidRune r w
  rw [show Lib.validRune r = true from by unfold Lib.validRune; simp; omega] at hv
  have HV := Lib.hid hv; clear hv
  obtain ⟨rs, L, hL, henc, hsz, hL1, hL3, hlast⟩ := enc_high r (by unfold Utf8.valid; simp; omega) h1
  have hne : ((r : Int) == 65533) = false := by rw [beq_eq_false_iff_ne]; omega
  have hge : decide ((r : Int) < 128) = false := by simp; omega
  have hL8 := rs[L].toNat_lt
  have IB := Lib.hid (fun w => show Calls Tryz.prog 105 #[.string (s.extract (L + 1) s.size), .int .u8 (rs[L].toNat : Int)] w fun e w' => e = .returned (.int .i64 (-1)) ∧ w' = w from by
    have h := Tryz.strings_IndexByte (s.extract (L + 1) s.size) (rs[L].toNat : Int) w
    rw [index_high (rs[L].toNat : Int) (by omega) (by omega) _ (by
      intro b hb
      rw [Lib.extract_data] at hb
      exact ha b (List.mem_of_mem_drop (List.mem_of_mem_take hb)))] at h
    exact h)
  by_cases hlt : L < s.size
  · have hsb : s[L].toNat < 128 := ha _ (by
      have : s[L] = s.data.toList[L]'(by rw [← Lib.size_eq]; exact hlt) := rfl
      rw [this]; exact List.getElem_mem _)
    have hb2 : ((s[L].toNat : Int) == (rs[L].toNat : Int)) = false := by rw [beq_eq_false_iff_ne]; omega
    have hb3 : ((s[L].toNat : Int) != (rs[L].toNat : Int)) = true := by rw [bne_iff_ne]; omega
    clear hsb hlast hL8 ha h1 h2 h3 hv0
    go_enter Tryz.func75, Tryz.ntmps75
    go_wp2_with fail
    refine (HV.out _).mono ?_
    rintro e w1 ⟨rfl, rfl⟩
    go_wp2_with fail
    go_step3
    go_wp2_with fail
    have hi2 : (L : Int) < rs.size := by omega
    clear henc hne hge hsz
    go_loopw [9] (fun x wr => x = .int .i64 L ∧ wr = w1) (fun _ _ => 0)
    case atStart => exact ⟨rfl, rfl⟩
    case round =>
      obtain ⟨rfl, rfl⟩ := hrel
      have hi0 : (0 : Int) ≤ L := by omega
      have hi1 : (L : Int) < s.size := by omega
      go_wp2_with fail
      go_step3
      go_wp2_with fail
      go_quiet (fail)
      go_wp2_with fail
      have s1 : IntKind.i64.wrap ((L : Int) + 1) = (L : Int) + 1 := IntWalk.i64_in _ (by omega)
      have s2 : (0 : Int) ≤ (L : Int) + 1 := by omega
      have s3 : ((L : Int) + 1).toNat = L + 1 := by omega
      have s4 : L + 1 ≤ s.size := by omega
      clear hb2 hb3
      go_quiet ((go_at_call 105; exact still_call (IB.out _)))
      clear s1 s2 s3 s4
      go_wp2_with fail
      rw [Exit.noGoto_ret]
      go_wp2_with fail
      rw [Exit.noGoto_ret]
      go_ret
      exact ⟨rfl, Below.drewN' (Below.refl _ _) _⟩
  · clear hlast hL8 ha h1 h2 h3 hv0
    go_enter Tryz.func75, Tryz.ntmps75
    go_wp2_with fail
    refine (HV.out _).mono ?_
    rintro e w1 ⟨rfl, rfl⟩
    go_wp2_with fail
    go_step3
    go_wp2_with fail
    clear henc hne hge
    go_loopw [9] (fun x wr => x = .int .i64 L ∧ wr = w1) (fun _ _ => 0)
    case atStart => exact ⟨rfl, rfl⟩
    case round =>
      obtain ⟨rfl, rfl⟩ := hrel
      go_wp2_with fail
      rw [Exit.noGoto_ret]
      go_ret
      exact ⟨rfl, Below.refl _ _⟩

/-! ### The predicate -/
def blankR (r : Nat) : Bool := r == 32 || r == 9 || r == 10

theorem high_any (r : Nat) (h1 : 128 ≤ r) (h2 : r ≤ 1114111) (w : World) :
    Calls Tryz.prog 75 #[.string ⟨#[32, 9, 10]⟩, .int .i32 r] w fun e w' => e = .returned (.int .i64 (-1)) ∧ Below w.heap.size w w' := by
  by_cases h3 : r = 65533
  · subst h3; exact rune_error w
  · by_cases h4 : 55296 ≤ r ∧ r ≤ 57343
    · exact rune_bad r h4.1 h4.2 w
    · exact rune_high ⟨#[32, 9, 10]⟩ (by decide) r h1 h2 h3 (by omega) w

theorem low_blank : ∀ r : Fin 128, (decide (0 ≤ Lib.indexByte [32, 9, 10] (UInt8.ofNat r.val))) = blankR r.val := by decide

set_option maxRecDepth 100000 in
theorem contains_any (r : Nat) (h2 : r ≤ 1114111) (w : World) :
    Calls Tryz.prog 51 #[.string ⟨#[32, 9, 10]⟩, .int .i32 r] w fun e w' => e = .returned (.bool (blankR r)) ∧ Below w.heap.size w w' := by
  rcases Nat.lt_or_ge r 128 with h | h
  · refine (Tryz.strings_ContainsRune_ascii ⟨#[32, 9, 10]⟩ r w (by omega) (by omega)).mono ?_
    rintro e w' ⟨rfl, rfl⟩
    refine ⟨?_, Below.refl _ _⟩
    have hl := low_blank ⟨r, h⟩
    rw [← hl]
    rfl
  · have hb : blankR r = false := by
      unfold blankR
      simp only [Bool.or_eq_false_iff, beq_eq_false_iff_ne]
      omega
    rw [hb]
    have H := Lib.hid (fun w => high_any r h h2 w)
    clear hb h h2
    go_enter Tryz.func51, Tryz.ntmps51
    go_wp2_with fail
    refine (H.out _).mono ?_
    rintro e w1 ⟨rfl, b1⟩
    have B1 := Lib.hid b1; clear b1
    go_wp2_with fail
    go_ret
    exact ⟨rfl, B1.out⟩

set_option maxRecDepth 100000 in
theorem closure_any (r : Nat) (h2 : r ≤ 1114111) (w : World) :
    Calls Tryz.prog 50 #[.int .i32 r] w fun e w' => e = .returned (.bool (blankR r)) ∧ Below w.heap.size w w' := by
  have H := Lib.hid (fun w => contains_any r h2 w)
  clear h2
  generalize blankR r = x at *
  go_enter Tryz.func50, Tryz.ntmps50
  go_wp2_with fail
  refine (H.out _).mono ?_
  rintro e w1 ⟨rfl, b1⟩
  have B1 := Lib.hid b1; clear b1
  go_wp2_with fail
  go_ret
  exact ⟨rfl, B1.out⟩

theorem words_pred (w : World) : PredGrows Tryz.prog 50 #[] blankR w :=
  fun W x hx _ => closure_any x hx W

set_option maxRecDepth 100000 in
theorem words_any (s : ByteArray) (hs : s.size ≤ 4294967296) (w : World) :
    Calls Tryz.prog 32 #[.string s] w fun e w' => ∃ p c, e = .returned (.slice p (Lib.goFieldsP blankR s).length c) ∧ NewStrs w w' (.slice p (Lib.goFieldsP blankR s).length c) (Lib.goFieldsP blankR s) ∧ Below w.heap.size w w' := by
  have H := Lib.hid (fun w => Tryz.strings_FieldsFunc_grows 50 #[] (enters_of Tryz.func50 (by kernel_rfl) rfl) blankR s w hs (words_pred w))
  clear hs
  go_enter Tryz.func32, Tryz.ntmps32
  go_wp2_with fail
  refine (H.out _).mono ?_
  rintro e w1 ⟨A, rfl, _, hown, b1⟩
  have B1 := Lib.hid b1; clear b1
  have HR : Hid (NewStrs w w1 _ (Lib.goFieldsP blankR s)) := Lib.hid hown; clear hown
  go_wp2_with fail
  go_ret
  exact ⟨_, _, rfl, HR.out, B1.out⟩

end Go.Proofs.YtcojnkjcbopnbaaGreatDoor.T2
