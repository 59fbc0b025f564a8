/- fields.paragraph, ending at a byte, Next at no separator and at a byte: walks. -/
import Derived.Test.YtcojnkjcbopnbaaGreatDoorFFeeds
import Derived.Test.YtcojnkjcbopnbaaGreatDoorShelf
import Derived.Lib.IndexMore
namespace Go.Proofs.YtcojnkjcbopnbaaGreatDoor
open Go.RowKit
open Go.Lib (occAt index index_spec NoOcc)

/-- The cell of MaxLen. -/
def MX9 (w : World) : Prop := ∃ m : Int, w.cell? ⟨0, 0, none⟩ = some (.int .i64 m)
theorem MX9.after {w w' : World} (h : MX9 w) (hb : Below w.heap.size w w') : MX9 w' := by
  obtain ⟨m, hm⟩ := h
  refine ⟨m, ?_⟩
  have h0 : (0 : Nat) < w.heap.size := by
    rcases Nat.eq_zero_or_pos w.heap.size with h | h
    · exfalso
      have he : w.heap = #[] := Array.eq_empty_of_size_eq_zero h
      unfold World.cell? at hm
      simp [he] at hm
    · exact h
  rw [hb.cell (p := ⟨0, 0, none⟩) h0]
  exact hm

/-- What a record of lines is told as. -/
def ParOut (s : ByteArray) (a : Nat) (w : World) (e : Ending) (w' : World) : Prop :=
  Below w.heap.size w w' ∧ (e = .returned (.tuple #[.string ⟨#[]⟩, .int .i64 s.size, .bool false]) ∨
    ∃ b c n : Nat, e = .returned (.tuple #[.string (s.extract b c), .int .i64 n, .bool true]) ∧ Hid (Blk s b c ∧ a ≤ b ∧ c ≤ n ∧ n ≤ s.size))

set_option maxRecDepth 100000 in
theorem par_spec (s : ByteArray) (a : Nat) (ha : a ≤ s.size) (hs : s.size ≤ 1000000) (w : World) (hm : MX9 w) :
    Calls Tryz.prog 17 #[.string s, .int .i64 a] w (ParOut s a w) := by
  obtain ⟨f, hf⟩ := feeds_ex s _ a (Nat.le_refl _) ha
  have FE := Lib.hid (fun w => feeds_same s a f ha hs hf w)
  have HM := Lib.hid hm
  have HF := Lib.hid hf
  have hf1 := hf.1
  have hf2 := hf.2.1
  clear hm hf
  go_enter Tryz.func17, Tryz.ntmps17
  go_wp2_with fail
  refine (FE.out w).mono ?_
  rintro e w ⟨rfl, e1⟩
  subst e1
  by_cases hfe : f = s.size
  · have hb : ((f : Int) == s.size) = true := beq_iff_eq.2 (by omega)
    subst hfe
    go_wp2_with fail
    go_ret3
    exact ⟨Below.refl _ _, Or.inl rfl⟩
  · have hb : ((f : Int) == s.size) = false := beq_eq_false_iff_ne.2 (by omega)
    have hlt : f < s.size := by omega
    have h0 : Hid (bt s f ≠ 10) := Lib.hid (HF.out.2.2.2 hlt)
    obtain ⟨m, hm⟩ := HM.out
    have HI := Lib.hid (Tryz.strings_Index (s.extract f s.size) ⟨#[10, 10]⟩ m _ (by simp only [ByteArray.size_extract]; omega) hm)
    clear hm
    have hsp := index_spec (s.extract f s.size).data.toList [10, 10]
    obtain ⟨I, hI⟩ : ∃ I, I = index (s.extract f s.size).data.toList [10, 10] := ⟨_, rfl⟩
    have HI2 : Hid (Calls Tryz.prog 26 #[.string (s.extract f s.size), .string ⟨#[10, 10]⟩] w fun e w' => e = .returned (.int .i64 I) ∧ w' = w) := Lib.hid (by rw [hI]; exact HI.out)
    rw [← hI] at hsp
    clear hI HI
    rcases hsp with ⟨rfl, hn⟩ | ⟨i, rfl, _, ho, hn⟩
    · have HT := Lib.hid (Tryz.strings_TrimSuffix (s.extract f s.size) ⟨#[10]⟩ w (by simp only [ByteArray.size_extract]; omega))
      obtain ⟨c, hc, hB⟩ := blk_none s f hlt h0.out hn
      have HT2 : Hid (Calls Tryz.prog 27 #[.string (s.extract f s.size), .string ⟨#[10]⟩] w fun e w' => e = .returned (.string (s.extract f c)) ∧ w' = w) := Lib.hid (by rw [← hc]; exact HT.out)
      have HB := Lib.hid hB
      have hc2 : Hid (c ≤ s.size) := Lib.hid hB.2.1
      clear hn HT hc hB
      go_wp2_with fail
      refine HI2.out.mono ?_
      rintro e w2 ⟨rfl, e2⟩
      subst e2
      go_wp2_with fail
      refine HT2.out.mono ?_
      rintro e w3 ⟨rfl, e3⟩
      subst e3
      go_wp2_with fail
      go_ret3
      exact ⟨Below.refl _ _, Or.inr ⟨f, c, s.size, rfl, Lib.hid ⟨HB.out, hf1, hc2.out, Nat.le_refl _⟩⟩⟩
    · obtain ⟨hB, h1, _, _⟩ := blk_some s f i h0.out ho hn
      have HB := Lib.hid hB
      obtain ⟨g, hg⟩ := feeds_ex s _ (f + i) (Nat.le_refl _) (by omega)
      have FE2 : Hid (∀ w, Calls Tryz.prog 25 #[.string s, .int .i64 ((f : Int) + i)] w fun e w' => e = .returned (.int .i64 g) ∧ w' = w) := Lib.hid fun w => feeds_same s (f + i) g (by omega) hs hg w
      have hg1 := hg.1
      have hg2 := hg.2.1
      have ei : ((f : Int) + i).toNat = f + i := by omega
      clear hn ho hB hg
      go_wp2_with fail
      refine HI2.out.mono ?_
      rintro e w2 ⟨rfl, e2⟩
      subst e2
      go_wp2_with fail
      go_quiet ((go_at_call 25; exact Calls.quiet_of_same (FE2.out _)))
      go_wp2_with fail
      go_ret3
      exact ⟨by first | exact Below.refl _ _ | exact Below.drewN' (Below.refl _ _) _, Or.inr ⟨f, f + i, g, rfl, Lib.hid ⟨HB.out, hf1, hg1, hg2⟩⟩⟩

theorem chars_one {rs : ByteArray} {c : UInt8} (h : rs.data.toList = [c]) : rs = ⟨#[c]⟩ := by
  obtain ⟨d⟩ := rs
  apply congrArg ByteArray.mk
  exact Array.toList_inj.1 h

set_option maxRecDepth 100000 in
theorem ending_byte (s : ByteArray) (a : Nat) (c : UInt8) (ha : a < s.size) (h92 : c ≠ 92) (hs : s.size ≤ 1000000) (w : World) :
    Calls Tryz.prog 18 #[.string (s.extract a s.size), .string ⟨#[c]⟩] w fun e w' => w' = w ∧ ∃ b f : Nat, e = .returned (.tuple #[.int .i64 b, .int .i64 f, .int .i64 0]) ∧ Hid (OneRec s c a (a + b) (a + f) ∧ b ≤ f ∧ a + f ≤ s.size) := by
  have hrs : (⟨#[c]⟩ : ByteArray).toList = [c] := by rw [Lib.toList_data]
  obtain ⟨rs, hr⟩ : ∃ rs : ByteArray, rs = ⟨#[c]⟩ := ⟨_, rfl⟩
  have HI := Lib.hid (Tryz.strings_Index_one (s.extract a s.size) c w)
  rw [← hr] at HI hrs ⊢
  have a92 : ¬ rs.toList = [92] := by rw [hrs]; intro h; exact h92 (List.cons.inj h).1
  have b92 : (rs.toList == [92]) = false := beq_eq_false_iff_ne.2 a92
  have c92 : (rs.toList != [92]) = true := by simp [bne, b92]
  have hsz : rs.size = 1 := by rw [hr]; rfl
  have q1 : ((rs.size : Int) == 1) = true := by rw [hsz]; rfl
  have hcs := one_rec s c a ha
  obtain ⟨I, hI⟩ : ∃ I, I = Lib.indexByte (s.extract a s.size).data.toList c := ⟨_, rfl⟩
  have HI2 : Hid (Calls Tryz.prog 26 #[.string (s.extract a s.size), .string rs] w fun e w' => e = .returned (.int .i64 I) ∧ w' = w) := Lib.hid (by rw [hI]; exact HI.out)
  rw [← hI] at hcs
  have hts : (s.extract a s.size).size = s.size - a := by simp only [ByteArray.size_extract]; omega
  obtain ⟨t, ht⟩ : ∃ t, t = s.extract a s.size := ⟨_, rfl⟩
  rw [← ht] at HI2 hts ⊢
  have HTS := Lib.hid hts
  clear hts hI HI hr hrs hsz ht
  rcases hcs with ⟨rfl, h⟩ | ⟨i, rfl, h⟩
  · have HO := Lib.hid h
    clear h
    go_enter Tryz.func18, Tryz.ntmps18
    go_wp2_with fail
    refine HI2.out.mono ?_
    rintro e w1 ⟨rfl, e1⟩
    subst e1
    go_wp2_with fail
    go_ret3
    refine ⟨rfl, t.size, t.size, rfl, Lib.hid ⟨?_, Nat.le_refl _, by have := HTS.out; omega⟩⟩
    rw [show a + t.size = s.size from by have := HTS.out; omega]
    exact HO.out
  · have HO := Lib.hid h
    have hi : a + i + 1 ≤ s.size := by
      obtain ⟨_, ⟨_, h1, _⟩ | ⟨h1, h2⟩⟩ := h
      · omega
      · omega
    have h1 : ((i : Int) + 1).toNat = i + 1 := by omega
    clear h
    go_enter Tryz.func18, Tryz.ntmps18
    go_wp2_with fail
    refine HI2.out.mono ?_
    rintro e w1 ⟨rfl, e1⟩
    subst e1
    go_wp2_with fail
    go_ret3
    refine ⟨rfl, i, i + 1, by first | rfl | simp, Lib.hid ⟨HO.out, by omega, by omega⟩⟩

theorem results_tmp4 {fn : Func} {t u v x : Tmp} (h : fn.results = #[.tmp t, .tmp u, .tmp v, .tmp x]) (tmps : Array Value) (P : Program) (w : World) :
    (results fn tmps).run P w = .ok (.tuple #[tmps.getD t undef, tmps.getD u undef, tmps.getD v undef, tmps.getD x undef]) w := by
  simp [results, h]

/-- What no next record is told as. -/
def NoRec : Ending := .returned (.tuple #[.string ⟨#[]⟩, .int .i64 0, .bool false, .int .i64 0])

set_option maxRecDepth 100000 in
theorem next_end (s rs : ByteArray) (a : Nat) (ha : s.size ≤ a) (w : World) :
    Calls Tryz.prog 7 #[.string s, .int .i64 a, .string rs] w fun e w' => e = NoRec ∧ w' = w := by
  have d1 : decide ((a : Int) < 0) = false := decide_eq_false (by omega)
  have d2 : decide ((s.size : Int) ≤ a) = true := decide_eq_true (by omega)
  go_enter Tryz.func7, Tryz.ntmps7
  go_wp2_with fail
  ((try simp only [Exit.inBlock, Exit.then]); refine bodyPost_ret (results_tmp4 rfl _ _ _) rfl ?_)
  exact ⟨rfl, rfl⟩

/-- What the next record of lines is told as. -/
def ParRec (s : ByteArray) (a : Nat) (w : World) (e : Ending) (w' : World) : Prop :=
  Below w.heap.size w w' ∧ (e = .returned (.tuple #[.string ⟨#[]⟩, .int .i64 s.size, .bool false, .int .i64 0]) ∨
    ∃ b c n : Nat, e = .returned (.tuple #[.string (s.extract b c), .int .i64 n, .bool true, .int .i64 0]) ∧ Hid (Blk s b c ∧ a ≤ b ∧ c ≤ n ∧ n ≤ s.size))

set_option maxRecDepth 100000 in
theorem next_par (s : ByteArray) (a : Nat) (ha : a < s.size) (hs : s.size ≤ 1000000) (w : World) (hm : MX9 w) :
    Calls Tryz.prog 7 #[.string s, .int .i64 a, .string ⟨#[]⟩] w (ParRec s a w) := by
  have d1 : decide ((a : Int) < 0) = false := decide_eq_false (by omega)
  have d2 : decide ((s.size : Int) ≤ a) = false := decide_eq_false (by omega)
  have HP := Lib.hid (par_spec s a (Nat.le_of_lt ha) hs w hm)
  have h0 : (⟨#[]⟩ : ByteArray).toList = [] := by rw [Lib.toList_data]
  clear hm
  go_enter Tryz.func7, Tryz.ntmps7
  go_wp2_with fail
  refine HP.out.mono ?_
  rintro e w1 ⟨b1, rfl | ⟨b, c, n, rfl, h⟩⟩
  · have B1 := Lib.hid b1
    clear b1
    go_wp2_with fail
    ((try simp only [Exit.inBlock, Exit.then]); refine bodyPost_ret (results_tmp4 rfl _ _ _) rfl ?_)
    exact ⟨B1.out, Or.inl rfl⟩
  · have B1 := Lib.hid b1
    clear b1
    go_wp2_with fail
    ((try simp only [Exit.inBlock, Exit.then]); refine bodyPost_ret (results_tmp4 rfl _ _ _) rfl ?_)
    exact ⟨B1.out, Or.inr ⟨b, c, n, rfl, h⟩⟩

/-- What the next record is told as that a byte ends. -/
def OneOut (s : ByteArray) (c : UInt8) (a : Nat) (w : World) (e : Ending) (w' : World) : Prop :=
  w' = w ∧ ∃ b f : Nat, e = .returned (.tuple #[.string (s.extract a b), .int .i64 f, .bool true, .int .i64 0]) ∧ Hid (OneRec s c a b f ∧ b ≤ f ∧ f ≤ s.size)

set_option maxRecDepth 100000 in
theorem next_byte (s : ByteArray) (c : UInt8) (a : Nat) (ha : a < s.size) (h92 : c ≠ 92) (hs : s.size ≤ 1000000) (w : World) :
    Calls Tryz.prog 7 #[.string s, .int .i64 a, .string ⟨#[c]⟩] w (OneOut s c a w) := by
  have d1 : decide ((a : Int) < 0) = false := decide_eq_false (by omega)
  have d2 : decide ((s.size : Int) ≤ a) = false := decide_eq_false (by omega)
  have HE := Lib.hid (ending_byte s a c ha h92 hs w)
  have hrs : (⟨#[c]⟩ : ByteArray).toList = [c] := by rw [Lib.toList_data]
  obtain ⟨rs, hr⟩ : ∃ rs : ByteArray, rs = ⟨#[c]⟩ := ⟨_, rfl⟩
  rw [← hr] at HE hrs ⊢
  have a0 : ¬ rs.toList = [] := by rw [hrs]; simp
  have b0 : rs.toList.isEmpty = false := by rw [hrs]; rfl
  have c0 : (rs.toList == []) = false := beq_eq_false_iff_ne.2 a0
  clear hr hrs
  go_enter Tryz.func7, Tryz.ntmps7
  go_wp2_with fail
  refine HE.out.mono ?_
  rintro e w1 ⟨e1, b, f, rfl, h⟩
  subst e1
  have HO := Lib.hid h.out.1
  have hbf := h.out.2.1
  have hfs := h.out.2.2
  have e2 : ((a : Int) + b).toNat = a + b := by omega
  clear h
  go_wp2_with fail
  ((try simp only [Exit.inBlock, Exit.then]); refine bodyPost_ret (results_tmp4 rfl _ _ _) rfl ?_)
  exact ⟨rfl, a + b, a + f, by first | rfl | simp, Lib.hid ⟨HO.out, by omega, hfs⟩⟩
end Go.Proofs.YtcojnkjcbopnbaaGreatDoor
