/- The program's fields.Next at a byte, exactly; a source's next: walks. -/
import Derived.Test.YtpifpokbkjddjaaK17C
import Derived.Test.YtpifpokbkjddjaaShelf
import Derived.Lib.IndexMore
namespace Go.Proofs.Ytpifpokbkjddjaa
open Go.RowKit

theorem index_cut (c : UInt8) : ∀ l : List UInt8, (Lib.indexByte l c = -1 ∧ cutN c l = l.length) ∨ (Lib.indexByte l c = (cutN c l : Nat) ∧ cutN c l < l.length)
  | [] => Or.inl ⟨rfl, rfl⟩
  | x :: l => by
    unfold Lib.indexByte
    by_cases h : x = c
    · subst h
      refine Or.inr ⟨?_, ?_⟩
      · simp [cutN]
      · simp [cutN]
    · have hb : (x == c) = false := by simpa using h
      rw [hb]
      simp only [Bool.false_eq_true, if_false]
      have hc : cutN c (x :: l) = cutN c l + 1 := if_neg h
      rw [hc]
      rcases index_cut c l with ⟨h1, h2⟩ | ⟨h1, h2⟩
      · rw [h1]
        exact Or.inl ⟨rfl, by rw [h2]; rfl⟩
      · rw [h1]
        have hb1 : (((cutN c l : Nat) : Int) == -1) = false := beq_eq_false_iff_ne.2 (by omega)
        rw [hb1]
        exact Or.inr ⟨by simp, by simpa using h2⟩
theorem tail_bytes (s : ByteArray) (a : Nat) : (s.extract a s.size).data.toList = s.data.toList.drop a := by
  simp only [ByteArray.data_extract, Array.toList_extract, List.extract_eq_take_drop]
  rw [List.take_of_length_le]
  simp
theorem results_4 {fn : Func} {t u v x : Tmp} (h : fn.results = #[.tmp t, .tmp u, .tmp v, .tmp x]) (tmps : Array Value) (P : Program) (w : World) :
    (results fn tmps).run P w = .ok (.tuple #[tmps.getD t undef, tmps.getD u undef, tmps.getD v undef, tmps.getD x undef]) w := by
  simp [results, h]
theorem results_3 {fn : Func} {t u v : Tmp} (h : fn.results = #[.tmp t, .tmp u, .tmp v]) (tmps : Array Value) (P : Program) (w : World) :
    (results fn tmps).run P w = .ok (.tuple #[tmps.getD t undef, tmps.getD u undef, tmps.getD v undef]) w := by
  simp [results, h]

set_option maxRecDepth 100000 in
theorem ending_cut (s : ByteArray) (a : Nat) (c : UInt8) (ha : a < s.size) (h92 : c ≠ 92) (hs : s.size ≤ 1000000) (w : World) :
    Calls Try.prog 28 #[.string (s.extract a s.size), .string ⟨#[c]⟩] w fun e w' => w' = w ∧ e = .returned (.tuple #[.int .i64 (cutN c (s.data.toList.drop a) : Nat), .int .i64 (min (cutN c (s.data.toList.drop a) + 1) (s.size - a) : Nat), .int .i64 0]) := by
  have hrs : (⟨#[c]⟩ : ByteArray).toList = [c] := by rw [Lib.toList_data]
  obtain ⟨rs, hr⟩ : ∃ rs : ByteArray, rs = ⟨#[c]⟩ := ⟨_, rfl⟩
  have HI := Lib.hid (Try.strings_Index_one (s.extract a s.size) c w)
  rw [← hr] at HI hrs ⊢
  have a92 : ¬ rs.toList = [92] := by rw [hrs]; intro h; exact h92 (List.cons.inj h).1
  have b92 : (rs.toList == [92]) = false := beq_eq_false_iff_ne.2 a92
  have c92 : (rs.toList != [92]) = true := by simp [bne, b92]
  have hsz : rs.size = 1 := by rw [hr]; rfl
  have q1 : ((rs.size : Int) == 1) = true := by rw [hsz]; rfl
  have hcs := index_cut c (s.extract a s.size).data.toList
  obtain ⟨I, hI⟩ : ∃ I, I = Lib.indexByte (s.extract a s.size).data.toList c := ⟨_, rfl⟩
  have HI2 : Hid (Calls Try.prog 30 #[.string (s.extract a s.size), .string rs] w fun e w' => e = .returned (.int .i64 I) ∧ w' = w) := Lib.hid (by rw [hI]; exact HI.out)
  rw [← hI, tail_bytes] at hcs
  have hlen : (s.data.toList.drop a).length = s.size - a := by simp
  rw [hlen] at hcs
  have hts : (s.extract a s.size).size = s.size - a := by simp only [ByteArray.size_extract]; omega
  obtain ⟨K, hK⟩ : ∃ K, K = cutN c (s.data.toList.drop a) := ⟨_, rfl⟩
  rw [← hK] at hcs ⊢
  obtain ⟨t, ht⟩ : ∃ t, t = s.extract a s.size := ⟨_, rfl⟩
  rw [← ht] at HI2 hts ⊢
  have HTS := Lib.hid hts
  clear hts hI HI hr hrs hsz ht hK hlen
  rcases hcs with ⟨rfl, h⟩ | ⟨rfl, h⟩
  · have HO := Lib.hid h
    clear h
    go_enter Try.func28, Try.ntmps28
    go_wp2_with fail
    refine HI2.out.mono ?_
    rintro e w1 ⟨rfl, e1⟩
    subst e1
    go_wp2_with fail
    go_ret3
    have h1 := HO.out
    have h2 := HTS.out
    refine ⟨rfl, ?_⟩
    rw [show min (K + 1) (s.size - a) = t.size from by omega, show K = t.size from by omega]
    rfl
  · have h1 : ((K : Int) + 1).toNat = K + 1 := by omega
    have HO : Hid (min (K + 1) (s.size - a) = K + 1) := Lib.hid (by omega)
    have hKs : K ≤ 1000000 := by omega
    clear h
    go_enter Try.func28, Try.ntmps28
    go_wp2_with fail
    refine HI2.out.mono ?_
    rintro e w1 ⟨rfl, e1⟩
    subst e1
    go_wp2_with fail
    go_ret3
    exact ⟨rfl, by rw [HO.out]; first | rfl | simp⟩

/-- What Next tells at a byte. -/
def nxV (c : UInt8) (s : ByteArray) (a : Nat) : Value := match nextB c ⟨⟨#[]⟩, s, a⟩ with
  | some (r, p) => .tuple #[.string r, .int .i64 (p : Nat), .bool true, .int .i64 0]
  | none => .tuple #[.string ⟨#[]⟩, .int .i64 0, .bool false, .int .i64 0]
set_option maxRecDepth 100000 in
theorem next_cut (s : ByteArray) (c : UInt8) (a : Nat) (h92 : c ≠ 92) (hs : s.size ≤ 1000000) (hal : a ≤ s.size) (w : World) :
    Calls Try.prog 25 #[.string s, .int .i64 a, .string ⟨#[c]⟩] w fun e w' => e = .returned (nxV c s a) ∧ w' = w := by
  have d1 : decide ((a : Int) < 0) = false := decide_eq_false (by omega)
  by_cases ha : a < s.size
  · have d2 : decide ((s.size : Int) ≤ a) = false := decide_eq_false (by omega)
    have HE := Lib.hid (ending_cut s a c ha h92 hs w)
    obtain ⟨K, hK⟩ : ∃ K, K = cutN c (s.data.toList.drop a) := ⟨_, rfl⟩
    have hKle : a + K ≤ s.size := by
      have h := index_cut c (s.data.toList.drop a)
      have hl : (s.data.toList.drop a).length = s.size - a := by simp
      rw [hl, ← hK] at h
      omega
    rw [← hK] at HE
    have HV : Hid (nxV c s a = .tuple #[.string (s.extract a (a + K)), .int .i64 ((a : Int) + (min (K + 1) (s.size - a) : Nat)), .bool true, .int .i64 0]) := Lib.hid (by
      unfold nxV nextB
      rw [if_pos ha, ← hK]
      show Value.tuple #[_, .int .i64 ((min (a + K + 1) s.size : Nat) : Int), _, _] = _
      rw [show ((min (a + K + 1) s.size : Nat) : Int) = (a : Int) + (min (K + 1) (s.size - a) : Nat) from by omega])
    obtain ⟨F, hF⟩ : ∃ F, F = min (K + 1) (s.size - a) := ⟨_, rfl⟩
    rw [← hF] at HE HV
    have hF1 : a + F ≤ s.size := by omega
    have hrs : (⟨#[c]⟩ : ByteArray).toList = [c] := by rw [Lib.toList_data]
    obtain ⟨rs, hr⟩ : ∃ rs : ByteArray, rs = ⟨#[c]⟩ := ⟨_, rfl⟩
    rw [← hr] at HE hrs ⊢
    have a0 : ¬ rs.toList = [] := by rw [hrs]; simp
    have b0 : rs.toList.isEmpty = false := by rw [hrs]; rfl
    have e0 : (rs.toList == []) = false := beq_eq_false_iff_ne.2 a0
    have e2 : ((a : Int) + K).toNat = a + K := by omega
    have d3 : decide (s.size ≤ a) = false := decide_eq_false (by omega)
    clear hr hrs hK hF
    go_enter Try.func25, Try.ntmps25
    go_wp2_with fail
    refine HE.out.mono ?_
    rintro e w1 ⟨e1, rfl⟩
    subst e1
    go_wp2_with fail
    ((try simp only [Exit.inBlock, Exit.then]); refine bodyPost_ret (results_4 rfl _ _ _) rfl ?_)
    exact ⟨by rw [HV.out]; first | rfl | simp, rfl⟩
  · have d2 : decide ((s.size : Int) ≤ a) = true := decide_eq_true (by omega)
    have HV : Hid (nxV c s a = .tuple #[.string ⟨#[]⟩, .int .i64 0, .bool false, .int .i64 0]) := Lib.hid (by unfold nxV nextB; rw [if_neg ha])
    have d3 : decide (s.size ≤ a) = true := decide_eq_true (by omega)
    have ha2 : s.size ≤ a := by omega
    clear ha
    go_enter Try.func25, Try.ntmps25
    go_wp2_with fail
    ((try simp only [Exit.inBlock, Exit.then]); refine bodyPost_ret (results_4 rfl _ _ _) rfl ?_)
    exact ⟨by rw [HV.out]; rfl, rfl⟩

/-- What a source's next tells and leaves. -/
def NxOut (w : World) (k : Nat) (c : UInt8) (i : Inp) (e : Ending) (w' : World) : Prop :=
  e = .returned (.tuple #[.string (recI c i), .bool (nextB c i).isSome, .int .i64 0]) ∧ w'.heap = (w.setCell ⟨k, 1, none⟩ (.int .i64 (stepI c i).pos)).heap ∧ w'.os = w.os ∧ w'.tape = w.tape ∧ w'.output = w.output

set_option maxRecDepth 100000 in
set_option maxHeartbeats 2000000 in
theorem source_next (w : World) (k : Nat) (i : Inp) (c : UInt8) (h92 : c ≠ 92) (hs : i.text.size ≤ 1000) (hp : i.pos ≤ i.text.size) (c0 : w.cell? ⟨k, 0, none⟩ = some (.string i.text)) (c1 : w.cell? ⟨k, 1, none⟩ = some (.int .i64 i.pos)) (z1 : w.frozen? ⟨k, 1, none⟩ = false) :
    Calls Try.prog 21 #[.pointer (some ⟨k, 0, none⟩), .string ⟨#[c]⟩] w (NxOut w k c i) := by
  have HN := Lib.hid (fun W => next_cut i.text c i.pos h92 (by omega) hp W)
  obtain ⟨rs, hr⟩ : ∃ rs : ByteArray, rs = ⟨#[c]⟩ := ⟨_, rfl⟩
  rw [← hr] at HN ⊢
  cases hx : nextB c i with
  | none =>
    have hnx : nxV c i.text i.pos = .tuple #[.string ⟨#[]⟩, .int .i64 0, .bool false, .int .i64 0] := by
      unfold nxV
      rw [show nextB c ⟨⟨#[]⟩, i.text, i.pos⟩ = nextB c i from rfl, hx]
    rw [hnx] at HN
    have HF : Hid (∀ w', w'.heap = (w.setCell ⟨k, 1, none⟩ (.int .i64 i.pos)).heap ∧ w'.os = w.os ∧ w'.tape = w.tape ∧ w'.output = w.output → NxOut w k c i (.returned (.tuple #[.string ⟨#[]⟩, .bool false, .int .i64 0])) w') := Lib.hid (fun w' h => by
      unfold NxOut recI stepI
      rw [hx]
      exact ⟨rfl, h⟩)
    have hmax : max (i.pos : Int) 0 = i.pos := by omega
    clear hr hnx hx
    go_enter Try.func21, Try.ntmps21
    go_wp2_with fail
    go_quiet ((go_at_call 25; exact Calls.quiet_of_same (HN.out _)))
    go_wp2_with fail
    ((try simp only [Exit.inBlock, Exit.then]); refine bodyPost_ret (results_3 rfl _ _ _) rfl ?_)
    exact HF.out _ ⟨by first | rfl | simp [World.setCell], rfl, rfl, rfl⟩
  | some rp =>
    obtain ⟨r, p⟩ := rp
    have hnx : nxV c i.text i.pos = .tuple #[.string r, .int .i64 (p : Nat), .bool true, .int .i64 0] := by
      unfold nxV
      rw [show nextB c ⟨⟨#[]⟩, i.text, i.pos⟩ = nextB c i from rfl, hx]
    rw [hnx] at HN
    have HF : Hid (∀ w', w'.heap = (w.setCell ⟨k, 1, none⟩ (.int .i64 (p : Nat))).heap ∧ w'.os = w.os ∧ w'.tape = w.tape ∧ w'.output = w.output → NxOut w k c i (.returned (.tuple #[.string r, .bool true, .int .i64 0])) w') := Lib.hid (fun w' h => by
      unfold NxOut recI stepI
      rw [hx]
      exact ⟨rfl, h⟩)
    have hpp : i.pos ≤ p ∧ p ≤ i.text.size := by
      unfold nextB at hx
      split at hx
      · cases hx; omega
      · cases hx
    have hmax : max (i.pos : Int) (p : Int) = p := by omega
    have hp1 := hpp.1
    have hp2 := hpp.2
    clear hr hnx hx hpp
    go_enter Try.func21, Try.ntmps21
    go_wp2_with fail
    go_quiet ((go_at_call 25; exact Calls.quiet_of_same (HN.out _)))
    go_wp2_with fail
    ((try simp only [Exit.inBlock, Exit.then]); refine bodyPost_ret (results_3 rfl _ _ _) rfl ?_)
    exact HF.out _ ⟨by first | rfl | simp [World.setCell], rfl, rfl, rfl⟩
end Go.Proofs.Ytpifpokbkjddjaa
