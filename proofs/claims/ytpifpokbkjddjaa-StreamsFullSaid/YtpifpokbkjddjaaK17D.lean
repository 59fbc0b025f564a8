/- The program's room, sink, begin: walks. -/
import Derived.Test.YtpifpokbkjddjaaK17C
import Derived.Lib.Strings
namespace Go.Proofs.Ytpifpokbkjddjaa
open Go.RowKit

theorem sizesK_snoc (l : List (ByteArray × ByteArray)) (f : ByteArray × ByteArray) : sizesF (l ++ [f]) = sizesF l + f.2.size := by
  induction l with
  | nil => show f.2.size + 0 = 0 + f.2.size; omega
  | cons g l ih => show g.2.size + sizesF (l ++ [f]) = g.2.size + sizesF l + f.2.size; omega
theorem sizes_take (l : List (ByteArray × ByteArray)) (i : Nat) (f : ByteArray × ByteArray) (h : l[i]? = some f) : sizesF (l.take (i + 1)) = sizesF (l.take i) + f.2.size := by
  obtain ⟨hi, rfl⟩ := List.getElem?_eq_some_iff.1 h
  rw [List.take_succ_eq_append_getElem hi, sizesK_snoc]
theorem sizes_le (l : List (ByteArray × ByteArray)) (i : Nat) : sizesF (l.take i) ≤ sizesF l := by
  induction l generalizing i with
  | nil => simp
  | cons g l ih =>
    cases i with
    | zero => show 0 ≤ _; omega
    | succ i => show g.2.size + sizesF (l.take i) ≤ g.2.size + sizesF l; have := ih i; omega
theorem SnkV.at_ {w : World} {ρ : Rol} {made : List (ByteArray × ByteArray)} {wp : Option Addr} {wc : Nat} {sk : List Snk} (h : SnkV w ρ made wp wc sk) (i : Nat) (hi : i < made.length) :
    ∃ g x f, wp = some ⟨g, 0, none⟩ ∧ made.length ≤ wc ∧ sk[i]? = some x ∧ made[i]? = some f ∧ w.cell? ⟨g, i, none⟩ = some (.pointer (some ⟨x.blk, 0, none⟩)) ∧ SinkAt w x f ∧ ρ x.blk = some (.sink i) := by
  rcases h.row.2 with ⟨hv, h0⟩ | ⟨g, cap, cur, hv, hb', hh, hnc, hcm, hcs, htake⟩
  · omega
  · injection hv with e1 e2 e3
    subst e1 e3
    have hl := h.len
    obtain ⟨x, hx⟩ : ∃ x, sk[i]? = some x := ⟨_, List.getElem?_eq_getElem (by omega)⟩
    obtain ⟨f, hf⟩ : ∃ f, made[i]? = some f := ⟨_, List.getElem?_eq_getElem hi⟩
    obtain ⟨h1, h2, _⟩ := h.sink i x f hx hf
    refine ⟨g, x, f, rfl, hnc, hx, hf, ?_, h1, h2⟩
    rw [cell_of_row w g i cur _ _ hh]
    have : (sk.map fun x => pt x.blk)[i]? = some (pt x.blk) := by rw [List.getElem?_map, hx]; rfl
    rw [← htake, List.getElem?_take, if_pos (by omega)] at this
    simpa [pt] using this

set_option maxRecDepth 100000 in
set_option maxHeartbeats 2000000 in
theorem room_spec (w : World) (b : Nat) (ρ : Rol) (s : Sst) (d : StD) (h : StV w b ρ s d) :
    Calls Try.prog 16 #[.pointer (some ⟨b, 0, none⟩)] w fun e w' => e = .returned (.int .i64 (65536 - (s.all : Nat))) ∧ w' = w := by
  have HT := Lib.hid (bd_len _ _ _ _ _ _ _ w h.top)
  have HSK := Lib.hid h.snk
  have c6 : w.cell? ⟨b, 6, none⟩ = some (.slice d.wp s.made.length d.wc) := (h.top.cell 6).trans rfl
  have hall : s.out.size + sizesF s.made ≤ 65536 := h.all
  have hfew := h.few
  have HA : Hid ((s.all : Nat) = s.out.size + sizesF s.made) := Lib.hid rfl
  have hol : (s.out.data.toList.length : Nat) = s.out.size := by simp
  obtain ⟨ol, hol2⟩ : ∃ ol, ol = s.out.data.toList.length := ⟨_, rfl⟩
  rw [← hol2] at HT
  have ho : ol ≤ 65536 := by omega
  have HO : Hid (ol = s.out.size) := Lib.hid (by omega)
  have hroom := h.snk.row.2
  obtain ⟨wp, hwp⟩ : ∃ wp, wp = d.wp := ⟨_, rfl⟩
  obtain ⟨wc, hwc⟩ : ∃ wc, wc = d.wc := ⟨_, rfl⟩
  rw [← hwp, ← hwc] at c6 HSK
  obtain ⟨n, hn⟩ : ∃ n, n = s.made.length := ⟨_, rfl⟩
  rw [← hn] at c6 hfew
  have HN := Lib.hid hn
  clear h hol hol2 hroom hwp hwc hn
  go_enter Try.func16, Try.ntmps16
  go_wp2_with fail
  refine HT.out.mono ?_
  rintro e w1 ⟨rfl, e1⟩
  subst e1
  have hw1 : IntKind.i64.wrap (65536 - (ol : Int)) = 65536 - ol := IntWalk.i64_in _ (by omega)
  go_wp2_with fail
  clear hw1
  go_loopw [3, 17] (fun y3 y17 wr => ∃ (i : Nat) (a : Int), y3 = .int .i64 a ∧ y17 = .int .i64 i ∧ i ≤ n ∧ 0 ≤ a ∧ a ≤ 65536 ∧ Hid (a = 65536 - (ol : Int) - (sizesF (s.made.take i) : Nat)) ∧ wr = w1) (fun _ y17 _ => n - (intOf y17).toNat)
  case atStart => exact ⟨0, _, rfl, rfl, by omega, by omega, by omega, Lib.hid (by show _ = 65536 - (ol : Int) - ((0 : Nat) : Int); omega), rfl⟩
  case round =>
    obtain ⟨i, a, rfl, rfl, hi, ha, ha2, HE, e1⟩ := hrel
    subst e1
    by_cases hlt : i < n
    · obtain ⟨g, x, f, rfl, hcap, hx, hf, hc, hs, _⟩ := HSK.out.at_ i (by rw [← HN.out]; exact hlt)
      have HL := Lib.hid (bd_len _ _ _ _ _ _ _ _ hs)
      have hfl : f.2.data.toList.length = f.2.size := by simp
      obtain ⟨fl, hfl2⟩ : ∃ fl, fl = f.2.data.toList.length := ⟨_, rfl⟩
      rw [← hfl2] at HL hfl
      have hst := sizes_take s.made i f hf
      have hle := sizes_le s.made (i + 1)
      have he := HE.out
      have ho2 := HO.out
      have hnew : (0 : Int) ≤ a - fl := by omega
      have HE2 : Hid (a - (fl : Int) = 65536 - (ol : Int) - (sizesF (s.made.take (i + 1)) : Nat)) := Lib.hid (by omega)
      have hn2 : n ≤ wc := by have := HN.out; omega
      clear hx hf hs hfl hfl2 hst hle he ho2 hcap
      have hw2 : IntKind.i64.wrap (a - (fl : Int)) = a - fl := IntWalk.i64_in _ (by omega)
      go_wp2_with fail
      refine HL.out.mono ?_
      rintro e w1 ⟨rfl, e1⟩
      subst e1
      go_wp2_with fail
      go_roundw
      case rel => exact ⟨i + 1, _, rfl, by go_num, by omega, hnew, by omega, HE2, by first | rfl | trivial⟩
      case measure => simp [intOf]; omega
    · have HF : Hid (a = 65536 - (s.all : Nat)) := Lib.hid (by
        have h1 := HE.out
        rw [List.take_of_length_le (by rw [← HN.out]; omega)] at h1
        rw [HA.out]
        have := HO.out
        omega)
      have d1 : decide ((i : Int) < n) = false := decide_eq_false (by omega)
      have d2 : decide (i < n) = false := decide_eq_false hlt
      go_wp2_with fail
      go_ret
      exact ⟨by rw [HF.out]; rfl, rfl⟩

theorem same_text {s t : ByteArray} : s.toList = t.toList ↔ s = t := by
  rw [Lib.toList_data, Lib.toList_data]
  constructor
  · intro h
    cases s; cases t
    exact congrArg ByteArray.mk (Array.toList_inj.1 h)
  · intro h; rw [h]
/-- Which file of a name comes first. -/
def firstF : List (ByteArray × ByteArray) → ByteArray → Option Nat
  | [], _ => none
  | f :: l, name => if f.1 = name then some 0 else (firstF l name).map (· + 1)
theorem first_none (l : List (ByteArray × ByteArray)) (name : ByteArray) (h : firstF l name = none) : hasB l name = false := by
  induction l with
  | nil => rfl
  | cons f l ih =>
    show (decide (f.1 = name) || hasB l name) = false
    have h' : (if f.1 = name then some 0 else (firstF l name).map (· + 1)) = none := h
    by_cases hf : f.1 = name
    · rw [if_pos hf] at h'; cases h'
    · rw [if_neg hf] at h'
      rw [decide_eq_false hf, ih (by simpa using h')]
      rfl
theorem first_some (l : List (ByteArray × ByteArray)) (name : ByteArray) (i : Nat) (h : firstF l name = some i) : hasB l name = true ∧ ∃ f, l[i]? = some f ∧ f.1 = name ∧ ∀ t, appS l name t = l.set i (f.1, f.2 ++ t) := by
  induction l generalizing i with
  | nil => cases h
  | cons f l ih =>
    have h' : (if f.1 = name then some 0 else (firstF l name).map (· + 1)) = some i := h
    show (decide (f.1 = name) || hasB l name) = true ∧ _
    by_cases hf : f.1 = name
    · rw [if_pos hf] at h'
      cases h'
      refine ⟨by rw [decide_eq_true hf]; rfl, f, rfl, hf, fun t => ?_⟩
      show (if f.1 = name then (f.1, f.2 ++ t) :: l else f :: appS l name t) = _
      rw [if_pos hf]; rfl
    · rw [if_neg hf] at h'
      cases hl : firstF l name with
      | none => rw [hl] at h'; cases h'
      | some j =>
        rw [hl] at h'
        cases h'
        obtain ⟨h1, g, h2, h3, h4⟩ := ih j hl
        refine ⟨by rw [h1, Bool.or_true], g, h2, h3, fun t => ?_⟩
        show (if f.1 = name then (f.1, f.2 ++ t) :: l else f :: appS l name t) = _
        rw [if_neg hf, h4 t]; rfl
theorem first_step (l : List (ByteArray × ByteArray)) (name : ByteArray) (i : Nat) (f : ByteArray × ByteArray) (hi : l[i]? = some f) (h : firstF (l.take i) name = none) : (f.1 = name → firstF l name = some i) ∧ (f.1 ≠ name → firstF (l.take (i + 1)) name = none) := by
  induction l generalizing i with
  | nil => simp at hi
  | cons g l ih =>
    cases i with
    | zero =>
      simp at hi
      subst hi
      refine ⟨fun e => ?_, fun e => ?_⟩
      · show (if g.1 = name then some 0 else _) = _
        rw [if_pos e]
      · show (if g.1 = name then some 0 else (firstF (l.take 0) name).map (· + 1)) = none
        rw [if_neg e]; rfl
    | succ i =>
      have h' : (if g.1 = name then some 0 else (firstF (l.take i) name).map (· + 1)) = none := h
      by_cases hg : g.1 = name
      · rw [if_pos hg] at h'; cases h'
      · rw [if_neg hg] at h'
        obtain ⟨h1, h2⟩ := ih i (by simpa using hi) (by simpa using h')
        refine ⟨fun e => ?_, fun e => ?_⟩
        · show (if g.1 = name then some 0 else (firstF l name).map (· + 1)) = _
          rw [if_neg hg, h1 e]; rfl
        · show (if g.1 = name then some 0 else (firstF (l.take (i + 1)) name).map (· + 1)) = none
          rw [if_neg hg, h2 e]; rfl
/-- What sink tells. -/
def sinkV (s : Sst) (d : StD) (name : ByteArray) : Value := match firstF s.made name with
  | none => .pointer none
  | some i => match d.sk[i]? with
    | some x => .pointer (some ⟨x.blk, 0, none⟩)
    | none => .pointer none

set_option maxRecDepth 100000 in
set_option maxHeartbeats 2000000 in
theorem sink_spec (w : World) (b : Nat) (ρ : Rol) (s : Sst) (d : StD) (h : StV w b ρ s d) (name : ByteArray) :
    Calls Try.prog 18 #[.pointer (some ⟨b, 0, none⟩), .string name] w fun e w' => e = .returned (sinkV s d name) ∧ w' = w := by
  have HSK := Lib.hid h.snk
  have c6 : w.cell? ⟨b, 6, none⟩ = some (.slice d.wp s.made.length d.wc) := (h.top.cell 6).trans rfl
  have hfew := h.few
  obtain ⟨R, hR⟩ : ∃ R, R = sinkV s d name := ⟨_, rfl⟩
  rw [← hR]
  have HR := Lib.hid hR
  obtain ⟨wp, hwp⟩ : ∃ wp, wp = d.wp := ⟨_, rfl⟩
  obtain ⟨wc, hwc⟩ : ∃ wc, wc = d.wc := ⟨_, rfl⟩
  rw [← hwp, ← hwc] at c6 HSK
  obtain ⟨n, hn⟩ : ∃ n, n = s.made.length := ⟨_, rfl⟩
  rw [← hn] at c6 hfew
  have HN := Lib.hid hn
  clear h hwp hwc hn hR
  go_enter Try.func18, Try.ntmps18
  go_wp2_with fail
  go_loopw [12] (fun y12 wr => ∃ (i : Nat), y12 = .int .i64 i ∧ i ≤ n ∧ Hid (firstF (s.made.take i) name = none) ∧ wr = w) (fun y12 _ => n - (intOf y12).toNat)
  case atStart => exact ⟨0, rfl, by omega, Lib.hid rfl, rfl⟩
  case round =>
    obtain ⟨i, rfl, hi, HE, e1⟩ := hrel
    subst e1
    by_cases hlt : i < n
    · obtain ⟨g, x, f, rfl, hcap, hx, hf, hc, hs, _⟩ := HSK.out.at_ i (by rw [← HN.out]; exact hlt)
      have c2 : wr.cell? ⟨x.blk, 2, none⟩ = some (.string f.1) := (hs.cell 2).trans rfl
      obtain ⟨h1, h2⟩ := first_step s.made name i f hf HE.out
      have hn2 : n ≤ wc := by have := HN.out; omega
      have d1 : decide ((i : Int) < n) = true := decide_eq_true (by omega)
      have d2 : decide (i < n) = true := decide_eq_true hlt
      have HX := Lib.hid hx
      clear hx hf hs hcap
      obtain ⟨f1, f2⟩ := f
      dsimp only at c2 h1 h2
      by_cases hq : f1 = name
      · have z1 : (f1.toList == name.toList) = true := by rw [hq]; exact beq_self_eq_true _
        have HF : Hid (R = .pointer (some ⟨x.blk, 0, none⟩)) := Lib.hid (by
          rw [HR.out]
          unfold sinkV
          rw [h1 hq]
          show (match d.sk[i]? with | some x => Value.pointer (some ⟨x.blk, 0, none⟩) | none => .pointer none) = _
          rw [HX.out])
        clear h1 h2 hq
        go_wp2_with fail
        go_ret
        exact ⟨by rw [HF.out]; rfl, rfl⟩
      · have z1 : (f1.toList == name.toList) = false := beq_eq_false_iff_ne.2 (fun e => hq (same_text.1 e))
        have HE2 := Lib.hid (h2 hq)
        clear h1 h2 hq
        go_wp2_with fail
        go_roundw
        case rel => exact ⟨i + 1, by go_num, by omega, HE2, by first | rfl | trivial⟩
        case measure => simp [intOf]; omega
    · have HF : Hid (R = .pointer none) := Lib.hid (by
        have h1 := HE.out
        rw [List.take_of_length_le (by rw [← HN.out]; omega)] at h1
        rw [HR.out]
        unfold sinkV
        rw [h1])
      have d1 : decide ((i : Int) < n) = false := decide_eq_false (by omega)
      have d2 : decide (i < n) = false := decide_eq_false hlt
      go_wp2_with fail
      go_ret
      exact ⟨by rw [HF.out]; rfl, rfl⟩

theorem law_map : Try.prog.underlying 44 = some (.map 9 45) := Try.underlying44
theorem law_zero (w : World) : (zeroValue 45).run Try.prog w = .ok (.pointer none) w := by kernel_rfl
theorem look_ents (ents : List (ByteArray × Nat)) (name : ByteArray) : (lookL (ents.map fun x => (x.1, pt x.2)) name = none ∧ ∀ x ∈ ents, x.1 ≠ name) ∨ ∃ (i : Nat) (x : ByteArray × Nat), ents[i]? = some x ∧ x.1 = name ∧ lookL (ents.map fun x => (x.1, pt x.2)) name = some (pt x.2) := by
  induction ents with
  | nil => exact Or.inl ⟨rfl, by simp⟩
  | cons y l ih =>
    by_cases hy : y.1 = name
    · exact Or.inr ⟨0, y, rfl, hy, by simp [lookL, hy]⟩
    · rcases ih with ⟨h1, h2⟩ | ⟨i, x, h1, h2, h3⟩
      · refine Or.inl ⟨by simp [lookL, hy, h1], fun x hx => ?_⟩
        rcases List.mem_cons.1 hx with rfl | hx
        · exact hy
        · exact h2 x hx
      · exact Or.inr ⟨i + 1, x, h1, h2, by simp [lookL, hy, h3]⟩
/-- What a look-up tells: no file, or its source. -/
theorem SrcV.look {w : World} {ρ : Rol} {given : List Inp} {m : Nat} {ents : List (ByteArray × Nat)} (h : SrcV w ρ given m ents) (name : ByteArray) :
    ((Instr.lookup 44 (.map (some m)) (.string name) false).run Try.prog w = .ok (.pointer none) w ∧ giveI given name = none) ∨
    ∃ (i : Nat) (x : ByteArray × Nat) (p : Inp), ents[i]? = some x ∧ x.1 = name ∧ (Instr.lookup 44 (.map (some m)) (.string name) false).run Try.prog w = .ok (.pointer (some ⟨x.2, 0, none⟩)) w ∧ giveI given name = some p ∧ SrcC w x.2 p ∧ ρ x.2 = some (.src i) := by
  have hr := look_run law_map Try.underlying9 (law_zero w) h.map name
  rcases look_ents ents name with ⟨h1, h2⟩ | ⟨i, x, h1, h2, h3⟩
  · rw [h1] at hr
    exact Or.inl ⟨hr, h.miss name h2⟩
  · rw [h3] at hr
    obtain ⟨h4, p, h5, h6⟩ := h.hit i x h1
    exact Or.inr ⟨i, x, p, h1, h2, hr, by rw [← h2]; exact h5, h6, h4⟩

set_option maxRecDepth 100000 in
set_option maxHeartbeats 2000000 in
theorem begin_spec (w : World) (b : Nat) (ρ : Rol) (s : Sst) (d : StD) (h : StV w b ρ s d) (name : ByteArray) (more : Bool) :
    Calls Try.prog 20 #[.pointer (some ⟨b, 0, none⟩), .string name, .bool more] w fun e w' => e = .returned (.string (if more = true then giveN s.given name else ⟨#[]⟩)) ∧ w' = w := by
  have c2 : w.cell? ⟨b, 2, none⟩ = some (.map (some d.m)) := (h.top.cell 2).trans rfl
  obtain ⟨m, hm⟩ : ∃ m, m = d.m := ⟨_, rfl⟩
  have hl := h.src.look name
  rw [← hm] at c2 hl
  obtain ⟨R, hR⟩ : ∃ R, R = (if more = true then giveN s.given name else ⟨#[]⟩) := ⟨_, rfl⟩
  rw [← hR]
  have HR := Lib.hid hR
  clear h hm hR
  rcases hl with ⟨hr, hg⟩ | ⟨i, x, p, hx, hxn, hr, hg, hs, _⟩
  · have HF : Hid (R = ⟨#[]⟩) := Lib.hid (by
      rw [HR.out, giveN_of, hg]
      cases more <;> rfl)
    clear hg
    cases more
    · go_enter Try.func20, Try.ntmps20
      go_wp2_with fail
      go_ret
      exact ⟨by rw [HF.out]; rfl, rfl⟩
    · go_enter Try.func20, Try.ntmps20
      go_wp2_with fail
      go_ret
      exact ⟨by rw [HF.out]; rfl, rfl⟩
  · have hrow := hs.row
    have e0 : w.cell? ⟨x.2, 0, none⟩ = some (.string p.text) := (cell_of_row _ _ 0 _ _ _ hrow).trans rfl
    obtain ⟨k, hk⟩ : ∃ k, k = x.2 := ⟨_, rfl⟩
    rw [← hk] at hr e0
    have HF : Hid (R = if more = true then p.text else ⟨#[]⟩) := Lib.hid (by rw [HR.out, giveN_of, hg])
    clear hg hs hrow hx hxn hk
    cases more
    · go_enter Try.func20, Try.ntmps20
      go_wp2_with fail
      go_ret
      exact ⟨by rw [HF.out]; rfl, rfl⟩
    · go_enter Try.func20, Try.ntmps20
      go_wp2_with fail
      go_ret
      exact ⟨by rw [HF.out]; rfl, rfl⟩
end Go.Proofs.Ytpifpokbkjddjaa
