/- The program's first, Write: walks. -/
import Derived.Test.YtpifpokbkjddjaaK17G
import Derived.Maps.AppendAt
namespace Go.Proofs.Ytpifpokbkjddjaa
open Go.RowKit

theorem lies_sink : liesAt Try.prog Try.prog.depth 53 (3 / Try.prog.cellsOf 53) 0 51 1 = true := by kernel_rfl
theorem info_psink : (Try.prog.info? 62).map (fun i => (i.zero, i.size, i.bytes)) = some (some (.pointer none), 1, 8) := by kernel_rfl
/-- What first tells and leaves. -/
def FirstOut (w : World) (b : Nat) (O : Nat → Prop) (s : Sst) (name u : ByteArray) (e : Ending) (w' : World) : Prop :=
  if 8 ≤ s.made.length ∨ 65536 < s.all + u.size then e = .returned (.int .i64 8) ∧ w' = w else e = .returned (.int .i64 0) ∧ Leaves StP w b O (s.added (name, u)) w'

set_option maxRecDepth 100000 in
set_option maxHeartbeats 4000000 in
theorem first_spec (w : World) (b : Nat) (O : Nat → Prop) (ρ : Rol) (s : Sst) (d : StD) (hO : ∀ k, O k ↔ (ρ k).isSome = true) (h : StV w b ρ s d) (name beg t : ByteArray) (hbeg : beg.size ≤ 1000) (ht : t.size ≤ 100000) :
    Calls Try.prog 19 #[.pointer (some ⟨b, 0, none⟩), .string name, .string beg, .string t] w (FirstOut w b O s name (beg ++ t)) := by
  have HR := Lib.hid (room_spec w b ρ s d h)
  have hall := h.all
  have hfew := h.few
  have H := Lib.hid h
  have HO := Lib.hid hO
  have c6 : w.cell? ⟨b, 6, none⟩ = some (.slice d.wp s.made.length d.wc) := (h.top.cell 6).trans rfl
  obtain ⟨A, hA⟩ : ∃ A : Nat, A = s.all := ⟨_, rfl⟩
  rw [← hA] at HR hall
  obtain ⟨n, hn⟩ : ∃ n, n = s.made.length := ⟨_, rfl⟩
  rw [← hn] at c6 hfew
  have HA := Lib.hid hA
  have HN := Lib.hid hn
  obtain ⟨wp, hwp⟩ : ∃ wp, wp = d.wp := ⟨_, rfl⟩
  obtain ⟨wc, hwc⟩ : ∃ wc, wc = d.wc := ⟨_, rfl⟩
  rw [← hwp, ← hwc] at c6
  have HWP := Lib.hid hwp
  have HWC := Lib.hid hwc
  clear hA hn hwp hwc h hO
  have hsum : IntKind.i64.wrap ((beg.size : Int) + t.size) = (beg.size : Int) + t.size := IntWalk.i64_in _ (by omega)
  by_cases h8 : n = 8
  · have HF : Hid (∀ e w', e = .returned (.int .i64 8) ∧ w' = w → FirstOut w b O s name (beg ++ t) e w') := Lib.hid (fun e w' h => by
      unfold FirstOut
      rw [if_pos (Or.inl (by rw [← HN.out, h8]; exact Nat.le_refl _))]
      exact h)
    have q1 : ((n : Int) == 8) = true := by rw [h8]; rfl
    clear h8
    go_enter Try.func19, Try.ntmps19
    go_wp2_with fail
    go_ret
    exact HF.out _ _ ⟨rfl, rfl⟩
  have q1 : ((n : Int) == 8) = false := beq_eq_false_iff_ne.2 (by omega)
  by_cases hf : 65536 < A + (beg.size + t.size)
  · have HF : Hid (∀ e w', e = .returned (.int .i64 8) ∧ w' = w → FirstOut w b O s name (beg ++ t) e w') := Lib.hid (fun e w' h => by
      unfold FirstOut
      rw [if_pos (Or.inr (by rw [← HA.out, ByteArray.size_append]; exact hf))]
      exact h)
    have d1 : decide ((beg.size : Int) + t.size > 65536 - (A : Int)) = true := decide_eq_true (by omega)
    have d2 : decide (65536 - (A : Int) < (beg.size : Int) + t.size) = true := decide_eq_true (by omega)
    clear h8
    go_enter Try.func19, Try.ntmps19
    go_wp2_with fail
    refine HR.out.mono ?_
    rintro e w1 ⟨rfl, e1⟩
    subst e1
    go_wp2_with fail
    go_ret
    exact HF.out _ _ ⟨rfl, rfl⟩
  have HF : Hid (∀ e w', e = .returned (.int .i64 0) ∧ Leaves StP w b O (s.added (name, beg ++ t)) w' → FirstOut w b O s name (beg ++ t) e w') := Lib.hid (fun e w' h => by
    unfold FirstOut
    rw [if_neg (by
      rw [← HN.out, ← HA.out, ByteArray.size_append]
      rintro (h1 | h1)
      · omega
      · exact hf h1)]
    exact h)
  have d1 : decide ((beg.size : Int) + t.size > 65536 - (A : Int)) = false := decide_eq_false (by omega)
  have d2 : decide (65536 - (A : Int) < (beg.size : Int) + t.size) = false := decide_eq_false (by omega)
  have hn8 : n < 8 := by omega
  have HE : Hid (s.all + (beg ++ t).size ≤ 65536) := Lib.hid (by rw [← HA.out, ByteArray.size_append]; omega)
  have hsz2 : beg.size + t.size ≤ 65536 := by omega
  clear h8
  obtain ⟨W0, hW0⟩ : ∃ W0, W0 = w.alloc (.cells #[.pointer none, .slice none 0 0, .string name] 53) := ⟨_, rfl⟩
  have hrow0 : W0.heap[w.heap.size]? = some (.cells #[.pointer none, .slice none 0 0, .string name] 53 (0, 0)) := by rw [hW0]; exact heap_alloc_last _ _
  have hbd0 : Bd 53 3 0 w.heap.size #[.pointer none, .slice none 0 0, .string name] (.slice none 0 0) [] W0 :=
    ⟨hrow0, rfl, by omega, Or.inl rfl, rfl, World.ownsRowF_nil _ _ _ _, fun _ => rfl, by decide⟩
  have HW1 := Lib.hid (bd_write 53 3 0 w.heap.size lies_sink _ _ [] beg W0 hbd0 (by simp; omega))
  have HB0 := Lib.hid (show Below w.heap.size w W0 by rw [hW0]; exact below_new w _)
  have hsz0 : W0.heap.size = w.heap.size + 1 := by rw [hW0, World.size_alloc]
  have HZ0 := Lib.hid hsz0
  have HW0 := Lib.hid hW0
  clear hrow0 hbd0 hsz0 hW0
  go_enter Try.func19, Try.ntmps19
  go_wp2_with fail
  refine HR.out.mono ?_
  rintro e w1 ⟨rfl, e1⟩
  subst e1
  go_wp2_with fail
  rw [← HW0.out]
  refine HW1.out.mono ?_
  rintro e W1 ⟨rfl, v1, ho1⟩
  have HO1 := Lib.hid ho1
  have HW2 := Lib.hid (bd_write 53 3 0 w1.heap.size lies_sink _ _ _ t W1 ho1.bd (by simp; omega))
  clear ho1
  go_wp2_with fail
  refine HW2.out.mono ?_
  rintro e W2 ⟨rfl, v2, ho2⟩
  have HO2 := Lib.hid ho2
  have hv1 : Hid (∀ k, v1.ownBlock = some k → w1.heap.size ≤ k) := Lib.hid fun k hk => by
    rcases HO1.out.loc k hk with h1 | h1
    · simp [Value.ownBlock] at h1
    · have := HZ0.out; omega
  have hB1 : Hid (Below w1.heap.size w1 W1) := Lib.hid (Below.trans HB0.out (HO1.out.but.below (fun k hk => by
    rcases hk with h1 | h1
    · omega
    · simp [Value.ownBlock] at h1) (by have := HZ0.out; omega)))
  have hB2 : Hid (Below w1.heap.size w1 W2) := Lib.hid (Below.trans hB1.out (HO2.out.but.below (fun k hk => by
    rcases hk with h1 | h1
    · omega
    · exact hv1.out k h1) hB1.out.size))
  have hv2 : Hid (∀ k, v2.ownBlock = some k → w1.heap.size ≤ k) := Lib.hid fun k hk => by
    rcases HO2.out.loc k hk with h1 | h1
    · exact hv1.out k h1
    · have := hB1.out.size; omega
  clear ho2
  have hstv : StV W2 b ρ s d := H.out.keep hB2.out.size (fun k r hr => hB2.out.block k (H.out.low k r hr))
  have hbd := hstv.top
  have c62 : W2.cell? ⟨b, 6, none⟩ = some (.slice wp n wc) := by rw [HWP.out, HN.out, HWC.out]; exact (hbd.cell 6).trans rfl
  have hown : W2.ownsRow 0 62 1 (.slice wp n wc) n (d.sk.map fun x => pt x.blk) := by rw [HWP.out, HN.out, HWC.out]; exact hstv.snk.row
  have hblt := hbd.lt
  have HTR := Lib.hid hbd.row
  obtain ⟨i0, hi, hz0, hz1, hz2⟩ := info_parts info_psink
  clear hstv hbd
  go_wp2_with (at_builtin; refine wpList_append_own_at _ rfl _ _ 54 rfl 0 62 i0 (.pointer none) 1 8 Try.underlying54 hi hz0 hz1 hz2 rfl (by decide) _ _ _ rfl (hown.alloc _) ⟨W2.heap.size, 0, none⟩ 1 1 [.pointer (some ⟨w1.heap.size, 0, none⟩)] rfl rfl (cell_one_new _ _ _) ?c2 ?c3 ?c4 ?c5 ?_)
  case c2 => intro u hu; simp at hu; subst hu; rfl
  case c3 => unfold maxLen; omega
  case c4 => omega
  case c5 => omega
  intro v' W3 hown' hgrow hnil hat
  obtain ⟨p', c', rfl⟩ : ∃ p' c', v' = .slice p' (n + 1) c' := by
    rcases hown'.2 with ⟨hv, h0⟩ | ⟨g, cap, cur, hv, _⟩
    · omega
    · exact ⟨_, _, hv⟩
  have hblt1 : b < w1.heap.size := H.out.top.lt
  have hsz3 := hgrow.size
  rw [World.size_alloc] at hsz3
  have hwpb : Hid (∀ k, (Value.slice wp n wc).ownBlock = some k → ρ k = some .row) := Lib.hid fun k hk => by
    rw [HWP.out] at hk
    cases hd : d.wp with
    | none => rw [hd] at hk; simp [Value.ownBlock] at hk
    | some a0 =>
      rw [hd] at hk
      have : a0.block = k := by simpa [Value.ownBlock] using hk
      rw [← this]
      exact H.out.snk.rrow a0 hd
  have hold : Hid (∀ k, k < W2.heap.size → ρ k ≠ some .row → W3.heap[k]? = W2.heap[k]?) := Lib.hid fun k hk hr => by
    rw [hgrow.block k (by rw [World.size_alloc]; omega) (fun e => hr (hwpb.out k e.symm)), Lib.alloc_old W2 _ k hk]
  have hb3 : W3.heap[b]? = some (.cells (topC s d) 56 (0, 0)) := by
    rw [hold.out b hblt (by rw [H.out.rtop]; intro e; cases e)]
    exact HTR.out
  have c63 : W3.cell? ⟨b, 6, none⟩ = some (.slice wp n wc) := by rw [HWP.out, HN.out, HWC.out]; exact (cell_of_row _ _ 6 _ _ _ hb3).trans rfl
  have z63 : W3.frozen? ⟨b, 6, none⟩ = false := frozen_of_row _ _ 6 _ _ hb3
  have HADD : Hid (Added w1 b ρ s d (W3.setCell ⟨b, 6, none⟩ (.slice p' (n + 1) c')) w1.heap.size v2 (name, beg ++ t) p' c') := by
    have hnb : ∀ k, w1.heap.size ≤ k → k < W2.heap.size → (W3.setCell ⟨b, 6, none⟩ (.slice p' (n + 1) c')).heap[k]? = W2.heap[k]? := fun k h1 h2 => by
      rw [set_other 6 k _ (by omega), hold.out k h2 (fun e => by have := H.out.low k _ e; omega)]
    refine Lib.hid ⟨Nat.le_refl _, hv2.out, ?_, ?_, ?_, ?_, ?_⟩
    · have h1 : Bd 53 3 0 w1.heap.size #[.pointer (some ⟨w1.heap.size, 0, none⟩), v2, .string name] v2 (beg ++ t).data.toList W2 := by
        have h2 := HO2.out.bd
        rw [List.nil_append, app_list] at h2
        exact h2
      exact h1.keep fun k hk => by
        have h2 := h1.low k hk
        rcases hk with rfl | hk
        · exact hnb _ (Nat.le_refl _) h2
        · exact hnb _ (hv2.out k hk) h2
    · rw [← HN.out]
      refine ⟨hown'.1, ?_⟩
      rcases hown'.2 with ⟨hv, h0⟩ | ⟨g, cap, cur, hv, hb', hh, r⟩
      · omega
      · refine Or.inr ⟨g, cap, cur, hv, hb', (set_other 6 g _ (fun e => ?_)).trans hh, r⟩
        rw [e, hb3] at hh
        injection hh with h1
        injection h1 with _ h2
        exact absurd h2 (by decide)
    · intro a ha
      subst ha
      rcases hat with h1 | h1
      · left
        cases hd : d.wp with
        | none => rw [HWP.out, hd] at h1; simp [Value.ownBlock] at h1
        | some a0 =>
          rw [HWP.out, hd] at h1
          exact ⟨a0, rfl, by simpa [Value.ownBlock] using h1.symm⟩
      · right
        have h2 : a.block = (W2.alloc (.cells #[.pointer (some ⟨w1.heap.size, 0, none⟩)] 62)).heap.size := by simpa [Value.ownBlock] using h1
        rw [h2, World.size_alloc]
        have := hB2.out.size
        omega
    · rw [← HN.out]
      exact set_heap hb3 6 _
    · refine ⟨by show W3.os = _; rw [hgrow.os]; exact hB2.out.os, by show W3.tape = _; rw [hgrow.tape]; exact hB2.out.tape, by show W3.output = _; rw [hgrow.output]; exact hB2.out.output, by rw [World.size_setCell]; have := hB2.out.size; omega, fun k hk hn => ?_⟩
      have hkb : k ≠ b := fun e => hn (Or.inl (by rw [e]; exact H.out.rtop))
      rw [set_other 6 k _ hkb, hold.out k (by have := hB2.out.size; omega) (fun e => hn (Or.inr e)), hB2.out.block k hk]
  have HFin := Lib.hid (HADD.out.leaves H.out HO.out HE.out (by rw [← HN.out]; exact hn8))
  clear hown hown' hgrow hnil hat hb3 HADD
  go_wp2_with fail
  go_ret
  exact HF.out _ _ ⟨rfl, HFin.out⟩

/-- A write to a file that there is. -/
theorem has_write (s : Sst) (name t : ByteArray) (more : Bool) (i : Nat) (hne : name ≠ ⟨#[]⟩) (hi : firstF s.made name = some i) : ∃ f, s.made[i]? = some f ∧ f.1 = name ∧ writeS s name t more = (if 65536 < s.all + t.size then (s, 8) else ({ s with made := s.made.set i (f.1, f.2 ++ t) }, 0)) := by
  obtain ⟨h1, f, h2, h3, h4⟩ := first_some s.made name i hi
  refine ⟨f, h2, h3, ?_⟩
  unfold writeS fullB
  rw [if_neg hne, if_pos h1, h4 t]
  by_cases hf : 65536 < s.all + t.size
  · rw [if_pos hf, decide_eq_true hf, if_pos rfl]
  · rw [if_neg hf, decide_eq_false hf]; rfl
theorem new_write (s : Sst) (name t : ByteArray) (more : Bool) (hne : name ≠ ⟨#[]⟩) (hi : firstF s.made name = none) (u : ByteArray) (hu : u = (if more = true then giveN s.given name else ⟨#[]⟩) ++ t) :
    writeS s name t more = (if 8 ≤ s.made.length ∨ 65536 < s.all + u.size then (s, 8) else (s.added (name, u), 0)) := by
  have hm : moreT s name t more = u := by
    unfold moreT
    rw [hu]
    cases more
    · show t = ⟨#[]⟩ ++ t
      rw [show (⟨#[]⟩ : ByteArray) = ByteArray.empty from rfl, ByteArray.empty_append]
    · rfl
  unfold writeS fullB
  rw [if_neg hne, first_none _ _ hi, hm]
  show (if 8 ≤ s.made.length ∨ decide (65536 < s.all + u.size) = true then (s, (8 : Int)) else _) = _
  by_cases hf : 8 ≤ s.made.length ∨ 65536 < s.all + u.size
  · rw [if_pos hf, if_pos (hf.imp id fun h => decide_eq_true h)]
  · rw [if_neg hf, if_neg (fun h => hf (h.imp id fun h => of_decide_eq_true h))]
    rfl
theorem give_small {w : World} {ρ : Rol} {given : List Inp} {m : Nat} {ents : List (ByteArray × Nat)} (h : SrcV w ρ given m ents) (name : ByteArray) : (giveN given name).size ≤ 1000 := by
  rw [giveN_of]
  rcases h.look name with ⟨_, h1⟩ | ⟨i, x, p, _, _, _, h1, h2, _⟩
  · rw [h1]; show 0 ≤ 1000; omega
  · rw [h1]; exact h2.small

set_option maxRecDepth 100000 in
set_option maxHeartbeats 4000000 in
theorem write_spec (w : World) (b : Nat) (O : Nat → Prop) (s : Sst) (name t : ByteArray) (more : Bool) (hP : StP w b O s) (ht : t.size ≤ 100000) :
    Calls Try.prog 10 #[pt b, .string name, .string t, .bool more] w fun e w' => e = .returned (.int .i64 (writeS s name t more).2) ∧ Leaves StP w b O (writeS s name t more).1 w' := by
  obtain ⟨ρ, d, hO, h⟩ := hP
  have H := Lib.hid h
  have HO := Lib.hid hO
  show Calls Try.prog _ #[.pointer (some ⟨b, 0, none⟩), .string name, .string t, .bool more] w _
  by_cases hne : name = ⟨#[]⟩
  · have HS : Hid (writeS s name t more = (s, 1)) := Lib.hid (by unfold writeS; rw [if_pos hne])
    have z1 : name.toList = [] := by rw [hne, Lib.toList_data]
    have z2 : name.toList.isEmpty = true := by rw [z1]; rfl
    have z3 : (name.toList == []) = true := by rw [z1]; rfl
    clear h hO hne
    go_enter Try.func10, Try.ntmps10
    go_wp2_with fail
    go_ret
    exact ⟨by rw [HS.out]; rfl, by rw [HS.out]; exact StP.same HO.out H.out⟩
  have z1 : ¬ name.toList = [] := fun e => hne (by rw [← same_text, e, Lib.toList_data])
  have z2 : name.toList.isEmpty = false := by
    cases hh : name.toList with
    | nil => exact absurd hh z1
    | cons _ _ => rfl
  have z3 : (name.toList == []) = false := beq_eq_false_iff_ne.2 z1
  have HK := Lib.hid (sink_spec w b ρ s d h name)
  cases hi : firstF s.made name with
  | none =>
    have hkv : sinkV s d name = .pointer none := by unfold sinkV; rw [hi]
    rw [hkv] at HK
    have HB := Lib.hid (begin_spec w b ρ s d h name more)
    obtain ⟨u, hu⟩ : ∃ u, u = (if more = true then giveN s.given name else ⟨#[]⟩) := ⟨_, rfl⟩
    have hus : u.size ≤ 1000 := by
      rw [hu]
      split
      · exact give_small h.src name
      · show 0 ≤ 1000; omega
    rw [← hu] at HB
    have HF := Lib.hid (first_spec w b O ρ s d hO h name u t hus ht)
    have HS := Lib.hid (new_write s name t more hne hi (u ++ t) (by rw [hu]))
    clear h hO hne hkv hu hi
    go_enter Try.func10, Try.ntmps10
    go_wp2_with fail
    refine HK.out.mono ?_
    rintro e w1 ⟨rfl, e1⟩
    subst e1
    go_wp2_with fail
    refine HB.out.mono ?_
    rintro e w1 ⟨rfl, e1⟩
    subst e1
    go_wp2_with fail
    refine HF.out.mono ?_
    intro e w2 h2
    unfold FirstOut at h2
    by_cases hfull : 8 ≤ s.made.length ∨ 65536 < s.all + (u ++ t).size
    · rw [if_pos hfull] at h2
      obtain ⟨rfl, e2⟩ := h2
      subst e2
      have HS2 : Hid (writeS s name t more = (s, 8)) := Lib.hid (by rw [HS.out, if_pos hfull])
      clear hfull
      go_wp2_with fail
      go_ret
      exact ⟨by rw [HS2.out]; rfl, by rw [HS2.out]; exact StP.same HO.out H.out⟩
    · rw [if_neg hfull] at h2
      obtain ⟨rfl, h3⟩ := h2
      have H3 := Lib.hid h3
      have HS2 : Hid (writeS s name t more = (s.added (name, u ++ t), 0)) := Lib.hid (by rw [HS.out, if_neg hfull])
      clear hfull h3
      go_wp2_with fail
      go_ret
      exact ⟨by rw [HS2.out]; rfl, by rw [HS2.out]; exact H3.out⟩
  | some i =>
    obtain ⟨f, hf, hfn, hw⟩ := has_write s name t more i hne hi
    have hlen := h.snk.len
    obtain ⟨x, hx⟩ : ∃ x, d.sk[i]? = some x := ⟨_, List.getElem?_eq_getElem (by have := (List.getElem?_eq_some_iff.1 hf).1; omega)⟩
    have hkv : sinkV s d name = .pointer (some ⟨x.blk, 0, none⟩) := by
      unfold sinkV
      rw [hi]
      show (match d.sk[i]? with | some x => Value.pointer (some ⟨x.blk, 0, none⟩) | none => .pointer none) = _
      rw [hx]
    rw [hkv] at HK
    have HR := Lib.hid (room_spec w b ρ s d h)
    have hall := h.all
    obtain ⟨A, hA⟩ : ∃ A : Nat, A = s.all := ⟨_, rfl⟩
    rw [← hA] at HR hall
    obtain ⟨hs1, hs2, hs3⟩ := h.snk.sink i x f hx hf
    have HX := Lib.hid hx
    have HFI := Lib.hid hf
    by_cases hfull : 65536 < A + t.size
    · have HS : Hid (writeS s name t more = (s, 8)) := Lib.hid (by rw [hw, ← hA, if_pos hfull])
      have d1 : decide ((t.size : Int) > 65536 - (A : Int)) = true := decide_eq_true (by omega)
      have d2 : decide (65536 - (A : Int) < (t.size : Int)) = true := decide_eq_true (by omega)
      clear h hO hne hkv hi hf hfn hw hlen hx hA hs1 hs2 hs3
      go_enter Try.func10, Try.ntmps10
      go_wp2_with fail
      refine HK.out.mono ?_
      rintro e w1 ⟨rfl, e1⟩
      subst e1
      go_wp2_with fail
      refine HR.out.mono ?_
      rintro e w1 ⟨rfl, e1⟩
      subst e1
      go_wp2_with fail
      go_ret
      exact ⟨by rw [HS.out]; rfl, by rw [HS.out]; exact StP.same HO.out H.out⟩
    · have HS : Hid (writeS s name t more = ({ s with made := s.made.set i (f.1, f.2 ++ t) }, 0)) := Lib.hid (by rw [hw, ← hA, if_neg hfull])
      have d1 : decide ((t.size : Int) > 65536 - (A : Int)) = false := decide_eq_false (by omega)
      have d2 : decide (65536 - (A : Int) < (t.size : Int)) = false := decide_eq_false (by omega)
      have HE : Hid (s.all + t.size ≤ 65536) := Lib.hid (by omega)
      have hfl : f.2.data.toList.length ≤ 65536 := by
        have h1 : s.out.size + sizesF s.made = A := hA.symm
        have h2 : f.2.data.toList.length = f.2.size := by simp
        have h3 := sizes_take s.made i f hf
        have h4 := sizes_le s.made (i + 1)
        omega
      have HW := Lib.hid (bd_write 53 3 0 x.blk lies_sink (x.cells f.1) x.v f.2.data.toList t w hs1 (by omega))
      have HS3 := Lib.hid hs3
      have HS2 := Lib.hid hs2
      clear h hO hne hkv hi hf hfn hw hlen hx hA hs1 hs2 hs3 hfl
      go_enter Try.func10, Try.ntmps10
      go_wp2_with fail
      refine HK.out.mono ?_
      rintro e w1 ⟨rfl, e1⟩
      subst e1
      go_wp2_with fail
      refine HR.out.mono ?_
      rintro e w1 ⟨rfl, e1⟩
      subst e1
      go_wp2_with fail
      refine HW.out.mono ?_
      rintro e w2 ⟨rfl, v', ho⟩
      have HB := Lib.hid ho
      clear ho
      go_wp2_with fail
      go_ret
      refine ⟨by rw [HS.out]; rfl, ?_⟩
      rw [HS.out]
      have h := H.out
      refine StP.leaves HO.out (h.wrote_sink i x f HX.out HFI.out t HB.out HE.out) (fun k q hq => ?_) (HB.out.but.mono fun k hk => ?_)
      · rcases Rol.some_ HS3.out HB.out.loc k q hq with h1 | ⟨h1, _⟩
        · exact Or.inl h1
        · exact Or.inr h1
      · rcases hk with rfl | hk
        · exact ⟨_, HS2.out⟩
        · exact ⟨_, HS3.out k hk⟩
end Go.Proofs.Ytpifpokbkjddjaa
