/- Merged by program: FJoinedW. -/
import Derived.Test.YtcojnkjcbopnbaaGreatDoorQjag
import Derived.Test.YtcojnkjcbopnbaaGreatDoorQjah
import Derived.Test.YtcojnkjcbopnbaaGreatDoorQjbj
import Derived.Test.YtcojnkjcbopnbaaGreatDoorQjbm
/- FieldsJoined: a walk. -/
namespace Go.Proofs.YtcojnkjcbopnbaaGreatDoor.fieldsJoined
open Go.RowKit

/-- The record behind a Set: its fields are few and short, and one is what was set. -/
structure Joined (j : Nat) (ts : ByteArray) (L : List ByteArray) : Prop where
  few : L.length ≤ 100
  at_ : L[j]? = some ts
  short : Short 30 L
theorem joined_of {l : List ByteArray} {j : Nat} {ts : ByteArray} (hl : l.length ≤ 100) (hj : j < 100) (hs : Short 30 l) (ht : ts.size ≤ 30) : Joined j ts (setL l j ts) := by
  refine ⟨by rw [setL_len]; omega, ?_, fun x hx => ?_⟩
  · unfold setL
    rw [List.getElem?_set_self]
    rw [fitL_len]; omega
  · unfold setL at hx
    rcases List.mem_or_eq_of_mem_set hx with h | rfl
    · unfold fitL at h
      rcases List.mem_append.1 h with h | h
      · exact hs x (List.mem_of_mem_take h)
      · rw [List.eq_of_mem_replicate h]; decide
    · exact ht
theorem flat_le {sep : List UInt8} (hs : sep.length ≤ 30) : ∀ r : List ByteArray, Short 30 r → ((bytesL r).flatMap (fun p => sep ++ p)).length ≤ r.length * 60
  | [], _ => by simp [bytesL]
  | x :: r, h => by
    have h1 := flat_le hs r fun y hy => h y (List.mem_cons_of_mem _ hy)
    have h2 := h x (List.mem_cons_self)
    have h4 : x.data.toList.length = x.size := by simp
    have e : bytesL (x :: r) = x.data.toList :: bytesL r := rfl
    rw [e, List.flatMap_cons, List.length_append, List.length_append, List.length_cons]
    omega
theorem join_small {j : Nat} {ts : ByteArray} {L : List ByteArray} (h : Joined j ts L) {u : ByteArray} (hu : u.size ≤ 30) : (sJoin u.data.toList (bytesL L)).length ≤ 10000 := by
  have h3 : u.data.toList.length = u.size := by simp
  have hf := h.few
  cases hL : L with
  | nil => simp [bytesL, sJoin]
  | cons x r =>
    subst hL
    have h1 := flat_le (sep := u.data.toList) (by omega) r fun y hy => h.short y (List.mem_cons_of_mem _ hy)
    have h2 := h.short x (List.mem_cons_self)
    have h4 : x.data.toList.length = x.size := by simp
    have e : sJoin u.data.toList (bytesL (x :: r)) = x.data.toList ++ (bytesL r).flatMap (fun p => u.data.toList ++ p) := rfl
    rw [e, List.length_append]
    rw [List.length_cons] at hf
    omega

theorem own_but {w w' : World} {B p : Nat} {e : TypeId} {size n : Nat} {v : Value} {xs : List Value} (h : w.ownsRow B e size v n xs) (hp : p < B) (hb : But p w w') : w'.ownsRow B e size v n xs := by
  refine ⟨h.1, ?_⟩
  rcases h.2 with h0 | ⟨g', cap', cur', e1, hbg, hg, rest⟩
  · exact Or.inl h0
  · exact Or.inr ⟨g', cap', cur', e1, hbg, by rw [hb.block g' (Array.getElem?_eq_some_iff.1 hg).1 (by omega)]; exact hg, rest⟩

set_option maxRecDepth 100000 in
set_option maxHeartbeats 4000000 in
theorem walk_joined (s fs : ByteArray) (k n : Int) (ts u : ByteArray) (w : World) (hm : MX w) :
    Calls Tryz.prog 5 #[.string s, .string fs, .agg (actC k n ts u)] w fun e w' => e = .returned (.bool true) ∧ Below w.heap.size w w' := by
  obtain ⟨i0, hi0', hz0, hz1, hz2⟩ := info_parts info_string
  have HL := Lib.hid lives9
  obtain ⟨W, hW, A, B, hsz⟩ := act_box w k n ts u
  obtain ⟨q, hq⟩ : ∃ q, q = w.heap.size := ⟨_, rfl⟩
  have HM : Hid (MX W) := Lib.hid (by
    obtain ⟨m, h⟩ := hm
    exact ⟨m, by rw [B.out.cell (p := ⟨0, 0, none⟩) (cell_lt h)]; exact h⟩)
  have HN := Lib.hid (new_spec W)
  obtain ⟨p, hp⟩ : ∃ p, p = W.heap.size := ⟨_, rfl⟩
  rw [← hp] at HN
  rw [← hq] at A
  have HQP : Hid (q < p ∧ p = W.heap.size ∧ q = w.heap.size) := Lib.hid ⟨by omega, hp, hq⟩
  clear hm hsz
  unfold actC at hW ⊢
  go_enter Tryz.func5, Tryz.ntmps5
  go_upto_region 1 with (fail)
  rw [← hW, ← hq]
  clear hW hp hq
  go_wp2_with fail
  refine HN.out.mono ?_
  rintro e w1 ⟨rfl, h1, b0⟩
  have b1 : Below W.heap.size W w1 := by rw [← HQP.out.2.1]; exact b0
  have R1 := Lib.hid h1
  have A1 := Lib.hid (A.out.after b1)
  have B1 := Lib.hid (Below.step B.out b1)
  have M1 : Hid (MX w1) := Lib.hid (by
    obtain ⟨m, h⟩ := HM.out
    exact ⟨m, by rw [b1.cell (p := ⟨0, 0, none⟩) (cell_lt h)]; exact h⟩)
  clear h1 b0 b1 HN A B HM
  by_cases h30 : 30 < s.size
  · have d0 : decide ((30 : Int) < (s.size : Int)) = true := decide_eq_true (by omega)
    go_wp2_with fail
    refine (HL.out _).mono ?_
    rintro e w3 ⟨rfl, b3⟩
    have B3 := Lib.hid (Below.step B1.out b3)
    clear b3
    go_wp2_with fail
    go_ret
    exact ⟨rfl, B3.out⟩
  have d0 : decide ((30 : Int) < (s.size : Int)) = false := decide_eq_false (by omega)
  have HLi := Lib.hid (light9_any fs w1)
  go_wp2_with fail
  refine HLi.out.mono ?_
  rintro e w2 ⟨b, rfl, b2⟩
  have R2 := Lib.hid (R1.out.after b2)
  have A2 := Lib.hid (A1.out.after b2)
  have B2 := Lib.hid (Below.step B1.out b2)
  have M2 : Hid (MX w2) := Lib.hid (by
    obtain ⟨m, h⟩ := M1.out
    exact ⟨m, by rw [b2.cell (p := ⟨0, 0, none⟩) (cell_lt h)]; exact h⟩)
  clear b2 HLi R1 A1 B1 M1
  cases b with
  | false =>
    go_wp2_with fail
    refine (HL.out _).mono ?_
    rintro e w3 ⟨rfl, b3⟩
    have B3 := Lib.hid (Below.step B2.out b3)
    clear b3
    go_wp2_with fail
    go_ret
    exact ⟨rfl, B3.out⟩
  | true =>
    have HS : Hid (Calls Tryz.prog 10 #[.agg #[.int .i64 k, .int .i64 n, .string ts, .string u]] w2 (SmallOut ts u w2)) := Lib.hid (small9_any k n ts u w2)
    have c0 := A2.out.c0
    have c1 := A2.out.c1
    have c2 := A2.out.c2
    have c3 := A2.out.c3
    go_wp2_with fail
    refine HS.out.mono ?_
    rintro e w3 ⟨b, rfl, hb, b3⟩
    have R3 := Lib.hid (R2.out.after b3)
    have A3 := Lib.hid (A2.out.after b3)
    have B3 := Lib.hid (Below.step B2.out b3)
    have M3 : Hid (MX w3) := Lib.hid (by
      obtain ⟨m, h⟩ := M2.out
      exact ⟨m, by rw [b3.cell (p := ⟨0, 0, none⟩) (cell_lt h)]; exact h⟩)
    clear b3 HS R2 A2 B2 M2 c0 c1 c2 c3
    cases b with
    | false =>
      clear hb
      go_wp2_with fail
      refine (HL.out _).mono ?_
      rintro e w4 ⟨rfl, b4⟩
      have B4 := Lib.hid (Below.step B3.out b4)
      clear b4
      go_wp2_with fail
      go_ret
      exact ⟨rfl, B4.out⟩
    | true =>
      obtain ⟨ht30, hu30⟩ := hb rfl
      have HSZ : Hid (ts.size ≤ 30 ∧ u.size ≤ 30) := Lib.hid ⟨ht30, hu30⟩
      have HT := Lib.hid (take_spec True (Short s.size) p _ _ _ _ _ s fs w3 R3.out (at_every s fs (by omega) w3 M3.out))
      clear hb ht30 hu30
      go_wp2_with fail
      refine HT.out.mono ?_
      rintro e w4 ⟨b4, ⟨y, hy, rfl, _⟩ | ⟨rfl, v4, l, h4, hlen, hsh⟩⟩
      · have n0 : (y != 0) = true := by simpa using hy
        have B4 : Hid (Below w.heap.size w w4) := Lib.hid (B3.out.trans (b4.mono (by have := HQP.out; omega)))
        clear b4 hy
        go_wp2_with fail
        refine (HL.out _).mono ?_
        rintro e w5 ⟨rfl, b5⟩
        have B5 := Lib.hid (Below.step B4.out b5)
        clear b5
        go_wp2_with fail
        go_ret
        exact ⟨rfl, B5.out⟩
      · have B4 : Hid (Below w.heap.size w w4) := Lib.hid (B3.out.trans (b4.mono (by have := HQP.out; omega)))
        have A4 := Lib.hid (A3.out.below HQP.out.1 b4)
        have R4 := Lib.hid h4
        have HSH : Hid (l.length ≤ 100 ∧ Short 30 l) := Lib.hid ⟨hlen, fun x hx => by have := hsh x hx; omega⟩
        clear b4 h4 hlen hsh HT R3 A3 B3 M3
        have c1 := A4.out.c1
        have c2 := A4.out.c2
        have c3 := A4.out.c3
        by_cases hn : n < 1 ∨ 100 < n
        · have HS := Lib.hid (set_none n hn p ts u w4)
          clear hn
          go_wp2_with fail
          refine HS.out.mono ?_
          rintro e w5 ⟨rfl, e5⟩
          subst e5
          go_wp2_with fail
          refine (HL.out _).mono ?_
          rintro e w5 ⟨rfl, b5⟩
          have B5 := Lib.hid (Below.step B4.out b5)
          clear b5
          go_wp2_with fail
          go_ret
          exact ⟨rfl, B5.out⟩
        · obtain ⟨j, rfl⟩ : ∃ j : Nat, n = (j : Int) + 1 := ⟨(n - 1).toNat, by omega⟩
          have hj : j < 100 := by omega
          have HS := Lib.hid (set_spec j hj p v4 l _ _ _ ts u w4 R4.out)
          have HJ : Hid (Joined j ts (setL l j ts)) := Lib.hid (joined_of HSH.out.1 hj HSH.out.2 HSZ.out.1)
          clear hn
          go_wp2_with fail
          refine HS.out.mono ?_
          rintro e w5 ⟨rfl, ⟨v5, h5⟩, b5⟩
          obtain ⟨L, hL⟩ : ∃ L, L = setL l j ts := ⟨_, rfl⟩
          rw [← hL] at h5 HJ
          have B5 : Hid (Below w.heap.size w w5) := Lib.hid (B4.out.trans (b5.mono (by have := HQP.out; omega)))
          have A5 := Lib.hid (A4.out.below HQP.out.1 b5)
          have R5 := Lib.hid h5
          clear h5 b5 HS hL R4 A4 B4 HSH c1 c2 c3
          go_upto_region 7 with (fail)
          have HM5 := Lib.hid (fun wr (hb : Below w5.heap.size w5 wr) => many_spec p v5 L emptyB true u wr (R5.out.after hb))
          have HG5 := Lib.hid (fun (i : Nat) x (hx : L[i]? = some x) wr (hb : Below w5.heap.size w5 wr) => get_spec i x p v5 L emptyB true u wr (R5.out.after hb) (by have := (List.getElem?_eq_some_iff.1 hx).1; have := HJ.out.few; omega) hx (by have := HJ.out.short x (List.mem_of_getElem? hx); omega))
          have hLn : L.length ≤ 100 := HJ.out.few
          have P0 : Hid (Lst w5.heap.size w5 (w5.alloc (.cells #[] 9)) (.slice (some ⟨w5.heap.size, 0, none⟩) 0 0) []) := Lib.hid ⟨World.ownsRow_lit w5 #[] 0 (Nat.le_refl _) (by unfold maxLen; omega) rfl, below_new _ _⟩
          change Code.wp _ _ _ _ (w5.alloc (Obj.cells #[] 9))
          obtain ⟨V5, hV5⟩ : ∃ V5, V5 = w5.alloc (Obj.cells #[] 9) := ⟨_, rfl⟩
          rw [← hV5] at P0 ⊢
          clear hV5
          go_wp2_with fail
          go_loopw [8, 9] (fun x y wr => ∃ (pl : List ByteArray) (a : Option Addr) (c : Nat), x = .slice a pl.length c ∧ y = .int .i64 ((pl.length : Int) + 1) ∧ pl.length ≤ L.length ∧ Hid (pl = L.take pl.length) ∧ Hid (Lst w5.heap.size w5 wr (.slice a pl.length c) pl)) (fun _ y _ => L.length + 1 - (intOf y).toNat)
          case atStart => exact ⟨[], some ⟨w5.heap.size, 0, none⟩, 0, rfl, rfl, by simp, Lib.hid (by simp), P0⟩
          case round =>
            obtain ⟨pl, a, c, rfl, rfl, hpl, hE, hP⟩ := hrel
            have hwl := hP.out.below.size
            have HM1 := Lib.hid (HM5.out wr hP.out.below)
            by_cases hlt : pl.length < L.length
            · have d1 : decide ((pl.length : Int) + 1 ≤ L.length) = true := decide_eq_true (by omega)
              have d2 : decide ((pl.length : Int) + 1 ≤ 100) = true := decide_eq_true (by omega)
              obtain ⟨x, hx⟩ : ∃ x, L[pl.length]? = some x := ⟨_, List.getElem?_eq_getElem hlt⟩
              have HG1 := Lib.hid (HG5.out pl.length x hx wr hP.out.below)
              have hE2 : Hid (pl ++ [x] = L.take (pl ++ [x]).length) := Lib.hid (by
                rw [List.length_append, List.length_singleton, List.take_add_one, hx, ← hE.out]
                rfl)
              clear hx hE
              go_wp2_with fail
              refine HM1.out.mono ?_
              rintro e w6 ⟨rfl, e6⟩
              subst e6
              go_wp2_with fail
              refine HG1.out.mono ?_
              rintro e w7 ⟨K, M, rfl, b7⟩
              have P7 : Hid (Lst w5.heap.size w5 w7 (.slice a pl.length c) pl) := Lib.hid ⟨own_after hP.out.row b7, hP.out.below.trans (b7.mono hwl)⟩
              have hwl7 := P7.out.below.size
              clear b7 HG1 HM1
              go_upto_region 11 with (fail)
              change Code.wp _ _ _ _ (w7.alloc (Obj.cells #[.int .i64 K, .int .i64 M, .string x] 38))
              obtain ⟨V, hV⟩ : ∃ V, V = w7.alloc (Obj.cells #[.int .i64 K, .int .i64 M, .string x] 38) := ⟨_, rfl⟩
              have P8 : Hid (Lst w5.heap.size w5 V (.slice a pl.length c) pl) := Lib.hid (by rw [hV]; exact P7.out.alloc hwl7 _)
              have k2 : V.cell? ⟨w7.heap.size, 2, none⟩ = some (.string x) := by rw [hV]; exact cell_of_row _ _ 2 _ _ (0, 0) (heap_alloc_last _ _)
              have hwl8 := P8.out.below.size
              rw [← hV]
              clear hV P7
              have RX := Lib.hid (heap_alloc_last V (.cells #[.string x] 9))
              have MX5 := Lib.hid (P8.out.alloc hwl8 (.cells #[.string x] 9)).row
              go_wp2_with (at_builtin; refine wpList_append_own _ rfl _ _ 35 rfl w5.heap.size 9 i0 (.string ByteArray.empty) 1 16 Tryz.underlying35 hi0' hz0 hz1 hz2 rfl (by decide) _ _ _ rfl MX5.out ⟨V.heap.size, 0, none⟩ 1 1 [.string x] rfl rfl ?c1 ?c2 ?c3 ?c4 ?c5 ?_)
              case c1 =>
                intro i y hy
                have e : (⟨V.heap.size, 0, none⟩ : Addr).add i = ⟨V.heap.size, i, none⟩ := by unfold Addr.add; split <;> simp_all
                rw [e]
                exact (cell_of_row _ _ i _ _ _ RX.out).trans (by simpa using hy)
              case c2 => intro y hy; simp at hy; subst hy; rfl
              case c3 => unfold maxLen; omega
              case c4 => omega
              case c5 => rw [World.size_alloc]; omega
              intro v' w9 hown' hgrow _
              have P9 := Lib.hid (P8.out.snoc (s := x) hwl8 (.cells #[.string x] 9) hown' hgrow)
              obtain ⟨av, cv, rfl⟩ : ∃ av cv, v' = .slice av (pl.length + 1) cv := by
                rcases hown'.2 with ⟨hv, h0⟩ | ⟨g, cap, cur, hv, _⟩
                · exact absurd h0 (by omega)
                · exact ⟨_, _, hv⟩
              clear hown' hgrow k2
              go_wp2_with fail
              go_roundw
              case rel => exact ⟨pl ++ [x], av, cv, by rw [List.length_append]; rfl, by rw [List.length_append]; go_num, by rw [List.length_append, List.length_singleton]; omega, hE2, Lib.hid (by have h := P9.out; rw [List.length_append]; exact h)⟩
              case measure => simp [intOf]; omega
            · have d1 : decide ((pl.length : Int) + 1 ≤ L.length) = false := decide_eq_false (by omega)
              have hE3 : pl = L := by
                have h1 := hE.out
                rw [List.take_of_length_le (by omega)] at h1
                exact h1
              subst hE3
              clear hE
              go_wp2_with fail
              refine HM1.out.mono ?_
              rintro e w6 ⟨rfl, e6⟩
              subst e6
              go_upto_region 14 with (fail)
              have hwj : IntKind.i64.wrap (j : Int) = j := by rw [IntKind.wrap_i64]; omega
              have hjl : j < pl.length := (List.getElem?_eq_some_iff.1 HJ.out.at_).1
              obtain ⟨g, cg, ev, hg1, _, _, _, _⟩ := own_set hP.out.row (i := j) hjl (.bool true)
              simp only [Value.slice.injEq] at ev
              obtain ⟨rfl, _, rfl⟩ := ev
              have HP := Lib.hid hP.out
              have HCJ : Hid ((pl.map Value.string)[j]? = some (.string ts)) := Lib.hid (by rw [List.getElem?_map, HJ.out.at_]; rfl)
              have HTL := Lib.hid (join_small HJ.out HSZ.out.2)
              obtain ⟨T, hT⟩ : ∃ T : ByteArray, T = ⟨(sJoin u.data.toList (bytesL pl)).toArray⟩ := ⟨_, rfl⟩
              have HTE := Lib.hid hT
              clear hT hpl hlt d1 hwl HM1 HG5 HM5 hP
              refine wp_region_held_drew (S := fun w' => (Hid (ActM w' q k ((j : Int) + 1) ts u) ∧ Hid (w'.ownsRow w5.heap.size 9 1 (.slice (some ⟨g, 0, none⟩) pl.length c) pl.length (pl.map Value.string))) ∧ Hid (∃ vv tt st oo, RecF w' p vv pl tt st oo ∧ recT pl tt st oo = T ∧ (oo = u ∨ oo = emptyB)) ∧ Hid (Below w.heap.size w w')) (by kernel_rfl)
                ⟨⟨Lib.hid ((A5.out.after HP.out.below).after (below_drew _)), Lib.hid (own_after HP.out.row (below_drew _))⟩, Lib.hid ⟨v5, emptyB, true, u, (R5.out.after HP.out.below).after (below_drew _), HTE.out.symm, Or.inl rfl⟩, Lib.hid (Below.step (Below.step B5.out HP.out.below) (below_drew _))⟩ (fun hS => ?_)
              generalize World.drew _ = V at hS ⊢
              refine takeF (i := 0) (d := 76) (v := .slice (some ⟨g, 0, none⟩) pl.length c) rfl rfl (by kernel_rfl) (by kernel_rfl) (by kernel_rfl) (fun _ _ _ h => h) (by rfl) (fun w' hSw => by go_simp) (by assumption) ?_
              simp only [List.setIfInBounds_toArray, List.set_cons_zero, List.set_cons_succ]
              refine takeF (i := 1) (d := 77) (v := .int .i64 pl.length) rfl rfl (by kernel_rfl) (by kernel_rfl) (by kernel_rfl) (fun _ _ _ h => h) (by rfl) (fun w' hSw => by go_simp) (by assumption) ?_
              simp only [List.setIfInBounds_toArray, List.set_cons_zero, List.set_cons_succ]
              refine takeF (i := 2) (d := 78) (v := .pointer (some ⟨p, 0, none⟩)) rfl rfl (by kernel_rfl) (by kernel_rfl) (by kernel_rfl) (fun _ _ _ h => h) (by rfl) (fun w' hSw => by go_simp) (by assumption) ?_
              simp only [List.setIfInBounds_toArray, List.set_cons_zero, List.set_cons_succ]
              refine wpAnyH_ready (rs := [3]) (by kernel_rfl) (by simp) ?_
              refine AllReadyH.cons rfl (fun X hX => ?_) AllReadyH.nil
              rw [if_pos (by rfl)]
              go_simp
              obtain ⟨vv, tt, st, oo, r1, _, _⟩ := hS.2.1.out
              refine (many_spec p vv pl tt st oo V r1).mono ?_
              rintro e w6 ⟨rfl, e6⟩
              subst e6
              go_wp2_with fail
              refine hX.out _ _ hS (fun hS1 => ?_)
              clear hX X hS r1
              obtain ⟨V, rfl⟩ : ∃ V : World, V = w6 := ⟨_, rfl⟩
              refine takeF (i := 4) (d := 80) (v := .bool true) rfl rfl (by kernel_rfl) (by kernel_rfl) (by kernel_rfl) (fun _ _ _ h => h) (by rfl) (fun w' hSw => by go_simp) (by assumption) ?_
              simp only [List.setIfInBounds_toArray, List.set_cons_zero, List.set_cons_succ]
              refine takeF (i := 5) (d := 81) (v := .bool true) rfl rfl (by kernel_rfl) (by kernel_rfl) (by kernel_rfl) (fun _ _ _ h => h) (by rfl) (fun w' hSw => by go_simp) (by assumption) ?_
              simp only [List.setIfInBounds_toArray, List.set_cons_zero, List.set_cons_succ]
              refine takeF (i := 6) (d := 82) (v := .pointer (some ⟨p, 0, none⟩)) rfl rfl (by kernel_rfl) (by kernel_rfl) (by kernel_rfl) (fun _ _ _ h => h) (by rfl) (fun w' hSw => by go_simp) (by assumption) ?_
              simp only [List.setIfInBounds_toArray, List.set_cons_zero, List.set_cons_succ]
              refine takeF (i := 8) (d := 84) (v := .slice (some ⟨g, 0, none⟩) pl.length c) rfl rfl (by kernel_rfl) (by kernel_rfl) (by kernel_rfl) (fun _ _ _ h => h) (by rfl) (fun w' hSw => by go_simp) (by assumption) ?_
              simp only [List.setIfInBounds_toArray, List.set_cons_zero, List.set_cons_succ]
              refine takeF (i := 9) (d := 85) (v := .pointer (some ⟨q, 3, none⟩)) rfl rfl (by kernel_rfl) (by kernel_rfl) (by kernel_rfl) (fun _ _ _ h => h) (by rfl) (fun w' hSw => by go_simp) (by assumption) ?_
              simp only [List.setIfInBounds_toArray, List.set_cons_zero, List.set_cons_succ]
              refine takeF (i := 10) (d := 86) (v := .string u) rfl rfl (by kernel_rfl) (by kernel_rfl) (by kernel_rfl) (fun _ _ _ h => h) (by rfl) (fun w' hSw => by obtain ⟨⟨s1, _⟩, _⟩ := hSw; have c1 := s1.out.c1; have c2 := s1.out.c2; have c3 := s1.out.c3; clear s1; go_simp) (by assumption) ?_
              simp only [List.setIfInBounds_toArray, List.set_cons_zero, List.set_cons_succ]
              refine wpAnyH_ready (rs := [7]) (by kernel_rfl) (by simp) ?_
              refine AllReadyH.cons rfl (fun X hX => ?_) AllReadyH.nil
              rw [if_pos (by rfl)]
              go_simp
              obtain ⟨vv, tt, st, oo, r1, r2, r3⟩ := hS1.2.1.out
              have HX7 := rtext_but p vv pl tt st oo V r1 (by omega) (by rcases r3 with rfl | rfl; exact Nat.le_trans HTL.out (by omega); exact Nat.le_trans (join_small HJ.out (u := emptyB) (by decide)) (by omega))
              rw [r2] at HX7
              refine HX7.mono ?_
              rintro e w7 ⟨rfl, r7, b7⟩
              have hS7 : (Hid (ActM w7 q k ((j : Int) + 1) ts u) ∧ Hid (w7.ownsRow w5.heap.size 9 1 (.slice (some ⟨g, 0, none⟩) pl.length c) pl.length (pl.map Value.string))) ∧ Hid (∃ vv tt st oo, RecF w7 p vv pl tt st oo ∧ recT pl tt st oo = T ∧ (oo = u ∨ oo = emptyB)) ∧ Hid (Below w.heap.size w w7) :=
                ⟨⟨Lib.hid (hS1.1.1.out.but (by have := HQP.out; omega) b7), Lib.hid (own_but hS1.1.2.out R5.out.mem.lt b7)⟩, Lib.hid ⟨vv, T, false, _, r7, rfl, by split; exact Or.inr rfl; exact r3⟩, Lib.hid (hS1.2.2.out.trans (b7.below (by have := HQP.out; omega) (by have := hS1.2.2.out.size; omega)))⟩
              go_wp2_with fail
              refine hX.out _ _ hS7 (fun hS2 => ?_)
              clear hX X hS1 hS7 r1 r7 b7 HX7
              refine wpAnyH_ready (rs := [11]) (by kernel_rfl) (by simp) ?_
              refine AllReadyH.cons rfl (fun X hX => ?_) AllReadyH.nil
              rw [if_pos (by rfl)]
              go_simp
              have HX8 := refJoin_spec pl (.slice (some ⟨g, 0, none⟩) pl.length c) u w7 (own_low hS2.1.2.out (Nat.zero_le _)) (by have := HSZ.out.2; omega) (by omega) (by have := HTL.out; omega)
              rw [← HTE.out] at HX8
              refine HX8.mono ?_
              rintro e w8 ⟨rfl, e8⟩
              subst e8
              go_wp2_with fail
              refine hX.out _ _ hS2 (fun hS3 => ?_)
              clear hX X hS2 HX8
              refine takeF (i := 12) (d := 88) (v := .bool true) rfl rfl (by kernel_rfl) (by kernel_rfl) (by kernel_rfl) (fun _ _ _ h => h) (by rfl) (fun w' hSw => by go_simp) (by assumption) ?_
              simp only [List.setIfInBounds_toArray, List.set_cons_zero, List.set_cons_succ]
              refine takeF (i := 13) (d := 89) (v := .bool true) rfl rfl (by kernel_rfl) (by kernel_rfl) (by kernel_rfl) (fun _ _ _ h => h) (by rfl) (fun w' hSw => by go_simp) (by assumption) ?_
              simp only [List.setIfInBounds_toArray, List.set_cons_zero, List.set_cons_succ]
              refine takeF (i := 14) (d := 90) (v := .bool true) rfl rfl (by kernel_rfl) (by kernel_rfl) (by kernel_rfl) (fun _ _ _ h => h) (by rfl) (fun w' hSw => by go_simp) (by assumption) ?_
              simp only [List.setIfInBounds_toArray, List.set_cons_zero, List.set_cons_succ]
              refine takeF (i := 15) (d := 91) (v := .slice (some ⟨g, 0, none⟩) pl.length c) rfl rfl (by kernel_rfl) (by kernel_rfl) (by kernel_rfl) (fun _ _ _ h => h) (by rfl) (fun w' hSw => by go_simp) (by assumption) ?_
              simp only [List.setIfInBounds_toArray, List.set_cons_zero, List.set_cons_succ]
              refine takeF (i := 16) (d := 92) (v := .pointer (some ⟨q, 1, none⟩)) rfl rfl (by kernel_rfl) (by kernel_rfl) (by kernel_rfl) (fun _ _ _ h => h) (by rfl) (fun w' hSw => by go_simp) (by assumption) ?_
              simp only [List.setIfInBounds_toArray, List.set_cons_zero, List.set_cons_succ]
              refine takeF (i := 17) (d := 93) (v := .int .i64 ((j : Int) + 1)) rfl rfl (by kernel_rfl) (by kernel_rfl) (by kernel_rfl) (fun _ _ _ h => h) (by rfl) (fun w' hSw => by obtain ⟨⟨s1, _⟩, _⟩ := hSw; have c1 := s1.out.c1; have c2 := s1.out.c2; have c3 := s1.out.c3; clear s1; go_simp) (by assumption) ?_
              simp only [List.setIfInBounds_toArray, List.set_cons_zero, List.set_cons_succ]
              refine takeF (i := 18) (d := 94) (v := .int .i64 j) rfl rfl (by kernel_rfl) (by kernel_rfl) (by kernel_rfl) (fun _ _ _ h => h) (by rfl) (fun w' hSw => by have hw := hwj; go_simp) (by assumption) ?_
              simp only [List.setIfInBounds_toArray, List.set_cons_zero, List.set_cons_succ]
              refine takeF (i := 19) (d := 95) (v := .pointer (some ⟨g, j, none⟩)) rfl rfl (by kernel_rfl) (by kernel_rfl) (by kernel_rfl) (fun _ _ _ h => h) (by rfl) (fun w' hSw => by go_simp) (by assumption) ?_
              simp only [List.setIfInBounds_toArray, List.set_cons_zero, List.set_cons_succ]
              refine takeF (i := 20) (d := 96) (v := .string ts) rfl rfl (by kernel_rfl) (by kernel_rfl) (by kernel_rfl) (fun _ _ _ h => h) (by rfl) (fun w' hSw => by obtain ⟨⟨_, s2⟩, _⟩ := hSw; have cj := (s2.out.cellAt j (by omega)).trans HCJ.out; clear s2; go_simp) (by assumption) ?_
              simp only [List.setIfInBounds_toArray, List.set_cons_zero, List.set_cons_succ]
              refine takeF (i := 21) (d := 97) (v := .pointer (some ⟨q, 2, none⟩)) rfl rfl (by kernel_rfl) (by kernel_rfl) (by kernel_rfl) (fun _ _ _ h => h) (by rfl) (fun w' hSw => by go_simp) (by assumption) ?_
              simp only [List.setIfInBounds_toArray, List.set_cons_zero, List.set_cons_succ]
              refine takeF (i := 22) (d := 98) (v := .string ts) rfl rfl (by kernel_rfl) (by kernel_rfl) (by kernel_rfl) (fun _ _ _ h => h) (by rfl) (fun w' hSw => by obtain ⟨⟨s1, _⟩, _⟩ := hSw; have c1 := s1.out.c1; have c2 := s1.out.c2; have c3 := s1.out.c3; clear s1; go_simp) (by assumption) ?_
              simp only [List.setIfInBounds_toArray, List.set_cons_zero, List.set_cons_succ]
              refine takeF (i := 23) (d := 99) (v := .bool true) rfl rfl (by kernel_rfl) (by kernel_rfl) (by kernel_rfl) (fun _ _ _ h => h) (by rfl) (fun w' hSw => by go_simp) (by assumption) ?_
              simp only [List.setIfInBounds_toArray, List.set_cons_zero, List.set_cons_succ]
              refine takeF (i := 24) (d := 100) (v := .bool true) rfl rfl (by kernel_rfl) (by kernel_rfl) (by kernel_rfl) (fun _ _ _ h => h) (by rfl) (fun w' hSw => by go_simp) (by assumption) ?_
              simp only [List.setIfInBounds_toArray, List.set_cons_zero, List.set_cons_succ]
              refine takeF (i := 25) (d := 101) (v := .bool true) rfl rfl (by kernel_rfl) (by kernel_rfl) (by kernel_rfl) (fun _ _ _ h => h) (by rfl) (fun w' hSw => by go_simp) (by assumption) ?_
              simp only [List.setIfInBounds_toArray, List.set_cons_zero, List.set_cons_succ]
              refine wpAnyH_ready (rs := [26]) (by kernel_rfl) (by simp) ?_
              refine AllReadyH.cons rfl (fun X hX => ?_) AllReadyH.nil
              rw [if_pos (by rfl)]
              go_simp
              refine (HL.out _).mono ?_
              rintro e w9 ⟨rfl, b9⟩
              have hS9 : (Hid (ActM w9 q k ((j : Int) + 1) ts u) ∧ Hid (w9.ownsRow w5.heap.size 9 1 (.slice (some ⟨g, 0, none⟩) pl.length c) pl.length (pl.map Value.string))) ∧ Hid (∃ vv tt st oo, RecF w9 p vv pl tt st oo ∧ recT pl tt st oo = T ∧ (oo = u ∨ oo = emptyB)) ∧ Hid (Below w.heap.size w w9) :=
                ⟨⟨Lib.hid (hS3.1.1.out.after b9), Lib.hid (own_after hS3.1.2.out b9)⟩, Lib.hid (by obtain ⟨vv, tt, st, oo, r1, r2, r3⟩ := hS3.2.1.out; exact ⟨vv, tt, st, oo, r1.after b9, r2, r3⟩), Lib.hid (Below.step hS3.2.2.out b9)⟩
              go_wp2_with fail
              refine hX.out _ _ hS9 (fun hS4 => ?_)
              clear hX X hS3 hS9 b9
              refine takeF (i := 27) (d := 103) (v := .bool true) rfl rfl (by kernel_rfl) (by kernel_rfl) (by kernel_rfl) (fun _ _ _ h => h) (by rfl) (fun w' hSw => by go_simp) (by assumption) ?_
              simp only [List.setIfInBounds_toArray, List.set_cons_zero, List.set_cons_succ]
              refine takeF (i := 28) (d := 6) (v := .bool true) rfl rfl (by kernel_rfl) (by kernel_rfl) (by kernel_rfl) (fun _ _ _ h => h) (by rfl) (fun w' hSw => by go_simp) (by assumption) ?_
              simp only [List.setIfInBounds_toArray, List.set_cons_zero, List.set_cons_succ]
              refine wpAnyH_done (by kernel_rfl) ?_ _
              have HE := Lib.hid hS4.2.2.out
              clear hS4
              go_wp2_with fail
              go_ret
              exact ⟨rfl, HE.out⟩
end Go.Proofs.YtcojnkjcbopnbaaGreatDoor.fieldsJoined
