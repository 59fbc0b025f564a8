/- Merged by program: DoP, Cells, CountP, CountW, G10Join. -/
import Derived.Maps.AppendAt
import Derived.Test.YtbbhcbpfffabpaaGreatDoorGau
import Derived.Test.YtbbhcbpfffabpaaGreatDoorGat
import Derived.Test.YtbbhcbpfffabpaaGreatDoorGao
/- format.Do: a walk. -/
namespace Go.Proofs.YtbbhcbpfffabpaaGreatDoor
open Go.RowKit

theorem string_k (B b : Nat) (l : List UInt8) (w : World) (h : BOk B b l w) :
    Calls Tryz.prog 75 #[.pointer (some ⟨b, 0, none⟩)] w fun e w' => e = .returned (.string ⟨l.toArray⟩) ∧ Below B w w' := by
  refine (Tryz.Builder_String_any_k B b l w h.is h.le).mono ?_
  rintro e w' ⟨rfl, h1, h2, h3⟩
  exact ⟨rfl, h2⟩

/-- How far a format is made. -/
structure DoAt (w wr : World) (l : List UInt8) (cs : List Cel) (r : List UInt8) (cs' : List Cel) (out : List UInt8) : Prop where
  bld : BOk w.heap.size w.heap.size out wr
  left : Left wr w.heap.size (w.heap.size + 1) cs'
  below : Below w.heap.size w wr
  eq : doL l cs = catS (ofL out) (doL r cs')
  fed : Fed r cs'
  len : out.length + 1000 * r.length ≤ 1000 * l.length

theorem do_start (w : World) (l : List UInt8) (cs : List Cel) (p : Option Addr) (n cap : Nat) (hC : CellsAt w p n cap cs) (hlow : ∀ a, p = some a → a.block < w.heap.size) (hF : Fed l cs) :
    DoAt w ((w.alloc (.cells #[.pointer none, .slice none 0 0] 87)).alloc (.cells #[.slice p n cap] 88)) l cs l cs [] := by
  have h1 := heap_alloc_last (w.alloc (.cells #[.pointer none, .slice none 0 0] 87)) (.cells #[.slice p n cap] 88)
  rw [World.size_alloc] at h1
  have hb : Below w.heap.size w ((w.alloc (.cells #[.pointer none, .slice none 0 0] 87)).alloc (.cells #[.slice p n cap] 88)) := Below.step (below_new _ _) (below_new _ _)
  have hB : BOk w.heap.size w.heap.size [] (w.alloc (.cells #[.pointer none, .slice none 0 0] 87)) := ⟨Lib.IsBuilderF.of (Lib.fresh_isBuilder 87 5 w), by rw [World.size_alloc]; omega⟩
  refine ⟨hB.alloc _, ⟨p, n, cap, h1, hC.below hb, hlow, by omega⟩, hb, ?_, hF, by simp⟩
  exact (catS_nil _ (doL_err l cs)).symm

set_option maxRecDepth 100000 in
set_option maxHeartbeats 4000000 in
theorem doP_any (l : List UInt8) (hl : l.length ≤ 1000) (cs : List Cel) (p : Option Addr) (n cap : Nat) (w : World) (hE : Env w) (hC : CellsAt w p n cap cs) (hlow : ∀ a, p = some a → a.block < w.heap.size) (hF : Fed l cs) :
    Calls Tryz.prog 47 #[.string (ofL l), .slice p n cap] w (StrErr (doL l cs) w) := by
  have HE := Lib.hid hE
  have H0 := Lib.hid (do_start w l cs p n cap hC hlow hF)
  have fin : ∀ (s : ByteArray) (x : Int) w', doL l cs = (s, x) → Below w.heap.size w w' → StrErr (doL l cs) w (.returned (.tuple #[.string s, .int .i64 x])) w' := fun s x w' h1 h2 => by
    rw [h1]; exact ⟨rfl, h2⟩
  have FIN := Lib.hid fin
  clear hE fin hC hlow hF
  go_enter Tryz.func47, Tryz.ntmps47
  go_wp2_with fail
  go_loopw [0] (fun x wr => ∃ (r : List UInt8) (cs' : List Cel) (out : List UInt8), x = .string (ofL r) ∧ r.length ≤ 1000 ∧ Hid (DoAt w wr l cs r cs' out)) (fun x _ => lenOf x)
  case atStart => exact ⟨l, cs, [], rfl, hl, H0⟩
  case round =>
    obtain ⟨r, cs', out, rfl, hr, HA⟩ := hrel
    have HC := Lib.hid (cut_of r (by omega) wr (HE.out.after HA.out.below))
    have hout : out.length ≤ 1000000 := by have := HA.out.len; omega
    go_wp2_with fail
    refine HC.out.mono ?_
    rintro e w1 ⟨⟨P, R, h1, h2, rfl⟩ | ⟨h1, rfl⟩, b1⟩
    · have B1 := Lib.hid (Below.step HA.out.below b1)
      have H1 := Lib.hid (⟨h1, h2⟩ : _ ∧ _)
      have hRl : P.length + R.length + 1 = r.length := by rw [h1]; simp; omega
      have HK1 := Lib.hid (HA.out.bld.but (P := fun _ => False) (But.of b1) id (fun _ h => absurd h id))
      have HL1 := Lib.hid (HA.out.left.below b1)
      have HW := Lib.hid (text_spec w.heap.size w.heap.size out (ofL P) w1 HK1.out (by rw [ofL_size]; omega))
      clear b1 h1 h2 HC
      go_wp2_with fail
      refine HW.out.mono ?_
      rintro e w2 ⟨rfl, hw2⟩
      have B2 := Lib.hid (B1.out.trans hw2.below)
      have K2 := Lib.hid hw2.ok
      have L2 := Lib.hid (HL1.out.wrote (by omega) hw2)
      clear hw2 HW HK1 HL1
      have HD1 : Hid (doL l cs = catS (ofL (out ++ P)) (doL (37 :: R) cs')) := Lib.hid (by
        rw [HA.out.eq, H1.out.1, doL_plain _ _ _ H1.out.2, catS_cat, ofL_append])
      have HF1 : Hid (Fed (37 :: R) cs') := Lib.hid (by
        have h := HA.out.fed
        rw [H1.out.1, fed_plain _ _ _ H1.out.2] at h
        exact h)
      rw [show (ofL P).data.toList = P from ofL_list P] at K2
      have hlen1 := HA.out.len
      have HRd := Lib.hid (read_any R (by omega) w2)
      go_wp2_with fail
      refine HRd.out.mono ?_
      rintro e w3 ⟨⟨hno, rfl⟩ | ⟨d, k, hd, rfl⟩, b3⟩
      · have B3 := Lib.hid (B2.out.trans (b3.mono (by have := B2.out.size; omega)))
        have HNo : Hid (doL l cs = (noTxt, 100)) := Lib.hid (by
          have hs : readS R = none := by
            rcases read_same R with ⟨_, h⟩ | ⟨d, d', k, h, _⟩
            · exact h
            · rw [hno] at h; exact absurd h (by simp)
          rw [HD1.out, doL_none hs _ rfl]
          rfl)
        unfold Dir.val
        clear b3 hno HRd
        go_wp2_with fail
        go_ret2
        exact FIN.out _ _ _ HNo.out (Below.step B3.out (below_new _ _))
      · have hk := readP_le hd
        obtain ⟨d', hs, hal⟩ : ∃ d', readS R = some (d', k) ∧ Alike d d' := by
          rcases read_same R with ⟨h, _⟩ | ⟨d2, d', k', h, hs, hal⟩
          · rw [hd] at h; exact absurd h (by simp)
          · rw [hd] at h
            injection h with h
            injection h with e1 e2
            subst e1 e2
            exact ⟨d', hs, hal⟩
        obtain ⟨a1, a2, _, a4, a5, a6⟩ := alike_same hal cs'
        obtain ⟨FD, FR⟩ := (fed_some hs cs' rfl).1 HF1.out
        have ew : ∀ x : Int, (x = -2 ↔ d'.wide = -2) → fillC x cs' = fillC d'.wide cs' := fun x h => by
          unfold fillC
          by_cases h0 : x = -2
          · rw [if_pos h0, if_pos (h.1 h0)]
          · rw [if_neg h0, if_neg (fun h1 => h0 (h.2 h1))]
        have hf2 : d.prec = -2 → COk (hdC (fillC d.wide cs')) := fun h => by rw [ew _ a6]; exact FD.c2 (a5 ▸ h)
        have hf3 : d.letter ≠ 37 → COk (hdC (leftC d cs')) := fun h => by
          have e : leftC d cs' = leftC d' cs' := by unfold leftC; rw [a5, ew _ a6]
          rw [e]; exact FD.c3 (a4 ▸ h)
        have HSo : Hid (doL l cs = if (dirT d cs').2 ≠ 0 then (noTxt, (dirT d cs').2) else catS (ofL (out ++ P) ++ (dirT d cs').1) (doL (R.drop k) (dirC d cs'))) := Lib.hid (by
          rw [HD1.out, doL_some hs _ rfl, ← a1, ← a2]
          by_cases he : (dirT d cs').2 ≠ 0
          · rw [if_pos he, if_pos he]
            unfold catS
            rw [if_neg he]
          · rw [if_neg he, if_neg he, catS_cat])
        have HFR : Hid (Fed (R.drop k) (dirC d cs')) := Lib.hid (by rw [a2]; exact FR)
        have hsz : (dirT d cs').1.size ≤ 600 := by
          rw [dirT_err]
          split
          · exact Nat.zero_le _
          split
          · exact (by decide : (1 : Nat) ≤ 600)
          · rename_i h; exact make_size _ _ (hf3 h)
        have hdrop : (R.drop k).length ≤ R.length := by rw [List.length_drop]; omega
        have B3 := Lib.hid (B2.out.trans (b3.mono (by have := B2.out.size; omega)))
        have hB3 := below_new w3 (.cells #[.bool d.left, .bool d.plus, .bool d.blank, .bool d.zero, .int .i64 d.wide, .int .i64 d.prec, .int .u8 (d.letter : Int)] 97)
        have B4 := Lib.hid (Below.step B3.out hB3)
        have b4 := Below.step b3 hB3
        have L4 := Lib.hid (L2.out.below b4)
        have K4 := Lib.hid (K2.out.but (P := fun _ => False) (But.of b4) id (fun _ h => absurd h id))
        have HMk := Lib.hid (makes_any w.heap.size (w.heap.size + 1) d cs' _ ((EnvB.of HE.out).on B4.out) L4.out (B4.out.size) ⟨hk.2.1, hk.2.2.1⟩ (fun h => FD.c1 (a6.1 h)) hf2 hf3)
        obtain ⟨T, hT⟩ : ∃ T, T = dirT d cs' := ⟨_, rfl⟩
        unfold MakeOut at HMk
        rw [← hT] at HMk HSo hsz
        obtain ⟨s, x⟩ := T
        dsimp only at HMk HSo hsz
        unfold Dir.val at HMk ⊢
        clear b3 hd hk hs hal a1 a2 a4 a5 a6 FD FR ew hf2 hf3 hB3 b4 hT HRd HF1
        go_wp2_with fail
        refine HMk.out.mono ?_
        rintro e w5 ⟨rfl, hb5, hl5⟩
        have N5 := Lib.hid hb5
        have L5 := Lib.hid hl5
        clear hb5 hl5 HMk
        have B5 := Lib.hid (But.below B4.out N5.out (fun k hk => by omega) B4.out.size)
        by_cases hx : x = 0
        · subst hx
          have K5 := Lib.hid (K4.out.but N5.out (by omega) L4.out.kind)
          have L5' := Lib.hid (L5.out rfl)
          have HW := Lib.hid (text_spec w.heap.size w.heap.size (out ++ P) s w5 K5.out (by rw [List.length_append]; omega))
          clear L5
          go_wp2_with fail
          refine HW.out.mono ?_
          rintro e w6 ⟨rfl, hw6⟩
          have B6 := Lib.hid (B5.out.trans hw6.below)
          have K6 := Lib.hid hw6.ok
          have L6 := Lib.hid (L5'.out.wrote (by omega) hw6)
          clear hw6 HW
          go_wp2_with fail
          go_roundw
          case rel =>
            refine ⟨R.drop k, dirC d cs', out ++ P ++ s.data.toList, rfl, by omega, Lib.hid ⟨K6.out, L6.out, B6.out, ?_, HFR.out, ?_⟩⟩
            · rw [HSo.out, if_neg (by decide)]
              have e : ofL (out ++ P ++ s.data.toList) = ofL (out ++ P) ++ s := by rw [← ofL_append, ofL_of]
              rw [e]
            · have hss : s.data.toList.length = s.size := by rw [Lib.size_eq]
              rw [List.length_append, List.length_append, hss]; omega
          case measure =>
            show (ofL (R.drop k)).size < (ofL r).size
            rw [ofL_size, ofL_size]; omega
        · have d1 : (x != 0) = true := bne_iff_ne.2 hx
          have HR : Hid (doL l cs = (noTxt, x)) := Lib.hid (by rw [HSo.out, if_pos hx])
          clear hx
          go_wp2_with fail
          go_ret2
          exact FIN.out _ _ _ HR.out B5.out
    · have B1 := Lib.hid (Below.step HA.out.below b1)
      have HK1 := Lib.hid (HA.out.bld.but (P := fun _ => False) (But.of b1) id (fun _ h => absurd h id))
      have HW := Lib.hid (text_spec w.heap.size w.heap.size out (ofL r) w1 HK1.out (by rw [ofL_size]; omega))
      have HD1 : Hid (doL l cs = (ofL (out ++ r), 0)) := Lib.hid (by
        rw [HA.out.eq, doL_all _ _ h1]
        unfold catS
        rw [if_pos rfl, ofL_append])
      clear b1 h1 HC
      go_wp2_with fail
      refine HW.out.mono ?_
      rintro e w2 ⟨rfl, hw2⟩
      have B2 := Lib.hid (B1.out.trans hw2.below)
      have K2 := Lib.hid hw2.ok
      rw [show (ofL r).data.toList = r from ofL_list r] at K2
      have HStr := Lib.hid (string_k w.heap.size w.heap.size (out ++ r) w2 K2.out)
      clear hw2 HW HK1
      go_wp2_with fail
      refine HStr.out.mono ?_
      rintro e w3 ⟨rfl, b3⟩
      have B3 := Lib.hid (B2.out.trans b3)
      clear b3
      go_wp2_with fail
      go_ret2
      exact FIN.out _ _ _ HD1.out B3.out
end Go.Proofs.YtbbhcbpfffabpaaGreatDoor

/- Cells that a call owns: append; the law's lives. -/
namespace Go.Proofs.YtbbhcbpfffabpaaGreatDoor
open Go.RowKit

def cvals (l : List Cel) : List Value := l.flatMap fun c => [.int .i64 c.k, .int .i64 c.n, .string c.s]
theorem cvals_len : ∀ l : List Cel, (cvals l).length = l.length * 3
  | [] => rfl
  | c :: l => by
    show (_ :: _ :: _ :: cvals l).length = _
    simp only [List.length_cons, cvals_len l]; omega
theorem cvals_append (a b : List Cel) : cvals (a ++ b) = cvals a ++ cvals b := by simp [cvals]
theorem cvals_at : ∀ (l : List Cel) (i : Nat) (c : Cel), l[i]? = some c → (cvals l)[i * 3]? = some (.int .i64 c.k) ∧ (cvals l)[i * 3 + 1]? = some (.int .i64 c.n) ∧ (cvals l)[i * 3 + 2]? = some (.string c.s)
  | [], i, c, h => by simp at h
  | x :: l, 0, c, h => by
    simp at h
    subst h
    exact ⟨rfl, rfl, rfl⟩
  | x :: l, i + 1, c, h => by
    have h' : l[i]? = some c := by simpa using h
    obtain ⟨h1, h2, h3⟩ := cvals_at l i c h'
    have e : ∀ j, (cvals (x :: l))[j + 3]? = (cvals l)[j]? := fun j => rfl
    refine ⟨?_, ?_, ?_⟩
    · rw [show (i + 1) * 3 = i * 3 + 3 from by omega, e]; exact h1
    · rw [show (i + 1) * 3 + 1 = i * 3 + 1 + 3 from by omega, e]; exact h2
    · rw [show (i + 1) * 3 + 2 = i * 3 + 2 + 3 from by omega, e]; exact h3
theorem cvals_one (l : List Cel) : ∀ u ∈ cvals l, u.oneCell' = true := by
  intro u hu
  unfold cvals at hu
  obtain ⟨c, _, h⟩ := List.mem_flatMap.1 hu
  simp only [List.mem_cons, List.mem_nil_iff, or_false] at h
  rcases h with rfl | rfl | rfl <;> rfl
theorem info_cellD : (Tryz.prog.info? 25).map (fun i => (i.zero, i.size, i.bytes)) = some (some (.agg #[.int .i64 0, .int .i64 0, .string ⟨#[]⟩]), 3, 32) := by kernel_rfl
theorem addr_add (b o j : Nat) : Addr.add ⟨b, o, none⟩ j = ⟨b, o + j, none⟩ := by
  unfold Addr.add
  split
  · rename_i h; rw [h]; rfl
  · rfl

/-- Cells that a call owns, read. -/
theorem own_cells {w : World} {base k c : Nat} {p : Option Addr} {l : List Cel} (h : w.ownsRow base 25 3 (.slice p k c) k (cvals l)) (hk : k = l.length) (hc : c ≤ 9223372036854775807) : CellsAt w p k c l := by
  rcases h.2 with ⟨hv, h0⟩ | ⟨g, cap, cur, hv, hg, hh, hkc, hcm, hsz, htake⟩
  · injection hv with e1 e2 e3
    subst e1 e3
    exact ⟨hk, by omega, hc, fun _ => rfl, Or.inl (List.eq_nil_of_length_eq_zero (by omega))⟩
  · injection hv with e1 e2 e3
    subst e1 e3
    refine ⟨hk, hkc, hc, fun e => by simp at e, Or.inr ⟨g, 0, rfl, fun i x hi => ?_⟩⟩
    obtain ⟨h1, h2, h3⟩ := cvals_at l i x hi
    have hil : i < l.length := (List.getElem?_eq_some_iff.1 hi).1
    have key : ∀ j v, j < k * 3 → (cvals l)[j]? = some v → w.cell? ⟨g, 0 + j, none⟩ = some v := fun j v hj hv => by
      rw [Nat.zero_add, cell_of_row w g j cur _ _ hh]
      rw [← htake, List.getElem?_take, if_pos hj] at hv
      simpa using hv
    have e : ∀ j, 0 + i * 3 + j = 0 + (i * 3 + j) := fun j => by omega
    refine ⟨key _ _ (by omega) h1, ?_, ?_⟩
    · rw [e]; exact key _ _ (by omega) h2
    · rw [e]; exact key _ _ (by omega) h3
theorem own_low {w : World} {base k c : Nat} {p : Option Addr} {xs : List Value} {e : TypeId} {size : Nat} (h : w.ownsRow base e size (.slice p k c) k xs) : ∀ a, p = some a → a.block < w.heap.size ∧ base ≤ a.block := by
  intro a ha
  rcases h.2 with ⟨hv, h0⟩ | ⟨g, cap, cur, hv, hg, hh, _⟩
  · injection hv with e1
    rw [e1] at ha
    exact absurd ha (by simp)
  · injection hv with e1
    rw [e1] at ha
    injection ha with ha
    rw [← ha]
    exact ⟨(Array.getElem?_eq_some_iff.1 hh).1, hg⟩
theorem cells_read {w : World} {p : Option Addr} {n c : Nat} {m : List Cel} (h : CellsAt w p n c m) {a : Addr} (ha : p = some a) : ∀ j u, (cvals m)[j]? = some u → w.cell? (a.add j) = some u := by
  intro j u hj
  have hjl : j < m.length * 3 := by rw [← cvals_len]; exact (List.getElem?_eq_some_iff.1 hj).1
  rcases h.cells with h0 | ⟨b, off, hp, hc⟩
  · rw [h0] at hjl; simp at hjl
  · rw [ha] at hp
    injection hp with hp
    subst hp
    obtain ⟨q, r, rfl, hr⟩ : ∃ q r, j = q * 3 + r ∧ r < 3 := ⟨j / 3, j % 3, by omega, by omega⟩
    have hi : q < m.length := by omega
    have hget := List.getElem?_eq_getElem hi
    obtain ⟨h1, h2, h3⟩ := hc _ _ hget
    obtain ⟨k1, k2, k3⟩ := cvals_at m _ _ hget
    rw [addr_add, ← Nat.add_assoc]
    have hr3 : r = 0 ∨ r = 1 ∨ r = 2 := by omega
    rcases hr3 with rfl | rfl | rfl
    · rw [Nat.add_zero] at hj ⊢
      rw [k1] at hj
      injection hj with hj
      rw [← hj]; exact h1
    · rw [k2] at hj
      injection hj with hj
      rw [← hj]; exact h2
    · rw [k3] at hj
      injection hj with hj
      rw [← hj]; exact h3

set_option maxRecDepth 100000 in
/-- append of cells to a row of the call's own. -/
theorem wp_append_cells {ops : Array Oper} {rest : List Oper} {o : Oper} {a : Act} {Q : Exit → Act → World → Prop} (hgd : o.guard = none) (s x : Operand)
    (ho : o.op = .call { callee := .builtin .append, args := #[s, x], argTypes := #[22, 22] }) (base : Nat) (w : World) (v : Value) (k : Nat) (l : List Cel) (q : Option Addr) (n c : Nat) (m : List Cel)
    (hs : a.eval s = v) (hown : w.ownsRow base 25 3 v k (cvals l)) (hx : a.eval x = .slice q n c) (hm : CellsAt w q n c m) (hk : k + n ≤ 1000000) (hbase : base ≤ w.heap.size)
    (h : ∀ p' c' w', Hid (w'.ownsRow base 25 3 (.slice p' (k + n) c') (k + n) (cvals (l ++ m))) → Hid (w.grownBy w' v.ownBlock) → wpList Tryz.prog ops Q rest (a.put o.dst (.slice p' (k + n) c')) w') :
    wpList Tryz.prog ops Q (o :: rest) a w := by
  obtain ⟨i0, hi, hz0, hz1, hz2⟩ := info_parts info_cellD
  have hlen := hm.len
  cases q with
  | none =>
    have hc0 := hm.nil rfl
    have hn0 : n = 0 := by have := hm.room; omega
    have hml : m = [] := List.eq_nil_of_length_eq_zero (by omega)
    subst hn0 hc0 hml
    refine wpList_append_own_none hgd s x 22 ho base 25 i0 3 Tryz.underlying22 hi _ k _ hs hown hx ?_
    obtain ⟨p', c', rfl⟩ : ∃ p' c', v = .slice p' k c' := by
      rcases hown.2 with ⟨hv, h0⟩ | ⟨g, cap, cur, hv, _⟩
      · rw [h0]; exact ⟨_, _, hv⟩
      · exact ⟨_, _, hv⟩
    have := h p' c' w (Lib.hid (by rw [List.append_nil, Nat.add_zero]; exact hown)) (Lib.hid (World.grownBy.refl _ _))
    rw [Nat.add_zero] at this
    exact this
  | some ad =>
    refine wpList_append_own _ hgd s x 22 ho base 25 i0 (.agg #[.int .i64 0, .int .i64 0, .string ⟨#[]⟩]) 3 32 Tryz.underlying22 hi hz0 hz1 hz2 rfl (by decide) v k (cvals l) hs hown ad n c (cvals m) hx ?_ ?_ ?_ ?_ ?_ ?_ ?_
    · rw [cvals_len, hlen]
    · exact cells_read hm rfl
    · exact cvals_one m
    · simp only [maxLen]; omega
    · omega
    · exact hbase
    · intro v' w' hown' hg _
      rw [← cvals_append] at hown'
      obtain ⟨p', c', rfl⟩ : ∃ p' c', v' = .slice p' (k + n) c' := by
        rcases hown'.2 with ⟨hv, h0⟩ | ⟨g, cap, cur, hv, _⟩
        · rw [h0]; exact ⟨_, _, hv⟩
        · exact ⟨_, _, hv⟩
      exact h p' c' w' (Lib.hid hown') (Lib.hid hg)

/-! ### The law's lives -/
end Go.Proofs.YtbbhcbpfffabpaaGreatDoor

/- format.directive's takes, format.Count: walks. -/
namespace Go.Proofs.YtbbhcbpfffabpaaGreatDoor
open Go.RowKit

end Go.Proofs.YtbbhcbpfffabpaaGreatDoor

/- format.Count: a walk. -/
namespace Go.Proofs.YtbbhcbpfffabpaaGreatDoor
open Go.RowKit

def cntN (l : List UInt8) : Nat := (countL l).getD 0
def cntE (l : List UInt8) : Int := if countL l = none then 100 else 0
/-- What Count tells. -/
def CountOut (l : List UInt8) (w : World) (e : Ending) (w' : World) : Prop := e = .returned (.tuple #[.int .i64 (cntN l : Nat), .int .i64 (cntE l)]) ∧ Below w.heap.size w w'
theorem takes_le (d : Dir) : takesD d ≤ 3 := by
  unfold takesD
  split <;> split <;> split <;> omega

end Go.Proofs.YtbbhcbpfffabpaaGreatDoor

/- Formats one behind the other, and more cells than are taken: plain. -/
namespace Go.Proofs.YtbbhcbpfffabpaaGreatDoor
open Go.RowKit

theorem digs_app : ∀ (l r : List UInt8) (n : Nat), (digs l n).2 < l.length → digs (l ++ r) n = digs l n
  | [], _, _, h => absurd h (by simp)
  | b :: l, r, n, h => by
    rw [List.cons_append]
    by_cases hb : 48 ≤ b.toNat ∧ b.toNat ≤ 57
    · have h' : (digs l (if 200 < n * 10 + (b.toNat - 48) then 201 else n * 10 + (b.toNat - 48))).2 < l.length := by
        rw [digs, if_pos hb] at h
        simp only [List.length_cons] at h
        omega
      rw [digs, if_pos hb, digs, if_pos hb, digs_app l r _ h']
    · rw [digs, if_neg hb, digs, if_neg hb]
theorem flagsR_app : ∀ (l r : List UInt8) (d : Dir), (flagsR l d).2 < l.length → flagsR (l ++ r) d = flagsR l d
  | [], _, _, h => absurd h (by simp)
  | b :: l, r, d, h => by
    rw [List.cons_append]
    by_cases hb : b.toNat = 45 ∨ b.toNat = 43 ∨ b.toNat = 32 ∨ b.toNat = 48
    · have h' : (flagsR l { d with left := d.left || b.toNat == 45, plus := d.plus || b.toNat == 43, blank := d.blank || b.toNat == 32, zero := d.zero || b.toNat == 48 }).2 < l.length := by
        rw [flagsR, if_pos hb] at h
        simp only [List.length_cons] at h
        omega
      rw [flagsR, if_pos hb, flagsR, if_pos hb, flagsR_app l r _ h']
    · rw [flagsR, if_neg hb, flagsR, if_neg hb]
theorem numR_app (l r : List UInt8) (h : (numR l).2 < l.length) : numR (l ++ r) = numR l := by
  cases l with
  | nil => exact absurd h (by simp)
  | cons b l =>
    show (if b.toNat = 42 then _ else _) = (if b.toNat = 42 then _ else _)
    by_cases hb : b.toNat = 42
    · rw [if_pos hb, if_pos hb]
    · have h' : (digs (b :: l) 0).2 < (b :: l).length := by
        have e : numR (b :: l) = (((digs (b :: l) 0).1 : Int), (digs (b :: l) 0).2) := by
          show (if b.toNat = 42 then _ else _) = _
          rw [if_neg hb]
        rw [e] at h
        exact h
      rw [if_neg hb, if_neg hb, show b :: l.append r = (b :: l) ++ r from rfl, digs_app _ r 0 h']
theorem pointR_app (l r : List UInt8) (h : (pointR l).2 < l.length) : pointR (l ++ r) = pointR l := by
  cases l with
  | nil => exact absurd h (by simp)
  | cons b l =>
    show (if b.toNat = 46 then _ else _) = (if b.toNat = 46 then _ else _)
    by_cases hb : b.toNat = 46
    · have e : pointR (b :: l) = ((numR l).1, (numR l).2 + 1) := by
        show (if b.toNat = 46 then _ else _) = _
        rw [if_pos hb]
      have h' : (numR l).2 < l.length := by
        rw [e] at h
        simp only [List.length_cons] at h
        omega
      rw [if_pos hb, if_pos hb, show l.append r = l ++ r from rfl, numR_app l r h']
    · rw [if_neg hb, if_neg hb]
theorem headR_app (l r : List UInt8) (h : (headR l).2 < l.length) : headR (l ++ r) = headR l := by
  obtain ⟨a, ha⟩ : ∃ a, a = flagsR l ⟨false, false, false, false, 0, -1, 0⟩ := ⟨_, rfl⟩
  obtain ⟨w, hw⟩ : ∃ w, w = numR (l.drop a.2) := ⟨_, rfl⟩
  obtain ⟨p, hp⟩ : ∃ p, p = pointR (l.drop (a.2 + w.2)) := ⟨_, rfl⟩
  have e : headR l = ({ a.1 with wide := w.1, prec := p.1 }, a.2 + w.2 + p.2) := by
    unfold headR
    dsimp only
    rw [← ha, ← hw, ← hp]
  rw [e] at h
  dsimp only at h
  have e1 : flagsR (l ++ r) ⟨false, false, false, false, 0, -1, 0⟩ = a := by
    rw [flagsR_app l r _ (by rw [← ha]; omega), ha]
  have e2 : numR ((l ++ r).drop a.2) = w := by
    rw [List.drop_append_of_le_length (by omega), numR_app _ r (by rw [← hw, List.length_drop]; omega), hw]
  have e3 : pointR ((l ++ r).drop (a.2 + w.2)) = p := by
    rw [List.drop_append_of_le_length (by omega), pointR_app _ r (by rw [← hp, List.length_drop]; omega), hp]
  rw [e]
  unfold headR
  dsimp only
  rw [e1, e2, e3]
theorem readS_some {l : List UInt8} {d : Dir} {k : Nat} (h : readS l = some (d, k)) : (headR l).2 < l.length ∧ k = (headR l).2 + 1 := by
  unfold readS at h
  by_cases hl : (headR l).2 < l.length
  · refine ⟨hl, ?_⟩
    rw [List.drop_eq_getElem_cons hl] at h
    dsimp only at h
    split at h
    · exact absurd h (by simp)
    · injection h with h
      injection h with _ h
      exact h.symm
  · rw [List.drop_eq_nil_of_le (by omega)] at h
    exact absurd h (by simp)
theorem readS_app {l : List UInt8} {d : Dir} {k : Nat} (r : List UInt8) (h : readS l = some (d, k)) : readS (l ++ r) = some (d, k) := by
  have hl := (readS_some h).1
  rw [← h]
  unfold readS
  rw [headR_app l r hl, List.drop_append_of_le_length (by omega), List.drop_eq_getElem_cons hl]
  rfl

theorem hdC_app (c : Cel) (l x : List Cel) : hdC (c :: l ++ x) = hdC (c :: l) := rfl
theorem dir_more (d : Dir) (cs x : List Cel) (h : takesD d ≤ cs.length) : dirT d (cs ++ x) = dirT d cs ∧ dirC d (cs ++ x) = dirC d cs ++ x ∧ dirC d cs = cs.drop (takesD d) := by
  unfold takesD at h ⊢
  unfold dirT dirC toldD leftC fillE fillV fillC
  by_cases h1 : d.wide = -2
  · by_cases h2 : d.prec = -2
    · by_cases h3 : d.letter = 37
      · simp only [h1, h2, h3, if_true] at h ⊢
        match cs, h with
        | c1 :: c2 :: cs, _ => exact ⟨rfl, rfl, rfl⟩
      · simp only [h1, h2, h3, if_true, if_false] at h ⊢
        match cs, h with
        | c1 :: c2 :: c3 :: cs, _ => exact ⟨rfl, rfl, rfl⟩
    · by_cases h3 : d.letter = 37
      · simp only [h1, h2, h3, if_true, if_false] at h ⊢
        match cs, h with
        | c1 :: cs, _ => exact ⟨rfl, rfl, rfl⟩
      · simp only [h1, h2, h3, if_true, if_false] at h ⊢
        match cs, h with
        | c1 :: c2 :: cs, _ => exact ⟨rfl, rfl, rfl⟩
  · by_cases h2 : d.prec = -2
    · by_cases h3 : d.letter = 37
      · simp only [h1, h2, h3, if_true, if_false] at h ⊢
        match cs, h with
        | c1 :: cs, _ => exact ⟨rfl, rfl, rfl⟩
      · simp only [h1, h2, h3, if_true, if_false] at h ⊢
        match cs, h with
        | c1 :: c2 :: cs, _ => exact ⟨rfl, rfl, rfl⟩
    · by_cases h3 : d.letter = 37
      · simp only [h1, h2, h3, if_true, if_false]
        exact ⟨trivial, trivial, rfl⟩
      · simp only [h1, h2, h3, if_false] at h ⊢
        match cs, h with
        | c1 :: cs, _ => exact ⟨rfl, rfl, rfl⟩

theorem count_pct {b : UInt8} {r : List UInt8} {n : Nat} (hb : b.toNat = 37) (h : countL (b :: r) = some n) : ∃ d k m, readS r = some (d, k) ∧ countL (r.drop k) = some m ∧ n = m + takesD d ∧ k ≤ r.length := by
  cases hr : readS r with
  | none => rw [countL_none hr hb] at h; exact absurd h (by simp)
  | some p =>
    obtain ⟨d, k⟩ := p
    rw [countL_some hr hb] at h
    obtain ⟨m, hm, e⟩ := Option.map_eq_some_iff.1 h
    have := readS_some hr
    exact ⟨d, k, m, rfl, hm, e.symm, by omega⟩

/-- More cells than a format takes change nothing. -/
theorem do_more : ∀ (q : Nat) (l : List UInt8), l.length ≤ q → ∀ (n : Nat) (cs x : List Cel), countL l = some n → n ≤ cs.length → doL l (cs ++ x) = doL l cs
  | _, [], _, _, _, _, _, _ => rfl
  | 0, b :: r, hq, _, _, _, _, _ => absurd hq (by simp)
  | q + 1, b :: r, hq, n, cs, x, h, hn => by
    have hq' : r.length ≤ q := by simpa using hq
    by_cases hb : b.toNat = 37
    · obtain ⟨d, k, m, hr, hm, rfl, hk⟩ := count_pct hb h
      obtain ⟨e1, e2, e3⟩ := dir_more d cs x (by omega)
      rw [doL_some hr _ hb, doL_some hr _ hb, e1, e2, do_more q (r.drop k) (by rw [List.length_drop]; omega) m (dirC d cs) x hm (by rw [e3, List.length_drop]; omega)]
    · rw [countL_other hb] at h
      rw [doL_other hb, doL_other hb, do_more q r hq' n cs x h hn]

/-- What formats one behind the other make. -/
theorem do_join : ∀ (q : Nat) (l : List UInt8), l.length ≤ q → ∀ (g : List UInt8) (n : Nat) (cs : List Cel), countL l = some n → n ≤ cs.length →
    doL (l ++ g) cs = if (doL l cs).2 = 0 then catS (doL l cs).1 (doL g (cs.drop n)) else doL l cs
  | _, [], _, g, n, cs, h, _ => by
    have e : n = 0 := by rw [countL_nil] at h; injection h with h; exact h.symm
    subst e
    rw [List.nil_append, doL_nil, if_pos rfl, List.drop_zero]
    exact (catS_nil _ (doL_err g cs)).symm
  | 0, b :: r, hq, _, _, _, _, _ => absurd hq (by simp)
  | q + 1, b :: r, hq, g, n, cs, h, hn => by
    have hq' : r.length ≤ q := by simpa using hq
    rw [List.cons_append]
    by_cases hb : b.toNat = 37
    · obtain ⟨d, k, m, hr, hm, rfl, hk⟩ := count_pct hb h
      obtain ⟨_, _, e3⟩ := dir_more d cs [] (by omega)
      rw [doL_some (readS_app g hr) _ hb, doL_some hr _ hb, List.drop_append_of_le_length hk]
      by_cases he : (dirT d cs).2 ≠ 0
      · rw [if_pos he, if_pos he, if_neg he]
      · rw [if_neg he, if_neg he, do_join q (r.drop k) (by rw [List.length_drop]; omega) g m (dirC d cs) hm (by rw [e3, List.length_drop]; omega), e3, List.drop_drop, Nat.add_comm (takesD d) m]
        by_cases h2 : (doL (r.drop k) (cs.drop (takesD d))).2 = 0
        · rw [if_pos h2]
          have e : catS (dirT d cs).1 (doL (r.drop k) (cs.drop (takesD d))) = ((dirT d cs).1 ++ (doL (r.drop k) (cs.drop (takesD d))).1, 0) := by
            unfold catS; rw [if_pos h2]
          rw [e, if_pos rfl, catS_cat]
        · rw [if_neg h2]
          have e : catS (dirT d cs).1 (doL (r.drop k) (cs.drop (takesD d))) = (noTxt, (doL (r.drop k) (cs.drop (takesD d))).2) := by
            unfold catS; rw [if_neg h2]
          rw [e, if_neg h2]
    · rw [countL_other hb] at h
      rw [doL_other hb, doL_other hb, do_join q r hq' g n cs h hn]
      by_cases h2 : (doL r cs).2 = 0
      · rw [if_pos h2]
        have e : catS (ofL [b]) (doL r cs) = (ofL [b] ++ (doL r cs).1, 0) := by
          unfold catS; rw [if_pos h2]
        rw [e, if_pos rfl, catS_cat]
      · rw [if_neg h2]
        have e : catS (ofL [b]) (doL r cs) = (noTxt, (doL r cs).2) := by
          unfold catS; rw [if_neg h2]
        rw [e, if_neg h2]
theorem doL_more {l : List UInt8} {n : Nat} {cs x : List Cel} (h : countL l = some n) (hn : n ≤ cs.length) : doL l (cs ++ x) = doL l cs := do_more l.length l (Nat.le_refl _) n cs x h hn
theorem doL_join {l : List UInt8} {n : Nat} {cs : List Cel} (g : List UInt8) (h : countL l = some n) (hn : n ≤ cs.length) :
    doL (l ++ g) cs = if (doL l (cs.take n)).2 = 0 then catS (doL l (cs.take n)).1 (doL g (cs.drop n)) else doL l (cs.take n) := by
  have e : doL l cs = doL l (cs.take n) := by
    have := doL_more (l := l) (n := n) (cs := cs.take n) (x := cs.drop n) h (by rw [List.length_take]; omega)
    rwa [List.take_append_drop] at this
  rw [do_join l.length l (Nat.le_refl _) g n cs h hn, e]
end Go.Proofs.YtbbhcbpfffabpaaGreatDoor
