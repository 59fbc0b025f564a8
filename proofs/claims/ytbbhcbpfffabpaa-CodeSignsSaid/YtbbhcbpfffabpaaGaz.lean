/- Merged by program: C15E, C15G, C15H. -/
import Derived.Laws.StructEq
import Derived.Test.YtbbhcbpfffabpaaGay
import Derived.Test.YtbbhcbpfffabpaaGal
/- The document's Join of layer 15 (gen_c15e.py). -/
namespace Go.Proofs.Ytbbhcbpfffabpaa
open Go.RowKit T3

theorem strA_form (s : ByteArray) : ∃ k n r e, strA s = twoC k n r e := by
  unfold strA
  split
  · exact ⟨_, _, _, _, rfl⟩
  · exact ⟨_, _, _, _, rfl⟩
theorem keepC {w w1 w2 : World} {cs ds : Array Value} {a0 a1 a2 a3 a4 a5 : Addr} {v0 v1 v2 v3 v4 v5 : Value} (h : Hid (∃ es : Array Value, es.size = 3 ∧ Tw w w1 cs ds es) ∧ w1.cell? a0 = some v0 ∧ w1.cell? a1 = some v1 ∧ w1.cell? a2 = some v2 ∧ w1.cell? a3 = some v3 ∧ w1.cell? a4 = some v4 ∧ w1.cell? a5 = some v5) (hb : Below w1.heap.size w1 w2) :
    Hid (∃ es : Array Value, es.size = 3 ∧ Tw w w2 cs ds es) ∧ w2.cell? a0 = some v0 ∧ w2.cell? a1 = some v1 ∧ w2.cell? a2 = some v2 ∧ w2.cell? a3 = some v3 ∧ w2.cell? a4 = some v4 ∧ w2.cell? a5 = some v5 := by
  obtain ⟨h0, e0, e1, e2, e3, e4, e5⟩ := h
  have keep : ∀ {a : Addr} {v : Value}, w1.cell? a = some v → w2.cell? a = some v := fun {a v} e => by rw [hb.cell (p := a) (cell_lt e)]; exact e
  obtain ⟨es, hz, ht⟩ := h0.out
  exact ⟨Lib.hid ⟨es, hz, ht.after hb⟩, keep e0, keep e1, keep e2, keep e3, keep e4, keep e5⟩
theorem strC_big (k n : Int) (s : ByteArray) (hs : s.size ≤ 65536) : (strC k n s).size ≤ 65536 := by
  unfold strC
  split
  · have := showT_size n; omega
  · split
    · exact hs
    · exact Nat.zero_le _

set_option maxRecDepth 100000 in
set_option maxHeartbeats 1000000 in
theorem refJoin_any (k n : Int) (s : ByteArray) (k2 n2 : Int) (s2 : ByteArray) (hn : Fits n) (hn2 : Fits n2) (hs : s.size ≤ 65536) (hs2 : s2.size ≤ 65536) (w : World) :
    Calls Try.prog 16 #[.agg (cellC k n s), .agg (cellC k2 n2 s2)] w fun e w' => e = .returned (strA (strC k n s ++ strC k2 n2 s2)) ∧ Below w.heap.size w w' := by
  have HI := info_cell
  have HA := Lib.hid (fun w => refStr_any k n s hn w)
  have HB := Lib.hid (fun w => refStr_any k2 n2 s2 hn2 w)
  have z1 : (strC k n s).size ≤ 65536 := strC_big k n s hs
  have z2 : (strC k2 n2 s2).size ≤ 65536 := strC_big k2 n2 s2 hs2
  obtain ⟨x, hx⟩ : ∃ x, x = strC k n s := ⟨_, rfl⟩
  obtain ⟨y, hy⟩ : ∃ y, y = strC k2 n2 s2 := ⟨_, rfl⟩
  rw [← hx] at HA z1 ⊢
  rw [← hy] at HB z2 ⊢
  have hsz : ¬ 9223372036854775807 < x.size + y.size := by omega
  have HS := Lib.hid (fun w => refstr_any (x ++ y) w)
  obtain ⟨k3, n3, s3, e3, hA⟩ := strA_form (x ++ y)
  rw [hA] at HS ⊢
  clear hx hy hn hn2 hs hs2 z1 z2 hA
  obtain ⟨V, hV, HR⟩ := tw_new w (cellC k n s) (cellC k2 n2 s2) zeroC
  go_enter Try.func16, Try.ntmps16
  go_upto_region 1 with (fail)
  change Code.wp _ _ _ _ (((w.alloc (.cells (cellC k n s) 23)).alloc (.cells (cellC k2 n2 s2) 23)).alloc (.cells zeroC 23))
  rw [← hV]
  clear hV
  obtain ⟨a0, a1, a2⟩ := three_of HR.out.a
  obtain ⟨b0, b1, b2⟩ := three_of HR.out.b
  have H0 : Hid (Hid (∃ es, es.size = 3 ∧ Tw w V (cellC k n s) (cellC k2 n2 s2) es) ∧ V.cell? ⟨w.heap.size, 0, none⟩ = some (.int .i64 k) ∧ V.cell? ⟨w.heap.size, 1, none⟩ = some (.int .i64 n) ∧ V.cell? ⟨w.heap.size, 2, none⟩ = some (.string s) ∧ V.cell? ⟨w.heap.size + 1, 0, none⟩ = some (.int .i64 k2) ∧ V.cell? ⟨w.heap.size + 1, 1, none⟩ = some (.int .i64 n2) ∧ V.cell? ⟨w.heap.size + 1, 2, none⟩ = some (.string s2)) := Lib.hid ⟨Lib.hid ⟨_, rfl, HR.out⟩, by simpa using a0, by simpa using a1, by simpa using a2, by simpa using b0, by simpa using b1, by simpa using b2⟩
  clear a0 a1 a2 b0 b1 b2
  refine wp_region_held_drew (S := fun W' => Hid (∃ es, es.size = 3 ∧ Tw w W' (cellC k n s) (cellC k2 n2 s2) es) ∧ W'.cell? ⟨w.heap.size, 0, none⟩ = some (.int .i64 k) ∧ W'.cell? ⟨w.heap.size, 1, none⟩ = some (.int .i64 n) ∧ W'.cell? ⟨w.heap.size, 2, none⟩ = some (.string s) ∧ W'.cell? ⟨w.heap.size + 1, 0, none⟩ = some (.int .i64 k2) ∧ W'.cell? ⟨w.heap.size + 1, 1, none⟩ = some (.int .i64 n2) ∧ W'.cell? ⟨w.heap.size + 1, 2, none⟩ = some (.string s2)) (by kernel_rfl) ?_ (fun hS => ?_)
  · exact keepC H0.out (below_drew _)
  clear H0
  refine takeW (i := 0) (d := 6) (v := .agg #[.int .i64 k, .int .i64 n, .string s]) rfl rfl (by kernel_rfl) (by kernel_rfl) (by kernel_rfl) (fun _ _ _ h => h) (by rfl) (fun w' hSw => by obtain ⟨x_, x0, x1, x2, y0, y1, y2⟩ := hSw; go_simp) hS ?_
  simp only [List.setIfInBounds_toArray, List.set_cons_zero, List.set_cons_succ]
  refine takeW (i := 2) (d := 8) (v := .agg #[.int .i64 k2, .int .i64 n2, .string s2]) rfl rfl (by kernel_rfl) (by kernel_rfl) (by kernel_rfl) (fun _ _ _ h => h) (by rfl) (fun w' hSw => by obtain ⟨x_, x0, x1, x2, y0, y1, y2⟩ := hSw; go_simp) hS ?_
  simp only [List.setIfInBounds_toArray, List.set_cons_zero, List.set_cons_succ]
  refine wpAnyH_ready (rs := [1]) (by kernel_rfl) (by simp) ?_
  refine AllReadyH.cons rfl (fun X hX => ?_) (AllReadyH.nil)
  rw [if_pos (by rfl)]
  go_simp
  refine (HA.out _).mono ?_; rintro e w1 ⟨rfl, b1⟩
  go_wp2_with fail
  refine hX.out _ _ (keepC hS b1) (fun hS2_1 => ?_)
  clear hX X hS b1
  refine wpAnyH_ready (rs := [3]) (by kernel_rfl) (by simp) ?_
  refine AllReadyH.cons rfl (fun X hX => ?_) (AllReadyH.nil)
  rw [if_pos (by rfl)]
  go_simp
  refine (HB.out _).mono ?_; rintro e w1 ⟨rfl, b1⟩
  go_wp2_with fail
  refine hX.out _ _ (keepC hS2_1 b1) (fun hS3_3 => ?_)
  clear hX X hS2_1 b1
  refine takeW (i := 4) (d := 10) (v := .string (x ++ y)) rfl rfl (by kernel_rfl) (by kernel_rfl) (by kernel_rfl) (fun _ _ _ h => h) (by rfl) (fun w' hSw => by obtain ⟨x_, x0, x1, x2, y0, y1, y2⟩ := hSw; go_simp) hS3_3 ?_
  simp only [List.setIfInBounds_toArray, List.set_cons_zero, List.set_cons_succ]
  refine wpAnyH_ready (rs := [5]) (by kernel_rfl) (by simp) ?_
  refine AllReadyH.cons rfl (fun X hX => ?_) (AllReadyH.nil)
  rw [if_pos (by rfl)]
  go_simp
  refine (HS.out _).mono ?_; rintro e w1 ⟨rfl, b1⟩; unfold twoC
  go_wp2_with fail
  refine hX.out _ _ (keepC hS3_3 b1) (fun hS5_5 => ?_)
  clear hX X hS3_3 b1
  refine takeW (i := 6) (d := 12) (v := .agg (cellC k3 n3 s3)) rfl rfl (by kernel_rfl) (by kernel_rfl) (by kernel_rfl) (fun _ _ _ h => h) (by rfl) (fun w' hSw => by obtain ⟨x_, x0, x1, x2, y0, y1, y2⟩ := hSw; go_simp) hS5_5 ?_
  simp only [List.setIfInBounds_toArray, List.set_cons_zero, List.set_cons_succ]
  refine takeW (i := 7) (d := 13) (v := .int .i64 e3) rfl rfl (by kernel_rfl) (by kernel_rfl) (by kernel_rfl) (fun _ _ _ h => h) (by rfl) (fun w' hSw => by obtain ⟨x_, x0, x1, x2, y0, y1, y2⟩ := hSw; go_simp) hS5_5 ?_
  simp only [List.setIfInBounds_toArray, List.set_cons_zero, List.set_cons_succ]
  obtain ⟨es, hes, HT⟩ := hS5_5.1.out
  refine wpAnyH_ready (rs := [8]) (by kernel_rfl) (by simp) ?_
  refine AllReadyH.cons rfl (fun X hX => ?_) AllReadyH.nil
  rw [if_pos (by rfl)]
  refine wp_store_row 23 (.tmp 4) (.tmp 12) rfl (w.heap.size + 1 + 1) (cellC k3 n3 s3) rfl rfl 23 es HT.r.row HI hes (cell_one3 _ _ _) ?_
  have HZ := Lib.hid (HT.put (cellC k3 n3 s3))
  obtain ⟨p0, p1, p2⟩ := three_of HZ.out.a
  obtain ⟨q0, q1, q2⟩ := three_of HZ.out.b
  refine hX.out _ _ ⟨Lib.hid ⟨_, rfl, HZ.out⟩, p0, p1, p2, q0, q1, q2⟩ (fun hS2 => ?_)
  clear hX X hS5_5 HT p0 p1 p2 q0 q1 q2
  simp only [Act.put]
  refine takeW (i := 9) (d := 5) (v := .int .i64 e3) rfl rfl (by kernel_rfl) (by kernel_rfl) (by kernel_rfl) (fun _ _ _ h => h) (by rfl) (fun w' hSw => by obtain ⟨x_, x0, x1, x2, y0, y1, y2⟩ := hSw; go_simp) hS2 ?_
  simp only [List.setIfInBounds_toArray]
  refine wpAnyH_done (by kernel_rfl) ?_ _
  clear hS2
  obtain ⟨Z, hZ⟩ : ∃ Z, Z = w1.setRow (w.heap.size + 1 + 1) (cellC k3 n3 s3) := ⟨_, rfl⟩
  rw [← hZ] at HZ ⊢
  clear hZ
  go_wp2_with fail
  obtain ⟨d0, d1, d2⟩ := three_of HZ.out.r
  refine bodyPost_ret (v := twoC k3 n3 s3 e3) ?_ rfl ?_
  · simp [results, Try.results16, go_sem, d0, d1, d2, twoC, cellC]
  · exact ⟨rfl, HZ.out.below⟩
end Go.Proofs.Ytbbhcbpfffabpaa

/- The document's Key of layer 15. -/
namespace Go.Proofs.Ytbbhcbpfffabpaa
open Go.RowKit T3

/-- Cells' texts with sep between; nothing of more than 200 bytes. -/
def keyGo (sep : ByteArray) : Bool → ByteArray → List Cel → Value
  | _, acc, [] => .tuple #[.string acc, .int .i64 0]
  | first, acc, c :: l => if 200 < ((if first = true then acc else acc ++ sep) ++ strC c.k c.n c.s).size then .tuple #[.string ⟨#[]⟩, .int .i64 150] else keyGo sep false ((if first = true then acc else acc ++ sep) ++ strC c.k c.n c.s) l
def keyF (sep : ByteArray) (l : List Cel) : Value := keyGo sep true ⟨#[]⟩ l
def okL (l : List Cel) : Prop := ∀ c, c ∈ l → Fits c.n ∧ c.s.size ≤ 300

set_option maxRecDepth 100000 in
set_option maxHeartbeats 2000000 in
theorem refKey_any (l : List Cel) (p : Option Addr) (n cap : Nat) (sep : ByteArray) (hsep : sep.size ≤ 300) (hl : okL l) (w : World) (hc : CellsAt w p n cap l) :
    Calls Try.prog 18 #[.slice p n cap, .string sep] w fun e w' => e = .returned (keyF sep l) ∧ Below w.heap.size w w' := by
  have HL := Lib.hid hl
  have HCA := Lib.hid hc
  have hn : n ≤ 9223372036854775807 := Nat.le_trans hc.room hc.bound
  have HN : Hid (n = l.length) := Lib.hid hc.len
  obtain ⟨R, hR⟩ : ∃ R, R = keyF sep l := ⟨_, rfl⟩
  rw [← hR]
  have HR := Lib.hid hR
  clear hl hc hR
  go_enter Try.func18, Try.ntmps18
  go_wp2_with fail
  go_loopw [6, 7] (fun y z wr => ∃ (acc : ByteArray) (i : Nat), y = .string acc ∧ z = .int .i64 i ∧ i ≤ n ∧ acc.size ≤ 200 ∧ Hid (R = keyGo sep (decide (i = 0)) acc (l.drop i)) ∧ Hid (Below w.heap.size w wr)) (fun _ z _ => n - (intOf z).toNat)
  case atStart => exact ⟨⟨#[]⟩, 0, rfl, rfl, by omega, by decide, Lib.hid (by rw [HR.out]; rfl), Lib.hid (Below.refl _ _)⟩
  case round =>
    obtain ⟨acc, i, rfl, rfl, hi, hacc, HE, hb⟩ := hrel
    by_cases hlt : i < n
    · have hil : i < l.length := by rw [← HN.out]; exact hlt
      have hx := List.getElem?_eq_getElem hil
      have hd : l.drop i = l[i] :: l.drop (i + 1) := List.drop_eq_getElem_cons hil
      have hok := HL.out l[i] (List.getElem_mem hil)
      obtain ⟨x, hxe⟩ : ∃ x, x = l[i] := ⟨_, rfl⟩
      rw [← hxe] at hx hd hok
      obtain ⟨b, off, rfl, hcc⟩ : ∃ b off, p = some ⟨b, off, none⟩ ∧ ∀ i c, l[i]? = some c → w.cell? ⟨b, off + i * 3, none⟩ = some (.int .i64 c.k) ∧ w.cell? ⟨b, off + i * 3 + 1, none⟩ = some (.int .i64 c.n) ∧ w.cell? ⟨b, off + i * 3 + 2, none⟩ = some (.string c.s) := by
        rcases HCA.out.cells with h0 | h0
        · rw [h0] at hil; simp at hil
        · exact h0
      obtain ⟨e0, e1, e2⟩ := hcc i x hx
      have key : ∀ (o : Nat) (v : Value), w.cell? ⟨b, o, none⟩ = some v → wr.cell? ⟨b, o, none⟩ = some v := fun o v hv => by
        rw [hb.out.cell (p := ⟨b, o, none⟩) (cell_lt hv)]; exact hv
      have c0 := key _ _ e0
      have c1 := key _ _ e1
      have c2 := key _ _ e2
      have hroom := HCA.out.room
      have HS := Lib.hid (fun w => refStr_any x.k x.n x.s hok.1 w)
      have zs := strC_size x.k x.n x.s hok.2
      obtain ⟨u, hu⟩ : ∃ u, u = strC x.k x.n x.s := ⟨_, rfl⟩
      rw [← hu] at HS zs
      clear hcc e0 e1 e2 key hx hok hil hxe
      by_cases h0 : i = 0
      · subst h0
        simp only [Nat.zero_mul, Nat.add_zero] at c0 c1 c2
        have HE2 : Hid (R = if 200 < (acc ++ u).size then .tuple #[.string ⟨#[]⟩, .int .i64 150] else keyGo sep false (acc ++ u) (l.drop 1)) := Lib.hid (by rw [HE.out, hd, hu]; rfl)
        clear hd hu HE
        have n1 : ¬ 9223372036854775807 < acc.size + u.size := by omega
        have hsz : (acc ++ u).size = acc.size + u.size := ByteArray.size_append
        by_cases hg : 200 < acc.size + u.size
        · have d1 : decide ((200 : Int) < (acc.size : Int) + u.size) = true := decide_eq_true (by omega)
          have HF : Hid (R = .tuple #[.string ⟨#[]⟩, .int .i64 150]) := Lib.hid (by rw [HE2.out, if_pos (by rw [hsz]; exact hg)])
          clear HE2 hsz
          go_wp2_with fail
          refine (HS.out _).mono ?_
          rintro e w1 ⟨rfl, bb⟩
          have B1 := Lib.hid (Below.step hb.out bb)
          clear bb c0 c1 c2
          go_wp2_with fail
          go_ret2
          exact ⟨by rw [HF.out]; rfl, B1.out⟩
        · have d1 : decide ((200 : Int) < (acc.size : Int) + u.size) = false := decide_eq_false (by omega)
          have HF : Hid (R = keyGo sep false (acc ++ u) (l.drop 1)) := Lib.hid (by rw [HE2.out, if_neg (by rw [hsz]; exact hg)])
          have hz : (acc ++ u).size ≤ 200 := by omega
          have HZ := Lib.hid hz
          clear HE2 hsz hz
          go_wp2_with fail
          refine (HS.out _).mono ?_
          rintro e w1 ⟨rfl, bb⟩
          have B1 := Lib.hid (Below.step hb.out bb)
          clear bb c0 c1 c2
          go_wp2_with fail
          go_roundw
          case rel => exact ⟨acc ++ u, 1, rfl, by go_num, by omega, HZ.out, Lib.hid (by rw [HF.out]; rfl), B1⟩
          case measure => simp [intOf]; omega
      · have hi0 : (0 : Int) < (i : Int) := by omega
        have HE2 : Hid (R = if 200 < (acc ++ sep ++ u).size then .tuple #[.string ⟨#[]⟩, .int .i64 150] else keyGo sep false (acc ++ sep ++ u) (l.drop (i + 1))) := Lib.hid (by rw [HE.out, hd, hu, decide_eq_false h0]; rfl)
        clear hd hu HE h0
        have n0 : ¬ 9223372036854775807 < acc.size + sep.size := by omega
        have n1 : ¬ 9223372036854775807 < acc.size + sep.size + u.size := by omega
        have hsz : (acc ++ sep ++ u).size = acc.size + sep.size + u.size := by rw [ByteArray.size_append, ByteArray.size_append]
        by_cases hg : 200 < acc.size + sep.size + u.size
        · have d1 : decide ((200 : Int) < (acc.size : Int) + sep.size + u.size) = true := decide_eq_true (by omega)
          have HF : Hid (R = .tuple #[.string ⟨#[]⟩, .int .i64 150]) := Lib.hid (by rw [HE2.out, if_pos (by rw [hsz]; exact hg)])
          clear HE2 hsz
          go_wp2_with fail
          refine (HS.out _).mono ?_
          rintro e w1 ⟨rfl, bb⟩
          have B1 := Lib.hid (Below.step hb.out bb)
          clear bb c0 c1 c2
          go_wp2_with fail
          go_ret2
          exact ⟨by rw [HF.out]; rfl, B1.out⟩
        · have d1 : decide ((200 : Int) < (acc.size : Int) + sep.size + u.size) = false := decide_eq_false (by omega)
          have HF : Hid (R = keyGo sep false (acc ++ sep ++ u) (l.drop (i + 1))) := Lib.hid (by rw [HE2.out, if_neg (by rw [hsz]; exact hg)])
          have hz : (acc ++ sep ++ u).size ≤ 200 := by omega
          have HZ := Lib.hid hz
          clear HE2 hsz hz
          go_wp2_with fail
          refine (HS.out _).mono ?_
          rintro e w1 ⟨rfl, bb⟩
          have B1 := Lib.hid (Below.step hb.out bb)
          clear bb c0 c1 c2
          go_wp2_with fail
          go_roundw
          case rel => exact ⟨acc ++ sep ++ u, i + 1, rfl, by go_num, by omega, HZ.out, Lib.hid (by rw [HF.out]; rfl), B1⟩
          case measure => simp [intOf]; omega
    · have hin : l.drop i = [] := List.drop_eq_nil_of_le (by rw [← HN.out]; omega)
      have HF : Hid (R = .tuple #[.string acc, .int .i64 0]) := Lib.hid (by rw [HE.out, hin]; cases (decide (i = 0)) <;> rfl)
      clear hin HE
      go_wp2_with fail
      go_ret2
      exact ⟨by rw [HF.out]; rfl, hb.out⟩
end Go.Proofs.Ytbbhcbpfffabpaa

/- The laws of layer 15 over the program's contracts: lives, is. -/
namespace Go.Proofs.Ytbbhcbpfffabpaa
open Go.RowKit T3

/-- What the program's signs and functions do. -/
structure CodeOk : Prop where
  two : ∀ (g : ByteArray) (k n : Int) (s : ByteArray) (k2 n2 : Int) (s2 : ByteArray) (w : World), Fits n → Fits n2 → fitB k n s = true → fitB k2 n2 s2 = true → Calls Try.prog 9 #[.string g, .agg (cellC k n s), .agg (cellC k2 n2 s2)] w fun e w' => e = .returned (twoF g (refCmpC k n s k2 n2 s2) (numL k n s) (numL k2 n2 s2)) ∧ Below w.heap.size w w'
  one : ∀ (g : ByteArray) (k n : Int) (s : ByteArray) (w : World), Fits n → fitB k n s = true → Calls Try.prog 11 #[.string g, .agg (cellC k n s)] w fun e w' => e = .returned (oneF g (truthL k n s) (numL k n s)) ∧ Below w.heap.size w w'
  join : ∀ (k n : Int) (s : ByteArray) (k2 n2 : Int) (s2 : ByteArray) (w : World), Fits n → Fits n2 → canB k n s = true → canB k2 n2 s2 = true → s.size ≤ 65536 → s2.size ≤ 65536 → Calls Try.prog 15 #[.agg (cellC k n s), .agg (cellC k2 n2 s2)] w fun e w' => e = .returned (strA (strC k n s ++ strC k2 n2 s2)) ∧ Below w.heap.size w w'
  key : ∀ (l : List Cel) (p : Option Addr) (n cap : Nat) (sep : ByteArray) (w : World), sep.size ≤ 300 → okL l → (∀ c, c ∈ l → fitB c.k c.n c.s = true) → CellsAt w p n cap l → Calls Try.prog 17 #[.slice p n cap, .string sep] w fun e w' => e = .returned (keyF sep l) ∧ Below w.heap.size w w'
  count : ∀ (k n : Int) (s : ByteArray) (w : World), Fits n → fitB k n s = true → Calls Try.prog 19 #[.agg (cellC k n s)] w fun e w' => e = .returned (countF (numL k n s)) ∧ Below w.heap.size w w'
  bool : ∀ w : World, Calls Try.prog 22 #[.bool true] w fun e w' => e = .returned (.agg (cellC 1 1000000 ⟨#[]⟩)) ∧ Below w.heap.size w w'

theorem lives_two (c : Int) : twoF ⟨#[43]⟩ c (numL 2 0 ⟨#[51, 120]⟩) (numL 1 1000000 ⟨#[]⟩) = twoC 1 4000000 ⟨#[]⟩ 0 := by
  rw [twoF_43]
  kernel_rfl

set_option maxRecDepth 100000 in
set_option maxHeartbeats 1000000 in
theorem lives15 (H : CodeOk) (w : World) : Calls Try.prog 8 #[] w fun e w' => e = .returned (.bool true) ∧ Below w.heap.size w w' := by
  have HI := info_cell
  have HT := Lib.hid (fun w => by have h := H.two ⟨#[43]⟩ 2 0 ⟨#[51, 120]⟩ 1 1000000 ⟨#[]⟩ w (by unfold Fits; omega) (by unfold Fits; omega) (by kernel_rfl) (by kernel_rfl); rw [lives_two] at h; exact h)
  have HB := Lib.hid H.bool
  clear H
  go_enter Try.func8, Try.ntmps8
  go_wp2_with fail
  refine (HT.out _).mono ?_
  rintro e w1 ⟨rfl, b1⟩
  have B1 := Lib.hid b1
  unfold twoC
  clear b1 HT
  go_upto_region 2 with (refine wpList_store_row rfl 23 (.tmp 1) (.tmp 7) rfl w1.heap.size (cellC 1 4000000 ⟨#[]⟩) rfl rfl 23 zeroC (heap_alloc_last _ _) HI rfl (cell_one3 _ _ _) ?_)
  obtain ⟨W2, hW2, X2, B2⟩ : ∃ W2, W2 = (w1.alloc (.cells zeroC 23)).setRow w1.heap.size (cellC 1 4000000 ⟨#[]⟩) ∧ Hid (Cx W2 w1.heap.size (cellC 1 4000000 ⟨#[]⟩)) ∧ Hid (Below w1.heap.size w1 W2) :=
    ⟨_, rfl, Lib.hid (Cx.setRow (cs := zeroC) ⟨heap_alloc_last _ _⟩ _), Lib.hid (below_row (below_new w1 _) (Nat.le_refl _) _)⟩
  change Code.wp _ _ _ _ ((w1.alloc (.cells zeroC 23)).setRow w1.heap.size (cellC 1 4000000 ⟨#[]⟩))
  rw [← hW2]
  clear hW2
  obtain ⟨a0, a1, a2⟩ := three_of X2.out
  go_wp2_with fail
  refine (HB.out _).mono ?_
  rintro e w3 ⟨rfl, b3⟩
  have B3 := Lib.hid (Below.step B1.out (Below.step B2.out b3))
  unfold cellC
  clear b3 a0 a1 a2
  go_wp2_with fail
  go_ret
  exact ⟨rfl, B3.out⟩
end Go.Proofs.Ytbbhcbpfffabpaa
