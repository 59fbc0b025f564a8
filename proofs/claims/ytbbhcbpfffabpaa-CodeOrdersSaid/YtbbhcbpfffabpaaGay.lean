/- Merged by program: C15F, C15D. -/
import Derived.Test.YtbbhcbpfffabpaaGal
import Derived.Test.YtbbhcbpfffabpaaGax
/- The law's fits and cells (layer 15). -/
namespace Go.Proofs.Ytbbhcbpfffabpaa
open Go.RowKit T3

/-- A cell that can be, and is short. -/
def fitB (k n : Int) (s : ByteArray) : Bool := decide (s.size ≤ 300) && canB k n s
set_option maxRecDepth 100000 in
theorem fits_any (k n : Int) (s : ByteArray) (w : World) : Calls Try.prog 7 #[.agg (cellC k n s)] w fun e w' => e = .returned (.bool (fitB k n s)) ∧ Below w.heap.size w w' := by
  obtain ⟨W, hW, HX, HB, _⟩ := cx_new w (cellC k n s)
  by_cases hs : s.size ≤ 300
  · have HC := Lib.hid (fun W => refCan_any k n s hs W)
    have d1 : decide ((s.size : Int) ≤ 300) = true := decide_eq_true (by omega)
    rw [show fitB k n s = canB k n s from by unfold fitB; rw [decide_eq_true hs, Bool.true_and]]
    clear hs
    go_enter Try.func7, Try.ntmps7
    go_upto_region 1 with (fail)
    change Code.wp _ _ _ _ (w.alloc (.cells (cellC k n s) 23))
    rw [← hW]
    clear hW
    obtain ⟨a0, a1, a2⟩ := three_of HX.out
    go_wp2_with fail
    refine (HC.out _).mono ?_
    rintro e w1 ⟨rfl, bb⟩
    have HB1 := Lib.hid (Below.step HB.out bb)
    clear bb a0 a1 a2
    go_wp2_with fail
    go_ret
    exact ⟨rfl, HB1.out⟩
  · have d1 : decide ((s.size : Int) ≤ 300) = false := decide_eq_false (by omega)
    rw [show fitB k n s = false from by unfold fitB; rw [decide_eq_false hs, Bool.false_and]]
    clear hs
    go_enter Try.func7, Try.ntmps7
    go_upto_region 1 with (fail)
    change Code.wp _ _ _ _ (w.alloc (.cells (cellC k n s) 23))
    rw [← hW]
    clear hW
    obtain ⟨a0, a1, a2⟩ := three_of HX.out
    go_wp2_with fail
    go_ret
    exact ⟨rfl, HB.out⟩

def okC (c : Cel) : Bool := fitB c.k c.n c.s
def pickC (l : List Cel) : List Cel := (l.take 6).filter okC
/-- What the law's cells tells. -/
def CellsOut (l : List Cel) (w : World) (e : Ending) (w' : World) : Prop :=
  ∃ p c, e = .returned (.slice p (pickC l).length c) ∧ Hid (w'.ownsRow w.heap.size 23 3 (.slice p (pickC l).length c) (pickC l).length (cvals (pickC l))) ∧ Below w.heap.size w w'

theorem take_filter {l : List Cel} {i : Nat} (h : i < l.length) : (l.take (i + 1)).filter okC = (l.take i).filter okC ++ (if okC l[i] then [l[i]] else []) := by
  rw [List.take_succ_eq_append_getElem h, List.filter_append]
  congr 1
  cases hb : okC l[i] <;> simp [hb]
theorem filter_len (l : List Cel) (i : Nat) : ((l.take i).filter okC).length ≤ i := by
  have h1 := List.length_filter_le okC (l.take i)
  rw [List.length_take] at h1
  omega

set_option maxRecDepth 100000 in
set_option maxHeartbeats 2000000 in
theorem lawCells_any (l : List Cel) (p : Option Addr) (n cap : Nat) (w : World) (hn : n ≤ 9223372036854775807) (hlen : n = l.length)
    (hcells : l = [] ∨ ∃ b off, p = some ⟨b, off, none⟩ ∧ ∀ i c, l[i]? = some c → w.cell? ⟨b, off + i * 3, none⟩ = some (.int .i64 c.k) ∧ w.cell? ⟨b, off + i * 3 + 1, none⟩ = some (.int .i64 c.n) ∧ w.cell? ⟨b, off + i * 3 + 2, none⟩ = some (.string c.s)) :
    Calls Try.prog 14 #[.slice p n cap] w (CellsOut l w) := by
  have H := Lib.hid hcells
  have HN := Lib.hid hlen
  clear hcells hlen
  go_enter Try.func14, Try.ntmps14
  go_wp2_with fail
  have B0 := Lib.hid (below_new w (.cells #[] 23))
  have O0 : Hid ((w.alloc (.cells #[] 23)).ownsRow w.heap.size 23 3 (.slice (some ⟨w.heap.size, 0, none⟩) 0 0) 0 (cvals [])) := Lib.hid (World.ownsRow_lit (base := w.heap.size) (e := 23) (size := 3) w #[] 0 (Nat.le_refl _) (by simp only [maxLen]; omega) (by simp))
  go_loopw [3, 4] (fun x y wr => ∃ (i k : Nat) (q : Option Addr) (c : Nat), x = .slice q k c ∧ y = .int .i64 i ∧ i ≤ 6 ∧ i ≤ n ∧ k ≤ i ∧ Hid (k = ((l.take i).filter okC).length ∧ wr.ownsRow w.heap.size 23 3 (.slice q k c) k (cvals ((l.take i).filter okC)) ∧ Below w.heap.size w wr)) (fun _ y _ => 6 - (intOf y).toNat)
  case atStart => exact ⟨0, 0, _, 0, rfl, rfl, by omega, by omega, by omega, Lib.hid ⟨rfl, O0.out, B0.out⟩⟩
  case round =>
    obtain ⟨i, k, q, c, rfl, rfl, hi6, hin, hki, HA⟩ := hrel
    by_cases hlt : i < n ∧ i < 6
    · have hil : i < l.length := by rw [← HN.out]; exact hlt.1
      have HT := Lib.hid (take_filter hil)
      have hx := List.getElem?_eq_getElem hil
      obtain ⟨x, hxe⟩ : ∃ x, x = l[i] := ⟨_, rfl⟩
      rw [← hxe] at hx HT
      obtain ⟨b, off, rfl, hc⟩ : ∃ b off, p = some ⟨b, off, none⟩ ∧ ∀ i c, l[i]? = some c → w.cell? ⟨b, off + i * 3, none⟩ = some (.int .i64 c.k) ∧ w.cell? ⟨b, off + i * 3 + 1, none⟩ = some (.int .i64 c.n) ∧ w.cell? ⟨b, off + i * 3 + 2, none⟩ = some (.string c.s) := by
        rcases H.out with h0 | h0
        · rw [h0] at hil; simp at hil
        · exact h0
      obtain ⟨e0, e1, e2⟩ := hc i x hx
      have hbw : b < w.heap.size := cell_lt e0
      have key : ∀ (o : Nat) (v : Value), w.cell? ⟨b, o, none⟩ = some v → wr.cell? ⟨b, o, none⟩ = some v := fun o v hv => by
        rw [HA.out.2.2.cell (p := ⟨b, o, none⟩) hbw]; exact hv
      have c0 := key _ _ e0
      have c1 := key _ _ e1
      have c2 := key _ _ e2
      have hbr : b < wr.heap.size := cell_lt c0
      have dt1 : decide ((i : Int) < (n : Int)) = true := decide_eq_true (by omega)
      have dt2 : decide ((i : Int) < 6) = true := decide_eq_true (by omega)
      clear hc hx hxe e0 e1 e2 key
      have hlt1 := hlt.1
      have hlt2 := hlt.2
      clear hlt
      have HC := Lib.hid (fun W => fits_any x.k x.n x.s W)
      have HO : Hid (okC x = fitB x.k x.n x.s) := Lib.hid rfl
      obtain ⟨V, hV⟩ : ∃ V, V = fitB x.k x.n x.s := ⟨_, rfl⟩
      rw [← hV] at HC HO
      clear hV
      cases V with
      | true =>
        have HF : Hid ((l.take (i + 1)).filter okC = (l.take i).filter okC ++ [x]) := Lib.hid (by rw [HT.out, HO.out]; rfl)
        go_wp2_with fail
        refine (HC.out _).mono ?_
        rintro e w1 ⟨rfl, b1⟩
        have OW1 := Lib.hid (own_below HA.out.2.1 b1)
        have B1 := Lib.hid (Below.step HA.out.2.2 b1)
        have key2 : ∀ (o : Nat) (v : Value), wr.cell? ⟨b, o, none⟩ = some v → w1.cell? ⟨b, o, none⟩ = some v := fun o v hv => by
          rw [b1.cell (p := ⟨b, o, none⟩) hbr]; exact hv
        have d0 := key2 _ _ c0
        have d2 := key2 _ _ c1
        have d3 := key2 _ _ c2
        have hb1 : b < w1.heap.size := cell_lt d0
        have OW2 := Lib.hid (OW1.out.alloc (.cells #[.int .i64 x.k, .int .i64 x.n, .string x.s] 23))
        have B2 := Lib.hid (Below.step B1.out (below_new w1 (.cells #[.int .i64 x.k, .int .i64 x.n, .string x.s] 23)))
        have hone : CellsAt (w1.alloc (.cells #[.int .i64 x.k, .int .i64 x.n, .string x.s] 23)) (some ⟨w1.heap.size, 0, none⟩) 1 1 [x] := by
          refine ⟨rfl, by omega, by omega, fun e => by simp at e, Or.inr ⟨w1.heap.size, 0, rfl, fun j y hj => ?_⟩⟩
          have hj0 : j = 0 := by have := (List.getElem?_eq_some_iff.1 hj).1; simpa using this
          subst hj0
          simp at hj
          subst hj
          refine ⟨?_, ?_, ?_⟩ <;> simp [go_sem]
        have HONE := Lib.hid hone
        clear b1 key2 hone c0 c1 c2
        have hbs2 : w.heap.size ≤ (w1.alloc (.cells #[.int .i64 x.k, .int .i64 x.n, .string x.s] 23)).heap.size := B2.out.size
        have hk1 : k + 1 ≤ 1000000 := by omega
        go_wp2_with (at_builtin; (refine wp_append_cells rfl _ _ rfl w.heap.size _ (.slice q k c) k ((l.take i).filter okC) _ 1 1 [x] rfl OW2.out rfl HONE.out hk1 hbs2 ?_; intro p' c' w3 ho hg))
        have OW3 := Lib.hid ho.out
        have B3 := Lib.hid (B2.out.grown hg.out B2.out.size (fun j hj => (OW2.out.lt j hj).1))
        clear ho hg
        go_wp2_with fail
        go_roundw
        case rel =>
          refine ⟨i + 1, k + 1, p', c', rfl, by go_num, by omega, by omega, by omega, Lib.hid ⟨?_, ?_, B3.out⟩⟩
          · rw [HF.out, List.length_append, ← HA.out.1]; rfl
          · rw [HF.out]; exact OW3.out
        case measure => simp [intOf]; omega
      | false =>
        have HF : Hid ((l.take (i + 1)).filter okC = (l.take i).filter okC) := Lib.hid (by rw [HT.out, HO.out]; simp)
        go_wp2_with fail
        refine (HC.out _).mono ?_
        rintro e w1 ⟨rfl, b1⟩
        have OW1 := Lib.hid (own_below HA.out.2.1 b1)
        have B1 := Lib.hid (Below.step HA.out.2.2 b1)
        clear b1
        go_wp2_with fail
        go_roundw
        case rel => exact ⟨i + 1, k, q, c, rfl, by go_num, by omega, by omega, by omega, Lib.hid ⟨by rw [HF.out]; exact HA.out.1, by rw [HF.out]; exact OW1.out, B1.out⟩⟩
        case measure => simp [intOf]; omega
    · have HP : Hid (pickC l = (l.take i).filter okC) := Lib.hid (by
        unfold pickC
        have h : l.take 6 = l.take i := by
          have := HN.out
          rcases Nat.lt_or_ge i 6 with h6 | h6
          · have hin2 : n ≤ i := Nat.le_of_not_lt fun h => hlt ⟨h, h6⟩
            rw [List.take_of_length_le (by omega), List.take_of_length_le (by omega)]
          · rw [show i = 6 from by omega]
        rw [h])
      have fin : CellsOut l w (.returned (.slice q k c)) wr := ⟨q, c, by rw [HP.out, ← HA.out.1], Lib.hid (by rw [HP.out, ← HA.out.1]; exact HA.out.2.1), HA.out.2.2⟩
      have FIN := Lib.hid fin
      clear fin
      by_cases h1 : i < n
      · have dt1 : decide ((i : Int) < (n : Int)) = true := decide_eq_true (by omega)
        have dt2 : decide ((i : Int) < 6) = false := decide_eq_false (by omega)
        clear hlt
        go_wp2_with fail
        go_ret
        exact FIN.out
      · have dt1 : decide ((i : Int) < (n : Int)) = false := decide_eq_false (by omega)
        clear hlt
        go_wp2_with fail
        go_ret
        exact FIN.out
end Go.Proofs.Ytbbhcbpfffabpaa

/- The document's One, Count, Join of layer 15 (gen_c15d.py). -/
namespace Go.Proofs.Ytbbhcbpfffabpaa
open Go.RowKit T3

/-- A cell and a result in blocks. -/
structure On (w V : World) (cs es : Array Value) : Prop where
  a : Cx V w.heap.size cs
  r : Cx V (w.heap.size + 1) es
  below : Below w.heap.size w V
theorem On.after {w V W : World} {cs es : Array Value} (h : On w V cs es) (hb : Below V.heap.size V W) : On w W cs es := ⟨h.a.after hb, h.r.after hb, Below.step h.below hb⟩
theorem on_new (w : World) (cs es : Array Value) : ∃ W, W = (w.alloc (.cells cs 23)).alloc (.cells es 23) ∧ Hid (On w W cs es) := by
  have s1 : (w.alloc (.cells cs 23)).heap.size = w.heap.size + 1 := World.size_alloc _ _
  have b1 := below_new w (.cells cs 23)
  have b2 := below_new (w.alloc (.cells cs 23)) (.cells es 23)
  have h1 := heap_alloc_last w (.cells cs 23)
  have h2 := heap_alloc_last (w.alloc (.cells cs 23)) (.cells es 23)
  rw [s1] at h2
  exact ⟨_, rfl, Lib.hid ⟨⟨(b2.block w.heap.size (by omega)).trans h1⟩, ⟨h2⟩, Below.step b1 b2⟩⟩
theorem On.put {w V : World} {cs es : Array Value} (h : On w V cs es) (fs : Array Value) : On w (V.setRow (w.heap.size + 1) fs) cs fs := by
  have other : ∀ k, k ≠ w.heap.size + 1 → (V.setRow (w.heap.size + 1) fs).heap[k]? = V.heap[k]? := fun k hk => Go.setRow_other _ _ _ _ hk
  exact ⟨⟨by rw [other _ (by omega)]; exact h.a.row⟩, h.r.setRow fs, below_row h.below (by omega) fs⟩

/-- What a sign makes of one cell. -/
def oneF (g : ByteArray) (tr : Bool) (p : Int × Int) : Value :=
  if g = ⟨#[33]⟩ then boolA (!tr) else if g = ⟨#[45]⟩ then numA (if p.2 = 0 then T1.back (-p.1) else p) else if g = ⟨#[43]⟩ then numA p else errA 1

set_option maxRecDepth 100000 in
set_option maxHeartbeats 1000000 in
theorem refOne_33 (k n : Int) (s : ByteArray) (hn : Fits n) (hs : s.size ≤ 300) (w : World) :
    Calls Try.prog 12 #[.string ⟨#[33]⟩, .agg (cellC k n s)] w fun e w' => e = .returned (oneF ⟨#[33]⟩ (truthL k n s) (numL k n s)) ∧ Below w.heap.size w w' := by
  have HI := info_cell
  have HT := Lib.hid (fun w => refTruth_any k n s w)
  have HN := Lib.hid (fun w => refNum_any k n s hs w)
  obtain ⟨tr, htr⟩ : ∃ tr, tr = truthL k n s := ⟨_, rfl⟩
  rw [← htr] at HT ⊢
  obtain ⟨x, p2, hp⟩ : ∃ x p2, numL k n s = (x, p2) := ⟨_, _, rfl⟩
  have hx : Fits x := by have := numL_fits k n s hn; rw [hp] at this; exact this
  rw [hp] at HN ⊢
  clear htr hp hn hs
  obtain ⟨W, hW, HR⟩ := on_new w (cellC k n s) zeroC
  rw [show oneF ⟨#[33]⟩ tr (x, p2) = boolA (!tr) from rfl]
  clear hx HN
  go_enter Try.func12, Try.ntmps12
  go_upto_region 1 with (fail)
  change Code.wp _ _ _ _ ((w.alloc (.cells (cellC k n s) 23)).alloc (.cells zeroC 23))
  rw [← hW]
  clear hW
  obtain ⟨a0, a1, a2⟩ := three_of HR.out.a
  go_wp2_with fail
  refine (HT.out _).mono ?_
  rintro e w1 ⟨rfl, bb⟩
  have HR1 := Lib.hid (HR.out.after bb)
  clear bb a0 a1 a2 HR
  go_wp2_with fail
  refine (refBool_any _ _).mono ?_
  rintro e w2 ⟨rfl, bb⟩
  have HR2 := Lib.hid (HR1.out.after bb)
  clear bb HR1
  go_wp2_with (refine wpList_store_row rfl 23 (.tmp 4) (.tmp 13) rfl (w.heap.size + 1) (cellC 1 (boolN (!tr)) ⟨#[]⟩) rfl rfl 23 zeroC HR2.out.r.row HI rfl (cell_one3 _ _ _) ?_)
  obtain ⟨Z, hZ, HZ⟩ : ∃ Z, Z = w2.setRow (w.heap.size + 1) (cellC 1 (boolN (!tr)) ⟨#[]⟩) ∧ Hid (On w Z (cellC k n s) (cellC 1 (boolN (!tr)) ⟨#[]⟩)) := ⟨_, rfl, Lib.hid (HR2.out.put _)⟩
  rw [← hZ]
  clear hZ
  obtain ⟨d0, d1, d2⟩ := three_of HZ.out.r
  refine bodyPost_ret (v := twoC 1 (boolN (!tr)) ⟨#[]⟩ 0) ?_ rfl ?_
  · simp [results, Try.results12, go_sem, d0, d1, d2, twoC, cellC]
  · exact ⟨rfl, HZ.out.below⟩

set_option maxRecDepth 100000 in
set_option maxHeartbeats 1000000 in
theorem refOne_45 (k n : Int) (s : ByteArray) (hn : Fits n) (hs : s.size ≤ 300) (w : World) :
    Calls Try.prog 12 #[.string ⟨#[45]⟩, .agg (cellC k n s)] w fun e w' => e = .returned (oneF ⟨#[45]⟩ (truthL k n s) (numL k n s)) ∧ Below w.heap.size w w' := by
  have HI := info_cell
  have HT := Lib.hid (fun w => refTruth_any k n s w)
  have HN := Lib.hid (fun w => refNum_any k n s hs w)
  obtain ⟨tr, htr⟩ : ∃ tr, tr = truthL k n s := ⟨_, rfl⟩
  rw [← htr] at HT ⊢
  obtain ⟨x, p2, hp⟩ : ∃ x p2, numL k n s = (x, p2) := ⟨_, _, rfl⟩
  have hx : Fits x := by have := numL_fits k n s hn; rw [hp] at this; exact this
  rw [hp] at HN ⊢
  clear htr hp hn hs
  obtain ⟨W, hW, HR⟩ := on_new w (cellC k n s) zeroC
  rw [show oneF ⟨#[45]⟩ tr (x, p2) = numA (if p2 = 0 then T1.back (-x) else (x, p2)) from rfl]
  by_cases h1 : p2 = 0
  · subst h1
    rw [if_pos rfl]
    obtain ⟨P, hP⟩ : ∃ P, P = T1.back (-x) := ⟨_, rfl⟩
    have HOP : Hid (∀ w, Calls Try.prog 44 #[.int .i64 x] w fun e w' => e = .returned (.tuple #[.int .i64 P.1, .int .i64 P.2]) ∧ Below w.heap.size w w') := Lib.hid (fun w => by rw [hP]; exact T1.refNeg_any x w hx)
    rw [← hP]
    clear hP hx HT
    obtain ⟨k3, n3, s3, e3, hA⟩ := numA_form P
    have HNM := Lib.hid (fun w => refnum_any P.1 P.2 w)
    rw [show (P.1, P.2) = P from rfl, hA] at HNM
    rw [hA]
    clear hA
    go_enter Try.func12, Try.ntmps12
    go_upto_region 1 with (fail)
    change Code.wp _ _ _ _ ((w.alloc (.cells (cellC k n s) 23)).alloc (.cells zeroC 23))
    rw [← hW]
    clear hW
    obtain ⟨a0, a1, a2⟩ := three_of HR.out.a
    go_wp2_with fail
    refine (HN.out _).mono ?_
    rintro e w1 ⟨rfl, bb⟩
    have HR1 := Lib.hid (HR.out.after bb)
    unfold two
    clear bb a0 a1 a2 HR
    go_wp2_with fail
    refine (HOP.out _).mono ?_
    rintro e w2 ⟨rfl, bb⟩
    have HRX := Lib.hid (HR1.out.after bb)
    clear bb HR1
    go_wp2_with fail
    refine (HNM.out _).mono ?_
    rintro e w3 ⟨rfl, bb⟩
    have HR3 := Lib.hid (HRX.out.after bb)
    unfold twoC
    clear bb HRX
    go_wp2_with (refine wpList_store_row rfl 23 (.tmp 4) (.tmp 37) rfl (w.heap.size + 1) (cellC k3 n3 s3) rfl rfl 23 zeroC HR3.out.r.row HI rfl (cell_one3 _ _ _) ?_)
    obtain ⟨Z, hZ, HZ⟩ : ∃ Z, Z = w3.setRow (w.heap.size + 1) (cellC k3 n3 s3) ∧ Hid (On w Z (cellC k n s) (cellC k3 n3 s3)) := ⟨_, rfl, Lib.hid (HR3.out.put _)⟩
    rw [← hZ]
    clear hZ
    obtain ⟨d0, d1, d2⟩ := three_of HZ.out.r
    refine bodyPost_ret (v := twoC k3 n3 s3 e3) ?_ rfl ?_
    · simp [results, Try.results12, go_sem, d0, d1, d2, twoC, cellC]
    · exact ⟨rfl, HZ.out.below⟩
  · rw [if_neg h1]
    have hne : (p2 == 0) = false := by simpa using h1
    have HNM := Lib.hid (fun w => refnum_any x p2 w)
    rw [show numA (x, p2) = twoC 0 0 ⟨#[]⟩ p2 from if_neg h1] at HNM ⊢
    clear h1 hx HT
    go_enter Try.func12, Try.ntmps12
    go_upto_region 1 with (fail)
    change Code.wp _ _ _ _ ((w.alloc (.cells (cellC k n s) 23)).alloc (.cells zeroC 23))
    rw [← hW]
    clear hW
    obtain ⟨a0, a1, a2⟩ := three_of HR.out.a
    go_wp2_with fail
    refine (HN.out _).mono ?_
    rintro e w1 ⟨rfl, bb⟩
    have HRX := Lib.hid (HR.out.after bb)
    unfold two
    clear bb a0 a1 a2 HR
    go_wp2_with fail
    refine (HNM.out _).mono ?_
    rintro e w3 ⟨rfl, bb⟩
    have HR3 := Lib.hid (HRX.out.after bb)
    unfold twoC
    clear bb HRX
    go_wp2_with (refine wpList_store_row rfl 23 (.tmp 4) (.tmp 42) rfl (w.heap.size + 1) (cellC 0 0 ⟨#[]⟩) rfl rfl 23 zeroC HR3.out.r.row HI rfl (cell_one3 _ _ _) ?_)
    obtain ⟨Z, hZ, HZ⟩ : ∃ Z, Z = w3.setRow (w.heap.size + 1) (cellC 0 0 ⟨#[]⟩) ∧ Hid (On w Z (cellC k n s) (cellC 0 0 ⟨#[]⟩)) := ⟨_, rfl, Lib.hid (HR3.out.put _)⟩
    rw [← hZ]
    clear hZ
    obtain ⟨d0, d1, d2⟩ := three_of HZ.out.r
    refine bodyPost_ret (v := twoC 0 0 ⟨#[]⟩ p2) ?_ rfl ?_
    · simp [results, Try.results12, go_sem, d0, d1, d2, twoC, cellC]
    · exact ⟨rfl, HZ.out.below⟩

set_option maxRecDepth 100000 in
set_option maxHeartbeats 1000000 in
theorem refOne_43 (k n : Int) (s : ByteArray) (hn : Fits n) (hs : s.size ≤ 300) (w : World) :
    Calls Try.prog 12 #[.string ⟨#[43]⟩, .agg (cellC k n s)] w fun e w' => e = .returned (oneF ⟨#[43]⟩ (truthL k n s) (numL k n s)) ∧ Below w.heap.size w w' := by
  have HI := info_cell
  have HT := Lib.hid (fun w => refTruth_any k n s w)
  have HN := Lib.hid (fun w => refNum_any k n s hs w)
  obtain ⟨tr, htr⟩ : ∃ tr, tr = truthL k n s := ⟨_, rfl⟩
  rw [← htr] at HT ⊢
  obtain ⟨x, p2, hp⟩ : ∃ x p2, numL k n s = (x, p2) := ⟨_, _, rfl⟩
  have hx : Fits x := by have := numL_fits k n s hn; rw [hp] at this; exact this
  rw [hp] at HN ⊢
  clear htr hp hn hs
  obtain ⟨W, hW, HR⟩ := on_new w (cellC k n s) zeroC
  rw [show oneF ⟨#[43]⟩ tr (x, p2) = numA (x, p2) from rfl]
  obtain ⟨k3, n3, s3, e3, hA⟩ := numA_form (x, p2)
  have HNM := Lib.hid (fun w => refnum_any x p2 w)
  rw [hA] at HNM ⊢
  clear hA hx HT
  by_cases h1 : p2 = 0
  · subst h1
    go_enter Try.func12, Try.ntmps12
    go_upto_region 1 with (fail)
    change Code.wp _ _ _ _ ((w.alloc (.cells (cellC k n s) 23)).alloc (.cells zeroC 23))
    rw [← hW]
    clear hW
    obtain ⟨a0, a1, a2⟩ := three_of HR.out.a
    go_wp2_with fail
    refine (HN.out _).mono ?_
    rintro e w1 ⟨rfl, bb⟩
    have HRX := Lib.hid (HR.out.after bb)
    unfold two
    clear bb a0 a1 a2 HR
    go_wp2_with fail
    refine (HNM.out _).mono ?_
    rintro e w3 ⟨rfl, bb⟩
    have HR3 := Lib.hid (HRX.out.after bb)
    unfold twoC
    clear bb HRX
    go_wp2_with (refine wpList_store_row rfl 23 (.tmp 4) (.tmp 42) rfl (w.heap.size + 1) (cellC k3 n3 s3) rfl rfl 23 zeroC HR3.out.r.row HI rfl (cell_one3 _ _ _) ?_)
    obtain ⟨Z, hZ, HZ⟩ : ∃ Z, Z = w3.setRow (w.heap.size + 1) (cellC k3 n3 s3) ∧ Hid (On w Z (cellC k n s) (cellC k3 n3 s3)) := ⟨_, rfl, Lib.hid (HR3.out.put _)⟩
    rw [← hZ]
    clear hZ
    obtain ⟨d0, d1, d2⟩ := three_of HZ.out.r
    refine bodyPost_ret (v := twoC k3 n3 s3 e3) ?_ rfl ?_
    · simp [results, Try.results12, go_sem, d0, d1, d2, twoC, cellC]
    · exact ⟨rfl, HZ.out.below⟩
  · have hne : (p2 == 0) = false := by simpa using h1
    clear h1
    go_enter Try.func12, Try.ntmps12
    go_upto_region 1 with (fail)
    change Code.wp _ _ _ _ ((w.alloc (.cells (cellC k n s) 23)).alloc (.cells zeroC 23))
    rw [← hW]
    clear hW
    obtain ⟨a0, a1, a2⟩ := three_of HR.out.a
    go_wp2_with fail
    refine (HN.out _).mono ?_
    rintro e w1 ⟨rfl, bb⟩
    have HRX := Lib.hid (HR.out.after bb)
    unfold two
    clear bb a0 a1 a2 HR
    go_wp2_with fail
    refine (HNM.out _).mono ?_
    rintro e w3 ⟨rfl, bb⟩
    have HR3 := Lib.hid (HRX.out.after bb)
    unfold twoC
    clear bb HRX
    go_wp2_with (refine wpList_store_row rfl 23 (.tmp 4) (.tmp 42) rfl (w.heap.size + 1) (cellC k3 n3 s3) rfl rfl 23 zeroC HR3.out.r.row HI rfl (cell_one3 _ _ _) ?_)
    obtain ⟨Z, hZ, HZ⟩ : ∃ Z, Z = w3.setRow (w.heap.size + 1) (cellC k3 n3 s3) ∧ Hid (On w Z (cellC k n s) (cellC k3 n3 s3)) := ⟨_, rfl, Lib.hid (HR3.out.put _)⟩
    rw [← hZ]
    clear hZ
    obtain ⟨d0, d1, d2⟩ := three_of HZ.out.r
    refine bodyPost_ret (v := twoC k3 n3 s3 e3) ?_ rfl ?_
    · simp [results, Try.results12, go_sem, d0, d1, d2, twoC, cellC]
    · exact ⟨rfl, HZ.out.below⟩

set_option maxRecDepth 100000 in
set_option maxHeartbeats 1000000 in
theorem refOne_other (g : ByteArray) (h0 : g ≠ ⟨#[33]⟩) (h1 : g ≠ ⟨#[45]⟩) (h2 : g ≠ ⟨#[43]⟩) (k n : Int) (s : ByteArray) (hn : Fits n) (hs : s.size ≤ 300) (w : World) :
    Calls Try.prog 12 #[.string g, .agg (cellC k n s)] w fun e w' => e = .returned (oneF g (truthL k n s) (numL k n s)) ∧ Below w.heap.size w w' := by
  have HI := info_cell
  have HT := Lib.hid (fun w => refTruth_any k n s w)
  have HN := Lib.hid (fun w => refNum_any k n s hs w)
  obtain ⟨tr, htr⟩ : ∃ tr, tr = truthL k n s := ⟨_, rfl⟩
  rw [← htr] at HT ⊢
  obtain ⟨x, p2, hp⟩ : ∃ x p2, numL k n s = (x, p2) := ⟨_, _, rfl⟩
  have hx : Fits x := by have := numL_fits k n s hn; rw [hp] at this; exact this
  rw [hp] at HN ⊢
  clear htr hp hn hs
  obtain ⟨W, hW, HR⟩ := on_new w (cellC k n s) zeroC
  rw [show oneF g tr (x, p2) = errA 1 from by unfold oneF; rw [if_neg h0, if_neg h1, if_neg h2]]
  have f0 : (g.toList == [33]) = false := ne_bytes h0
  have f1 : (g.toList == [45]) = false := ne_bytes h1
  have f2 : (g.toList == [43]) = false := ne_bytes h2
  clear h0 h1 h2 hx HN HT
  go_enter Try.func12, Try.ntmps12
  go_upto_region 1 with (fail)
  change Code.wp _ _ _ _ ((w.alloc (.cells (cellC k n s) 23)).alloc (.cells zeroC 23))
  rw [← hW]
  clear hW
  obtain ⟨a0, a1, a2⟩ := three_of HR.out.a
  go_wp2_with (refine wpList_store_row rfl 23 (.tmp 4) (.tmp 20) rfl (w.heap.size + 1) (cellC 0 0 ⟨#[]⟩) rfl rfl 23 zeroC HR.out.r.row HI rfl (cell_one3 _ _ _) ?_)
  obtain ⟨Z, hZ, HZ⟩ : ∃ Z, Z = W.setRow (w.heap.size + 1) (cellC 0 0 ⟨#[]⟩) ∧ Hid (On w Z (cellC k n s) (cellC 0 0 ⟨#[]⟩)) := ⟨_, rfl, Lib.hid (HR.out.put _)⟩
  rw [← hZ]
  clear hZ
  obtain ⟨d0, d1, d2⟩ := three_of HZ.out.r
  refine bodyPost_ret (v := twoC 0 0 ⟨#[]⟩ 1) ?_ rfl ?_
  · simp [results, Try.results12, go_sem, d0, d1, d2, twoC, cellC]
  · exact ⟨rfl, HZ.out.below⟩

theorem refOne_any (g : ByteArray) (k n : Int) (s : ByteArray) (hn : Fits n) (hs : s.size ≤ 300) (w : World) :
    Calls Try.prog 12 #[.string g, .agg (cellC k n s)] w fun e w' => e = .returned (oneF g (truthL k n s) (numL k n s)) ∧ Below w.heap.size w w' := by
  by_cases h0 : g = ⟨#[33]⟩
  · subst h0; exact refOne_33 k n s hn hs w
  by_cases h1 : g = ⟨#[45]⟩
  · subst h1; exact refOne_45 k n s hn hs w
  by_cases h2 : g = ⟨#[43]⟩
  · subst h2; exact refOne_43 k n s hn hs w
  exact refOne_other g h0 h1 h2 k n s hn hs w

theorem tdiv_fits (x : Int) (hx : Fits x) : -9223372036854775808 ≤ x.tdiv 1000000 ∧ x.tdiv 1000000 ≤ 9223372036854775807 := by
  unfold Fits at hx
  rcases Int.le_total 0 x with h | h
  · rw [Int.tdiv_eq_ediv_of_nonneg h]
    omega
  · have e : x.tdiv 1000000 = -((-x) / 1000000) := by
      have h2 := Int.neg_tdiv (a := -x) (b := 1000000)
      rw [Int.neg_neg] at h2
      rw [h2, Int.tdiv_eq_ediv_of_nonneg (by omega)]
    rw [e]
    omega
/-- A cell's number of ones. -/
def countF (p : Int × Int) : Value := if p.2 = 0 then .tuple #[.int .i64 (p.1.tdiv 1000000), .int .i64 0] else .tuple #[.int .i64 0, .int .i64 p.2]
set_option maxRecDepth 100000 in
set_option maxHeartbeats 1000000 in
theorem refCount_any (k n : Int) (s : ByteArray) (hn : Fits n) (hs : s.size ≤ 300) (w : World) :
    Calls Try.prog 20 #[.agg (cellC k n s)] w fun e w' => e = .returned (countF (numL k n s)) ∧ Below w.heap.size w w' := by
  have HN := Lib.hid (fun w => refNum_any k n s hs w)
  obtain ⟨x, p2, hp⟩ : ∃ x p2, numL k n s = (x, p2) := ⟨_, _, rfl⟩
  have hx : Fits x := by have := numL_fits k n s hn; rw [hp] at this; exact this
  rw [hp] at HN ⊢
  clear hp hn hs
  obtain ⟨W, hW, HX, HB, _⟩ := cx_new w (cellC k n s)
  by_cases h1 : p2 = 0
  · subst h1
    have hw : wrap64 (x.tdiv 1000000) = x.tdiv 1000000 := by
      have := tdiv_fits x hx
      exact IntWalk.wrap64_in _ ⟨by omega, by omega⟩
    have HW := Lib.hid hw
    clear hx hw
    go_enter Try.func20, Try.ntmps20
    go_upto_region 1 with (fail)
    change Code.wp _ _ _ _ (w.alloc (.cells (cellC k n s) 23))
    rw [← hW]
    clear hW
    obtain ⟨a0, a1, a2⟩ := three_of HX.out
    go_wp2_with fail
    refine (HN.out _).mono ?_
    rintro e w1 ⟨rfl, bb⟩
    have HB1 := Lib.hid (Below.step HB.out bb)
    unfold two
    clear bb a0 a1 a2
    go_wp2_with fail
    go_ret2
    refine ⟨?_, HB1.out⟩
    show Ending.returned (.tuple #[.int .i64 (wrap64 (x.tdiv 1000000)), .int .i64 0]) = _
    rw [HW.out]
    rfl
  · have hne : (p2 != 0) = true := by simpa using h1
    rw [show countF (x, p2) = .tuple #[.int .i64 0, .int .i64 p2] from if_neg h1]
    clear h1 hx
    go_enter Try.func20, Try.ntmps20
    go_upto_region 1 with (fail)
    change Code.wp _ _ _ _ (w.alloc (.cells (cellC k n s) 23))
    rw [← hW]
    clear hW
    obtain ⟨a0, a1, a2⟩ := three_of HX.out
    go_wp2_with fail
    refine (HN.out _).mono ?_
    rintro e w1 ⟨rfl, bb⟩
    have HB1 := Lib.hid (Below.step HB.out bb)
    unfold two
    clear bb a0 a1 a2
    go_wp2_with fail
    go_ret2
    exact ⟨rfl, HB1.out⟩
end Go.Proofs.Ytbbhcbpfffabpaa
