/- Merged by program: C15O, C15Fz. -/
import Derived.Test.YtbbhcbpfffabpaaGreatDoorGbg
/- The document's Own of layer 15, over the contracts of what it calls (gen_c15o.py). -/
namespace Go.Proofs.YtbbhcbpfffabpaaGreatDoor
open Go.RowKit T3

/-- What the document's functions below Own answer: texts, and numbers with an error. -/
structure OwnRef where
  chars : ByteArray → Nat
  index : ByteArray → ByteArray → Int
  low : ByteArray → ByteArray
  up : ByteArray → ByteArray
  sub : ByteArray → Int → Int → ByteArray
  whole : Int → Int × Int
  int : Int → Int
  num : Cel → Int × Int
  count : Cel → Int × Int
  form : ByteArray → List Cel → ByteArray × Int
structure OwnRefOk (R : OwnRef) : Prop where
  chars : ∀ (s : ByteArray) (w : World), s.size ≤ 300 → Calls Tryz.prog 24 #[.string s] w fun e w' => ∃ p c, e = .returned (.slice p (R.chars s) c) ∧ Below w.heap.size w w'
  charsLe : ∀ (s : ByteArray), s.size ≤ 300 → R.chars s ≤ 300
  index : ∀ (s t : ByteArray) (w : World), s.size ≤ 300 → t.size ≤ 300 → Calls Tryz.prog 25 #[.string s, .string t] w fun e w' => e = .returned (.int .i64 (R.index s t)) ∧ Below w.heap.size w w'
  indexFits : ∀ (s t : ByteArray), s.size ≤ 300 → t.size ≤ 300 → Fits (R.index s t)
  low : ∀ (s : ByteArray) (w : World), s.size ≤ 300 → Calls Tryz.prog 26 #[.string s, .int .u8 65, .int .u8 90, .bool false] w fun e w' => e = .returned (.string (R.low s)) ∧ Below w.heap.size w w'
  up : ∀ (s : ByteArray) (w : World), s.size ≤ 300 → Calls Tryz.prog 26 #[.string s, .int .u8 97, .int .u8 122, .bool true] w fun e w' => e = .returned (.string (R.up s)) ∧ Below w.heap.size w w'
  sub : ∀ (s : ByteArray) (f m : Int) (w : World), s.size ≤ 300 → Fits f → Fits m → Calls Tryz.prog 32 #[.string s, .int .i64 f, .int .i64 m] w fun e w' => e = .returned (.string (R.sub s f m)) ∧ Below w.heap.size w w'
  whole : ∀ (n : Int) (w : World), Fits n → Calls Tryz.prog 23 #[.int .i64 n] w fun e w' => e = .returned (.tuple #[.int .i64 (R.whole n).1, .int .i64 (R.whole n).2]) ∧ Below w.heap.size w w'
  int : ∀ (n : Int) (w : World), Fits n → Calls Tryz.prog 28 #[.int .i64 n] w fun e w' => e = .returned (.int .i64 (R.int n)) ∧ Below w.heap.size w w'
  num : ∀ (c : Cel) (w : World), Fits c.n → c.s.size ≤ 300 → Calls Tryz.prog 27 #[.agg (cellC c.k c.n c.s)] w fun e w' => e = .returned (.tuple #[.int .i64 (R.num c).1, .int .i64 (R.num c).2]) ∧ Below w.heap.size w w'
  numFits : ∀ (c : Cel), Fits c.n → Fits (R.num c).1
  count : ∀ (c : Cel) (w : World), Fits c.n → c.s.size ≤ 300 → Calls Tryz.prog 31 #[.agg (cellC c.k c.n c.s)] w fun e w' => e = .returned (.tuple #[.int .i64 (R.count c).1, .int .i64 (R.count c).2]) ∧ Below w.heap.size w w'
  countFits : ∀ (c : Cel), Fits c.n → Fits (R.count c).1
  form : ∀ (f : ByteArray) (l : List Cel) (p : Option Addr) (n cap : Nat) (w : World), f.size ≤ 300 → (∀ c ∈ l, Fits c.n ∧ c.s.size ≤ 300) → CellsAt w p n cap l → Calls Tryz.prog 29 #[.string f, .slice p n cap] w fun e w' => e = .returned (.tuple #[.string (R.form f l).1, .int .i64 (R.form f l).2]) ∧ Below w.heap.size w w'

def strK (c : Cel) : ByteArray := strC c.k c.n c.s
def errT (e : Int) : Value := twoC 0 0 ⟨#[]⟩ e
/-- What Own makes of cells. -/
def ownF (R : OwnRef) (g : ByteArray) : List Cel → Value
  | [] => errT 1
  | [c] => if g = ⟨#[108, 101, 110, 103, 116, 104]⟩ then numA (R.whole (R.chars (strK c) : Nat)) else if g = ⟨#[116, 111, 108, 111, 119, 101, 114]⟩ then twoC 2 0 (R.low (strK c)) 0 else if g = ⟨#[116, 111, 117, 112, 112, 101, 114]⟩ then twoC 2 0 (R.up (strK c)) 0 else if g = ⟨#[105, 110, 116]⟩ then numA (R.int (R.num c).1, (R.num c).2) else if g = ⟨#[115, 112, 114, 105, 110, 116, 102]⟩ then (if (R.form (strK c) []).2 ≠ 0 then errT (R.form (strK c) []).2 else strA (R.form (strK c) []).1) else errT 1
  | [c, d] => if g = ⟨#[105, 110, 100, 101, 120]⟩ then numA (R.whole (R.index (strK c) (strK d))) else if g = ⟨#[115, 117, 98, 115, 116, 114]⟩ then (if (R.count d).2 ≠ 0 then errT (R.count d).2 else twoC 2 0 (R.sub (strK c) (if (R.count d).1 < 1 then 1 else (R.count d).1) ((strK c).size + 1 : Nat)) 0) else if g = ⟨#[115, 112, 114, 105, 110, 116, 102]⟩ then (if (R.form (strK c) [d]).2 ≠ 0 then errT (R.form (strK c) [d]).2 else strA (R.form (strK c) [d]).1) else errT 1
  | [c, d, e] => if g = ⟨#[115, 117, 98, 115, 116, 114]⟩ then (if (R.count d).2 ≠ 0 then errT (R.count d).2 else if (R.count e).2 ≠ 0 then errT (R.count e).2 else twoC 2 0 (R.sub (strK c) (R.count d).1 (R.count e).1) 0) else if g = ⟨#[115, 112, 114, 105, 110, 116, 102]⟩ then (if (R.form (strK c) [d, e]).2 ≠ 0 then errT (R.form (strK c) [d, e]).2 else strA (R.form (strK c) [d, e]).1) else errT 1
  | c :: l => if g = ⟨#[115, 112, 114, 105, 110, 116, 102]⟩ then (if (R.form (strK c) l).2 ≠ 0 then errT (R.form (strK c) l).2 else strA (R.form (strK c) l).1) else errT 1
end Go.Proofs.YtbbhcbpfffabpaaGreatDoor

/- The law's fits and cells (layer 15). -/
namespace Go.Proofs.YtbbhcbpfffabpaaGreatDoor
open Go.RowKit T3

/-- A cell that can be, and is short. -/
def fitB (k n : Int) (s : ByteArray) : Bool := decide (s.size ≤ 300) && canB k n s
set_option maxRecDepth 100000 in
theorem fits_any (k n : Int) (s : ByteArray) (w : World) : Calls Tryz.prog 9 #[.agg (cellC k n s)] w fun e w' => e = .returned (.bool (fitB k n s)) ∧ Below w.heap.size w w' := by
  obtain ⟨W, hW, HX, HB, _⟩ := cx_new w (cellC k n s)
  by_cases hs : s.size ≤ 300
  · have HC := Lib.hid (fun W => refCan_any k n s hs W)
    have d1 : decide ((s.size : Int) ≤ 300) = true := decide_eq_true (by omega)
    rw [show fitB k n s = canB k n s from by unfold fitB; rw [decide_eq_true hs, Bool.true_and]]
    clear hs
    go_enter Tryz.func9, Tryz.ntmps9
    go_upto_region 1 with (fail)
    change Code.wp _ _ _ _ (w.alloc (.cells (cellC k n s) 25))
    rw [← hW]
    clear hW
    obtain ⟨a0, a1, a2⟩ := three_of HX.out
    go_wp2_with fail
    refine (HC.out _).mono ?_
    rintro e w1 ⟨rfl, bb⟩
    have HB1 := Lib.hid (Below.step HB.out bb)
    clear bb a0 a1 a2
    go_wp2_with fail
    go_ret
    exact ⟨rfl, HB1.out⟩
  · have d1 : decide ((s.size : Int) ≤ 300) = false := decide_eq_false (by omega)
    rw [show fitB k n s = false from by unfold fitB; rw [decide_eq_false hs, Bool.false_and]]
    clear hs
    go_enter Tryz.func9, Tryz.ntmps9
    go_upto_region 1 with (fail)
    change Code.wp _ _ _ _ (w.alloc (.cells (cellC k n s) 25))
    rw [← hW]
    clear hW
    obtain ⟨a0, a1, a2⟩ := three_of HX.out
    go_wp2_with fail
    go_ret
    exact ⟨rfl, HB.out⟩

def okC (c : Cel) : Bool := fitB c.k c.n c.s
def pickC (l : List Cel) : List Cel := (l.take 6).filter okC
/-- What the law's cells tells. -/
def CellsOut (l : List Cel) (w : World) (e : Ending) (w' : World) : Prop :=
  ∃ p c, e = .returned (.slice p (pickC l).length c) ∧ Hid (w'.ownsRow w.heap.size 25 3 (.slice p (pickC l).length c) (pickC l).length (cvals (pickC l))) ∧ Below w.heap.size w w'

theorem take_filter {l : List Cel} {i : Nat} (h : i < l.length) : (l.take (i + 1)).filter okC = (l.take i).filter okC ++ (if okC l[i] then [l[i]] else []) := by
  rw [List.take_succ_eq_append_getElem h, List.filter_append]
  congr 1
  cases hb : okC l[i] <;> simp [hb]
theorem filter_len (l : List Cel) (i : Nat) : ((l.take i).filter okC).length ≤ i := by
  have h1 := List.length_filter_le okC (l.take i)
  rw [List.length_take] at h1
  omega

set_option maxRecDepth 100000 in
set_option maxHeartbeats 2000000 in
theorem lawCells_any (l : List Cel) (p : Option Addr) (n cap : Nat) (w : World) (hn : n ≤ 9223372036854775807) (hlen : n = l.length)
    (hcells : l = [] ∨ ∃ b off, p = some ⟨b, off, none⟩ ∧ ∀ i c, l[i]? = some c → w.cell? ⟨b, off + i * 3, none⟩ = some (.int .i64 c.k) ∧ w.cell? ⟨b, off + i * 3 + 1, none⟩ = some (.int .i64 c.n) ∧ w.cell? ⟨b, off + i * 3 + 2, none⟩ = some (.string c.s)) :
    Calls Tryz.prog 4 #[.slice p n cap] w (CellsOut l w) := by
  have H := Lib.hid hcells
  have HN := Lib.hid hlen
  clear hcells hlen
  go_enter Tryz.func4, Tryz.ntmps4
  go_wp2_with fail
  have B0 := Lib.hid (below_new w (.cells #[] 25))
  have O0 : Hid ((w.alloc (.cells #[] 25)).ownsRow w.heap.size 25 3 (.slice (some ⟨w.heap.size, 0, none⟩) 0 0) 0 (cvals [])) := Lib.hid (World.ownsRow_lit (base := w.heap.size) (e := 25) (size := 3) w #[] 0 (Nat.le_refl _) (by simp only [maxLen]; omega) (by simp))
  go_loopw [3, 4] (fun x y wr => ∃ (i k : Nat) (q : Option Addr) (c : Nat), x = .slice q k c ∧ y = .int .i64 i ∧ i ≤ 6 ∧ i ≤ n ∧ k ≤ i ∧ Hid (k = ((l.take i).filter okC).length ∧ wr.ownsRow w.heap.size 25 3 (.slice q k c) k (cvals ((l.take i).filter okC)) ∧ Below w.heap.size w wr)) (fun _ y _ => 6 - (intOf y).toNat)
  case atStart => exact ⟨0, 0, _, 0, rfl, rfl, by omega, by omega, by omega, Lib.hid ⟨rfl, O0.out, B0.out⟩⟩
  case round =>
    obtain ⟨i, k, q, c, rfl, rfl, hi6, hin, hki, HA⟩ := hrel
    by_cases hlt : i < n ∧ i < 6
    · have hil : i < l.length := by rw [← HN.out]; exact hlt.1
      have HT := Lib.hid (take_filter hil)
      have hx := List.getElem?_eq_getElem hil
      obtain ⟨x, hxe⟩ : ∃ x, x = l[i] := ⟨_, rfl⟩
      rw [← hxe] at hx HT
      obtain ⟨b, off, rfl, hc⟩ : ∃ b off, p = some ⟨b, off, none⟩ ∧ ∀ i c, l[i]? = some c → w.cell? ⟨b, off + i * 3, none⟩ = some (.int .i64 c.k) ∧ w.cell? ⟨b, off + i * 3 + 1, none⟩ = some (.int .i64 c.n) ∧ w.cell? ⟨b, off + i * 3 + 2, none⟩ = some (.string c.s) := by
        rcases H.out with h0 | h0
        · rw [h0] at hil; simp at hil
        · exact h0
      obtain ⟨e0, e1, e2⟩ := hc i x hx
      have hbw : b < w.heap.size := cell_lt e0
      have key : ∀ (o : Nat) (v : Value), w.cell? ⟨b, o, none⟩ = some v → wr.cell? ⟨b, o, none⟩ = some v := fun o v hv => by
        rw [HA.out.2.2.cell (p := ⟨b, o, none⟩) hbw]; exact hv
      have c0 := key _ _ e0
      have c1 := key _ _ e1
      have c2 := key _ _ e2
      have hbr : b < wr.heap.size := cell_lt c0
      have dt1 : decide ((i : Int) < (n : Int)) = true := decide_eq_true (by omega)
      have dt2 : decide ((i : Int) < 6) = true := decide_eq_true (by omega)
      clear hc hx hxe e0 e1 e2 key
      have hlt1 := hlt.1
      have hlt2 := hlt.2
      clear hlt
      have HC := Lib.hid (fun W => fits_any x.k x.n x.s W)
      have HO : Hid (okC x = fitB x.k x.n x.s) := Lib.hid rfl
      obtain ⟨V, hV⟩ : ∃ V, V = fitB x.k x.n x.s := ⟨_, rfl⟩
      rw [← hV] at HC HO
      clear hV
      cases V with
      | true =>
        have HF : Hid ((l.take (i + 1)).filter okC = (l.take i).filter okC ++ [x]) := Lib.hid (by rw [HT.out, HO.out]; rfl)
        go_wp2_with fail
        refine (HC.out _).mono ?_
        rintro e w1 ⟨rfl, b1⟩
        have OW1 := Lib.hid (own_below HA.out.2.1 b1)
        have B1 := Lib.hid (Below.step HA.out.2.2 b1)
        have key2 : ∀ (o : Nat) (v : Value), wr.cell? ⟨b, o, none⟩ = some v → w1.cell? ⟨b, o, none⟩ = some v := fun o v hv => by
          rw [b1.cell (p := ⟨b, o, none⟩) hbr]; exact hv
        have d0 := key2 _ _ c0
        have d2 := key2 _ _ c1
        have d3 := key2 _ _ c2
        have hb1 : b < w1.heap.size := cell_lt d0
        have OW2 := Lib.hid (OW1.out.alloc (.cells #[.int .i64 x.k, .int .i64 x.n, .string x.s] 25))
        have B2 := Lib.hid (Below.step B1.out (below_new w1 (.cells #[.int .i64 x.k, .int .i64 x.n, .string x.s] 25)))
        have hone : CellsAt (w1.alloc (.cells #[.int .i64 x.k, .int .i64 x.n, .string x.s] 25)) (some ⟨w1.heap.size, 0, none⟩) 1 1 [x] := by
          refine ⟨rfl, by omega, by omega, fun e => by simp at e, Or.inr ⟨w1.heap.size, 0, rfl, fun j y hj => ?_⟩⟩
          have hj0 : j = 0 := by have := (List.getElem?_eq_some_iff.1 hj).1; simpa using this
          subst hj0
          simp at hj
          subst hj
          refine ⟨?_, ?_, ?_⟩ <;> simp [go_sem]
        have HONE := Lib.hid hone
        clear b1 key2 hone c0 c1 c2
        have hbs2 : w.heap.size ≤ (w1.alloc (.cells #[.int .i64 x.k, .int .i64 x.n, .string x.s] 25)).heap.size := B2.out.size
        have hk1 : k + 1 ≤ 1000000 := by omega
        go_wp2_with (at_builtin; (refine wp_append_cells rfl _ _ rfl w.heap.size _ (.slice q k c) k ((l.take i).filter okC) _ 1 1 [x] rfl OW2.out rfl HONE.out hk1 hbs2 ?_; intro p' c' w3 ho hg))
        have OW3 := Lib.hid ho.out
        have B3 := Lib.hid (B2.out.grown hg.out B2.out.size (fun j hj => (OW2.out.lt j hj).1))
        clear ho hg
        go_wp2_with fail
        go_roundw
        case rel =>
          refine ⟨i + 1, k + 1, p', c', rfl, by go_num, by omega, by omega, by omega, Lib.hid ⟨?_, ?_, B3.out⟩⟩
          · rw [HF.out, List.length_append, ← HA.out.1]; rfl
          · rw [HF.out]; exact OW3.out
        case measure => simp [intOf]; omega
      | false =>
        have HF : Hid ((l.take (i + 1)).filter okC = (l.take i).filter okC) := Lib.hid (by rw [HT.out, HO.out]; simp)
        go_wp2_with fail
        refine (HC.out _).mono ?_
        rintro e w1 ⟨rfl, b1⟩
        have OW1 := Lib.hid (own_below HA.out.2.1 b1)
        have B1 := Lib.hid (Below.step HA.out.2.2 b1)
        clear b1
        go_wp2_with fail
        go_roundw
        case rel => exact ⟨i + 1, k, q, c, rfl, by go_num, by omega, by omega, by omega, Lib.hid ⟨by rw [HF.out]; exact HA.out.1, by rw [HF.out]; exact OW1.out, B1.out⟩⟩
        case measure => simp [intOf]; omega
    · have HP : Hid (pickC l = (l.take i).filter okC) := Lib.hid (by
        unfold pickC
        have h : l.take 6 = l.take i := by
          have := HN.out
          rcases Nat.lt_or_ge i 6 with h6 | h6
          · have hin2 : n ≤ i := Nat.le_of_not_lt fun h => hlt ⟨h, h6⟩
            rw [List.take_of_length_le (by omega), List.take_of_length_le (by omega)]
          · rw [show i = 6 from by omega]
        rw [h])
      have fin : CellsOut l w (.returned (.slice q k c)) wr := ⟨q, c, by rw [HP.out, ← HA.out.1], Lib.hid (by rw [HP.out, ← HA.out.1]; exact HA.out.2.1), HA.out.2.2⟩
      have FIN := Lib.hid fin
      clear fin
      by_cases h1 : i < n
      · have dt1 : decide ((i : Int) < (n : Int)) = true := decide_eq_true (by omega)
        have dt2 : decide ((i : Int) < 6) = false := decide_eq_false (by omega)
        clear hlt
        go_wp2_with fail
        go_ret
        exact FIN.out
      · have dt1 : decide ((i : Int) < (n : Int)) = false := decide_eq_false (by omega)
        clear hlt
        go_wp2_with fail
        go_ret
        exact FIN.out
end Go.Proofs.YtbbhcbpfffabpaaGreatDoor
