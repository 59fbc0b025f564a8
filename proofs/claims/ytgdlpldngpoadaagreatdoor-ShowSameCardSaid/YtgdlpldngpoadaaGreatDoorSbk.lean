/- Merged by program: T3RefA, T3RefB, T3RefC, T3RefD. -/
import Derived.Laws.OwnMore
import Derived.Deep.QuietTactic
import Derived.BigQuiet
import Derived.Deep.DeepCutAuto
import Derived.Deep.CutBlock
import Derived.Test.YtgdlpldngpoadaaGreatDoorSam
import Derived.Test.YtgdlpldngpoadaaGreatDoorSbj
/- Contracts of the document's answers for numbers: what only reads. -/
namespace Go.Proofs.YtgdlpldngpoadaaGreatDoor.T3
open Go.Proofs.YtgdlpldngpoadaaGreatDoor Go.Proofs
open Go.RowKit

/-- A slice of digits reads as a list. -/
structure Rd (w : World) (p : Option Addr) (n c : Nat) (l : List Nat) : Prop where
  len : n = l.length
  cap : n ≤ c
  size : n ≤ 1000
  digs : Dl l
  nil : p = none → c = 0
  cells : l = [] ∨ ∃ b off, p = some ⟨b, off, none⟩ ∧ b < w.heap.size ∧ ∀ i, i < l.length → w.cell? ⟨b, off + i, none⟩ = some (.int .i64 ((l.getD i 0 : Nat) : Int))

theorem Rd.below {w w' : World} {p len cap l} (h : Rd w p len cap l) (hb : Below w.heap.size w w') : Rd w' p len cap l := by
  refine ⟨h.len, h.cap, h.size, h.digs, h.nil, ?_⟩
  rcases h.cells with hc | ⟨b, off, hp, hlt, hc⟩
  · exact Or.inl hc
  · exact Or.inr ⟨b, off, hp, Nat.lt_of_lt_of_le hlt hb.size, fun i hi => by rw [hb.cell (p := ⟨b, off + i, none⟩) hlt]; exact hc i hi⟩

theorem Rd.drewN {w : World} {p len cap l} (h : Rd w p len cap l) (n : Nat) : Rd (w.drewN n) p len cap l := h.below (Below.drewN' (Below.refl _ _) n)

set_option maxHeartbeats 400000 in
theorem digit_any (p : Option Addr) (len cap : Nat) (l : List Nat) (i : Int) (w : World) (h0 : 0 ≤ i) (h : Rd w p len cap l) :
    Calls Tryz.prog 231 #[.slice p len cap, .int .i64 i] w fun e w' => e = .returned (.int .i64 ((l.getD i.toNat 0 : Nat) : Int)) ∧ w = w' := by
  obtain ⟨n, rfl⟩ := Int.eq_ofNat_of_zero_le h0
  rw [Int.toNat_natCast]
  have hl := h.len
  have hs := h.size
  by_cases hn : n < len
  · rcases h.cells with hc | ⟨b, off, rfl, hlt, hc⟩
    · exfalso; rw [hc] at hl; simp at hl; omega
    · have hcell := hc n (by omega)
      have HL := Lib.hid hl; clear hl hc h
      generalize l.getD n 0 = d at *
      go_enter Tryz.func231, Tryz.ntmps231
      go_wp2
      go_ret
      exact ⟨rfl, rfl⟩
  · have hz : l.getD n 0 = 0 := by rw [List.getD_eq_getElem?_getD, List.getElem?_eq_none (by omega)]; rfl
    rw [hz]
    clear hl hz h
    go_enter Tryz.func231, Tryz.ntmps231
    go_wp2
    go_ret
    exact ⟨rfl, rfl⟩

theorem less_end {a b : List Nat} {k : Nat} (ha : Dl a) (hb : Dl b) (hs : suf a (k + 1) = suf b (k + 1)) (hne : a.getD k 0 ≠ b.getD k 0) :
    decide (val a < val b) = decide (a.getD k 0 < b.getD k 0) := by
  have e : ∀ l : List Nat, val l = pre l k + 10 ^ k * suf l k := by
    intro l
    have := val_append (l.take k) (l.drop k)
    rw [List.take_append_drop] at this
    rw [this]
    unfold pre suf
    rcases Nat.lt_or_ge k l.length with h | h
    · rw [List.length_take, Nat.min_eq_left (by omega)]
    · rw [List.drop_of_length_le h]; simp [val]
  have pa := pre_lt ha k
  have pb := pre_lt hb k
  rw [e a, e b, suf_step a k, suf_step b k, hs]
  generalize suf b (k + 1) = s at *
  generalize pre a k = x at *
  generalize pre b k = y at *
  generalize a.getD k 0 = c at *
  generalize b.getD k 0 = d at *
  generalize 10 ^ k = T at *
  have : decide (x + T * (c + 10 * s) < y + T * (d + 10 * s)) = decide (c < d) := by
    rw [decide_eq_decide, Nat.mul_add, Nat.mul_add]
    constructor
    · intro h
      rcases Nat.lt_or_ge c d with h2 | h2
      · exact h2
      · have : T * (d + 1) ≤ T * c := Nat.mul_le_mul_left _ (by omega)
        rw [Nat.mul_add] at this
        omega
    · intro h
      have : T * (c + 1) ≤ T * d := Nat.mul_le_mul_left _ (by omega)
      rw [Nat.mul_add] at this
      omega
  exact this

set_option maxHeartbeats 1000000 in
theorem less_any (p q : Option Addr) (n m cap cap' : Nat) (a b : List Nat) (w : World) (ha : Rd w p n cap a) (hb : Rd w q m cap' b) :
    Calls Tryz.prog 230 #[.slice p n cap, .slice q m cap'] w fun e w' => e = .returned (.bool (decide (val a < val b))) ∧ w = w' := by
  have hn := ha.size
  have hm := hb.size
  have hla := Lib.hid ha.len
  have hlb := Lib.hid hb.len
  have DA := Lib.hid (fun i h0 w' (e : w = w') => digit_any p n cap a i w' h0 (e ▸ ha))
  have DB := Lib.hid (fun i h0 w' (e : w = w') => digit_any q m cap' b i w' h0 (e ▸ hb))
  have hda := ha.digs
  have hdb := hb.digs
  have HDA := Lib.hid hda; clear hda
  have HDB := Lib.hid hdb; clear hdb
  clear ha hb
  go_enter Tryz.func230, Tryz.ntmps230
  go_wp2
  go_loop [5] (fun x => ∃ i : Int, x = .int .i64 i ∧ -1 ≤ i ∧ i ≤ n + m ∧ Hid (suf a (i + 1).toNat = suf b (i + 1).toNat)) (fun x => (intOf x + 1).toNat)
  case atStart => exact ⟨_, rfl, by omega, by omega, Lib.hid (by rw [suf_end a _ (by have := hla.out; omega), suf_end b _ (by have := hlb.out; omega)])⟩
  case round =>
    obtain ⟨i, rfl, hi1, hi2, hsuf⟩ := hrel
    by_cases h0 : 0 ≤ i
    · obtain ⟨k, rfl⟩ := Int.eq_ofNat_of_zero_le h0
      have hsk : suf a (k + 1) = suf b (k + 1) := by have := hsuf.out; rw [show ((k : Int) + 1).toNat = k + 1 from by omega] at this; exact this
      obtain ⟨x, hx⟩ : ∃ x, x = a.getD k 0 := ⟨_, rfl⟩
      obtain ⟨y, hy⟩ : ∃ y, y = b.getD k 0 := ⟨_, rfl⟩
      have hx9 : x < 10 := by rw [hx]; exact HDA.out.getD k
      have hy9 : y < 10 := by rw [hy]; exact HDB.out.getD k
      have CA := Lib.hid (show ∀ w', w = w' → Calls Tryz.prog 231 #[.slice p n cap, .int .i64 (k : Int)] w' fun e w'' => e = .returned (.int .i64 (x : Int)) ∧ w' = w'' from fun w' e => by rw [hx]; exact DA.out k (by omega) w' e)
      have CB := Lib.hid (show ∀ w', w = w' → Calls Tryz.prog 231 #[.slice q m cap', .int .i64 (k : Int)] w' fun e w'' => e = .returned (.int .i64 (y : Int)) ∧ w' = w'' from fun w' e => by rw [hy]; exact DB.out k (by omega) w' e)
      by_cases hne : x = y
      · have hnext : suf a k = suf b k := by rw [suf_step a k, suf_step b k, ← hx, ← hy, hne, hsk]
        have HN := Lib.hid hnext
        clear hnext hx hy hsk
        subst hne
        go_wp2_with fail
        refine (CA.out _ rfl).mono ?_
        rintro e w1 ⟨rfl, rfl⟩
        go_wp2_with fail
        refine (CB.out _ rfl).mono ?_
        rintro e w2 ⟨rfl, rfl⟩
        go_wp2_with fail
        go_round
        case rel => exact ⟨_, rfl, by omega, by omega, Lib.hid (by rw [show ((k : Int) - 1 + 1).toNat = k from by omega]; exact HN.out)⟩
        case measure => simp [intOf]
      · have hans : decide (val a < val b) = decide (x < y) := by
          rw [less_end HDA.out HDB.out hsk (by rw [← hx, ← hy]; exact hne), ← hx, ← hy]
        have HANS := Lib.hid hans
        have hb2 : ((x : Int) != y) = true := by rw [bne_iff_ne]; omega
        clear hans hx hy hsk hne
        go_wp2_with fail
        refine (CA.out _ rfl).mono ?_
        rintro e w1 ⟨rfl, rfl⟩
        go_wp2_with fail
        refine (CB.out _ rfl).mono ?_
        rintro e w2 ⟨rfl, rfl⟩
        go_wp2_with fail
        refine (CA.out _ rfl).mono ?_
        rintro e w1 ⟨rfl, rfl⟩
        go_wp2_with fail
        refine (CB.out _ rfl).mono ?_
        rintro e w2 ⟨rfl, rfl⟩
        go_wp2_with fail
        go_ret
        exact ⟨by rw [HANS.out]; rfl, rfl⟩
    · obtain rfl : i = -1 := by omega
      have hfin : decide (val a < val b) = false := by
        have h := hsuf.out
        rw [show ((-1 : Int) + 1).toNat = 0 from rfl, suf_zero, suf_zero] at h
        simp; omega
      have HF := Lib.hid hfin; clear hfin
      go_wp2
      go_ret
      exact ⟨by rw [HF.out]; rfl, rfl⟩

def TrimPost (p : Option Addr) (n cap : Nat) (l : List Nat) (w : World) (e : Ending) (w' : World) : Prop :=
  ∃ m, m ≤ n ∧ e = .returned (.slice p m cap) ∧ val (l.take m) = val l ∧ (m = 0 ∨ l.getD (m - 1) 0 ≠ 0) ∧ w = w'

theorem Rd.take {w : World} {p n c l} (h : Rd w p n c l) {m : Nat} (hm : m ≤ n) : Rd w p m c (l.take m) := by
  have h1 := h.len
  have h2 := h.cap
  have h3 := h.size
  refine ⟨by rw [List.length_take]; omega, by omega, by omega, h.digs.take m, h.nil, ?_⟩
  rcases h.cells with hc | ⟨b, off, hp, hlt, hc⟩
  · exact Or.inl (by rw [hc]; simp)
  · refine Or.inr ⟨b, off, hp, hlt, fun i hi => ?_⟩
    rw [List.length_take] at hi
    rw [hc i (by omega)]
    congr 3
    rw [List.getD_eq_getElem?_getD, List.getD_eq_getElem?_getD, List.getElem?_take_of_lt (by omega)]

theorem val_take_succ (l : List Nat) (k : Nat) (h : l.getD k 0 = 0) : val (l.take k) = val (l.take (k + 1)) := by
  have := pre_succ l k
  unfold pre at this
  rw [this, h]; simp

set_option maxHeartbeats 1000000 in
theorem trim_any (p : Option Addr) (n cap : Nat) (l : List Nat) (w : World) (h : Rd w p n cap l) :
    Calls Tryz.prog 228 #[.slice p n cap] w (TrimPost p n cap l w) := by
  have hs := h.size
  have hc := h.cap
  have HR := Lib.hid h; clear h
  go_enter Tryz.func228, Tryz.ntmps228
  go_wp2
  go_loop [0] (fun x => ∃ m : Nat, x = .slice p m cap ∧ m ≤ n ∧ Hid (val (l.take m) = val l)) (fun x => match x with | .slice _ m _ => m | _ => 0)
  case atStart => exact ⟨n, rfl, by omega, Lib.hid (by rw [List.take_of_length_le (by have := HR.out.len; omega)])⟩
  case round =>
    obtain ⟨m, rfl, hm, hv⟩ := hrel
    rcases Nat.eq_zero_or_pos m with h0 | h0
    · subst h0
      go_wp2
      go_ret
      exact ⟨0, by omega, rfl, hv.out, Or.inl rfl, rfl⟩
    · obtain ⟨k, rfl⟩ : ∃ k, m = k + 1 := ⟨m - 1, by omega⟩
      rcases HR.out.cells with hx | ⟨b, off, rfl, hlt, hx⟩
      · exfalso
        have := HR.out.len
        rw [hx] at this; simp at this; omega
      · have hcell := hx k (by have := HR.out.len; omega)
        clear hx
        by_cases hz : l.getD k 0 = 0
        · have hv2 := Lib.hid (show val (l.take k) = val l from by rw [val_take_succ l k hz]; exact hv.out)
          rw [hz] at hcell
          clear hz
          go_wp2
          go_round
          case rel => exact ⟨k, rfl, by omega, hv2⟩
          case measure => simp
        · have hzb : (((l.getD k 0 : Nat) : Int) == 0) = false := by rw [beq_eq_false_iff_ne]; omega
          have HZ := Lib.hid hz; clear hz
          generalize hd : l.getD k 0 = d at *
          have HD := Lib.hid hd; clear hd
          go_wp2
          go_ret
          exact ⟨k + 1, hm, rfl, hv.out, Or.inr (by rw [show k + 1 - 1 = k from by omega, HD.out]; exact HZ.out), rfl⟩
end Go.Proofs.YtgdlpldngpoadaaGreatDoor.T3

/- Contracts of the document's answers for numbers: sums and differences of digits. -/
namespace Go.Proofs.YtgdlpldngpoadaaGreatDoor.T3
open Go.Proofs.YtgdlpldngpoadaaGreatDoor Go.Proofs
open Go.RowKit

def ints (l : List Nat) : List Value := l.map fun (d : Nat) => Value.int .i64 (d : Int)
theorem info_int : (Tryz.prog.info? 3).map (fun i => (i.zero, i.size, i.bytes)) = some (some (.int .i64 0), 1, 8) := by kernel_rfl

set_option maxRecDepth 100000 in
/-- A row of the call's own reads as its digits. -/
theorem own_rd {w : World} {base : Nat} {v : Value} {l : List Nat} {k : Nat} (h : w.ownsRow base 3 1 v k (ints l)) (hl : k = l.length) (hd : Dl l) (hs : k ≤ 1000) :
    ∃ p c, v = .slice p k c ∧ Rd w p k c l ∧ ∀ x, p = some x → base ≤ x.block := by
  obtain ⟨hlen, ⟨rfl, h0⟩ | ⟨g, cap, cur, rfl, hb, hg, hcap, hm, hsz, hx⟩⟩ := id h
  · subst h0
    have : l = [] := List.length_eq_zero_iff.1 hl.symm
    exact ⟨none, 0, rfl, ⟨hl, by omega, by omega, hd, fun _ => rfl, Or.inl this⟩, fun x h => by simp at h⟩
  · refine ⟨_, cap, rfl, ⟨hl, hcap, hs, hd, fun h => by simp at h, Or.inr ⟨g, 0, rfl, (h.lt g rfl).2, fun i hi => ?_⟩⟩, fun x h => by injection h with h; subst h; exact hb⟩
    rw [Nat.zero_add, h.cellAt i (by omega)]
    unfold ints
    rw [List.getElem?_map, List.getElem?_eq_getElem hi, List.getD_eq_getElem?_getD, List.getElem?_eq_getElem hi]
    rfl

set_option maxRecDepth 100000 in
theorem wp_append_digit {ops : Array Oper} {rest : List Oper} {o : Oper} {a : Act} {Q : Exit → Act → World → Prop} (hgd : o.guard = none) (s x : Operand)
    (ho : o.op = .call { callee := .builtin .append, args := #[s, x], argTypes := #[103, 103] }) (W w : World) (v : Value) (k : Nat) (l : List Nat) (D : Int) (d : Nat)
    (hs : a.eval s = v) (hown : w.ownsRow W.heap.size 3 1 v k (ints l)) (hx : a.eval x = .slice (some ⟨w.heap.size, 0, none⟩) 1 1) (hd : D = d) (hk : k ≤ 1000) (hbel : Below W.heap.size W w)
    (h : ∀ v' w', Hid (w'.ownsRow W.heap.size 3 1 v' (k + 1) (ints (l ++ [d]))) → Hid (Below W.heap.size W w') → wpList Tryz.prog ops Q rest (a.put o.dst v') w') :
    wpList Tryz.prog ops Q (o :: rest) a (w.alloc (.cells #[.int .i64 D] 3)) := by
  obtain ⟨i0, hi, hz0, hz1, hz2⟩ := info_parts info_int
  subst hd
  refine wpList_append_own _ hgd s x 103 ho W.heap.size 3 i0 (.int .i64 0) 1 8 Tryz.underlying103 hi hz0 hz1 hz2 rfl (by decide) v k (ints l) hs (hown.alloc _) ⟨w.heap.size, 0, none⟩ 1 1 [.int .i64 (d : Int)] hx rfl ?_ ?_ ?_ ?_ ?_ ?_
  · intro j u hj
    cases j with
    | zero => simp at hj; subst hj; simp [Addr.add, go_sem]
    | succ j => simp at hj
  · intro u hu; simp at hu; subst hu; rfl
  · simp only [maxLen]; omega
  · omega
  · simp; exact Nat.le_succ_of_le hbel.size
  · intro v' w' hown' hg _
    refine h v' w' (Lib.hid ?_) (Lib.hid ?_)
    · have e : ints (l ++ [d]) = ints l ++ [.int .i64 (d : Int)] := by simp [ints]
      rw [e]; exact hown'
    · exact (hbel.alloc hbel.size _).grown hg (by simp; exact Nat.le_succ_of_le hbel.size) (fun j hj => (hown.lt j hj).1)

structure Got (W : World) (w : World) (v : Value) (l : List Nat) : Prop where
  rd : ∃ p n c, v = .slice p n c ∧ Rd w p n c l ∧ ∀ x, p = some x → W.heap.size ≤ x.block
  below : Below W.heap.size W w

def SumPost (W : World) (z k : Nat) (e : Ending) (w' : World) : Prop :=
  ∃ v l, e = .returned v ∧ Got W w' v l ∧ val l = z ∧ l.length ≤ k

end Go.Proofs.YtgdlpldngpoadaaGreatDoor.T3

/- Contracts of the document's answers for numbers: differences of digits. -/
namespace Go.Proofs.YtgdlpldngpoadaaGreatDoor.T3
open Go.Proofs.YtgdlpldngpoadaaGreatDoor Go.Proofs
open Go.RowKit

theorem quiet_read {P : Program} {f : FuncId} {args : Array Value} {w : World} {n : Nat} {v : Value}
    (h : Calls P f args (w.drewN n) fun e w' => e = .returned v ∧ w.drewN n = w') : Calls P f args (w.drewN n) fun e w'' => e = .returned v ∧ ∃ m, w'' = w.drewN m :=
  h.mono fun _ _ ⟨he, hw⟩ => ⟨he, n, hw.symm⟩

theorem pre_suf (l : List Nat) (k : Nat) : val l = pre l k + 10 ^ k * suf l k := by
  have h1 := val_append (l.take k) (l.drop k)
  rw [List.take_append_drop] at h1
  rw [h1]
  unfold pre suf
  rcases Nat.lt_or_ge k l.length with h | h
  · rw [List.length_take, Nat.min_eq_left (by omega)]
  · rw [List.drop_of_length_le h]; simp [val]

theorem minus_end {a b l : List Nat} {n bo : Nat} (hn : n = a.length) (ha : Dl a) (hl : Dl l) (hln : n = l.length) (h : val l + pre b n = pre a n + 10 ^ n * bo) (hle : val b ≤ val a) :
    val l + val b = val a := by
  have h1 := pre_all a n (by omega)
  have h2 := val_lt ha
  have h3 := val_lt hl
  rw [← hn] at h2
  rw [← hln] at h3
  have h4 := pre_suf b n
  have h5 : suf b n = 0 := by
    rcases Nat.eq_zero_or_pos (suf b n) with h | h
    · exact h
    · have : 10 ^ n * 1 ≤ 10 ^ n * suf b n := Nat.mul_le_mul_left _ h
      omega
  rw [h5] at h4
  rcases Nat.eq_zero_or_pos bo with h6 | h6
  · rw [h6] at h; omega
  · have : 10 ^ n * 1 ≤ 10 ^ n * bo := Nat.mul_le_mul_left _ h6
    omega

end Go.Proofs.YtgdlpldngpoadaaGreatDoor.T3

/- Contracts of the document's answers for numbers: a number's digits. -/
namespace Go.Proofs.YtgdlpldngpoadaaGreatDoor.T3
open Go.Proofs.YtgdlpldngpoadaaGreatDoor Go.Proofs
open Go.RowKit

structure Two (w : World) (b : Nat) (x y : Value) : Prop where
  c0 : w.cell? ⟨b, 0, none⟩ = some x
  c1 : w.cell? ⟨b, 1, none⟩ = some y
  f0 : w.frozen? ⟨b, 0, none⟩ = false
  f1 : w.frozen? ⟨b, 1, none⟩ = false

theorem Two.below {w w' : World} {b B : Nat} {x y : Value} (h : Two w b x y) (hb : Below B w w') (hlt : b < B) : Two w' b x y :=
  ⟨by rw [hb.cell (p := ⟨b, 0, none⟩) hlt]; exact h.c0, by rw [hb.cell (p := ⟨b, 1, none⟩) hlt]; exact h.c1, by rw [hb.frozen (p := ⟨b, 0, none⟩) hlt]; exact h.f0, by rw [hb.frozen (p := ⟨b, 1, none⟩) hlt]; exact h.f1⟩

theorem two_new (w : World) (x y : Value) (t : TypeId) : Two (w.alloc (.cells #[x, y] t)) w.heap.size x y := by
  refine ⟨?_, ?_, ?_, ?_⟩ <;> simp [go_sem]

theorem Two.other {w : World} {b : Nat} {x y : Value} (h : Two w b x y) {a : Addr} (ha : a.block ≠ b) (v : Value) : Two (w.setCell a v) b x y :=
  ⟨by rw [cell_other (by rintro rfl; exact ha rfl)]; exact h.c0, by rw [cell_other (by rintro rfl; exact ha rfl)]; exact h.c1, by simp [h.f0], by simp [h.f1]⟩

theorem Two.set1 {w : World} {b : Nat} {x y : Value} (h : Two w b x y) (v : Value) : Two (w.setCell ⟨b, 1, none⟩ v) b x v :=
  ⟨by rw [cell_other (by intro e; injection e with e1 e2; omega)]; exact h.c0, cell_same h.c1, by simp [h.f0], by simp [h.f1]⟩
theorem Two.set0 {w : World} {b : Nat} {x y : Value} (h : Two w b x y) (v : Value) : Two (w.setCell ⟨b, 0, none⟩ v) b v y :=
  ⟨cell_same h.c0, by rw [cell_other (by intro e; injection e with e1 e2; omega)]; exact h.c1, by simp [h.f0], by simp [h.f1]⟩

set_option maxRecDepth 100000 in
/-- append of one digit to a row whose block is base or behind. -/
theorem wp_append_base {ops : Array Oper} {rest : List Oper} {o : Oper} {a : Act} {Q : Exit → Act → World → Prop} (hgd : o.guard = none) (s x : Operand)
    (ho : o.op = .call { callee := .builtin .append, args := #[s, x], argTypes := #[103, 103] }) (base : Nat) (w : World) (v : Value) (k : Nat) (l : List Nat) (D : Int) (d : Nat)
    (hs : a.eval s = v) (hown : w.ownsRow base 3 1 v k (ints l)) (hx : a.eval x = .slice (some ⟨w.heap.size, 0, none⟩) 1 1) (hd : D = d) (hk : k ≤ 1000) (hbase : base ≤ w.heap.size)
    (h : ∀ p c w', Hid (w'.ownsRow base 3 1 (.slice p (k + 1) c) (k + 1) (ints (l ++ [d]))) → Hid (Below base w w') → wpList Tryz.prog ops Q rest (a.put o.dst (.slice p (k + 1) c)) w') :
    wpList Tryz.prog ops Q (o :: rest) a (w.alloc (.cells #[.int .i64 D] 3)) := by
  obtain ⟨i0, hi, hz0, hz1, hz2⟩ := info_parts info_int
  subst hd
  refine wpList_append_own _ hgd s x 103 ho base 3 i0 (.int .i64 0) 1 8 Tryz.underlying103 hi hz0 hz1 hz2 rfl (by decide) v k (ints l) hs (hown.alloc _) ⟨w.heap.size, 0, none⟩ 1 1 [.int .i64 (d : Int)] hx rfl ?_ ?_ ?_ ?_ ?_ ?_
  · intro j u hj
    cases j with
    | zero => simp at hj; subst hj; simp [Addr.add, go_sem]
    | succ j => simp at hj
  · intro u hu; simp at hu; subst hu; rfl
  · simp only [maxLen]; omega
  · omega
  · simp; exact Nat.le_succ_of_le hbase
  · intro v' w' hown' hg _
    have e : ints (l ++ [d]) = ints l ++ [.int .i64 (d : Int)] := by simp [ints]
    rw [← e] at hown'
    obtain ⟨p, c, rfl⟩ : ∃ p c, v' = .slice p (k + 1) c := by
      rcases hown'.2 with ⟨_, h0⟩ | ⟨g, cap, cur, hv, _⟩
      · omega
      · exact ⟨_, _, hv⟩
    refine h p c w' (Lib.hid hown') (Lib.hid ?_)
    · exact ((Below.refl base w).alloc hbase _).grown hg (by simp; exact Nat.le_succ_of_le hbase) (fun j hj => (hown.lt j hj).1)

set_option maxRecDepth 100000 in
theorem own_slice {w : World} {base : Nat} {p : Option Addr} {c : Nat} {l : List Nat} {k : Nat} (h : w.ownsRow base 3 1 (.slice p k c) k (ints l)) (hl : k = l.length) (hd : Dl l) (hs : k ≤ 1000) :
    Rd w p k c l := by
  obtain ⟨p', c', e, hr, _⟩ := own_rd h hl hd hs
  injection e with e1 _ e2
  subst e1; subst e2
  exact hr

/-- The digits of n, in at most k places. -/
def dg : Nat → Nat → List Nat
  | 0, _ => []
  | k + 1, n => if n = 0 then [] else n % 10 :: dg k (n / 10)

theorem dg_dl : ∀ k n, Dl (dg k n)
  | 0, _ => Dl.nil
  | k + 1, n => by
    unfold dg
    split
    · exact Dl.nil
    · intro d hd
      rcases List.mem_cons.1 hd with h | h
      · omega
      · exact dg_dl k _ d h
theorem dg_val : ∀ k n, n < 10 ^ k → val (dg k n) = n
  | 0, n, h => by simp at h; subst h; rfl
  | k + 1, n, h => by
    unfold dg
    split
    · rename_i h0; subst h0; rfl
    · rw [Nat.pow_succ] at h
      simp only [val]
      rw [dg_val k (n / 10) (by omega)]
      omega
theorem dg_len : ∀ k n, (dg k n).length ≤ k
  | 0, _ => by simp [dg]
  | k + 1, n => by
    unfold dg
    split
    · simp
    · have := dg_len k (n / 10); simp; omega
theorem dg_zero (k : Nat) : dg k 0 = [] := by cases k <;> simp [dg]

def OfPost (a : Int) (W : World) (e : Ending) (w' : World) : Prop :=
  ∃ p n c, e = .returned (.agg #[.bool (decide (a < 0)), .slice p n c]) ∧ Rd w' p n c (dg 20 a.natAbs) ∧ Below W.heap.size W w'

structure OfInv (w wr : World) (m : Bool) (N : Nat) (n : Nat) : Prop where
  res : Two wr w.heap.size (.bool false) (.slice none 0 0)
  below : Below w.heap.size w wr
  size : w.heap.size + 2 ≤ wr.heap.size
  rest : ∃ v l j, Two wr (w.heap.size + 1) (.bool m) v ∧ wr.ownsRow (w.heap.size + 2) 3 1 v l.length (ints l) ∧ l ++ dg j n = dg 20 N ∧ l.length + j ≤ 20 ∧ n < 10 ^ j

theorem of_start (w : World) (m : Bool) (N : Nat) (hN : N < 10 ^ 20) : OfInv w ((w.alloc (.cells #[.bool false, .slice none 0 0] 105)).alloc (.cells #[.bool m, .slice none 0 0] 105)) m N N := by
  refine ⟨(two_new w _ _ _).below ((Below.refl _ _).alloc (Nat.le_refl _) _) (by simp), ((Below.refl _ _).alloc (Nat.le_refl _) _).alloc (by simp) _, by simp, .slice none 0 0, [], 20, ?_, World.ownsRow_nil _ _ _ _, rfl, by simp, hN⟩
  have := two_new (w.alloc (.cells #[.bool false, .slice none 0 0] 105)) (.bool m) (.slice none 0 0) 105
  simpa using this

theorem of_next {w wr w' : World} {m : Bool} {N n : Nat} {v v' : Value} {l : List Nat} {j : Nat} (h : OfInv w wr m N n) (hn : n ≠ 0)
    (h2 : Two wr (w.heap.size + 1) (.bool m) v) (he : l ++ dg j n = dg 20 N) (hlj : l.length + j ≤ 20) (hnj : n < 10 ^ j)
    (hown : w'.ownsRow (w.heap.size + 2) 3 1 v' (l.length + 1) (ints (l ++ [n % 10]))) (hb : Below (w.heap.size + 2) wr w') :
    OfInv w (w'.setCell ⟨w.heap.size + 1, 1, none⟩ v') m N (n / 10) := by
  obtain ⟨i, rfl⟩ : ∃ i, j = i + 1 := by
    cases j with
    | zero => simp at hnj; omega
    | succ i => exact ⟨i, rfl⟩
  refine ⟨(h.res.below hb (by omega)).other (by simp) _, (h.below.trans (hb.mono (by omega))).setCell (by simp) _, ?_, v', l ++ [n % 10], i, (h2.below hb (by omega)).set1 _, ?_, ?_, ?_, ?_⟩
  · simp [World.setCell]; exact Nat.le_trans h.size hb.size
  · have := ownsRow_setCell_below hown (a := ⟨w.heap.size + 1, 1, none⟩) (by simp) v'
    simpa using this
  · rw [← he]; simp [dg, hn]
  · simp; omega
  · rw [Nat.pow_succ] at hnj; omega

set_option maxHeartbeats 1000000 in
theorem of_any (a : Int) (w : World) (ha : Fits a) :
    Calls Tryz.prog 86 #[.int .i64 a] w (OfPost a w) := by
  obtain ⟨m, hm⟩ : ∃ m, m = decide (a < 0) := ⟨_, rfl⟩
  have hsg : a = sgn m a.natAbs := by
    rw [hm]; unfold sgn; split <;> simp_all <;> omega
  have hN : a.natAbs < 10 ^ 20 := by unfold Fits at ha; omega
  have h19 : a.natAbs ≤ 9223372036854775808 := by unfold Fits at ha; omega
  have HS := Lib.hid (of_start w m a.natAbs hN)
  have HSG := Lib.hid hsg; clear hsg
  have HM := Lib.hid hm
  unfold Fits at ha
  obtain ⟨a1, a2⟩ := ha
  go_enter Tryz.func86, Tryz.ntmps86
  go_wp2_with fail
  rw [← hm]
  clear hm hN
  go_loopw [0, 4] (fun x _ wr => ∃ n : Nat, x = .int .i64 (sgn m n) ∧ n ≤ 9223372036854775808 ∧ (m = false → n ≤ 9223372036854775807) ∧ Hid (OfInv w wr m a.natAbs n)) (fun x _ _ => (intOf x).natAbs)
  case atStart => exact ⟨a.natAbs, by rw [← HSG.out], h19, by intro h; have := HM.out; rw [h] at this; simp at this; omega, HS⟩
  case round =>
    obtain ⟨n, rfl, hn19, hn19', hinv⟩ := hrel
    obtain ⟨res, hbel, hsz, v, l, j, h2, hown, he, hlj, hnj⟩ := id hinv.out
    have r0 := res.c0; have r1 := res.c1; have r2 := res.f0; have r3 := res.f1
    have n0 := h2.c0; have n1 := h2.c1; have n2 := h2.f1
    have H2 := Lib.hid h2; clear h2
    have HO := Lib.hid hown; clear hown
    have HE := Lib.hid he; clear he
    have HB := Lib.hid hbel; clear hbel
    have HR := Lib.hid res; clear res
    by_cases hn0 : n = 0
    · subst hn0
      have hz : sgn m 0 = 0 := by cases m <;> rfl
      have hll : l = dg 20 a.natAbs := by have := HE.out; rw [dg_zero] at this; simpa using this
      have HLL := Lib.hid hll; clear hll
      obtain ⟨pp, cc, rfl, hrd, _⟩ := own_rd HO.out rfl (by rw [HLL.out]; exact dg_dl _ _) (by omega)
      have HRD := Lib.hid hrd; clear hrd
      rw [hz]
      clear hz hn19'
      go_wp2_with fail
      have t2 := (HR.out.set0 (.bool m)).set1 (.slice pp l.length cc)
      have tc0 := t2.c0
      have tc1 := t2.c1
      have own2 := ownsRow_setCell_below (ownsRow_setCell_below HO.out (a := ⟨w.heap.size, 0, none⟩) (by simp) (.bool m)) (a := ⟨w.heap.size, 1, none⟩) (by simp) (.slice pp l.length cc)
      have rd2 := own_slice own2 rfl (by rw [HLL.out]; exact dg_dl _ _) (by omega)
      have bl2 := (HB.out.setCell (p := ⟨w.heap.size, 0, none⟩) (by simp) (.bool m)).setCell (p := ⟨w.heap.size, 1, none⟩) (by simp) (.slice pp l.length cc)
      refine bodyPost_ret (v := .agg #[.bool m, .slice pp l.length cc]) (by simp [results, Tryz.results86, go_sem, tc0, tc1]) rfl ⟨pp, l.length, cc, by rw [HM.out], by rw [← HLL.out]; exact rd2, bl2⟩
    · obtain ⟨d, hd⟩ : ∃ d, d = n % 10 := ⟨_, rfl⟩
      obtain ⟨r, hr⟩ : ∃ r, r = n / 10 := ⟨_, rfl⟩
      have hd9 : d < 10 := by omega
      have hnx := fun v' w' o b => of_next (v' := v') (w' := w') hinv.out hn0 H2.out HE.out hlj hnj o b
      rw [← hd, ← hr] at hnx
      have HNX := Lib.hid hnx; clear hnx
      have hl20 : l.length + 1 ≤ 1000 := by omega
      have hrn : r < n := by omega
      have hr19 : r ≤ 9223372036854775807 := by omega
      cases m
      · have hn19'' := hn19' rfl
        clear hn19'
        have em : (n : Int) % 10 = d := by omega
        have eq : (n : Int) / 10 = r := by omega
        have hb : ((n : Int) != 0) = true := by rw [bne_iff_ne]; omega
        have EM := Lib.hid em; clear em
        have EQ := Lib.hid eq; clear eq
        clear hn0 hd hr hinv
        show Code.wp _ _ _ _ _
        rw [show sgn false n = (n : Int) from rfl]
        go_wp2_with (at_builtin; refine wp_append_base rfl _ _ rfl (w.heap.size + 2) wr v l.length l _ d rfl HO.out rfl EM.out (by omega) hsz ?_; intro vp vc w' hown' hbel'; have i0 := (H2.out.below hbel'.out (by omega)).c1; have i1 := (H2.out.below hbel'.out (by omega)).f1)
        go_roundw
        case rel => exact ⟨r, congrArg _ EQ.out, by omega, fun _ => by omega, Lib.hid (HNX.out _ _ hown'.out hbel'.out)⟩
        case measure => have := EQ.out; simp [intOf]; omega
      · have em : (-(n : Int)).tmod 10 = -(d : Int) := by rw [Int.neg_tmod, Int.tmod_eq_emod_of_nonneg (by omega)]; omega
        have eq : (-(n : Int)).tdiv 10 = -(r : Int) := by rw [Int.neg_tdiv, Int.tdiv_eq_ediv_of_nonneg (by omega)]; omega
        have hb : (-(n : Int) != 0) = true := by rw [bne_iff_ne]; omega
        clear hn19' hn0 hd hr hinv
        rw [show sgn true n = -(n : Int) from rfl]
        by_cases hd0 : d = 0
        · subst hd0
          have ED := Lib.hid (show (0 : Int) = ((0 : Nat) : Int) from rfl)
          go_wp2_with (at_builtin; refine wp_append_base rfl _ _ rfl (w.heap.size + 2) wr v l.length l _ 0 rfl HO.out rfl ED.out (by omega) hsz ?_; intro vp vc w' hown' hbel'; have i0 := (H2.out.below hbel'.out (by omega)).c1; have i1 := (H2.out.below hbel'.out (by omega)).f1)
          go_roundw
          case rel => exact ⟨r, rfl, by omega, fun h => by simp at h, Lib.hid (HNX.out _ _ hown'.out hbel'.out)⟩
          case measure => simp [intOf]; omega
        · have ED := Lib.hid (show (d : Int) = ((d : Nat) : Int) from rfl)
          go_wp2_with (at_builtin; refine wp_append_base rfl _ _ rfl (w.heap.size + 2) wr v l.length l _ d rfl HO.out rfl ED.out (by omega) hsz ?_; intro vp vc w' hown' hbel'; have i0 := (H2.out.below hbel'.out (by omega)).c1; have i1 := (H2.out.below hbel'.out (by omega)).f1)
          go_roundw
          case rel => exact ⟨r, rfl, by omega, fun h => by simp at h, Lib.hid (HNX.out _ _ hown'.out hbel'.out)⟩
          case measure => simp [intOf]; omega
end Go.Proofs.YtgdlpldngpoadaaGreatDoor.T3
