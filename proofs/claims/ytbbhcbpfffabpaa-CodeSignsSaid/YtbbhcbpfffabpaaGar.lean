/- Merged by program: T1RefA, T1RefB. -/
import Derived.Laws.OwnMore
import Derived.Deep.QuietTactic
import Derived.BigQuiet
import Derived.Deep.DeepCutAuto
import Derived.Deep.CutBlock
import Derived.Test.YtbbhcbpfffabpaaGaq
/- Contracts of the document's answers for numbers: what only reads. -/
namespace Go.Proofs.Ytbbhcbpfffabpaa.T1
open Go.Proofs.Ytbbhcbpfffabpaa Go.Proofs
open Go.RowKit

/-- A slice of digits reads as a list. -/
structure Rd (w : World) (p : Option Addr) (n c : Nat) (l : List Nat) : Prop where
  len : n = l.length
  cap : n ≤ c
  size : n ≤ 1000
  digs : Dl l
  nil : p = none → c = 0
  cells : l = [] ∨ ∃ b off, p = some ⟨b, off, none⟩ ∧ b < w.heap.size ∧ ∀ i, i < l.length → w.cell? ⟨b, off + i, none⟩ = some (.int .i64 ((l.getD i 0 : Nat) : Int))

theorem Rd.below {w w' : World} {p len cap l} (h : Rd w p len cap l) (hb : Below w.heap.size w w') : Rd w' p len cap l := by
  refine ⟨h.len, h.cap, h.size, h.digs, h.nil, ?_⟩
  rcases h.cells with hc | ⟨b, off, hp, hlt, hc⟩
  · exact Or.inl hc
  · exact Or.inr ⟨b, off, hp, Nat.lt_of_lt_of_le hlt hb.size, fun i hi => by rw [hb.cell (p := ⟨b, off + i, none⟩) hlt]; exact hc i hi⟩

theorem Rd.drewN {w : World} {p len cap l} (h : Rd w p len cap l) (n : Nat) : Rd (w.drewN n) p len cap l := h.below (Below.drewN' (Below.refl _ _) n)

set_option maxHeartbeats 400000 in
theorem digit_any (p : Option Addr) (len cap : Nat) (l : List Nat) (i : Int) (w : World) (h0 : 0 ≤ i) (h : Rd w p len cap l) :
    Calls Try.prog 82 #[.slice p len cap, .int .i64 i] w fun e w' => e = .returned (.int .i64 ((l.getD i.toNat 0 : Nat) : Int)) ∧ w = w' := by
  obtain ⟨n, rfl⟩ := Int.eq_ofNat_of_zero_le h0
  rw [Int.toNat_natCast]
  have hl := h.len
  have hs := h.size
  by_cases hn : n < len
  · rcases h.cells with hc | ⟨b, off, rfl, hlt, hc⟩
    · exfalso; rw [hc] at hl; simp at hl; omega
    · have hcell := hc n (by omega)
      have HL := Lib.hid hl; clear hl hc h
      generalize l.getD n 0 = d at *
      go_enter Try.func82, Try.ntmps82
      go_wp2
      go_ret
      exact ⟨rfl, rfl⟩
  · have hz : l.getD n 0 = 0 := by rw [List.getD_eq_getElem?_getD, List.getElem?_eq_none (by omega)]; rfl
    rw [hz]
    clear hl hz h
    go_enter Try.func82, Try.ntmps82
    go_wp2
    go_ret
    exact ⟨rfl, rfl⟩

theorem less_end {a b : List Nat} {k : Nat} (ha : Dl a) (hb : Dl b) (hs : suf a (k + 1) = suf b (k + 1)) (hne : a.getD k 0 ≠ b.getD k 0) :
    decide (val a < val b) = decide (a.getD k 0 < b.getD k 0) := by
  have e : ∀ l : List Nat, val l = pre l k + 10 ^ k * suf l k := by
    intro l
    have := val_append (l.take k) (l.drop k)
    rw [List.take_append_drop] at this
    rw [this]
    unfold pre suf
    rcases Nat.lt_or_ge k l.length with h | h
    · rw [List.length_take, Nat.min_eq_left (by omega)]
    · rw [List.drop_of_length_le h]; simp [val]
  have pa := pre_lt ha k
  have pb := pre_lt hb k
  rw [e a, e b, suf_step a k, suf_step b k, hs]
  generalize suf b (k + 1) = s at *
  generalize pre a k = x at *
  generalize pre b k = y at *
  generalize a.getD k 0 = c at *
  generalize b.getD k 0 = d at *
  generalize 10 ^ k = T at *
  have : decide (x + T * (c + 10 * s) < y + T * (d + 10 * s)) = decide (c < d) := by
    rw [decide_eq_decide, Nat.mul_add, Nat.mul_add]
    constructor
    · intro h
      rcases Nat.lt_or_ge c d with h2 | h2
      · exact h2
      · have : T * (d + 1) ≤ T * c := Nat.mul_le_mul_left _ (by omega)
        rw [Nat.mul_add] at this
        omega
    · intro h
      have : T * (c + 1) ≤ T * d := Nat.mul_le_mul_left _ (by omega)
      rw [Nat.mul_add] at this
      omega
  exact this

set_option maxHeartbeats 1000000 in
theorem less_any (p q : Option Addr) (n m cap cap' : Nat) (a b : List Nat) (w : World) (ha : Rd w p n cap a) (hb : Rd w q m cap' b) :
    Calls Try.prog 79 #[.slice p n cap, .slice q m cap'] w fun e w' => e = .returned (.bool (decide (val a < val b))) ∧ w = w' := by
  have hn := ha.size
  have hm := hb.size
  have hla := Lib.hid ha.len
  have hlb := Lib.hid hb.len
  have DA := Lib.hid (fun i h0 w' (e : w = w') => digit_any p n cap a i w' h0 (e ▸ ha))
  have DB := Lib.hid (fun i h0 w' (e : w = w') => digit_any q m cap' b i w' h0 (e ▸ hb))
  have hda := ha.digs
  have hdb := hb.digs
  have HDA := Lib.hid hda; clear hda
  have HDB := Lib.hid hdb; clear hdb
  clear ha hb
  go_enter Try.func79, Try.ntmps79
  go_wp2
  go_loop [5] (fun x => ∃ i : Int, x = .int .i64 i ∧ -1 ≤ i ∧ i ≤ n + m ∧ Hid (suf a (i + 1).toNat = suf b (i + 1).toNat)) (fun x => (intOf x + 1).toNat)
  case atStart => exact ⟨_, rfl, by omega, by omega, Lib.hid (by rw [suf_end a _ (by have := hla.out; omega), suf_end b _ (by have := hlb.out; omega)])⟩
  case round =>
    obtain ⟨i, rfl, hi1, hi2, hsuf⟩ := hrel
    by_cases h0 : 0 ≤ i
    · obtain ⟨k, rfl⟩ := Int.eq_ofNat_of_zero_le h0
      have hsk : suf a (k + 1) = suf b (k + 1) := by have := hsuf.out; rw [show ((k : Int) + 1).toNat = k + 1 from by omega] at this; exact this
      obtain ⟨x, hx⟩ : ∃ x, x = a.getD k 0 := ⟨_, rfl⟩
      obtain ⟨y, hy⟩ : ∃ y, y = b.getD k 0 := ⟨_, rfl⟩
      have hx9 : x < 10 := by rw [hx]; exact HDA.out.getD k
      have hy9 : y < 10 := by rw [hy]; exact HDB.out.getD k
      have CA := Lib.hid (show ∀ w', w = w' → Calls Try.prog 82 #[.slice p n cap, .int .i64 (k : Int)] w' fun e w'' => e = .returned (.int .i64 (x : Int)) ∧ w' = w'' from fun w' e => by rw [hx]; exact DA.out k (by omega) w' e)
      have CB := Lib.hid (show ∀ w', w = w' → Calls Try.prog 82 #[.slice q m cap', .int .i64 (k : Int)] w' fun e w'' => e = .returned (.int .i64 (y : Int)) ∧ w' = w'' from fun w' e => by rw [hy]; exact DB.out k (by omega) w' e)
      by_cases hne : x = y
      · have hnext : suf a k = suf b k := by rw [suf_step a k, suf_step b k, ← hx, ← hy, hne, hsk]
        have HN := Lib.hid hnext
        clear hnext hx hy hsk
        subst hne
        go_wp2_with fail
        refine (CA.out _ rfl).mono ?_
        rintro e w1 ⟨rfl, rfl⟩
        go_wp2_with fail
        refine (CB.out _ rfl).mono ?_
        rintro e w2 ⟨rfl, rfl⟩
        go_wp2_with fail
        go_round
        case rel => exact ⟨_, rfl, by omega, by omega, Lib.hid (by rw [show ((k : Int) - 1 + 1).toNat = k from by omega]; exact HN.out)⟩
        case measure => simp [intOf]
      · have hans : decide (val a < val b) = decide (x < y) := by
          rw [less_end HDA.out HDB.out hsk (by rw [← hx, ← hy]; exact hne), ← hx, ← hy]
        have HANS := Lib.hid hans
        have hb2 : ((x : Int) != y) = true := by rw [bne_iff_ne]; omega
        clear hans hx hy hsk hne
        go_wp2_with fail
        refine (CA.out _ rfl).mono ?_
        rintro e w1 ⟨rfl, rfl⟩
        go_wp2_with fail
        refine (CB.out _ rfl).mono ?_
        rintro e w2 ⟨rfl, rfl⟩
        go_wp2_with fail
        refine (CA.out _ rfl).mono ?_
        rintro e w1 ⟨rfl, rfl⟩
        go_wp2_with fail
        refine (CB.out _ rfl).mono ?_
        rintro e w2 ⟨rfl, rfl⟩
        go_wp2_with fail
        go_ret
        exact ⟨by rw [HANS.out]; rfl, rfl⟩
    · obtain rfl : i = -1 := by omega
      have hfin : decide (val a < val b) = false := by
        have h := hsuf.out
        rw [show ((-1 : Int) + 1).toNat = 0 from rfl, suf_zero, suf_zero] at h
        simp; omega
      have HF := Lib.hid hfin; clear hfin
      go_wp2
      go_ret
      exact ⟨by rw [HF.out]; rfl, rfl⟩

def TrimPost (p : Option Addr) (n cap : Nat) (l : List Nat) (w : World) (e : Ending) (w' : World) : Prop :=
  ∃ m, m ≤ n ∧ e = .returned (.slice p m cap) ∧ val (l.take m) = val l ∧ (m = 0 ∨ l.getD (m - 1) 0 ≠ 0) ∧ w = w'

theorem Rd.take {w : World} {p n c l} (h : Rd w p n c l) {m : Nat} (hm : m ≤ n) : Rd w p m c (l.take m) := by
  have h1 := h.len
  have h2 := h.cap
  have h3 := h.size
  refine ⟨by rw [List.length_take]; omega, by omega, by omega, h.digs.take m, h.nil, ?_⟩
  rcases h.cells with hc | ⟨b, off, hp, hlt, hc⟩
  · exact Or.inl (by rw [hc]; simp)
  · refine Or.inr ⟨b, off, hp, hlt, fun i hi => ?_⟩
    rw [List.length_take] at hi
    rw [hc i (by omega)]
    congr 3
    rw [List.getD_eq_getElem?_getD, List.getD_eq_getElem?_getD, List.getElem?_take_of_lt (by omega)]

theorem val_take_succ (l : List Nat) (k : Nat) (h : l.getD k 0 = 0) : val (l.take k) = val (l.take (k + 1)) := by
  have := pre_succ l k
  unfold pre at this
  rw [this, h]; simp

set_option maxHeartbeats 1000000 in
theorem trim_any (p : Option Addr) (n cap : Nat) (l : List Nat) (w : World) (h : Rd w p n cap l) :
    Calls Try.prog 78 #[.slice p n cap] w (TrimPost p n cap l w) := by
  have hs := h.size
  have hc := h.cap
  have HR := Lib.hid h; clear h
  go_enter Try.func78, Try.ntmps78
  go_wp2
  go_loop [0] (fun x => ∃ m : Nat, x = .slice p m cap ∧ m ≤ n ∧ Hid (val (l.take m) = val l)) (fun x => match x with | .slice _ m _ => m | _ => 0)
  case atStart => exact ⟨n, rfl, by omega, Lib.hid (by rw [List.take_of_length_le (by have := HR.out.len; omega)])⟩
  case round =>
    obtain ⟨m, rfl, hm, hv⟩ := hrel
    rcases Nat.eq_zero_or_pos m with h0 | h0
    · subst h0
      go_wp2
      go_ret
      exact ⟨0, by omega, rfl, hv.out, Or.inl rfl, rfl⟩
    · obtain ⟨k, rfl⟩ : ∃ k, m = k + 1 := ⟨m - 1, by omega⟩
      rcases HR.out.cells with hx | ⟨b, off, rfl, hlt, hx⟩
      · exfalso
        have := HR.out.len
        rw [hx] at this; simp at this; omega
      · have hcell := hx k (by have := HR.out.len; omega)
        clear hx
        by_cases hz : l.getD k 0 = 0
        · have hv2 := Lib.hid (show val (l.take k) = val l from by rw [val_take_succ l k hz]; exact hv.out)
          rw [hz] at hcell
          clear hz
          go_wp2
          go_round
          case rel => exact ⟨k, rfl, by omega, hv2⟩
          case measure => simp
        · have hzb : (((l.getD k 0 : Nat) : Int) == 0) = false := by rw [beq_eq_false_iff_ne]; omega
          have HZ := Lib.hid hz; clear hz
          generalize hd : l.getD k 0 = d at *
          have HD := Lib.hid hd; clear hd
          go_wp2
          go_ret
          exact ⟨k + 1, hm, rfl, hv.out, Or.inr (by rw [show k + 1 - 1 = k from by omega, HD.out]; exact HZ.out), rfl⟩
end Go.Proofs.Ytbbhcbpfffabpaa.T1

/- Contracts of the document's answers for numbers: sums and differences of digits. -/
namespace Go.Proofs.Ytbbhcbpfffabpaa.T1
open Go.Proofs.Ytbbhcbpfffabpaa Go.Proofs
open Go.RowKit

def ints (l : List Nat) : List Value := l.map fun (d : Nat) => Value.int .i64 (d : Int)
theorem info_int : (Try.prog.info? 3).map (fun i => (i.zero, i.size, i.bytes)) = some (some (.int .i64 0), 1, 8) := by kernel_rfl

/-- A row of the call's own reads as its digits. -/
theorem own_rd {w : World} {base : Nat} {v : Value} {l : List Nat} {k : Nat} (h : w.ownsRow base 3 1 v k (ints l)) (hl : k = l.length) (hd : Dl l) (hs : k ≤ 1000) :
    ∃ p c, v = .slice p k c ∧ Rd w p k c l ∧ ∀ x, p = some x → base ≤ x.block := by
  obtain ⟨hlen, ⟨rfl, h0⟩ | ⟨g, cap, cur, rfl, hb, hg, hcap, hm, hsz, hx⟩⟩ := id h
  · subst h0
    have : l = [] := List.length_eq_zero_iff.1 hl.symm
    exact ⟨none, 0, rfl, ⟨hl, by omega, by omega, hd, fun _ => rfl, Or.inl this⟩, fun x h => by simp at h⟩
  · refine ⟨_, cap, rfl, ⟨hl, hcap, hs, hd, fun h => by simp at h, Or.inr ⟨g, 0, rfl, (h.lt g rfl).2, fun i hi => ?_⟩⟩, fun x h => by injection h with h; subst h; exact hb⟩
    rw [Nat.zero_add, h.cellAt i (by omega)]
    unfold ints
    rw [List.getElem?_map, List.getElem?_eq_getElem hi, List.getD_eq_getElem?_getD, List.getElem?_eq_getElem hi]
    rfl

theorem wp_append_digit {ops : Array Oper} {rest : List Oper} {o : Oper} {a : Act} {Q : Exit → Act → World → Prop} (hgd : o.guard = none) (s x : Operand)
    (ho : o.op = .call { callee := .builtin .append, args := #[s, x], argTypes := #[74, 74] }) (W w : World) (v : Value) (k : Nat) (l : List Nat) (D : Int) (d : Nat)
    (hs : a.eval s = v) (hown : w.ownsRow W.heap.size 3 1 v k (ints l)) (hx : a.eval x = .slice (some ⟨w.heap.size, 0, none⟩) 1 1) (hd : D = d) (hk : k ≤ 1000) (hbel : Below W.heap.size W w)
    (h : ∀ v' w', Hid (w'.ownsRow W.heap.size 3 1 v' (k + 1) (ints (l ++ [d]))) → Hid (Below W.heap.size W w') → wpList Try.prog ops Q rest (a.put o.dst v') w') :
    wpList Try.prog ops Q (o :: rest) a (w.alloc (.cells #[.int .i64 D] 3)) := by
  obtain ⟨i0, hi, hz0, hz1, hz2⟩ := info_parts info_int
  subst hd
  refine wpList_append_own _ hgd s x 74 ho W.heap.size 3 i0 (.int .i64 0) 1 8 Try.underlying74 hi hz0 hz1 hz2 rfl (by decide) v k (ints l) hs (hown.alloc _) ⟨w.heap.size, 0, none⟩ 1 1 [.int .i64 (d : Int)] hx rfl ?_ ?_ ?_ ?_ ?_ ?_
  · intro j u hj
    cases j with
    | zero => simp at hj; subst hj; simp [Addr.add, go_sem]
    | succ j => simp at hj
  · intro u hu; simp at hu; subst hu; rfl
  · simp only [maxLen]; omega
  · omega
  · simp; exact Nat.le_succ_of_le hbel.size
  · intro v' w' hown' hg _
    refine h v' w' (Lib.hid ?_) (Lib.hid ?_)
    · have e : ints (l ++ [d]) = ints l ++ [.int .i64 (d : Int)] := by simp [ints]
      rw [e]; exact hown'
    · exact (hbel.alloc hbel.size _).grown hg (by simp; exact Nat.le_succ_of_le hbel.size) (fun j hj => (hown.lt j hj).1)

structure Got (W : World) (w : World) (v : Value) (l : List Nat) : Prop where
  rd : ∃ p n c, v = .slice p n c ∧ Rd w p n c l ∧ ∀ x, p = some x → W.heap.size ≤ x.block
  below : Below W.heap.size W w

def SumPost (W : World) (z k : Nat) (e : Ending) (w' : World) : Prop :=
  ∃ v l, e = .returned v ∧ Got W w' v l ∧ val l = z ∧ l.length ≤ k

set_option maxRecDepth 100000 in
set_option maxHeartbeats 1000000 in
theorem plus_any (p q : Option Addr) (n m cap cap' : Nat) (a b : List Nat) (w : World) (ha : Rd w p n cap a) (hb : Rd w q m cap' b) (hn : n ≤ 900) (hm : m ≤ 900) :
    Calls Try.prog 80 #[.slice p n cap, .slice q m cap'] w (SumPost w (val a + val b) (max n m + 1)) := by
  have HA := Lib.hid ha; clear ha
  have HB := Lib.hid hb; clear hb
  go_enter Try.func80, Try.ntmps80
  go_wp2_with fail
  have HMX := Lib.hid (Nat.le_max_left n m)
  have HMY := Lib.hid (Nat.le_max_right n m)
  obtain ⟨M, hM⟩ : ∃ M, M = max n m := ⟨_, rfl⟩
  have hMn : n ≤ M := by omega
  have hMm : m ≤ M := by omega
  have hM9 : M ≤ 900 := by omega
  have hMx : M = n ∨ M = m := by omega
  rw [← hM]
  have HMM := Lib.hid hM
  clear HMX HMY hM
  have HMO := Lib.hid hMx; clear hMx
  go_loopw [5, 6, 7] (fun x y z wr => ∃ (l : List Nat) (cy k : Nat), y = .int .i64 cy ∧ z = .int .i64 k ∧ wr.ownsRow w.heap.size 3 1 x k (ints l) ∧ Below w.heap.size w wr ∧ Hid (k = l.length ∧ Dl l ∧ val l + 10 ^ k * cy = pre a k + pre b k) ∧ cy ≤ 1 ∧ k ≤ M + 1 ∧ (k ≤ M ∨ cy ≤ 0)) (fun _ _ z _ => 902 - (intOf z).toNat)
  case atStart =>
    refine ⟨[], 0, 0, rfl, rfl, ?_, (Below.refl _ _).alloc (Nat.le_refl _) _, Lib.hid ⟨rfl, Dl.nil, by simp [val, pre]⟩, by omega, by omega, by omega⟩
    have := World.ownsRow_lit (base := w.heap.size) (e := 3) (size := 1) w #[] 0 (Nat.le_refl _) (by simp) (by simp)
    simpa [ints] using this
  case round =>
    obtain ⟨l, cy, k, rfl, rfl, hown, hbel, hinv, hcy, hk, hkM⟩ := hrel
    have HOWN := Lib.hid hown; clear hown
    have HBEL := Lib.hid hbel; clear hbel
    by_cases hgo : (k < n ∨ k < m) ∨ 0 < cy
    · obtain ⟨x, hx⟩ : ∃ x, x = a.getD k 0 := ⟨_, rfl⟩
      obtain ⟨y, hy⟩ : ∃ y, y = b.getD k 0 := ⟨_, rfl⟩
      have hx9 : x < 10 := by rw [hx]; exact HA.out.digs.getD k
      have hy9 : y < 10 := by rw [hy]; exact HB.out.digs.getD k
      have hxy : k + 1 ≤ M ∨ x + y ≤ 0 := by
        rcases Nat.lt_or_ge k M with h | h
        · exact Or.inl h
        · have h1 := HA.out.len
          have h2 := HB.out.len
          rw [hx, hy, List.getD_eq_getElem?_getD, List.getD_eq_getElem?_getD, List.getElem?_eq_none (by omega), List.getElem?_eq_none (by omega)]
          exact Or.inr (by simp)
      have HXY := Lib.hid hxy; clear hxy
      have CA := Lib.hid (show ∀ w', Below w.heap.size w w' → Calls Try.prog 82 #[.slice p n cap, .int .i64 (k : Int)] w' fun e w'' => e = .returned (.int .i64 (x : Int)) ∧ w' = w'' from fun w' e => by rw [hx]; exact digit_any p n cap a k w' (by omega) (HA.out.below e))
      have CB := Lib.hid (show ∀ w', Below w.heap.size w w' → Calls Try.prog 82 #[.slice q m cap', .int .i64 (k : Int)] w' fun e w'' => e = .returned (.int .i64 (y : Int)) ∧ w' = w'' from fun w' e => by rw [hy]; exact digit_any q m cap' b k w' (by omega) (HB.out.below e))
      have HX := Lib.hid hx; clear hx
      have HY := Lib.hid hy; clear hy
      go_upto_region 3 with (fail)
      go_cut [22] (fun b wx => b = .bool true ∧ wx = wr)
      case first =>
        rcases (show k < n ∨ (n ≤ k ∧ k < m) ∨ (n ≤ k ∧ m ≤ k ∧ 0 < cy) from by omega) with h | ⟨h, h'⟩ | ⟨h, h', h''⟩
        all_goals
          clear hgo
          go_wp2_with fail
          go_meet
          exact ⟨rfl, rfl⟩
      case rest =>
        obtain ⟨rfl, rfl⟩ := hcut
        go_step
        go_wp2_with fail
        refine (CA.out _ HBEL.out).mono ?_
        rintro e w1 ⟨rfl, rfl⟩
        go_wp2_with fail
        refine (CB.out _ HBEL.out).mono ?_
        rintro e w2 ⟨rfl, rfl⟩
        obtain ⟨d, hd⟩ : ∃ d, d = (cy + x + y) % 10 := ⟨_, rfl⟩
        have hd2 : ((cy : Int) + x + y) % 10 = d := by omega
        have HD2 := Lib.hid hd2; clear hd2
        have HD := Lib.hid hd; clear hd
        go_wp2_with (at_builtin; refine wp_append_digit rfl _ _ rfl w wc u5 k l _ d rfl HOWN.out rfl HD2.out (by omega) HBEL.out ?_; intro v' w' hown' hbel')
        go_roundw
        case rel =>
          refine ⟨l ++ [d], (cy + x + y) / 10, k + 1, by go_num, by go_num, hown'.out, hbel'.out, Lib.hid ?_, by omega, by have := HXY.out; omega, by have := HXY.out; omega⟩
          obtain ⟨h1, h2, h3⟩ := hinv.out
          have h4 := HD.out
          refine ⟨by simp; omega, h2.append (Dl.one (by omega)), ?_⟩
          rw [val_append, pre_succ, pre_succ, ← HX.out, ← HY.out, ← h1, Nat.pow_succ]
          have e : cy + x + y = d + 10 * ((cy + x + y) / 10) := by omega
          generalize (cy + x + y) / 10 = c2 at *
          have e2 : 10 ^ k * (cy + x + y) = 10 ^ k * (d + 10 * c2) := by rw [e]
          simp only [val, Nat.mul_add, Nat.mul_zero, Nat.add_zero] at e2 ⊢
          rw [Nat.mul_assoc]
          omega
        case measure => simp [intOf]; omega
    · have hkk : n ≤ k ∧ m ≤ k ∧ cy ≤ 0 := by omega
      obtain ⟨hk1, hk2, hcy0⟩ := hkk
      obtain rfl : cy = 0 := by omega
      obtain ⟨h1, h2, h3⟩ := hinv.out
      obtain ⟨pp, cc, rfl, hrd, hfr⟩ := own_rd HOWN.out h1 h2 (by omega)
      have hval : val l = val a + val b := by
        rw [pre_all a k (by have := HA.out.len; omega), pre_all b k (by have := HB.out.len; omega)] at h3
        simpa using h3
      have HRD := Lib.hid hrd; clear hrd
      have HFR := Lib.hid hfr; clear hfr
      have HV := Lib.hid hval; clear hval
      clear h1 h2 h3 hgo
      go_wp2_with fail
      refine (trim_any _ _ _ l _ HRD.out).mono ?_
      rintro e w3 ⟨j, hj, rfl, hv, _, rfl⟩
      have HJ := Lib.hid hv; clear hv
      go_wp2_with fail
      go_ret
      exact ⟨_, l.take j, rfl, ⟨⟨_, _, _, rfl, HRD.out.take hj, HFR.out⟩, HBEL.out⟩, by rw [HJ.out, HV.out], by have := HMM.out; rw [List.length_take]; omega⟩
end Go.Proofs.Ytbbhcbpfffabpaa.T1
