/- Merged by program: Parts7, All7. -/
import Derived.RangeFuncBox
import Derived.Test.YtimipfdknfdbdaaGreatDoorQjba
import Derived.Test.YtimipfdknfdbdaaGreatDoorQjap
import Derived.Test.YtimipfdknfdbdaaGreatDoorQjaq
/- (*match.Pattern).parts: its iterator's contract. -/
namespace Go.Proofs.YtimipfdknfdbdaaGreatDoor
open Go.RowKit Go.Shelf
attribute [local go_sem] Oper.semAt_some

/-- Blocks stay. -/
structure KeepS (R : Nat → Prop) (W W' : World) : Prop where
  block : ∀ k, R k → W'.heap[k]? = W.heap[k]?
theorem KeepS.refl (R : Nat → Prop) (W : World) : KeepS R W W := ⟨fun _ _ => rfl⟩
theorem KeepS.trans {R : Nat → Prop} {A B C : World} (h : KeepS R A B) (k : KeepS R B C) : KeepS R A C := ⟨fun j hj => (k.block j hj).trans (h.block j hj)⟩
theorem KeepS.put {R : Nat → Prop} {w : World} (h : ∀ k, R k → k < w.heap.size) (W : World) (l : Nat) (o o' : Obj) (hl : w.heap.size ≤ l) (_ : W.heap[l]? = some o) (_ : o.isCells = false) (_ : o.isWalk = false) : KeepS R W (W.putObj l o') :=
  ⟨fun k hk => World.putObj_heap_other (by have := h k hk; omega)⟩
theorem grownBy_of {W W' : World} (h : Below W.heap.size W W') : W.grownBy W' none := ⟨h.os, h.tape, h.output, h.size, fun k hk _ => h.block k hk⟩
/-- What an iterator over parts reads. -/
def PartS (pp : Nat) (sv : Value) (Bp Bs : Nat) : Nat → Prop := fun k => PatS pp sv k ∨ k = Bp ∨ k = Bs

set_option maxRecDepth 100000 in
set_option maxHeartbeats 2000000 in
theorem parts1_in (n : Nat) (hn : 1 ≤ n) (pp start Bp Bs : Nat) (t s : ByteArray) (ss : List St) (sv : Value) (hs : SsOk ss) (hst : start < ss.length) (hsz : s.size ≤ 100000000) (l : Nat) (J Jx : List (Nat × Nat) → World → Prop)
    (W : World) (hm : PatM W pp t ss sv start) (hp : One W Bp (.pointer (some ⟨pp, 0, none⟩)) 30) (hsb : One W Bs (.string s) 9) (hJ : AbidesFrom W.heap.size J)
    (hY : ∀ pre x W1, J pre W1 → pre.length < (allN (longN ss start s) s.size).length → YieldAt Fence.wide (n - 1) Tryz.prog l #[.int .i64 (x.1 : Nat), .int .i64 (x.2 : Nat)] W1 fun e W' =>
      (e = .returned (.bool true) ∧ J (pre ++ [x]) W' ∧ KeepS (PartS pp sv Bp Bs) W1 W') ∨ (e = .returned (.bool false) ∧ Jx (pre ++ [x]) W')) (h0 : J [] W) :
    CallsIn Fence.wide n Tryz.prog 61 #[.func (.yield l) #[] #[], .pointer (some ⟨Bp, 0, none⟩), .pointer (some ⟨Bs, 0, none⟩)] W fun e W' => (∃ v, e = .returned v) ∧
      ((∃ ys, ys = allN (longN ss start s) s.size ∧ J ys W') ∨ (∃ pre, True ∧ Jx pre W')) := by
  have HY := Lib.hid hY
  have HM := Lib.hid hm
  have HP := Lib.hid hp
  have HSb := Lib.hid hsb
  have HJ := Lib.hid hJ
  have HFi := Lib.hid (fun (k : Nat) (hk : k ≤ s.size + 1) (V : World) (h : PatM V pp t ss sv start) => find_spec pp start k t s ss sv hs hst hsz V h hk)
  obtain ⟨L, hL⟩ : ∃ L, L = longN ss start s := ⟨_, rfl⟩
  have hLok : LongOk L s.size := by rw [hL]; exact longN_ok ss start s
  rw [← hL] at HFi HY ⊢
  have HLok := Lib.hid hLok
  clear hY hm hp hsb hJ hs hst hL hLok
  refine callsIn_of_wp Tryz.func61 rfl trivial ?_ rfl
  simp only [Tryz.ntmps61, List.size_toArray, List.length_cons, List.length_nil, Nat.reduceAdd, Nat.reduceSub, Array.replicate_succ, Array.replicate_zero, List.push_toArray, List.append_toArray, List.nil_append, List.cons_append]
  gi_wp2
  gi_loopw [4, 5, 6, 7, 8] (fun av lv i6 i7 i8 wr => i6 = i6 ∧ i7 = i7 ∧ i8 = i8 ∧ ∃ (at_ last d : Nat) (pre : List (Nat × Nat)), av = .int .i64 (at_ : Nat) ∧ lv = .int .i64 ((last : Nat) - 1) ∧ at_ ≤ s.size + 1 ∧ last ≤ at_ + 1 ∧ last ≤ s.size + 1 ∧ (s.size + 1 - at_) + (s.size + 1 - last) < d ∧ Hid (allN L s.size = pre ++ foundN L s.size d at_ last) ∧ Hid (J pre wr) ∧ Hid (KeepS (PartS pp sv Bp Bs) W wr))
    (fun av lv _ _ _ _ => (s.size + 1 - (intOf av).toNat) + (s.size + 1 - (intOf lv + 1).toNat))
  case atStart => exact ⟨rfl, rfl, rfl, 0, 0, 2 * s.size + 3, [], rfl, rfl, by omega, by omega, by omega, by omega, Lib.hid rfl, Lib.hid h0, Lib.hid (KeepS.refl _ _)⟩
  case round =>
    obtain ⟨_, _, _, at_, last, d, pre, rfl, rfl, h1, h2, h3, h4, hA, hJs, hK⟩ := hrel
    have c1 : wr.cell? ⟨Bp, 0, none⟩ = some (.pointer (some ⟨pp, 0, none⟩)) := (World.cell?_of_block (a := ⟨Bp, 0, none⟩) (hK.out.block Bp (Or.inr (Or.inl rfl)))).trans HP.out.c
    have c2 : wr.cell? ⟨Bs, 0, none⟩ = some (.string s) := (World.cell?_of_block (a := ⟨Bs, 0, none⟩) (hK.out.block Bs (Or.inr (Or.inr rfl)))).trans HSb.out.c
    have HMr := Lib.hid (HM.out.keep (w' := wr) fun k hk => hK.out.block k (Or.inl hk))
    have HC := Lib.hid (HFi.out at_ h1 wr HMr.out)
    obtain ⟨r, hr⟩ : ∃ r, r = findN L (s.size + 1 - at_) at_ := ⟨_, rfl⟩
    rw [← hr] at HC
    have HR := Lib.hid hr
    have hlow : ∀ k, PartS pp sv Bp Bs k → k < wr.heap.size := by
      rintro k (hk | rfl | rfl)
      · exact HMr.out.low k hk
      · exact cell_lt c1
      · exact cell_lt c2
    have HLow := Lib.hid hlow
    clear hr hlow
    gi_wp2
    refine ⟨trivial, ?_⟩
    refine (callsIn_wide.2 HC.out).mono ?_
    rintro e w1 ⟨rfl, b1⟩
    have J1 := Lib.hid (HJ.out pre wr w1 none hJs.out (grownBy_of b1) (fun r e => by cases e))
    have K1 : Hid (KeepS (PartS pp sv Bp Bs) W w1) := Lib.hid (hK.out.trans ⟨fun k hk => b1.block k (HLow.out k hk)⟩)
    clear b1 c1 c2
    cases r with
    | none =>
      have hE : Hid (allN L s.size = pre) := Lib.hid (by
        rw [hA.out]
        obtain ⟨d', rfl⟩ : ∃ d', d = d' + 1 := ⟨d - 1, by omega⟩
        unfold foundN
        rw [← HR.out]
        simp)
      unfold findV
      gi_wp2
      refine bodyPost_ret (results_none rfl _ _ _) rfl ?_
      exact ⟨⟨_, rfl⟩, .inl ⟨_, rfl, by rw [hE.out]; exact J1.out⟩⟩
    | some x =>
      obtain ⟨b, e⟩ := x
      have hin : at_ ≤ b ∧ b ≤ e ∧ e ≤ s.size ∧ L b = e := by
        by_cases hat : at_ ≤ s.size
        · exact findN_in L s.size HLok.out _ at_ (by omega) b e HR.out.symm
        · have h := HR.out
          rw [show s.size + 1 - at_ = 0 by omega] at h
          cases h
      obtain ⟨g1, g2, g3, _⟩ := hin
      obtain ⟨d', rfl⟩ : ∃ d', d = d' + 1 := ⟨d - 1, by omega⟩
      have hP : Hid (foundN L s.size (d' + 1) at_ last = if b = e ∧ e + 1 = last then foundN L s.size d' (e + 1) last else (b, e) :: foundN L s.size d' e (e + 1)) := Lib.hid (by
        conv => lhs; unfold foundN
        rw [← HR.out])
      unfold findV
      by_cases hskip : b = e ∧ e + 1 = last
      · have hQ : Hid (allN L s.size = pre ++ foundN L s.size d' (e + 1) last) := Lib.hid (by rw [hA.out, hP.out, if_pos hskip])
        obtain ⟨rfl, hel⟩ := hskip
        have hq : ((b : Int) == (last : Int) - 1) = true := beq_iff_eq.2 (by omega)
        clear hP hA HC HR
        gi_wp2
        go_roundw
        case rel => exact ⟨trivial, trivial, trivial, b + 1, last, d', pre, by go_num, rfl, by omega, by omega, by omega, by omega, hQ, J1, K1⟩
        case measure => simp [intOf]; omega
      · have hQ : Hid (allN L s.size = (pre ++ [(b, e)]) ++ foundN L s.size d' e (e + 1)) := Lib.hid (by rw [hA.out, hP.out, if_neg hskip]; simp)
        have hpl : pre.length < (allN L s.size).length := by rw [hQ.out]; simp
        have hy0 := HY.out pre (b, e) w1 J1.out hpl
        dsimp only at hy0
        have hfin : ∀ w3, J (pre ++ [(b, e)]) w3 → KeepS (PartS pp sv Bp Bs) w1 w3 → Hid (J (pre ++ [(b, e)]) w3) ∧ Hid (KeepS (PartS pp sv Bp Bs) W w3) := fun w3 a k => ⟨Lib.hid a, Lib.hid (K1.out.trans k)⟩
        have HFin := Lib.hid hfin
        clear hP hA HC HR hfin hpl
        by_cases hbe : b = e
        · subst hbe
          have hq : ((b : Int) == (last : Int) - 1) = false := beq_eq_false_iff_ne.2 (fun h => hskip ⟨rfl, by omega⟩)
          have hlast : last ≤ b := by
            have : ¬ (b + 1 = last) := fun h => hskip ⟨rfl, h⟩
            omega
          obtain ⟨fn, tmps, assign, body, hy, hRr⟩ := hy0
          clear hskip
          gi_wp2
          refine hRr.mono ?_
          rintro e W3 (⟨rfl, hJ3, hk3⟩ | ⟨rfl, hJx3⟩)
          · obtain ⟨J3, K3⟩ := HFin.out W3 hJ3 hk3
            clear hJ3 hk3
            gi_wp2
            go_roundw
            case rel => exact ⟨trivial, trivial, trivial, b, b + 1, d', _, rfl, by go_num, by omega, by omega, by omega, by omega, hQ, J3, K3⟩
            case measure => simp [intOf]; omega
          · gi_wp2
            refine bodyPost_ret (results_none rfl _ _ _) rfl ?_
            exact ⟨⟨_, rfl⟩, .inr ⟨_, trivial, hJx3⟩⟩
        · have hq : ((b : Int) == (e : Int)) = false := beq_eq_false_iff_ne.2 (fun h => hbe (by omega))
          obtain ⟨fn, tmps, assign, body, hy, hRr⟩ := hy0
          clear hskip
          gi_wp2
          refine hRr.mono ?_
          rintro e' W3 (⟨rfl, hJ3, hk3⟩ | ⟨rfl, hJx3⟩)
          · obtain ⟨J3, K3⟩ := HFin.out W3 hJ3 hk3
            clear hJ3 hk3
            gi_wp2
            go_roundw
            case rel => exact ⟨trivial, trivial, trivial, e, e + 1, d', _, rfl, by go_num, by omega, by omega, by omega, by omega, hQ, J3, K3⟩
            case measure => simp [intOf]; omega
          · gi_wp2
            refine bodyPost_ret (results_none rfl _ _ _) rfl ?_
            exact ⟨⟨_, rfl⟩, .inr ⟨_, trivial, hJx3⟩⟩

/-- parts: the pattern and the text are boxed; the function value captures the boxes. -/
theorem parts_in (pp : Nat) (s : ByteArray) (n : Nat) (w : World) :
    CallsIn Fence.wide n Tryz.prog 45 #[.pointer (some ⟨pp, 0, none⟩), .string s] w fun e w' => e = .returned (.func (.func 61) #[] #[.pointer (some ⟨w.heap.size, 0, none⟩), .pointer (some ⟨w.heap.size + 1, 0, none⟩)]) ∧
      w' = (w.alloc (.cells #[.pointer (some ⟨pp, 0, none⟩)] 30)).alloc (.cells #[.string s] 9) := by
  refine callsIn_of_wp Tryz.func45 rfl trivial ?_ rfl
  simp only [Tryz.ntmps45, List.size_toArray, List.length_cons, List.length_nil, Nat.reduceAdd, Nat.reduceSub, Array.replicate_succ, Array.replicate_zero, List.push_toArray, List.append_toArray, List.nil_append, List.cons_append]
  gi_wp2
  go_ret
  exact ⟨rfl, rfl⟩

/-- The value that parts hands back: all parts. -/
theorem parts_stops (n : Nat) (hn : 1 ≤ n) (pp start Bp Bs : Nat) (t s : ByteArray) (ss : List St) (sv : Value) (hs : SsOk ss) (hst : start < ss.length) (hsz : s.size ≤ 100000000) (w : World) (hm : PatM w pp t ss sv start)
    (hp : One w Bp (.pointer (some ⟨pp, 0, none⟩)) 30) (hsb : One w Bs (.string s) 9) :
    SeqStopsK Fence.wide n Tryz.prog 61 #[.pointer (some ⟨Bp, 0, none⟩), .pointer (some ⟨Bs, 0, none⟩)] (fun x : Nat × Nat => #[Value.int .i64 (x.1 : Nat), .int .i64 (x.2 : Nat)]) (KeepS (PartS pp sv Bp Bs))
      (fun ys => ys = allN (longN ss start s) s.size) (fun _ => True) (allN (longN ss start s) s.size).length w := fun l J Jx W hW hJ _ hY h0 =>
  parts1_in n hn pp start Bp Bs t s ss sv hs hst hsz l J Jx W (hm.after hW) (hp.after hW) (hsb.after hW) hJ hY h0
end Go.Proofs.YtimipfdknfdbdaaGreatDoor

/- (*match.Pattern).All: a walk. -/
namespace Go.Proofs.YtimipfdknfdbdaaGreatDoor
open Go.RowKit Go.Shelf
attribute [local go_sem] Oper.semAt_some

/-- Parts as a row of numbers. -/
def pairs (l : List (Nat × Nat)) : List Value := l.flatMap fun x => [.int .i64 (x.1 : Nat), .int .i64 (x.2 : Nat)]
theorem pairs_snoc (l : List (Nat × Nat)) (x : Nat × Nat) : pairs (l ++ [x]) = pairs l ++ [.int .i64 (x.1 : Nat), .int .i64 (x.2 : Nat)] := by simp [pairs]
theorem pairs_len (l : List (Nat × Nat)) : (pairs l).length = l.length * 2 := by
  induction l with
  | nil => rfl
  | cons x r ih =>
    show ([_, _] ++ pairs r).length = _
    rw [List.length_append, ih]
    simp
    omega
theorem pairs_get (l : List (Nat × Nat)) (i : Nat) (hi : i < l.length) : (pairs l)[i * 2]? = some (.int .i64 (l[i].1 : Nat)) ∧ (pairs l)[i * 2 + 1]? = some (.int .i64 (l[i].2 : Nat)) := by
  induction l generalizing i with
  | nil => exact absurd hi (by simp)
  | cons x r ih =>
    cases i with
    | zero => exact ⟨rfl, rfl⟩
    | succ i =>
      have := ih i (by simpa using hi)
      rw [show (i + 1) * 2 = i * 2 + 2 by omega]
      exact this
theorem info_pair3 : (Tryz.prog.info? 67).map (fun i => (i.zero, i.size, i.bytes)) = some (some (.agg #[.int .i64 0, .int .i64 0]), 2, 16) := by kernel_rfl

/-- Where the collecting of parts stands. -/
structure AllI (V w : World) (pp : Nat) (s : ByteArray) (pre : List (Nat × Nat)) : Prop where
  ex : ∃ v, Boxed V w.heap.size 59 v ∧ V.ownsRow w.heap.size 67 2 v pre.length (pairs pre)
  bp : One V (w.heap.size + 1) (.pointer (some ⟨pp, 0, none⟩)) 30
  bs : One V (w.heap.size + 2) (.string s) 9
  below : Below w.heap.size w V
theorem AllI.grow {V V' w : World} {row : Option Nat} {pp : Nat} {s : ByteArray} {pre : List (Nat × Nat)} {C : Nat} (h : AllI V w pp s pre) (hC : w.heap.size ≤ C) (hg : V.grownBy V' row) (hr : ∀ r, row = some r → C ≤ r ∧ ∃ o : Obj, V.heap[r]? = some o ∧ o.isCells = false) : AllI V' w pp s pre := by
  obtain ⟨⟨v, h1, h2⟩, h3, h4, h5⟩ := h
  refine ⟨⟨v, h1.kept hg (cells_ne hr h1), h2.kept hg ?_⟩, h3.grow hg hr, h4.grow hg hr, ⟨hg.os.trans h5.os, hg.tape.trans h5.tape, hg.output.trans h5.output, Nat.le_trans h5.size hg.size, fun k hk => (hg.block k (Nat.lt_of_lt_of_le hk h5.size) (fun e => by have := (hr k e.symm).1; omega)).trans (h5.block k hk)⟩⟩
  rcases h2.2 with ⟨rfl, _⟩ | ⟨g, cap, cur, rfl, _, hgg, _⟩
  · exact Or.inl rfl
  · exact Or.inr (cells_ne hr hgg)

set_option maxRecDepth 100000 in
set_option maxHeartbeats 4000000 in
theorem all_spec (pp start : Nat) (t s : ByteArray) (ss : List St) (sv : Value) (hs : SsOk ss) (hst : start < ss.length) (hsz : s.size ≤ 100000000) (w : World) (hm : PatM w pp t ss sv start) (hlen : (allN (longN ss start s) s.size).length ≤ 1000000000) :
    Calls Tryz.prog 32 #[.pointer (some ⟨pp, 0, none⟩), .string s] w fun e w' => ∃ v, e = .returned v ∧ w'.ownsRow w.heap.size 67 2 v (allN (longN ss start s) s.size).length (pairs (allN (longN ss start s) s.size)) ∧ Below w.heap.size w w' := by
  obtain ⟨l, hl⟩ : ∃ l, l = allN (longN ss start s) s.size := ⟨_, rfl⟩
  obtain ⟨W, hW⟩ : ∃ W, W = ((w.alloc (.cells #[.slice none 0 0] 59)).alloc (.cells #[.pointer (some ⟨pp, 0, none⟩)] 30)).alloc (.cells #[.string s] 9) := ⟨_, rfl⟩
  have s1 : (w.alloc (.cells #[.slice none 0 0] 59)).heap.size = w.heap.size + 1 := World.size_alloc _ _
  have s2 : ((w.alloc (.cells #[.slice none 0 0] 59)).alloc (.cells #[.pointer (some ⟨pp, 0, none⟩)] 30)).heap.size = w.heap.size + 2 := by rw [World.size_alloc, s1]
  have hbW : Below w.heap.size w W := by rw [hW]; exact Below.step (Below.step (below_new _ _) (below_new _ _)) (below_new _ _)
  have hszW : W.heap.size = w.heap.size + 3 := by rw [hW, World.size_alloc, s2]
  have hI0 : AllI W w pp s [] := by
    refine ⟨⟨_, ?_, World.ownsRow_nil _ _ _ _⟩, ?_, ?_, hbW⟩
    · rw [hW]; exact ((Boxed.new w _ _).alloc _).alloc _
    · have h := (one_new (w.alloc (.cells #[.slice none 0 0] 59)) (.pointer (some ⟨pp, 0, none⟩)) 30).after (below_new _ (.cells #[.string s] 9))
      rw [s1] at h
      rw [hW]; exact h
    · have h := one_new ((w.alloc (.cells #[.slice none 0 0] 59)).alloc (.cells #[.pointer (some ⟨pp, 0, none⟩)] 30)) (.string s) 9
      rw [s2] at h
      rw [hW]; exact h
  have HI0 := Lib.hid hI0
  have HS := Lib.hid hs
  have HSt := Lib.hid hst
  have HM := Lib.hid (hm.after hbW)
  have HLow := Lib.hid hm.low
  have HBW := Lib.hid hbW
  have HLen := Lib.hid (hl ▸ hlen)
  rw [← hl]
  have HL := Lib.hid hl
  clear hs hst hm hl hI0 hbW hlen
  refine (callsIn_wide (n := 8)).1 ?_
  refine callsIn_of_wp_marks Tryz.func32 rfl trivial ?_ rfl
  simp only [Tryz.ntmps32, List.size_toArray, List.length_cons, List.length_nil, Nat.reduceAdd, Nat.reduceSub, Array.replicate_succ, Array.replicate_zero, List.push_toArray, List.append_toArray, List.nil_append, List.cons_append]
  gi_wp2_with fail
  refine ⟨trivial, ?_⟩
  refine (parts_in pp s _ _).mono ?_
  rintro e w' ⟨rfl, rfl⟩
  gi_wp2_with fail
  rw [← hW]
  clear hW s1 s2
  refine wpIn_rangeFunc_ownH rfl (by decide) (gf := 61) (lb := #[.pointer (some ⟨w.heap.size + 1, 0, none⟩), .pointer (some ⟨w.heap.size + 1 + 1, 0, none⟩)]) rfl trivial (enters_of Tryz.func61 (by kernel_rfl) rfl)
    (parts_stops (8 - 1) (by decide) pp start (w.heap.size + 1) (w.heap.size + 1 + 1) t s ss sv HS.out HSt.out hsz W HM.out HI0.out.bp HI0.out.bs) KeepS.trans (KeepS.put (by
      rintro k (hk | rfl | rfl)
      · have := HLow.out k hk; omega
      · omega
      · omega)) (Below.refl _ _) (fun _ => rfl)
    (fun pre V => AllI V w pp s pre)
    (fun _ _ _ => False)
    (fun _ _ _ _ hs hg hr => hs.grow (by omega) hg hr)
    (fun _ _ _ _ _ hs _ _ => hs)
    HI0.out
    (fun x a' V => a' = { tmps := #[.pointer (some ⟨pp, 0, none⟩), .string s, undef, undef, .slice none 0 0, .pointer (some ⟨w.heap.size, 0, none⟩), .int .i64 (x.1 : Nat), .int .i64 (x.2 : Nat), .pointer (some ⟨pp, 0, none⟩), .string s, .func (.func 61) #[] #[.pointer (some ⟨w.heap.size + 1, 0, none⟩), .pointer (some ⟨w.heap.size + 1 + 1, 0, none⟩)], .int .i64 (x.1 : Nat), .int .i64 (x.2 : Nat), undef, undef, undef, undef, undef, undef, undef], defers := [] })
    (fun _ _ _ _ _ _ hs _ _ => hs) ?assign ?body ?done ?stop
  case assign =>
    intro l' pre x V K hI hK
    have HK := Lib.hid hK
    have HI := Lib.hid hI
    clear hK hI
    gi_wp2
    exact HK.out _ _ (KeepsFrom.refl _ _) (KeepS.refl _ _) HI.out rfl
  case body =>
    rintro l' pre x a' V hl' ⟨r, hr⟩ hI rfl hlt
    obtain ⟨⟨v, hbx, hrow⟩, hbp, hbs, hb⟩ := hI
    have c0 := hbx.cell
    obtain ⟨i0, hi0', hz0, hz1, hz2⟩ := info_parts info_pair3
    have hsv := hb.size
    have hdl : Hid (pre.length + 1 ≤ 1000000000) := Lib.hid (by have := HLen.out; rw [← HL.out] at hlt; omega)
    have HBx := Lib.hid hbx
    have HRow := Lib.hid hrow
    have HBp := Lib.hid hbp
    have HBs := Lib.hid hbs
    have HB := Lib.hid hb
    have HNew : Hid (∀ j u, [Value.int .i64 (x.1 : Nat), .int .i64 (x.2 : Nat)][j]? = some u → (V.alloc (.cells #[.int .i64 (x.1 : Nat), .int .i64 (x.2 : Nat)] 67)).cell? (Addr.add ⟨V.heap.size, 0, none⟩ j) = some u) := Lib.hid (by
      intro j u hj
      have e : (⟨V.heap.size, 0, none⟩ : Addr).add j = ⟨V.heap.size, j, none⟩ := by unfold Addr.add; split <;> simp_all
      rw [e]
      exact (cell_of_row _ _ j _ _ _ (heap_alloc_last V _)).trans (by simpa using hj))
    clear hbx hrow hbp hbs hb
    gi_wp2_with (gi_at_builtin; refine wpListIn_append_own _ rfl _ _ 59 rfl w.heap.size 67 i0 (.agg #[.int .i64 0, .int .i64 0]) 2 16 Tryz.underlying59 hi0' hz0 hz1 hz2 rfl (by decide) _ _ _ rfl (owns_after HRow.out (below_new V _)) ⟨V.heap.size, 0, none⟩ 1 1 [.int .i64 (x.1 : Nat), .int .i64 (x.2 : Nat)] rfl rfl HNew.out ?c1 ?c2 ?c3 ?c4 ?_)
    case c1 => intro u hu; simp at hu; rcases hu with rfl | rfl <;> rfl
    case c2 => have := hdl.out; unfold maxLen; omega
    case c3 => have := hdl.out; omega
    case c4 => rw [World.size_alloc]; omega
    intro v' w1 hown hgrow _
    obtain ⟨gv, cv, rfl⟩ := ownsRow_succ hown
    have hap := HBx.out.appended (by decide) HRow.out hsv (Nat.le_refl _) hown hgrow
    obtain ⟨hb1, hb2, hr2, hko, hbl⟩ := hap
    have z0 := hb1.frozen
    have k0 := hb1.cell
    have HF : Hid (AllI (w1.setCell ⟨w.heap.size, 0, none⟩ (.slice (some ⟨gv, 0, none⟩) (pre.length + 1) cv)) w pp s (pre ++ [x])) := Lib.hid (by
      have other : ∀ {b : Nat} {u : Value} {ty : TypeId}, One V b u ty → ty ≠ 67 → b ≠ w.heap.size → One (w1.setCell ⟨w.heap.size, 0, none⟩ (.slice (some ⟨gv, 0, none⟩) (pre.length + 1) cv)) b u ty := fun h ht hne => by
        have h1 : Boxed w1 _ _ _ := Boxed.kept (Boxed.alloc (show Boxed V _ _ _ from h.row) _) hgrow (Boxed.not_row (show Boxed V _ _ _ from h.row) ht HRow.out)
        exact (One.mk h1).setOther hne 0 _
      refine ⟨⟨_, hb2, by rw [List.length_append, pairs_snoc]; exact hr2⟩, other HBp.out (by decide) (by omega), other HBs.out (by decide) (by omega), HB.out.trans hbl⟩)
    have HKS : Hid (KeepS (PartS pp sv (w.heap.size + 1) (w.heap.size + 1 + 1)) V (w1.setCell ⟨w.heap.size, 0, none⟩ (.slice (some ⟨gv, 0, none⟩) (pre.length + 1) cv))) := Lib.hid ⟨by
      rintro k (hk | rfl | rfl)
      · exact hbl.block k (HLow.out k hk)
      · exact HF.out.bp.row.trans HBp.out.row.symm
      · exact HF.out.bs.row.trans HBs.out.row.symm⟩
    have HKO := Lib.hid hko
    clear hb1 hb2 hr2 hko hbl hown hgrow
    gi_wp2_with fail
    exact ⟨HKO.out.from _, HKS.out, HF.out⟩
  case done =>
    rintro D ys V hD rfl hI hK
    have HD := Lib.hid hK
    obtain ⟨⟨v, hbx, hrow⟩, hbp, hbs, hb⟩ := hI
    have c1 := hbx.cell
    have HI : Hid (AllI V w pp s _) := Lib.hid ⟨⟨v, hbx, hrow⟩, hbp, hbs, hb⟩
    have HRow := Lib.hid hrow
    clear hbx hrow hbp hbs hb hK
    dsimp only
    gi_wp2
    refine ⟨by simp, .inl ⟨_, _, rfl, run_takeDeferred HD.out, ?_⟩⟩
    refine ⟨_, results_tmp rfl _ _ _, ?_⟩
    have hf := HI.out.grow (C := W.heap.size) (by omega) (grownBy_putObj' V D (.deferred none)) (fun r e => by cases e; exact ⟨hD, _, HD.out, rfl⟩)
    refine ⟨v, rfl, ?_, hf.below⟩
    rw [HL.out]
    exact ownsRow_putObj HRow.out _ HD.out rfl
  case stop =>
    rintro D c pre V _ _ h _
    exact h.elim
end Go.Proofs.YtimipfdknfdbdaaGreatDoor
