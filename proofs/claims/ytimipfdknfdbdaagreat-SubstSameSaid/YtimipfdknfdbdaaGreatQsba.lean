/- Merged by program: SLive, SSame, RCan. -/
import Derived.Test.YtimipfdknfdbdaaGreatQsaj
import Derived.Test.YtimipfdknfdbdaaGreatQsax
import Derived.Test.YtimipfdknfdbdaaGreatQsaz
import Derived.Test.YtimipfdknfdbdaaGreatQsar
/- New of a definite pattern; aukletlaw08.lives: a walk. -/
namespace Go.Proofs.YtimipfdknfdbdaaGreat
open Go.RowKit

/-- A pattern that is read as a tree that can be and is not too great. -/
theorem new_yes (s : ByteArray) (t : Tree) (hP : E5.PatternAt s.data.toList t 0) (hg : Good 100 (-1) t) (hg1 : Good 101 (-1) t) (hn : (planN 101 t).n < 500) (hs : s.size ≤ 400) (w : World) :
    Calls Tryz.prog 6 #[.string s] w fun e w' => ∃ pp sv, e = .returned (.tuple #[.pointer (some ⟨pp, 0, none⟩), .int .i64 0, .int .i64 0]) ∧ w.heap.size ≤ pp ∧ PatM w' pp s (machN t).2 sv (machN t).1 ∧ Below w.heap.size w w' := by
  refine (new_gen s (fun u x => u = t ∧ x = 0) (fun b => b = true) w ?_ ?_).mono ?_
  · refine (E5.parse_go s.data.toList t 0 hP (by omega) s rfl hs w).mono ?_
    rintro e w' ⟨ds, rfl, hat, hb⟩
    exact ⟨t, ds, 0, 0, rfl, hat, Lib.hid ⟨rfl, rfl⟩, hb⟩
  · rintro u x ⟨rfl, _⟩ _ rs B W hat
    refine (build_yes u rs B W hat hg hg1 hn).mono ?_
    intro e w' h
    exact ⟨true, rfl, Or.inr (Or.inr ⟨rfl, hn, hg1, h⟩)⟩
  · rintro e w' ⟨u, x, ⟨rfl, rfl⟩, hb, h | h | h⟩
    · exact absurd rfl h.1
    · rcases h.2.1 with h | h
      · exact absurd h (by decide)
      · omega
    · obtain ⟨_, _, _, _, pp, sv, rfl, h1, h2⟩ := h
      exact ⟨pp, sv, rfl, h1, h2, hb⟩

theorem one_fit (within : Int) (c : Nat) : FitT within (E5.oneT c) where
  fits := E5.fits_oneF c
  k0 := by show (0 : Int) ≤ 1; omega
  k6 := by show (1 : Int) ≤ 6; omega
  set := fun h => absurd rfl h
  times := fun _ => ⟨rfl, rfl⟩
  alone := fun _ => rfl
  empty := fun h => by have h' : (1 : Int) = 0 := h; omega
  parts := fun h => by have h' : (1 : Int) = 4 ∨ (1 : Int) = 5 := h; omega
  rep := fun h => by have h' : (1 : Int) = 6 := h; omega
  few := Nat.zero_le _
theorem one_good (n : Nat) (within : Int) (c : Nat) : Good (n + 1) within (E5.oneT c) := ⟨one_fit within c, fun x hx => absurd hx (by simp [E5.oneT, Tree.kids])⟩
theorem patt_one {l : List UInt8} {t : Tree} {m : Nat} (h : E5.BranchAt l t m) (h5 : t.k ≠ 5) : E5.PatternAt l t m := by
  have key : E5.PatternAt ((⟨l, t, m⟩ : E5.Pc).l ++ E5.restAlt []) (E5.joinT 5 ((⟨l, t, m⟩ :: ([] : List E5.Pc)).map (·.t))) (E5.maxN [⟨l, t, m⟩]) := by
    intro s k d p w rest hdrop hrest hs hks hd hr
    refine ⟨fun hn => E5.pattern_walk ⟨l, t, m⟩ [] ⟨h, h5⟩ (fun q hq => absurd hq (by simp)) (by simp) s k d p w rest hdrop hrest hs hks hd hr _ (fun _ _ _ h => h) (fun hb => ?_), fun hn => E5.pattern_walk ⟨l, t, m⟩ [] ⟨h, h5⟩ (fun q hq => absurd hq (by simp)) (by simp) s k d p w rest hdrop hrest hs hks hd hr _ (fun hg => ?_) (fun _ _ _ h => h)⟩
    · obtain ⟨q, hq, hq2⟩ := hb
      have := (E5.maxN_le hd).1 hn q hq
      omega
    · have := (E5.maxN_le hd).2 hg
      omega
  have e1 : (⟨l, t, m⟩ : E5.Pc).l ++ E5.restAlt [] = l := List.append_nil l
  have e2 : E5.maxN [⟨l, t, m⟩] = m := Nat.max_eq_left (Nat.zero_le m)
  rw [e1, e2] at key
  exact key
theorem a_parse : E5.PatternAt [97] (E5.oneT 97) 0 := by
  have p1 : E5.PieceAt [97] (E5.oneT 97) 0 := E5.piece_at [97] (E5.oneT 97) 0 (E5.atom_byte 97 (by decide)) [] (fun x hx => absurd hx (by simp))
  have b1 : E5.BranchAt [97] (E5.oneT 97) 0 := E5.branch_at [⟨[97], E5.oneT 97, 0⟩] (fun x hx => by rw [List.mem_singleton.1 hx]; exact ⟨p1, ⟨97, [], rfl, by decide⟩, by show (1 : Int) ≠ 4; omega, by show (1 : Int) ≠ 0; omega⟩) (by decide)
  exact patt_one b1 (by show (1 : Int) ≠ 5; omega)

def bananaB : ByteArray := ⟨#[98, 97, 110, 97, 110, 97]⟩
theorem a_few : (planN 101 (E5.oneT 97)).n < 500 := by decide +kernel
theorem a_all : allN (longN (machN (E5.oneT 97)).2 (machN (E5.oneT 97)).1 bananaB) 6 = [(1, 2), (3, 4), (5, 6)] := by decide +kernel
theorem a_repl : sRepl [60, 38, 62] [98, 97, 110, 97, 110, 97] [(1, 2), (3, 4), (5, 6)] 0 = [98, 60, 97, 62, 110, 60, 97, 62, 110, 60, 97, 62] := by decide +kernel

set_option maxRecDepth 100000 in
theorem lives8_spec (w : World) :
    Calls Tryz.prog 5 #[] w fun e w' => e = .returned (.bool true) ∧ Below w.heap.size w w' := by
  obtain ⟨okS, okT⟩ := mach_ok (E5.oneT 97) (one_good 100 (-1) 97) a_few
  have HN := Lib.hid (new_yes ⟨#[97]⟩ (E5.oneT 97) a_parse (one_good 99 (-1) 97) (one_good 100 (-1) 97) a_few (by decide) w)
  have HA := Lib.hid (fun pp sv w' (hm : PatM w' pp ⟨#[97]⟩ (machN (E5.oneT 97)).2 sv (machN (E5.oneT 97)).1) => sall_spec pp (machN (E5.oneT 97)).1 ⟨#[97]⟩ ⟨#[60, 38, 62]⟩ ⟨#[98, 97, 110, 97, 110, 97]⟩ (machN (E5.oneT 97)).2 sv okS okT (by decide) (by decide) w' hm [(1, 2), (3, 4), (5, 6)] a_all.symm (by show (sRepl [60, 38, 62] [98, 97, 110, 97, 110, 97] [(1, 2), (3, 4), (5, 6)] 0).length ≤ 70368744177664; rw [a_repl]; decide))
  clear okS okT
  go_enter Tryz.func5, Tryz.ntmps5
  go_wp2_with fail
  refine HN.out.mono ?_
  rintro e w1 ⟨pp, sv, rfl, hpp, hm, b1⟩
  have HA1 := Lib.hid (HA.out pp sv w1 hm)
  have B1 := Lib.hid b1
  clear HN HA hm b1
  go_wp2_with fail
  refine HA1.out.mono ?_
  rintro e w2 ⟨rfl, b2⟩
  have B2 := Lib.hid (Below.step B1.out b2)
  clear b2
  have er : (sRepl (⟨#[60, 38, 62]⟩ : ByteArray).data.toList (⟨#[98, 97, 110, 97, 110, 97]⟩ : ByteArray).data.toList [(1, 2), (3, 4), (5, 6)] 0).toArray = #[98, 60, 97, 62, 110, 60, 97, 62, 110, 60, 97, 62] := by
    show (sRepl [60, 38, 62] [98, 97, 110, 97, 110, 97] [(1, 2), (3, 4), (5, 6)] 0).toArray = _
    rw [a_repl]
  rw [er]
  go_wp2_with fail
  go_ret
  exact ⟨by first | rfl | decide, B2.out⟩
end Go.Proofs.YtimipfdknfdbdaaGreat

/- Parts replaced by themselves, and by two bytes: plain Lean. -/
namespace Go.Proofs.YtimipfdknfdbdaaGreat

theorem sPut_self (part : List UInt8) : sPut part [38] false = part := by
  rw [show sPut part [38] false = part ++ sPut part [] false from if_pos rfl]
  simp [sPut]
theorem sPut_two (part : List UInt8) : sPut part [1, 2] false = [1, 2] := by
  rw [show sPut part [1, 2] false = (if (1 : UInt8) = 38 then _ else if (1 : UInt8) = 92 ∧ _ then _ else _) from rfl, if_neg (by decide), if_neg (by decide)]
  rw [show sPut part [2] false = (if (2 : UInt8) = 38 then _ else if (2 : UInt8) = 92 ∧ _ then _ else _) from rfl, if_neg (by decide), if_neg (by decide)]
  rfl
/-- Parts replaced by themselves leave the text as it is. -/
theorem sRepl_self (s : List UInt8) {n at_ last : Nat} {l : List (Nat × Nat)} (h : Ordered n at_ last l) : sRepl [38] s l at_ = s.drop at_ := by
  induction h with
  | nil => rfl
  | cons at_ last b e l h1 h2 h3 h4 h ih =>
    show (s.drop at_).take (b - at_) ++ (sPut ((s.drop b).take (e - b)) [38] false ++ sRepl [38] s l e) = _
    rw [sPut_self, ih]
    have e1 : (s.drop b).take (e - b) ++ s.drop e = s.drop b := by
      have := List.take_append_drop (e - b) (s.drop b)
      rw [List.drop_drop, show b + (e - b) = e by omega] at this
      exact this
    have e2 := List.take_append_drop (b - at_) (s.drop at_)
    rw [List.drop_drop, show at_ + (b - at_) = b by omega] at e2
    rw [e1, e2]

/-- How often 1, 2 stands in it. -/
def cnt12 : List UInt8 → Nat
  | [] => 0
  | c :: r => (if c = 1 ∧ r.head? = some 2 then 1 else 0) + cnt12 r
theorem cnt12_none (u v : List UInt8) (h : ∀ c, c ∈ u → c ≠ 1) : cnt12 (u ++ v) = cnt12 v := by
  induction u with
  | nil => rfl
  | cons c r ih =>
    show (if c = 1 ∧ _ then 1 else 0) + cnt12 (r ++ v) = _
    rw [if_neg (fun e => h c (by simp) e.1), ih (fun d hd => h d (by simp [hd])), Nat.zero_add]
theorem cnt12_two (v : List UInt8) : cnt12 ([1, 2] ++ v) = 1 + cnt12 v := by
  show (if (1 : UInt8) = 1 ∧ (2 :: v).head? = some 2 then 1 else 0) + ((if (2 : UInt8) = 1 ∧ _ then 1 else 0) + cnt12 v) = _
  rw [if_pos ⟨rfl, rfl⟩, if_neg (fun h => absurd h.1 (by decide)), Nat.zero_add]
theorem cnt12_repl (s : List UInt8) (hs : ∀ c, c ∈ s → c ≠ 1) (l : List (Nat × Nat)) : ∀ at_, cnt12 (sRepl [1, 2] s l at_) = l.length := by
  induction l with
  | nil =>
    intro at_
    have := cnt12_none (s.drop at_) [] (fun c hc => hs c (List.mem_of_mem_drop hc))
    rw [List.append_nil] at this
    exact this
  | cons x l ih =>
    intro at_
    show cnt12 ((s.drop at_).take (x.1 - at_) ++ (sPut ((s.drop x.1).take (x.2 - x.1)) [1, 2] false ++ sRepl [1, 2] s l x.2)) = _
    rw [cnt12_none _ _ (fun c hc => hs c (List.mem_of_mem_drop (List.mem_of_mem_take hc))), sPut_two, cnt12_two, ih, List.length_cons]
    omega
/-- How long a text is with parts replaced by texts of at most so many bytes. -/
theorem sRepl_len (by_ s : List UInt8) (m : Nat) (hm : ∀ part : List UInt8, part.length ≤ s.length → (sPut part by_ false).length ≤ m) (l : List (Nat × Nat)) : ∀ at_, (sRepl by_ s l at_).length ≤ (l.length + 1) * (s.length + m) := by
  induction l with
  | nil =>
    intro at_
    show (s.drop at_).length ≤ _
    rw [List.length_drop]
    simp only [List.length_nil, Nat.zero_add, Nat.one_mul]
    omega
  | cons x l ih =>
    intro at_
    show ((s.drop at_).take (x.1 - at_) ++ (sPut ((s.drop x.1).take (x.2 - x.1)) by_ false ++ sRepl by_ s l x.2)).length ≤ _
    have h1 := ih x.2
    have h2 := hm ((s.drop x.1).take (x.2 - x.1)) (by rw [List.length_take, List.length_drop]; omega)
    have h3 : ((s.drop at_).take (x.1 - at_)).length ≤ s.length := by rw [List.length_take, List.length_drop]; omega
    rw [List.length_append, List.length_append, List.length_cons, show (l.length + 1 + 1) * (s.length + m) = (l.length + 1) * (s.length + m) + (s.length + m) from Nat.succ_mul _ _]
    omega
theorem cnt12_drop (b : List UInt8) (i : Nat) (hi : i + 1 < b.length) : cnt12 (b.drop i) = (if b[i] = 1 ∧ b[i + 1] = 2 then 1 else 0) + cnt12 (b.drop (i + 1)) := by
  rw [List.drop_eq_getElem_cons (show i < b.length by omega)]
  show (if b[i] = 1 ∧ (b.drop (i + 1)).head? = some 2 then 1 else 0) + _ = _
  have e : (b.drop (i + 1)).head? = some b[i + 1] := by rw [List.drop_eq_getElem_cons hi]; rfl
  rw [e]
  simp
theorem cnt12_end (b : List UInt8) (i : Nat) (hi : b.length ≤ i + 1) : cnt12 (b.drop i) = 0 := by
  rcases Nat.lt_or_ge i b.length with h | h
  · rw [List.drop_eq_getElem_cons h, List.drop_eq_nil_of_le hi]
    show (if _ ∧ ([] : List UInt8).head? = some 2 then 1 else 0) + 0 = 0
    rw [if_neg (by simp)]
  · rw [List.drop_eq_nil_of_le h]
    rfl
end Go.Proofs.YtimipfdknfdbdaaGreat

/- aukletref05.Can at a tree that was read: an answer (made by gen_rcan.py). -/
namespace Go.Proofs.YtimipfdknfdbdaaGreat
open Go.RowKit

def RAns (w : World) (e : Ending) (w' : World) : Prop := ∃ b : Bool, e = .returned (.bool b) ∧ Below w.heap.size w w'
def RCansAt (n : Nat) : Prop :=
  ∀ (within : Int) (t : Tree) (cs : Array Value) (S : Nat → Prop) (deep : Nat) (w : World), At w S t cs → Fine within t → deep + n = 101 →
    Calls Tryz.prog 46 #[.agg cs, .int .i64 within, .int .i64 deep] w (RAns w)

set_option maxRecDepth 100000 in
set_option maxHeartbeats 4000000 in
theorem rcan_0 (within : Int) (f : Nat → Nat) (a : Option Addr) (c deep : Nat) (w : World) (HZ : Hid (∀ i, i < 4 → f i = zero4 i)) (hw : within ≠ 4) (hdeep : deep ≤ 100) :
    Calls Tryz.prog 46 #[.agg (reC 0 f 0 0 (.slice a 0 c)), .int .i64 within, .int .i64 deep] w (RAns w) := by
  have hq : ∀ w, (Op.equalIn 10000 35 (.agg #[.int .u64 (f 0), .int .u64 (f 1), .int .u64 (f 2), .int .u64 (f 3)]) (.agg #[.int .u64 0, .int .u64 0, .int .u64 0, .int .u64 0])).run Tryz.prog w = .ok true w :=
    fun w => equal_words f zero4 w true ⟨fun _ i hi => HZ.out i hi, fun _ => rfl⟩
  have nw : (within == 4) = false := beq_eq_false_iff_ne.2 hw
  go_enter Tryz.func46, Tryz.ntmps46
  go_upto_region 1 with (fail)
  obtain ⟨W, hW, hX, hB, _⟩ := re_box w (reC 0 f 0 0 (.slice a 0 c))
  rw [← hW]
  clear hW
  obtain ⟨c0, c1, c2, c3, c4, c5, c6, c7⟩ := eight_re hX.out.eight
  go_wp2_with fail
  refine wp_loop_rounds 1 ?_
  rw [rounds_succ]
  go_wp2_with fail
  go_ret
  exact ⟨true, rfl, hB.out⟩

set_option maxRecDepth 100000 in
set_option maxHeartbeats 4000000 in
theorem rcan_1 (within : Int) (f : Nat → Nat) (a : Option Addr) (c deep : Nat) (w : World) (hdeep : deep ≤ 100) :
    Calls Tryz.prog 46 #[.agg (reC 1 f 0 0 (.slice a 0 c)), .int .i64 within, .int .i64 deep] w (RAns w) := by
  go_enter Tryz.func46, Tryz.ntmps46
  go_upto_region 1 with (fail)
  obtain ⟨W, hW, hX, hB, _⟩ := re_box w (reC 1 f 0 0 (.slice a 0 c))
  rw [← hW]
  clear hW
  obtain ⟨c0, c1, c2, c3, c4, c5, c6, c7⟩ := eight_re hX.out.eight
  go_wp2_with fail
  refine wp_loop_rounds 1 ?_
  rw [rounds_succ]
  go_wp2_with fail
  go_ret
  exact ⟨true, rfl, hB.out⟩

set_option maxRecDepth 100000 in
set_option maxHeartbeats 4000000 in
theorem rcan_2 (within : Int) (f : Nat → Nat) (a : Option Addr) (c deep : Nat) (w : World) (HZ : Hid (∀ i, i < 4 → f i = zero4 i)) (hdeep : deep ≤ 100) :
    Calls Tryz.prog 46 #[.agg (reC 2 f 0 0 (.slice a 0 c)), .int .i64 within, .int .i64 deep] w (RAns w) := by
  have hq : ∀ w, (Op.equalIn 10000 35 (.agg #[.int .u64 (f 0), .int .u64 (f 1), .int .u64 (f 2), .int .u64 (f 3)]) (.agg #[.int .u64 0, .int .u64 0, .int .u64 0, .int .u64 0])).run Tryz.prog w = .ok true w :=
    fun w => equal_words f zero4 w true ⟨fun _ i hi => HZ.out i hi, fun _ => rfl⟩
  go_enter Tryz.func46, Tryz.ntmps46
  go_upto_region 1 with (fail)
  obtain ⟨W, hW, hX, hB, _⟩ := re_box w (reC 2 f 0 0 (.slice a 0 c))
  rw [← hW]
  clear hW
  obtain ⟨c0, c1, c2, c3, c4, c5, c6, c7⟩ := eight_re hX.out.eight
  go_wp2_with fail
  refine wp_loop_rounds 1 ?_
  rw [rounds_succ]
  go_wp2_with fail
  go_ret
  exact ⟨true, rfl, hB.out⟩

set_option maxRecDepth 100000 in
set_option maxHeartbeats 4000000 in
theorem rcan_3 (within : Int) (f : Nat → Nat) (a : Option Addr) (c deep : Nat) (w : World) (HZ : Hid (∀ i, i < 4 → f i = zero4 i)) (hdeep : deep ≤ 100) :
    Calls Tryz.prog 46 #[.agg (reC 3 f 0 0 (.slice a 0 c)), .int .i64 within, .int .i64 deep] w (RAns w) := by
  have hq : ∀ w, (Op.equalIn 10000 35 (.agg #[.int .u64 (f 0), .int .u64 (f 1), .int .u64 (f 2), .int .u64 (f 3)]) (.agg #[.int .u64 0, .int .u64 0, .int .u64 0, .int .u64 0])).run Tryz.prog w = .ok true w :=
    fun w => equal_words f zero4 w true ⟨fun _ i hi => HZ.out i hi, fun _ => rfl⟩
  go_enter Tryz.func46, Tryz.ntmps46
  go_upto_region 1 with (fail)
  obtain ⟨W, hW, hX, hB, _⟩ := re_box w (reC 3 f 0 0 (.slice a 0 c))
  rw [← hW]
  clear hW
  obtain ⟨c0, c1, c2, c3, c4, c5, c6, c7⟩ := eight_re hX.out.eight
  go_wp2_with fail
  refine wp_loop_rounds 1 ?_
  rw [rounds_succ]
  go_wp2_with fail
  go_ret
  exact ⟨true, rfl, hB.out⟩

set_option maxRecDepth 100000 in
set_option maxHeartbeats 8000000 in
theorem rcan_4 (n : Nat) (HI : Hid (RCansAt n)) (within : Int) (f : Nat → Nat) (l : List Tree) (a : Option Addr) (c : Nat) (S : Nat → Prop) (deep : Nat) (w : World) (hsl : SlAt w S l (.slice a l.length c)) (HZ : Hid (∀ i, i < 4 → f i = zero4 i)) (HK : Hid (∀ x, x ∈ l → Fine 4 x)) (hw : 4 ≠ within) (h2 : 2 ≤ l.length) (hl : l.length ≤ 1000000) (hd : deep + (n + 1) = 101) :
    Calls Tryz.prog 46 #[.agg (reC 4 f 0 0 (.slice a l.length c)), .int .i64 within, .int .i64 deep] w (RAns w) := by
  have hdeep : deep ≤ 100 := by omega
  have hq : ∀ w, (Op.equalIn 10000 35 (.agg #[.int .u64 (f 0), .int .u64 (f 1), .int .u64 (f 2), .int .u64 (f 3)]) (.agg #[.int .u64 0, .int .u64 0, .int .u64 0, .int .u64 0])).run Tryz.prog w = .ok true w :=
    fun w => equal_words f zero4 w true ⟨fun _ i hi => HZ.out i hi, fun _ => rfl⟩
  have nw : ((4 : Int) == within) = false := beq_eq_false_iff_ne.2 hw
  go_enter Tryz.func46, Tryz.ntmps46
  go_upto_region 1 with (fail)
  obtain ⟨W, hW, hX, hB, _⟩ := re_box w (reC 4 f 0 0 (.slice a l.length c))
  rw [← hW]
  clear hW
  have S1 := Lib.hid (hsl.after hB.out)
  clear hsl
  obtain ⟨c0, c1, c2, c3, c4, c5, c6, c7⟩ := eight_re hX.out.eight
  go_wp2_with fail
  go_loopw [8] (fun y wr => ∃ i : Nat, y = .int .i64 i ∧ i ≤ l.length ∧ Hid (Below W.heap.size W wr)) (fun y _ => l.length - (intOf y).toNat)
  case atStart => exact ⟨0, rfl, by omega, Lib.hid (Below.refl _ _)⟩
  case round =>
    obtain ⟨i, rfl, hi', hb⟩ := hrel
    clear c0 c1 c2 c3 c4 c5 c6 c7
    have X1 := Lib.hid (hX.out.after hb.out)
    obtain ⟨c0, c1, c2, c3, c4, c5, c6, c7⟩ := eight_re X1.out.eight
    by_cases hgo : i < l.length
    · rcases S1.out with ⟨e, _⟩ | ⟨hl', b, off, c', cs, e, hc, hBb, h8, hat⟩
      · first | exact absurd e (by simp) | (rw [e] at hgo; exact absurd hgo (by simp))
      · simp only [Value.slice.injEq] at e
        obtain ⟨rfl, _, rfl⟩ := e
        have hT := hat i hgo
        have hT' := hT.after hb.out
        obtain ⟨ai, ci, e, _⟩ := hT.opens
        have h8i := (h8 i hgo).after hT.size hb.out
        rw [e] at h8i hT'
        obtain ⟨d0, d1, d2, d3, d4, d5, d6, d7⟩ := eight_re h8i
        have HC := Lib.hid (HI.out 4 l[i] _ S (deep + 1) _ hT' (HK.out _ (List.getElem_mem hgo)) (by omega))
        have hcl : l.length ≤ c := hc
        clear e hT hT' h8 hat h8i hc
        go_wp2_with fail
        refine HC.out.mono ?_
        rintro e w2 ⟨v, rfl, b2⟩
        have B2 := Lib.hid (Below.step hb.out b2)
        clear b2
        cases v with
        | false =>
          go_wp2_with fail
          go_ret
          exact ⟨false, rfl, Below.step hB.out B2.out⟩
        | true =>
          go_wp2_with fail
          go_roundw
          case rel => exact ⟨i + 1, by go_num, by omega, B2⟩
          case measure => simp [intOf]; omega
    · go_wp2_with fail
      go_ret
      exact ⟨true, rfl, Below.step hB.out hb.out⟩

set_option maxRecDepth 100000 in
set_option maxHeartbeats 8000000 in
theorem rcan_5 (n : Nat) (HI : Hid (RCansAt n)) (within : Int) (f : Nat → Nat) (l : List Tree) (a : Option Addr) (c : Nat) (S : Nat → Prop) (deep : Nat) (w : World) (hsl : SlAt w S l (.slice a l.length c)) (HZ : Hid (∀ i, i < 4 → f i = zero4 i)) (HK : Hid (∀ x, x ∈ l → Fine 5 x)) (hw : 5 ≠ within) (h2 : 2 ≤ l.length) (hl : l.length ≤ 1000000) (hd : deep + (n + 1) = 101) :
    Calls Tryz.prog 46 #[.agg (reC 5 f 0 0 (.slice a l.length c)), .int .i64 within, .int .i64 deep] w (RAns w) := by
  have hdeep : deep ≤ 100 := by omega
  have hq : ∀ w, (Op.equalIn 10000 35 (.agg #[.int .u64 (f 0), .int .u64 (f 1), .int .u64 (f 2), .int .u64 (f 3)]) (.agg #[.int .u64 0, .int .u64 0, .int .u64 0, .int .u64 0])).run Tryz.prog w = .ok true w :=
    fun w => equal_words f zero4 w true ⟨fun _ i hi => HZ.out i hi, fun _ => rfl⟩
  have nw : ((5 : Int) == within) = false := beq_eq_false_iff_ne.2 hw
  go_enter Tryz.func46, Tryz.ntmps46
  go_upto_region 1 with (fail)
  obtain ⟨W, hW, hX, hB, _⟩ := re_box w (reC 5 f 0 0 (.slice a l.length c))
  rw [← hW]
  clear hW
  have S1 := Lib.hid (hsl.after hB.out)
  clear hsl
  obtain ⟨c0, c1, c2, c3, c4, c5, c6, c7⟩ := eight_re hX.out.eight
  go_wp2_with fail
  go_loopw [8] (fun y wr => ∃ i : Nat, y = .int .i64 i ∧ i ≤ l.length ∧ Hid (Below W.heap.size W wr)) (fun y _ => l.length - (intOf y).toNat)
  case atStart => exact ⟨0, rfl, by omega, Lib.hid (Below.refl _ _)⟩
  case round =>
    obtain ⟨i, rfl, hi', hb⟩ := hrel
    clear c0 c1 c2 c3 c4 c5 c6 c7
    have X1 := Lib.hid (hX.out.after hb.out)
    obtain ⟨c0, c1, c2, c3, c4, c5, c6, c7⟩ := eight_re X1.out.eight
    by_cases hgo : i < l.length
    · rcases S1.out with ⟨e, _⟩ | ⟨hl', b, off, c', cs, e, hc, hBb, h8, hat⟩
      · first | exact absurd e (by simp) | (rw [e] at hgo; exact absurd hgo (by simp))
      · simp only [Value.slice.injEq] at e
        obtain ⟨rfl, _, rfl⟩ := e
        have hT := hat i hgo
        have hT' := hT.after hb.out
        obtain ⟨ai, ci, e, _⟩ := hT.opens
        have h8i := (h8 i hgo).after hT.size hb.out
        rw [e] at h8i hT'
        obtain ⟨d0, d1, d2, d3, d4, d5, d6, d7⟩ := eight_re h8i
        have HC := Lib.hid (HI.out 5 l[i] _ S (deep + 1) _ hT' (HK.out _ (List.getElem_mem hgo)) (by omega))
        have hcl : l.length ≤ c := hc
        clear e hT hT' h8 hat h8i hc
        go_wp2_with fail
        refine HC.out.mono ?_
        rintro e w2 ⟨v, rfl, b2⟩
        have B2 := Lib.hid (Below.step hb.out b2)
        clear b2
        cases v with
        | false =>
          go_wp2_with fail
          go_ret
          exact ⟨false, rfl, Below.step hB.out B2.out⟩
        | true =>
          go_wp2_with fail
          go_roundw
          case rel => exact ⟨i + 1, by go_num, by omega, B2⟩
          case measure => simp [intOf]; omega
    · go_wp2_with fail
      go_ret
      exact ⟨true, rfl, Below.step hB.out hb.out⟩

set_option maxRecDepth 100000 in
set_option maxHeartbeats 8000000 in
theorem rcan_6 (n : Nat) (HI : Hid (RCansAt n)) (within : Int) (f : Nat → Nat) (l : List Tree) (a : Option Addr) (c : Nat) (S : Nat → Prop) (deep : Nat) (w : World) (hsl : SlAt w S l (.slice a l.length c)) (HZ : Hid (∀ i, i < 4 → f i = zero4 i)) (HK : Hid (∀ x, x ∈ l → Fine 6 x)) (lo hi : Int) (hl1 : l.length = 1) (h0 : 0 ≤ lo) (h50 : lo ≤ 50) (hh : hi = -1 ∨ (lo ≤ hi ∧ hi ≤ 50)) (hd : deep + (n + 1) = 101) :
    Calls Tryz.prog 46 #[.agg (reC 6 f lo hi (.slice a l.length c)), .int .i64 within, .int .i64 deep] w (RAns w) := by
  have hdeep : deep ≤ 100 := by omega
  have hq : ∀ w, (Op.equalIn 10000 35 (.agg #[.int .u64 (f 0), .int .u64 (f 1), .int .u64 (f 2), .int .u64 (f 3)]) (.agg #[.int .u64 0, .int .u64 0, .int .u64 0, .int .u64 0])).run Tryz.prog w = .ok true w :=
    fun w => equal_words f zero4 w true ⟨fun _ i hi => HZ.out i hi, fun _ => rfl⟩
  have HL1 := Lib.hid hl1
  have hne : ((l.length : Int) != 1) = false := by rw [hl1]; rfl
  have hl : l.length ≤ 1000000 := by omega
  clear hl1
  go_enter Tryz.func46, Tryz.ntmps46
  go_upto_region 1 with (fail)
  obtain ⟨W, hW, hX, hB, _⟩ := re_box w (reC 6 f lo hi (.slice a l.length c))
  rw [← hW]
  clear hW
  have S1 := Lib.hid (hsl.after hB.out)
  clear hsl
  obtain ⟨c0, c1, c2, c3, c4, c5, c6, c7⟩ := eight_re hX.out.eight
  rcases hh with rfl | ⟨hh1, hh2⟩
  · go_wp2_with fail
    go_loopw [8] (fun y wr => ∃ i : Nat, y = .int .i64 i ∧ i ≤ l.length ∧ Hid (Below W.heap.size W wr)) (fun y _ => l.length - (intOf y).toNat)
    case atStart => exact ⟨0, rfl, by omega, Lib.hid (Below.refl _ _)⟩
    case round =>
      obtain ⟨i, rfl, hi', hb⟩ := hrel
      clear c0 c1 c2 c3 c4 c5 c6 c7
      have X1 := Lib.hid (hX.out.after hb.out)
      obtain ⟨c0, c1, c2, c3, c4, c5, c6, c7⟩ := eight_re X1.out.eight
      by_cases hgo : i < l.length
      · rcases S1.out with ⟨e, _⟩ | ⟨hl', b, off, c', cs, e, hc, hBb, h8, hat⟩
        · first | exact absurd e (by simp) | (rw [e] at hgo; exact absurd hgo (by simp))
        · simp only [Value.slice.injEq] at e
          obtain ⟨rfl, _, rfl⟩ := e
          have hT := hat i hgo
          have hT' := hT.after hb.out
          obtain ⟨ai, ci, e, _⟩ := hT.opens
          have h8i := (h8 i hgo).after hT.size hb.out
          rw [e] at h8i hT'
          obtain ⟨d0, d1, d2, d3, d4, d5, d6, d7⟩ := eight_re h8i
          have HC := Lib.hid (HI.out 6 l[i] _ S (deep + 1) _ hT' (HK.out _ (List.getElem_mem hgo)) (by omega))
          have hcl : l.length ≤ c := hc
          clear e hT hT' h8 hat h8i hc
          go_wp2_with fail
          refine HC.out.mono ?_
          rintro e w2 ⟨v, rfl, b2⟩
          have B2 := Lib.hid (Below.step hb.out b2)
          clear b2
          cases v with
          | false =>
            go_wp2_with fail
            go_ret
            exact ⟨false, rfl, Below.step hB.out B2.out⟩
          | true =>
            go_wp2_with fail
            go_roundw
            case rel => exact ⟨i + 1, by go_num, by omega, B2⟩
            case measure => simp [intOf]; omega
      · go_wp2_with fail
        go_ret
        exact ⟨true, rfl, Below.step hB.out hb.out⟩
  · have nh : ¬ hi < lo := by omega
    go_wp2_with fail
    go_loopw [8] (fun y wr => ∃ i : Nat, y = .int .i64 i ∧ i ≤ l.length ∧ Hid (Below W.heap.size W wr)) (fun y _ => l.length - (intOf y).toNat)
    case atStart => exact ⟨0, rfl, by omega, Lib.hid (Below.refl _ _)⟩
    case round =>
      obtain ⟨i, rfl, hi', hb⟩ := hrel
      clear c0 c1 c2 c3 c4 c5 c6 c7
      have X1 := Lib.hid (hX.out.after hb.out)
      obtain ⟨c0, c1, c2, c3, c4, c5, c6, c7⟩ := eight_re X1.out.eight
      by_cases hgo : i < l.length
      · rcases S1.out with ⟨e, _⟩ | ⟨hl', b, off, c', cs, e, hc, hBb, h8, hat⟩
        · first | exact absurd e (by simp) | (rw [e] at hgo; exact absurd hgo (by simp))
        · simp only [Value.slice.injEq] at e
          obtain ⟨rfl, _, rfl⟩ := e
          have hT := hat i hgo
          have hT' := hT.after hb.out
          obtain ⟨ai, ci, e, _⟩ := hT.opens
          have h8i := (h8 i hgo).after hT.size hb.out
          rw [e] at h8i hT'
          obtain ⟨d0, d1, d2, d3, d4, d5, d6, d7⟩ := eight_re h8i
          have HC := Lib.hid (HI.out 6 l[i] _ S (deep + 1) _ hT' (HK.out _ (List.getElem_mem hgo)) (by omega))
          have hcl : l.length ≤ c := hc
          clear e hT hT' h8 hat h8i hc
          go_wp2_with fail
          refine HC.out.mono ?_
          rintro e w2 ⟨v, rfl, b2⟩
          have B2 := Lib.hid (Below.step hb.out b2)
          clear b2
          cases v with
          | false =>
            go_wp2_with fail
            go_ret
            exact ⟨false, rfl, Below.step hB.out B2.out⟩
          | true =>
            go_wp2_with fail
            go_roundw
            case rel => exact ⟨i + 1, by go_num, by omega, B2⟩
            case measure => simp [intOf]; omega
      · go_wp2_with fail
        go_ret
        exact ⟨true, rfl, Below.step hB.out hb.out⟩

set_option maxRecDepth 100000 in
theorem rcan_any (n : Nat) : RCansAt n := by
  induction n with
  | zero =>
    intro within t cs S deep w h _ hd
    obtain ⟨a, c, rfl, _⟩ := h.opens
    have hd' : 100 < deep := by omega
    clear h
    go_enter Tryz.func46, Tryz.ntmps46
    go_upto_region 1 with (fail)
    obtain ⟨W, hW, hX, hB, _⟩ := re_box w (reC t.k t.f t.lo t.hi (.slice a t.kids.length c))
    rw [← hW]
    clear hW
    obtain ⟨c0, c1, c2, c3, c4, c5, c6, c7⟩ := eight_re hX.out.eight
    go_wp2_with fail
    go_ret
    exact ⟨false, rfl, hB.out⟩
  | succ n ih =>
    intro within t cs S deep w h hf hd
    have HI := Lib.hid ih; clear ih
    have hdeep : deep ≤ 100 := by omega
    obtain ⟨sl, rfl, hsl⟩ := h.open
    obtain ⟨a, c, rfl⟩ := hsl.shape
    clear h
    have ft := hf.fit
    have HK := Lib.hid hf.kid
    clear hf
    obtain ⟨k, f, lo, hi, l⟩ := t
    simp only [Tree.k, Tree.f, Tree.lo, Tree.hi, Tree.kids] at HK hsl ⊢
    have h0 : (0 : Int) ≤ k := ft.k0
    have h6 : k ≤ 6 := ft.k6
    have hz : k ≠ 1 → Hid (∀ i, i < 4 → f i = zero4 i) := fun h => Lib.hid (fun i hi => ft.set h i hi)
    have ht : k ≠ 6 → lo = 0 ∧ hi = 0 := ft.times
    have hal : k < 4 → l = [] := ft.alone
    have hpt : k = 4 ∨ k = 5 → k ≠ within ∧ 2 ≤ l.length := ft.parts
    have hem : k = 0 → within ≠ 4 := ft.empty
    have hrp : k = 6 → l.length = 1 ∧ 0 ≤ lo ∧ lo ≤ 50 ∧ (hi = -1 ∨ (lo ≤ hi ∧ hi ≤ 50)) := ft.rep
    have hfew : l.length ≤ 1000000 := ft.few
    have kk : k = 0 ∨ k = 1 ∨ k = 2 ∨ k = 3 ∨ k = 4 ∨ k = 5 ∨ k = 6 := by omega
    rcases kk with rfl | rfl | rfl | rfl | rfl | rfl | rfl
    · obtain ⟨rfl, rfl⟩ := ht (by omega); obtain rfl := hal (by omega); exact rcan_0 within f a c deep w (hz (by omega)) (hem rfl) hdeep
    · obtain ⟨rfl, rfl⟩ := ht (by omega); obtain rfl := hal (by omega); exact rcan_1 within f a c deep w hdeep
    · obtain ⟨rfl, rfl⟩ := ht (by omega); obtain rfl := hal (by omega); exact rcan_2 within f a c deep w (hz (by omega)) hdeep
    · obtain ⟨rfl, rfl⟩ := ht (by omega); obtain rfl := hal (by omega); exact rcan_3 within f a c deep w (hz (by omega)) hdeep
    · obtain ⟨rfl, rfl⟩ := ht (by omega); exact rcan_4 n HI within f l a c S deep w hsl (hz (by omega)) HK (hpt (Or.inl rfl)).1 (hpt (Or.inl rfl)).2 hfew hd
    · obtain ⟨rfl, rfl⟩ := ht (by omega); exact rcan_5 n HI within f l a c S deep w hsl (hz (by omega)) HK (hpt (Or.inr rfl)).1 (hpt (Or.inr rfl)).2 hfew hd
    · obtain ⟨r1, r2, r3, r4⟩ := hrp rfl; exact rcan_6 n HI within f l a c S deep w hsl (hz (by omega)) HK lo hi r1 r2 r3 r4 hd
end Go.Proofs.YtimipfdknfdbdaaGreat
