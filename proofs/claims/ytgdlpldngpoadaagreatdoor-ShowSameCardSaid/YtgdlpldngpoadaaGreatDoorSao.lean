/- Merged by program: LexP, LexWo, LexE. -/
import Derived.Deep.LoopGhost
import Derived.Outline
import Derived.Test.YtgdlpldngpoadaaGreatDoorSan
/- open, next, meant: walks. -/
namespace Go.Proofs.YtgdlpldngpoadaaGreatDoor
open Go.RowKit

theorem emp_of {s : ByteArray} (h : s.size = 0) : s.toList = [] ∧ s.toList.isEmpty = true ∧ (!s.toList.isEmpty) = false := by
  have e0 : s.toList = [] := by
    rw [Lib.toList_data]
    exact List.eq_nil_of_length_eq_zero (by rw [← Lib.size_eq]; exact h)
  rw [e0]
  exact ⟨rfl, rfl, rfl⟩
theorem ne_of {s : ByteArray} (h : 0 < s.size) : s.toList.isEmpty = false ∧ (!s.toList.isEmpty) = true := by
  have e : s.toList.isEmpty = false := by
    rw [Lib.toList_data]
    cases hl : s.data.toList with
    | nil => rw [Lib.size_eq, hl] at h; simp at h
    | cons a l => rfl
  rw [e]
  exact ⟨rfl, rfl⟩
theorem head_of {t : ByteArray} {c : UInt8} {r : List UInt8} (h : t.data.toList = c :: r) : ∃ h0 : 0 < t.size, t[0] = c := by
  have hl : t.data.toList.length = t.size := by simp
  have h0 : 0 < t.size := by rw [← hl, h]; simp
  refine ⟨h0, ?_⟩
  have : t.data.toList[0]? = some t[0] := by rw [List.getElem?_eq_getElem (by omega)]; rfl
  rw [h] at this
  simpa using this.symm
theorem drop_lt {s : ByteArray} {k : Nat} {c : UInt8} {r : List UInt8} (h : s.data.toList.drop k = c :: r) : k < s.size := by
  rcases Nat.lt_or_ge k s.size with h' | h'
  · exact h'
  · rw [List.drop_eq_nil_of_le (by simpa using h')] at h
    exact absurd h (by simp)
theorem drop_tail {s : ByteArray} {k : Nat} {c : UInt8} {r : List UInt8} (h : s.data.toList.drop k = c :: r) : s.data.toList.drop (k + 1) = r := by
  rw [← List.drop_drop, h]
  rfl

def OpenAt (p : Nat) (s : ByteArray) (k : Nat) (L : Tok) (w : World) (e : Ending) (w' : World) : Prop :=
  e = .returned (.pointer (some ⟨w.heap.size, 0, none⟩)) ∧ Qd w.heap.size w.heap.size p k [] w' ∧ Rd w' p s (k + 1) L ∧ But p w w' ∧ w.heap.size < w'.heap.size
set_option maxRecDepth 100000 in
theorem open_spec (p : Nat) (s : ByteArray) (k : Nat) (L : Tok) (w : World) (h : Rd w p s k L) (hk : k ≤ s.size) (hs : s.size ≤ 8000) :
    Calls Tryz.prog 180 #[.pointer (some ⟨p, 0, none⟩)] w (OpenAt p s k L w) := by
  have c1 := h.c1
  have hlt := h.lt
  have R := Lib.hid h; clear h
  go_enter Tryz.func180, Tryz.ntmps180
  go_upto_region 2 with (fail)
  obtain ⟨W, hW, R1, Q1, B1, hsz⟩ : ∃ W, W = w.alloc (.cells #[.pointer (some ⟨p, 0, none⟩), .int .i64 k, .pointer none, .slice none 0 0] 164) ∧ Hid (Rd W p s k L) ∧ Hid (Qd w.heap.size w.heap.size p k [] W) ∧ Hid (Below w.heap.size w W) ∧ W.heap.size = w.heap.size + 1 :=
    ⟨_, rfl, Lib.hid (R.out.after (below_new w _)), Lib.hid ⟨_, _, Or.inl rfl, Nat.le_refl _, by rw [World.size_alloc]; omega, heap_alloc_last w _, World.ownsRowF_nil _ _ _ _, fun _ => rfl⟩, Lib.hid (below_new w _), World.size_alloc _ _⟩
  change Code.wp _ _ _ _ (w.alloc (Obj.cells #[.pointer (some ⟨p, 0, none⟩), .int .i64 k, .pointer none, .slice none 0 0] 164))
  rw [← hW]
  have HS := Lib.hid hsz
  clear hW c1 hsz
  have c1 := R1.out.c1
  have z1 := R1.out.z 1
  go_wp2_with fail
  go_ret
  exact ⟨rfl, Q1.out.keep (but_put W p 1 _) hlt, R1.out.put1 (k + 1), (But.of B1.out).put 1 _, by rw [World.size_setCell, HS.out]; omega⟩

def NextAt (B g p : Nat) (b0 : Nat) (l : List UInt8) (s : ByteArray) (k : Nat) (L : Tok) (c : UInt8) (w : World) (e : Ending) (w' : World) : Prop :=
  e = .returned (.int .u8 c.toNat) ∧ Qd B g p b0 l w' ∧ Rd w' p s (k + 1) L ∧ But p w w'
set_option maxRecDepth 100000 in
theorem next_go (B g p b0 : Nat) (l : List UInt8) (s : ByteArray) (k : Nat) (L : Tok) (c : UInt8) (r : List UInt8) (w : World) (hQ : Qd B g p b0 l w) (hR : Rd w p s k L) (hp : p < B) (hd : s.data.toList.drop k = c :: r) (hc : c.toNat ≠ 10) (hs : s.size ≤ 8000) :
    Calls Tryz.prog 181 #[.pointer (some ⟨g, 0, none⟩)] w (NextAt B g p b0 l s k L c w) := by
  have hk := drop_lt hd
  have HL := Lib.hid (fun w h => left_spec p s k L w h (by omega))
  have Q := Lib.hid hQ
  have R := Lib.hid hR
  have HD := Lib.hid hd
  obtain ⟨_, _, _, hV⟩ := hQ
  have c0 := hV.c0
  have HV := Lib.hid hV
  clear hR hd hV
  go_enter Tryz.func181, Tryz.ntmps181
  go_wp2_with fail
  refine (HL.out _ R.out).mono ?_
  rintro e w1 ⟨t, rfl, ht, hsz, n, rfl⟩
  obtain ⟨h0, e0⟩ := head_of (ht.out.trans HD.out)
  obtain ⟨ne1, ne2⟩ := ne_of h0
  have hb : ((t[0].toNat : Int) == 10) = false := by rw [e0]; simp; omega
  have R1 := Lib.hid (R.out.drewN n)
  have Q1 := Lib.hid (Q.out.keep (But.of (drewN_below w n) (p := p)) hp)
  have c1 := R1.out.c1
  have z1 := R1.out.z 1
  have d0 : (w.drewN n).cell? ⟨g, 0, none⟩ = some (.pointer (some ⟨p, 0, none⟩)) := by simpa using c0
  have HE := Lib.hid e0
  clear e0 c0 hsz
  go_wp2_with fail
  go_ret
  exact ⟨by rw [HE.out]; rfl, Q1.out.keep (but_put _ p 1 _) hp, by have := R1.out.put1 (k + 1); exact this, (But.of (drewN_below w n)).put 1 _⟩

set_option maxRecDepth 100000 in
theorem next_bad (B g p b0 : Nat) (l : List UInt8) (s : ByteArray) (k : Nat) (L : Tok) (w : World) (hQ : Qd B g p b0 l w) (hR : Rd w p s k L) (hk : k ≤ s.size) (hd : s.data.toList.drop k = [] ∨ ∃ c r, s.data.toList.drop k = c :: r ∧ c.toNat = 10) :
    Calls Tryz.prog 181 #[.pointer (some ⟨g, 0, none⟩)] w (Fell p b0 3 w) := by
  have HL := Lib.hid (fun w h => left_spec p s k L w h hk)
  have R := Lib.hid hR
  have HD := Lib.hid hd
  obtain ⟨_, _, _, hV⟩ := hQ
  have c0 := hV.c0
  have c1 := hV.c1
  clear hR hd hV
  go_enter Tryz.func181, Tryz.ntmps181
  go_wp2_with fail
  refine (HL.out _ R.out).mono ?_
  rintro e w1 ⟨t, rfl, ht, hsz, n, rfl⟩
  have d1 : (w.drewN n).cell? ⟨g, 1, none⟩ = some (.int .i64 b0) := by simpa using c1
  have B1 := Lib.hid (drewN_below w n)
  rcases HD.out with h | ⟨c, r, h, h10⟩
  · have hl : t.data.toList.length = t.size := by simp
    have ht0 : t.size = 0 := by rw [← hl, ht.out, h]; rfl
    obtain ⟨e1, e2, e3⟩ := emp_of ht0
    clear c0 c1 hsz hl ht0 h
    go_wp2_with fail
    exact ⟨rfl, rfl, But.of B1.out⟩
  · obtain ⟨h0, e0⟩ := head_of (ht.out.trans h)
    obtain ⟨ne1, ne2⟩ := ne_of h0
    have hb : t[0].toNat = 10 := by rw [e0]; exact h10
    clear c0 c1 hsz e0 h h10
    go_wp2_with fail
    exact ⟨rfl, rfl, But.of B1.out⟩

def MeantAt (c : UInt8) (w : World) (e : Ending) (w' : World) : Prop := ∃ t : ByteArray, e = .returned (.string t) ∧ Hid (t.data.toList = meantN c) ∧ Below w.heap.size w w'
theorem conv_bytes (W : World) (l : List UInt8) (n : Nat) (hn : l.length = n) :
    (convert 82 9 (.slice (some ⟨W.heap.size, 0, none⟩) n n)).run Tryz.prog (W.alloc (.cells (l.map fun b => Value.int .u8 (b.toNat : Int)).toArray 5)) = .ok (.string ⟨l.toArray⟩) (W.alloc (.cells (l.map fun b => Value.int .u8 (b.toNat : Int)).toArray 5)) := by
  subst hn
  refine run_convert_bytes_back (P := Tryz.prog) _ 82 9 5 ⟨W.heap.size, 0, none⟩ l.length l Tryz.underlying82 Tryz.underlying5 Tryz.underlying9 ?_
  intro j hj
  simp only [Addr.add_lit, Nat.zero_add]
  rw [cell_of_row _ _ j _ _ (0, 0) (heap_alloc_last W _)]
  simp [hj]
theorem conv_one (W : World) (c : UInt8) (X : Int) (hX : X = c.toNat) : (convert 82 9 (.slice (some ⟨W.heap.size, 0, none⟩) 1 1)).run Tryz.prog (W.alloc (.cells #[.int .u8 X] 5)) = .ok (.string ⟨#[c]⟩) (W.alloc (.cells #[.int .u8 X] 5)) := by subst hX; exact conv_bytes W [c] 1 rfl
theorem conv_two (W : World) (c : UInt8) : (convert 82 9 (.slice (some ⟨W.heap.size, 0, none⟩) 2 2)).run Tryz.prog (W.alloc (.cells #[.int .u8 92, .int .u8 c.toNat] 5)) = .ok (.string ⟨#[92, c]⟩) (W.alloc (.cells #[.int .u8 92, .int .u8 c.toNat] 5)) := conv_bytes W [92, c] 2 rfl

set_option maxRecDepth 100000 in
theorem meant_spec (c : UInt8) (w : World) : Calls Tryz.prog 182 #[.int .u8 c.toNat] w (MeantAt c w) := by
  obtain ⟨n, hn⟩ : ∃ n, c.toNat = n := ⟨_, rfl⟩
  have HM : Hid (meantN c = if n = 110 then [10] else if n = 116 then [9] else if n = 92 ∨ n = 34 ∨ n = 47 then [c] else [92, c]) := Lib.hid (by rw [← hn]; rfl)
  have k2 := conv_two w c
  rw [hn] at k2 ⊢
  have HN := Lib.hid hn
  clear hn
  by_cases h1 : n = 110
  · subst h1
    go_enter Tryz.func182, Tryz.ntmps182
    go_wp2_with fail
    go_ret
    exact ⟨_, rfl, Lib.hid (by rw [HM.out]; rfl), Below.refl _ _⟩
  by_cases h2 : n = 116
  · subst h2
    go_enter Tryz.func182, Tryz.ntmps182
    go_wp2_with fail
    go_ret
    exact ⟨_, rfl, Lib.hid (by rw [HM.out]; rfl), Below.refl _ _⟩
  have d1 : ((n : Int) == 110) = false := by simp; omega
  have d2 : ((n : Int) == 116) = false := by simp; omega
  by_cases h3 : n = 92 ∨ n = 34 ∨ n = 47
  · have HE : Hid (meantN c = [c]) := Lib.hid (by rw [HM.out, if_neg h1, if_neg h2, if_pos h3])
    clear HM
    rcases h3 with rfl | rfl | rfl
    case' inl => have k1 := conv_one w c 92 (by rw [HN.out]; rfl)
    case' inr.inl => have k1 := conv_one w c 34 (by rw [HN.out]; rfl)
    case' inr.inr => have k1 := conv_one w c 47 (by rw [HN.out]; rfl)
    all_goals
      clear HN k2
      go_enter Tryz.func182, Tryz.ntmps182
      go_wp2_with fail
      go_ret
      exact ⟨_, rfl, Lib.hid (by rw [HE.out]), below_new w _⟩
  · have HE : Hid (meantN c = [92, c]) := Lib.hid (by rw [HM.out, if_neg h1, if_neg h2, if_neg h3])
    have d3 : ((n : Int) == 92) = false := by simp; omega
    have d4 : ((n : Int) == 34) = false := by simp; omega
    have d5 : ((n : Int) == 47) = false := by simp; omega
    clear HM h1 h2 h3
    go_enter Tryz.func182, Tryz.ntmps182
    go_wp2_with fail
    go_ret
    exact ⟨_, rfl, Lib.hid (by rw [HE.out]), below_new w _⟩
end Go.Proofs.YtgdlpldngpoadaaGreatDoor

/- Word, Own, isSign: walks (gen_wo.py). -/
namespace Go.Proofs.YtgdlpldngpoadaaGreatDoor
open Go.RowKit

theorem word_or {l : List UInt8} (h : wordB l = true) : l = [66, 69, 71, 73, 78] ∨ l = [69, 78, 68] ∨ l = [102, 117, 110, 99, 116, 105, 111, 110] ∨ l = [105, 102] ∨ l = [101, 108, 115, 101] ∨ l = [119, 104, 105, 108, 101] ∨ l = [102, 111, 114] ∨ l = [100, 111] ∨ l = [98, 114, 101, 97, 107] ∨ l = [99, 111, 110, 116, 105, 110, 117, 101] ∨ l = [110, 101, 120, 116] ∨ l = [101, 120, 105, 116] ∨ l = [114, 101, 116, 117, 114, 110] ∨ l = [100, 101, 108, 101, 116, 101] ∨ l = [105, 110] ∨ l = [103, 101, 116, 108, 105, 110, 101] ∨ l = [112, 114, 105, 110, 116] ∨ l = [112, 114, 105, 110, 116, 102] ∨ l = [112, 101, 114, 115, 105, 115, 116] := by
  unfold wordB at h
  simpa [wordL] using h
theorem word_and {l : List UInt8} (h : wordB l = false) : (l == [66, 69, 71, 73, 78]) = false ∧ (l == [69, 78, 68]) = false ∧ (l == [102, 117, 110, 99, 116, 105, 111, 110]) = false ∧ (l == [105, 102]) = false ∧ (l == [101, 108, 115, 101]) = false ∧ (l == [119, 104, 105, 108, 101]) = false ∧ (l == [102, 111, 114]) = false ∧ (l == [100, 111]) = false ∧ (l == [98, 114, 101, 97, 107]) = false ∧ (l == [99, 111, 110, 116, 105, 110, 117, 101]) = false ∧ (l == [110, 101, 120, 116]) = false ∧ (l == [101, 120, 105, 116]) = false ∧ (l == [114, 101, 116, 117, 114, 110]) = false ∧ (l == [100, 101, 108, 101, 116, 101]) = false ∧ (l == [105, 110]) = false ∧ (l == [103, 101, 116, 108, 105, 110, 101]) = false ∧ (l == [112, 114, 105, 110, 116]) = false ∧ (l == [112, 114, 105, 110, 116, 102]) = false ∧ (l == [112, 101, 114, 115, 105, 115, 116]) = false := by
  unfold wordB at h
  simpa [wordL] using h
set_option maxRecDepth 100000 in
set_option maxHeartbeats 4000000 in
theorem word_yes (s : ByteArray) (h : wordB s.data.toList = true) (w : World) : Calls Tryz.prog 178 #[.string s] w fun e w' => e = .returned (.bool true) ∧ w' = w := by
  have h := word_or h
  rw [← Lib.toList_data] at h
  rcases h with h | h | h | h | h | h | h | h | h | h | h | h | h | h | h | h | h | h | h
  all_goals
    go_enter Tryz.func178, Tryz.ntmps178
    go_wp2_with fail
    go_ret
    exact ⟨rfl, rfl⟩
set_option maxRecDepth 100000 in
set_option maxHeartbeats 4000000 in
theorem word_no (s : ByteArray) (h : wordB s.data.toList = false) (w : World) : Calls Tryz.prog 178 #[.string s] w fun e w' => e = .returned (.bool false) ∧ w' = w := by
  have h := word_and h
  rw [← Lib.toList_data] at h
  obtain ⟨n0, n1, n2, n3, n4, n5, n6, n7, n8, n9, n10, n11, n12, n13, n14, n15, n16, n17, n18⟩ := h
  go_enter Tryz.func178, Tryz.ntmps178
  go_wp2_with fail
  go_ret
  exact ⟨rfl, rfl⟩
theorem word_spec (s : ByteArray) (l : List UInt8) (hl : s.data.toList = l) (w : World) : Calls Tryz.prog 178 #[.string s] w fun e w' => e = .returned (.bool (wordB l)) ∧ w' = w := by
  subst hl
  cases h : wordB s.data.toList
  · exact word_no s h w
  · exact word_yes s h w

theorem owns_or {l : List UInt8} (h : ownB l = true) : l = [108, 101, 110, 103, 116, 104] ∨ l = [115, 117, 98, 115, 116, 114] ∨ l = [105, 110, 100, 101, 120] ∨ l = [115, 112, 108, 105, 116] ∨ l = [115, 117, 98] ∨ l = [103, 115, 117, 98] ∨ l = [109, 97, 116, 99, 104] ∨ l = [115, 112, 114, 105, 110, 116, 102] ∨ l = [116, 111, 108, 111, 119, 101, 114] ∨ l = [116, 111, 117, 112, 112, 101, 114] ∨ l = [105, 110, 116] ∨ l = [115, 121, 110, 99] := by
  unfold ownB at h
  simpa [ownL] using h
theorem owns_and {l : List UInt8} (h : ownB l = false) : (l == [108, 101, 110, 103, 116, 104]) = false ∧ (l == [115, 117, 98, 115, 116, 114]) = false ∧ (l == [105, 110, 100, 101, 120]) = false ∧ (l == [115, 112, 108, 105, 116]) = false ∧ (l == [115, 117, 98]) = false ∧ (l == [103, 115, 117, 98]) = false ∧ (l == [109, 97, 116, 99, 104]) = false ∧ (l == [115, 112, 114, 105, 110, 116, 102]) = false ∧ (l == [116, 111, 108, 111, 119, 101, 114]) = false ∧ (l == [116, 111, 117, 112, 112, 101, 114]) = false ∧ (l == [105, 110, 116]) = false ∧ (l == [115, 121, 110, 99]) = false := by
  unfold ownB at h
  simpa [ownL] using h
set_option maxRecDepth 100000 in
set_option maxHeartbeats 4000000 in
theorem owns_yes (s : ByteArray) (h : ownB s.data.toList = true) (w : World) : Calls Tryz.prog 179 #[.string s] w fun e w' => e = .returned (.bool true) ∧ w' = w := by
  have h := owns_or h
  rw [← Lib.toList_data] at h
  rcases h with h | h | h | h | h | h | h | h | h | h | h | h
  all_goals
    go_enter Tryz.func179, Tryz.ntmps179
    go_wp2_with fail
    go_ret
    exact ⟨rfl, rfl⟩
set_option maxRecDepth 100000 in
set_option maxHeartbeats 4000000 in
theorem owns_no (s : ByteArray) (h : ownB s.data.toList = false) (w : World) : Calls Tryz.prog 179 #[.string s] w fun e w' => e = .returned (.bool false) ∧ w' = w := by
  have h := owns_and h
  rw [← Lib.toList_data] at h
  obtain ⟨n0, n1, n2, n3, n4, n5, n6, n7, n8, n9, n10, n11⟩ := h
  go_enter Tryz.func179, Tryz.ntmps179
  go_wp2_with fail
  go_ret
  exact ⟨rfl, rfl⟩
theorem owns_spec (s : ByteArray) (l : List UInt8) (hl : s.data.toList = l) (w : World) : Calls Tryz.prog 179 #[.string s] w fun e w' => e = .returned (.bool (ownB l)) ∧ w' = w := by
  subst hl
  cases h : ownB s.data.toList
  · exact owns_no s h w
  · exact owns_yes s h w

theorem sign_or {l : List UInt8} (h : signB l = true) : l = [43, 43] ∨ l = [45, 45] ∨ l = [43, 61] ∨ l = [45, 61] ∨ l = [42, 61] ∨ l = [47, 61] ∨ l = [37, 61] ∨ l = [61, 61] ∨ l = [33, 61] ∨ l = [60, 61] ∨ l = [62, 61] ∨ l = [62, 62] ∨ l = [33, 126] ∨ l = [38, 38] ∨ l = [124, 124] ∨ l = [123] ∨ l = [125] ∨ l = [40] ∨ l = [41] ∨ l = [91] ∨ l = [93] ∨ l = [59] ∨ l = [44] ∨ l = [43] ∨ l = [45] ∨ l = [42] ∨ l = [47] ∨ l = [37] ∨ l = [60] ∨ l = [62] ∨ l = [33] ∨ l = [126] ∨ l = [63] ∨ l = [58] ∨ l = [61] ∨ l = [36] := by
  unfold signB at h
  simpa [sign2L, sign1L] using h
theorem sign_and {l : List UInt8} (h : signB l = false) : (l == [43, 43]) = false ∧ (l == [45, 45]) = false ∧ (l == [43, 61]) = false ∧ (l == [45, 61]) = false ∧ (l == [42, 61]) = false ∧ (l == [47, 61]) = false ∧ (l == [37, 61]) = false ∧ (l == [61, 61]) = false ∧ (l == [33, 61]) = false ∧ (l == [60, 61]) = false ∧ (l == [62, 61]) = false ∧ (l == [62, 62]) = false ∧ (l == [33, 126]) = false ∧ (l == [38, 38]) = false ∧ (l == [124, 124]) = false ∧ (l == [123]) = false ∧ (l == [125]) = false ∧ (l == [40]) = false ∧ (l == [41]) = false ∧ (l == [91]) = false ∧ (l == [93]) = false ∧ (l == [59]) = false ∧ (l == [44]) = false ∧ (l == [43]) = false ∧ (l == [45]) = false ∧ (l == [42]) = false ∧ (l == [47]) = false ∧ (l == [37]) = false ∧ (l == [60]) = false ∧ (l == [62]) = false ∧ (l == [33]) = false ∧ (l == [126]) = false ∧ (l == [63]) = false ∧ (l == [58]) = false ∧ (l == [61]) = false ∧ (l == [36]) = false := by
  unfold signB at h
  simpa [sign2L, sign1L] using h
set_option maxRecDepth 100000 in
set_option maxHeartbeats 4000000 in
theorem sign_yes (s : ByteArray) (h : signB s.data.toList = true) (w : World) : Calls Tryz.prog 185 #[.string s] w fun e w' => e = .returned (.bool true) ∧ w' = w := by
  have h := sign_or h
  rw [← Lib.toList_data] at h
  rcases h with h | h | h | h | h | h | h | h | h | h | h | h | h | h | h | h | h | h | h | h | h | h | h | h | h | h | h | h | h | h | h | h | h | h | h | h
  all_goals
    go_enter Tryz.func185, Tryz.ntmps185
    go_wp2_with fail
    go_ret
    exact ⟨rfl, rfl⟩
set_option maxRecDepth 100000 in
set_option maxHeartbeats 4000000 in
theorem sign_no (s : ByteArray) (h : signB s.data.toList = false) (w : World) : Calls Tryz.prog 185 #[.string s] w fun e w' => e = .returned (.bool false) ∧ w' = w := by
  have h := sign_and h
  rw [← Lib.toList_data] at h
  obtain ⟨n0, n1, n2, n3, n4, n5, n6, n7, n8, n9, n10, n11, n12, n13, n14, n15, n16, n17, n18, n19, n20, n21, n22, n23, n24, n25, n26, n27, n28, n29, n30, n31, n32, n33, n34, n35⟩ := h
  go_enter Tryz.func185, Tryz.ntmps185
  go_wp2_with fail
  go_ret
  exact ⟨rfl, rfl⟩
theorem sign_spec (s : ByteArray) (l : List UInt8) (hl : s.data.toList = l) (w : World) : Calls Tryz.prog 185 #[.string s] w fun e w' => e = .returned (.bool (signB l)) ∧ w' = w := by
  subst hl
  cases h : signB s.data.toList
  · exact sign_no s h w
  · exact sign_yes s h w
end Go.Proofs.YtgdlpldngpoadaaGreatDoor

/- put, bracket: walks. -/
namespace Go.Proofs.YtgdlpldngpoadaaGreatDoor
open Go.RowKit

/-- A reading within a quoted was given up; it went on. -/
def FellB (B p : Nat) (a x : Int) (w : World) (e : Ending) (w' : World) : Prop :=
  e = .panicked [{ v := .iface 121 (.agg #[.int .i64 a, .int .i64 x]), recovered := false }] ∧ ButB B p w w'
def PutAt (B g p b0 : Nat) (l : List UInt8) (s : ByteArray) (k : Nat) (L : Tok) (w : World) (e : Ending) (w' : World) : Prop :=
  e = .returned (.tuple #[]) ∧ Qd B g p b0 l w' ∧ Rd w' p s k L ∧ ButB B p w w'
def OutQ (B g p b0 : Nat) (l : List UInt8) (s : ByteArray) (k : Nat) (L : Tok) (o : Option (List UInt8 × Nat)) (w : World) (e : Ending) (w' : World) : Prop := match o with
  | none => FellB B p b0 3 w e w'
  | some r => PutAt B g p b0 (l ++ r.1) s (k + r.2) L w e w'
theorem OutQ.step {B g p b0 : Nat} {l m : List UInt8} {s : ByteArray} {k n : Nat} {L : Tok} {o o1 : Option (List UInt8 × Nat)} {w w1 : World} {e : Ending} {w' : World} (hb : ButB B p w w1) (ho : o = o1.map fun r => (m ++ r.1, r.2 + n))
    (h : OutQ B g p b0 (l ++ m) s (k + n) L o1 w1 e w') : OutQ B g p b0 l s k L o w e w' := by
  subst ho
  cases o1 with
  | none => exact ⟨h.1, hb.trans h.2⟩
  | some r =>
    obtain ⟨h1, h2, h3, h4⟩ := h
    refine ⟨h1, ?_, ?_, hb.trans h4⟩
    · rw [← List.append_assoc]; exact h2
    · have e : k + n + r.2 = k + (r.2 + n) := by omega
      rw [← e]; exact h3

/-- The rest of a bracket. -/
def brN : Nat → List UInt8 → Option (List UInt8 × Nat)
  | _, [] => none
  | q, c :: t => if c.toNat = 10 then none else if c.toNat = 92 then (match t with
      | [] => none
      | d :: u => if d.toNat = 10 then none else (brN 3 u).map fun r => (escN d ++ r.1, r.2 + 2))
    else if q = 3 ∧ c.toNat = 93 then some ([c], 1) else (brN (nextQ q c) t).map fun r => (c :: r.1, r.2 + 1)

set_option maxRecDepth 100000 in
theorem put_plain (B g p b0 : Nat) (l : List UInt8) (s : ByteArray) (k : Nat) (L : Tok) (c : UInt8) (w : World) (hQ : Qd B g p b0 l w) (hR : Rd w p s k L) (hp : p < B) (hl : l.length ≤ 90000) (hc : c.toNat ≠ 92) :
    Calls Tryz.prog 183 #[.pointer (some ⟨g, 0, none⟩), .int .u8 c.toNat] w (PutAt B g p b0 (l ++ [c]) s k L w) := by
  have HW := Lib.hid (fun w h => qbyte B g p b0 l c w h (by omega))
  have Q := Lib.hid hQ
  have R := Lib.hid hR
  have hb : ((c.toNat : Int) == 92) = false := by simp; omega
  clear hQ hR hc
  go_enter Tryz.func183, Tryz.ntmps183
  go_wp2_with fail
  refine (HW.out _ Q.out).mono ?_
  rintro e w1 ⟨rfl, Q1, b1⟩
  have HQ1 := Lib.hid Q1
  have HR1 := Lib.hid (R.out.keep (b1.block p hp))
  have HB1 := Lib.hid (ButB.of (p := p) b1)
  clear Q1 b1
  go_wp2_with fail
  refine bodyPost_ret (results_none rfl _ _ _) rfl ?_
  exact ⟨rfl, HQ1.out, HR1.out, HB1.out⟩

set_option maxRecDepth 100000 in
theorem put_esc (B g p b0 : Nat) (l : List UInt8) (s : ByteArray) (k : Nat) (L : Tok) (c d : UInt8) (r : List UInt8) (w : World) (hQ : Qd B g p b0 l w) (hR : Rd w p s k L) (hp : p < B) (hl : l.length ≤ 90000) (hs : s.size ≤ 8000) (hc : c.toNat = 92)
    (hd : s.data.toList.drop k = d :: r) (hd10 : d.toNat ≠ 10) :
    Calls Tryz.prog 183 #[.pointer (some ⟨g, 0, none⟩), .int .u8 c.toNat] w (PutAt B g p b0 (l ++ escN d) s (k + 1) L w) := by
  have HN := Lib.hid (fun w h1 h2 => next_go B g p b0 l s k L d r w h1 h2 hp hd hd10 hs)
  have HB := Lib.hid (fun l c w h (hl : l.length ≤ 100000) => qbyte B g p b0 l c w h hl)
  have Q := Lib.hid hQ
  have R := Lib.hid hR
  rw [hc]
  have HL : Hid (Qd B g p b0 l w → B ≤ w.heap.size) := Lib.hid (fun h => h.le)
  by_cases h47 : d.toNat = 47
  · have HE : Hid (escN d = [d]) := Lib.hid (by unfold escN; rw [if_pos h47])
    have hn47 : ((d.toNat : Int) != 47) = false := by rw [h47]; rfl
    clear hQ hR hc hd hd10 h47
    go_enter Tryz.func183, Tryz.ntmps183
    go_wp2_with fail
    refine (HN.out _ Q.out R.out).mono ?_
    rintro e w1 ⟨rfl, Q1, R1, b1⟩
    have HQ1 := Lib.hid Q1
    have HR1 := Lib.hid R1
    have HB1 := Lib.hid (b1.toB Q.out.le)
    clear Q1 R1 b1
    go_wp2_with fail
    refine (HB.out l d _ HQ1.out (by omega)).mono ?_
    rintro e w2 ⟨rfl, Q2, b2⟩
    have HQ2 := Lib.hid Q2
    have HR2 := Lib.hid (HR1.out.keep (b2.block p hp))
    have HB2 := Lib.hid (HB1.out.trans (ButB.of (p := p) b2))
    clear Q2 b2
    go_wp2_with fail
    refine bodyPost_ret (results_none rfl _ _ _) rfl ?_
    exact ⟨rfl, by rw [HE.out]; exact HQ2.out, HR2.out, HB2.out⟩
  · have HE : Hid (escN d = [92, d]) := Lib.hid (by unfold escN; rw [if_neg h47])
    have hn47 : ((d.toNat : Int) != 47) = true := by simp; omega
    clear hQ hR hc hd hd10 h47
    go_enter Tryz.func183, Tryz.ntmps183
    go_wp2_with fail
    refine (HN.out _ Q.out R.out).mono ?_
    rintro e w1 ⟨rfl, Q1, R1, b1⟩
    have HQ1 := Lib.hid Q1
    have HR1 := Lib.hid R1
    have HB1 := Lib.hid (b1.toB Q.out.le)
    clear Q1 R1 b1
    go_wp2_with fail
    refine (HB.out l 92 _ HQ1.out (by omega)).mono ?_
    rintro e w2 ⟨rfl, Q2, b2⟩
    have HQ2 := Lib.hid Q2
    have HR2 := Lib.hid (HR1.out.keep (b2.block p hp))
    have HB2 := Lib.hid (HB1.out.trans (ButB.of (p := p) b2))
    clear Q2 b2
    go_wp2_with fail
    refine (HB.out (l ++ [92]) d _ HQ2.out (by simp; omega)).mono ?_
    rintro e w3 ⟨rfl, Q3, b3⟩
    have HQ3 := Lib.hid Q3
    have HR3 := Lib.hid (HR2.out.keep (b3.block p hp))
    have HB3 := Lib.hid (HB2.out.trans (ButB.of (p := p) b3))
    clear Q3 b3
    go_wp2_with fail
    refine bodyPost_ret (results_none rfl _ _ _) rfl ?_
    exact ⟨rfl, by rw [HE.out]; have := HQ3.out; rw [List.append_assoc] at this; exact this, HR3.out, HB3.out⟩

set_option maxRecDepth 100000 in
theorem put_bad (B g p b0 : Nat) (l : List UInt8) (s : ByteArray) (k : Nat) (L : Tok) (c : UInt8) (w : World) (hQ : Qd B g p b0 l w) (hR : Rd w p s k L) (hk : k ≤ s.size) (hc : c.toNat = 92)
    (hd : s.data.toList.drop k = [] ∨ ∃ c r, s.data.toList.drop k = c :: r ∧ c.toNat = 10) :
    Calls Tryz.prog 183 #[.pointer (some ⟨g, 0, none⟩), .int .u8 c.toNat] w (FellB B p b0 3 w) := by
  have HN := Lib.hid (fun w h1 h2 => next_bad B g p b0 l s k L w h1 h2 hk hd)
  have Q := Lib.hid hQ
  have R := Lib.hid hR
  rw [hc]
  clear hQ hR hc hd
  go_enter Tryz.func183, Tryz.ntmps183
  go_wp2_with fail
  refine (HN.out _ Q.out R.out).mono ?_
  rintro e w1 ⟨rfl, b1⟩
  have HB1 := Lib.hid (b1.toB Q.out.le)
  clear b1
  go_wp2_with fail
  exact ⟨rfl, rfl, HB1.out⟩
end Go.Proofs.YtgdlpldngpoadaaGreatDoor
