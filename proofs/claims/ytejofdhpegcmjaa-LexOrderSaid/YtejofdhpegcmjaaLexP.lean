/- open, next, meant: walks. -/
import Derived.Test.YtejofdhpegcmjaaLexQ
namespace Go.Proofs.Ytejofdhpegcmjaa
open Go.RowKit

theorem emp_of {s : ByteArray} (h : s.size = 0) : s.toList = [] ∧ s.toList.isEmpty = true ∧ (!s.toList.isEmpty) = false := by
  have e0 : s.toList = [] := by
    rw [Lib.toList_data]
    exact List.eq_nil_of_length_eq_zero (by rw [← Lib.size_eq]; exact h)
  rw [e0]
  exact ⟨rfl, rfl, rfl⟩
theorem ne_of {s : ByteArray} (h : 0 < s.size) : s.toList.isEmpty = false ∧ (!s.toList.isEmpty) = true := by
  have e : s.toList.isEmpty = false := by
    rw [Lib.toList_data]
    cases hl : s.data.toList with
    | nil => rw [Lib.size_eq, hl] at h; simp at h
    | cons a l => rfl
  rw [e]
  exact ⟨rfl, rfl⟩
theorem head_of {t : ByteArray} {c : UInt8} {r : List UInt8} (h : t.data.toList = c :: r) : ∃ h0 : 0 < t.size, t[0] = c := by
  have hl : t.data.toList.length = t.size := by simp
  have h0 : 0 < t.size := by rw [← hl, h]; simp
  refine ⟨h0, ?_⟩
  have : t.data.toList[0]? = some t[0] := by rw [List.getElem?_eq_getElem (by omega)]; rfl
  rw [h] at this
  simpa using this.symm
theorem drop_lt {s : ByteArray} {k : Nat} {c : UInt8} {r : List UInt8} (h : s.data.toList.drop k = c :: r) : k < s.size := by
  rcases Nat.lt_or_ge k s.size with h' | h'
  · exact h'
  · rw [List.drop_eq_nil_of_le (by simpa using h')] at h
    exact absurd h (by simp)
theorem drop_tail {s : ByteArray} {k : Nat} {c : UInt8} {r : List UInt8} (h : s.data.toList.drop k = c :: r) : s.data.toList.drop (k + 1) = r := by
  rw [← List.drop_drop, h]
  rfl

def OpenAt (p : Nat) (s : ByteArray) (k : Nat) (L : Tok) (w : World) (e : Ending) (w' : World) : Prop :=
  e = .returned (.pointer (some ⟨w.heap.size, 0, none⟩)) ∧ Qd w.heap.size w.heap.size p k [] w' ∧ Rd w' p s (k + 1) L ∧ But p w w' ∧ w.heap.size < w'.heap.size
set_option maxRecDepth 100000 in
theorem open_spec (p : Nat) (s : ByteArray) (k : Nat) (L : Tok) (w : World) (h : Rd w p s k L) (hk : k ≤ s.size) (hs : s.size ≤ 8000) :
    Calls Try.prog 43 #[.pointer (some ⟨p, 0, none⟩)] w (OpenAt p s k L w) := by
  have c1 := h.c1
  have hlt := h.lt
  have R := Lib.hid h; clear h
  go_enter Try.func43, Try.ntmps43
  go_upto_region 2 with (fail)
  obtain ⟨W, hW, R1, Q1, B1, hsz⟩ : ∃ W, W = w.alloc (.cells #[.pointer (some ⟨p, 0, none⟩), .int .i64 k, .pointer none, .slice none 0 0] 63) ∧ Hid (Rd W p s k L) ∧ Hid (Qd w.heap.size w.heap.size p k [] W) ∧ Hid (Below w.heap.size w W) ∧ W.heap.size = w.heap.size + 1 :=
    ⟨_, rfl, Lib.hid (R.out.after (below_new w _)), Lib.hid ⟨_, _, Or.inl rfl, Nat.le_refl _, by rw [World.size_alloc]; omega, heap_alloc_last w _, World.ownsRowF_nil _ _ _ _, fun _ => rfl⟩, Lib.hid (below_new w _), World.size_alloc _ _⟩
  change Code.wp _ _ _ _ (w.alloc (Obj.cells #[.pointer (some ⟨p, 0, none⟩), .int .i64 k, .pointer none, .slice none 0 0] 63))
  rw [← hW]
  have HS := Lib.hid hsz
  clear hW c1 hsz
  have c1 := R1.out.c1
  have z1 := R1.out.z 1
  go_wp2_with fail
  go_ret
  exact ⟨rfl, Q1.out.keep (but_put W p 1 _) hlt, R1.out.put1 (k + 1), (But.of B1.out).put 1 _, by rw [World.size_setCell, HS.out]; omega⟩

def NextAt (B g p : Nat) (b0 : Nat) (l : List UInt8) (s : ByteArray) (k : Nat) (L : Tok) (c : UInt8) (w : World) (e : Ending) (w' : World) : Prop :=
  e = .returned (.int .u8 c.toNat) ∧ Qd B g p b0 l w' ∧ Rd w' p s (k + 1) L ∧ But p w w'
set_option maxRecDepth 100000 in
theorem next_go (B g p b0 : Nat) (l : List UInt8) (s : ByteArray) (k : Nat) (L : Tok) (c : UInt8) (r : List UInt8) (w : World) (hQ : Qd B g p b0 l w) (hR : Rd w p s k L) (hp : p < B) (hd : s.data.toList.drop k = c :: r) (hc : c.toNat ≠ 10) (hs : s.size ≤ 8000) :
    Calls Try.prog 44 #[.pointer (some ⟨g, 0, none⟩)] w (NextAt B g p b0 l s k L c w) := by
  have hk := drop_lt hd
  have HL := Lib.hid (fun w h => left_spec p s k L w h (by omega))
  have Q := Lib.hid hQ
  have R := Lib.hid hR
  have HD := Lib.hid hd
  obtain ⟨_, _, _, hV⟩ := hQ
  have c0 := hV.c0
  have HV := Lib.hid hV
  clear hR hd hV
  go_enter Try.func44, Try.ntmps44
  go_wp2_with fail
  refine (HL.out _ R.out).mono ?_
  rintro e w1 ⟨t, rfl, ht, hsz, n, rfl⟩
  obtain ⟨h0, e0⟩ := head_of (ht.out.trans HD.out)
  obtain ⟨ne1, ne2⟩ := ne_of h0
  have hb : ((t[0].toNat : Int) == 10) = false := by rw [e0]; simp; omega
  have R1 := Lib.hid (R.out.drewN n)
  have Q1 := Lib.hid (Q.out.keep (But.of (drewN_below w n) (p := p)) hp)
  have c1 := R1.out.c1
  have z1 := R1.out.z 1
  have d0 : (w.drewN n).cell? ⟨g, 0, none⟩ = some (.pointer (some ⟨p, 0, none⟩)) := by simpa using c0
  have HE := Lib.hid e0
  clear e0 c0 hsz
  go_wp2_with fail
  go_ret
  exact ⟨by rw [HE.out]; rfl, Q1.out.keep (but_put _ p 1 _) hp, by have := R1.out.put1 (k + 1); exact this, (But.of (drewN_below w n)).put 1 _⟩

set_option maxRecDepth 100000 in
theorem next_bad (B g p b0 : Nat) (l : List UInt8) (s : ByteArray) (k : Nat) (L : Tok) (w : World) (hQ : Qd B g p b0 l w) (hR : Rd w p s k L) (hk : k ≤ s.size) (hd : s.data.toList.drop k = [] ∨ ∃ c r, s.data.toList.drop k = c :: r ∧ c.toNat = 10) :
    Calls Try.prog 44 #[.pointer (some ⟨g, 0, none⟩)] w (Fell p b0 3 w) := by
  have HL := Lib.hid (fun w h => left_spec p s k L w h hk)
  have R := Lib.hid hR
  have HD := Lib.hid hd
  obtain ⟨_, _, _, hV⟩ := hQ
  have c0 := hV.c0
  have c1 := hV.c1
  clear hR hd hV
  go_enter Try.func44, Try.ntmps44
  go_wp2_with fail
  refine (HL.out _ R.out).mono ?_
  rintro e w1 ⟨t, rfl, ht, hsz, n, rfl⟩
  have d1 : (w.drewN n).cell? ⟨g, 1, none⟩ = some (.int .i64 b0) := by simpa using c1
  have B1 := Lib.hid (drewN_below w n)
  rcases HD.out with h | ⟨c, r, h, h10⟩
  · have hl : t.data.toList.length = t.size := by simp
    have ht0 : t.size = 0 := by rw [← hl, ht.out, h]; rfl
    obtain ⟨e1, e2, e3⟩ := emp_of ht0
    clear c0 c1 hsz hl ht0 h
    go_wp2_with fail
    exact ⟨rfl, rfl, But.of B1.out⟩
  · obtain ⟨h0, e0⟩ := head_of (ht.out.trans h)
    obtain ⟨ne1, ne2⟩ := ne_of h0
    have hb : t[0].toNat = 10 := by rw [e0]; exact h10
    clear c0 c1 hsz e0 h h10
    go_wp2_with fail
    exact ⟨rfl, rfl, But.of B1.out⟩

def MeantAt (c : UInt8) (w : World) (e : Ending) (w' : World) : Prop := ∃ t : ByteArray, e = .returned (.string t) ∧ Hid (t.data.toList = meantN c) ∧ Below w.heap.size w w'
theorem conv_bytes (W : World) (l : List UInt8) (n : Nat) (hn : l.length = n) :
    (convert 36 9 (.slice (some ⟨W.heap.size, 0, none⟩) n n)).run Try.prog (W.alloc (.cells (l.map fun b => Value.int .u8 (b.toNat : Int)).toArray 5)) = .ok (.string ⟨l.toArray⟩) (W.alloc (.cells (l.map fun b => Value.int .u8 (b.toNat : Int)).toArray 5)) := by
  subst hn
  refine run_convert_bytes_back (P := Try.prog) _ 36 9 5 ⟨W.heap.size, 0, none⟩ l.length l Try.underlying36 Try.underlying5 Try.underlying9 ?_
  intro j hj
  simp only [Addr.add_lit, Nat.zero_add]
  rw [cell_of_row _ _ j _ _ (0, 0) (heap_alloc_last W _)]
  simp [hj]
theorem conv_one (W : World) (c : UInt8) (X : Int) (hX : X = c.toNat) : (convert 36 9 (.slice (some ⟨W.heap.size, 0, none⟩) 1 1)).run Try.prog (W.alloc (.cells #[.int .u8 X] 5)) = .ok (.string ⟨#[c]⟩) (W.alloc (.cells #[.int .u8 X] 5)) := by subst hX; exact conv_bytes W [c] 1 rfl
theorem conv_two (W : World) (c : UInt8) : (convert 36 9 (.slice (some ⟨W.heap.size, 0, none⟩) 2 2)).run Try.prog (W.alloc (.cells #[.int .u8 92, .int .u8 c.toNat] 5)) = .ok (.string ⟨#[92, c]⟩) (W.alloc (.cells #[.int .u8 92, .int .u8 c.toNat] 5)) := conv_bytes W [92, c] 2 rfl

set_option maxRecDepth 100000 in
theorem meant_spec (c : UInt8) (w : World) : Calls Try.prog 45 #[.int .u8 c.toNat] w (MeantAt c w) := by
  obtain ⟨n, hn⟩ : ∃ n, c.toNat = n := ⟨_, rfl⟩
  have HM : Hid (meantN c = if n = 110 then [10] else if n = 116 then [9] else if n = 92 ∨ n = 34 ∨ n = 47 then [c] else [92, c]) := Lib.hid (by rw [← hn]; rfl)
  have k2 := conv_two w c
  rw [hn] at k2 ⊢
  have HN := Lib.hid hn
  clear hn
  by_cases h1 : n = 110
  · subst h1
    go_enter Try.func45, Try.ntmps45
    go_wp2_with fail
    go_ret
    exact ⟨_, rfl, Lib.hid (by rw [HM.out]; rfl), Below.refl _ _⟩
  by_cases h2 : n = 116
  · subst h2
    go_enter Try.func45, Try.ntmps45
    go_wp2_with fail
    go_ret
    exact ⟨_, rfl, Lib.hid (by rw [HM.out]; rfl), Below.refl _ _⟩
  have d1 : ((n : Int) == 110) = false := by simp; omega
  have d2 : ((n : Int) == 116) = false := by simp; omega
  by_cases h3 : n = 92 ∨ n = 34 ∨ n = 47
  · have HE : Hid (meantN c = [c]) := Lib.hid (by rw [HM.out, if_neg h1, if_neg h2, if_pos h3])
    clear HM
    rcases h3 with rfl | rfl | rfl
    case' inl => have k1 := conv_one w c 92 (by rw [HN.out]; rfl)
    case' inr.inl => have k1 := conv_one w c 34 (by rw [HN.out]; rfl)
    case' inr.inr => have k1 := conv_one w c 47 (by rw [HN.out]; rfl)
    all_goals
      clear HN k2
      go_enter Try.func45, Try.ntmps45
      go_wp2_with fail
      go_ret
      exact ⟨_, rfl, Lib.hid (by rw [HE.out]), below_new w _⟩
  · have HE : Hid (meantN c = [92, c]) := Lib.hid (by rw [HM.out, if_neg h1, if_neg h2, if_neg h3])
    have d3 : ((n : Int) == 92) = false := by simp; omega
    have d4 : ((n : Int) == 34) = false := by simp; omega
    have d5 : ((n : Int) == 47) = false := by simp; omega
    clear HM h1 h2 h3
    go_enter Try.func45, Try.ntmps45
    go_wp2_with fail
    go_ret
    exact ⟨_, rfl, Lib.hid (by rw [HE.out]), below_new w _⟩
end Go.Proofs.Ytejofdhpegcmjaa
