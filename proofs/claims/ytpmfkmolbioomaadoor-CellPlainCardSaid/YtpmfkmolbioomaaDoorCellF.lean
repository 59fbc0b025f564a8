/- Contracts of cell.Any, cell.From; aukletlaw03.lives. -/
import Derived.Test.YtpmfkmolbioomaaDoorCellC
namespace Go.Proofs.YtpmfkmolbioomaaDoor
open Go.RowKit

theorem any_not (k n : Int) (s : ByteArray) (hs : s.size ≤ 281474976710656) (hc : canB k n s = false) (w : World) :
    Calls Tryd.prog 18 #[.agg #[.int .i64 k, .int .i64 n, .string s]] w fun e w' => e = .returned .nilIface ∧ Below w.heap.size w w' := by
  have CN := Lib.hid (fun w => can_any k n s hs w)
  rw [hc] at CN
  have B0 := boxed1 w (.int .i64 k) (.int .i64 n) (.string s) 24
  have HB := Lib.hid B0.1.out
  clear B0 hs hc
  go_enter Tryd.func18, Tryd.ntmps18
  go_wp2_with fail
  refine (CN.out _).mono ?_
  rintro e w1 ⟨rfl, b1⟩
  have B1 := Lib.hid (Below.step HB.out b1); clear b1
  go_wp2_with fail
  go_ret
  exact ⟨rfl, B1.out⟩

theorem any_is (k n : Int) (s : ByteArray) (hs : s.size ≤ 281474976710656) (hc : canB k n s = true) (w : World) :
    Calls Tryd.prog 18 #[.agg #[.int .i64 k, .int .i64 n, .string s]] w fun e w' => e = .returned (if k = 1 then .iface 2 (.int .i64 n) else if k = 2 then .iface 9 (.string s) else if k = 3 then .iface 24 (.agg #[.int .i64 k, .int .i64 n, .string s]) else .nilIface) ∧ Below w.heap.size w w' := by
  have CN := Lib.hid (fun w => can_any k n s hs w)
  rw [hc] at CN
  have B0 := boxed1 w (.int .i64 k) (.int .i64 n) (.string s) 24
  have HB := Lib.hid B0.1.out
  have HT := Lib.hid B0.2
  clear B0 hs
  rcases kind_cases k with rfl | rfl | rfl | rfl | ⟨g0, g1, g2, g3⟩
  case inr.inr.inr.inr => rw [canB_else n s g0 g1 g2 g3] at hc; cases hc
  all_goals
    clear hc
    go_enter Tryd.func18, Tryd.ntmps18
    go_wp2_with fail
    refine (CN.out _).mono ?_
    rintro e w1 ⟨rfl, b1⟩
    have T1 := HT.out.below b1
    have c0 := T1.c0; have c1 := T1.c1; have c2 := T1.c2
    have B1 := Lib.hid (Below.step HB.out b1); clear b1 T1
    go_wp2_with fail
    go_ret
    exact ⟨rfl, B1.out⟩

theorem as_64_64 (n : Int) (w : World) : (Instr.typeAssert (.iface 2 (.int .i64 n)) 20 2 true).run Tryd.prog w = .ok (.tuple #[.int .i64 n, .bool true]) w := by kernel_rfl
theorem as_s_64 (s : ByteArray) (w : World) : (Instr.typeAssert (.iface 9 (.string s)) 20 2 true).run Tryd.prog w = .ok (.tuple #[.int .i64 0, .bool false]) w := by kernel_rfl
theorem as_s_s (s : ByteArray) (w : World) : (Instr.typeAssert (.iface 9 (.string s)) 20 9 true).run Tryd.prog w = .ok (.tuple #[.string s, .bool true]) w := by kernel_rfl
theorem as_c_64 (v : Value) (w : World) : (Instr.typeAssert (.iface 24 (v)) 20 2 true).run Tryd.prog w = .ok (.tuple #[.int .i64 0, .bool false]) w := by kernel_rfl
theorem as_c_s (v : Value) (w : World) : (Instr.typeAssert (.iface 24 (v)) 20 9 true).run Tryd.prog w = .ok (.tuple #[.string ⟨#[]⟩, .bool false]) w := by kernel_rfl
theorem as_c_c (v : Value) (w : World) : (Instr.typeAssert (.iface 24 (v)) 20 24 true).run Tryd.prog w = .ok (.tuple #[v, .bool true]) w := by kernel_rfl
theorem as_i_64 (n : Int) (w : World) : (Instr.typeAssert (.iface 3 (.int .i64 n)) 20 2 true).run Tryd.prog w = .ok (.tuple #[.int .i64 0, .bool false]) w := by kernel_rfl
theorem as_i_s (n : Int) (w : World) : (Instr.typeAssert (.iface 3 (.int .i64 n)) 20 9 true).run Tryd.prog w = .ok (.tuple #[.string ⟨#[]⟩, .bool false]) w := by kernel_rfl
theorem as_i_c (n : Int) (w : World) : (Instr.typeAssert (.iface 3 (.int .i64 n)) 20 24 true).run Tryd.prog w = .ok (.tuple #[.agg #[.int .i64 0, .int .i64 0, .string ⟨#[]⟩], .bool false]) w := by kernel_rfl

theorem from_nil (w : World) :
    Calls Tryd.prog 19 #[.nilIface] w fun e w' => e = .returned (.tuple #[.agg #[.int .i64 0, .int .i64 0, .string ⟨#[]⟩], .bool true]) ∧ Below w.heap.size w w' := by
  go_enter Tryd.func19, Tryd.ntmps19
  go_wp2_with fail
  refine bodyPost_ret (v := .tuple #[.agg #[.int .i64 0, .int .i64 0, .string ⟨#[]⟩], .bool true]) (by simp [results, Tryd.results19, go_sem]) rfl ⟨rfl, below_new _ _⟩

set_option maxHeartbeats 1000000 in
theorem from_int64 (n : Int) (w : World) :
    Calls Tryd.prog 19 #[.iface 2 (.int .i64 n)] w fun e w' => e = .returned (.tuple #[.agg #[.int .i64 1, .int .i64 n, .string ⟨#[]⟩], .bool true]) ∧ Below w.heap.size w w' := by
  have R0 := Lib.hid (tri_new w (.int .i64 0) (.int .i64 0) (.string ⟨#[]⟩) 24)
  have B0 := Lib.hid (below_new w (.cells #[.int .i64 0, .int .i64 0, .string ⟨#[]⟩] 24))
  have A1 := as_64_64 n
  have ON := Lib.hid (fun w => ofNum_any n w)
  go_enter Tryd.func19, Tryd.ntmps19
  go_wp2_with fail
  refine (ON.out _).mono ?_
  rintro e w1 ⟨rfl, b1⟩
  have R1 := Lib.hid (R0.out.below b1)
  have B1 := Lib.hid (Below.step B0.out b1); clear b1
  have c0 := R1.out.c0; have c1 := R1.out.c1; have c2 := R1.out.c2; have f0 := R1.out.f0; have f1 := R1.out.f1; have f2 := R1.out.f2
  go_wp2_with fail
  obtain ⟨e0, e1, e2, hb⟩ := tri_end R1.out B1.out (.int .i64 1) (.int .i64 n) (.string ⟨#[]⟩)
  refine bodyPost_ret (v := .tuple #[.agg #[.int .i64 1, .int .i64 n, .string ⟨#[]⟩], .bool true]) (by simp [results, Tryd.results19, go_sem, e0, e1, e2]) rfl ⟨rfl, hb⟩

set_option maxHeartbeats 1000000 in
theorem from_string (s : ByteArray) (w : World) :
    Calls Tryd.prog 19 #[.iface 9 (.string s)] w fun e w' => e = .returned (.tuple #[.agg #[.int .i64 2, .int .i64 0, .string s], .bool true]) ∧ Below w.heap.size w w' := by
  have R0 := Lib.hid (tri_new w (.int .i64 0) (.int .i64 0) (.string ⟨#[]⟩) 24)
  have B0 := Lib.hid (below_new w (.cells #[.int .i64 0, .int .i64 0, .string ⟨#[]⟩] 24))
  have A1 := as_s_64 s
  have A2 := as_s_s s
  have ON := Lib.hid (fun w => ofStr_any s w)
  go_enter Tryd.func19, Tryd.ntmps19
  go_wp2_with fail
  refine (ON.out _).mono ?_
  rintro e w1 ⟨rfl, b1⟩
  have R1 := Lib.hid (R0.out.below b1)
  have B1 := Lib.hid (Below.step B0.out b1); clear b1
  have c0 := R1.out.c0; have c1 := R1.out.c1; have c2 := R1.out.c2; have f0 := R1.out.f0; have f1 := R1.out.f1; have f2 := R1.out.f2
  go_wp2_with fail
  obtain ⟨e0, e1, e2, hb⟩ := tri_end R1.out B1.out (.int .i64 2) (.int .i64 0) (.string s)
  refine bodyPost_ret (v := .tuple #[.agg #[.int .i64 2, .int .i64 0, .string s], .bool true]) (by simp [results, Tryd.results19, go_sem, e0, e1, e2]) rfl ⟨rfl, hb⟩

set_option maxHeartbeats 1000000 in
theorem from_int (n : Int) (w : World) :
    Calls Tryd.prog 19 #[.iface 3 (.int .i64 n)] w fun e w' => e = .returned (.tuple #[.agg #[.int .i64 0, .int .i64 0, .string ⟨#[]⟩], .bool false]) ∧ Below w.heap.size w w' := by
  have A1 := as_i_64 n
  have A2 := as_i_s n
  have A3 := as_i_c n
  go_enter Tryd.func19, Tryd.ntmps19
  go_wp2_with fail
  refine bodyPost_ret (v := .tuple #[.agg #[.int .i64 0, .int .i64 0, .string ⟨#[]⟩], .bool false]) (by simp [results, Tryd.results19, go_sem]) rfl ⟨rfl, Below.step (below_new _ _) (below_new _ _)⟩

set_option maxHeartbeats 1000000 in
theorem from_number (n : Int) (w : World) :
    Calls Tryd.prog 19 #[.iface 24 (.agg #[.int .i64 1, .int .i64 n, .string ⟨#[]⟩])] w fun e w' => e = .returned (.tuple #[.agg #[.int .i64 0, .int .i64 0, .string ⟨#[]⟩], .bool false]) ∧ Below w.heap.size w w' := by
  have A1 := as_c_64 (.agg #[.int .i64 1, .int .i64 n, .string ⟨#[]⟩])
  have A2 := as_c_s (.agg #[.int .i64 1, .int .i64 n, .string ⟨#[]⟩])
  have A3 := as_c_c (.agg #[.int .i64 1, .int .i64 n, .string ⟨#[]⟩])
  go_enter Tryd.func19, Tryd.ntmps19
  go_wp2_with fail
  refine bodyPost_ret (v := .tuple #[.agg #[.int .i64 0, .int .i64 0, .string ⟨#[]⟩], .bool false]) (by simp [results, Tryd.results19, go_sem]) rfl ⟨rfl, Below.step (below_new _ _) (below_new _ _)⟩

set_option maxHeartbeats 1000000 in
theorem from_looks (n : Int) (s : ByteArray) (hs : s.size ≤ 281474976710656) (hc : canB 3 n s = true) (w : World) :
    Calls Tryd.prog 19 #[.iface 24 (.agg #[.int .i64 3, .int .i64 n, .string s])] w fun e w' => e = .returned (.tuple #[.agg #[.int .i64 3, .int .i64 n, .string s], .bool true]) ∧ Below w.heap.size w w' := by
  have A1 := as_c_64 (.agg #[.int .i64 3, .int .i64 n, .string s])
  have A2 := as_c_s (.agg #[.int .i64 3, .int .i64 n, .string s])
  have A3 := as_c_c (.agg #[.int .i64 3, .int .i64 n, .string s])
  have CN := Lib.hid (fun w => can_any 3 n s hs w)
  rw [hc] at CN
  clear hs hc
  have B0 := boxed2 w (.int .i64 0) (.int .i64 0) (.string ⟨#[]⟩) (.int .i64 3) (.int .i64 n) (.string s) 24 24
  have HB := Lib.hid B0.1.out
  have T0 := Lib.hid B0.2.1
  have T1 := Lib.hid B0.2.2
  clear B0
  go_enter Tryd.func19, Tryd.ntmps19
  go_wp2_with fail
  refine (CN.out _).mono ?_
  rintro e w1 ⟨rfl, b1⟩
  have R0 := Lib.hid (T0.out.below b1)
  have R1 := Lib.hid (T1.out.below b1)
  have B1 := Lib.hid (Below.step HB.out b1); clear b1
  have c0 := R0.out.c0; have c1 := R0.out.c1; have c2 := R0.out.c2; have f0 := R0.out.f0; have f1 := R0.out.f1; have f2 := R0.out.f2
  have d0 := R1.out.c0; have d1 := R1.out.c1; have d2 := R1.out.c2
  go_wp2_with fail
  obtain ⟨e0, e1, e2, hb⟩ := tri_end R0.out B1.out (.int .i64 3) (.int .i64 n) (.string s)
  refine bodyPost_ret (v := .tuple #[.agg #[.int .i64 3, .int .i64 n, .string s], .bool true]) (by simp [results, Tryd.results19, go_sem, e0, e1, e2]) rfl ⟨rfl, hb⟩

/-! ### lives -/
theorem lives_k : inK ⟨#[32, 49, 48, 32]⟩ = 3 := by decide +kernel
theorem lives_n : inN ⟨#[32, 49, 48, 32]⟩ = 10000000 := by decide +kernel
theorem lives_c : cmpC 3 10000000 ⟨#[32, 49, 48, 32]⟩ 1 9000000 ⟨#[]⟩ = 1 := by decide +kernel

set_option maxHeartbeats 2000000 in
theorem lives_any (w : World) :
    Calls Tryd.prog 9 #[] w fun e w' => e = .returned (.bool true) ∧ Below w.heap.size w w' := by
  have I := fun w => input_any ⟨#[32, 49, 48, 32]⟩ (by decide) w
  rw [lives_k, lives_n] at I
  have I := Lib.hid I
  have ON := Lib.hid (fun w => ofNum_any 9000000 w)
  have C := fun w => compare_cell 3 10000000 ⟨#[32, 49, 48, 32]⟩ 1 9000000 ⟨#[]⟩ (by decide) (by decide) w
  rw [lives_c] at C
  have C := Lib.hid C
  go_enter Tryd.func9, Tryd.ntmps9
  go_wp2_with fail
  refine (I.out _).mono ?_
  rintro e w1 ⟨rfl, b1⟩
  have H0 := Lib.hid (held1 (Below.step b1 (below_new w1 (.cells #[.int .i64 3, .int .i64 10000000, .string ⟨#[32, 49, 48, 32]⟩] 24))) (tri_new w1 (.int .i64 3) (.int .i64 10000000) (.string ⟨#[32, 49, 48, 32]⟩) 24))
  clear b1
  go_wp2_with fail
  go_region_held3 (fun w' => Hid (Below w.heap.size w w') ∧ w'.cell? ⟨w1.heap.size, 0, none⟩ = some (.int .i64 3) ∧ w'.cell? ⟨w1.heap.size, 1, none⟩ = some (.int .i64 10000000) ∧ w'.cell? ⟨w1.heap.size, 2, none⟩ = some (.string ⟨#[32, 49, 48, 32]⟩))
    (first | exact keep1 H0.out (below_drew _) | exact keep1 (by assumption) (by assumption) | assumption)
    (first
      | (go_at_call 20; refine (ON.out _).mono ?_; rintro e w2 ⟨rfl, b2⟩)
      | (go_at_call 16; refine (C.out _).mono ?_; rintro e w2 ⟨rfl, b2⟩))
  have HE := Lib.hid (And.left (show Hid _ ∧ _ by assumption))
  go_wp2_with fail
  go_ret
  exact ⟨rfl, HE.out.out⟩
end Go.Proofs.YtpmfkmolbioomaaDoor
