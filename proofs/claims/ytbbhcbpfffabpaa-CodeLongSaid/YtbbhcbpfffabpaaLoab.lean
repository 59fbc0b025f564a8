/- Merged by program: C15L. -/
import Derived.Deep.OwnRows
import Derived.Test.YtbbhcbpfffabpaaGaz
/- The law CodeLong over the program's contracts: the walk. -/
namespace Go.Proofs.Ytbbhcbpfffabpaa
open Go.RowKit T3

def zeroB (n : Nat) : ByteArray := ⟨(List.replicate n (0 : UInt8)).toArray⟩
theorem zeroB_size (n : Nat) : (zeroB n).size = n := by
  show (List.replicate n (0 : UInt8)).toArray.size = n
  simp
theorem info_u8 : (Try.prog.info? 5).map (fun i => (i.zero, i.size, i.bytes)) = some (some (.int .u8 0), 1, 1) := by kernel_rfl
/-- A row of zero bytes. -/
def ZeroAt (w : World) (g n : Nat) : Prop := w.heap[g]? = some (.cells (madeCells #[Value.int .u8 0] n) 5 (0, 0))
theorem ZeroAt.after {w w' : World} {g n : Nat} (h : ZeroAt w g n) (hb : Below w.heap.size w w') : ZeroAt w' g n := by
  unfold ZeroAt at h ⊢
  rw [hb.block g (Array.getElem?_eq_some_iff.1 h).1]; exact h
theorem zero_conv {w : World} {g n : Nat} (h : ZeroAt w g n) : (convert 42 9 (.slice (some ⟨g, 0, none⟩) n n)).run Try.prog w = .ok (.string (zeroB n)) w := by
  have hl : (List.replicate n (0 : UInt8)).length = n := List.length_replicate
  have h0 := run_convert_bytes_back (P := Try.prog) w 42 9 5 ⟨g, 0, none⟩ n (List.replicate n (0 : UInt8)) Try.underlying42 Try.underlying5 Try.underlying9 ?_
  · rw [hl] at h0
    exact h0
  · intro j hj
    rw [hl] at hj
    rw [Addr.add_lit, Nat.zero_add, cell_of_row _ _ j _ _ _ h, ← Array.getElem?_toList, toList_madeCells_one]
    simp [hj]

theorem two_rows (w : World) (a b : Array Value) (T : TypeId) : (((w.alloc (.cells a T)).alloc (.cells b T)).drew).heap[w.heap.size]? = some (.cells a T (0, 0)) ∧ (((w.alloc (.cells a T)).alloc (.cells b T)).drew).heap[w.heap.size + 1]? = some (.cells b T (0, 0)) ∧ Below w.heap.size w (((w.alloc (.cells a T)).alloc (.cells b T)).drew) := by
  have s1 : (w.alloc (.cells a T)).heap.size = w.heap.size + 1 := World.size_alloc _ _
  have b1 := below_new w (.cells a T)
  have b2 := below_new (w.alloc (.cells a T)) (.cells b T)
  have h1 := heap_alloc_last w (.cells a T)
  have h2 := heap_alloc_last (w.alloc (.cells a T)) (.cells b T)
  rw [s1] at h2
  exact ⟨(b2.block w.heap.size (by omega)).trans h1, h2, Below.step (Below.step b1 b2) (below_drew _)⟩

set_option maxRecDepth 100000 in
set_option maxHeartbeats 2000000 in
theorem long_walk (H : CodeOk) (n m : Nat) (hn : n ≤ 65535) (hm : m ≤ 65535) (w : World) :
    Calls Try.prog 6 #[.int .u16 n, .int .u16 m] w fun e w' => e = .returned (.bool true) ∧ Below w.heap.size w w' := by
  have HI := info_cell
  have HLV := Lib.hid (fun w => lives15 H w)
  have hf0 : Fits 0 := by unfold Fits; omega
  have HJ := Lib.hid (fun w => H.join 2 0 (zeroB n) 2 0 (zeroB m) w hf0 hf0 rfl rfl (by rw [zeroB_size]; omega) (by rw [zeroB_size]; omega))
  clear H
  have hmn := run_make_row' (P := Try.prog) 42 5 (.int .u8 0) 1 Try.underlying42 info_u8 rfl .i64 .i64 n (by omega) (by omega)
  have hmm := run_make_row' (P := Try.prog) 42 5 (.int .u8 0) 1 Try.underlying42 info_u8 rfl .i64 .i64 m (by omega) (by omega)
  go_enter Try.func6, Try.ntmps6
  go_upto_region 1 with (fail)
  go_cut [5, 6] from 9 to 15 (fun x y wx => ∃ g1 g2 : Nat, x = .slice (some ⟨g1, 0, none⟩) n n ∧ y = .slice (some ⟨g2, 0, none⟩) m m ∧ Hid (ZeroAt wx g1 n ∧ ZeroAt wx g2 m ∧ Below w.heap.size w wx))
  case first =>
    go_region
    · go_wp2_with fail
      go_meet
      obtain ⟨h1, h2, hb⟩ := two_rows w (madeCells #[Value.int .u8 0] n) (madeCells #[Value.int .u8 0] m) 5
      exact ⟨w.heap.size, w.heap.size + 1, rfl, rfl, Lib.hid ⟨h1, h2, hb⟩⟩
    · go_wp2_with fail
      go_meet
      obtain ⟨h1, h2, hb⟩ := two_rows w (madeCells #[Value.int .u8 0] m) (madeCells #[Value.int .u8 0] n) 5
      exact ⟨w.heap.size + 1, w.heap.size, rfl, rfl, Lib.hid ⟨h2, h1, hb⟩⟩
  case rest =>
    obtain ⟨g1, g2, rfl, rfl, HZ⟩ := hcut
    have k1 := zero_conv HZ.out.1
    have k2 := zero_conv HZ.out.2.1
    clear hmn hmm
    obtain ⟨x, hx⟩ : ∃ x, x = zeroB n := ⟨_, rfl⟩
    obtain ⟨y, hy⟩ : ∃ y, y = zeroB m := ⟨_, rfl⟩
    have hxs : x.size = n := by rw [hx]; exact zeroB_size n
    have hys : y.size = m := by rw [hy]; exact zeroB_size m
    rw [← hx] at HJ k1
    rw [← hy] at HJ k2
    have HXY : Hid ((x ++ y).size = n + m) := Lib.hid (by rw [ByteArray.size_append, hxs, hys])
    clear hx hy
    by_cases hg : n + m ≤ 65536
    · have HJ2 := Lib.hid (fun w => by have h := HJ.out w; rw [show strA (strC 2 0 x ++ strC 2 0 y) = twoC 2 0 (x ++ y) 0 from if_pos (by show (x ++ y).size ≤ 65536; rw [HXY.out]; exact hg)] at h; exact h)
      have d1 : decide ((65536 : Int) < (n : Int) + m) = false := decide_eq_false (by omega)
      clear HJ hxs hys
      go_wp2_with fail
      refine (HJ2.out _).mono ?_
      rintro e w1 ⟨rfl, bb⟩
      have B1 := Lib.hid (Below.step HZ.out.2.2 bb)
      obtain ⟨z, hz⟩ : ∃ z, z = x ++ y := ⟨_, rfl⟩
      rw [← hz] at HXY ⊢
      have hzs : z.size = n + m := HXY.out
      unfold twoC
      clear bb k1 k2 HJ2 HZ hz HXY
      go_upto_region 3 with (refine wpList_store_row rfl 23 (.tmp 7) (.tmp 23) rfl w1.heap.size (cellC 2 0 z) rfl rfl 23 zeroC (heap_alloc_last _ _) HI rfl (cell_one3 _ _ _) ?_)
      obtain ⟨w2, hW2, X2, B2⟩ : ∃ w2, w2 = (w1.alloc (.cells zeroC 23)).setRow w1.heap.size (cellC 2 0 z) ∧ Hid (Cx w2 w1.heap.size (cellC 2 0 z)) ∧ Hid (Below w1.heap.size w1 w2) :=
        ⟨_, rfl, Lib.hid (Cx.setRow (cs := zeroC) ⟨heap_alloc_last _ _⟩ _), Lib.hid (below_row (below_new w1 _) (Nat.le_refl _) _)⟩
      change Code.wp _ _ _ _ ((w1.alloc (.cells zeroC 23)).setRow w1.heap.size (cellC 2 0 z))
      rw [← hW2]
      try simp only [Act.put]
      clear hW2
      obtain ⟨a0, a1, a2⟩ := three_of X2.out
      go_wp2_with fail
      refine (HLV.out _).mono ?_
      rintro e w3 ⟨rfl, b3⟩
      have B3 := Lib.hid (Below.step B1.out (Below.step B2.out b3))
      clear b3 a0 a1 a2
      go_wp2_with fail
      go_ret
      exact ⟨rfl, B3.out⟩
    · have HJ2 := Lib.hid (fun w => by have h := HJ.out w; rw [show strA (strC 2 0 x ++ strC 2 0 y) = twoC 0 0 ⟨#[]⟩ 2 from if_neg (by show ¬ (x ++ y).size ≤ 65536; rw [HXY.out]; exact hg)] at h; exact h)
      have d1 : decide ((65536 : Int) < (n : Int) + m) = true := decide_eq_true (by omega)
      clear HJ hxs hys
      go_wp2_with fail
      refine (HJ2.out _).mono ?_
      rintro e w1 ⟨rfl, bb⟩
      have B1 := Lib.hid (Below.step HZ.out.2.2 bb)
      unfold twoC
      clear bb k1 k2 HJ2 HZ HXY
      go_upto_region 3 with (refine wpList_store_row rfl 23 (.tmp 7) (.tmp 23) rfl w1.heap.size (cellC 0 0 ⟨#[]⟩) rfl rfl 23 zeroC (heap_alloc_last _ _) HI rfl (cell_one3 _ _ _) ?_)
      obtain ⟨w2, hW2, X2, B2⟩ : ∃ w2, w2 = (w1.alloc (.cells zeroC 23)).setRow w1.heap.size (cellC 0 0 ⟨#[]⟩) ∧ Hid (Cx w2 w1.heap.size (cellC 0 0 ⟨#[]⟩)) ∧ Hid (Below w1.heap.size w1 w2) :=
        ⟨_, rfl, Lib.hid (Cx.setRow (cs := zeroC) ⟨heap_alloc_last _ _⟩ _), Lib.hid (below_row (below_new w1 _) (Nat.le_refl _) _)⟩
      change Code.wp _ _ _ _ ((w1.alloc (.cells zeroC 23)).setRow w1.heap.size (cellC 0 0 ⟨#[]⟩))
      rw [← hW2]
      try simp only [Act.put]
      clear hW2
      obtain ⟨a0, a1, a2⟩ := three_of X2.out
      go_wp2_with fail
      refine (HLV.out _).mono ?_
      rintro e w3 ⟨rfl, b3⟩
      have B3 := Lib.hid (Below.step B1.out (Below.step B2.out b3))
      clear b3 a0 a1 a2
      go_wp2_with fail
      go_ret
      exact ⟨rfl, B3.out⟩
end Go.Proofs.Ytbbhcbpfffabpaa
