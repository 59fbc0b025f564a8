/- Merged by program: DRow, G10Fill. -/
import Derived.Test.YtbbhcbpfffabpaaGreatDoorGau
import Derived.Test.YtbbhcbpfffabpaaGreatDoorGac
/- The document's directive in memory. -/
namespace Go.Proofs.YtbbhcbpfffabpaaGreatDoor
open Go.RowKit

/-- The block D holds a directive of the document's. -/
def DRow (w : World) (D : Nat) (d : Dir) : Prop := w.heap[D]? = some (.cells d.cells 70 (0, 0))
theorem DRow.lt {w : World} {D : Nat} {d : Dir} (h : DRow w D d) : D < w.heap.size := (Array.getElem?_eq_some_iff.1 h).1
theorem DRow.but {w w' : World} {D : Nat} {d : Dir} (h : DRow w D d) {P : Nat → Prop} (hb : But P w w') (hD : ¬ P D) : DRow w' D d := by
  unfold DRow
  rw [hb.block D h.lt hD]; exact h
theorem DRow.below {w w' : World} {D : Nat} {d : Dir} (h : DRow w D d) (hb : Below w.heap.size w w') : DRow w' D d :=
  h.but (P := fun _ => False) (But.of hb) id
theorem DRow.z {w : World} {D : Nat} {d : Dir} (h : DRow w D d) (j : Nat) : w.frozen? ⟨D, j, none⟩ = false := frozen_of_row _ _ j _ _ h
theorem DRow.c0 {w : World} {D : Nat} {d : Dir} (h : DRow w D d) : w.cell? ⟨D, 0, none⟩ = some (.bool d.left) := cell_of_row _ _ 0 _ _ _ h
theorem DRow.put0 {w : World} {D : Nat} {d : Dir} (h : DRow w D d) (x : Bool) : DRow (w.setCell ⟨D, 0, none⟩ (.bool x)) D { d with left := x } := by
  unfold DRow
  rw [heap_setCell_same _ _ 0 _ _ _ h]; rfl
theorem DRow.c1 {w : World} {D : Nat} {d : Dir} (h : DRow w D d) : w.cell? ⟨D, 1, none⟩ = some (.bool d.plus) := cell_of_row _ _ 1 _ _ _ h
theorem DRow.put1 {w : World} {D : Nat} {d : Dir} (h : DRow w D d) (x : Bool) : DRow (w.setCell ⟨D, 1, none⟩ (.bool x)) D { d with plus := x } := by
  unfold DRow
  rw [heap_setCell_same _ _ 1 _ _ _ h]; rfl
theorem DRow.c2 {w : World} {D : Nat} {d : Dir} (h : DRow w D d) : w.cell? ⟨D, 2, none⟩ = some (.bool d.blank) := cell_of_row _ _ 2 _ _ _ h
theorem DRow.put2 {w : World} {D : Nat} {d : Dir} (h : DRow w D d) (x : Bool) : DRow (w.setCell ⟨D, 2, none⟩ (.bool x)) D { d with blank := x } := by
  unfold DRow
  rw [heap_setCell_same _ _ 2 _ _ _ h]; rfl
theorem DRow.c3 {w : World} {D : Nat} {d : Dir} (h : DRow w D d) : w.cell? ⟨D, 3, none⟩ = some (.bool d.zero) := cell_of_row _ _ 3 _ _ _ h
theorem DRow.put3 {w : World} {D : Nat} {d : Dir} (h : DRow w D d) (x : Bool) : DRow (w.setCell ⟨D, 3, none⟩ (.bool x)) D { d with zero := x } := by
  unfold DRow
  rw [heap_setCell_same _ _ 3 _ _ _ h]; rfl
theorem DRow.c4 {w : World} {D : Nat} {d : Dir} (h : DRow w D d) : w.cell? ⟨D, 4, none⟩ = some (.int .i64 d.wide) := cell_of_row _ _ 4 _ _ _ h
theorem DRow.put4 {w : World} {D : Nat} {d : Dir} (h : DRow w D d) (x : Int) : DRow (w.setCell ⟨D, 4, none⟩ (.int .i64 x)) D { d with wide := x } := by
  unfold DRow
  rw [heap_setCell_same _ _ 4 _ _ _ h]; rfl
theorem DRow.c5 {w : World} {D : Nat} {d : Dir} (h : DRow w D d) : w.cell? ⟨D, 5, none⟩ = some (.int .i64 d.prec) := cell_of_row _ _ 5 _ _ _ h
theorem DRow.put5 {w : World} {D : Nat} {d : Dir} (h : DRow w D d) (x : Int) : DRow (w.setCell ⟨D, 5, none⟩ (.int .i64 x)) D { d with prec := x } := by
  unfold DRow
  rw [heap_setCell_same _ _ 5 _ _ _ h]; rfl
theorem DRow.c6 {w : World} {D : Nat} {d : Dir} (h : DRow w D d) : w.cell? ⟨D, 6, none⟩ = some (.int .u8 (d.letter : Int)) := cell_of_row _ _ 6 _ _ _ h
theorem DRow.put6 {w : World} {D : Nat} {d : Dir} (h : DRow w D d) (x : Nat) : DRow (w.setCell ⟨D, 6, none⟩ (.int .u8 (x : Int))) D { d with letter := x } := by
  unfold DRow
  rw [heap_setCell_same _ _ 6 _ _ _ h]; rfl
theorem DRow.all {w : World} {D : Nat} {T : Dir} (h : DRow w D T) : w.cell? ⟨D, 0, none⟩ = some (.bool T.left) ∧ w.cell? ⟨D, 1, none⟩ = some (.bool T.plus) ∧ w.cell? ⟨D, 2, none⟩ = some (.bool T.blank) ∧ w.cell? ⟨D, 3, none⟩ = some (.bool T.zero) ∧ w.cell? ⟨D, 4, none⟩ = some (.int .i64 T.wide) ∧ w.cell? ⟨D, 5, none⟩ = some (.int .i64 T.prec) ∧ w.cell? ⟨D, 6, none⟩ = some (.int .u8 (T.letter : Int)) :=
  ⟨h.c0, h.c1, h.c2, h.c3, h.c4, h.c5, h.c6⟩
theorem info_D : (Tryz.prog.info? 70).map (·.size) = some 7 := by kernel_rfl
/-- A directive that says nothing yet. -/
def newD : Dir := ⟨false, false, false, false, 0, -1, 0⟩
/-- How far a directive is read: its block, what is w but for new blocks. -/
structure RdN (w wx : World) (d : Dir) : Prop where
  dir : DRow wx (w.heap.size + 1) d
  res : wx.heap[w.heap.size]? = some (.cells zeroD.cells 70 (0, 0))
  below : Below w.heap.size w wx
theorem RdN.lt {w wx : World} {d : Dir} (h : RdN w wx d) : w.heap.size + 1 < wx.heap.size := h.dir.lt
theorem RdN.next {w wx w' : World} {d : Dir} (h : RdN w wx d) (hb : Below wx.heap.size wx w') : RdN w w' d := by
  have := h.lt
  exact ⟨h.dir.below hb, by rw [hb.block _ (by omega)]; exact h.res, Below.step h.below hb⟩
theorem RdN.but {w wx w' : World} {d d' : Dir} (h : RdN w wx d) (hb : But (· = w.heap.size + 1) wx w') (hd : DRow w' (w.heap.size + 1) d') : RdN w w' d' := by
  have := h.lt
  exact ⟨hd, by rw [hb.block _ (by omega) (by omega)]; exact h.res, But.below h.below hb (fun k hk => by omega) (by omega)⟩
theorem rdn_start (w : World) (d : Dir) : RdN w ((w.alloc (.cells #[.bool false, .bool false, .bool false, .bool false, .int .i64 0, .int .i64 0, .int .u8 0] 70)).alloc (.cells d.cells 70)) d := by
  have h1 := heap_alloc_last w (.cells #[.bool false, .bool false, .bool false, .bool false, .int .i64 0, .int .i64 0, .int .u8 0] 70)
  have h2 := heap_alloc_last (w.alloc (.cells #[.bool false, .bool false, .bool false, .bool false, .int .i64 0, .int .i64 0, .int .u8 0] 70)) (.cells d.cells 70)
  rw [World.size_alloc] at h2
  have hb := below_new (w.alloc (.cells #[.bool false, .bool false, .bool false, .bool false, .int .i64 0, .int .i64 0, .int .u8 0] 70)) (.cells d.cells 70)
  exact ⟨h2, by rw [hb.block _ (by rw [World.size_alloc]; omega)]; exact h1, Below.step (below_new _ _) hb⟩
end Go.Proofs.YtbbhcbpfffabpaaGreatDoor

/- The document's digits, Fill of layer 10: walks. -/
namespace Go.Proofs.YtbbhcbpfffabpaaGreatDoor
open Go.RowKit

set_option maxRecDepth 100000 in
theorem fill_any (x : UInt8) (k : Int) (hk : k ≤ 1000000) (w : World) :
    Calls Tryz.prog 88 #[.string ⟨#[x]⟩, .int .i64 k] w fun e w' => e = .returned (.string ⟨(List.replicate k.toNat x).toArray⟩) ∧ w' = w := by
  obtain ⟨c, hc⟩ : ∃ c : ByteArray, c = ⟨#[x]⟩ := ⟨_, rfl⟩
  rw [← hc]
  have hcs : c.size = 1 := by rw [hc]; rfl
  have HC := Lib.hid hc
  clear hc
  go_enter Tryz.func88, Tryz.ntmps88
  go_wp2_with fail
  go_loopw [5, 6] (fun y z wr => ∃ (i : Nat) (X : ByteArray), y = .string X ∧ z = .int .i64 i ∧ i ≤ k.toNat ∧ X.size ≤ i ∧ Hid (X.data.toList = List.replicate i x) ∧ wr = w) (fun _ z _ => k.toNat - (intOf z).toNat)
  case atStart => exact ⟨0, ⟨#[]⟩, rfl, rfl, by omega, Nat.le_refl _, Lib.hid rfl, rfl⟩
  case round =>
    obtain ⟨i, X, rfl, rfl, hi, hXs, hX, hwr⟩ := hrel
    subst hwr
    by_cases hlt : (i : Int) < k
    · have d1 : decide ((i : Int) < k) = true := decide_eq_true hlt
      have n1 : ¬ 9223372036854775807 < X.size + c.size := by omega
      have HX2 : Hid ((X ++ c).data.toList = List.replicate (i + 1) x) := Lib.hid (by
        have e : (X ++ c).data.toList = X.data.toList ++ c.data.toList := by simp
        rw [e, hX.out, HC.out, List.replicate_succ'])
      have HXn : Hid ((X ++ c).size ≤ i + 1) := Lib.hid (by rw [ByteArray.size_append]; omega)
      clear hX
      go_wp2_with fail
      go_roundw
      case rel => exact ⟨i + 1, X ++ c, rfl, by go_num, by omega, HXn.out, HX2, trivial⟩
      case measure => simp [intOf]; omega
    · have d1 : decide ((i : Int) < k) = false := decide_eq_false hlt
      have hE : Hid (X = ⟨(List.replicate k.toNat x).toArray⟩) := Lib.hid (by
        rw [show k.toNat = i from by omega, ← hX.out])
      clear hX
      go_wp2_with fail
      go_ret
      have h := hE.out
      exact ⟨by show Ending.returned (Value.string X) = _; rw [h]; simp, rfl⟩

set_option maxRecDepth 100000 in
theorem rdigs_any (f : ByteArray) (i : Nat) (hi : i ≤ f.size) (hs : f.size ≤ 1000000) (w : World) :
    Calls Tryz.prog 84 #[.string f, .int .i64 i] w fun e w' => e = .returned (.tuple #[.int .i64 (digs (f.data.toList.drop i) 0).1, .int .i64 ((i + (digs (f.data.toList.drop i) 0).2 : Nat) : Int)]) ∧ w' = w := by
  obtain ⟨A, hA⟩ : ∃ A, A = digs (f.data.toList.drop i) 0 := ⟨_, rfl⟩
  rw [← hA]
  have HA := Lib.hid hA
  clear hA
  go_enter Tryz.func84, Tryz.ntmps84
  go_wp2_with fail
  go_loopw [1, 6] (fun y z wr => ∃ (j n : Nat), y = .int .i64 j ∧ z = .int .i64 n ∧ i ≤ j ∧ j ≤ f.size ∧ n ≤ 201 ∧ Hid (A = ((digs (f.data.toList.drop j) n).1, (j - i) + (digs (f.data.toList.drop j) n).2)) ∧ wr = w) (fun y _ _ => f.size - (intOf y).toNat)
  case atStart => exact ⟨i, 0, rfl, rfl, Nat.le_refl _, hi, by omega, Lib.hid (by rw [HA.out, Nat.sub_self, Nat.zero_add]), rfl⟩
  case round =>
    obtain ⟨j, n, rfl, rfl, hij, hj, hn, hE, hwr⟩ := hrel
    subst hwr
    by_cases hlt : j < f.size
    · have d1 : decide ((j : Int) < f.size) = true := decide_eq_true (by omega)
      have hdr : f.data.toList.drop j = f[j] :: f.data.toList.drop (j + 1) := List.drop_eq_getElem_cons (by simpa using hlt)
      have hb : f[j].toNat < 256 := f[j].toNat_lt
      by_cases h48 : 48 ≤ f[j].toNat
      · have d2 : decide ((48 : Int) ≤ (f[j].toNat : Int)) = true := decide_eq_true (by omega)
        by_cases h57 : f[j].toNat ≤ 57
        · have d3 : decide ((f[j].toNat : Int) ≤ 57) = true := decide_eq_true (by omega)
          have hw1 : IntKind.u8.wrap ((f[j].toNat : Int) - 48) = (f[j].toNat : Int) - 48 := by rw [IntKind.wrap_u8]; omega
          have hw2 : IntKind.i64.wrap ((f[j].toNat : Int) - 48) = (f[j].toNat : Int) - 48 := by rw [IntKind.wrap_i64]; omega
          have hdg : digs (f.data.toList.drop j) n = ((digs (f.data.toList.drop (j + 1)) (if 200 < n * 10 + (f[j].toNat - 48) then 201 else n * 10 + (f[j].toNat - 48))).1, (digs (f.data.toList.drop (j + 1)) (if 200 < n * 10 + (f[j].toNat - 48) then 201 else n * 10 + (f[j].toNat - 48))).2 + 1) := by
            rw [hdr]
            show (if _ then _ else _) = _
            rw [if_pos ⟨h48, h57⟩]
          by_cases h200 : 200 < n * 10 + (f[j].toNat - 48)
          · have d4 : decide ((200 : Int) < (n : Int) * 10 + ((f[j].toNat : Int) - 48)) = true := decide_eq_true (by omega)
            have HE2 : Hid (A = ((digs (f.data.toList.drop (j + 1)) 201).1, j + 1 - i + (digs (f.data.toList.drop (j + 1)) 201).2)) := Lib.hid (by
              rw [hE.out, hdg, if_pos h200]
              show (_, _) = (_, _)
              rw [show j - i + ((digs (f.data.toList.drop (j + 1)) 201).2 + 1) = j + 1 - i + (digs (f.data.toList.drop (j + 1)) 201).2 from by omega])
            clear hE hdg hdr h200
            go_wp2_with fail
            go_roundw
            case rel => exact ⟨j + 1, 201, by go_num, rfl, by omega, by omega, Nat.le_refl _, HE2, trivial⟩
            case measure => simp [intOf]; omega
          · have d4 : decide ((200 : Int) < (n : Int) * 10 + ((f[j].toNat : Int) - 48)) = false := decide_eq_false (by omega)
            have HE2 : Hid (A = ((digs (f.data.toList.drop (j + 1)) (n * 10 + (f[j].toNat - 48))).1, j + 1 - i + (digs (f.data.toList.drop (j + 1)) (n * 10 + (f[j].toNat - 48))).2)) := Lib.hid (by
              rw [hE.out, hdg, if_neg h200]
              show (_, _) = (_, _)
              rw [show j - i + ((digs (f.data.toList.drop (j + 1)) (n * 10 + (f[j].toNat - 48))).2 + 1) = j + 1 - i + (digs (f.data.toList.drop (j + 1)) (n * 10 + (f[j].toNat - 48))).2 from by omega])
            have hn2 : n * 10 + (f[j].toNat - 48) ≤ 201 := by omega
            clear hE hdg hdr h200
            go_wp2_with fail
            go_roundw
            case rel => exact ⟨j + 1, n * 10 + (f[j].toNat - 48), by go_num, by go_num, by omega, by omega, hn2, HE2, trivial⟩
            case measure => simp [intOf]; omega
        · have d3 : decide ((f[j].toNat : Int) ≤ 57) = false := decide_eq_false (by omega)
          have hEE : Hid (A = (n, j - i)) := Lib.hid (by
            rw [hE.out, hdr]
            have e : digs (f[j] :: f.data.toList.drop (j + 1)) n = (n, 0) := by
              show (if _ then _ else _) = _
              rw [if_neg (by omega)]
            rw [e]; rfl)
          clear hE hdr
          go_wp2_with fail
          go_ret2
          exact ⟨by rw [hEE.out]; show _ = Ending.returned (.tuple #[.int .i64 (n : Nat), .int .i64 ((i + (j - i) : Nat) : Int)]); rw [show i + (j - i) = j from by omega]; rfl, rfl⟩
      · have d2 : decide ((48 : Int) ≤ (f[j].toNat : Int)) = false := decide_eq_false (by omega)
        have hEE : Hid (A = (n, j - i)) := Lib.hid (by
          rw [hE.out, hdr]
          have e : digs (f[j] :: f.data.toList.drop (j + 1)) n = (n, 0) := by
            show (if _ then _ else _) = _
            rw [if_neg (by omega)]
          rw [e]; rfl)
        clear hE hdr
        go_wp2_with fail
        go_ret2
        exact ⟨by rw [hEE.out]; show _ = Ending.returned (.tuple #[.int .i64 (n : Nat), .int .i64 ((i + (j - i) : Nat) : Int)]); rw [show i + (j - i) = j from by omega]; rfl, rfl⟩
    · have d1 : decide ((j : Int) < f.size) = false := decide_eq_false (by omega)
      have hEE : Hid (A = (n, j - i)) := Lib.hid (by
        have hdr : f.data.toList.drop j = [] := List.drop_eq_nil_of_le (by simp; omega)
        rw [hE.out, hdr]; rfl)
      clear hE
      go_wp2_with fail
      go_ret2
      exact ⟨by rw [hEE.out]; show _ = Ending.returned (.tuple #[.int .i64 (n : Nat), .int .i64 ((i + (j - i) : Nat) : Int)]); rw [show i + (j - i) = j from by omega]; rfl, rfl⟩
end Go.Proofs.YtbbhcbpfffabpaaGreatDoor
