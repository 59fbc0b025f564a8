/- append of a text behind a row whose head may be frozen: with where the new row lies; maps of names: look-up and update, in whatever order. -/
import Derived.Test.YtpifpokbkjddjaaGreatBase
import Derived.Lib.FrozenHead
import Derived.Maps.OwnOps
import Derived.MapKept
namespace Go.Proofs.YtpifpokbkjddjaaGreat
open Go.RowKit

section
variable {P : Program} (w : World)
theorem run_append_str_at (base : Nat) (t u ty e : TypeId) (i : TypeInfo) (ht : P.underlying t = some (.slice e)) (hu : P.underlying u = some .string) (hi : P.info? e = some i) (hz : i.zero = some (.int .u8 0))
    (hsize : i.size = 1) (hby : i.bytes = 1) (v : Value) (n : Nat) (xs : List Value) (hown : w.ownsRowF base e 1 v n xs) (s : ByteArray)
    (h63 : n + s.size ≤ maxLen) (hbytes : n + s.size ≤ 140737488355328) (hbase : base ≤ w.heap.size) :
    ∃ v' w', (Builtin.append_ #[t, u] ty #[v, .string s]).run P w = .ok v' w' ∧ w'.ownsRowF base e 1 v' (n + s.size) (xs ++ Lib.strCells s) ∧ w.grownBy w' v.ownBlock ∧
      (v' = .slice none 0 0 ↔ v = .slice none 0 0 ∧ s.size = 0) ∧ ∀ k, v'.ownBlock = some k → v.ownBlock = some k ∨ w.heap.size ≤ k := by
  rcases hown.2 with ⟨rfl, rfl⟩ | ⟨g, cap, cur, fz, rfl, hbg, hg, hfz, hnc, hcm, hcs, htake⟩
  · obtain ⟨v', w', h1, h2, h3, h4⟩ := Lib.run_append_own_string (P := P) w w.heap.size t u ty e i ht hu hi hz hsize hby (.slice none 0 0) 0 xs ⟨hown.1, .inl ⟨rfl, rfl⟩⟩ s h63 hbytes (Nat.le_refl _)
    refine ⟨v', w', h1, World.ownsRowF_of ⟨h2.1, ?_⟩, h3, h4, fun k hk => Or.inr ?_⟩
    · rcases h2.2 with h | ⟨g, cap, cur, a, b, r⟩
      · exact Or.inl h
      · exact Or.inr ⟨g, cap, cur, a, Nat.le_trans hbase b, r⟩
    · rcases h2.2 with ⟨rfl, _⟩ | ⟨g, cap, cur, rfl, b, r⟩
      · simp [Value.ownBlock] at hk
      · simp [Value.ownBlock] at hk
        omega
  · have hxl : xs.length = n := by simpa using hown.1
    have hlen : (xs ++ Lib.strCells s).length = (n + s.size) * 1 := by rw [List.length_append, hxl, Lib.strCells_length, Nat.mul_one]
    have hsmall : n + s.size ≤ 9223372036854775807 := by simp only [maxLen] at h63; omega
    by_cases hroom : n + s.size ≤ cap
    · have hcs' : cur.size = cap := by simpa using hcs
      have hr := Lib.run_append_room_stringF (P := P) w t u ty e i ht hu hi hsize g n cap cur fz hg (by simpa using hfz) s hroom (by omega)
      refine ⟨_, _, hr, ⟨hlen, .inr ⟨g, cap, _, fz, rfl, hbg, setRow_heap w g cur _ e _ hg, by omega, hroom, hcm, ?_, ?_⟩⟩, ⟨rfl, rfl, rfl, by simp, fun k _ hk => setRow_other w g k _ (fun e => hk (by simp [Value.ownBlock, e]))⟩, by simp, fun k hk => Or.inl hk⟩
      · simp only [List.size_toArray, List.length_append, List.length_take, List.length_drop, Array.length_toList, Lib.strCells_length]
        omega
      · have ht' : cur.toList.take n = xs := by simpa using htake
        rw [ht', ← hlen]
        exact List.take_left
    · have holds : ∀ j u, xs[j]? = some u → w.cell? ((⟨g, 0, none⟩ : Addr).add j) = some u := hown.cells (g := g) rfl
      have hr := Lib.run_append_grow_string (P := P) w t u ty e i (.int .u8 0) ht hu hi hz ⟨g, 0, none⟩ n cap xs (by rw [hsize]; simpa using hxl) holds s (by omega) (by omega) (by rw [hby]; exact growslice_fits (by omega) (by omega))
      have hge := grownCap_ge w (n + s.size) cap e
      have hcm2 : grownCap w (n + s.size) cap e ≤ maxLen := grownCap_le_maxLen w (n + s.size) cap e h63
      refine ⟨_, _, hr, ⟨hlen, .inr ⟨w.heap.size, _, _, (0, 0), rfl, hbase, heap_alloc_new w.drew _, Nat.zero_le _, hge, hcm2, ?_, ?_⟩⟩, ⟨rfl, rfl, rfl, by simp, fun k hk _ => (MapKept.heap_alloc w.drew _).2 k hk⟩, by simp, fun k hk => Or.inr (by simp [Value.ownBlock] at hk; omega)⟩
      · have hz1 : (Value.int IntKind.u8 0).cells.size = 1 := rfl
        simp only [Array.size_append, List.size_toArray, size_zeroCells, hz1, hxl, Lib.strCells_length]
        omega
      · simp only [Array.toList_append, List.append_assoc]
        rw [← List.append_assoc, ← hlen]
        exact List.take_left
theorem wpList_append_str_at {ops : Array Oper} {rest : List Oper} {o : Oper} {a : Act} {Q : Exit → Act → World → Prop} (hgd : o.guard = none) (sl x : Operand) (t u : TypeId)
    (ho : o.op = .call { callee := .builtin .append, args := #[sl, x], argTypes := #[t, u] })
    (base : Nat) (e : TypeId) (i : TypeInfo) (ht : P.underlying t = some (.slice e)) (hu : P.underlying u = some .string) (hi : P.info? e = some i) (hz : i.zero = some (.int .u8 0))
    (hsize : i.size = 1) (hby : i.bytes = 1)
    (v : Value) (n : Nat) (xs : List Value) (hs : a.eval sl = v) (hown : w.ownsRowF base e 1 v n xs) (s : ByteArray) (hx : a.eval x = .string s)
    (h63 : n + s.size ≤ maxLen) (hbytes : n + s.size ≤ 140737488355328) (hbase : base ≤ w.heap.size)
    (h : ∀ v' w', w'.ownsRowF base e 1 v' (n + s.size) (xs ++ Lib.strCells s) → w.grownBy w' v.ownBlock → (v' = .slice none 0 0 ↔ v = .slice none 0 0 ∧ s.size = 0) → (∀ k, v'.ownBlock = some k → v.ownBlock = some k ∨ w.heap.size ≤ k) → wpList P ops Q rest (a.put o.dst v') w') : wpList P ops Q (o :: rest) a w := by
  refine wpList_plain hgd fun K hK => ?_
  obtain ⟨v', w', hr, h2, h3, h4, h5⟩ := run_append_str_at (P := P) w base t u o.type e i ht hu hi hz hsize hby v n xs hown s h63 hbytes hbase
  unfold Oper.wp execOp
  simp only [ho, resolve, invoke, builtin, Sem.run_bind, Sem.run_pure, Result.andThen_ok, List.map_toArray, List.map_cons, List.map_nil, hs, hx, hr]
  exact hK _ _ (h v' w' h2 h3 h4 h5)
end

/-- A map of names: what was put, one behind the other. -/
def NmMap (w : World) (m : Nat) (l : List (ByteArray × Value)) : Prop := ∃ es clock, w.heap[m]? = some (.map es clock) ∧ es.toList.map (fun e => (e.key, e.val)) = l.map (fun x => (Value.string x.1, x.2))
def lookL (l : List (ByteArray × Value)) (s : ByteArray) : Option Value := match l with
  | [] => none
  | x :: r => if x.1 = s then some x.2 else lookL r s
theorem NmMap.lt {w : World} {m : Nat} {l : List (ByteArray × Value)} (h : NmMap w m l) : m < w.heap.size := by
  obtain ⟨es, clock, hb, _⟩ := h
  exact (Array.getElem?_eq_some_iff.1 hb).1
theorem NmMap.keep {w w' : World} {m : Nat} {l : List (ByteArray × Value)} (h : NmMap w m l) (hb : w'.heap[m]? = w.heap[m]?) : NmMap w' m l := by
  obtain ⟨es, clock, h1, h2⟩ := h
  exact ⟨es, clock, hb.trans h1, h2⟩
theorem nm_made (w : World) : NmMap (w.alloc (.map #[] 0)) w.heap.size [] := ⟨#[], 0, (MapKept.heap_alloc w _).1, rfl⟩
theorem find_names (s : ByteArray) : ∀ (es : List MapEntry) (l : List (ByteArray × Value)) (i : Nat), es.map (fun e => (e.key, e.val)) = l.map (fun x => (Value.string x.1, x.2)) →
    (Instr.findNow .string (.string s) es i = some none ∧ lookL l s = none) ∨ ∃ j v, Instr.findNow .string (.string s) es i = some (some (j, v)) ∧ lookL l s = some v
  | [], l, i, h => by
    have : l = [] := by cases l with
      | nil => rfl
      | cons _ _ => simp at h
    subst this
    exact Or.inl ⟨rfl, rfl⟩
  | e :: es, [], i, h => by simp at h
  | e :: es, x :: l, i, h => by
    simp only [List.map_cons, List.cons.injEq, Prod.mk.injEq] at h
    obtain ⟨⟨hk, hv⟩, hr⟩ := h
    by_cases hx : x.1 = s
    · refine Or.inr ⟨i, x.2, ?_, by simp [lookL, hx]⟩
      have he : (s == x.1) = true := (MapKept.bytes_beq _ _).2 hx.symm
      simp [Instr.findNow, hk, Instr.sameNow, he, hv]
    · have hne : (s == x.1) = false := by
        cases hb : (s == x.1) with
        | false => rfl
        | true => exact absurd ((MapKept.bytes_beq _ _).1 hb).symm hx
      rcases find_names s es l (i + 1) hr with ⟨h1, h2⟩ | ⟨j, v, h1, h2⟩
      · refine Or.inl ⟨?_, by simp [lookL, hx, h2]⟩
        simp [Instr.findNow, hk, Instr.sameNow, hne, h1]
      · refine Or.inr ⟨j, v, ?_, by simp [lookL, hx, h2]⟩
        simp [Instr.findNow, hk, Instr.sameNow, hne, h1]
theorem look_run {P : Program} {t k e : TypeId} (ht : P.underlying t = some (.map k e)) (hk : P.underlying k = some .string) {z : Value} {w : World} (hz : (zeroValue e).run P w = .ok z w) {m : Nat} {l : List (ByteArray × Value)} (h : NmMap w m l) (s : ByteArray) :
    (Instr.lookup t (.map (some m)) (.string s) false).run P w = .ok ((lookL l s).getD z) w := by
  obtain ⟨es, clock, hb, hes⟩ := h
  have hc := fun em => MapKept.run_checkKey (P := P) (w := w) (k := .string s) hk (by simp [MapKept.IsKey]) em 9999
  rcases find_names s es.toList l 0 hes with ⟨h1, h2⟩ | ⟨j, v, h1, h2⟩
  · have hf := MapKept.run_findKey (P := P) (w := w) hk h1
    simp [Instr.lookup, run_underlying ht, MapKept.run_getObj_map hb, hc, hf, hz, h2, Result.andThen]
  · have hf := MapKept.run_findKey (P := P) (w := w) hk h1
    simp [Instr.lookup, run_underlying ht, MapKept.run_getObj_map hb, hc, hf, h2, Result.andThen]
/-- m[s] = v, where s is not there. -/
theorem put_run {P : Program} {t k e : TypeId} (ht : P.underlying t = some (.map k e)) (hk : P.underlying k = some .string) {w : World} {m : Nat} {l : List (ByteArray × Value)} (h : NmMap w m l) (s : ByteArray) (hs : lookL l s = none) (v : Value) :
    ∃ w', (Instr.mapUpdate t (.map (some m)) (.string s) v).run P w = .ok () w' ∧ NmMap w' m (l ++ [(s, v)]) ∧ w.grownBy w' (some m) := by
  obtain ⟨es, clock, hb, hes⟩ := h
  have hc := fun em => MapKept.run_checkKey (P := P) (w := w) (k := .string s) hk (by simp [MapKept.IsKey]) em 9999
  rcases find_names s es.toList l 0 hes with ⟨h1, h2⟩ | ⟨j, v, h1, h2⟩
  · have hf := MapKept.run_findKey (P := P) (w := w) hk h1
    refine ⟨{ w with heap := w.heap.setIfInBounds m (.map (es.push { key := .string s, val := v, born := clock }) (clock + 1)) }, by simp [Instr.mapUpdate, run_underlying ht, MapKept.run_getObj_map hb, hc, hf, MapKept.run_setObj_map _ hb, Result.andThen], ⟨es.push { key := .string s, val := v, born := clock }, clock + 1, ?_, ?_⟩, ⟨rfl, rfl, rfl, by simp, fun i _ hi => (MapKept.heap_set hb).2 i (fun e => hi (by rw [e]))⟩⟩
    · exact (MapKept.heap_set hb).1
    · simp [hes]
  · rw [hs] at h2
    cases h2
theorem wpList_put_names {P : Program} (w : World) {ops : Array Oper} {rest : List Oper} {o : Oper} {a : Act} {Q : Exit → Act → World → Prop}
    (hg : o.guard = none) (m x v : Operand) (t : TypeId) (hop : o.op = Op.mapUpdate t m x v) (k e : TypeId) (ht : P.underlying t = some (.map k e)) (hk : P.underlying k = some .string) (b : Nat) (l : List (ByteArray × Value))
    (hm : a.eval m = .map (some b)) (h : NmMap w b l) (s : ByteArray) (val : Value) (hx : a.eval x = .string s) (hv : a.eval v = val) (hs : lookL l s = none)
    (hK : ∀ w', NmMap w' b (l ++ [(s, val)]) → w.grownBy w' (some b) → wpList P ops Q rest (a.put o.dst undef) w') :
    wpList P ops Q (o :: rest) a w := by
  refine wpList_plain hg fun K' hK' => ?_
  obtain ⟨w', hrun, r1, r2⟩ := put_run ht hk h s hs val
  unfold Oper.wp
  simp [execOp, hop, hm, hx, hv, hrun, Result.andThen]
  exact hK' _ _ (hK w' r1 r2)
theorem look_snoc (l : List (ByteArray × Value)) (n s : ByteArray) (v : Value) : lookL (l ++ [(n, v)]) s = (match lookL l s with | some x => some x | none => if n = s then some v else none) := by
  induction l with
  | nil => rfl
  | cons x r ih =>
    show (if x.1 = s then some x.2 else lookL (r ++ [(n, v)]) s) = _
    by_cases hx : x.1 = s
    · simp [lookL, hx]
    · rw [if_neg hx, ih]
      simp [lookL, hx]
end Go.Proofs.YtpifpokbkjddjaaGreat
