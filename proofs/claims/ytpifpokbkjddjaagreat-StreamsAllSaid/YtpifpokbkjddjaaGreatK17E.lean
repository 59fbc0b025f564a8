/- What stands of the program's streams behind a write to, or a look at, one of its builders. -/
import Derived.Test.YtpifpokbkjddjaaGreatK17D
namespace Go.Proofs.YtpifpokbkjddjaaGreat
open Go.RowKit

theorem ButS.mono {O O' : Nat → Prop} {w w' : World} (h : ButS O w w') (hO : ∀ k, O k → O' k) : ButS O' w w' := ⟨h.os, h.tape, h.output, h.size, fun k hk hn => h.block k hk (fun ho => hn (hO k ho))⟩
theorem ButS.refl_ (O : Nat → Prop) (w : World) : ButS O w w := ⟨rfl, rfl, rfl, Nat.le_refl _, fun _ _ _ => rfl⟩
theorem ButS.trans_ {O O' Q : Nat → Prop} {w w1 w2 : World} (h : ButS O w w1) (h' : ButS O' w1 w2) (hO : ∀ k, O k → Q k) (hO' : ∀ k, k < w.heap.size → O' k → Q k) : ButS Q w w2 :=
  ⟨h'.os.trans h.os, h'.tape.trans h.tape, h'.output.trans h.output, Nat.le_trans h.size h'.size, fun k hk hn => (h'.block k (Nat.lt_of_lt_of_le hk h.size) (fun ho => hn (hO' k hk ho))).trans (h.block k hk (fun ho => hn (hO k ho)))⟩
theorem app_list (s t : ByteArray) : s.data.toList ++ t.data.toList = (s ++ t).data.toList := by
  rw [ByteArray.data_append]; simp
theorem sizes_set (l : List (ByteArray × ByteArray)) (i : Nat) (f : ByteArray × ByteArray) (t : ByteArray) (h : l[i]? = some f) : sizesF (l.set i (f.1, f.2 ++ t)) = sizesF l + t.size := by
  induction l generalizing i with
  | nil => simp at h
  | cons g l ih =>
    cases i with
    | zero =>
      simp at h
      subst h
      show (g.2 ++ t).size + sizesF l = g.2.size + sizesF l + t.size
      rw [ByteArray.size_append]
      omega
    | succ i =>
      show g.2.size + sizesF (l.set i _) = g.2.size + sizesF l + t.size
      rw [ih i (by simpa using h)]
      omega
theorem StP.leaves {w : World} {b : Nat} {O : Nat → Prop} {ρ ρ' : Rol} {s' : Sst} {d' : StD} {w' : World} (hO : ∀ k, O k ↔ (ρ k).isSome = true) (hv : StV w' b ρ' s' d') (hs : ∀ k q, ρ' k = some q → (∃ q', ρ k = some q') ∨ w.heap.size ≤ k)
    (hb : ButS (fun k => ∃ q, ρ k = some q) w w') : Leaves StP w b O s' w' := by
  refine ⟨fun k => (ρ' k).isSome = true, ⟨ρ', d', fun k => Iff.rfl, hv⟩, fun k hk => ?_, hb.mono fun k ⟨q, hq⟩ => (hO k).2 (by rw [hq]; rfl)⟩
  obtain ⟨q, hq⟩ := Option.isSome_iff_exists.1 hk
  rcases hs k q hq with ⟨q', h⟩ | h
  · exact Or.inl ((hO k).2 (by rw [h]; rfl))
  · exact Or.inr h
theorem StP.same {w : World} {b : Nat} {O : Nat → Prop} {ρ : Rol} {s : Sst} {d : StD} (hO : ∀ k, O k ↔ (ρ k).isSome = true) (hv : StV w b ρ s d) : Leaves StP w b O s w :=
  StP.leaves hO hv (fun _ q hq => Or.inl ⟨q, hq⟩) (ButS.refl_ _ _)

section
variable {w w' : World} {b : Nat} {ρ : Rol} {s : Sst} {d : StD}
theorem StV.top_role (h : StV w b ρ s d) : ∀ k, BdO b d.v k → ρ k = some .top ∨ ρ k = some .pbuf := by
  rintro k (rfl | hk)
  · exact Or.inl h.rtop
  · exact Or.inr (h.rbuf k hk)
/-- What was printed. -/
def StD.printed (d : StD) (b : Nat) (v' : Value) : StD := { d with pv := .pointer (some ⟨b, 3, none⟩), v := v' }
theorem StV.wrote_top (h : StV w b ρ s d) (t : ByteArray) {v' : Value} (ho : BdOut 49 7 3 b (topC s d) d.v (s.out.data.toList ++ t.data.toList) w v' w') (hall : s.all + t.size ≤ 65536) :
    StV w' b (ρ.with_ v' .pbuf) { s with out := s.out ++ t } (d.printed b v') := by
  have hst := Rol.stays h.rbuf h.low ho.loc
  have hblk : ∀ k r, ρ k = some r → (r = .top → False) → (r = .pbuf → False) → w'.heap[k]? = w.heap[k]? := fun k r hr h1 h2 => ho.but.block k (h.low k r hr) (fun hk => by
    rcases h.top_role k hk with h3 | h3
    · rw [hr] at h3; exact h1 (Option.some.inj h3)
    · rw [hr] at h3; exact h2 (Option.some.inj h3))
  refine ⟨?_, hst _ _ h.rtop, fun k hk => Rol.new_ hk, h.src.keep (fun k r hr _ => hst k r hr) (fun k r hr hi => hblk k r hr (fun e => by subst e; cases hi) (fun e => by subst e; cases hi)), h.snk.keep (fun k r hr _ => hst k r hr) (fun k r hr hi => hblk k r hr (fun e => by subst e; cases hi) (fun e => by subst e; cases hi)), h.small, h.pos, ?_, h.few, fun k r hr => ?_⟩
  · have := ho.bd
    rw [app_list] at this
    exact this
  · show (s.out ++ t).size + sizesF s.made ≤ 65536
    have h1 : s.out.size + sizesF s.made + t.size ≤ 65536 := hall
    rw [ByteArray.size_append]
    omega
  · rcases Rol.some_ h.rbuf ho.loc k r hr with ⟨q, hq⟩ | ⟨h1, h2⟩
    · exact Nat.lt_of_lt_of_le (h.low k q hq) ho.but.size
    · exact (ho.bd.own.lt k h2).2
theorem StV.told_top (h : StV w b ρ s d) (hb : Bd 49 7 3 b (topC s d) d.v s.out.data.toList w') (hbut : ButS (fun k => d.v.ownBlock = some k) w w') : StV w' b ρ s d := by
  have hblk : ∀ k r, ρ k = some r → (r = .pbuf → False) → w'.heap[k]? = w.heap[k]? := fun k r hr h1 => hbut.block k (h.low k r hr) (fun hk => by
    have h2 := h.rbuf k hk
    rw [hr] at h2
    exact h1 (Option.some.inj h2))
  exact ⟨hb, h.rtop, h.rbuf, h.src.keep (fun k r hr _ => hr) (fun k r hr hi => hblk k r hr (fun e => by subst e; cases hi)), h.snk.keep (fun k r hr _ => hr) (fun k r hr hi => hblk k r hr (fun e => by subst e; cases hi)), h.small, h.pos, h.all, h.few, fun k r hr => Nat.lt_of_lt_of_le (h.low k r hr) hbut.size⟩

/-- What one file had written to it. -/
def StD.wrote (d : StD) (i : Nat) (x : Snk) (v' : Value) : StD := { d with sk := d.sk.set i ⟨x.blk, .pointer (some ⟨x.blk, 0, none⟩), v'⟩ }
theorem StV.wrote_sink (h : StV w b ρ s d) (i : Nat) (x : Snk) (f : ByteArray × ByteArray) (hx : d.sk[i]? = some x) (hf : s.made[i]? = some f) (t : ByteArray) {v' : Value} (ho : BdOut 46 3 0 x.blk (x.cells f.1) x.v (f.2.data.toList ++ t.data.toList) w v' w') (hall : s.all + t.size ≤ 65536) :
    StV w' b (ρ.with_ v' (.sbuf i)) { s with made := s.made.set i (f.1, f.2 ++ t) } (d.wrote i x v') := by
  obtain ⟨hs1, hs2, hs3⟩ := h.snk.sink i x f hx hf
  have hst := Rol.stays hs3 h.low ho.loc
  have hrole : ∀ k, BdO x.blk x.v k → ρ k = some (.sink i) ∨ ρ k = some (.sbuf i) := by
    rintro k (rfl | hk)
    · exact Or.inl hs2
    · exact Or.inr (hs3 k hk)
  have hblk : ∀ k r, ρ k = some r → (r = .sink i → False) → (r = .sbuf i → False) → w'.heap[k]? = w.heap[k]? := fun k r hr h1 h2 => ho.but.block k (h.low k r hr) (fun hk => by
    rcases hrole k hk with h3 | h3
    · rw [hr] at h3; exact h1 (Option.some.inj h3)
    · rw [hr] at h3; exact h2 (Option.some.inj h3))
  have hlen := h.snk.len
  have hil : i < s.made.length := (List.getElem?_eq_some_iff.1 hf).1
  refine ⟨?_, hst _ _ h.rtop, fun k hk => hst k _ (h.rbuf k hk), h.src.keep (fun k r hr _ => hst k r hr) (fun k r hr hi => hblk k r hr (fun e => by subst e; cases hi) (fun e => by subst e; cases hi)), ⟨?_, fun a ha => hst _ _ (h.snk.rrow a ha), ?_, ?_⟩, h.small, h.pos, ?_, ?_, fun k r hr => ?_⟩
  · have h1 : Bd 49 7 3 b (topC s d) d.v s.out.data.toList w' := h.top.keep fun k hk => by
      rcases h.top_role k hk with h3 | h3
      · exact hblk k _ h3 (fun e => by cases e) (fun e => by cases e)
      · exact hblk k _ h3 (fun e => by cases e) (fun e => by cases e)
    have h2 : topC { s with made := s.made.set i (f.1, f.2 ++ t) } (d.wrote i x v') = topC s d := by
      show #[_, _, _, _, _, _, Value.slice d.wp (s.made.set i (f.1, f.2 ++ t)).length d.wc] = _
      rw [List.length_set]
      rfl
    rw [h2]
    exact h1
  · show w'.ownsRow 0 _ 1 (.slice d.wp (s.made.set i (f.1, f.2 ++ t)).length d.wc) (s.made.set i (f.1, f.2 ++ t)).length ((d.sk.set i ⟨x.blk, .pointer (some ⟨x.blk, 0, none⟩), v'⟩).map fun x => pt x.blk)
    have e1 : ((d.sk.set i ⟨x.blk, .pointer (some ⟨x.blk, 0, none⟩), v'⟩).map fun x => pt x.blk) = d.sk.map fun x => pt x.blk := by
      apply List.ext_getElem?
      intro j
      rw [List.getElem?_map, List.getElem?_map]
      by_cases hj : j = i
      · subst hj
        rw [List.getElem?_set_self (by omega), hx]; rfl
      · rw [List.getElem?_set_ne (fun e => hj e.symm)]
    rw [List.length_set, e1]
    refine ⟨h.snk.row.1, ?_⟩
    rcases h.snk.row.2 with h0 | ⟨g, cap, cur, hv, hb', hh, r⟩
    · exact Or.inl h0
    · have hv' := hv
      injection hv' with e1
      exact Or.inr ⟨g, cap, cur, hv, hb', (hblk g _ (h.snk.rrow _ e1) (fun e => by cases e) (fun e => by cases e)).trans hh, r⟩
  · show (d.sk.set i _).length = (s.made.set i _).length
    rw [List.length_set, List.length_set]; exact hlen
  · intro j y g hy hg
    have hy' : (d.sk.set i ⟨x.blk, .pointer (some ⟨x.blk, 0, none⟩), v'⟩)[j]? = some y := hy
    have hg' : (s.made.set i (f.1, f.2 ++ t))[j]? = some g := hg
    by_cases hj : j = i
    · subst hj
      rw [List.getElem?_set_self (by omega)] at hy' hg'
      cases hy'
      cases hg'
      refine ⟨?_, hst _ _ hs2, fun k hk => Rol.new_ hk⟩
      have := ho.bd
      rw [app_list] at this
      exact this
    · rw [List.getElem?_set_ne (fun e => hj e.symm)] at hy' hg'
      obtain ⟨h1, h2, h3⟩ := h.snk.sink j y g hy' hg'
      refine ⟨h1.keep fun k hk => ?_, hst _ _ h2, fun k hk => hst _ _ (h3 k hk)⟩
      rcases hk with rfl | hk
      · exact hblk _ _ h2 (fun e => by cases e; exact hj rfl) (fun e => by cases e)
      · exact hblk _ _ (h3 k hk) (fun e => by cases e) (fun e => by cases e; exact hj rfl)
  · show s.out.size + sizesF (s.made.set i (f.1, f.2 ++ t)) ≤ 65536
    rw [sizes_set _ _ _ _ hf]
    have h1 : s.out.size + sizesF s.made + t.size ≤ 65536 := hall
    omega
  · show (s.made.set i _).length ≤ 8
    rw [List.length_set]; exact h.few
  · rcases Rol.some_ hs3 ho.loc k r hr with ⟨q, hq⟩ | ⟨h1, h2⟩
    · exact Nat.lt_of_lt_of_le (h.low k q hq) ho.but.size
    · exact (ho.bd.own.lt k h2).2
theorem StV.told_sink (h : StV w b ρ s d) (i : Nat) (x : Snk) (f : ByteArray × ByteArray) (hx : d.sk[i]? = some x) (hf : s.made[i]? = some f) (hb : SinkAt w' x f) (hbut : ButS (fun k => x.v.ownBlock = some k) w w') : StV w' b ρ s d := by
  obtain ⟨hs1, hs2, hs3⟩ := h.snk.sink i x f hx hf
  have hblk : ∀ k r, ρ k = some r → (r = .sbuf i → False) → w'.heap[k]? = w.heap[k]? := fun k r hr h1 => hbut.block k (h.low k r hr) (fun hk => by
    have h2 := hs3 k hk
    rw [hr] at h2
    exact h1 (Option.some.inj h2))
  refine ⟨h.top.keep fun k hk => ?_, h.rtop, h.rbuf, h.src.keep (fun k r hr _ => hr) (fun k r hr hi => hblk k r hr (fun e => by subst e; cases hi)), ⟨⟨h.snk.row.1, ?_⟩, h.snk.rrow, h.snk.len, ?_⟩, h.small, h.pos, h.all, h.few, fun k r hr => Nat.lt_of_lt_of_le (h.low k r hr) hbut.size⟩
  · rcases h.top_role k hk with h3 | h3
    · exact hblk k _ h3 (fun e => by cases e)
    · exact hblk k _ h3 (fun e => by cases e)
  · rcases h.snk.row.2 with h0 | ⟨g, cap, cur, hv, hb', hh, r⟩
    · exact Or.inl h0
    · have hv' := hv
      injection hv' with e1
      exact Or.inr ⟨g, cap, cur, hv, hb', (hblk g _ (h.snk.rrow _ e1) (fun e => by cases e)).trans hh, r⟩
  · intro j y g hy hg
    by_cases hj : j = i
    · subst hj
      rw [hx] at hy
      rw [hf] at hg
      cases hy
      cases hg
      exact ⟨hb, hs2, hs3⟩
    · obtain ⟨h1, h2, h3⟩ := h.snk.sink j y g hy hg
      refine ⟨h1.keep fun k hk => ?_, h2, h3⟩
      rcases hk with rfl | hk
      · exact hblk _ _ h2 (fun e => by cases e)
      · exact hblk _ _ (h3 k hk) (fun e => by cases e; exact hj rfl)
end
end Go.Proofs.YtpifpokbkjddjaaGreat
