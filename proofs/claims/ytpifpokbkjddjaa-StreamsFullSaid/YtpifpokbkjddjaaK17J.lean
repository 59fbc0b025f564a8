/- The program's New: a walk. -/
import Derived.Test.YtpifpokbkjddjaaK17E
namespace Go.Proofs.Ytpifpokbkjddjaa
open Go.RowKit

theorem file_one2 (a b : ByteArray) : (#[Value.string a, Value.string b]).all (·.oneCell') = true := by simp [Value.oneCell']
theorem below_row2 {B : Nat} {w w' : World} (h : Below B w w') {b : Nat} (hb : B ≤ b) (q : Array Value) : Below B w (w'.setRow b q) :=
  ⟨h.os, h.tape, h.output, by have := h.size; simpa [World.setRow] using this, fun k hk => by rw [Go.setRow_other _ _ _ _ (by omega)]; exact h.block k hk⟩
theorem size_file2 : (Try.prog.info? 42).map (·.size) = some 2 := by kernel_rfl
theorem give_snoc (l : List Inp) (x : Inp) (name : ByteArray) : giveI (l ++ [x]) name = match giveI l name with | some y => some y | none => if x.name = name then some x else none := by
  induction l with
  | nil => rfl
  | cons f l ih =>
    show (if f.name = name then some f else giveI (l ++ [x]) name) = match (if f.name = name then some f else giveI l name) with | some y => some y | none => if x.name = name then some x else none
    by_cases hf : f.name = name
    · rw [if_pos hf, if_pos hf]
    · rw [if_neg hf, if_neg hf, ih]
def Rol.src_ (ρ : Rol) (k : Nat) (i : Nat) : Rol := fun j => if j = k then some (.src i) else ρ j
theorem SrcV.add {w w' : World} {ρ : Rol} {given : List Inp} {m : Nat} {ents : List (ByteArray × Nat)} (h : SrcV w ρ given m ents) (p : Inp) (hno : giveI given p.name = none) (k : Nat) (hk : ρ k = none) (hs : SrcC w' k p) (hm : NmMap w' m ((ents.map fun x => (x.1, pt x.2)) ++ [(p.name, pt k)]))
    (hb : ∀ j r, ρ j = some r → r ≠ .map → w'.heap[j]? = w.heap[j]?) : SrcV w' (ρ.src_ k ents.length) (given ++ [p]) m (ents ++ [(p.name, k)]) := by
  have hst : ∀ j r, ρ j = some r → ρ.src_ k ents.length j = some r := fun j r hr => by
    show (if j = k then some (Ro.src ents.length) else ρ j) = _
    rw [if_neg (fun e => by rw [e, hk] at hr; cases hr)]
    exact hr
  have hnot : ∀ x ∈ ents, x.1 ≠ p.name := fun x hx e => by
    obtain ⟨i, hi⟩ := List.getElem?_of_mem hx
    obtain ⟨_, q, h2, _⟩ := h.hit i x hi
    rw [e, hno] at h2
    cases h2
  refine ⟨by rw [List.map_append]; exact hm, hst _ _ h.rmap, ?_, fun i x hx => ?_, fun name hn => ?_⟩
  · rw [List.map_append, List.nodup_append]
    refine ⟨h.nodup, by simp, fun a ha b hb e => ?_⟩
    obtain ⟨x, hx, rfl⟩ := List.mem_map.1 ha
    have hb' : b = p.name := by simpa using hb
    exact hnot x hx (e.trans hb')
  · by_cases hi : i < ents.length
    · rw [List.getElem?_append_left hi] at hx
      obtain ⟨h1, q, h2, h3⟩ := h.hit i x hx
      refine ⟨hst _ _ h1, q, by rw [give_snoc, h2], ⟨(hb _ _ h1 (fun e => by cases e)).trans h3.row, h3.small, h3.pos⟩⟩
    · have hlen : i = ents.length := by
        have := (List.getElem?_eq_some_iff.1 hx).1
        rw [List.length_append] at this
        simp at this
        omega
      subst hlen
      rw [List.getElem?_append_right (Nat.le_refl _)] at hx
      simp at hx
      subst hx
      exact ⟨if_pos rfl, p, by rw [give_snoc, hno]; simp, hs⟩
  · rw [give_snoc, h.miss name (fun x hx => hn x (List.mem_append_left _ hx))]
    show (if p.name = name then some p else none) = none
    rw [if_neg (hn (p.name, k) (by simp))]
theorem SrcV.more {w : World} {ρ : Rol} {given : List Inp} {m : Nat} {ents : List (ByteArray × Nat)} (h : SrcV w ρ given m ents) (p : Inp) (x : ByteArray × Nat) (hx : x ∈ ents) (hxn : x.1 = p.name) : SrcV w ρ (given ++ [p]) m ents := by
  refine ⟨h.map, h.rmap, h.nodup, fun i y hy => ?_, fun name hn => ?_⟩
  · obtain ⟨h1, q, h2, h3⟩ := h.hit i y hy
    exact ⟨h1, q, by rw [give_snoc, h2], h3⟩
  · rw [give_snoc, h.miss name hn]
    show (if p.name = name then some p else none) = none
    rw [if_neg (fun e => hn x hx (hxn.trans e))]

/-- What New has behind i files. -/
structure NInv (w0 : World) (l : List (ByteArray × ByteArray)) (m i : Nat) (w : World) : Prop where
  bel : Below w0.heap.size w0 w
  src : ∃ ρ ents, SrcV w ρ (givenOf (l.take i)) m ents ∧ ∀ k r, ρ k = some r → w0.heap.size ≤ k ∧ k < w.heap.size
theorem NInv.below {w0 : World} {l : List (ByteArray × ByteArray)} {m i : Nat} {w w' : World} (h : NInv w0 l m i w) (hb : Below w.heap.size w w') : NInv w0 l m i w' := by
  obtain ⟨ρ, ents, h1, h2⟩ := h.src
  exact ⟨Below.step h.bel hb, ρ, ents, h1.keep (fun k r hr _ => hr) (fun k r hr _ => hb.block k (h2 k r hr).2), fun k r hr => ⟨(h2 k r hr).1, Nat.lt_of_lt_of_le (h2 k r hr).2 hb.size⟩⟩
theorem given_take (l : List (ByteArray × ByteArray)) (i : Nat) (f : ByteArray × ByteArray) (h : l[i]? = some f) : givenOf (l.take (i + 1)) = givenOf (l.take i) ++ [⟨f.1, f.2, 0⟩] := by
  obtain ⟨hi, rfl⟩ := List.getElem?_eq_some_iff.1 h
  rw [List.take_succ_eq_append_getElem hi]
  unfold givenOf
  rw [List.map_append]
  rfl
/-- What the look-up of the next file's name tells. -/
theorem NInv.look {w0 : World} {l : List (ByteArray × ByteArray)} {m i : Nat} {w : World} (h : NInv w0 l m i w) (f : ByteArray × ByteArray) (hf : l[i]? = some f) (hs : f.2.size ≤ 1000) :
    (∃ k, (Instr.lookup 44 (.map (some m)) (.string f.1) false).run Try.prog w = .ok (.pointer (some ⟨k, 0, none⟩)) w ∧ NInv w0 l m (i + 1) w) ∨
    ((Instr.lookup 44 (.map (some m)) (.string f.1) false).run Try.prog w = .ok (.pointer none) w ∧ ∃ ents : List (ByteArray × Nat), NmMap (w.alloc (.cells #[.string f.2, .int .i64 0] 47)) m (ents.map fun x => (x.1, pt x.2)) ∧ lookL (ents.map fun x => (x.1, pt x.2)) f.1 = none ∧
      ∀ w', NmMap w' m ((ents.map fun x => (x.1, pt x.2)) ++ [(f.1, pt w.heap.size)]) → (w.alloc (.cells #[.string f.2, .int .i64 0] 47)).grownBy w' (some m) → NInv w0 l m (i + 1) w') := by
  obtain ⟨ρ, ents, h1, h2⟩ := h.src
  have hg := given_take l i f hf
  rcases h1.look f.1 with ⟨hr, hno⟩ | ⟨j, x, p, hx, hxn, hr, hgi, hsc, hrl⟩
  · refine Or.inr ⟨hr, ents, h1.map.keep (Lib.alloc_old w _ m h1.map.lt), ?_, fun w' hm hgr => ?_⟩
    · rcases look_ents ents f.1 with ⟨h3, _⟩ | ⟨j, x, h3, h4, _⟩
      · exact h3
      · obtain ⟨_, q, h5, _⟩ := h1.hit j x h3
        rw [h4, hno] at h5
        cases h5
    · have hmlt := h1.map.lt
      have hsz := hgr.size
      rw [World.size_alloc] at hsz
      have hold : ∀ k, k < w.heap.size → k ≠ m → w'.heap[k]? = w.heap[k]? := fun k hk hkm => by
        rw [hgr.block k (by rw [World.size_alloc]; omega) (fun e => hkm (Option.some.inj e)), Lib.alloc_old w _ k hk]
      have hmlow := (h2 m _ h1.rmap).1
      refine ⟨⟨hgr.os.trans h.bel.os, hgr.tape.trans h.bel.tape, hgr.output.trans h.bel.output, by have := h.bel.size; omega, fun k hk => ?_⟩, ρ.src_ w.heap.size ents.length, ents ++ [(f.1, w.heap.size)], ?_, fun k r hr' => ?_⟩
      · rw [hold k (by have := h.bel.size; omega) (by omega)]
        exact h.bel.block k hk
      · rw [hg]
        have hk0 : ρ w.heap.size = none := by
          cases hc : ρ w.heap.size with
          | none => rfl
          | some r => have := (h2 _ r hc).2; omega
        refine h1.add ⟨f.1, f.2, 0⟩ hno w.heap.size hk0 ⟨?_, hs, Nat.zero_le _⟩ hm (fun j r hr' hne => hold j (h2 j r hr').2 (fun e => by rw [e, h1.rmap] at hr'; exact hne (Option.some.inj hr').symm))
        rw [hgr.block w.heap.size (by rw [World.size_alloc]; omega) (fun e => by have := Option.some.inj e; omega)]
        exact heap_alloc_last _ _
      · have hr2 : (if k = w.heap.size then some (Ro.src ents.length) else ρ k) = some r := hr'
        by_cases hk : k = w.heap.size
        · have := h.bel.size; omega
        · rw [if_neg hk] at hr2
          have := h2 k r hr2
          omega
  · exact Or.inl ⟨x.2, hr, h.bel, ρ, ents, by rw [hg]; exact h1.more ⟨f.1, f.2, 0⟩ x (List.mem_of_getElem? hx) hxn, h2⟩
/-- What New tells. -/
def NewOut (w : World) (main : ByteArray) (l : List (ByteArray × ByteArray)) (e : Ending) (w' : World) : Prop :=
  ∃ b O, e = .returned (pt b) ∧ StP w' b O ⟨⟨⟨#[]⟩, main, 0⟩, givenOf l, ⟨#[]⟩, []⟩ ∧ (∀ k, O k → w.heap.size ≤ k) ∧ Below w.heap.size w w'
theorem NInv.out {w0 : World} {l : List (ByteArray × ByteArray)} {m : Nat} {w : World} (h : NInv w0 l m l.length w) (main : ByteArray) (hm : main.size ≤ 1000) :
    NewOut w0 main l (.returned (.pointer (some ⟨w.heap.size, 0, none⟩))) (w.alloc (.cells #[.string main, .int .i64 0, .map (some m), .pointer none, .slice none 0 0, .string ⟨#[]⟩, .slice none 0 0] 56)) := by
  obtain ⟨ρ, ents, h1, h2⟩ := h.src
  rw [List.take_length] at h1
  have hsz := World.size_alloc w (.cells #[.string main, .int .i64 0, .map (some m), .pointer none, .slice none 0 0, .string ⟨#[]⟩, .slice none 0 0] 56)
  have hb := h.bel.size
  let ρ' : Rol := fun k => if k = w.heap.size then some .top else ρ k
  have hst : ∀ k r, ρ k = some r → ρ' k = some r := fun k r hr => by
    show (if k = w.heap.size then some Ro.top else ρ k) = _
    rw [if_neg (by have := (h2 k r hr).2; omega)]
    exact hr
  have hlow : ∀ k r, ρ' k = some r → w0.heap.size ≤ k ∧ k < w.heap.size + 1 := fun k r hr => by
    have hr2 : (if k = w.heap.size then some Ro.top else ρ k) = some r := hr
    by_cases hk : k = w.heap.size
    · omega
    · rw [if_neg hk] at hr2
      have := h2 k r hr2
      omega
  refine ⟨w.heap.size, fun k => (ρ' k).isSome = true, rfl, ⟨ρ', ⟨m, ents, .pointer none, .slice none 0 0, none, 0, []⟩, fun k => Iff.rfl, ⟨⟨heap_alloc_last _ _, rfl, by omega, Or.inl rfl, rfl, World.ownsRowF_nil _ _ _ _, fun _ => rfl, by decide⟩, if_pos rfl, fun k hk => by simp [Value.ownBlock] at hk, h1.keep (fun k r hr _ => hst k r hr) (fun k r hr _ => Lib.alloc_old w _ k (h2 k r hr).2), ⟨⟨by simp, Or.inl ⟨rfl, rfl⟩⟩, fun a ha => (by cases ha), rfl, fun i x f hx _ => (by simp at hx)⟩, hm, Nat.zero_le _, by show 0 + 0 ≤ 65536; omega, by show 0 ≤ 8; omega, fun k r hr => ?_⟩⟩, fun k hk => ?_, h.bel.alloc hb _⟩
  · have := (hlow k r hr).2
    rw [hsz]; omega
  · obtain ⟨r, hr⟩ := Option.isSome_iff_exists.1 hk
    exact (hlow k r hr).1

set_option maxRecDepth 100000 in
set_option maxHeartbeats 4000000 in
theorem new_spec (w : World) (main : ByteArray) (p : Option Addr) (n cap : Nat) (l : List (ByteArray × ByteArray)) (hf : FilesAt w p n cap l) (hn6 : n ≤ 6) (hm : main.size ≤ 1000) (hs : ∀ f ∈ l, f.2.size ≤ 1000) :
    Calls Try.prog 7 #[.string main, .slice p n cap] w (NewOut w main l) := by
  have HI := size_file2
  have HFA := Lib.hid hf
  have HN : Hid (n = l.length) := Lib.hid hf.len
  have HS := Lib.hid hs
  have hroom := hf.room
  have hmk := @run_makeMap Try.prog
  obtain ⟨W0, hW0⟩ : ∃ W0, W0 = w.alloc (.map #[] 0) := ⟨_, rfl⟩
  have HW0 := Lib.hid hW0
  have HV0 : Hid (NInv w l w.heap.size 0 W0) := Lib.hid (by
    rw [hW0]
    refine ⟨below_new w _, fun k => if k = w.heap.size then some .map else none, [], ⟨nm_made w, if_pos rfl, by simp, fun i x hx => (by simp at hx), fun name _ => rfl⟩, fun k r hr => ?_⟩
    have hr2 : (if k = w.heap.size then some Ro.map else none) = some r := hr
    rw [World.size_alloc]
    by_cases hk : k = w.heap.size
    · omega
    · rw [if_neg hk] at hr2; cases hr2)
  clear hf hs hW0
  go_enter Try.func7, Try.ntmps7
  go_wp2_with fail
  rw [← HW0.out]
  go_loopw [11] (fun y11 wr => ∃ (i : Nat), y11 = .int .i64 i ∧ i ≤ n ∧ Hid (NInv w l w.heap.size i wr)) (fun y11 _ => n - (intOf y11).toNat)
  case atStart => exact ⟨0, rfl, by omega, HV0⟩
  case round =>
    obtain ⟨i, rfl, hi, HV⟩ := hrel
    clear HV0
    by_cases hlt : i < n
    · have hil : i < l.length := by rw [← HN.out]; exact hlt
      have hx := List.getElem?_eq_getElem hil
      have hsm := HS.out l[i] (List.getElem_mem hil)
      obtain ⟨x, hxe⟩ : ∃ x, x = l[i] := ⟨_, rfl⟩
      rw [← hxe] at hx hsm
      obtain ⟨b, off, rfl, hcc⟩ : ∃ b off, p = some ⟨b, off, none⟩ ∧ ∀ i f, l[i]? = some f → w.cell? ⟨b, off + i * 2, none⟩ = some (.string f.1) ∧ w.cell? ⟨b, off + i * 2 + 1, none⟩ = some (.string f.2) := by
        rcases HFA.out.cells with h0 | h0
        · rw [h0] at hil; simp at hil
        · exact h0
      obtain ⟨e0, e1⟩ := hcc i x hx
      have key : ∀ (o : Nat) (v : Value), w.cell? ⟨b, o, none⟩ = some v → wr.cell? ⟨b, o, none⟩ = some v := fun o v hv => by
        rw [HV.out.bel.cell (p := ⟨b, o, none⟩) (cell_lt hv)]; exact hv
      have c0 := key _ _ e0
      have c1 := key _ _ e1
      have d1 : decide ((i : Int) < n) = true := decide_eq_true (by omega)
      have d2 : decide (i < n) = true := decide_eq_true hlt
      have HX := Lib.hid hx
      have HSM := Lib.hid hsm
      obtain ⟨x1, x2⟩ := x
      dsimp only at c0 c1
      clear hcc e0 e1 key hx hsm hil hxe
      go_upto_region 5 with (refine wpList_store_row rfl 42 (.tmp 7) (.tmp 14) rfl wr.heap.size #[.string x1, .string x2] rfl rfl 42 #[.string ⟨#[]⟩, .string ⟨#[]⟩] (heap_alloc_last _ _) HI rfl (file_one2 _ _) ?_)
      obtain ⟨W2, hW2, X2, B2⟩ : ∃ W2, W2 = (wr.alloc (.cells #[.string ⟨#[]⟩, .string ⟨#[]⟩] 42)).setRow wr.heap.size #[.string x1, .string x2] ∧ Hid (W2.heap[wr.heap.size]? = some (.cells #[.string x1, .string x2] 42 (0, 0))) ∧ Hid (Below wr.heap.size wr W2) :=
        ⟨_, rfl, Lib.hid (setRow_heap _ _ _ _ _ _ (heap_alloc_last _ _)), Lib.hid (below_row2 (below_new wr _) (Nat.le_refl _) _)⟩
      change Code.wp _ _ _ _ ((wr.alloc (.cells #[.string ⟨#[]⟩, .string ⟨#[]⟩] 42)).setRow wr.heap.size #[.string x1, .string x2])
      rw [← hW2]
      clear hW2 c0 c1
      have a0 : W2.cell? ⟨wr.heap.size, 0, none⟩ = some (.string x1) := (cell_of_row _ _ 0 _ _ _ X2.out).trans rfl
      have a1 : W2.cell? ⟨wr.heap.size, 1, none⟩ = some (.string x2) := (cell_of_row _ _ 1 _ _ _ X2.out).trans rfl
      rcases (HV.out.below B2.out).look (x1, x2) HX.out HSM.out with ⟨k, hr, hv⟩ | ⟨hr, ents, hmap, hlk, hv⟩
      · have HV2 := Lib.hid hv
        clear hv HV
        go_wp2_with fail
        go_roundw
        case rel => exact ⟨i + 1, by go_num, by omega, HV2⟩
        case measure => simp [intOf]; omega
      · have HV2 := Lib.hid hv
        have HMP := Lib.hid hmap
        have HLK := Lib.hid hlk
        clear hv HV hmap hlk
        go_wp2_with (at_mapUpdate; refine wpList_put_names _ rfl _ _ _ 44 rfl 9 45 law_map Try.underlying9 _ _ rfl HMP.out x1 _ rfl rfl HLK.out ?_)
        intro w' hm' hgr'
        have HV3 := Lib.hid (HV2.out w' hm' hgr')
        clear hm' hgr' HV2 HMP HLK
        go_wp2_with fail
        go_roundw
        case rel => exact ⟨i + 1, by go_num, by omega, HV3⟩
        case measure => simp [intOf]; omega
    · have d1 : decide ((i : Int) < n) = false := decide_eq_false (by omega)
      have d2 : decide (i < n) = false := decide_eq_false hlt
      have hin : i = n := by omega
      subst hin
      have hv := HV.out
      rw [HN.out] at hv
      have HF := Lib.hid (hv.out main hm)
      clear hv
      go_wp2_with fail
      go_ret
      exact HF.out
end Go.Proofs.Ytpifpokbkjddjaa
