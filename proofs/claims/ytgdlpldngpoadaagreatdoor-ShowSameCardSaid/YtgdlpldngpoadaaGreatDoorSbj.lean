/- Merged by program: ShK, ShL, T3RefMath. -/
import Derived.Test.YtgdlpldngpoadaaGreatDoorSbh
import Derived.Test.YtgdlpldngpoadaaGreatDoorSbi
import Derived.Test.YtgdlpldngpoadaaGreatDoorSag
/- The program's Strip: its variables. -/
namespace Go.Proofs.YtgdlpldngpoadaaGreatDoor
open Go.RowKit

theorem bt_setC (w : World) (b o : Nat) (v : Value) : Bt b w (w.setCell ⟨b, o, none⟩ v) :=
  ⟨rfl, rfl, rfl, by simp [World.setCell], fun k _ hk => heap_setCell_other _ _ _ _ hk⟩
theorem bt_cells (b : Nat) : ∀ (vs : List Value) (o : Nat) (w : World), Bt b w (w.setCells b o vs)
  | [], _, _ => Bt.refl _ _
  | v :: vs, o, w => (bt_setC w b o v).trans (bt_cells b vs (o + 1) _)
theorem Box.setC {w : World} {b : Nat} {cs : Array Value} (h : Box w b cs) (j : Nat) (v : Value) : Box (w.setCell ⟨b, j, none⟩ v) b (cs.setIfInBounds j v) := ⟨heap_setCell_same _ _ j _ _ _ h.row⟩
theorem six_range {w : World} {b o : Nat} {cs : Array Value} (hs : cs.size = 6) : Six w b o cs ↔ w.rangeAt b o cs.toList := by
  constructor
  · intro h j v hv
    rw [Array.getElem?_toList] at hv
    have hj := (Array.getElem?_eq_some_iff.1 hv).1
    rw [h j (by omega), hv]
  · intro h j hj
    have e : cs[j]? = some cs[j] := Array.getElem?_eq_getElem (by omega)
    rw [e]
    exact h j _ (by rw [Array.getElem?_toList]; exact e)
theorem there_after {w w' : World} {g o n : Nat} (h : w.there g o n) (hb : Below w.heap.size w w') : w'.there g o n := by
  intro j hj
  obtain ⟨h1, h2⟩ := h j hj
  obtain ⟨v, hv⟩ := Option.isSome_iff_exists.1 h1
  have e := hb.block g (cell_lt hv)
  exact ⟨by rw [World.cell?_of_block (a := ⟨g, o + j, none⟩) e]; exact h1, by rw [World.frozen?_of_block (a := ⟨g, o + j, none⟩) e]; exact h2⟩

/-- The variables of Strip: its argument (without its place, with parts of its own in the block g), its result; i parts are stripped. -/
structure StrL (w V : World) (S : Nat → Prop) (t : Nd) (m : Nat) (ga : Option Addr) (g cap i : Nat) (sp : Value) (fs : Nat → Array Value) : Prop where
  arg : Box V w.heap.size (ndC t.k t.s t.n 0 (.slice ga t.kids.length cap) sp)
  res : Box V (w.heap.size + 1) zeroN
  names : PAt V (fun b => w.heap.size + 2 ≤ b ∧ b ≠ g) t.p sp
  hga : 0 < t.kids.length → ga = some ⟨g, 0, none⟩
  glow : w.heap.size + 2 ≤ g
  th : V.there g 0 (t.kids.length * 6)
  six : ∀ j, j < t.kids.length → Six V g (j * 6) (fs j)
  sz : ∀ j, j < t.kids.length → (fs j).size = 6
  done : ∀ j (h : j < t.kids.length), j < i → At V (fun b => w.heap.size + 2 ≤ b ∧ b ≠ g) (stripF m t.kids[j]) (fs j)
  todo : ∀ j (h : j < t.kids.length), i ≤ j → At w S t.kids[j] (fs j)
  room : t.kids.length ≤ cap
  below : Below w.heap.size w V
theorem StrL.after {w V W : World} {S : Nat → Prop} {t : Nd} {m : Nat} {ga : Option Addr} {g cap i : Nat} {sp : Value} {fs : Nat → Array Value} (h : StrL w V S t m ga g cap i sp fs) (hb : Below V.heap.size V W) : StrL w W S t m ga g cap i sp fs :=
  ⟨h.arg.after hb, h.res.after hb, h.names.after hb, h.hga, h.glow, there_after h.th hb, fun j hj => (h.six j hj).after (h.sz j hj) hb, h.sz, fun j hj hi => (h.done j hj hi).after hb, h.todo, h.room, Below.step h.below hb⟩
theorem StrL.put {w V W : World} {S : Nat → Prop} {t : Nd} {m : Nat} {ga : Option Addr} {g cap i : Nat} {sp : Value} {fs : Nat → Array Value} (h : StrL w V S t m ga g cap i sp fs) (hi : i < t.kids.length) (hb : Below V.heap.size V W) {ds : Array Value}
    (hA : At W (Up V.heap.size) (stripF m t.kids[i]) ds) : StrL w (W.setCells g (i * 6) ds.toList) S t m ga g cap (i + 1) sp (fun j => if j = i then ds else fs j) := by
  have h' := h.after hb
  have hg : g < V.heap.size := (h.six i hi).lt (h.sz i hi)
  have hlow := h.glow
  have hz := hA.size
  have bt := bt_cells g ds.toList (i * 6) W
  have htw : W.there g (i * 6) ds.toList.length := by
    intro j hj
    simp only [Array.length_toList, hz] at hj
    have := h'.th (i * 6 + j) (by omega)
    rw [Nat.zero_add] at this
    exact this
  have hkeep : ∀ {u : Nd} {es : Array Value}, At W (fun b => w.heap.size + 2 ≤ b ∧ b ≠ g) u es → At (W.setCells g (i * 6) ds.toList) (fun b => w.heap.size + 2 ≤ b ∧ b ≠ g) u es := fun hu => hu.keep fun k hk hl => bt.block k hl hk.2
  refine ⟨h'.arg.bt bt (by omega), h'.res.bt bt (by omega), h'.names.keep fun k hk hl => bt.block k hl hk.2, h.hga, hlow, World.there_setCells h'.th _ _ _, fun j hj => ?_, fun j hj => ?_, fun j hj hji => ?_, fun j hj hji => ?_, h.room, (bt.below (B := w.heap.size) (by omega) h'.below.size) |> fun hx => ?_⟩
  · by_cases e : j = i
    · subst e
      rw [if_pos rfl]
      exact (six_range hz).2 (World.rangeAt_setCells_same _ _ _ _ htw)
    · rw [if_neg e]
      refine (six_range (h.sz j hj)).2 (World.rangeAt_setCells_apart ((six_range (h.sz j hj)).1 (h'.six j hj)) _ _ _ (Or.inr ?_))
      simp only [Array.length_toList, hz, h.sz j hj]
      omega
  · by_cases e : j = i
    · rw [if_pos e]; exact hz
    · rw [if_neg e]; exact h.sz j hj
  · by_cases e : j = i
    · subst e
      rw [if_pos rfl]
      exact hkeep (hA.weakS fun k hk => ⟨by have h1 : V.heap.size ≤ k := hk; have := h.res.lt; omega, fun e => by have h1 : V.heap.size ≤ k := hk; omega⟩)
    · rw [if_neg e]
      exact hkeep (h'.done j hj (by omega))
  · rw [if_neg (by omega)]
    exact h.todo j hj (by omega)
  · exact ⟨hx.os.trans h'.below.os, hx.tape.trans h'.below.tape, hx.output.trans h'.below.output, Nat.le_trans h'.below.size hx.size, fun k hk => (hx.block k hk).trans (h'.below.block k hk)⟩
/-- The tree that is told. -/
theorem StrL.shut {w V : World} {S : Nat → Prop} {t : Nd} {m : Nat} {ga : Option Addr} {g cap i : Nat} {sp : Value} {fs : Nat → Array Value} (h : StrL w V S t m ga g cap i sp fs) (hi : t.kids.length ≤ i) :
    At V (fun b => w.heap.size + 2 ≤ b) (stripF (m + 1) t) (ndC t.k t.s t.n 0 (.slice ga t.kids.length cap) sp) := by
  have hp : PAt V (fun b => w.heap.size + 2 ≤ b) t.p sp := h.names.weakS fun k hk => hk.1
  by_cases e : t.kids = []
  · show At V _ (.mk t.k t.s t.n 0 (t.kids.map (stripF m)) t.p) _
    rw [e]
    exact .leaf _ _ _ _ _ _ _ _ hp
  · have h0 : 0 < t.kids.length := List.length_pos_iff.2 e
    have e2 := h.hga h0
    subst e2
    have := At.node (w := V) (S := fun b => w.heap.size + 2 ≤ b) t.k t.s t.n 0 (t.kids.map (stripF m)) t.p g 0 cap sp fs (by simpa using e) (by rw [List.length_map]; exact h.room) h.glow hp
      (fun j hj => by rw [List.length_map] at hj; rw [Nat.zero_add]; exact h.six j hj)
      (fun j hj => by
        rw [List.length_map] at hj
        rw [List.getElem_map]
        exact (h.done j hj (by omega)).weakS fun k hk => hk.1)
    rw [List.length_map] at this
    exact this
/-- The parts have been copied. -/
theorem strl_new {w w3 : World} {S : Nat → Prop} {t : Nd} (m : Nat) {B : Nat} {x v : Value} {sp : Value} {cs : Nat → Array Value} (hB : w.heap.size + 2 ≤ B) (hX : Box w3 w.heap.size (ndC t.k t.s t.n 0 x sp)) (hR : Box w3 (w.heap.size + 1) zeroN)
    (hp : PAt w3 (fun b => w.heap.size + 2 ≤ b ∧ b < B) t.p sp) (ho : w3.ownsRow B 25 6 v t.kids.length (flatC cs t.kids.length)) (hc : ∀ i (h : i < t.kids.length), At w S t.kids[i] (cs i)) (hb : Below w.heap.size w w3) :
    ∃ ga g cap, v = .slice ga t.kids.length cap ∧ StrL w (w3.setCell ⟨w.heap.size, 4, none⟩ v) S t m ga g cap 0 sp cs := by
  have bt := bt_setC w3 w.heap.size 4 v
  have hsz : ∀ i, i < t.kids.length → (cs i).size = 6 := fun i h => (hc i h).size
  have arg := hX.setC 4 v
  have res := hR.bt bt (by omega)
  have hbl : Below w.heap.size w (w3.setCell ⟨w.heap.size, 4, none⟩ v) := hb.setCell (p := ⟨w.heap.size, 4, none⟩) (Nat.le_refl _) _
  have hRl := hR.lt
  rcases ho.2 with ⟨rfl, h0⟩ | ⟨g, cap, cur, rfl, hg, hrow, hcap, hmax, hcs, htake⟩
  · refine ⟨none, w3.heap.size + w.heap.size + 2 + B, 0, by rw [h0], ⟨?_, res, ?_, fun h => by omega, by omega, fun j hj => by omega, fun j hj => by omega, hsz, fun j hj hji => by omega, fun j hj _ => hc j hj, by omega, hbl⟩⟩
    · rw [h0]; exact arg
    · exact (hp.keep fun k hk hl => bt.block k hl (by have := hk.1; omega)).weakS fun k hk => ⟨hk.1, by have := hk.2; omega⟩
  · have hgl : g < w3.heap.size := (Array.getElem?_eq_some_iff.1 hrow).1
    have hrow2 := (bt.block g hgl (by omega)).trans hrow
    refine ⟨some ⟨g, 0, none⟩, g, cap, rfl, ⟨arg, res, ?_, fun _ => rfl, by omega, fun j hj => ?_, fun j hj => ?_, hsz, fun j hj hji => by omega, fun j hj _ => hc j hj, hcap, hbl⟩⟩
    · exact (hp.keep fun k hk hl => bt.block k hl (by have := hk.1; omega)).weakS fun k hk => ⟨hk.1, by have := hk.2; omega⟩
    · have hjc : j < cur.size := by rw [hcs]; omega
      rw [Nat.zero_add]
      exact ⟨by rw [cell_of_row _ _ j _ _ _ hrow2, Array.getElem?_eq_getElem hjc]; rfl, frozen_of_row _ _ j _ _ hrow2⟩
    · have := (owns_six ho hsz j hj).keep (w' := w3.setCell ⟨w.heap.size, 4, none⟩ (.slice (some ⟨g, 0, none⟩) t.kids.length cap)) (bt.block g hgl (by omega))
      rw [Nat.zero_add] at this
      exact this
end Go.Proofs.YtgdlpldngpoadaaGreatDoor

/- The program's Strip: a walk (gen_shl.py). -/
namespace Go.Proofs.YtgdlpldngpoadaaGreatDoor
open Go.RowKit

theorem keepZ {W W2 : World} {a0 a1 a2 a3 a4 a5 a6 : Addr} {v0 v1 v2 v3 v4 v5 v6 : Value} (h : W.cell? a0 = some v0 ∧ W.cell? a1 = some v1 ∧ W.cell? a2 = some v2 ∧ W.cell? a3 = some v3 ∧ W.cell? a4 = some v4 ∧ W.cell? a5 = some v5 ∧ W.cell? a6 = some v6)
    (hk : ∀ (a : Addr) (v : Value), W.cell? a = some v → (a = a0 ∨ a = a1 ∨ a = a2 ∨ a = a3 ∨ a = a4 ∨ a = a5 ∨ a = a6) → W2.cell? a = some v) : W2.cell? a0 = some v0 ∧ W2.cell? a1 = some v1 ∧ W2.cell? a2 = some v2 ∧ W2.cell? a3 = some v3 ∧ W2.cell? a4 = some v4 ∧ W2.cell? a5 = some v5 ∧ W2.cell? a6 = some v6 := by
  obtain ⟨h0, h1, h2, h3, h4, h5, h6⟩ := h
  exact ⟨hk _ _ h0 (by simp), hk _ _ h1 (by simp), hk _ _ h2 (by simp), hk _ _ h3 (by simp), hk _ _ h4 (by simp), hk _ _ h5 (by simp), hk _ _ h6 (by simp)⟩

set_option maxRecDepth 100000 in
set_option maxHeartbeats 4000000 in
theorem zstrip (m : Nat) : ∀ (t : Nd) (cs : Array Value) (S : Nat → Prop) (w : World), At w S t cs → Low m t → PFew 8796093022207 t →
    Calls Tryz.prog 11 #[.agg cs] w fun e w' => ∃ ds, e = .returned (.agg ds) ∧ At w' (Up w.heap.size) (stripF m t) ds ∧ Below w.heap.size w w' := by
  induction m with
  | zero => intro t cs S w _ hg _; exact hg.elim
  | succ m ih =>
    intro t cs S w h hg hf
    have HI := info_nd
    obtain ⟨x, c, y, d, rfl, hs, hp⟩ := h.opens
    have hfew := hg.1
    have HIH := Lib.hid (fun V (hb : Below w.heap.size w V) (q : Nd) (hm : q ∈ t.kids) ds (ha : At w S q ds) => ih q ds S V (ha.after hb) (hg.2.2 _ hm) (hf.kids _ hm))
    have HCS := Lib.hid (fun V (hb : Below w.heap.size w V) => clone_strs t.p _ S V (hp.after hb) hf.here)
    obtain ⟨fs, hat, hcn⟩ := clone_nds t.kids _ S w hs hfew
    have HAT := Lib.hid hat
    have HCN := Lib.hid hcn
    clear h hg hf ih hs hp hat hcn
    go_enter Tryz.func11, Tryz.ntmps11
    go_upto_region 1 with (fail)
    obtain ⟨W0, hW0, hX0, hB0, hsz⟩ := nd_box w (ndC t.k t.s t.n t.a (.slice x t.kids.length c) (.slice y t.p.length d))
    obtain ⟨V0, hV0, hY0, hBV, hsz2⟩ := nd_box W0 zeroN
    rw [hsz.out] at hY0
    change Code.wp _ _ _ _ ((w.alloc (Obj.cells (ndC t.k t.s t.n t.a (.slice x t.kids.length c) (.slice y t.p.length d)) 25)).alloc (Obj.cells zeroN 25))
    rw [← hW0, ← hV0]
    have HB0 := Lib.hid (Below.step hB0.out hBV.out)
    have HX0 := Lib.hid (hX0.out.after hBV.out)
    have HY0 := Lib.hid hY0.out
    have hV0s : V0.heap.size = w.heap.size + 2 := by rw [hsz2.out, hsz.out]
    have HV0s := Lib.hid hV0s
    clear hW0 hV0 hX0 hY0 hB0 hBV hsz hsz2 hV0s W0
    have c3 := HX0.out.c 3
    have z3 := HX0.out.z 3
    simp only [ndC] at c3
    go_upto_region 2 with (fail)
    obtain ⟨V1, hV1, HX1, HY1, HB1, HV1s⟩ : ∃ V1, V1 = V0.setCell ⟨w.heap.size, 3, none⟩ (.int .i64 0) ∧ Hid (Box V1 w.heap.size (ndC t.k t.s t.n 0 (.slice x t.kids.length c) (.slice y t.p.length d))) ∧ Hid (Box V1 (w.heap.size + 1) zeroN) ∧ Hid (Below w.heap.size w V1) ∧ Hid (V1.heap.size = w.heap.size + 2) :=
      ⟨_, rfl, Lib.hid (HX0.out.setC 3 (.int .i64 0)), Lib.hid (HY0.out.bt (bt_setC _ _ _ _) (by omega)), Lib.hid (HB0.out.setCell (p := ⟨w.heap.size, 3, none⟩) (Nat.le_refl _) _), Lib.hid (by rw [World.size_setCell]; exact HV0s.out)⟩
    rw [← hV1]
    clear hV1 c3 z3 HX0 HY0 HB0 HV0s V0
    have c5 := HX1.out.c 5
    simp only [ndC] at c5
    go_wp2_with fail
    refine (HCS.out _ HB1.out).mono ?_
    rintro e w2 ⟨v5, rfl, hP5, b2⟩
    have HX2 := Lib.hid (HX1.out.after b2)
    have HY2 := Lib.hid (HY1.out.after b2)
    have HB2 := Lib.hid (Below.step HB1.out b2)
    have HP2 := Lib.hid (hP5.inW.weakS (T := fun b => w.heap.size + 2 ≤ b ∧ b < w2.heap.size) fun k hk => ⟨by have h1 : V1.heap.size ≤ k := hk.1; have := HV1s.out; omega, hk.2⟩)
    have HS2 := Lib.hid (show V1.heap.size ≤ w2.heap.size from b2.size)
    clear b2 c5 hP5
    obtain ⟨y5, d5, hv5⟩ := HP2.out.shape
    subst hv5
    have c5 := HX2.out.c 5
    have z5 := HX2.out.z 5
    simp only [ndC] at c5
    go_upto_region 3 with (fail)
    obtain ⟨V2, hV2, HX3, HY3, HB3, HP3, HV2s⟩ : ∃ V2, V2 = w2.setCell ⟨w.heap.size, 5, none⟩ (.slice y5 t.p.length d5) ∧ Hid (Box V2 w.heap.size (ndC t.k t.s t.n 0 (.slice x t.kids.length c) (.slice y5 t.p.length d5))) ∧ Hid (Box V2 (w.heap.size + 1) zeroN) ∧ Hid (Below w.heap.size w V2) ∧ Hid (PAt V2 (fun b => w.heap.size + 2 ≤ b ∧ b < V2.heap.size) t.p (.slice y5 t.p.length d5)) ∧ Hid (w.heap.size + 2 ≤ V2.heap.size) :=
      ⟨_, rfl, Lib.hid (HX2.out.setC 5 (.slice y5 t.p.length d5)), Lib.hid (HY2.out.bt (bt_setC _ _ _ _) (by omega)), Lib.hid (HB2.out.setCell (p := ⟨w.heap.size, 5, none⟩) (Nat.le_refl _) _),
        Lib.hid (by rw [World.size_setCell]; exact HP2.out.keep fun k hk hl => (bt_setC w2 w.heap.size 5 _).block k hl (by have := hk.1; omega)), Lib.hid (by rw [World.size_setCell]; have := HS2.out; have := HV1s.out; omega)⟩
    rw [← hV2]
    clear hV2 c5 z5 HX2 HY2 HB2 HP2 HS2 HX1 HY1 HB1 HV1s
    have c4 := HX3.out.c 4
    simp only [ndC] at c4
    go_wp2_with fail
    refine (HCN.out _ HB3.out).mono ?_
    rintro e w3 ⟨v4, rfl, hO, b3⟩
    have HX4 := Lib.hid (HX3.out.after b3)
    have HY4 := Lib.hid (HY3.out.after b3)
    have HB4 := Lib.hid (Below.step HB3.out b3)
    have HP4 := Lib.hid (HP3.out.after b3)
    obtain ⟨ga, g, cap, hv4, hL⟩ := strl_new (S := S) m HV2s.out HX4.out HY4.out HP4.out hO HAT.out HB4.out
    have c4' := HX4.out.c 4
    have z4 := HX4.out.z 4
    simp only [ndC] at c4'
    clear c4 hO b3
    subst hv4
    go_upto_region 4 with (fail)
    obtain ⟨V, hV⟩ : ∃ V, V = w3.setCell ⟨w.heap.size, 4, none⟩ (.slice ga t.kids.length cap) := ⟨_, rfl⟩
    rw [← hV] at hL ⊢
    have HL0 := Lib.hid hL
    clear hV hL c4' z4 HX4 HY4 HB4 HP4 HX3 HY3 HB3 HP3 HV2s V2 w3 HCS HCN HAT
    obtain ⟨n, hn⟩ : ∃ n, n = t.kids.length := ⟨_, rfl⟩
    have c4 := HL0.out.arg.c 4
    simp only [ndC] at c4
    go_wp2_with fail
    clear c4
    go_loopw [3, 4, 17] (fun y3 y4 z wr => y3 = y3 ∧ y4 = y4 ∧ ∃ (i : Nat) (fs : Nat → Array Value), z = .int .i64 i ∧ i ≤ t.kids.length ∧ Hid (StrL w wr S t m ga g cap i (.slice y5 t.p.length d5) fs)) (fun _ _ z _ => t.kids.length - (intOf z).toNat)
    case atStart => exact ⟨rfl, rfl, 0, _, rfl, by omega, HL0⟩
    case round =>
      obtain ⟨_, _, i, fs, rfl, hi, HL⟩ := hrel
      by_cases hgo : i < t.kids.length
      · have ega := HL.out.hga (by omega)
        subst ega
        have HT0 := HL.out.todo i hgo (Nat.le_refl _)
        have h8i := HL.out.six i hgo
        have hroom := HL.out.room
        obtain ⟨q, hq⟩ : ∃ q, q = t.kids[i] := ⟨_, rfl⟩
        have HPT := Lib.hid (fun V W (hb : Below V.heap.size V W) ds (hA : At W (Up V.heap.size) (stripF m q) ds) (h : StrL w V S t m (some ⟨g, 0, none⟩) g cap i (.slice y5 t.p.length d5) fs) => h.put hgo hb (by rw [← hq]; exact hA))
        have HC0 := Lib.hid (fun V (hb : Below w.heap.size w V) => HIH.out V hb q (by rw [hq]; exact List.getElem_mem hgo) _ (by rw [hq]; exact HT0))
        rw [← hq] at HT0
        obtain ⟨ai, ci, pi, di, e, _⟩ := HT0.opens
        rw [e] at h8i HC0
        obtain ⟨r, hr⟩ : ∃ r, r = stripF m q := ⟨_, rfl⟩
        rw [← hr] at HC0 HPT
        clear HT0 e hq hr
        obtain ⟨p0, p1, p2, p3, p4, p5⟩ := six_nd h8i
        clear h8i
        go_upto_region 7 with (refine wpList_store_row rfl 25 (.tmp 4) (.tmp 21) rfl wr.heap.size (ndC q.k q.s q.n q.a (.slice ai q.kids.length ci) (.slice pi q.p.length di)) rfl rfl 25 zeroN (heap_alloc_last _ _) HI rfl (nd_one _ _ _ _ _ _ _ _ _ _) ?_)
        obtain ⟨W3, hW3, X3, B3, hs3⟩ := nd_boxed wr zeroN (ndC q.k q.s q.n q.a (.slice ai q.kids.length ci) (.slice pi q.p.length di))
        change Code.wp _ _ _ _ ((wr.alloc (Obj.cells zeroN 25)).setRow wr.heap.size (ndC q.k q.s q.n q.a (.slice ai q.kids.length ci) (.slice pi q.p.length di)))
        rw [← hW3]
        obtain ⟨xb, hxb⟩ : ∃ xb, xb = wr.heap.size := ⟨_, rfl⟩
        rw [← hxb] at X3 ⊢
        have hxg : Hid (xb ≠ g ∧ xb ≠ w.heap.size) := Lib.hid ⟨by have := (HL.out.six i hgo).lt (HL.out.sz i hgo); omega, by have := HL.out.res.lt; omega⟩
        have hgw : Hid (w.heap.size ≠ g) := Lib.hid (by have := HL.out.glow; omega)
        have HL3 := Lib.hid (HL.out.after B3.out)
        clear hW3 hxb p0 p1 p2 p3 p4 p5 hs3 HL
        have c4 := HL3.out.arg.c 4
        simp only [ndC] at c4
        obtain ⟨p0, p1, p2, p3, p4, p5⟩ := six_nd X3.out.six
        have HS0 : Hid (W3.cell? ⟨w.heap.size, 4, none⟩ = some (.slice (some ⟨g, 0, none⟩) t.kids.length cap) ∧ W3.cell? ⟨xb, 0, none⟩ = some (.int .i64 q.k) ∧ W3.cell? ⟨xb, 1, none⟩ = some (.string q.s) ∧ W3.cell? ⟨xb, 2, none⟩ = some (.int .i64 q.n) ∧ W3.cell? ⟨xb, 3, none⟩ = some (.int .i64 q.a) ∧ W3.cell? ⟨xb, 4, none⟩ = some (.slice ai q.kids.length ci) ∧ W3.cell? ⟨xb, 5, none⟩ = some (.slice pi q.p.length di)) := Lib.hid ⟨by simpa using c4, by simpa using p0, by simpa using p1, by simpa using p2, by simpa using p3, by simpa using p4, by simpa using p5⟩
        clear p0 p1 p2 p3 p4 p5 c4
        simp only [Act.put]
        refine wp_region_held_drew (S := fun W => W.cell? ⟨w.heap.size, 4, none⟩ = some (.slice (some ⟨g, 0, none⟩) t.kids.length cap) ∧ W.cell? ⟨xb, 0, none⟩ = some (.int .i64 q.k) ∧ W.cell? ⟨xb, 1, none⟩ = some (.string q.s) ∧ W.cell? ⟨xb, 2, none⟩ = some (.int .i64 q.n) ∧ W.cell? ⟨xb, 3, none⟩ = some (.int .i64 q.a) ∧ W.cell? ⟨xb, 4, none⟩ = some (.slice ai q.kids.length ci) ∧ W.cell? ⟨xb, 5, none⟩ = some (.slice pi q.p.length di)) (by kernel_rfl) ?_ (fun hS => ?_)
        · exact keepZ HS0.out fun a v ha _ => by rw [(below_drew W3).cell (p := a) (cell_lt ha)]; exact ha
        refine takeW (i := 0) (d := 22) (v := .pointer (some ⟨w.heap.size, 4, none⟩)) rfl rfl (by kernel_rfl) (by kernel_rfl) (by kernel_rfl) (fun _ _ _ h => h) (by rfl) (fun w' hSw => by obtain ⟨x4, x0, x1, x2, x3, x5, x6⟩ := hSw; go_simp) hS ?_
        simp only [List.setIfInBounds_toArray, List.set_cons_zero, List.set_cons_succ]
        refine takeW (i := 1) (d := 23) (v := .slice (some ⟨g, 0, none⟩) t.kids.length cap) rfl rfl (by kernel_rfl) (by kernel_rfl) (by kernel_rfl) (fun _ _ _ h => h) (by rfl) (fun w' hSw => by obtain ⟨x4, x0, x1, x2, x3, x5, x6⟩ := hSw; go_simp) hS ?_
        simp only [List.setIfInBounds_toArray, List.set_cons_zero, List.set_cons_succ]
        refine takeW (i := 2) (d := 24) (v := .int .i64 i) rfl rfl (by kernel_rfl) (by kernel_rfl) (by kernel_rfl) (fun _ _ _ h => h) (by rfl) (fun w' hSw => by obtain ⟨x4, x0, x1, x2, x3, x5, x6⟩ := hSw; go_simp) hS ?_
        simp only [List.setIfInBounds_toArray, List.set_cons_zero, List.set_cons_succ]
        refine takeW (i := 3) (d := 25) (v := .agg #[.int .i64 q.k, .string q.s, .int .i64 q.n, .int .i64 q.a, .slice ai q.kids.length ci, .slice pi q.p.length di]) rfl rfl (by kernel_rfl) (by kernel_rfl) (by kernel_rfl) (fun _ _ _ h => h) (by rfl) (fun w' hSw => by obtain ⟨x4, x0, x1, x2, x3, x5, x6⟩ := hSw; go_simp) hS ?_
        simp only [List.setIfInBounds_toArray, List.set_cons_zero, List.set_cons_succ]
        refine wpAnyH_ready (rs := [4]) (by kernel_rfl) (by simp) ?_
        refine AllReadyH.cons rfl (fun X hX => ?_) AllReadyH.nil
        rw [if_pos (by rfl)]
        go_simp
        refine (HC0.out _ (Below.step HL3.out.below (below_drew W3))).mono ?_
        rintro e w5 ⟨ds, rfl, hA, b5⟩
        have HA := Lib.hid (show At w5 (Up W3.heap.size) r ds from hA)
        have HB5 := Lib.hid (Below.step (below_drew W3) b5)
        go_wp2_with fail
        refine hX.out _ _ (keepZ hS fun a v ha _ => by rw [b5.cell (p := a) (cell_lt ha)]; exact ha) (fun hS2 => ?_)
        clear hX X hS hA b5
        have HL5 := Lib.hid (HL3.out.after HB5.out)
        have hth : w5.there g (i * 6) ds.size := by
          intro j hj
          rw [HA.out.size] at hj
          have := HL5.out.th (i * 6 + j) (by omega)
          rw [Nat.zero_add] at this
          exact this
        refine takeW (i := 5) (d := 27) (v := .pointer (some ⟨g, i * 6, none⟩)) rfl rfl (by kernel_rfl) (by kernel_rfl) (by kernel_rfl) (fun _ _ _ h => h) (by rfl) (fun w' hSw => by obtain ⟨x4, x0, x1, x2, x3, x5, x6⟩ := hSw; go_simp) hS2 ?_
        simp only [List.setIfInBounds_toArray, List.set_cons_zero, List.set_cons_succ]
        refine wpAnyH_ready (rs := [6]) (by kernel_rfl) (by simp) ?_
        refine AllReadyH.cons rfl (fun X hX => ?_) AllReadyH.nil
        rw [if_pos (by rfl)]
        refine wp_store_mid 25 (.tmp 27) (.tmp 26) rfl g (i * 6) ds rfl rfl hth (by rw [HA.out.size]; exact HI) (Array.all_eq_true_iff_forall_mem.2 fun v hv => HA.out.one v (by simpa using hv)) ?_
        refine hX.out _ _ (keepZ hS2 fun a v ha hor => ?_) (fun _ => ?_)
        · have hne : a.block ≠ g := by
            have h1 := hxg.out
            have h2 := hgw.out
            rcases hor with rfl | rfl | rfl | rfl | rfl | rfl | rfl <;> simp <;> omega
          rw [World.cell?_of_block (a := a) ((bt_cells g ds.toList (i * 6) w5).block a.block (cell_lt ha) hne)]
          exact ha
        clear hX X hS2 hth
        refine wpAnyH_done (by kernel_rfl) ?_ _
        have HL6 := Lib.hid (HPT.out W3 w5 HB5.out ds HA.out HL3.out)
        obtain ⟨V6, hV6⟩ : ∃ V6, V6 = w5.setCells g (i * 6) ds.toList := ⟨_, rfl⟩
        rw [← hV6] at HL6 ⊢
        clear hV6 HL5 HL3 HA HB5
        go_wp2_with fail
        go_roundw
        case rel => exact ⟨trivial, trivial, i + 1, _, by go_num, by omega, HL6⟩
        case measure => simp [intOf]; omega
      · have hin : i = t.kids.length := by omega
        have HF := Lib.hid (HL.out.shut (by omega))
        have HY := Lib.hid HL.out.res
        have HX := Lib.hid HL.out.arg
        have HB := Lib.hid HL.out.below
        subst hin
        clear HL
        obtain ⟨p0, p1, p2, p3, p4, p5⟩ := six_nd HX.out.six
        go_wp2_with (refine wpList_store_row rfl 25 (.tmp 2) (.tmp 29) rfl (w.heap.size + 1) (ndC t.k t.s t.n 0 (.slice ga t.kids.length cap) (.slice y5 t.p.length d5)) rfl rfl 25 zeroN HY.out.row HI rfl (nd_one _ _ _ _ _ _ _ _ _ _) ?_)
        refine bodyPost_ret (v := .agg (ndC t.k t.s t.n 0 (.slice ga t.kids.length cap) (.slice y5 t.p.length d5))) (results_cell_row (by rfl) _ _ (w.heap.size + 1) 25 _ (0, 0) _ (by rfl) (HY.out.setRow _).row Tryz.underlying25 (by rfl) HI) rfl ?_
        refine ⟨_, rfl, ?_, below_setRow HB.out (by omega) _⟩
        exact (HF.out.keep fun k hk _ => Go.setRow_other _ _ _ _ (by omega)).weakS fun k hk => by show w.heap.size ≤ k; omega
end Go.Proofs.YtgdlpldngpoadaaGreatDoor

/- Plain mathematics of digits, the lowest first: no program. -/
namespace Go.Proofs.YtgdlpldngpoadaaGreatDoor.T3
open Go.Proofs.YtgdlpldngpoadaaGreatDoor Go.Proofs

def val : List Nat → Nat
  | [] => 0
  | d :: l => d + 10 * val l
def Dl (l : List Nat) : Prop := ∀ d ∈ l, d < 10
def sv (m : Bool) (l : List Nat) : Int := if m then -(val l : Int) else val l

theorem val_append (a b : List Nat) : val (a ++ b) = val a + 10 ^ a.length * val b := by
  induction a with
  | nil => simp [val]
  | cons d a ih =>
    simp only [List.cons_append, val, List.length_cons, ih, Nat.pow_succ]
    rw [Nat.mul_add, ← Nat.mul_assoc, Nat.mul_comm 10 (10 ^ a.length)]
    omega

theorem val_lt {l : List Nat} (h : Dl l) : val l < 10 ^ l.length := by
  induction l with
  | nil => simp [val]
  | cons d l ih =>
    have h1 : d < 10 := h d (by simp)
    have h2 := ih (fun x hx => h x (by simp [hx]))
    simp only [val, List.length_cons, Nat.pow_succ]
    omega

theorem val_zeros (n : Nat) : val (List.replicate n 0) = 0 := by
  induction n with
  | zero => rfl
  | succ n ih => simp [List.replicate_succ, val, ih]

theorem Dl.nil : Dl [] := by intro d h; simp at h
theorem Dl.append {a b : List Nat} (ha : Dl a) (hb : Dl b) : Dl (a ++ b) := by
  intro d h
  rcases List.mem_append.1 h with h | h
  · exact ha d h
  · exact hb d h
theorem Dl.one {d : Nat} (h : d < 10) : Dl [d] := by intro x hx; simp at hx; omega
theorem Dl.take {l : List Nat} (h : Dl l) (k : Nat) : Dl (l.take k) := fun d hd => h d (List.mem_of_mem_take hd)
theorem Dl.drop {l : List Nat} (h : Dl l) (k : Nat) : Dl (l.drop k) := fun d hd => h d (List.mem_of_mem_drop hd)
theorem Dl.zeros (n : Nat) : Dl (List.replicate n 0) := by intro d h; rw [List.mem_replicate] at h; omega

theorem Dl.getD {l : List Nat} (h : Dl l) (k : Nat) : l.getD k 0 < 10 := by
  rw [List.getD_eq_getElem?_getD]
  rcases Nat.lt_or_ge k l.length with hk | hk
  · rw [List.getElem?_eq_getElem hk]; exact h _ (List.getElem_mem hk)
  · rw [List.getElem?_eq_none hk]; decide

/-- The first k digits of a list that goes on with noughts. -/
def pre (l : List Nat) (k : Nat) : Nat := val (l.take k)

theorem pre_succ (l : List Nat) (k : Nat) : pre l (k + 1) = pre l k + 10 ^ k * l.getD k 0 := by
  unfold pre
  rcases Nat.lt_or_ge k l.length with h | h
  · rw [List.take_succ_eq_append_getElem h, val_append, List.length_take, Nat.min_eq_left (by omega)]
    simp [val, List.getD_eq_getElem?_getD, h]
  · rw [List.take_of_length_le (by omega), List.take_of_length_le (by omega)]
    simp [List.getD_eq_getElem?_getD, List.getElem?_eq_none h]

theorem pre_all (l : List Nat) (k : Nat) (h : l.length ≤ k) : pre l k = val l := by
  unfold pre; rw [List.take_of_length_le h]

theorem pre_lt {l : List Nat} (h : Dl l) (k : Nat) : pre l k < 10 ^ k := by
  induction k with
  | zero => simp [pre, val]
  | succ k ih =>
    rw [pre_succ, Nat.pow_succ]
    have := h.getD k
    have h2 : 10 ^ k * l.getD k 0 ≤ 10 ^ k * 9 := Nat.mul_le_mul_left _ (by omega)
    omega

/-- The digits from k on. -/
def suf (l : List Nat) (k : Nat) : Nat := val (l.drop k)
theorem suf_step (l : List Nat) (k : Nat) : suf l k = l.getD k 0 + 10 * suf l (k + 1) := by
  unfold suf
  rcases Nat.lt_or_ge k l.length with h | h
  · rw [List.drop_eq_getElem_cons h]
    simp [val, List.getD_eq_getElem?_getD, h]
  · rw [List.drop_of_length_le h, List.drop_of_length_le (by omega)]
    simp [val, List.getD_eq_getElem?_getD, List.getElem?_eq_none h]
theorem suf_zero (l : List Nat) : suf l 0 = val l := rfl
theorem suf_end (l : List Nat) (k : Nat) (h : l.length ≤ k) : suf l k = 0 := by
  unfold suf; rw [List.drop_of_length_le h]; rfl

end Go.Proofs.YtgdlpldngpoadaaGreatDoor.T3
