/- What a row asks behind a call whose arguments lead to no memory and which makes new memory at most; a set, and two bytes, as arguments. -/
import Derived.Test.YtfdgjgmgkcoopaaSet
import Derived.ProofKit
import Derived.OpenShut
import Derived.Laws.IdiomArrays
import Derived.HandedShaped
import Derived.SizedLaws
namespace Go.Proofs.Ytfdgjgmgkcoopaa
open Go.ChangeShapes Go.WideShapes Go.ChangeAt Go.RowKit Go.ChangeMaps

theorem post_bare {H : Type} {enc : TypeId × Value → H} {f : Func} {s : ChangeSpec} {fresh handsOn : Bool} {W W' : World} {args : Array Value} {v : Value} {ds gs : List (DataW H)}
    (hW : DataW.Whole enc Try.prog f.params.toList s.vars false W args.toList ds gs [])
    (hres : ∀ (b : Nat) (sp : Nat → Bool) (hd : Bool), DataW.TrodAll enc Try.prog W' b sp hd f.resultTypes.toList (v.resultList f.resultTypes.size) (s.fn H (ds ++ gs)).results [])
    (hargs : ∀ sp : Nat → Bool, DataW.TrodAll enc Try.prog W' 0 sp true f.params.toList args.toList (s.fn H (ds ++ gs)).args [])
    (hvars : ∀ sp : Nat → Bool, DataW.TrodVars enc Try.prog W' sp s.vars (s.fn H (ds ++ gs)).vars [])
    (hb : Below W.heap.size W W') :
    s.post enc Try.prog f false fresh handsOn false W args v W' := by
  refine ⟨ds, gs, [], [], [], [], hW, hres _ _ _, hargs _, hvars _, World.keptBut_mono (fun p hp => ?_) (hb.frame (fun _ => False)), fun h => ?_⟩
  · exact absurd hp (by simp)
  · exact absurd h (by simp)

theorem list4 {α : Type} (l : List α) (h : (⟨l⟩ : Array α).size = 4) : ∃ a b c d, l = [a, b, c, d] := by
  match l, h with
  | [a, b, c, d], _ => exact ⟨a, b, c, d, rfl⟩
theorem list2 {α : Type} (l : List α) (h : (⟨l⟩ : Array α).size = 2) : ∃ a b, l = [a, b] := by
  match l, h with
  | [a, b], _ => exact ⟨a, b, rfl⟩
theorem cells_set : Try.prog.cellsOf 24 = 4 := by kernel_rfl
theorem cells_word : Try.prog.cellsOf 22 = 1 := by kernel_rfl
theorem cells_two : Try.prog.cellsOf 25 = 2 := by kernel_rfl
theorem cells_byte : Try.prog.cellsOf 5 = 1 := by kernel_rfl

theorem nat_word {a : Int} (h : (Lit.int .u64 a).wf = true) : ∃ n : Nat, a = n ∧ n < 18446744073709551616 := by
  have e1 : IntKind.u64.min = 0 := by decide
  have e2 : IntKind.u64.max = 18446744073709551615 := by decide
  simp [Lit.wf, e1, e2] at h
  exact ⟨a.toNat, by omega, by omega⟩
theorem wf_word {n : Nat} (h : n < 18446744073709551616) : (Lit.int .u64 (n : Int)).wf = true := by
  have e1 : IntKind.u64.min = 0 := by decide
  have e2 : IntKind.u64.max = 18446744073709551615 := by decide
  simp [Lit.wf, e1, e2]
  omega
theorem nat_byte {a : Int} (h : (Lit.int .u8 a).wf = true) : ∃ n : Nat, a = n ∧ n < 256 := by
  have e1 : IntKind.u8.min = 0 := by decide
  have e2 : IntKind.u8.max = 255 := by decide
  simp [Lit.wf, e1, e2] at h
  exact ⟨a.toNat, by omega, by omega⟩
theorem wf_byte {n : Nat} (h : n < 256) : (Lit.int .u8 (n : Int)).wf = true := by
  have e1 : IntKind.u8.min = 0 := by decide
  have e2 : IntKind.u8.max = 255 := by decide
  simp [Lit.wf, e1, e2]
  omega

def wordsD {H : Type} (f : Nat → Nat) : DataW H := .agg [.lit (.int .u64 (f 0)), .lit (.int .u64 (f 1)), .lit (.int .u64 (f 2)), .lit (.int .u64 (f 3))]

theorem open_set {H : Type} {enc : TypeId × Value → H} {W : World} {base b0 : Nat} {sp : Nat → Bool} {hd : Bool} {v : Value} {d : DataW H} {p : List MemPlace} (hv : Value.okWide Try.prog W .any b0 24 v) (h : DataW.Trod enc Try.prog W base sp hd 24 v d p) :
    ∃ f : Nat → Nat, v = .agg (words f) ∧ d = wordsD f ∧ p = [] ∧ Fits f := by
  obtain ⟨cs, rfl, hsz, _⟩ : ∃ cs, v = .agg cs ∧ cs.size = Try.prog.cellsOf 24 ∧ Row.okWide Try.prog W .any b0 24 cs := by
    simpa [Value.okWide, Try.underlying24] using hv
  rw [cells_set] at hsz
  obtain ⟨l⟩ := cs
  obtain ⟨c0, c1, c2, c3, rfl⟩ := list4 l hsz
  obtain ⟨fuel, hf⟩ := h
  obtain ⟨y0, y1, y2, y3, m, hx, hy0, hy1, hy2, hy3⟩ := trod_array4 Try.underlying24 cells_word hf
  obtain ⟨x0, e0, rfl, w0⟩ := DataW.trod_int Try.underlying22 hy0
  obtain ⟨x1, e1, rfl, w1⟩ := DataW.trod_int Try.underlying22 hy1
  obtain ⟨x2, e2, rfl, w2⟩ := DataW.trod_int Try.underlying22 hy2
  obtain ⟨x3, e3, rfl, w3⟩ := DataW.trod_int Try.underlying22 hy3
  simp at e0 e1 e2 e3
  subst e0 e1 e2 e3
  simp only [Prod.mk.injEq] at hx
  obtain ⟨rfl, rfl⟩ := hx
  obtain ⟨n0, rfl, k0⟩ := nat_word w0
  obtain ⟨n1, rfl, k1⟩ := nat_word w1
  obtain ⟨n2, rfl, k2⟩ := nat_word w2
  obtain ⟨n3, rfl, k3⟩ := nat_word w3
  refine ⟨fun k => if k = 0 then n0 else if k = 1 then n1 else if k = 2 then n2 else n3, rfl, rfl, rfl, fun k _ => ?_⟩
  show (if k = 0 then n0 else if k = 1 then n1 else if k = 2 then n2 else n3) < _
  split
  · exact k0
  · split
    · exact k1
    · split
      · exact k2
      · exact k3

theorem shut_set {H : Type} {enc : TypeId × Value → H} {W : World} {base : Nat} {sp : Nat → Bool} {hd : Bool} {f : Nat → Nat} (hf : Fits f) : DataW.Trod enc Try.prog W base sp hd 24 (.agg (words f)) (wordsD f) [] := by
  have r4 : List.range 4 = [0, 1, 2, 3] := rfl
  have w0 := wf_word (hf 0 (by omega)); have w1 := wf_word (hf 1 (by omega)); have w2 := wf_word (hf 2 (by omega)); have w3 := wf_word (hf 3 (by omega))
  exact ⟨2, by simp [DataW.trod, Value.cells, words, wordsD, Try.underlying24, Try.underlying22, cells_set, cells_word, r4, w0, w1, w2, w3]⟩

def twoV (a b : Nat) : Value := .agg #[.int .u8 a, .int .u8 b]
def twoD {H : Type} (a b : Nat) : DataW H := .agg [.lit (.int .u8 a), .lit (.int .u8 b)]
theorem open_two {H : Type} {enc : TypeId × Value → H} {W : World} {base b0 : Nat} {sp : Nat → Bool} {hd : Bool} {v : Value} {d : DataW H} {p : List MemPlace} (hv : Value.okWide Try.prog W .any b0 25 v) (h : DataW.Trod enc Try.prog W base sp hd 25 v d p) :
    ∃ x : Nat × Nat, v = twoV x.1 x.2 ∧ d = twoD x.1 x.2 ∧ p = [] ∧ x.1 < 256 ∧ x.2 < 256 := by
  obtain ⟨cs, rfl, hsz, _⟩ : ∃ cs, v = .agg cs ∧ cs.size = Try.prog.cellsOf 25 ∧ Row.okWide Try.prog W .any b0 25 cs := by
    simpa [Value.okWide, Try.underlying25] using hv
  rw [cells_two] at hsz
  obtain ⟨l⟩ := cs
  obtain ⟨c0, c1, rfl⟩ := list2 l hsz
  obtain ⟨fuel, hf⟩ := h
  obtain ⟨xs, m, _, hx, _, hl, hg⟩ := DataW.trod_array Try.underlying25 hf
  obtain ⟨y0, y1, rfl⟩ := list2 xs (by simpa using hl)
  have hy0 := hg 0 (by omega)
  have hy1 := hg 1 (by omega)
  simp [cells_byte, Value.cells] at hy0 hy1
  obtain ⟨x0, e0, rfl, w0⟩ := DataW.trod_int Try.underlying5 hy0
  obtain ⟨x1, e1, rfl, w1⟩ := DataW.trod_int Try.underlying5 hy1
  simp at e0 e1
  subst e0 e1
  simp at hx
  obtain ⟨rfl, rfl⟩ := hx
  obtain ⟨n0, rfl, k0⟩ := nat_byte w0
  obtain ⟨n1, rfl, k1⟩ := nat_byte w1
  exact ⟨(n0, n1), rfl, rfl, rfl, k0, k1⟩
theorem shut_two {H : Type} {enc : TypeId × Value → H} {W : World} {base : Nat} {sp : Nat → Bool} {hd : Bool} {a b : Nat} (ha : a < 256) (hb : b < 256) : DataW.Trod enc Try.prog W base sp hd 25 (twoV a b) (twoD a b) [] := by
  have r2 : List.range 2 = [0, 1] := rfl
  have w0 := wf_byte ha; have w1 := wf_byte hb
  exact ⟨2, by simp [DataW.trod, Value.cells, twoV, twoD, Try.underlying25, Try.underlying5, cells_two, cells_byte, r2, w0, w1]⟩
end Go.Proofs.Ytfdgjgmgkcoopaa
