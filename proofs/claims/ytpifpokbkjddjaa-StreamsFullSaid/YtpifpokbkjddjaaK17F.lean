/- The program's Print, Out: walks. -/
import Derived.Test.YtpifpokbkjddjaaK17E
namespace Go.Proofs.Ytpifpokbkjddjaa
open Go.RowKit

theorem lies_streams : liesAt Try.prog Try.prog.depth 56 (7 / Try.prog.cellsOf 56) 3 51 1 = true := by kernel_rfl

set_option maxRecDepth 100000 in
set_option maxHeartbeats 2000000 in
theorem print_spec (w : World) (b : Nat) (O : Nat → Prop) (s : Sst) (t : ByteArray) (hP : StP w b O s) (_ht : t.size ≤ 100000) :
    Calls Try.prog 8 #[pt b, .string t] w fun e w' => e = .returned (.int .i64 (printS s t).2) ∧ Leaves StP w b O (printS s t).1 w' := by
  obtain ⟨ρ, d, hO, h⟩ := hP
  have HR := Lib.hid (room_spec w b ρ s d h)
  have hall := h.all
  have H := Lib.hid h
  have HO := Lib.hid hO
  obtain ⟨A, hA⟩ : ∃ A : Nat, A = s.all := ⟨_, rfl⟩
  rw [← hA] at HR hall
  by_cases hf : 65536 < A + t.size
  · have HS : Hid (printS s t = (s, 8)) := Lib.hid (by unfold printS fullB; rw [← hA, decide_eq_true hf, if_pos rfl])
    have d1 : decide ((t.size : Int) > 65536 - (A : Int)) = true := decide_eq_true (by omega)
    have d2 : decide (65536 - (A : Int) < (t.size : Int)) = true := decide_eq_true (by omega)
    clear hA h hO
    show Calls Try.prog _ #[.pointer (some ⟨b, 0, none⟩), .string t] w _
    go_enter Try.func8, Try.ntmps8
    go_wp2_with fail
    refine HR.out.mono ?_
    rintro e w1 ⟨rfl, e1⟩
    subst e1
    go_wp2_with fail
    go_ret
    exact ⟨by rw [HS.out]; rfl, by rw [HS.out]; exact StP.same HO.out H.out⟩
  · have HS : Hid (printS s t = ({ s with out := s.out ++ t }, 0)) := Lib.hid (by unfold printS fullB; rw [← hA, decide_eq_false hf]; rfl)
    have d1 : decide ((t.size : Int) > 65536 - (A : Int)) = false := decide_eq_false (by omega)
    have d2 : decide (65536 - (A : Int) < (t.size : Int)) = false := decide_eq_false (by omega)
    have hol : s.out.data.toList.length ≤ 65536 := by
      have h1 : s.out.size + sizesF s.made = A := hA.symm
      have : s.out.data.toList.length = s.out.size := by simp
      omega
    have HW := Lib.hid (bd_write 56 7 3 b lies_streams (topC s d) d.v s.out.data.toList t w h.top (by omega))
    have HE : Hid (s.all + t.size ≤ 65536) := Lib.hid (by omega)
    clear hA h hO hol
    show Calls Try.prog _ #[.pointer (some ⟨b, 0, none⟩), .string t] w _
    go_enter Try.func8, Try.ntmps8
    go_wp2_with fail
    refine HR.out.mono ?_
    rintro e w1 ⟨rfl, e1⟩
    subst e1
    go_wp2_with fail
    refine HW.out.mono ?_
    rintro e w1 ⟨rfl, v', ho⟩
    have HB := Lib.hid ho
    clear ho
    go_wp2_with fail
    go_ret
    refine ⟨by rw [HS.out]; rfl, ?_⟩
    rw [HS.out]
    have h := H.out
    refine StP.leaves HO.out (h.wrote_top t HB.out HE.out) (fun k q hq => ?_) (HB.out.but.mono fun k hk => ?_)
    · rcases Rol.some_ h.rbuf HB.out.loc k q hq with h1 | ⟨h1, _⟩
      · exact Or.inl h1
      · exact Or.inr h1
    · rcases h.top_role k hk with h1 | h1
      · exact ⟨_, h1⟩
      · exact ⟨_, h1⟩

set_option maxRecDepth 100000 in
set_option maxHeartbeats 2000000 in
theorem out_spec (w : World) (b : Nat) (O : Nat → Prop) (s : Sst) (hP : StP w b O s) :
    Calls Try.prog 12 #[pt b] w fun e w' => e = .returned (.string s.out) ∧ Leaves StP w b O s w' := by
  obtain ⟨ρ, d, hO, h⟩ := hP
  have H := Lib.hid h
  have HO := Lib.hid hO
  have HB := Lib.hid (bd_string 56 7 3 b (topC s d) d.v s.out.data.toList w h.top)
  clear h hO
  show Calls Try.prog _ #[.pointer (some ⟨b, 0, none⟩)] w _
  go_enter Try.func12, Try.ntmps12
  go_wp2_with fail
  refine HB.out.mono ?_
  rintro e w1 ⟨rfl, h1, h2, _⟩
  have H1 := Lib.hid h1
  have H2 := Lib.hid h2
  clear h1 h2
  go_wp2_with fail
  go_ret
  refine ⟨rfl, StP.leaves HO.out (H.out.told_top H1.out H2.out) (fun k q hq => Or.inl ⟨q, hq⟩) (H2.out.mono fun k hk => ⟨_, H.out.rbuf k hk⟩)⟩
end Go.Proofs.Ytpifpokbkjddjaa
