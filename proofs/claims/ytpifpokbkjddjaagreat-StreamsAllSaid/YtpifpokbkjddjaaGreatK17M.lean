/- The program's Main: a walk. -/
import Derived.Test.YtpifpokbkjddjaaGreatK17R
namespace Go.Proofs.YtpifpokbkjddjaaGreat
open Go.RowKit

set_option maxRecDepth 100000 in
set_option maxHeartbeats 2000000 in
theorem main_spec (w : World) (b : Nat) (O : Nat → Prop) (s : Sst) (c : UInt8) (h92 : c ≠ 92) (hP : StP w b O s) :
    Calls Tryz.prog 6 #[pt b, .string ⟨#[c]⟩] w fun e w' => e = .returned (.tuple #[.string (recI c s.main), .bool (nextB c s.main).isSome, .int .i64 0]) ∧ Leaves StP w b O (mainS c s) w' := by
  obtain ⟨ρ, d, hO, h⟩ := hP
  have HN := Lib.hid (source_next w b s.main c h92 h.small h.pos ((h.top.cell 0).trans rfl) ((h.top.cell 1).trans rfl) (h.top.z 1))
  have HST : Hid (∀ e w', NxOut w b c s.main e w' → Leaves StP w b O (mainS c s) w') := Lib.hid fun e w' ho => by
    refine StP.leaves hO (h.read_main c ho) (fun k q hq => Or.inl ⟨q, hq⟩) (ho.but.mono fun k hk => ?_)
    rw [hk]
    exact ⟨_, h.rtop⟩
  obtain ⟨rs, hrs⟩ : ∃ rs : ByteArray, rs = ⟨#[c]⟩ := ⟨_, rfl⟩
  rw [← hrs] at HN ⊢
  obtain ⟨R, hR⟩ : ∃ R, R = recI c s.main := ⟨_, rfl⟩
  obtain ⟨B, hB⟩ : ∃ B, B = (nextB c s.main).isSome := ⟨_, rfl⟩
  rw [← hR, ← hB]
  have HR := Lib.hid hR
  have HB := Lib.hid hB
  clear h hO hrs hR hB
  show Calls Tryz.prog _ #[.pointer (some ⟨b, 0, none⟩), .string rs] w _
  go_enter Tryz.func6, Tryz.ntmps6
  go_wp2_with fail
  refine HN.out.mono ?_
  intro e w1 ho
  have hos := ho.1
  rw [← HR.out, ← HB.out] at hos
  subst hos
  have HF := Lib.hid (HST.out _ _ ho)
  clear ho
  go_wp2_with fail
  ((try simp only [Exit.inBlock, Exit.then]); refine bodyPost_ret (results_3 rfl _ _ _) rfl ?_)
  exact ⟨rfl, HF.out⟩
end Go.Proofs.YtpifpokbkjddjaaGreat
