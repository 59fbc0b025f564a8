/- The program's Read: a walk. -/
import Derived.Test.YtpifpokbkjddjaaK17R
namespace Go.Proofs.Ytpifpokbkjddjaa
open Go.RowKit

set_option maxRecDepth 100000 in
set_option maxHeartbeats 2000000 in
theorem read_spec (w : World) (b : Nat) (O : Nat → Prop) (s : Sst) (name : ByteArray) (c : UInt8) (h92 : c ≠ 92) (hP : StP w b O s) :
    Calls Try.prog 11 #[pt b, .string name, .string ⟨#[c]⟩] w fun e w' => e = .returned (.tuple #[.string (readG c name s.given).2.1, .int .i64 (readG c name s.given).2.2, .int .i64 0]) ∧ Leaves StP w b O (readS c name s) w' := by
  obtain ⟨ρ, d, hO, h⟩ := hP
  have c2 : w.cell? ⟨b, 2, none⟩ = some (.map (some d.m)) := (h.top.cell 2).trans rfl
  have hl := h.src.look name
  obtain ⟨m, hm⟩ : ∃ m, m = d.m := ⟨_, rfl⟩
  rw [← hm] at c2 hl
  have H := Lib.hid h
  have HO := Lib.hid hO
  clear hm
  show Calls Try.prog _ #[.pointer (some ⟨b, 0, none⟩), .string name, .string ⟨#[c]⟩] w _
  rcases hl with ⟨hr, hg⟩ | ⟨i, x, p, hx, hxn, hr, hg, hsc, hrl⟩
  · have HR : Hid (readG c name s.given = (s.given, ⟨#[]⟩, -1)) := Lib.hid (read_none c name s.given hg)
    have HS : Hid (readS c name s = s) := Lib.hid (by unfold readS; rw [read_none c name s.given hg])
    obtain ⟨rs, hrs⟩ : ∃ rs : ByteArray, rs = ⟨#[c]⟩ := ⟨_, rfl⟩
    rw [← hrs]
    clear hg h hO hrs
    go_enter Try.func11, Try.ntmps11
    go_wp2_with fail
    ((try simp only [Exit.inBlock, Exit.then]); refine bodyPost_ret (results_3 rfl _ _ _) rfl ?_)
    exact ⟨by rw [HR.out]; rfl, by rw [HS.out]; exact StP.same HO.out H.out⟩
  · have hrow := hsc.row
    have HN := Lib.hid (source_next w x.2 p c h92 hsc.small hsc.pos ((cell_of_row _ _ 0 _ _ _ hrow).trans rfl) ((cell_of_row _ _ 1 _ _ _ hrow).trans rfl) (frozen_of_row _ _ 1 _ _ hrow))
    have HRD := Lib.hid (read_some c name p s.given hg).1
    have HST : Hid (∀ e w', NxOut w x.2 c p e w' → Leaves StP w b O (readS c name s) w') := Lib.hid fun e w' ho => by
      refine StP.leaves hO (h.read_src name c i x p hx hxn hg ho) (fun k q hq => Or.inl ⟨q, hq⟩) (ho.but.mono fun k hk => ?_)
      rw [hk]
      exact ⟨_, hrl⟩
    obtain ⟨k, hk⟩ : ∃ k, k = x.2 := ⟨_, rfl⟩
    rw [← hk] at hr HN HST
    obtain ⟨rs, hrs⟩ : ∃ rs : ByteArray, rs = ⟨#[c]⟩ := ⟨_, rfl⟩
    rw [← hrs] at HN ⊢
    clear hg h hO hrs hx hxn hrow hsc hrl hk
    cases hq : nextB c p with
    | none =>
      have HR2 : Hid ((readG c name s.given).2 = (⟨#[]⟩, 0)) := Lib.hid (by rw [HRD.out, hq]; unfold recI; rw [hq]; rfl)
      have hq1 : (nextB c p).isSome = false := by rw [hq]; rfl
      clear hq
      go_enter Try.func11, Try.ntmps11
      go_wp2_with fail
      refine HN.out.mono ?_
      intro e w1 ho
      have hos := ho.1
      rw [hq1] at hos
      subst hos
      have HF := Lib.hid (HST.out _ _ ho)
      clear ho hq1
      go_wp2_with fail
      ((try simp only [Exit.inBlock, Exit.then]); refine bodyPost_ret (results_3 rfl _ _ _) rfl ?_)
      exact ⟨by rw [HR2.out]; rfl, HF.out⟩
    | some rp =>
      have HR2 : Hid ((readG c name s.given).2 = (recI c p, 1)) := Lib.hid (by rw [HRD.out, hq]; rfl)
      have hq1 : (nextB c p).isSome = true := by rw [hq]; rfl
      obtain ⟨R, hR⟩ : ∃ R, R = recI c p := ⟨_, rfl⟩
      rw [← hR] at HR2
      clear hq
      go_enter Try.func11, Try.ntmps11
      go_wp2_with fail
      refine HN.out.mono ?_
      intro e w1 ho
      have hos := ho.1
      rw [hq1, ← hR] at hos
      subst hos
      have HF := Lib.hid (HST.out _ _ ho)
      clear ho hq1 hR
      go_wp2_with fail
      ((try simp only [Exit.inBlock, Exit.then]); refine bodyPost_ret (results_3 rfl _ _ _) rfl ?_)
      exact ⟨by rw [HR2.out]; rfl, HF.out⟩
end Go.Proofs.Ytpifpokbkjddjaa
