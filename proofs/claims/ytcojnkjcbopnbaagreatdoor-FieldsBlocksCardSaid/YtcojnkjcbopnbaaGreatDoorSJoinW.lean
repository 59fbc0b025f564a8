/- subst.Join: a walk. -/
import Derived.Test.YtcojnkjcbopnbaaGreatDoorSStrs
namespace Go.Proofs.YtcojnkjcbopnbaaGreatDoor
open Go.RowKit

set_option maxRecDepth 100000 in
set_option maxHeartbeats 1000000 in
theorem sjoin_spec (l : List ByteArray) (v : Value) (sep : ByteArray) (w : World) (hl : StrsAt w v l) (hn : l.length ≤ 1000000000) (hlen : (sJoin sep.data.toList (bytesL l)).length ≤ 140737488355328) :
    Calls Tryz.prog 24 #[v, .string sep] w fun e w' => e = .returned (.string ⟨(sJoin sep.data.toList (bytesL l)).toArray⟩) ∧ Below w.heap.size w w' := by
  have HL := Lib.hid hl
  have HLEN := Lib.hid hlen
  obtain ⟨a, c, rfl⟩ := hl.shape
  clear hl hlen
  go_enter Tryz.func24, Tryz.ntmps24
  go_upto_region 2 with (fail)
  obtain ⟨W, hW, HW, HB⟩ := builder_new w
  rw [← hW]
  clear hW
  have HQ := Lib.hid (swrite_spec w.heap.size w.heap.size [] l _ sep W HW.out (HL.out.after HB.out) hn (by simpa using HLEN.out))
  go_wp2_with fail
  refine HQ.out.mono ?_
  rintro e w2 ⟨rfl, hw2⟩
  rw [List.nil_append] at hw2
  have W2 := Lib.hid hw2
  clear hw2
  have HS := Lib.hid (Tryz.Builder_String_any_f w.heap.size w.heap.size (sJoin sep.data.toList (bytesL l)) w2 W2.out.ok.is W2.out.ok.le)
  go_wp2_with fail
  refine HS.out.mono ?_
  rintro e w3 ⟨rfl, _, b3⟩
  have B3 := Lib.hid b3
  clear b3
  go_wp2_with fail
  go_ret
  exact ⟨rfl, HB.out.trans (W2.out.below.trans B3.out)⟩
end Go.Proofs.YtcojnkjcbopnbaaGreatDoor
