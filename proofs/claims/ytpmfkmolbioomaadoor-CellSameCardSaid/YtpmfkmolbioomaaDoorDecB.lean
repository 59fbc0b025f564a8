/- Contracts of dec's products and quotients. -/
import Derived.Test.YtpmfkmolbioomaaDoorDecA
namespace Go.Proofs.YtpmfkmolbioomaaDoor
open Go.RowKit

def Drew (w w' : World) : Prop := ∃ n, w' = w.drewN n

theorem Drew.refl (w : World) : Drew w w := ⟨0, rfl⟩

def sgn (b : Bool) (n : Nat) : Int := if b then -(n : Int) else n

theorem signed_sgn (n : Nat) (b : Bool) (w : World) (hn : n ≤ 18446744073709551615) :
    Calls Tryd.prog 47 #[.int .u64 n, .bool b] w fun e w' => e = .returned (ans (back (sgn b n))) ∧ w = w' := signed_any n b w hn

theorem natAbs_lt {a : Int} (h : Fits a) : a.natAbs < 18446744073709551616 := by unfold Fits at h; omega

end Go.Proofs.YtpmfkmolbioomaaDoor
