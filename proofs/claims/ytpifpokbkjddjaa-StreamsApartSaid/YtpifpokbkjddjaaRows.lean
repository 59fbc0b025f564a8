/-
  No cell of these rows narrows 'for every input' (looked for: loops, veiled, ifaces, maps, wideKeys, modest, calm, conditions, laid).
  DERIVED. THE GIVEN ROWS OF THIS SEAT. 3 by the template 'for every input the law returns true; each argument reads behind the call as it read before'; 0 by the template 'total and deterministic' (their statements: YtpifpokbkjddjaaTotals.lean).
  GIVEN WITH THE SEED: the statements are not yours to turn. If you find one false, say at which input.
  Laid BY PROGRAM, IN A SANDBOX (cutbox-rows.mjs): the forced cells as the released guide's own fill.sh prints them over the translation 9cd5b8af46785da9… (all of the seat's roots in one cut). By AI agents, Wed Nov 11 2026. No macro, syntax, notation, axiom, sorry.
-/
import Derived.Test.YtpifpokbkjddjaaChecked
import GoSem.Claim
import GoSem.ClaimJoined
import GoSem.ClaimMapViews
import Derived.JoinedTies
import Derived.KernelRfl
namespace Go.Proofs.Ytpifpokbkjddjaa
/- THE CELL 'sum', in the pinned program and in every row, IS THE sha256 OF THE DUMP (.gsa) THAT YtpifpokbkjddjaaProg.lean LOADS. Nothing in Lean hashes anything: it is a label: what it is worth is what the hold of that sum in a sandbox is worth. -/
noncomputable def Try.pinned : Pinned := { name := "ytpifpokbkjddjaa", sum := "9cd5b8af46785da90414b8912e504f802a228c2710c989d729a910343b7bd4a1", checked := Try.checked }
namespace Rows
def none {H : Type} : Left H := { results := [], args := [] }

/-- 'aukletlaw17.StreamsApart': WHATEVER THE INPUT: true; the input reads as it did. -/
def streamsApartSpec : ChangeSpec := { name := "streamsApart", fn := fun _ => fun
  | [d1, d2, d3] => { results := [.lit (.bool true)], args := [d1, d2, d3] }
  | _ => none }
def streamsApartRow : OpenClaim := { program := "ytpifpokbkjddjaa", sum := "9cd5b8af46785da90414b8912e504f802a228c2710c989d729a910343b7bd4a1", func := "auklet/aukletlaw17.StreamsApart", spec := "streamsApart", inPlace := ["internal/abi.NoEscape", "internal/bytealg.IndexByteString", "internal/bytealg.IndexString"], unfollowed := true, recurses := true, named := ["internal/bytealg.MaxLen"], apart := false }
def StreamsApartSaid : Prop := streamsApartRow.holds Try.pinned (OpenSpec.ofChange streamsApartSpec)

/-- ITS FALSE NEIGHBOUR: 'it returns false'. Refute it at one input. -/
def streamsApartWrong : ChangeSpec := { name := "streamsApart", fn := fun _ => fun
  | [d1, d2, d3] => { results := [.lit (.bool false)], args := [d1, d2, d3] }
  | _ => none }
def StreamsApartWrongFalsely : Prop := streamsApartRow.holds Try.pinned (OpenSpec.ofChange streamsApartWrong)

/-- 'aukletlaw17.StreamsFull': WHATEVER THE INPUT: true; the input reads as it did. -/
def streamsFullSpec : ChangeSpec := { name := "streamsFull", fn := fun _ => fun
  | [d] => { results := [.lit (.bool true)], args := [d] }
  | _ => none }
def streamsFullRow : OpenClaim := { program := "ytpifpokbkjddjaa", sum := "9cd5b8af46785da90414b8912e504f802a228c2710c989d729a910343b7bd4a1", func := "auklet/aukletlaw17.StreamsFull", spec := "streamsFull", inPlace := ["internal/abi.NoEscape"], apart := false }
def StreamsFullSaid : Prop := streamsFullRow.holds Try.pinned (OpenSpec.ofChange streamsFullSpec)

/-- ITS FALSE NEIGHBOUR: 'it returns false'. Refute it at one input. -/
def streamsFullWrong : ChangeSpec := { name := "streamsFull", fn := fun _ => fun
  | [d] => { results := [.lit (.bool false)], args := [d] }
  | _ => none }
def StreamsFullWrongFalsely : Prop := streamsFullRow.holds Try.pinned (OpenSpec.ofChange streamsFullWrong)

/-- 'aukletlaw17.StreamsPrints': WHATEVER THE INPUT: true; the input reads as it did. -/
def streamsPrintsSpec : ChangeSpec := { name := "streamsPrints", fn := fun _ => fun
  | [d1, d2] => { results := [.lit (.bool true)], args := [d1, d2] }
  | _ => none }
def streamsPrintsRow : OpenClaim := { program := "ytpifpokbkjddjaa", sum := "9cd5b8af46785da90414b8912e504f802a228c2710c989d729a910343b7bd4a1", func := "auklet/aukletlaw17.StreamsPrints", spec := "streamsPrints", inPlace := ["internal/abi.NoEscape"], apart := false }
def StreamsPrintsSaid : Prop := streamsPrintsRow.holds Try.pinned (OpenSpec.ofChange streamsPrintsSpec)

/-- ITS FALSE NEIGHBOUR: 'it returns false'. Refute it at one input. -/
def streamsPrintsWrong : ChangeSpec := { name := "streamsPrints", fn := fun _ => fun
  | [d1, d2] => { results := [.lit (.bool false)], args := [d1, d2] }
  | _ => none }
def StreamsPrintsWrongFalsely : Prop := streamsPrintsRow.holds Try.pinned (OpenSpec.ofChange streamsPrintsWrong)

/- THE SECOND FORM. 'bulk': how many values and letters a reading holds, each counted each time it is reached (what is shared counts as often as it is met; a slice's spare places count too). A statement '..UptoSaid' is the law's where the arguments, and the package variables that the reading takes, are together of bulk at most 1048576: NARROWER than '..Said'. Prove '..Said' where nothing that the law and all that it calls make is longer than what came in: it says more and counts as full. Else prove '..UptoSaid'. A law counts once. -/
mutual
def uptoBulk {H : Type} : DataW H → Nat
  | .lit (.string bytes) => bytes.length + 1
  | .lit _ => 1
  | .nil => 1
  | .ptr d => uptoBulk d + 1
  | .slice elems spare => uptoBulkAll elems + uptoBulkAll spare + 1
  | .agg parts => uptoBulkAll parts + 1
  | .iface _ d => uptoBulk d + 1
  | .map entries => uptoBulkEntries entries + 1
  | .held _ => 1
def uptoBulkAll {H : Type} : List (DataW H) → Nat
  | [] => 0
  | d :: r => uptoBulk d + uptoBulkAll r
def uptoBulkEntries {H : Type} : List (Lit × DataW H) → Nat
  | [] => 0
  | x :: r => uptoBulkEntry x + uptoBulkEntries r
def uptoBulkEntry {H : Type} : Lit × DataW H → Nat
  | (.string bytes, d) => bytes.length + uptoBulk d + 1
  | (_, d) => uptoBulk d + 1
 end
def uptoSmall : (H : Type) → List (DataW H) → Bool := fun _ ds => decide (uptoBulkAll ds ≤ 1048576)
def OpenSpec.upto (s : _root_.Go.ChangeSpec) : _root_.Go.OpenSpec := { _root_.Go.OpenSpec.ofChange s with cond := some uptoSmall }

/-- 'aukletlaw17.StreamsApart', WHERE WHAT IT READS IS OF BULK AT MOST 1048576: true; the input reads as it did. -/
def streamsApartUptoRow : OpenClaim := { program := "ytpifpokbkjddjaa", sum := "9cd5b8af46785da90414b8912e504f802a228c2710c989d729a910343b7bd4a1", func := "auklet/aukletlaw17.StreamsApart", spec := "streamsApart", inPlace := ["internal/abi.NoEscape", "internal/bytealg.IndexByteString", "internal/bytealg.IndexString"], unfollowed := true, recurses := true, named := ["internal/bytealg.MaxLen"], apart := false, narrowed := true }
def StreamsApartUptoSaid : Prop := streamsApartUptoRow.holds Try.pinned (OpenSpec.upto streamsApartSpec)

/-- 'aukletlaw17.StreamsFull', WHERE WHAT IT READS IS OF BULK AT MOST 1048576: true; the input reads as it did. -/
def streamsFullUptoRow : OpenClaim := { program := "ytpifpokbkjddjaa", sum := "9cd5b8af46785da90414b8912e504f802a228c2710c989d729a910343b7bd4a1", func := "auklet/aukletlaw17.StreamsFull", spec := "streamsFull", inPlace := ["internal/abi.NoEscape"], apart := false, narrowed := true }
def StreamsFullUptoSaid : Prop := streamsFullUptoRow.holds Try.pinned (OpenSpec.upto streamsFullSpec)

/-- 'aukletlaw17.StreamsPrints', WHERE WHAT IT READS IS OF BULK AT MOST 1048576: true; the input reads as it did. -/
def streamsPrintsUptoRow : OpenClaim := { program := "ytpifpokbkjddjaa", sum := "9cd5b8af46785da90414b8912e504f802a228c2710c989d729a910343b7bd4a1", func := "auklet/aukletlaw17.StreamsPrints", spec := "streamsPrints", inPlace := ["internal/abi.NoEscape"], apart := false, narrowed := true }
def StreamsPrintsUptoSaid : Prop := streamsPrintsUptoRow.holds Try.pinned (OpenSpec.upto streamsPrintsSpec)

end Rows
end Go.Proofs.Ytpifpokbkjddjaa
