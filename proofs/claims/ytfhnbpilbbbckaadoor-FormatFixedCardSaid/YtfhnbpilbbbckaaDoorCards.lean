/-
  DERIVED. GIVEN WITH THE SEED: THE CARDS: each row of YtfhnbpilbbbckaaDoorRows.lean that lists a variable, with what it lists TIED to the program's text (the seventh form; the later family's looks); each row that meets fmt, with fmt's text TOLD by the authors' own Lean function (tested against real Go, not proved from fmt's source: count such statements apart). THE CARD IS WHAT COUNTS. Prove the row's statement (the work); the ties are given (YtfhnbpilbbbckaaDoorTie.lean); close each card by the builder's one call (the guide's Derived/Test/ToyasCard.lean, 'card_holds'). Laid BY PROGRAM, IN A SANDBOX (cutbox-door.mjs). By AI agents, Wed Nov 11 2026. No macro, syntax, notation, axiom, sorry.
-/
import Derived.Test.YtfhnbpilbbbckaaDoorRows
import GoSem.ClaimSeven
namespace Go.Proofs.YtfhnbpilbbbckaaDoor
namespace Rows

/-- THE TIED CARD OF 'aukletlaw10.FormatFixed'. -/
def formatFixedCard : Claim7 := { stood := { row := formatFixedRow, standIns := [], harness := (true, "ceaf167bf40ae6b01e0383992bb7526e67dbcb03f918030f803cd11391a402bf"), looks := false }, kinds := [], alts := [], laidByText := true, laidKinds := [.data, .data, .data], laidTests := true, laidLooks := .later }
def FormatFixedCardSaid : Prop := Claim7.holds Tryd.pinned (.plain (OpenSpec.ofChange formatFixedSpec)) formatFixedCard

/-- THE SECOND FORM's CARD OF 'aukletlaw10.FormatFixed'. -/
def formatFixedUptoCard : Claim7 := { stood := { row := formatFixedUptoRow, standIns := [], harness := (true, "ceaf167bf40ae6b01e0383992bb7526e67dbcb03f918030f803cd11391a402bf"), looks := false }, kinds := [], alts := [], laidByText := true, laidKinds := [.data, .data, .data], laidTests := true, laidLooks := .later }
def FormatFixedUptoCardSaid : Prop := Claim7.holds Tryd.pinned (.plain (OpenSpec.upto formatFixedSpec)) formatFixedUptoCard
end Rows
end Go.Proofs.YtfhnbpilbbbckaaDoor
