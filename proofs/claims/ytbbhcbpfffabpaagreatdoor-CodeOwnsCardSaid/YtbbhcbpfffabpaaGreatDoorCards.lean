/-
  DERIVED. GIVEN WITH THE SEED: THE CARDS: each row of YtbbhcbpfffabpaaGreatDoorRows.lean that lists a variable, with what it lists TIED to the program's text (the seventh form; the later family's looks); each row that meets fmt, with fmt's text TOLD by the authors' own Lean function (tested against real Go, not proved from fmt's source: count such statements apart). THE CARD IS WHAT COUNTS. Prove the row's statement (the work); the ties are given (YtbbhcbpfffabpaaGreatDoorTie.lean); close each card by the builder's one call (the guide's Derived/Test/ToyasCard.lean, 'card_holds'). Laid BY PROGRAM, IN A SANDBOX (cutbox-door.mjs). By AI agents, Wed Nov 11 2026. No macro, syntax, notation, axiom, sorry.
-/
import Derived.Test.YtbbhcbpfffabpaaGreatDoorRows
import GoSem.ClaimSeven
namespace Go.Proofs.YtbbhcbpfffabpaaGreatDoor
namespace Rows

/-- THE TIED CARD OF 'aukletlaw15.CodeOwns'. -/
def codeOwnsCard : Claim7 := { stood := { row := codeOwnsRow, standIns := [], harness := (true, "d75f9d0c7b465804447f689222ed56a0ec5d3abf50c7c9f37a44f84eed33b17b"), looks := false }, kinds := [], alts := [], laidByText := true, laidKinds := [.data, .data, .data], laidTests := true, laidLooks := .later }
def CodeOwnsCardSaid : Prop := Claim7.holds Tryz.pinned (.plain (OpenSpec.ofChange codeOwnsSpec)) codeOwnsCard

/-- THE SECOND FORM's CARD OF 'aukletlaw15.CodeOwns'. -/
def codeOwnsUptoCard : Claim7 := { stood := { row := codeOwnsUptoRow, standIns := [], harness := (true, "d75f9d0c7b465804447f689222ed56a0ec5d3abf50c7c9f37a44f84eed33b17b"), looks := false }, kinds := [], alts := [], laidByText := true, laidKinds := [.data, .data, .data], laidTests := true, laidLooks := .later }
def CodeOwnsUptoCardSaid : Prop := Claim7.holds Tryz.pinned (.plain (OpenSpec.upto codeOwnsSpec)) codeOwnsUptoCard
end Rows
end Go.Proofs.YtbbhcbpfffabpaaGreatDoor
