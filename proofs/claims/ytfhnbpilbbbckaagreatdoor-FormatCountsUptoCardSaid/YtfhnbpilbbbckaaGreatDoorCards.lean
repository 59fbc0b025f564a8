/-
  DERIVED. GIVEN WITH THE SEED: THE CARDS: each row of YtfhnbpilbbbckaaGreatDoorRows.lean that lists a variable, with what it lists TIED to the program's text (the seventh form; the later family's looks); each row that meets fmt, with fmt's text TOLD by the authors' own Lean function (tested against real Go, not proved from fmt's source: count such statements apart). THE CARD IS WHAT COUNTS. Prove the row's statement (the work); the ties are given (YtfhnbpilbbbckaaGreatDoorTie.lean); close each card by the builder's one call (the guide's Derived/Test/ToyasCard.lean, 'card_holds'). Laid BY PROGRAM, IN A SANDBOX (cutbox-door.mjs). By AI agents, Wed Nov 11 2026. No macro, syntax, notation, axiom, sorry.
-/
import Derived.Test.YtfhnbpilbbbckaaGreatDoorRows
import GoSem.ClaimSeven
namespace Go.Proofs.YtfhnbpilbbbckaaGreatDoor
namespace Rows

/-- THE TIED CARD OF 'aukletlaw10.FormatDoes'. -/
def formatDoesCard : Claim7 := { stood := { row := formatDoesRow, standIns := [], harness := (true, "d4e29f30eb5efd5cf807286e0c684b6bb1a72e95df60957dd3fc4862b1bf5e83"), looks := false }, kinds := [], alts := [], laidByText := true, laidKinds := [.data, .data, .data], laidTests := true, laidLooks := .later }
def FormatDoesCardSaid : Prop := Claim7.holds Tryz.pinned (.plain (OpenSpec.ofChange formatDoesSpec)) formatDoesCard

/-- THE TIED CARD OF 'aukletlaw10.FormatCounts'. -/
def formatCountsCard : Claim7 := { stood := { row := formatCountsRow, standIns := [], harness := (true, "d4e29f30eb5efd5cf807286e0c684b6bb1a72e95df60957dd3fc4862b1bf5e83"), looks := false }, kinds := [], alts := [], laidByText := true, laidKinds := [.data, .data, .data], laidTests := true, laidLooks := .later }
def FormatCountsCardSaid : Prop := Claim7.holds Tryz.pinned (.plain (OpenSpec.ofChange formatCountsSpec)) formatCountsCard

/-- THE TIED CARD OF 'aukletlaw10.FormatJoins'. -/
def formatJoinsCard : Claim7 := { stood := { row := formatJoinsRow, standIns := [], harness := (true, "d4e29f30eb5efd5cf807286e0c684b6bb1a72e95df60957dd3fc4862b1bf5e83"), looks := false }, kinds := [], alts := [], laidByText := true, laidKinds := [.data, .data, .data], laidTests := true, laidLooks := .later }
def FormatJoinsCardSaid : Prop := Claim7.holds Tryz.pinned (.plain (OpenSpec.ofChange formatJoinsSpec)) formatJoinsCard

/-- THE SECOND FORM's CARD OF 'aukletlaw10.FormatDoes'. -/
def formatDoesUptoCard : Claim7 := { stood := { row := formatDoesUptoRow, standIns := [], harness := (true, "d4e29f30eb5efd5cf807286e0c684b6bb1a72e95df60957dd3fc4862b1bf5e83"), looks := false }, kinds := [], alts := [], laidByText := true, laidKinds := [.data, .data, .data], laidTests := true, laidLooks := .later }
def FormatDoesUptoCardSaid : Prop := Claim7.holds Tryz.pinned (.plain (OpenSpec.upto formatDoesSpec)) formatDoesUptoCard

/-- THE SECOND FORM's CARD OF 'aukletlaw10.FormatCounts'. -/
def formatCountsUptoCard : Claim7 := { stood := { row := formatCountsUptoRow, standIns := [], harness := (true, "d4e29f30eb5efd5cf807286e0c684b6bb1a72e95df60957dd3fc4862b1bf5e83"), looks := false }, kinds := [], alts := [], laidByText := true, laidKinds := [.data, .data, .data], laidTests := true, laidLooks := .later }
def FormatCountsUptoCardSaid : Prop := Claim7.holds Tryz.pinned (.plain (OpenSpec.upto formatCountsSpec)) formatCountsUptoCard

/-- THE SECOND FORM's CARD OF 'aukletlaw10.FormatJoins'. -/
def formatJoinsUptoCard : Claim7 := { stood := { row := formatJoinsUptoRow, standIns := [], harness := (true, "d4e29f30eb5efd5cf807286e0c684b6bb1a72e95df60957dd3fc4862b1bf5e83"), looks := false }, kinds := [], alts := [], laidByText := true, laidKinds := [.data, .data, .data], laidTests := true, laidLooks := .later }
def FormatJoinsUptoCardSaid : Prop := Claim7.holds Tryz.pinned (.plain (OpenSpec.upto formatJoinsSpec)) formatJoinsUptoCard
end Rows
end Go.Proofs.YtfhnbpilbbbckaaGreatDoor
