/-
  DERIVED. GIVEN WITH THE SEED: THE CARDS: each row of YtdhndfmblmcapaaDoorRows.lean that lists a variable, with what it lists TIED to the program's text (the seventh form; the later family's looks); each row that meets fmt, with fmt's text TOLD by the authors' own Lean function (tested against real Go, not proved from fmt's source: count such statements apart). THE CARD IS WHAT COUNTS. Prove the row's statement (the work); the ties are given (YtdhndfmblmcapaaDoorTie.lean); close each card by the builder's one call (the guide's Derived/Test/ToyasCard.lean, 'card_holds'). Laid BY PROGRAM, IN A SANDBOX (cutbox-door.mjs). By AI agents, Wed Nov 11 2026. No macro, syntax, notation, axiom, sorry.
-/
import Derived.Test.YtdhndfmblmcapaaDoorRows
import GoSem.ClaimSeven
namespace Go.Proofs.YtdhndfmblmcapaaDoor
namespace Rows

/-- THE TIED CARD OF 'aukletlaw05.EreShows'. -/
def ereShowsCard : Claim7 := { stood := { row := ereShowsRow, standIns := [], harness := (true, "637524bcee5afeea8f15304ede38529dc17745bbdddeeb403caedf24e47cbc22"), looks := true }, kinds := [], alts := [], laidByText := true, laidKinds := [.data, .data, .data], laidTests := true, laidLooks := .later }
def EreShowsCardSaid : Prop := Claim7.holds Tryd.pinned (.plain (OpenSpec.ofChange ereShowsSpec)) ereShowsCard

/-- THE TIED CARD OF 'aukletlaw05.EreBack'. -/
def ereBackCard : Claim7 := { stood := { row := ereBackRow, standIns := [], harness := (true, "637524bcee5afeea8f15304ede38529dc17745bbdddeeb403caedf24e47cbc22"), looks := true }, kinds := [], alts := [], laidByText := true, laidKinds := [.data, .data, .data], laidTests := true, laidLooks := .later }
def EreBackCardSaid : Prop := Claim7.holds Tryd.pinned (.plain (OpenSpec.ofChange ereBackSpec)) ereBackCard

/-- THE TIED CARD OF 'aukletlaw05.ErePlain'. -/
def erePlainCard : Claim7 := { stood := { row := erePlainRow, standIns := [], harness := (true, "637524bcee5afeea8f15304ede38529dc17745bbdddeeb403caedf24e47cbc22"), looks := true }, kinds := [], alts := [], laidByText := true, laidKinds := [.data, .data, .data], laidTests := true, laidLooks := .later }
def ErePlainCardSaid : Prop := Claim7.holds Tryd.pinned (.plain (OpenSpec.ofChange erePlainSpec)) erePlainCard

/-- THE SECOND FORM's CARD OF 'aukletlaw05.EreShows'. -/
def ereShowsUptoCard : Claim7 := { stood := { row := ereShowsUptoRow, standIns := [], harness := (true, "637524bcee5afeea8f15304ede38529dc17745bbdddeeb403caedf24e47cbc22"), looks := true }, kinds := [], alts := [], laidByText := true, laidKinds := [.data, .data, .data], laidTests := true, laidLooks := .later }
def EreShowsUptoCardSaid : Prop := Claim7.holds Tryd.pinned (.plain (OpenSpec.upto ereShowsSpec)) ereShowsUptoCard

/-- THE SECOND FORM's CARD OF 'aukletlaw05.EreBack'. -/
def ereBackUptoCard : Claim7 := { stood := { row := ereBackUptoRow, standIns := [], harness := (true, "637524bcee5afeea8f15304ede38529dc17745bbdddeeb403caedf24e47cbc22"), looks := true }, kinds := [], alts := [], laidByText := true, laidKinds := [.data, .data, .data], laidTests := true, laidLooks := .later }
def EreBackUptoCardSaid : Prop := Claim7.holds Tryd.pinned (.plain (OpenSpec.upto ereBackSpec)) ereBackUptoCard

/-- THE SECOND FORM's CARD OF 'aukletlaw05.ErePlain'. -/
def erePlainUptoCard : Claim7 := { stood := { row := erePlainUptoRow, standIns := [], harness := (true, "637524bcee5afeea8f15304ede38529dc17745bbdddeeb403caedf24e47cbc22"), looks := true }, kinds := [], alts := [], laidByText := true, laidKinds := [.data, .data, .data], laidTests := true, laidLooks := .later }
def ErePlainUptoCardSaid : Prop := Claim7.holds Tryd.pinned (.plain (OpenSpec.upto erePlainSpec)) erePlainUptoCard
end Rows
end Go.Proofs.YtdhndfmblmcapaaDoor
