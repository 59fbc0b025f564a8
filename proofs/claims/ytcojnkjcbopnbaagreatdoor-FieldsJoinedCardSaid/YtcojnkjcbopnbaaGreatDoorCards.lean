/-
  DERIVED. GIVEN WITH THE SEED: THE CARDS: each row of YtcojnkjcbopnbaaGreatDoorRows.lean that lists a variable, with what it lists TIED to the program's text (the seventh form; the later family's looks); each row that meets fmt, with fmt's text TOLD by the authors' own Lean function (tested against real Go, not proved from fmt's source: count such statements apart). THE CARD IS WHAT COUNTS. Prove the row's statement (the work); the ties are given (YtcojnkjcbopnbaaGreatDoorTie.lean); close each card by the builder's one call (the guide's Derived/Test/ToyasCard.lean, 'card_holds'). Laid BY PROGRAM, IN A SANDBOX (cutbox-door.mjs). By AI agents, Wed Nov 11 2026. No macro, syntax, notation, axiom, sorry.
-/
import Derived.Test.YtcojnkjcbopnbaaGreatDoorRows
import GoSem.ClaimSeven
namespace Go.Proofs.YtcojnkjcbopnbaaGreatDoor
namespace Rows

/-- THE TIED CARD OF 'aukletlaw09.FieldsAll'. -/
def fieldsAllCard : Claim7 := { stood := { row := fieldsAllRow, standIns := [], harness := (true, "acbf7caadcee1df0d143f47ecfda4a930132173a47767f588a02a0449cc14643"), looks := true }, kinds := [], alts := [], laidByText := true, laidKinds := [.data, .pinned], laidTests := true, laidLooks := .later }
def FieldsAllCardSaid : Prop := Claim7.holds Tryz.pinned (.plain (OpenSpec.ofChange fieldsAllSpec)) fieldsAllCard

/-- THE TIED CARD OF 'aukletlaw09.FieldsBlocks'. -/
def fieldsBlocksCard : Claim7 := { stood := { row := fieldsBlocksRow, standIns := [], harness := (true, "acbf7caadcee1df0d143f47ecfda4a930132173a47767f588a02a0449cc14643"), looks := true }, kinds := [], alts := [], laidByText := true, laidKinds := [.data, .pinned], laidTests := true, laidLooks := .later }
def FieldsBlocksCardSaid : Prop := Claim7.holds Tryz.pinned (.plain (OpenSpec.ofChange fieldsBlocksSpec)) fieldsBlocksCard

/-- THE TIED CARD OF 'aukletlaw09.FieldsJoined'. -/
def fieldsJoinedCard : Claim7 := { stood := { row := fieldsJoinedRow, standIns := [], harness := (true, "acbf7caadcee1df0d143f47ecfda4a930132173a47767f588a02a0449cc14643"), looks := true }, kinds := [], alts := [], laidByText := true, laidKinds := [.data, .pinned], laidTests := true, laidLooks := .later }
def FieldsJoinedCardSaid : Prop := Claim7.holds Tryz.pinned (.plain (OpenSpec.ofChange fieldsJoinedSpec)) fieldsJoinedCard

/-- THE SECOND FORM's CARD OF 'aukletlaw09.FieldsAll'. -/
def fieldsAllUptoCard : Claim7 := { stood := { row := fieldsAllUptoRow, standIns := [], harness := (true, "acbf7caadcee1df0d143f47ecfda4a930132173a47767f588a02a0449cc14643"), looks := true }, kinds := [], alts := [], laidByText := true, laidKinds := [.data, .pinned], laidTests := true, laidLooks := .later }
def FieldsAllUptoCardSaid : Prop := Claim7.holds Tryz.pinned (.plain (OpenSpec.upto fieldsAllSpec)) fieldsAllUptoCard

/-- THE SECOND FORM's CARD OF 'aukletlaw09.FieldsBlocks'. -/
def fieldsBlocksUptoCard : Claim7 := { stood := { row := fieldsBlocksUptoRow, standIns := [], harness := (true, "acbf7caadcee1df0d143f47ecfda4a930132173a47767f588a02a0449cc14643"), looks := true }, kinds := [], alts := [], laidByText := true, laidKinds := [.data, .pinned], laidTests := true, laidLooks := .later }
def FieldsBlocksUptoCardSaid : Prop := Claim7.holds Tryz.pinned (.plain (OpenSpec.upto fieldsBlocksSpec)) fieldsBlocksUptoCard

/-- THE SECOND FORM's CARD OF 'aukletlaw09.FieldsJoined'. -/
def fieldsJoinedUptoCard : Claim7 := { stood := { row := fieldsJoinedUptoRow, standIns := [], harness := (true, "acbf7caadcee1df0d143f47ecfda4a930132173a47767f588a02a0449cc14643"), looks := true }, kinds := [], alts := [], laidByText := true, laidKinds := [.data, .pinned], laidTests := true, laidLooks := .later }
def FieldsJoinedUptoCardSaid : Prop := Claim7.holds Tryz.pinned (.plain (OpenSpec.upto fieldsJoinedSpec)) fieldsJoinedUptoCard
end Rows
end Go.Proofs.YtcojnkjcbopnbaaGreatDoor
