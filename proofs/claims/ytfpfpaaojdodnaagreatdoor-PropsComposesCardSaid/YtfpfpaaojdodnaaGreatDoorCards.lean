/-
  DERIVED. GIVEN WITH THE SEED: THE CARDS: each row of YtfpfpaaojdodnaaGreatDoorRows.lean that lists a variable, with what it lists TIED to the program's text (the seventh form; the later family's looks); each row that meets fmt, with fmt's text TOLD by the authors' own Lean function (tested against real Go, not proved from fmt's source: count such statements apart). THE CARD IS WHAT COUNTS. Prove the row's statement (the work); the ties are given (YtfpfpaaojdodnaaGreatDoorTie.lean); close each card by the builder's one call (the guide's Derived/Test/ToyasCard.lean, 'card_holds'). Laid BY PROGRAM, IN A SANDBOX (cutbox-door.mjs). By AI agents, Wed Nov 11 2026. No macro, syntax, notation, axiom, sorry.
-/
import Derived.Test.YtfpfpaaojdodnaaGreatDoorRows
import GoSem.ClaimSeven
namespace Go.Proofs.YtfpfpaaojdodnaaGreatDoor
namespace Rows

/-- THE TIED CARD OF 'glossarylaw06.PropsReads'. -/
def propsReadsCard : Claim7 := { stood := { row := propsReadsRow, standIns := [], harness := (true, "2c760b0b59fdfc83985e8a9b734934934379678cfbe0ebe298e46420fcb8834b"), looks := true }, kinds := [], alts := [], laidByText := true, laidKinds := [.data, .data, .data, .data, .data, .handle, .sentinel, .sentinel, .data, .pinned], laidTests := true, laidLooks := .later }
def PropsReadsCardSaid : Prop := Claim7.holds Tryz.pinned (.plain (OpenSpec.ofChange propsReadsSpec)) propsReadsCard

/-- THE TIED CARD OF 'glossarylaw06.PropsComposes'. -/
def propsComposesCard : Claim7 := { stood := { row := propsComposesRow, standIns := [], harness := (true, "2c760b0b59fdfc83985e8a9b734934934379678cfbe0ebe298e46420fcb8834b"), looks := true }, kinds := [], alts := [], laidByText := true, laidKinds := [.data, .data, .data, .data, .data, .sentinel, .sentinel, .data, .pinned], laidTests := true, laidLooks := .later }
def PropsComposesCardSaid : Prop := Claim7.holds Tryz.pinned (.plain (OpenSpec.ofChange propsComposesSpec)) propsComposesCard

/-- THE TIED CARD OF 'glossarylaw09.CellsAll'. -/
def cellsAllCard : Claim7 := { stood := { row := cellsAllRow, standIns := [], harness := (true, "2c760b0b59fdfc83985e8a9b734934934379678cfbe0ebe298e46420fcb8834b"), looks := true }, kinds := [], alts := [], laidByText := true, laidKinds := [.data, .data, .data, .data, .data, .sentinel, .sentinel, .data, .pinned], laidTests := true, laidLooks := .later }
def CellsAllCardSaid : Prop := Claim7.holds Tryz.pinned (.plain (OpenSpec.ofChange cellsAllSpec)) cellsAllCard

/-- THE TIED CARD OF 'glossarylaw09.CellsWhole'. -/
def cellsWholeCard : Claim7 := { stood := { row := cellsWholeRow, standIns := [], harness := (true, "2c760b0b59fdfc83985e8a9b734934934379678cfbe0ebe298e46420fcb8834b"), looks := true }, kinds := [], alts := [], laidByText := true, laidKinds := [.data, .data, .data, .data, .data, .sentinel, .sentinel, .data, .pinned], laidTests := true, laidLooks := .later }
def CellsWholeCardSaid : Prop := Claim7.holds Tryz.pinned (.plain (OpenSpec.ofChange cellsWholeSpec)) cellsWholeCard

/-- THE TIED CARD OF 'glossarylaw09.CellsBeside'. -/
def cellsBesideCard : Claim7 := { stood := { row := cellsBesideRow, standIns := [], harness := (true, "2c760b0b59fdfc83985e8a9b734934934379678cfbe0ebe298e46420fcb8834b"), looks := true }, kinds := [], alts := [], laidByText := true, laidKinds := [.data, .data, .data, .data, .data, .sentinel, .sentinel, .data, .pinned], laidTests := true, laidLooks := .later }
def CellsBesideCardSaid : Prop := Claim7.holds Tryz.pinned (.plain (OpenSpec.ofChange cellsBesideSpec)) cellsBesideCard

/-- THE TIED CARD OF 'glossarylaw09.CellsPlain'. -/
def cellsPlainCard : Claim7 := { stood := { row := cellsPlainRow, standIns := [], harness := (true, "2c760b0b59fdfc83985e8a9b734934934379678cfbe0ebe298e46420fcb8834b"), looks := true }, kinds := [], alts := [], laidByText := true, laidKinds := [.data, .data, .data, .data, .sentinel, .sentinel, .data, .pinned], laidTests := true, laidLooks := .later }
def CellsPlainCardSaid : Prop := Claim7.holds Tryz.pinned (.plain (OpenSpec.ofChange cellsPlainSpec)) cellsPlainCard

/-- THE SECOND FORM's CARD OF 'glossarylaw06.PropsReads'. -/
def propsReadsUptoCard : Claim7 := { stood := { row := propsReadsUptoRow, standIns := [], harness := (true, "2c760b0b59fdfc83985e8a9b734934934379678cfbe0ebe298e46420fcb8834b"), looks := true }, kinds := [], alts := [], laidByText := true, laidKinds := [.data, .data, .data, .data, .data, .handle, .sentinel, .sentinel, .data, .pinned], laidTests := true, laidLooks := .later }
def PropsReadsUptoCardSaid : Prop := Claim7.holds Tryz.pinned (.plain (OpenSpec.upto propsReadsSpec)) propsReadsUptoCard

/-- THE SECOND FORM's CARD OF 'glossarylaw06.PropsComposes'. -/
def propsComposesUptoCard : Claim7 := { stood := { row := propsComposesUptoRow, standIns := [], harness := (true, "2c760b0b59fdfc83985e8a9b734934934379678cfbe0ebe298e46420fcb8834b"), looks := true }, kinds := [], alts := [], laidByText := true, laidKinds := [.data, .data, .data, .data, .data, .sentinel, .sentinel, .data, .pinned], laidTests := true, laidLooks := .later }
def PropsComposesUptoCardSaid : Prop := Claim7.holds Tryz.pinned (.plain (OpenSpec.upto propsComposesSpec)) propsComposesUptoCard

/-- THE SECOND FORM's CARD OF 'glossarylaw09.CellsAll'. -/
def cellsAllUptoCard : Claim7 := { stood := { row := cellsAllUptoRow, standIns := [], harness := (true, "2c760b0b59fdfc83985e8a9b734934934379678cfbe0ebe298e46420fcb8834b"), looks := true }, kinds := [], alts := [], laidByText := true, laidKinds := [.data, .data, .data, .data, .data, .sentinel, .sentinel, .data, .pinned], laidTests := true, laidLooks := .later }
def CellsAllUptoCardSaid : Prop := Claim7.holds Tryz.pinned (.plain (OpenSpec.upto cellsAllSpec)) cellsAllUptoCard

/-- THE SECOND FORM's CARD OF 'glossarylaw09.CellsWhole'. -/
def cellsWholeUptoCard : Claim7 := { stood := { row := cellsWholeUptoRow, standIns := [], harness := (true, "2c760b0b59fdfc83985e8a9b734934934379678cfbe0ebe298e46420fcb8834b"), looks := true }, kinds := [], alts := [], laidByText := true, laidKinds := [.data, .data, .data, .data, .data, .sentinel, .sentinel, .data, .pinned], laidTests := true, laidLooks := .later }
def CellsWholeUptoCardSaid : Prop := Claim7.holds Tryz.pinned (.plain (OpenSpec.upto cellsWholeSpec)) cellsWholeUptoCard

/-- THE SECOND FORM's CARD OF 'glossarylaw09.CellsBeside'. -/
def cellsBesideUptoCard : Claim7 := { stood := { row := cellsBesideUptoRow, standIns := [], harness := (true, "2c760b0b59fdfc83985e8a9b734934934379678cfbe0ebe298e46420fcb8834b"), looks := true }, kinds := [], alts := [], laidByText := true, laidKinds := [.data, .data, .data, .data, .data, .sentinel, .sentinel, .data, .pinned], laidTests := true, laidLooks := .later }
def CellsBesideUptoCardSaid : Prop := Claim7.holds Tryz.pinned (.plain (OpenSpec.upto cellsBesideSpec)) cellsBesideUptoCard

/-- THE SECOND FORM's CARD OF 'glossarylaw09.CellsPlain'. -/
def cellsPlainUptoCard : Claim7 := { stood := { row := cellsPlainUptoRow, standIns := [], harness := (true, "2c760b0b59fdfc83985e8a9b734934934379678cfbe0ebe298e46420fcb8834b"), looks := true }, kinds := [], alts := [], laidByText := true, laidKinds := [.data, .data, .data, .data, .sentinel, .sentinel, .data, .pinned], laidTests := true, laidLooks := .later }
def CellsPlainUptoCardSaid : Prop := Claim7.holds Tryz.pinned (.plain (OpenSpec.upto cellsPlainSpec)) cellsPlainUptoCard
end Rows
end Go.Proofs.YtfpfpaaojdodnaaGreatDoor
