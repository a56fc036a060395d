/-
  DERIVED. GIVEN WITH THE SEED: THE CARDS: each row of YthhepebkfokddaaGreatDoorRows.lean that lists a variable, with what it lists TIED to the program's text (the seventh form; the later family's looks); each row that meets fmt, with fmt's text TOLD by the authors' own Lean function (tested against real Go, not proved from fmt's source: count such statements apart). THE CARD IS WHAT COUNTS. Prove the row's statement (the work); the ties are given (YthhepebkfokddaaGreatDoorTie.lean); close each card by the builder's one call (the guide's Derived/Test/ToyasCard.lean, 'card_holds'). Laid BY PROGRAM, IN A SANDBOX (cutbox-door.mjs). By AI agents, Wed Nov 11 2026. No macro, syntax, notation, axiom, sorry.
-/
import Derived.Test.YthhepebkfokddaaGreatDoorRows
import GoSem.ClaimSeven
namespace Go.Proofs.YthhepebkfokddaaGreatDoor
namespace Rows

/-- THE TIED CARD OF 'glossarylaw09.CellsPlain'. -/
def cellsPlainCard : Claim7 := { stood := { row := cellsPlainRow, standIns := [], harness := (true, "01d39d540031f2602742c728e4725b91423cf4cf32376ec68f7e1e0786f79ada"), looks := true }, kinds := [], alts := [], laidByText := true, laidKinds := [.data, .data, .data, .data, .sentinel, .sentinel, .data, .pinned], laidTests := true, laidLooks := .later }
def CellsPlainCardSaid : Prop := Claim7.holds Tryz.pinned (.plain (OpenSpec.ofChange cellsPlainSpec)) cellsPlainCard

/-- THE TIED CARD OF 'glossarylaw09.CellsBeside'. -/
def cellsBesideCard : Claim7 := { stood := { row := cellsBesideRow, standIns := [], harness := (true, "01d39d540031f2602742c728e4725b91423cf4cf32376ec68f7e1e0786f79ada"), looks := true }, kinds := [], alts := [], laidByText := true, laidKinds := [.data, .data, .data, .data, .data, .sentinel, .sentinel, .data, .pinned], laidTests := true, laidLooks := .later }
def CellsBesideCardSaid : Prop := Claim7.holds Tryz.pinned (.plain (OpenSpec.ofChange cellsBesideSpec)) cellsBesideCard

/-- THE TIED CARD OF 'glossarylaw09.CellsWhole'. -/
def cellsWholeCard : Claim7 := { stood := { row := cellsWholeRow, standIns := [], harness := (true, "01d39d540031f2602742c728e4725b91423cf4cf32376ec68f7e1e0786f79ada"), looks := true }, kinds := [], alts := [], laidByText := true, laidKinds := [.data, .data, .data, .data, .data, .sentinel, .sentinel, .data, .pinned], laidTests := true, laidLooks := .later }
def CellsWholeCardSaid : Prop := Claim7.holds Tryz.pinned (.plain (OpenSpec.ofChange cellsWholeSpec)) cellsWholeCard

/-- THE SECOND FORM's CARD OF 'glossarylaw09.CellsPlain'. -/
def cellsPlainUptoCard : Claim7 := { stood := { row := cellsPlainUptoRow, standIns := [], harness := (true, "01d39d540031f2602742c728e4725b91423cf4cf32376ec68f7e1e0786f79ada"), looks := true }, kinds := [], alts := [], laidByText := true, laidKinds := [.data, .data, .data, .data, .sentinel, .sentinel, .data, .pinned], laidTests := true, laidLooks := .later }
def CellsPlainUptoCardSaid : Prop := Claim7.holds Tryz.pinned (.plain (OpenSpec.upto cellsPlainSpec)) cellsPlainUptoCard

/-- THE SECOND FORM's CARD OF 'glossarylaw09.CellsBeside'. -/
def cellsBesideUptoCard : Claim7 := { stood := { row := cellsBesideUptoRow, standIns := [], harness := (true, "01d39d540031f2602742c728e4725b91423cf4cf32376ec68f7e1e0786f79ada"), looks := true }, kinds := [], alts := [], laidByText := true, laidKinds := [.data, .data, .data, .data, .data, .sentinel, .sentinel, .data, .pinned], laidTests := true, laidLooks := .later }
def CellsBesideUptoCardSaid : Prop := Claim7.holds Tryz.pinned (.plain (OpenSpec.upto cellsBesideSpec)) cellsBesideUptoCard

/-- THE SECOND FORM's CARD OF 'glossarylaw09.CellsWhole'. -/
def cellsWholeUptoCard : Claim7 := { stood := { row := cellsWholeUptoRow, standIns := [], harness := (true, "01d39d540031f2602742c728e4725b91423cf4cf32376ec68f7e1e0786f79ada"), looks := true }, kinds := [], alts := [], laidByText := true, laidKinds := [.data, .data, .data, .data, .data, .sentinel, .sentinel, .data, .pinned], laidTests := true, laidLooks := .later }
def CellsWholeUptoCardSaid : Prop := Claim7.holds Tryz.pinned (.plain (OpenSpec.upto cellsWholeSpec)) cellsWholeUptoCard
end Rows
end Go.Proofs.YthhepebkfokddaaGreatDoor
