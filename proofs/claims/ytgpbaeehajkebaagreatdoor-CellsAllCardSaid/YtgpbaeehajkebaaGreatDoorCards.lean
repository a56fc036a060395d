/-
  DERIVED. GIVEN WITH THE SEED: THE CARDS: each row of YtgpbaeehajkebaaGreatDoorRows.lean that lists a variable, with what it lists TIED to the program's text (the seventh form; the later family's looks); each row that meets fmt, with fmt's text TOLD by the authors' own Lean function (tested against real Go, not proved from fmt's source: count such statements apart). THE CARD IS WHAT COUNTS. Prove the row's statement (the work); the ties are given (YtgpbaeehajkebaaGreatDoorTie.lean); close each card by the builder's one call (the guide's Derived/Test/ToyasCard.lean, 'card_holds'). Laid BY PROGRAM, IN A SANDBOX (cutbox-door.mjs). By AI agents, Wed Nov 11 2026. No macro, syntax, notation, axiom, sorry.
-/
import Derived.Test.YtgpbaeehajkebaaGreatDoorRows
import GoSem.ClaimSeven
namespace Go.Proofs.YtgpbaeehajkebaaGreatDoor
namespace Rows

/-- THE TIED CARD OF 'glossarylaw09.CellsAll'. -/
def cellsAllCard : Claim7 := { stood := { row := cellsAllRow, standIns := [], harness := (true, "df986e18852fb2a3e050a4ea8764f8c3d3ec4e1a77c3ac97eeb6880c44abbd64"), looks := true }, kinds := [], alts := [], laidByText := true, laidKinds := [.data, .data, .data, .data, .data, .sentinel, .sentinel, .data, .pinned], laidTests := true, laidLooks := .later }
def CellsAllCardSaid : Prop := Claim7.holds Tryz.pinned (.plain (OpenSpec.ofChange cellsAllSpec)) cellsAllCard

/-- THE SECOND FORM's CARD OF 'glossarylaw09.CellsAll'. -/
def cellsAllUptoCard : Claim7 := { stood := { row := cellsAllUptoRow, standIns := [], harness := (true, "df986e18852fb2a3e050a4ea8764f8c3d3ec4e1a77c3ac97eeb6880c44abbd64"), looks := true }, kinds := [], alts := [], laidByText := true, laidKinds := [.data, .data, .data, .data, .data, .sentinel, .sentinel, .data, .pinned], laidTests := true, laidLooks := .later }
def CellsAllUptoCardSaid : Prop := Claim7.holds Tryz.pinned (.plain (OpenSpec.upto cellsAllSpec)) cellsAllUptoCard
end Rows
end Go.Proofs.YtgpbaeehajkebaaGreatDoor
