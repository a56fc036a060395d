/-
  DERIVED. GIVEN WITH THE SEED: THE CARDS: each row of YtcfhblbmpbfoaaaGreatDoorRows.lean that lists a variable, with what it lists TIED to the program's text (the seventh form; the later family's looks); each row that meets fmt, with fmt's text TOLD by the authors' own Lean function (tested against real Go, not proved from fmt's source: count such statements apart). THE CARD IS WHAT COUNTS. Prove the row's statement (the work); the ties are given (YtcfhblbmpbfoaaaGreatDoorTie.lean); close each card by the builder's one call (the guide's Derived/Test/ToyasCard.lean, 'card_holds'). Laid BY PROGRAM, IN A SANDBOX (cutbox-door.mjs). By AI agents, Wed Nov 11 2026. No macro, syntax, notation, axiom, sorry.
-/
import Derived.Test.YtcfhblbmpbfoaaaGreatDoorRows
import GoSem.ClaimSeven
namespace Go.Proofs.YtcfhblbmpbfoaaaGreatDoor
namespace Rows

/-- THE TIED CARD OF 'glossarylaw07.NormalRows'. -/
def normalRowsCard : Claim7 := { stood := { row := normalRowsRow, standIns := [], harness := (true, "96d54e7cc206b2b00490e7b21c2ec23528b7fae6dece61215a6b3489f235bce3"), looks := true }, kinds := [], alts := [], laidByText := true, laidKinds := [.data, .data, .data, .data, .data, .sentinel, .sentinel, .data, .pinned], laidTests := true, laidLooks := .later }
def NormalRowsCardSaid : Prop := Claim7.holds Tryz.pinned (.plain (OpenSpec.ofChange normalRowsSpec)) normalRowsCard

/-- THE TIED CARD OF 'glossarylaw07.NormalTexts'. -/
def normalTextsCard : Claim7 := { stood := { row := normalTextsRow, standIns := [], harness := (true, "96d54e7cc206b2b00490e7b21c2ec23528b7fae6dece61215a6b3489f235bce3"), looks := true }, kinds := [], alts := [], laidByText := true, laidKinds := [.data, .data, .data, .data, .data, .sentinel, .sentinel, .data, .pinned], laidTests := true, laidLooks := .later }
def NormalTextsCardSaid : Prop := Claim7.holds Tryz.pinned (.plain (OpenSpec.ofChange normalTextsSpec)) normalTextsCard

/-- THE TIED CARD OF 'glossarylaw07.NormalStreams'. -/
def normalStreamsCard : Claim7 := { stood := { row := normalStreamsRow, standIns := [], harness := (true, "96d54e7cc206b2b00490e7b21c2ec23528b7fae6dece61215a6b3489f235bce3"), looks := true }, kinds := [], alts := [], laidByText := true, laidKinds := [.data, .data, .data, .data, .data, .sentinel, .sentinel, .data, .pinned], laidTests := true, laidLooks := .later }
def NormalStreamsCardSaid : Prop := Claim7.holds Tryz.pinned (.plain (OpenSpec.ofChange normalStreamsSpec)) normalStreamsCard

/-- THE TIED CARD OF 'glossarylaw07.NormalTwice'. -/
def normalTwiceCard : Claim7 := { stood := { row := normalTwiceRow, standIns := [], harness := (true, "96d54e7cc206b2b00490e7b21c2ec23528b7fae6dece61215a6b3489f235bce3"), looks := true }, kinds := [], alts := [], laidByText := true, laidKinds := [.data, .data, .data, .data, .sentinel, .sentinel, .data, .pinned], laidTests := true, laidLooks := .later }
def NormalTwiceCardSaid : Prop := Claim7.holds Tryz.pinned (.plain (OpenSpec.ofChange normalTwiceSpec)) normalTwiceCard

/-- THE TIED CARD OF 'glossarylaw07.NormalCuts'. -/
def normalCutsCard : Claim7 := { stood := { row := normalCutsRow, standIns := [], harness := (true, "96d54e7cc206b2b00490e7b21c2ec23528b7fae6dece61215a6b3489f235bce3"), looks := true }, kinds := [], alts := [], laidByText := true, laidKinds := [.data, .data, .data, .data, .sentinel, .sentinel, .data, .pinned], laidTests := true, laidLooks := .later }
def NormalCutsCardSaid : Prop := Claim7.holds Tryz.pinned (.plain (OpenSpec.ofChange normalCutsSpec)) normalCutsCard

/-- THE TIED CARD OF 'glossarylaw07.NormalPieces'. -/
def normalPiecesCard : Claim7 := { stood := { row := normalPiecesRow, standIns := [], harness := (true, "96d54e7cc206b2b00490e7b21c2ec23528b7fae6dece61215a6b3489f235bce3"), looks := true }, kinds := [], alts := [], laidByText := true, laidKinds := [.data, .data, .data, .data, .sentinel, .sentinel, .data, .pinned], laidTests := true, laidLooks := .later }
def NormalPiecesCardSaid : Prop := Claim7.holds Tryz.pinned (.plain (OpenSpec.ofChange normalPiecesSpec)) normalPiecesCard

/-- THE TIED CARD OF 'glossarylaw07.NormalBytes'. -/
def normalBytesCard : Claim7 := { stood := { row := normalBytesRow, standIns := [], harness := (true, "96d54e7cc206b2b00490e7b21c2ec23528b7fae6dece61215a6b3489f235bce3"), looks := true }, kinds := [], alts := [], laidByText := true, laidKinds := [.data, .data, .data, .data, .sentinel, .sentinel, .data, .pinned], laidTests := true, laidLooks := .later }
def NormalBytesCardSaid : Prop := Claim7.holds Tryz.pinned (.plain (OpenSpec.ofChange normalBytesSpec)) normalBytesCard

/-- THE SECOND FORM's CARD OF 'glossarylaw07.NormalRows'. -/
def normalRowsUptoCard : Claim7 := { stood := { row := normalRowsUptoRow, standIns := [], harness := (true, "96d54e7cc206b2b00490e7b21c2ec23528b7fae6dece61215a6b3489f235bce3"), looks := true }, kinds := [], alts := [], laidByText := true, laidKinds := [.data, .data, .data, .data, .data, .sentinel, .sentinel, .data, .pinned], laidTests := true, laidLooks := .later }
def NormalRowsUptoCardSaid : Prop := Claim7.holds Tryz.pinned (.plain (OpenSpec.upto normalRowsSpec)) normalRowsUptoCard

/-- THE SECOND FORM's CARD OF 'glossarylaw07.NormalTexts'. -/
def normalTextsUptoCard : Claim7 := { stood := { row := normalTextsUptoRow, standIns := [], harness := (true, "96d54e7cc206b2b00490e7b21c2ec23528b7fae6dece61215a6b3489f235bce3"), looks := true }, kinds := [], alts := [], laidByText := true, laidKinds := [.data, .data, .data, .data, .data, .sentinel, .sentinel, .data, .pinned], laidTests := true, laidLooks := .later }
def NormalTextsUptoCardSaid : Prop := Claim7.holds Tryz.pinned (.plain (OpenSpec.upto normalTextsSpec)) normalTextsUptoCard

/-- THE SECOND FORM's CARD OF 'glossarylaw07.NormalStreams'. -/
def normalStreamsUptoCard : Claim7 := { stood := { row := normalStreamsUptoRow, standIns := [], harness := (true, "96d54e7cc206b2b00490e7b21c2ec23528b7fae6dece61215a6b3489f235bce3"), looks := true }, kinds := [], alts := [], laidByText := true, laidKinds := [.data, .data, .data, .data, .data, .sentinel, .sentinel, .data, .pinned], laidTests := true, laidLooks := .later }
def NormalStreamsUptoCardSaid : Prop := Claim7.holds Tryz.pinned (.plain (OpenSpec.upto normalStreamsSpec)) normalStreamsUptoCard

/-- THE SECOND FORM's CARD OF 'glossarylaw07.NormalTwice'. -/
def normalTwiceUptoCard : Claim7 := { stood := { row := normalTwiceUptoRow, standIns := [], harness := (true, "96d54e7cc206b2b00490e7b21c2ec23528b7fae6dece61215a6b3489f235bce3"), looks := true }, kinds := [], alts := [], laidByText := true, laidKinds := [.data, .data, .data, .data, .sentinel, .sentinel, .data, .pinned], laidTests := true, laidLooks := .later }
def NormalTwiceUptoCardSaid : Prop := Claim7.holds Tryz.pinned (.plain (OpenSpec.upto normalTwiceSpec)) normalTwiceUptoCard

/-- THE SECOND FORM's CARD OF 'glossarylaw07.NormalCuts'. -/
def normalCutsUptoCard : Claim7 := { stood := { row := normalCutsUptoRow, standIns := [], harness := (true, "96d54e7cc206b2b00490e7b21c2ec23528b7fae6dece61215a6b3489f235bce3"), looks := true }, kinds := [], alts := [], laidByText := true, laidKinds := [.data, .data, .data, .data, .sentinel, .sentinel, .data, .pinned], laidTests := true, laidLooks := .later }
def NormalCutsUptoCardSaid : Prop := Claim7.holds Tryz.pinned (.plain (OpenSpec.upto normalCutsSpec)) normalCutsUptoCard

/-- THE SECOND FORM's CARD OF 'glossarylaw07.NormalPieces'. -/
def normalPiecesUptoCard : Claim7 := { stood := { row := normalPiecesUptoRow, standIns := [], harness := (true, "96d54e7cc206b2b00490e7b21c2ec23528b7fae6dece61215a6b3489f235bce3"), looks := true }, kinds := [], alts := [], laidByText := true, laidKinds := [.data, .data, .data, .data, .sentinel, .sentinel, .data, .pinned], laidTests := true, laidLooks := .later }
def NormalPiecesUptoCardSaid : Prop := Claim7.holds Tryz.pinned (.plain (OpenSpec.upto normalPiecesSpec)) normalPiecesUptoCard

/-- THE SECOND FORM's CARD OF 'glossarylaw07.NormalBytes'. -/
def normalBytesUptoCard : Claim7 := { stood := { row := normalBytesUptoRow, standIns := [], harness := (true, "96d54e7cc206b2b00490e7b21c2ec23528b7fae6dece61215a6b3489f235bce3"), looks := true }, kinds := [], alts := [], laidByText := true, laidKinds := [.data, .data, .data, .data, .sentinel, .sentinel, .data, .pinned], laidTests := true, laidLooks := .later }
def NormalBytesUptoCardSaid : Prop := Claim7.holds Tryz.pinned (.plain (OpenSpec.upto normalBytesSpec)) normalBytesUptoCard
end Rows
end Go.Proofs.YtcfhblbmpbfoaaaGreatDoor
