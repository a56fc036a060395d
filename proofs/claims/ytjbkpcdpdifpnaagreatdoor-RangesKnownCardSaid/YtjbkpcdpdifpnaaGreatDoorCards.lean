/-
  DERIVED. GIVEN WITH THE SEED: THE CARDS: each row of YtjbkpcdpdifpnaaGreatDoorRows.lean that lists a variable, with what it lists TIED to the program's text (the seventh form; the later family's looks); each row that meets fmt, with fmt's text TOLD by the authors' own Lean function (tested against real Go, not proved from fmt's source: count such statements apart). THE CARD IS WHAT COUNTS. Prove the row's statement (the work); the ties are given (YtjbkpcdpdifpnaaGreatDoorTie.lean); close each card by the builder's one call (the guide's Derived/Test/ToyasCard.lean, 'card_holds'). Laid BY PROGRAM, IN A SANDBOX (cutbox-door.mjs). By AI agents, Wed Nov 11 2026. No macro, syntax, notation, axiom, sorry.
-/
import Derived.Test.YtjbkpcdpdifpnaaGreatDoorRows
import GoSem.ClaimSeven
namespace Go.Proofs.YtjbkpcdpdifpnaaGreatDoor
namespace Rows

/-- THE TIED CARD OF 'glossarylaw03.RangesKnown'. -/
def rangesKnownCard : Claim7 := { stood := { row := rangesKnownRow, standIns := [], harness := (true, "2dd5b098a103e8de65c1173e907883e6be70e0832cda8f39b8e3a26147178958"), looks := true }, kinds := [], alts := [], laidByText := true, laidKinds := [.data, .data, .data, .handle, .sentinel, .sentinel, .data], laidTests := true, laidLooks := .later }
def RangesKnownCardSaid : Prop := Claim7.holds Tryz.pinned (.plain (OpenSpec.ofChange rangesKnownSpec)) rangesKnownCard

/-- THE SECOND FORM's CARD OF 'glossarylaw03.RangesKnown'. -/
def rangesKnownUptoCard : Claim7 := { stood := { row := rangesKnownUptoRow, standIns := [], harness := (true, "2dd5b098a103e8de65c1173e907883e6be70e0832cda8f39b8e3a26147178958"), looks := true }, kinds := [], alts := [], laidByText := true, laidKinds := [.data, .data, .data, .handle, .sentinel, .sentinel, .data], laidTests := true, laidLooks := .later }
def RangesKnownUptoCardSaid : Prop := Claim7.holds Tryz.pinned (.plain (OpenSpec.upto rangesKnownSpec)) rangesKnownUptoCard
end Rows
end Go.Proofs.YtjbkpcdpdifpnaaGreatDoor
