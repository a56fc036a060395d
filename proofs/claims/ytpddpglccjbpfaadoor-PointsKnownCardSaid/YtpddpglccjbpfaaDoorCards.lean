/-
  DERIVED. GIVEN WITH THE SEED: THE CARDS: each row of YtpddpglccjbpfaaDoorRows.lean that lists a variable, with what it lists TIED to the program's text (the seventh form; the later family's looks); each row that meets fmt, with fmt's text TOLD by the authors' own Lean function (tested against real Go, not proved from fmt's source: count such statements apart). THE CARD IS WHAT COUNTS. Prove the row's statement (the work); the ties are given (YtpddpglccjbpfaaDoorTie.lean); close each card by the builder's one call (the guide's Derived/Test/ToyasCard.lean, 'card_holds'). Laid BY PROGRAM, IN A SANDBOX (cutbox-door.mjs). By AI agents, Wed Nov 11 2026. No macro, syntax, notation, axiom, sorry.
-/
import Derived.Test.YtpddpglccjbpfaaDoorRows
import GoSem.ClaimSeven
namespace Go.Proofs.YtpddpglccjbpfaaDoor
namespace Rows

/-- THE TIED CARD OF 'glossarylaw02.PointsKnown'. -/
def pointsKnownCard : Claim7 := { stood := { row := pointsKnownRow, standIns := [], harness := (true, "82a4803fab8e2b51237f7956bc903ff41551312b41351e413412c66c6c2a3a73"), looks := true }, kinds := [], alts := [], laidByText := true, laidKinds := [.data, .data, .handle, .pinned], laidTests := true, laidLooks := .later }
def PointsKnownCardSaid : Prop := Claim7.holds Tryd.pinned (.plain (OpenSpec.ofChange pointsKnownSpec)) pointsKnownCard

/-- THE TIED CARD OF 'glossarylaw03.RangesLaws'. -/
def rangesLawsCard : Claim7 := { stood := { row := rangesLawsRow, standIns := [], harness := (true, "82a4803fab8e2b51237f7956bc903ff41551312b41351e413412c66c6c2a3a73"), looks := true }, kinds := [], alts := [], laidByText := true, laidKinds := [.data, .data, .data, .data], laidTests := true, laidLooks := .later }
def RangesLawsCardSaid : Prop := Claim7.holds Tryd.pinned (.plain (OpenSpec.ofChange rangesLawsSpec)) rangesLawsCard

/-- THE TIED CARD OF 'glossarylaw03.RangesBack'. -/
def rangesBackCard : Claim7 := { stood := { row := rangesBackRow, standIns := [], harness := (true, "82a4803fab8e2b51237f7956bc903ff41551312b41351e413412c66c6c2a3a73"), looks := true }, kinds := [], alts := [], laidByText := true, laidKinds := [.data, .data, .data, .sentinel, .sentinel, .data], laidTests := true, laidLooks := .later }
def RangesBackCardSaid : Prop := Claim7.holds Tryd.pinned (.plain (OpenSpec.ofChange rangesBackSpec)) rangesBackCard

/-- THE TIED CARD OF 'glossarylaw03.RangesForms'. -/
def rangesFormsCard : Claim7 := { stood := { row := rangesFormsRow, standIns := [], harness := (true, "82a4803fab8e2b51237f7956bc903ff41551312b41351e413412c66c6c2a3a73"), looks := true }, kinds := [], alts := [], laidByText := true, laidKinds := [.data, .data, .data, .sentinel, .sentinel, .data], laidTests := true, laidLooks := .later }
def RangesFormsCardSaid : Prop := Claim7.holds Tryd.pinned (.plain (OpenSpec.ofChange rangesFormsSpec)) rangesFormsCard

/-- THE SECOND FORM's CARD OF 'glossarylaw02.PointsKnown'. -/
def pointsKnownUptoCard : Claim7 := { stood := { row := pointsKnownUptoRow, standIns := [], harness := (true, "82a4803fab8e2b51237f7956bc903ff41551312b41351e413412c66c6c2a3a73"), looks := true }, kinds := [], alts := [], laidByText := true, laidKinds := [.data, .data, .handle, .pinned], laidTests := true, laidLooks := .later }
def PointsKnownUptoCardSaid : Prop := Claim7.holds Tryd.pinned (.plain (OpenSpec.upto pointsKnownSpec)) pointsKnownUptoCard

/-- THE SECOND FORM's CARD OF 'glossarylaw03.RangesLaws'. -/
def rangesLawsUptoCard : Claim7 := { stood := { row := rangesLawsUptoRow, standIns := [], harness := (true, "82a4803fab8e2b51237f7956bc903ff41551312b41351e413412c66c6c2a3a73"), looks := true }, kinds := [], alts := [], laidByText := true, laidKinds := [.data, .data, .data, .data], laidTests := true, laidLooks := .later }
def RangesLawsUptoCardSaid : Prop := Claim7.holds Tryd.pinned (.plain (OpenSpec.upto rangesLawsSpec)) rangesLawsUptoCard

/-- THE SECOND FORM's CARD OF 'glossarylaw03.RangesBack'. -/
def rangesBackUptoCard : Claim7 := { stood := { row := rangesBackUptoRow, standIns := [], harness := (true, "82a4803fab8e2b51237f7956bc903ff41551312b41351e413412c66c6c2a3a73"), looks := true }, kinds := [], alts := [], laidByText := true, laidKinds := [.data, .data, .data, .sentinel, .sentinel, .data], laidTests := true, laidLooks := .later }
def RangesBackUptoCardSaid : Prop := Claim7.holds Tryd.pinned (.plain (OpenSpec.upto rangesBackSpec)) rangesBackUptoCard

/-- THE SECOND FORM's CARD OF 'glossarylaw03.RangesForms'. -/
def rangesFormsUptoCard : Claim7 := { stood := { row := rangesFormsUptoRow, standIns := [], harness := (true, "82a4803fab8e2b51237f7956bc903ff41551312b41351e413412c66c6c2a3a73"), looks := true }, kinds := [], alts := [], laidByText := true, laidKinds := [.data, .data, .data, .sentinel, .sentinel, .data], laidTests := true, laidLooks := .later }
def RangesFormsUptoCardSaid : Prop := Claim7.holds Tryd.pinned (.plain (OpenSpec.upto rangesFormsSpec)) rangesFormsUptoCard
end Rows
end Go.Proofs.YtpddpglccjbpfaaDoor
