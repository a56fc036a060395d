/-
  DERIVED. GIVEN WITH THE SEED: THE CARDS: each row of YthcfpmjkfnoofaaDoorRows.lean that lists a variable, with what it lists TIED to the program's text (the seventh form; the later family's looks); each row that meets fmt, with fmt's text TOLD by the authors' own Lean function (tested against real Go, not proved from fmt's source: count such statements apart). THE CARD IS WHAT COUNTS. Prove the row's statement (the work); the ties are given (YthcfpmjkfnoofaaDoorTie.lean); close each card by the builder's one call (the guide's Derived/Test/ToyasCard.lean, 'card_holds'). Laid BY PROGRAM, IN A SANDBOX (cutbox-door.mjs). By AI agents, Wed Nov 11 2026. No macro, syntax, notation, axiom, sorry.
-/
import Derived.Test.YthcfpmjkfnoofaaDoorRows
import GoSem.ClaimSeven
namespace Go.Proofs.YthcfpmjkfnoofaaDoor
namespace Rows

/-- THE TIED CARD OF 'glossarylaw01.UtfWalks'. -/
def utfWalksCard : Claim7 := { stood := { row := utfWalksRow, standIns := [], harness := (true, "3bebad1553ad34ce0643bdd67a950d33aa3f3015a3377a487df768ec5ca8bd9b"), looks := true }, kinds := [], alts := [], laidByText := true, laidKinds := [.data, .pinned], laidTests := true, laidLooks := .later }
def UtfWalksCardSaid : Prop := Claim7.holds Tryd.pinned (.plain (OpenSpec.ofChange utfWalksSpec)) utfWalksCard

/-- THE TIED CARD OF 'glossarylaw02.PointsPlaces'. -/
def pointsPlacesCard : Claim7 := { stood := { row := pointsPlacesRow, standIns := [], harness := (true, "3bebad1553ad34ce0643bdd67a950d33aa3f3015a3377a487df768ec5ca8bd9b"), looks := true }, kinds := [], alts := [], laidByText := true, laidKinds := [.data, .data, .handle, .pinned], laidTests := true, laidLooks := .later }
def PointsPlacesCardSaid : Prop := Claim7.holds Tryd.pinned (.plain (OpenSpec.ofChange pointsPlacesSpec)) pointsPlacesCard

/-- THE TIED CARD OF 'glossarylaw02.PointsKnown'. -/
def pointsKnownCard : Claim7 := { stood := { row := pointsKnownRow, standIns := [], harness := (true, "3bebad1553ad34ce0643bdd67a950d33aa3f3015a3377a487df768ec5ca8bd9b"), looks := true }, kinds := [], alts := [], laidByText := true, laidKinds := [.data, .data, .handle, .pinned], laidTests := true, laidLooks := .later }
def PointsKnownCardSaid : Prop := Claim7.holds Tryd.pinned (.plain (OpenSpec.ofChange pointsKnownSpec)) pointsKnownCard

/-- THE TIED CARD OF 'glossarylaw02.PointsRange'. -/
def pointsRangeCard : Claim7 := { stood := { row := pointsRangeRow, standIns := [], harness := (true, "3bebad1553ad34ce0643bdd67a950d33aa3f3015a3377a487df768ec5ca8bd9b"), looks := true }, kinds := [], alts := [], laidByText := true, laidKinds := [.data, .data, .handle, .pinned], laidTests := true, laidLooks := .later }
def PointsRangeCardSaid : Prop := Claim7.holds Tryd.pinned (.plain (OpenSpec.ofChange pointsRangeSpec)) pointsRangeCard

/-- THE TIED CARD OF 'glossarylaw02.PointsMutual'. -/
def pointsMutualCard : Claim7 := { stood := { row := pointsMutualRow, standIns := [], harness := (true, "3bebad1553ad34ce0643bdd67a950d33aa3f3015a3377a487df768ec5ca8bd9b"), looks := true }, kinds := [], alts := [], laidByText := true, laidKinds := [.data, .data, .handle, .pinned], laidTests := true, laidLooks := .later }
def PointsMutualCardSaid : Prop := Claim7.holds Tryd.pinned (.plain (OpenSpec.ofChange pointsMutualSpec)) pointsMutualCard

/-- THE TIED CARD OF 'glossarylaw03.RangesLaws'. -/
def rangesLawsCard : Claim7 := { stood := { row := rangesLawsRow, standIns := [], harness := (true, "3bebad1553ad34ce0643bdd67a950d33aa3f3015a3377a487df768ec5ca8bd9b"), looks := true }, kinds := [], alts := [], laidByText := true, laidKinds := [.data, .data, .data, .data], laidTests := true, laidLooks := .later }
def RangesLawsCardSaid : Prop := Claim7.holds Tryd.pinned (.plain (OpenSpec.ofChange rangesLawsSpec)) rangesLawsCard

/-- THE TIED CARD OF 'glossarylaw03.RangesBack'. -/
def rangesBackCard : Claim7 := { stood := { row := rangesBackRow, standIns := [], harness := (true, "3bebad1553ad34ce0643bdd67a950d33aa3f3015a3377a487df768ec5ca8bd9b"), looks := true }, kinds := [], alts := [], laidByText := true, laidKinds := [.data, .data, .data, .sentinel, .sentinel, .data], laidTests := true, laidLooks := .later }
def RangesBackCardSaid : Prop := Claim7.holds Tryd.pinned (.plain (OpenSpec.ofChange rangesBackSpec)) rangesBackCard

/-- THE TIED CARD OF 'glossarylaw03.RangesForms'. -/
def rangesFormsCard : Claim7 := { stood := { row := rangesFormsRow, standIns := [], harness := (true, "3bebad1553ad34ce0643bdd67a950d33aa3f3015a3377a487df768ec5ca8bd9b"), looks := true }, kinds := [], alts := [], laidByText := true, laidKinds := [.data, .data, .data, .sentinel, .sentinel, .data], laidTests := true, laidLooks := .later }
def RangesFormsCardSaid : Prop := Claim7.holds Tryd.pinned (.plain (OpenSpec.ofChange rangesFormsSpec)) rangesFormsCard

/-- THE SECOND FORM's CARD OF 'glossarylaw01.UtfWalks'. -/
def utfWalksUptoCard : Claim7 := { stood := { row := utfWalksUptoRow, standIns := [], harness := (true, "3bebad1553ad34ce0643bdd67a950d33aa3f3015a3377a487df768ec5ca8bd9b"), looks := true }, kinds := [], alts := [], laidByText := true, laidKinds := [.data, .pinned], laidTests := true, laidLooks := .later }
def UtfWalksUptoCardSaid : Prop := Claim7.holds Tryd.pinned (.plain (OpenSpec.upto utfWalksSpec)) utfWalksUptoCard

/-- THE SECOND FORM's CARD OF 'glossarylaw02.PointsPlaces'. -/
def pointsPlacesUptoCard : Claim7 := { stood := { row := pointsPlacesUptoRow, standIns := [], harness := (true, "3bebad1553ad34ce0643bdd67a950d33aa3f3015a3377a487df768ec5ca8bd9b"), looks := true }, kinds := [], alts := [], laidByText := true, laidKinds := [.data, .data, .handle, .pinned], laidTests := true, laidLooks := .later }
def PointsPlacesUptoCardSaid : Prop := Claim7.holds Tryd.pinned (.plain (OpenSpec.upto pointsPlacesSpec)) pointsPlacesUptoCard

/-- THE SECOND FORM's CARD OF 'glossarylaw02.PointsKnown'. -/
def pointsKnownUptoCard : Claim7 := { stood := { row := pointsKnownUptoRow, standIns := [], harness := (true, "3bebad1553ad34ce0643bdd67a950d33aa3f3015a3377a487df768ec5ca8bd9b"), looks := true }, kinds := [], alts := [], laidByText := true, laidKinds := [.data, .data, .handle, .pinned], laidTests := true, laidLooks := .later }
def PointsKnownUptoCardSaid : Prop := Claim7.holds Tryd.pinned (.plain (OpenSpec.upto pointsKnownSpec)) pointsKnownUptoCard

/-- THE SECOND FORM's CARD OF 'glossarylaw02.PointsRange'. -/
def pointsRangeUptoCard : Claim7 := { stood := { row := pointsRangeUptoRow, standIns := [], harness := (true, "3bebad1553ad34ce0643bdd67a950d33aa3f3015a3377a487df768ec5ca8bd9b"), looks := true }, kinds := [], alts := [], laidByText := true, laidKinds := [.data, .data, .handle, .pinned], laidTests := true, laidLooks := .later }
def PointsRangeUptoCardSaid : Prop := Claim7.holds Tryd.pinned (.plain (OpenSpec.upto pointsRangeSpec)) pointsRangeUptoCard

/-- THE SECOND FORM's CARD OF 'glossarylaw02.PointsMutual'. -/
def pointsMutualUptoCard : Claim7 := { stood := { row := pointsMutualUptoRow, standIns := [], harness := (true, "3bebad1553ad34ce0643bdd67a950d33aa3f3015a3377a487df768ec5ca8bd9b"), looks := true }, kinds := [], alts := [], laidByText := true, laidKinds := [.data, .data, .handle, .pinned], laidTests := true, laidLooks := .later }
def PointsMutualUptoCardSaid : Prop := Claim7.holds Tryd.pinned (.plain (OpenSpec.upto pointsMutualSpec)) pointsMutualUptoCard

/-- THE SECOND FORM's CARD OF 'glossarylaw03.RangesLaws'. -/
def rangesLawsUptoCard : Claim7 := { stood := { row := rangesLawsUptoRow, standIns := [], harness := (true, "3bebad1553ad34ce0643bdd67a950d33aa3f3015a3377a487df768ec5ca8bd9b"), looks := true }, kinds := [], alts := [], laidByText := true, laidKinds := [.data, .data, .data, .data], laidTests := true, laidLooks := .later }
def RangesLawsUptoCardSaid : Prop := Claim7.holds Tryd.pinned (.plain (OpenSpec.upto rangesLawsSpec)) rangesLawsUptoCard

/-- THE SECOND FORM's CARD OF 'glossarylaw03.RangesBack'. -/
def rangesBackUptoCard : Claim7 := { stood := { row := rangesBackUptoRow, standIns := [], harness := (true, "3bebad1553ad34ce0643bdd67a950d33aa3f3015a3377a487df768ec5ca8bd9b"), looks := true }, kinds := [], alts := [], laidByText := true, laidKinds := [.data, .data, .data, .sentinel, .sentinel, .data], laidTests := true, laidLooks := .later }
def RangesBackUptoCardSaid : Prop := Claim7.holds Tryd.pinned (.plain (OpenSpec.upto rangesBackSpec)) rangesBackUptoCard

/-- THE SECOND FORM's CARD OF 'glossarylaw03.RangesForms'. -/
def rangesFormsUptoCard : Claim7 := { stood := { row := rangesFormsUptoRow, standIns := [], harness := (true, "3bebad1553ad34ce0643bdd67a950d33aa3f3015a3377a487df768ec5ca8bd9b"), looks := true }, kinds := [], alts := [], laidByText := true, laidKinds := [.data, .data, .data, .sentinel, .sentinel, .data], laidTests := true, laidLooks := .later }
def RangesFormsUptoCardSaid : Prop := Claim7.holds Tryd.pinned (.plain (OpenSpec.upto rangesFormsSpec)) rangesFormsUptoCard
end Rows
end Go.Proofs.YthcfpmjkfnoofaaDoor
