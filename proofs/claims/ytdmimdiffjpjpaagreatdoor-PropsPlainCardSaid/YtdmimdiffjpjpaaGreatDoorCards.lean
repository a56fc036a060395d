/-
  DERIVED. GIVEN WITH THE SEED: THE CARDS: each row of YtdmimdiffjpjpaaGreatDoorRows.lean that lists a variable, with what it lists TIED to the program's text (the seventh form; the later family's looks); each row that meets fmt, with fmt's text TOLD by the authors' own Lean function (tested against real Go, not proved from fmt's source: count such statements apart). THE CARD IS WHAT COUNTS. Prove the row's statement (the work); the ties are given (YtdmimdiffjpjpaaGreatDoorTie.lean); close each card by the builder's one call (the guide's Derived/Test/ToyasCard.lean, 'card_holds'). Laid BY PROGRAM, IN A SANDBOX (cutbox-door.mjs). By AI agents, Wed Nov 11 2026. No macro, syntax, notation, axiom, sorry.
-/
import Derived.Test.YtdmimdiffjpjpaaGreatDoorRows
import GoSem.ClaimSeven
namespace Go.Proofs.YtdmimdiffjpjpaaGreatDoor
namespace Rows

/-- THE TIED CARD OF 'glossarylaw06.PropsReads'. -/
def propsReadsCard : Claim7 := { stood := { row := propsReadsRow, standIns := [], harness := (true, "9069355288b2b4a9eb6be3e394f84b14e52bd62fd82c3541154685e62f025fe9"), looks := true }, kinds := [], alts := [], laidByText := true, laidKinds := [.data, .data, .data, .data, .data, .handle, .sentinel, .sentinel, .data, .pinned], laidTests := true, laidLooks := .later }
def PropsReadsCardSaid : Prop := Claim7.holds Tryz.pinned (.plain (OpenSpec.ofChange propsReadsSpec)) propsReadsCard

/-- THE TIED CARD OF 'glossarylaw06.PropsComposes'. -/
def propsComposesCard : Claim7 := { stood := { row := propsComposesRow, standIns := [], harness := (true, "9069355288b2b4a9eb6be3e394f84b14e52bd62fd82c3541154685e62f025fe9"), looks := true }, kinds := [], alts := [], laidByText := true, laidKinds := [.data, .data, .data, .data, .data, .sentinel, .sentinel, .data, .pinned], laidTests := true, laidLooks := .later }
def PropsComposesCardSaid : Prop := Claim7.holds Tryz.pinned (.plain (OpenSpec.ofChange propsComposesSpec)) propsComposesCard

/-- THE TIED CARD OF 'glossarylaw06.PropsPairs'. -/
def propsPairsCard : Claim7 := { stood := { row := propsPairsRow, standIns := [], harness := (true, "9069355288b2b4a9eb6be3e394f84b14e52bd62fd82c3541154685e62f025fe9"), looks := true }, kinds := [], alts := [], laidByText := true, laidKinds := [.data, .data, .data, .data, .sentinel, .sentinel, .data, .pinned], laidTests := true, laidLooks := .later }
def PropsPairsCardSaid : Prop := Claim7.holds Tryz.pinned (.plain (OpenSpec.ofChange propsPairsSpec)) propsPairsCard

/-- THE TIED CARD OF 'glossarylaw06.PropsPlain'. -/
def propsPlainCard : Claim7 := { stood := { row := propsPlainRow, standIns := [], harness := (true, "9069355288b2b4a9eb6be3e394f84b14e52bd62fd82c3541154685e62f025fe9"), looks := true }, kinds := [], alts := [], laidByText := true, laidKinds := [.data, .data, .data, .data, .sentinel, .sentinel, .data, .pinned], laidTests := true, laidLooks := .later }
def PropsPlainCardSaid : Prop := Claim7.holds Tryz.pinned (.plain (OpenSpec.ofChange propsPlainSpec)) propsPlainCard

/-- THE SECOND FORM's CARD OF 'glossarylaw06.PropsReads'. -/
def propsReadsUptoCard : Claim7 := { stood := { row := propsReadsUptoRow, standIns := [], harness := (true, "9069355288b2b4a9eb6be3e394f84b14e52bd62fd82c3541154685e62f025fe9"), looks := true }, kinds := [], alts := [], laidByText := true, laidKinds := [.data, .data, .data, .data, .data, .handle, .sentinel, .sentinel, .data, .pinned], laidTests := true, laidLooks := .later }
def PropsReadsUptoCardSaid : Prop := Claim7.holds Tryz.pinned (.plain (OpenSpec.upto propsReadsSpec)) propsReadsUptoCard

/-- THE SECOND FORM's CARD OF 'glossarylaw06.PropsComposes'. -/
def propsComposesUptoCard : Claim7 := { stood := { row := propsComposesUptoRow, standIns := [], harness := (true, "9069355288b2b4a9eb6be3e394f84b14e52bd62fd82c3541154685e62f025fe9"), looks := true }, kinds := [], alts := [], laidByText := true, laidKinds := [.data, .data, .data, .data, .data, .sentinel, .sentinel, .data, .pinned], laidTests := true, laidLooks := .later }
def PropsComposesUptoCardSaid : Prop := Claim7.holds Tryz.pinned (.plain (OpenSpec.upto propsComposesSpec)) propsComposesUptoCard

/-- THE SECOND FORM's CARD OF 'glossarylaw06.PropsPairs'. -/
def propsPairsUptoCard : Claim7 := { stood := { row := propsPairsUptoRow, standIns := [], harness := (true, "9069355288b2b4a9eb6be3e394f84b14e52bd62fd82c3541154685e62f025fe9"), looks := true }, kinds := [], alts := [], laidByText := true, laidKinds := [.data, .data, .data, .data, .sentinel, .sentinel, .data, .pinned], laidTests := true, laidLooks := .later }
def PropsPairsUptoCardSaid : Prop := Claim7.holds Tryz.pinned (.plain (OpenSpec.upto propsPairsSpec)) propsPairsUptoCard

/-- THE SECOND FORM's CARD OF 'glossarylaw06.PropsPlain'. -/
def propsPlainUptoCard : Claim7 := { stood := { row := propsPlainUptoRow, standIns := [], harness := (true, "9069355288b2b4a9eb6be3e394f84b14e52bd62fd82c3541154685e62f025fe9"), looks := true }, kinds := [], alts := [], laidByText := true, laidKinds := [.data, .data, .data, .data, .sentinel, .sentinel, .data, .pinned], laidTests := true, laidLooks := .later }
def PropsPlainUptoCardSaid : Prop := Claim7.holds Tryz.pinned (.plain (OpenSpec.upto propsPlainSpec)) propsPlainUptoCard
end Rows
end Go.Proofs.YtdmimdiffjpjpaaGreatDoor
