/- props: the program's classes and kinds are the document's: mathematics. -/
import Derived.Test.YtcfhblbmpbfoaaaGreatDoorGv22
import Derived.Test.YtcfhblbmpbfoaaaGreatDoorGv19
namespace Go.Proofs.YtcfhblbmpbfoaaaGreatDoor
open Go Go.RowKit Go.Kt Go.Kt.Rg Go.Maps

end Go.Proofs.YtcfhblbmpbfoaaaGreatDoor
