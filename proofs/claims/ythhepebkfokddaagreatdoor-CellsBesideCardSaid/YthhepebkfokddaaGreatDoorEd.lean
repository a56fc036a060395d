/- The kit's look at an error: its number, its place. -/
import Derived.Test.YthhepebkfokddaaGreatDoorEc
import Derived.Test.YthhepebkfokddaaGreatDoorGy15
import Derived.Deep.RegionHeldLaw
namespace Go.Proofs.YthhepebkfokddaaGreatDoor
open Go Go.RowKit Go.Kt

end Go.Proofs.YthhepebkfokddaaGreatDoor
