/- What the listed tables give the walks, and the world that the witnesses start in. -/
import Derived.Test.YtfpfpaaojdodnaaGreatDoorTie
import Derived.WalkKit
import Derived.ProofKit
import Derived.OpenShut
import Derived.PinnedBridge
import Derived.Lib.LaidU8
import Derived.Lay
import Derived.LaidMore
import Derived.Deep.DeepHandedRow
namespace Go.Proofs.YtfpfpaaojdodnaaGreatDoor
open Go.Lib Go.Shelf
set_option maxRecDepth 100000

noncomputable def theLaid : List (String × DataW Unit) := [("unicode/utf8.acceptRanges", Rows.laid_unicode_utf8_acceptRanges), ("unicode/utf8.first", Rows.laid_unicode_utf8_first)]

theorem own : ownKnob Tryz.prog.godebug = none := by kernel_rfl
end Go.Proofs.YtfpfpaaojdodnaaGreatDoor
