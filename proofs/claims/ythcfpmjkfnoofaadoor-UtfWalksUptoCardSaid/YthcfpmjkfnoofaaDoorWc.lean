/- The witnesses' world of layer 1's rows, under a name. -/
import Derived.Test.YthcfpmjkfnoofaaDoorW
namespace Go.Proofs.YthcfpmjkfnoofaaDoor
open Go Go.RowKit

noncomputable def world1 (os : Os) : World := World.laidAll Tryd.prog os theLaid
theorem world1_os (os : Os) : (world1 os).os = os := World.laidAll_os _ _ _
theorem laid_met1 (os : Os) (args : Array Value) : laidMetH Tryd.prog theLaid ((world1 os).forCall (fun _ _ => 0) ⟨#[], args, []⟩).memory := laid_met os args
end Go.Proofs.YthcfpmjkfnoofaaDoor
