/- The witnesses' world of layer 1's rows, under a name; the mended walk in the rows' form. -/
import Derived.Test.YtgjhingjheplfaaDoorW
import Derived.Test.YtgjhingjheplfaaDoorCq
namespace Go.Proofs.YtgjhingjheplfaaDoor
open Go Go.RowKit Go.Kt

noncomputable def world1 (os : Os) : World := World.laidAll Tryd.prog os theLaid
theorem world1_os (os : Os) : (world1 os).os = os := World.laidAll_os _ _ _
theorem laid_met1 (os : Os) (args : Array Value) : laidMetH Tryd.prog theLaid ((world1 os).forCall (fun _ _ => 0) ⟨#[], args, []⟩).memory := laid_met os args
theorem mended_c (s by' : ByteArray) (w : World) (hE : Lib.Utf8Tabs 0 1 w ∧ 2 ≤ w.heap.size) (_ : s.size ≤ 140737488351232) (_ : by'.size ≤ 140737488351232) (hB : s.size + 1 + (by'.size + 1 + 0) ≤ 1048576) :
    Calls Tryd.prog 5 #[.string s, .string by'] w fun e w' => e = .returned (.bool true) ∧ Below w.heap.size w w' := mended_walk s by' w hE.1 hE.2 (by omega) (by omega)
end Go.Proofs.YtgjhingjheplfaaDoor
