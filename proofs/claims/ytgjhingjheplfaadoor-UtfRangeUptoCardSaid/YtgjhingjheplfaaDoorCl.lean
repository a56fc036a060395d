/- The walk of UtfEncodes. -/
import Derived.Test.YtgjhingjheplfaaDoorCk
import Derived.Deep.RegionHeld3
namespace Go.Proofs.YtgjhingjheplfaaDoor
open Go Go.RowKit Go.Kt Go.Shelf

theorem bl_step {A W W' : World} (h : Below A.heap.size A W) (hb : Below W.heap.size W W') : Below A.heap.size A W' := h.trans (hb.mono h.size)
theorem bl_drew {A W : World} (h : Below A.heap.size A W) : Below A.heap.size A W.drew := h.drew
end Go.Proofs.YtgjhingjheplfaaDoor
