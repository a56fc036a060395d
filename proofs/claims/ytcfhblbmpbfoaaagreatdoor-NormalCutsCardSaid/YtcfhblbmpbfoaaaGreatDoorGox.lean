/- NormalCuts: the claim's closed facts, in a text of their own (the kernel's memory). -/
import Derived.Test.YtcfhblbmpbfoaaaGreatDoorCards
import Derived.Carry
import Derived.JoinedCond
namespace Go.Proofs.YtcfhblbmpbfoaaaGreatDoor
open Go Go.RowKit
set_option maxRecDepth 100000
theorem normalCuts_andT {a b : Bool} (h1 : a = true) (h2 : b = true) : (a && b) = true := by rw [h1, h2]; rfl
set_option maxHeartbeats 0 in
theorem normalCuts_closed : joinedFacts Tryz.pinned.checked.prog 7 Tryz.f7 (OpenSpec.ofChange Rows.normalCutsSpec).bare Rows.normalCutsRow = true := by
  unfold joinedFacts
  repeat' with_reducible refine normalCuts_andT ?_ ?_
  all_goals (as_aux_lemma => kernel_rfl)
end Go.Proofs.YtcfhblbmpbfoaaaGreatDoor
