/- PropsReads: the claim's closed facts, in a text of their own (the kernel's memory). -/
import Derived.Test.YtfpfpaaojdodnaaGreatDoorCards
import Derived.Carry
import Derived.JoinedCond
namespace Go.Proofs.YtfpfpaaojdodnaaGreatDoor
open Go Go.RowKit
set_option maxRecDepth 100000
theorem propsReads_andT {a b : Bool} (h1 : a = true) (h2 : b = true) : (a && b) = true := by rw [h1, h2]; rfl
set_option maxHeartbeats 0 in
theorem propsReads_closed : joinedFacts Tryz.pinned.checked.prog 3 Tryz.f3 (OpenSpec.ofChange Rows.propsReadsSpec).bare Rows.propsReadsRow = true := by
  unfold joinedFacts
  repeat' with_reducible refine propsReads_andT ?_ ?_
  all_goals (as_aux_lemma => kernel_rfl)
end Go.Proofs.YtfpfpaaojdodnaaGreatDoor
