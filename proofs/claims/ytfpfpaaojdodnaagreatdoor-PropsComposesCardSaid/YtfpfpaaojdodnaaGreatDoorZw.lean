/- PropsComposes: the claim's closed facts, in a text of their own (the kernel's memory). -/
import Derived.Test.YtfpfpaaojdodnaaGreatDoorCards
import Derived.Carry
import Derived.JoinedCond
namespace Go.Proofs.YtfpfpaaojdodnaaGreatDoor
open Go Go.RowKit
set_option maxRecDepth 100000
theorem propsComposes_andT {a b : Bool} (h1 : a = true) (h2 : b = true) : (a && b) = true := by rw [h1, h2]; rfl
set_option maxHeartbeats 0 in
theorem propsComposes_closed : joinedFacts Tryz.pinned.checked.prog 4 Tryz.f4 (OpenSpec.ofChange Rows.propsComposesSpec).bare Rows.propsComposesRow = true := by
  unfold joinedFacts
  repeat' with_reducible refine propsComposes_andT ?_ ?_
  all_goals (as_aux_lemma => kernel_rfl)
end Go.Proofs.YtfpfpaaojdodnaaGreatDoor
