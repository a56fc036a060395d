/- props: the rows that hold whatever lines say. -/
import Derived.Test.YtdmimdiffjpjpaaGreatDoorGz5
namespace Go.Proofs.YtdmimdiffjpjpaaGreatDoor
open Go Go.RowKit Go.Kt Go.Kt.Rg

def hanR : List (Nat × Nat × Int) := [(44032, 55203, 0), (4352, 4370, 0), (4449, 4469, 0), (4520, 4546, 0)]
def noR : List (Nat × Nat × Int) := [(55296, 57343, 0)]
def sylR : List (Nat × Nat × Int) := [(44032, 55203, 1)]

theorem phanR (w : World) : Calls Tryz.prog 67 #[] w fun e w' => e = .returned (.slice (some ⟨w.heap.size, 0, none⟩) 4 4) ∧ w.alloc (.cells (rwE hanR).toArray 136) = w' := by
  go_enter Tryz.func67, Tryz.ntmps67
  go_wp2
  go_ret
  exact ⟨rfl, rfl⟩
theorem pnoR (w : World) : Calls Tryz.prog 68 #[] w fun e w' => e = .returned (.slice (some ⟨w.heap.size, 0, none⟩) 1 1) ∧ w.alloc (.cells (rwE noR).toArray 136) = w' := by
  go_enter Tryz.func68, Tryz.ntmps68
  go_wp2
  go_ret
  exact ⟨rfl, rfl⟩
theorem psylR (w : World) : Calls Tryz.prog 69 #[] w fun e w' => e = .returned (.slice (some ⟨w.heap.size, 0, none⟩) 1 1) ∧ w.alloc (.cells (rwE sylR).toArray 136) = w' := by
  go_enter Tryz.func69, Tryz.ntmps69
  go_wp2
  go_ret
  exact ⟨rfl, rfl⟩
end Go.Proofs.YtdmimdiffjpjpaaGreatDoor
