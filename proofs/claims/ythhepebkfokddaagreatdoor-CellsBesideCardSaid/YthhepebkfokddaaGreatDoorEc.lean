/- errors.As of a fault, at a fault's variable: the walk. -/
import Derived.Test.YthhepebkfokddaaGreatDoorEb
namespace Go.Proofs.YthhepebkfokddaaGreatDoor
open Go Go.RowKit Go.Kt Go.Extern.Stop Go.Stop Go.Extern

def AsOut (g : Nat) (k l a : Int) (w : World) (e : Ending) (w' : World) : Prop :=
  e = .returned (.bool true) ∧ w'.heap[g]? = some (.cells #[.int .i64 k, .int .i64 l, .int .i64 a] 90 (0, 0)) ∧ Keep (fun b => b = g) w w'

end Go.Proofs.YthhepebkfokddaaGreatDoor
