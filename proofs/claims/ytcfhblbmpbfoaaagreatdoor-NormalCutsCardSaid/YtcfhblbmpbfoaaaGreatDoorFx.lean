import Derived.Test.YtcfhblbmpbfoaaaGreatDoorGv18
namespace Go.Proofs.YtcfhblbmpbfoaaaGreatDoor
open Go Go.RowKit Go.Lib

def Ends (s : ByteArray) (n w : Nat) : Prop := 1 ≤ w ∧ w ≤ 4 ∧ w ≤ n ∧ wideI s (n - w) = w

/-! the library's decoder of the last rune -/
def preL (s : ByteArray) (n : Nat) : List UInt8 := (s.extract 0 n).data.toList
end Go.Proofs.YtcfhblbmpbfoaaaGreatDoor
