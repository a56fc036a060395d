/- Errors of package api: errors.Is at a fault and at a number; errors.As at a fault. -/
import Derived.Test.YthhepebkfokddaaGreatDoorProg
import Derived.Test.YthhepebkfokddaaGreatDoorGy5
import Derived.WalkKit
import Derived.LaidEql
import Derived.Stop.Asserts
import Derived.RowKitTokens
import Derived.Lib.Hide
namespace Go.Proofs.YthhepebkfokddaaGreatDoor
open Go Go.RowKit Go.Kt Go.Extern.Stop Go.Stop Go.Extern

abbrev fv (k l a : Int) : Value := .agg #[.int .i64 k, .int .i64 l, .int .i64 a]

def xComparable : Array Value → Sem Value := ReflectliteType.method fun t => do Rtype.noPackHeld "Comparable" t; pure (.bool (← typeInfo t).comparable)
end Go.Proofs.YthhepebkfokddaaGreatDoor
