/- The walk of UtfWalks, as its row takes it. -/
import Derived.Test.YthcfpmjkfnoofaaDoorWk
namespace Go.Proofs.YthcfpmjkfnoofaaDoor
open Go Go.RowKit Go.Kt
theorem walks_c (s : ByteArray) (a : Int) (w : World) (hE : Lib.Utf8Tabs 1 2 w ∧ 3 ≤ w.heap.size) (_ : s.size ≤ 140737488351232) (ha : -9223372036854775808 ≤ a ∧ a ≤ 9223372036854775807) (hB : s.size + 1 + (1 + 0) ≤ 1048576) :
    Calls Tryd.prog 3 #[.string s, .int .i64 a] w fun e w' => e = .returned (.bool true) ∧ Below w.heap.size w w' := walks_walk s a w hE.1 hE.2 (by omega) ha
end Go.Proofs.YthcfpmjkfnoofaaDoor
