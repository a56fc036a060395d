import Derived.Test.YtpddpglccjbpfaaDoorD
namespace Go.Proofs.YtpddpglccjbpfaaDoor
open Go Go.RowKit Go.Lib

def befK (s : ByteArray) (n : Nat) : Nat → Nat → Int × Int
  | 0, _ => (65533, 1)
  | f + 1, k => if k ≤ 4 ∧ k ≤ n then (if wideI s (n - k) = k then (((Utf8.decode s (n - k)).1 : Int), (k : Int)) else befK s n f (k + 1)) else (65533, 1)
def befP (s : ByteArray) (a : Int) : Int × Int := if 1 ≤ a ∧ a ≤ s.size then befK s a.toNat 5 1 else (65533, 0)

end Go.Proofs.YtpddpglccjbpfaaDoor
