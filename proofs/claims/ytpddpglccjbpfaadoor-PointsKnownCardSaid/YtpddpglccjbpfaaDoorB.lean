import Derived.Test.YtpddpglccjbpfaaDoorA
import Derived.Test.YtpddpglccjbpfaaDoorShelf
import Derived.Handy
namespace Go.Proofs.YtpddpglccjbpfaaDoor
open Go Go.RowKit

def wideI (s : ByteArray) (i : Nat) : Int := if (begunI s i).1 != (begunI s i).2 then 0 else (begunI s i).2

def numI (t : ByteArray) : Int :=
  if t.size = 1 then bAt t 0 else if t.size = 2 then bAt t 0 % 32 * 64 + bAt t 1 % 64
  else if t.size = 3 then (bAt t 0 % 16 * 64 + bAt t 1 % 64) * 64 + bAt t 2 % 64
  else ((bAt t 0 % 8 * 64 + bAt t 1 % 64) * 64 + bAt t 2 % 64) * 64 + bAt t 3 % 64

end Go.Proofs.YtpddpglccjbpfaaDoor
