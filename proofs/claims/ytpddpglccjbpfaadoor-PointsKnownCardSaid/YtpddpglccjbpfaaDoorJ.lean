import Derived.Test.YtpddpglccjbpfaaDoorI
namespace Go.Proofs.YtpddpglccjbpfaaDoor
open Go Go.RowKit Go.Lib

def pieceK (s : ByteArray) : Nat → Nat → Nat
  | 0, n => n
  | f + 1, n => if n < s.size ∧ fullB (s.extract 0 (n + 1)) = false then pieceK s f (n + 1) else n

theorem pieceK_le (s : ByteArray) : ∀ f n, n ≤ s.size → pieceK s f n ≤ s.size
  | 0, n, h => h
  | f + 1, n, h => by
    unfold pieceK
    split
    · exact pieceK_le s f (n + 1) (by omega)
    · exact h

/-- Is the unit at a place, whose number is r, an ill-formed byte? -/
def illB (s : ByteArray) (i : Nat) : Bool := wideI s i == 0
end Go.Proofs.YtpddpglccjbpfaaDoor
