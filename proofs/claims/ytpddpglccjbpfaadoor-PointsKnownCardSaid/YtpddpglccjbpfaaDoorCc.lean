/- The pieces that are ill-formed, held against a list. -/
import Derived.Test.YtpddpglccjbpfaaDoorCb
namespace Go.Proofs.YtpddpglccjbpfaaDoor
open Go Go.RowKit Go.Kt Go.Shelf
attribute [local go_sem] Oper.semAt_some

theorem tinfo3 : (Tryd.prog.info? 3).map (fun i => (i.zero, i.size, i.bytes)) = some (some (.int .i64 0), 1, 8) := by kernel_rfl

/-- The numbers of a list of pieces. -/
def pieceInts (l : List (Nat × Nat)) : List Int := l.flatMap fun p => [(p.1 : Int), (p.2 : Int)]
theorem pieceInts_snoc (l : List (Nat × Nat)) (p : Nat × Nat) : pieceInts (l ++ [p]) = pieceInts l ++ [(p.1 : Int), (p.2 : Int)] := by simp [pieceInts]
theorem pieceInts_len (l : List (Nat × Nat)) : (pieceInts l).length = 2 * l.length := by
  induction l with
  | nil => rfl
  | cons p l ih => simp [pieceInts] at *; omega
abbrev intCells (l : List Int) : List Value := l.map fun x => .int .i64 x

end Go.Proofs.YtpddpglccjbpfaaDoor
