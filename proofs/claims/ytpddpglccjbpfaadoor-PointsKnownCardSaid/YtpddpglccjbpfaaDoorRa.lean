/- The document's places, numbers, and whether a text is right. -/
import Derived.Test.YtpddpglccjbpfaaDoorPc
import Derived.Test.YtpddpglccjbpfaaDoorCb
import Derived.Test.YtpddpglccjbpfaaDoorCc
import Derived.Test.YtpddpglccjbpfaaDoorCe
namespace Go.Proofs.YtpddpglccjbpfaaDoor
open Go Go.RowKit Go.Kt Go.Shelf

def plI (l : List (Nat × Nat)) : List Int := l.map fun p => (p.1 : Int)
theorem plI_snoc (l : List (Nat × Nat)) (p : Nat × Nat) : plI (l ++ [p]) = plI l ++ [(p.1 : Int)] := by simp [plI]
theorem plI_len (l : List (Nat × Nat)) : (plI l).length = l.length := by simp [plI]

/-- What a call that makes a list of places answers. -/
def MadeI (B : Nat) (l : List Int) (w : World) (e : Ending) (w' : World) : Prop :=
  ∃ ao cap, e = .returned (.slice ao l.length cap) ∧ OwnS (fun b => B ≤ b) 3 1 (.slice ao l.length cap) l.length (intCells l) w' ∧ Below B w w'

end Go.Proofs.YtpddpglccjbpfaaDoor
