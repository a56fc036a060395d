/- What the listed variables of the rows of CellsBeside, CellsWhole, CellsAll give their walks. -/
import Derived.Test.YthhepebkfokddaaGreatDoorWq
namespace Go.Proofs.YthhepebkfokddaaGreatDoor
open Go.Lib Go.Shelf
set_option maxRecDepth 100000

noncomputable abbrev theLaidD : List (String × DataW Unit) := theLaidX
noncomputable abbrev worldD (os : Os) : World := worldX os
theorem worldD_os (os : Os) : (worldD os).os = os := worldX_os os
theorem laid_metD (os : Os) (args : Array Value) : laidMetH Tryz.prog theLaidD ((worldD os).forCall (fun _ _ => 0) ⟨#[], args, []⟩).memory := laid_metX os args
theorem of_laidD {W : World} (h : laidMetH Tryz.prog theLaidX W) (hsh : W.ShapedOpen Tryz.prog) : (PEnv W ∧ KTabX W) ∧ Lib.Utf8Tabs 3 4 W := by
  refine ⟨of_laidX h hsh, ?_⟩
  have h' : laidMet Tryz.prog theLaidX W := by rw [MakeChecks.laidMetH_plain _ _ _ (by kernel_rfl)] at h; exact h
  exact tabs_of_reads (accept_eq ▸ laidMet.reads h' (.tail _ (.tail _ (.tail _ (.tail _ (.head _)))))) (Pinned.utf8First_eq ▸ laidMet.reads h' (.tail _ (.tail _ (.tail _ (.tail _ (.tail _ (.tail _ (.tail _ (.tail _ (.head _))))))))))
end Go.Proofs.YthhepebkfokddaaGreatDoor
