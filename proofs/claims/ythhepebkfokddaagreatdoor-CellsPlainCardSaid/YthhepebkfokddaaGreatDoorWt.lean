/- What the listed variables of CellsPlain's row give its walk. -/
import Derived.Test.YthhepebkfokddaaGreatDoorWp
namespace Go.Proofs.YthhepebkfokddaaGreatDoor
open Go.Lib Go.Shelf
set_option maxRecDepth 100000

noncomputable abbrev theLaidC : List (String × DataW Unit) := theLaidP
noncomputable abbrev worldC (os : Os) : World := worldP os
theorem worldC_os (os : Os) : (worldC os).os = os := worldP_os os
theorem laid_metC (os : Os) (args : Array Value) : laidMetH Tryz.prog theLaidC ((worldC os).forCall (fun _ _ => 0) ⟨#[], args, []⟩).memory := laid_metP os args
theorem of_laidC {W : World} (h : laidMetH Tryz.prog theLaidP W) (hsh : W.ShapedOpen Tryz.prog) : PEnv W ∧ Lib.Utf8Tabs 3 4 W := by
  refine ⟨of_laidP h hsh, ?_⟩
  have h' : laidMet Tryz.prog theLaidP W := by rw [MakeChecks.laidMetH_plain _ _ _ (by kernel_rfl)] at h; exact h
  exact tabs_of_reads (accept_eq ▸ laidMet.reads h' (.tail _ (.tail _ (.tail _ (.head _))))) (Pinned.utf8First_eq ▸ laidMet.reads h' (.tail _ (.tail _ (.tail _ (.tail _ (.tail _ (.tail _ (.tail _ (.head _)))))))))
end Go.Proofs.YthhepebkfokddaaGreatDoor
