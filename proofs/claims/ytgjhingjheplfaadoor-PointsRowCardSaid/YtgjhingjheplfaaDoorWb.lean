/- What the listed variables of layer 2 give the walks, and the worlds that the witnesses start in. -/
import Derived.Test.YtgjhingjheplfaaDoorW
import Derived.Test.YtgjhingjheplfaaDoorPg
import Derived.LaidHandle
namespace Go.Proofs.YtgjhingjheplfaaDoor
open Go.Lib Go.Shelf
set_option maxRecDepth 100000

/-- The rows' lists. -/
noncomputable def theLaid3 : List (String × DataW Unit) := [("unicode/utf8.acceptRanges", Rows.laid_unicode_utf8_acceptRanges), ("errors.errorType", Rows.laid_errors_errorType), ("unicode/utf8.first", Rows.laid_unicode_utf8_first)]

theorem errIx : Tryd.prog.globalNamed "errors.errorType" = some 2 := by kernel_rfl
theorem rtypeIx : (Tryd.prog.cutTypes.find? (·.1 == "internal/reflectlite.rtype")).map (·.2) = some 138 := by kernel_rfl
theorem typesN : Tryd.prog.types.size = 180 := by kernel_rfl
theorem errRow : ((List.range 180).filter fun t => Tryd.prog.rowNamed t [101, 114, 114, 111, 114]) = [50] := by kernel_rfl

theorem errT_of_handles {W : World} (h : handlesMet Tryd.prog [("errors.errorType", Rows.laid_errors_errorType)] W) : ErrT W := by
  obtain ⟨name, u, ty, e1, e2, e3, e4, e5⟩ := h _ (List.mem_singleton.2 rfl)
  have en : name = [101, 114, 114, 111, 114] := (Option.some.inj e1).symm
  subst en
  obtain rfl := Option.some.inj (rtypeIx.symm.trans e2)
  have hm : ty ∈ (List.range 180).filter fun t => Tryd.prog.rowNamed t [101, 114, 114, 111, 114] := List.mem_filter.2 ⟨List.mem_range.2 (by rw [← typesN]; exact e3), e4⟩
  rw [errRow] at hm
  obtain rfl := List.mem_singleton.1 hm
  have hh : typeHandle Tryd.prog 50 = tyH 50 := by kernel_rfl
  rw [hh] at e5
  simpa using World.var?_cell errIx e5 0

theorem of_laid3 {W : World} (h : laidMetH Tryd.prog theLaid3 W) : Env W := by
  have h' : laidMet Tryd.prog theLaid W ∧ handlesMet Tryd.prog [("errors.errorType", Rows.laid_errors_errorType)] W := h
  exact ⟨tabs_of_laid h'.1, errT_of_handles h'.2⟩

/-- The settled world, errors.errorType laid. -/
noncomputable def errWorld (os : Os) : World :=
  let w0 := World.holding Tryd.prog os ⟨#[], #[], []⟩
  { w0 with heap := w0.heap.modify 2 fun
      | .cells _ t frozen => .cells #[.iface 138 (.agg #[tyH 50])] t frozen
      | o => o }
theorem laidMet_on {P : Program} {w0 : World} {laid : List (String × DataW Unit)} (args : Array Value) (hf : w0.layFits P laid [] = true) (hi : w0.layIfaces P laid (w0.layVars P laid) = true) :
    laidMet P laid ((w0.layVars P laid).forCall (fun _ _ => 0) ⟨#[], args, []⟩).memory := by
  have e1 : (laid.filter fun x => (laid.map (·.1)).contains x.1) = laid := List.filter_eq_self.2 fun x hx => List.contains_iff_mem.2 (List.mem_map.2 ⟨x, hx, rfl⟩)
  have e2 : (laid.filter fun x => !(laid.map (·.1)).contains x.1) = [] := List.filter_eq_nil_iff.2 fun x hx => by rw [List.contains_iff_mem.2 (List.mem_map.2 ⟨x, hx, rfl⟩)]; simp
  have h : laidMet P laid (w0.layVars P laid) := laidMet_layVars (w0 := w0) (laid.map (·.1)) [] (by rw [e1]) (by rw [e1]; exact hf) (by rw [e1]; exact hi) (by rw [e2]; exact LaidIn.none)
  exact h.of_heap (by simp [World.memory, World.forCall, Input.heap])

/-- The witnesses' world. -/
noncomputable def world3 (os : Os) : World := (errWorld os).layVars Tryd.prog theLaid
theorem world3_os (os : Os) : (world3 os).os = os := World.layVars_os _ _ _
theorem laid_met3 (os : Os) (args : Array Value) : laidMetH Tryd.prog theLaid3 ((world3 os).forCall (fun _ _ => 0) ⟨#[], args, []⟩).memory :=
  laidMetH_of_parts (show laidMet Tryd.prog theLaid _ from laidMet_on args (by kernel_rfl) (by kernel_rfl)) (by kernel_rfl)
end Go.Proofs.YtgjhingjheplfaaDoor
