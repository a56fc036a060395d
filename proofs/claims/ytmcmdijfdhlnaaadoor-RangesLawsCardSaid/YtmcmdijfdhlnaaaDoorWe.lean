/- What the listed variables of RangesLaws' row give the walk, and the world that its witness starts in. -/
import Derived.Test.YtmcmdijfdhlnaaaDoorZ2
import Derived.Test.YtmcmdijfdhlnaaaDoorNs
namespace Go.Proofs.YtmcmdijfdhlnaaaDoor
open Go.Lib Go.Shelf Go.Kt.Bits
set_option maxRecDepth 100000

noncomputable def theLaid5 : List (String × DataW Unit) := [("math/bits.deBruijn32tab", Rows.laid_math_bits_deBruijn32tab), ("math/bits.deBruijn64tab", Rows.laid_math_bits_deBruijn64tab), ("internal/strconv.uint64pow10", Rows.laid_internal_strconv_uint64pow10), ("glossary/ranges.parts", Rows.laid_glossary_ranges_parts)]

def partL : List (Int × Int) := [(0, 55295), (57344, 1114111), (1114240, 1114367)]
theorem parts_eq : (Rows.laid_glossary_ranges_parts : DataW Unit) = .agg (partL.map fun x => .agg [.lit (.int .i32 x.1), .lit (.int .i32 x.2)]) := rfl
theorem ptab_of_reads {W : World} (h3 : VarReads Tryd.prog W "glossary/ranges.parts" (.agg (partL.map fun x => .agg [.lit (.int .i32 x.1), .lit (.int .i32 x.2)]))) : PTab W := by
  have c4 : Tryd.prog.cellsOf 21 = 1 := by kernel_rfl
  have c80 : Tryd.prog.cellsOf 40 = 2 := by kernel_rfl
  have key : ∀ (i : Nat) (x : Int × Int), i < 3 → partL[i]? = some x → W.cell? ⟨0, 2 * i, none⟩ = some (.int .i32 x.1) ∧ W.cell? ⟨0, 2 * i + 1, none⟩ = some (.int .i32 x.2) := by
    intro i x hi hx
    obtain ⟨g, t, cs, fuel, p, hg, hty, hvar, hd⟩ := h3
    obtain rfl := Option.some.inj ((show Tryd.prog.globalNamed "glossary/ranges.parts" = some 0 by kernel_rfl).symm.trans hg)
    obtain rfl := Option.some.inj ((show (Tryd.prog.globals[0]?).map (·.type) = some 84 by kernel_rfl).symm.trans hty)
    obtain ⟨fuel', d, q, hdi, he⟩ := array_elem Tryd.underlying84 hd i hi
    rw [List.getElem?_map, hx] at hdi
    simp only [Option.map_some, Option.some.injEq] at hdi
    subst hdi
    rw [c80] at he
    have eL : DataW.agg [DataW.lit (H := Unit) (Lit.int .i32 x.1), DataW.lit (Lit.int .i32 x.2)] = DataW.agg (([x.1, x.2] : List Int).map fun z => DataW.lit (Lit.int .i32 z)) := rfl
    rw [eL] at he
    have hcs := ints_of_struct Tryd.underlying40 (fun j f hj => by
      match j, hj with
      | 0, hj => simp at hj; subst hj; exact ⟨Tryd.underlying21, rfl, c4⟩
      | 1, hj => simp at hj; subst hj; exact ⟨Tryd.underlying21, rfl, c4⟩
      | j + 2, hj => simp at hj) (by rw [c80]; rfl) he
    have e0 := congrArg (·[0]?) hcs
    have e1 := congrArg (·[1]?) hcs
    simp only [List.getElem?_take, List.getElem?_drop] at e0 e1
    constructor
    · rw [World.var?_cell hg hvar (2 * i), ← Array.getElem?_toList]
      simpa [Nat.mul_comm] using e0
    · rw [World.var?_cell hg hvar (2 * i + 1), ← Array.getElem?_toList]
      simpa [Nat.mul_comm] using e1
  exact ⟨(key 0 _ (by decide) rfl).1, (key 0 _ (by decide) rfl).2, (key 1 _ (by decide) rfl).1, (key 1 _ (by decide) rfl).2, (key 2 _ (by decide) rfl).1, (key 2 _ (by decide) rfl).2⟩

theorem of_laid5 {W : World} (h : laidMetH Tryd.prog theLaid5 W) : REnv W := by
  have h' : laidMet Tryd.prog theLaid5 W := by rw [MakeChecks.laidMetH_plain _ _ _ (by kernel_rfl)] at h; exact h
  have hb := btab_of_reads (bruijn_eq ▸ laidMet.reads h' (.tail _ (.head _)))
  exact ⟨ptab_of_reads (parts_eq ▸ laidMet.reads h' (.tail _ (.tail _ (.tail _ (.head _))))), hb, Go.Kt.lt_of_cell (hb 0 (by decide))⟩

/-- The witness's world. -/
noncomputable def world5 (os : Os) : World := World.laidAll Tryd.prog os theLaid5
theorem world5_os (os : Os) : (world5 os).os = os := World.laidAll_os _ _ _
theorem laid_met5 (os : Os) (args : Array Value) : laidMetH Tryd.prog theLaid5 ((world5 os).forCall (fun _ _ => 0) ⟨#[], args, []⟩).memory := by
  rw [MakeChecks.laidMetH_plain _ _ _ (by kernel_rfl)]
  exact laidMet_laidAll _ (by kernel_rfl) (by kernel_rfl)
end Go.Proofs.YtmcmdijfdhlnaaaDoor
