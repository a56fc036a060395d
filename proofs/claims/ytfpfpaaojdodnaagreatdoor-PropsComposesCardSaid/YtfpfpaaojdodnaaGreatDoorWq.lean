/- What the listed variables of the rows that ask the document's properties give the walks, and the worlds that their witnesses start in. -/
import Derived.Test.YtfpfpaaojdodnaaGreatDoorWp
import Derived.Test.YtfpfpaaojdodnaaGreatDoorGz21
import Derived.Test.YtfpfpaaojdodnaaGreatDoorEd
import Derived.LaidHandle
namespace Go.Proofs.YtfpfpaaojdodnaaGreatDoor
open Go.Lib Go.Shelf Go.RowKit Go.Kt
set_option maxRecDepth 100000

noncomputable def theLaidX : List (String × DataW Unit) := [("glossary/glossaryref06.kinds", Rows.laid_glossary_glossaryref06_kinds), ("math/bits.deBruijn32tab", Rows.laid_math_bits_deBruijn32tab), ("math/bits.deBruijn64tab", Rows.laid_math_bits_deBruijn64tab), ("internal/strconv.uint64pow10", Rows.laid_internal_strconv_uint64pow10), ("unicode/utf8.acceptRanges", Rows.laid_unicode_utf8_acceptRanges), ("strconv.ErrRange", Rows.laid_strconv_ErrRange), ("strconv.ErrSyntax", Rows.laid_strconv_ErrSyntax), ("glossary/props.kinds", Rows.laid_glossary_props_kinds), ("unicode/utf8.first", Rows.laid_unicode_utf8_first)]
noncomputable def theLaidR : List (String × DataW Unit) := [("glossary/glossaryref06.kinds", Rows.laid_glossary_glossaryref06_kinds), ("math/bits.deBruijn32tab", Rows.laid_math_bits_deBruijn32tab), ("math/bits.deBruijn64tab", Rows.laid_math_bits_deBruijn64tab), ("internal/strconv.uint64pow10", Rows.laid_internal_strconv_uint64pow10), ("unicode/utf8.acceptRanges", Rows.laid_unicode_utf8_acceptRanges), ("errors.errorType", Rows.laid_errors_errorType), ("strconv.ErrRange", Rows.laid_strconv_ErrRange), ("strconv.ErrSyntax", Rows.laid_strconv_ErrSyntax), ("glossary/props.kinds", Rows.laid_glossary_props_kinds), ("unicode/utf8.first", Rows.laid_unicode_utf8_first)]
theorem kindsX_eq : (Rows.laid_glossary_glossaryref06_kinds : DataW Unit) = .agg (kdN.map fun x => .lit (.string x)) := rfl
theorem ktabX_of_reads {W : World} (h3 : VarReads Tryz.prog W "glossary/glossaryref06.kinds" (.agg (kdN.map fun x => .lit (.string x)))) : KTabX W := by
  have c1 : Tryz.prog.cellsOf 9 = 1 := by kernel_rfl
  intro k hk
  obtain ⟨g, t, cs, fuel, p, hg, hty, hvar, hd⟩ := h3
  obtain rfl := Option.some.inj ((show Tryz.prog.globalNamed "glossary/glossaryref06.kinds" = some 0 by kernel_rfl).symm.trans hg)
  obtain rfl := Option.some.inj ((show (Tryz.prog.globals[0]?).map (·.type) = some 164 by kernel_rfl).symm.trans hty)
  obtain ⟨fuel', d, q, hdi, he⟩ := array_elem Tryz.underlying164 hd k hk
  have hkl : k < kdN.length := hk
  rw [List.getElem?_map, List.getElem?_eq_getElem hkl] at hdi
  simp only [Option.map_some, Option.some.injEq] at hdi
  subst hdi
  rw [c1] at he
  have hcs := trod_strP Tryz.underlying9 he
  have e0 := congrArg (·[0]?) hcs
  simp only [List.getElem?_take, List.getElem?_drop] at e0
  rw [World.var?_cell hg hvar k, ← Array.getElem?_toList]
  simpa using e0
def XEnv (W : World) : Prop := PEnv W ∧ KTabX W
theorem XEnv.below {A B : World} (h : XEnv A) (hb : Below A.heap.size A B) : XEnv B := ⟨h.1.below hb, h.2.below hb⟩
theorem xenv_of {W : World} (h' : laidMet Tryz.prog theLaidX W) (hsh : W.ShapedOpen Tryz.prog) : XEnv W := by
  have e0 := laidMet.reads h' (.head _)
  have e1 := laidMet.reads h' (.tail _ (.tail _ (.tail _ (.tail _ (.tail _ (.head _))))))
  have e2 := laidMet.reads h' (.tail _ (.tail _ (.tail _ (.tail _ (.tail _ (.tail _ (.head _)))))))
  have e3 := laidMet.reads h' (.tail _ (.tail _ (.tail _ (.tail _ (.tail _ (.tail _ (.tail _ (.head _))))))))
  exact ⟨⟨⟨iface_of_readsP (by kernel_rfl) (by kernel_rfl) e2, iface_of_readsP (by kernel_rfl) (by kernel_rfl) e1⟩, ktab_of_reads (kinds_eq ▸ e3),
    cell_of_shapedOpen_int (zero := #[.int .i64 0]) (t := 3) hsh (of_decide_eq_true (by kernel_rfl)) (by kernel_rfl) rfl (by kernel_rfl) (by kernel_rfl) Tryz.underlying3⟩, ktabX_of_reads (kindsX_eq ▸ e0)⟩
theorem of_laidX {W : World} (h : laidMetH Tryz.prog theLaidX W) (hsh : W.ShapedOpen Tryz.prog) : XEnv W :=
  xenv_of (by rw [MakeChecks.laidMetH_plain _ _ _ (by kernel_rfl)] at h; exact h) hsh
theorem errIxX : Tryz.prog.globalNamed "errors.errorType" = some 1 := by kernel_rfl
theorem rtypeIxX : (Tryz.prog.cutTypes.find? (·.1 == "internal/reflectlite.rtype")).map (·.2) = some 344 := by kernel_rfl
theorem typesNX : Tryz.prog.types.size = 454 := by kernel_rfl
theorem errRowX : ((List.range 454).filter fun t => Tryz.prog.rowNamed t [101, 114, 114, 111, 114]) = [25] := by kernel_rfl
theorem errT_of_handlesX {W : World} (h : handlesMet Tryz.prog [("errors.errorType", Rows.laid_errors_errorType)] W) : ErrT W := by
  obtain ⟨name, u, ty, e1, e2, e3, e4, e5⟩ := h _ (List.mem_singleton.2 rfl)
  have en : name = [101, 114, 114, 111, 114] := (Option.some.inj e1).symm
  subst en
  obtain rfl := Option.some.inj (rtypeIxX.symm.trans e2)
  have hm : ty ∈ (List.range 454).filter fun t => Tryz.prog.rowNamed t [101, 114, 114, 111, 114] := List.mem_filter.2 ⟨List.mem_range.2 (by rw [← typesNX]; exact e3), e4⟩
  rw [errRowX] at hm
  obtain rfl := List.mem_singleton.1 hm
  have hh : typeHandle Tryz.prog 25 = tyH 25 := by kernel_rfl
  rw [hh] at e5
  simpa using World.var?_cell errIxX e5 0



def XEnvR (W : World) : Prop := XEnv W ∧ ErrT W
theorem of_laidR {W : World} (h : laidMetH Tryz.prog theLaidR W) (hsh : W.ShapedOpen Tryz.prog) : XEnvR W := by
  have h' : laidMet Tryz.prog theLaidX W ∧ handlesMet Tryz.prog [("errors.errorType", Rows.laid_errors_errorType)] W := h
  exact ⟨xenv_of h'.1 hsh, errT_of_handlesX h'.2⟩
noncomputable def worldX (os : Os) : World := World.laidAll Tryz.prog os theLaidX
theorem worldX_os (os : Os) : (worldX os).os = os := World.laidAll_os _ _ _
theorem laid_metX (os : Os) (args : Array Value) : laidMetH Tryz.prog theLaidX ((worldX os).forCall (fun _ _ => 0) ⟨#[], args, []⟩).memory := by
  rw [MakeChecks.laidMetH_plain _ _ _ (by kernel_rfl)]
  exact laidMet_laidAll _ (by kernel_rfl) (by kernel_rfl)
noncomputable def errWorldX (os : Os) : World :=
  let w0 := World.holding Tryz.prog os ⟨#[], #[], []⟩
  { w0 with heap := w0.heap.modify 1 fun
      | .cells _ t frozen => .cells #[.iface 344 (.agg #[tyH 25])] t frozen
      | o => o }
theorem laidMet_onX {P : Program} {w0 : World} {laid : List (String × DataW Unit)} (args : Array Value) (hf : w0.layFits P laid [] = true) (hi : w0.layIfaces P laid (w0.layVars P laid) = true) :
    laidMet P laid ((w0.layVars P laid).forCall (fun _ _ => 0) ⟨#[], args, []⟩).memory := by
  have e1 : (laid.filter fun x => (laid.map (·.1)).contains x.1) = laid := List.filter_eq_self.2 fun x hx => List.contains_iff_mem.2 (List.mem_map.2 ⟨x, hx, rfl⟩)
  have e2 : (laid.filter fun x => !(laid.map (·.1)).contains x.1) = [] := List.filter_eq_nil_iff.2 fun x hx => by rw [List.contains_iff_mem.2 (List.mem_map.2 ⟨x, hx, rfl⟩)]; simp
  have h : laidMet P laid (w0.layVars P laid) := laidMet_layVars (w0 := w0) (laid.map (·.1)) [] (by rw [e1]) (by rw [e1]; exact hf) (by rw [e1]; exact hi) (by rw [e2]; exact LaidIn.none)
  exact h.of_heap (by simp [World.memory, World.forCall, Input.heap])



noncomputable def worldR (os : Os) : World := (errWorldX os).layVars Tryz.prog theLaidX
theorem worldR_os (os : Os) : (worldR os).os = os := World.layVars_os _ _ _
theorem laid_metR (os : Os) (args : Array Value) : laidMetH Tryz.prog theLaidR ((worldR os).forCall (fun _ _ => 0) ⟨#[], args, []⟩).memory :=
  laidMetH_of_parts (show laidMet Tryz.prog theLaidX _ from laidMet_onX args (by kernel_rfl) (by kernel_rfl)) (by kernel_rfl)
end Go.Proofs.YtfpfpaaojdodnaaGreatDoor
