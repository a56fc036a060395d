/- What the listed variables of the rows that ask the document's properties give the walks, and the worlds that their witnesses start in. -/
import Derived.Test.YthhepebkfokddaaGreatDoorWpy
import Derived.Test.YthhepebkfokddaaGreatDoorZe
import Derived.Test.YthhepebkfokddaaGreatDoorEd
import Derived.LaidHandle
namespace Go.Proofs.YthhepebkfokddaaGreatDoor
open Go.Lib Go.Shelf Go.RowKit Go.Kt
set_option maxRecDepth 100000

noncomputable def theLaidX : List (String × DataW Unit) := [("glossary/glossaryref06.kinds", Rows.laid_glossary_glossaryref06_kinds), ("math/bits.deBruijn32tab", Rows.laid_math_bits_deBruijn32tab), ("math/bits.deBruijn64tab", Rows.laid_math_bits_deBruijn64tab), ("internal/strconv.uint64pow10", Rows.laid_internal_strconv_uint64pow10), ("unicode/utf8.acceptRanges", Rows.laid_unicode_utf8_acceptRanges), ("strconv.ErrRange", Rows.laid_strconv_ErrRange), ("strconv.ErrSyntax", Rows.laid_strconv_ErrSyntax), ("glossary/props.kinds", Rows.laid_glossary_props_kinds), ("unicode/utf8.first", Rows.laid_unicode_utf8_first)]
theorem kindsX_eq : (Rows.laid_glossary_glossaryref06_kinds : DataW Unit) = .agg (kdN.map fun x => .lit (.string x)) := rfl
theorem ktabX_of_reads {W : World} (h3 : VarReads Tryz.prog W "glossary/glossaryref06.kinds" (.agg (kdN.map fun x => .lit (.string x)))) : KTabX W := by
  have c1 : Tryz.prog.cellsOf 9 = 1 := by kernel_rfl
  intro k hk
  obtain ⟨g, t, cs, fuel, p, hg, hty, hvar, hd⟩ := h3
  obtain rfl := Option.some.inj ((show Tryz.prog.globalNamed "glossary/glossaryref06.kinds" = some 0 by kernel_rfl).symm.trans hg)
  obtain rfl := Option.some.inj ((show (Tryz.prog.globals[0]?).map (·.type) = some 152 by kernel_rfl).symm.trans hty)
  obtain ⟨fuel', d, q, hdi, he⟩ := array_elem Tryz.underlying152 hd k hk
  have hkl : k < kdN.length := hk
  rw [List.getElem?_map, List.getElem?_eq_getElem hkl] at hdi
  simp only [Option.map_some, Option.some.injEq] at hdi
  subst hdi
  rw [c1] at he
  have hcs := trod_strP Tryz.underlying9 he
  have e0 := congrArg (·[0]?) hcs
  simp only [List.getElem?_take, List.getElem?_drop] at e0
  rw [World.var?_cell hg hvar k, ← Array.getElem?_toList]
  simpa using e0
def XEnv (W : World) : Prop := PEnv W ∧ KTabX W
theorem XEnv.below {A B : World} (h : XEnv A) (hb : Below A.heap.size A B) : XEnv B := ⟨h.1.below hb, h.2.below hb⟩
theorem xenv_of {W : World} (h' : laidMet Tryz.prog theLaidX W) (hsh : W.ShapedOpen Tryz.prog) : XEnv W := by
  have e0 := laidMet.reads h' (.head _)
  have e1 := laidMet.reads h' (.tail _ (.tail _ (.tail _ (.tail _ (.tail _ (.head _))))))
  have e2 := laidMet.reads h' (.tail _ (.tail _ (.tail _ (.tail _ (.tail _ (.tail _ (.head _)))))))
  have e3 := laidMet.reads h' (.tail _ (.tail _ (.tail _ (.tail _ (.tail _ (.tail _ (.tail _ (.head _))))))))
  exact ⟨⟨⟨iface_of_readsP (by kernel_rfl) (by kernel_rfl) e2, iface_of_readsP (by kernel_rfl) (by kernel_rfl) e1⟩, ktab_of_reads (kinds_eq ▸ e3),
    cell_of_shapedOpen_int (zero := #[.int .i64 0]) (t := 3) hsh (of_decide_eq_true (by kernel_rfl)) (by kernel_rfl) rfl (by kernel_rfl) (by kernel_rfl) Tryz.underlying3⟩, ktabX_of_reads (kindsX_eq ▸ e0)⟩
theorem of_laidX {W : World} (h : laidMetH Tryz.prog theLaidX W) (hsh : W.ShapedOpen Tryz.prog) : XEnv W :=
  xenv_of (by rw [MakeChecks.laidMetH_plain _ _ _ (by kernel_rfl)] at h; exact h) hsh
noncomputable def worldX (os : Os) : World := World.laidAll Tryz.prog os theLaidX
theorem worldX_os (os : Os) : (worldX os).os = os := World.laidAll_os _ _ _
theorem laid_metX (os : Os) (args : Array Value) : laidMetH Tryz.prog theLaidX ((worldX os).forCall (fun _ _ => 0) ⟨#[], args, []⟩).memory := by
  rw [MakeChecks.laidMetH_plain _ _ _ (by kernel_rfl)]
  exact laidMet_laidAll _ (by kernel_rfl) (by kernel_rfl)
end Go.Proofs.YthhepebkfokddaaGreatDoor
