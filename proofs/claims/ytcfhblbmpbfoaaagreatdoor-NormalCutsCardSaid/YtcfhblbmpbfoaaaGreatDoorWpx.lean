/- What the listed variables of props' rows give the walks, and the world that their witnesses start in. -/
import Derived.Test.YtcfhblbmpbfoaaaGreatDoorWx
import Derived.Test.YtcfhblbmpbfoaaaGreatDoorJcx
import Derived.LaidHandle
import Derived.Shelf.Vars
namespace Go.Proofs.YtcfhblbmpbfoaaaGreatDoor
open Go.Lib Go.Shelf
set_option maxRecDepth 100000

noncomputable def theLaidP : List (String × DataW Unit) := [("math/bits.deBruijn32tab", Rows.laid_math_bits_deBruijn32tab), ("math/bits.deBruijn64tab", Rows.laid_math_bits_deBruijn64tab), ("internal/strconv.uint64pow10", Rows.laid_internal_strconv_uint64pow10), ("unicode/utf8.acceptRanges", Rows.laid_unicode_utf8_acceptRanges), ("strconv.ErrRange", Rows.laid_strconv_ErrRange), ("strconv.ErrSyntax", Rows.laid_strconv_ErrSyntax), ("glossary/props.kinds", Rows.laid_glossary_props_kinds), ("unicode/utf8.first", Rows.laid_unicode_utf8_first)]

theorem trod_ifaceP {H : Type} {enc : TypeId × Value → H} {P : Program} {w : World} {base : Nat} {sp : Nat → Bool} {held : Bool} {fuel : Nat} {t : TypeId} {cs : List Value} {T : String} {D : DataW H} {q : List MemPlace} {ms : Array (String × TypeId)}
    (ht : P.underlying t = some (.interface ms)) (h : DataW.trod enc P w base sp held fuel t cs = some (.iface T D, q)) : ∃ u v, cs = [.iface u v] := by
  cases fuel with
  | zero => simp [DataW.trod] at h
  | succ n =>
    unfold DataW.trod at h
    rw [ht] at h
    split at h <;> simp_all
theorem iface_of_readsP {W : World} {nm : String} {g : Nat} {T : String} {D : DataW Unit} (hn : Tryz.prog.globalNamed nm = some g) (ht : (Tryz.prog.globals[g]?).map (·.type) = some 47) (h : VarReads Tryz.prog W nm (.iface T D)) : ∃ t p, W.cell? ⟨g, 0, none⟩ = some (.iface t p) := by
  obtain ⟨g', t, cs, fuel, p, hg, hty, hvar, hd⟩ := h
  obtain rfl := Option.some.inj (hn.symm.trans hg)
  obtain rfl := Option.some.inj (ht.symm.trans hty)
  obtain ⟨u, v, e⟩ := trod_ifaceP Tryz.underlying47 hd
  refine ⟨u, v, ?_⟩
  rw [World.var?_cell hg hvar 0, ← Array.getElem?_toList, e]
  rfl
theorem trod_strP {H : Type} {enc : TypeId × Value → H} {P : Program} {w : World} {base : Nat} {sp : Nat → Bool} {held : Bool} {fuel : Nat} {t : TypeId} {cs : List Value} {bs : List UInt8} {q : List MemPlace}
    (ht : P.underlying t = some .string) (h : DataW.trod enc P w base sp held fuel t cs = some (.lit (.string bs), q)) : cs = [.string ⟨bs.toArray⟩] := by
  cases fuel with
  | zero => simp [DataW.trod] at h
  | succ n =>
    unfold DataW.trod at h
    rw [ht] at h
    split at h <;> simp_all
    obtain ⟨_, rfl, _⟩ := h
    rfl
theorem kinds_eq : (Rows.laid_glossary_props_kinds : DataW Unit) = .agg (kdN.map fun x => .lit (.string x)) := rfl
theorem ktab_of_reads {W : World} (h3 : VarReads Tryz.prog W "glossary/props.kinds" (.agg (kdN.map fun x => .lit (.string x)))) : KTab W := by
  have c1 : Tryz.prog.cellsOf 9 = 1 := by kernel_rfl
  intro k hk
  obtain ⟨g, t, cs, fuel, p, hg, hty, hvar, hd⟩ := h3
  obtain rfl := Option.some.inj ((show Tryz.prog.globalNamed "glossary/props.kinds" = some 2 by kernel_rfl).symm.trans hg)
  obtain rfl := Option.some.inj ((show (Tryz.prog.globals[2]?).map (·.type) = some 167 by kernel_rfl).symm.trans hty)
  obtain ⟨fuel', d, q, hdi, he⟩ := array_elem Tryz.underlying167 hd k hk
  have hkl : k < kdN.length := hk
  rw [List.getElem?_map, List.getElem?_eq_getElem hkl] at hdi
  simp only [Option.map_some, Option.some.injEq] at hdi
  subst hdi
  rw [c1] at he
  have hcs := trod_strP Tryz.underlying9 he
  have e0 := congrArg (·[0]?) hcs
  simp only [List.getElem?_take, List.getElem?_drop] at e0
  rw [World.var?_cell hg hvar k, ← Array.getElem?_toList]
  simpa using e0
theorem of_laidP {W : World} (h : laidMetH Tryz.prog theLaidP W) (hsh : W.ShapedOpen Tryz.prog) : PEnv W := by
  have h' : laidMet Tryz.prog theLaidP W := by rw [MakeChecks.laidMetH_plain _ _ _ (by kernel_rfl)] at h; exact h
  have e1 := laidMet.reads h' (.tail _ (.tail _ (.tail _ (.tail _ (.head _)))))
  have e2 := laidMet.reads h' (.tail _ (.tail _ (.tail _ (.tail _ (.tail _ (.head _))))))
  have e3 := laidMet.reads h' (.tail _ (.tail _ (.tail _ (.tail _ (.tail _ (.tail _ (.head _)))))))
  exact ⟨⟨iface_of_readsP (by kernel_rfl) (by kernel_rfl) e2, iface_of_readsP (by kernel_rfl) (by kernel_rfl) e1⟩, ktab_of_reads (kinds_eq ▸ e3),
    cell_of_shapedOpen_int (zero := #[.int .i64 0]) (t := 3) hsh (of_decide_eq_true (by kernel_rfl)) (by kernel_rfl) rfl (by kernel_rfl) (by kernel_rfl) Tryz.underlying3⟩

noncomputable def worldP (os : Os) : World := World.laidAll Tryz.prog os theLaidP
theorem worldP_os (os : Os) : (worldP os).os = os := World.laidAll_os _ _ _
theorem laid_metP (os : Os) (args : Array Value) : laidMetH Tryz.prog theLaidP ((worldP os).forCall (fun _ _ => 0) ⟨#[], args, []⟩).memory := by
  rw [MakeChecks.laidMetH_plain _ _ _ (by kernel_rfl)]
  exact laidMet_laidAll _ (by kernel_rfl) (by kernel_rfl)
end Go.Proofs.YtcfhblbmpbfoaaaGreatDoor
