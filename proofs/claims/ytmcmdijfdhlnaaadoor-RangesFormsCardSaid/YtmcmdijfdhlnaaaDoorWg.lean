/- What the listed variables of RangesForms' and RangesBack's rows give the walks, and the world that their witnesses start in. -/
import Derived.Test.YtmcmdijfdhlnaaaDoorY2
import Derived.Test.YtmcmdijfdhlnaaaDoorHd
namespace Go.Proofs.YtmcmdijfdhlnaaaDoor
open Go.Lib Go.Shelf Go.Kt.Bits
set_option maxRecDepth 100000

noncomputable def theLaid6 : List (String × DataW Unit) := [("math/bits.deBruijn32tab", Rows.laid_math_bits_deBruijn32tab), ("math/bits.deBruijn64tab", Rows.laid_math_bits_deBruijn64tab), ("internal/strconv.uint64pow10", Rows.laid_internal_strconv_uint64pow10), ("strconv.ErrRange", Rows.laid_strconv_ErrRange), ("strconv.ErrSyntax", Rows.laid_strconv_ErrSyntax), ("glossary/ranges.parts", Rows.laid_glossary_ranges_parts)]

theorem trod_iface {H : Type} {enc : TypeId × Value → H} {P : Program} {w : World} {base : Nat} {sp : Nat → Bool} {held : Bool} {fuel : Nat} {t : TypeId} {cs : List Value} {T : String} {D : DataW H} {q : List MemPlace} {ms : Array (String × TypeId)}
    (ht : P.underlying t = some (.interface ms)) (h : DataW.trod enc P w base sp held fuel t cs = some (.iface T D, q)) : ∃ u v, cs = [.iface u v] := by
  cases fuel with
  | zero => simp [DataW.trod] at h
  | succ n =>
    unfold DataW.trod at h
    rw [ht] at h
    split at h <;> simp_all
theorem iface_of_reads {W : World} {nm : String} {g : Nat} {T : String} {D : DataW Unit} (hn : Tryd.prog.globalNamed nm = some g) (ht : (Tryd.prog.globals[g]?).map (·.type) = some 33) (h : VarReads Tryd.prog W nm (.iface T D)) : ∃ t p, W.cell? ⟨g, 0, none⟩ = some (.iface t p) := by
  obtain ⟨g', t, cs, fuel, p, hg, hty, hvar, hd⟩ := h
  obtain rfl := Option.some.inj (hn.symm.trans hg)
  obtain rfl := Option.some.inj (ht.symm.trans hty)
  obtain ⟨u, v, e⟩ := trod_iface Tryd.underlying33 hd
  refine ⟨u, v, ?_⟩
  rw [World.var?_cell hg hvar 0, ← Array.getElem?_toList, e]
  rfl
theorem of_laid6 {W : World} (h : laidMetH Tryd.prog theLaid6 W) : PEnv W := by
  have h' : laidMet Tryd.prog theLaid6 W := by rw [MakeChecks.laidMetH_plain _ _ _ (by kernel_rfl)] at h; exact h
  have hb := btab_of_reads (bruijn_eq ▸ laidMet.reads h' (.tail _ (.head _)))
  have hp := ptab_of_reads (parts_eq ▸ laidMet.reads h' (.tail _ (.tail _ (.tail _ (.tail _ (.tail _ (.head _)))))))
  have e1 := laidMet.reads h' (.tail _ (.tail _ (.tail _ (.head _))))
  have e2 := laidMet.reads h' (.tail _ (.tail _ (.tail _ (.tail _ (.head _)))))
  exact ⟨⟨hp, hb, Go.Kt.lt_of_cell (hb 0 (by decide))⟩, iface_of_reads (by kernel_rfl) (by kernel_rfl) e2, iface_of_reads (by kernel_rfl) (by kernel_rfl) e1⟩

/-- The witness's world. -/
noncomputable def world6 (os : Os) : World := World.laidAll Tryd.prog os theLaid6
theorem world6_os (os : Os) : (world6 os).os = os := World.laidAll_os _ _ _
theorem laid_met6 (os : Os) (args : Array Value) : laidMetH Tryd.prog theLaid6 ((world6 os).forCall (fun _ _ => 0) ⟨#[], args, []⟩).memory := by
  rw [MakeChecks.laidMetH_plain _ _ _ (by kernel_rfl)]
  exact laidMet_laidAll _ (by kernel_rfl) (by kernel_rfl)
end Go.Proofs.YtmcmdijfdhlnaaaDoor
