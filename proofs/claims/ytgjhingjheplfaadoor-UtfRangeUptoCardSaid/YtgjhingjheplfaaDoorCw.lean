/- Go's own conversion of a text to runes, as it lies in memory. -/
import Derived.Test.YtgjhingjheplfaaDoorCj
import Derived.Test.YtgjhingjheplfaaDoorCe
namespace Go.Proofs.YtgjhingjheplfaaDoor
open Go Go.RowKit Go.Kt Go.Shelf

/-- What '[]rune(s)' leaves behind. -/
def rcap (s : ByteArray) (w : World) : Nat := grownCap w (units s).length 0 21
def rworld (s : ByteArray) (w : World) : World := w.drew.alloc (.cells ((runeCells s).toArray ++ Array.replicate (grownCap w (units s).length 0 21 - (units s).length) (.int .i32 0)) 21)
theorem runes_conv (s : ByteArray) (h46 : (units s).length ≤ 70368744177664) (w : World) :
    (convert 9 23 (.string s)).run Tryd.prog w = .ok (.slice (some ⟨w.heap.size, 0, none⟩) (units s).length (rcap s w)) (rworld s w) := by
  have hr := run_runes_of_string (P := Tryd.prog) w 9 23 21 s Tryd.underlying9 Tryd.underlying23 Tryd.underlying21 (by rw [runesFrom_units]; simp [runeCells_len]; omega)
  rw [runesFrom_units] at hr
  have hl : (runeCells s).toArray.size = (units s).length := by simp [runeCells_len]
  rw [hl] at hr
  exact hr
theorem rworld_below (s : ByteArray) (w : World) : Below w.heap.size w (rworld s w) := (Below.refl _ w).drew.alloc (Nat.le_refl _) _
theorem rworld_sl (s : ByteArray) (h46 : (units s).length ≤ 70368744177664) (w : World) : Sl .i32 (rworld s w) (.slice (some ⟨w.heap.size, 0, none⟩) (units s).length (rcap s w)) (numsI s) := by
  have hge := grownCap_ge w (units s).length 0 21
  have := ownsRow_laid w.drew (runeCells s) (List.replicate (grownCap w (units s).length 0 21 - (units s).length) (.int .i32 0)) 21 (units s).length (runeCells_len s) (by
      have := grownCap_le_maxLen w (units s).length 0 21 (by unfold maxLen; omega)
      simp; omega)
  rw [runeCells_I] at this
  refine sl_of_own (Y := fun b => b = w.heap.size) (e := 21) (n := (units s).length) ?_ (numsI_len s)
  unfold rworld rcap
  rw [runeCells_I]
  simpa [Nat.add_sub_cancel' hge] using this
theorem runes_back (s : ByteArray) (h46 : (units s).length ≤ 70368744177664) (w : World) :
    (convert 23 9 (.slice (some ⟨w.heap.size, 0, none⟩) (units s).length (rcap s w))).run Tryd.prog (rworld s w) = .ok (.string (runesBytes (numsI s))) (rworld s w) :=
  text_run _ _ _ (rworld_sl s h46 w)

end Go.Proofs.YtgjhingjheplfaaDoor
