/- UtfWalks' two helpers: forward, backward. -/
import Derived.Test.YtpddpglccjbpfaaDoorBi
import Derived.Test.YtpddpglccjbpfaaDoorRa
import Derived.IntWalk
namespace Go.Proofs.YtpddpglccjbpfaaDoor
open Go Go.RowKit Go.Kt Go.Shelf
attribute [local go_sem] Oper.semAt_some

/-- The cell of element k of a list that is read. -/
theorem slg_cell {k : IntKind} {W : World} {ap : Option Addr} {n cp : Nat} {l : List Int} (h : Slg k W (.slice ap n cp) l) (i : Nat) (x : Int) (hx : l[i]? = some x) : ∃ A, ap = some A ∧ W.cell? (A.add i) = some (.int k x) := by
  obtain ⟨ax, cx, e, h⟩ := h
  injection e with e1 _ _
  subst e1
  rcases h with h | ⟨a, e, h⟩
  · rw [h] at hx; simp at hx
  · exact ⟨a, e, h i x hx⟩

end Go.Proofs.YtpddpglccjbpfaaDoor
