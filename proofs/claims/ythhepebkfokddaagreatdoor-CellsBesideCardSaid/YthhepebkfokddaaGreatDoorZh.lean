/- The document's answer for props: Compose. -/
import Derived.Test.YthhepebkfokddaaGreatDoorLt
import Derived.Test.YthhepebkfokddaaGreatDoorGy15
namespace Go.Proofs.YthhepebkfokddaaGreatDoor
open Go Go.RowKit Go.Kt Go.Kt.Rg Go.Maps

theorem LfW.at3 {w : World} {ao : Option Addr} {n cp : Nat} {l : List Ln3} (h : LfW w (.slice ao n cp) l) {k : Nat} {x : Ln3} (hx : l[k]? = some x) :
    ∃ g v, ao = some ⟨g, 0, none⟩ ∧ w.cell? ⟨g, k * 3, none⟩ = some (.int .i64 (x.1 : Nat)) ∧ w.cell? ⟨g, k * 3 + 1, none⟩ = some v ∧ Sl .i32 w v (toZ x.2.1) ∧ w.cell? ⟨g, k * 3 + 2, none⟩ = some (.int .i64 (x.2.2 : Nat)) := by
  obtain ⟨ao', cp', e, hc⟩ := h
  cases e
  rcases hc with h | ⟨g, e, h⟩
  · rw [h] at hx; cases hx
  · obtain ⟨h1, ⟨v, h2, h3⟩, h4⟩ := h k x hx
    exact ⟨g, v, e, h1, h2, h3, h4⟩
end Go.Proofs.YthhepebkfokddaaGreatDoor
