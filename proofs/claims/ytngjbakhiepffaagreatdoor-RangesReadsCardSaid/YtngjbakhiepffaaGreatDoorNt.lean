/- The law's own: some. -/
import Derived.Test.YtngjbakhiepffaaGreatDoorCx3
import Derived.Test.YtngjbakhiepffaaGreatDoorNl
namespace Go.Proofs.YtngjbakhiepffaaGreatDoor
open Go Go.RowKit Go.Kt Go.Kt.Rg

/-- The spans' bounds are runes. -/
def Runy (l : List (Int × Int)) : Prop := ∀ x ∈ l, (-2147483648 ≤ x.1 ∧ x.1 ≤ 2147483647) ∧ (-2147483648 ≤ x.2 ∧ x.2 ≤ 2147483647)

/-- A slice of spans, wherever it lies. -/
def SpA (W : World) (v : Value) (l : List (Int × Int)) : Prop :=
  ∃ ao cap, v = .slice ao l.length cap ∧ (l = [] ∨ ∃ a : Addr, ao = some a ∧ ∀ (i : Nat) (x : Int × Int), l[i]? = some x → W.cell? (a.add (i * 2)) = some (.int .i32 x.1) ∧ W.cell? (a.add (i * 2 + 1)) = some (.int .i32 x.2))
theorem SpA.below {A B : World} {v : Value} {l : List (Int × Int)} (h : SpA A v l) (hb : Below A.heap.size A B) : SpA B v l := by
  obtain ⟨ao, cap, rfl, h⟩ := h
  refine ⟨ao, cap, rfl, ?_⟩
  rcases h with h | ⟨a, rfl, h⟩
  · exact .inl h
  · exact .inr ⟨a, rfl, fun i x hx => ⟨(hb.cell (lt_of_cell (h i x hx).1)).trans (h i x hx).1, (hb.cell (lt_of_cell (h i x hx).2)).trans (h i x hx).2⟩⟩
theorem add_one_more (a : Addr) (i : Nat) : (a.add i).add 1 = a.add (i + 1) := by
  unfold Addr.add
  by_cases h : i = 0
  · subst h; simp
  · rw [if_neg h, if_neg (by omega), if_neg (by omega)]; simp [Nat.add_assoc]

end Go.Proofs.YtngjbakhiepffaaGreatDoor
