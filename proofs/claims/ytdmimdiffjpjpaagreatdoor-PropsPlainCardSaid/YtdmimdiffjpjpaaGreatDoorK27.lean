/- What is the same of any program: rows of one's own, from a base on; nothing appended. -/
import Derived.Test.YtdmimdiffjpjpaaGreatDoorGz1
import Derived.OwnWalk
namespace Go.Kt
open Go Go.RowKit

theorem own_from_base {B : Nat} {e : TypeId} {size n : Nat} {v : Value} {xs : List Value} {W : World} (h : W.ownsRow B e size v n xs) : OwnS (fun b => B ≤ b) e size v n xs W := by
  refine ⟨⟨h.1, ?_⟩, fun g hg => ?_⟩
  · rcases h.2 with h1 | ⟨g, cap, cur, rfl, _, rest⟩
    · exact .inl h1
    · exact .inr ⟨g, cap, cur, rfl, Nat.zero_le _, rest⟩
  · rcases h.2 with ⟨rfl, _⟩ | ⟨g', cap, cur, rfl, hb, _⟩
    · cases hg
    · cases hg; exact hb
theorem own_to_base {Y : Nat → Prop} {e : TypeId} {size n base : Nat} {v : Value} {xs : List Value} {W : World} (h : OwnS Y e size v n xs W) (hY : ∀ b, Y b → base ≤ b) : W.ownsRow base e size v n xs := by
  obtain ⟨⟨hl, h2⟩, hY'⟩ := h
  refine ⟨hl, ?_⟩
  rcases h2 with h2 | ⟨g, cap, cur, rfl, hb, hg, rest⟩
  · exact .inl h2
  · exact .inr ⟨g, cap, cur, rfl, hY g (hY' g rfl), hg, rest⟩
theorem append_no_more {w : World} {base : Nat} {P : Program} (t ty e : TypeId) (i : TypeInfo) (size : Nat) (ht : P.underlying t = some (.slice e)) (hi : P.info? e = some i)
    (v : Value) (n : Nat) (xs : List Value) (hown : w.ownsRow base e size v n xs) (c : Nat) :
    (Builtin.append_ #[t, t] ty #[v, .slice none 0 c]).run P w = .ok v w := by
  rcases hown.2 with ⟨rfl, rfl⟩ | ⟨g, cap, cur, rfl, _, _, hnc, _⟩
  · simp [Builtin.append_, run_underlying ht, sizeOf, typeInfo, hi, Builtin.lenOf, Builtin.firstCells]
  · simp [Builtin.append_, run_underlying ht, sizeOf, typeInfo, hi, Builtin.lenOf, Builtin.firstCells, hnc, storeCells]
theorem OwnS.atN {Y : Nat → Prop} {e : TypeId} {size n g cap : Nat} {xs : List Value} {W : World} (h : OwnS Y e size (.slice (some ⟨g, 0, none⟩) n cap) n xs W) {i : Nat} {u : Value} (hi : xs[i]? = some u) : W.cell? ⟨g, i, none⟩ = some u := by
  have := h.1.cells (g := g) rfl i u hi
  rwa [Addr.add_lit, Nat.zero_add] at this
end Go.Kt
