/- The kit's look at lists that were handed out: the walk. -/
import Derived.Test.YtbnnhbmnddaafaaGreatDoorAq
import Derived.Deep.RegionHeldLaw
import Derived.Deep.QuietTactic
import Derived.BigQuiet
namespace Go.Proofs.YtbnnhbmnddaafaaGreatDoor
open Go Go.RowKit Go.Kt Go.Shelf

structure Handed (q : Nat) (vs : List Value) (ns : Nat → Nat) (w : World) : Prop where
  row : w.heap[q]? = some (.cells vs.toArray 90 (0, 0))
  few : vs.length ≤ 1000
  own : ∀ k v, vs[k]? = some v → ns k ≤ 1048576 ∧ ∃ xs, OwnS (fun b => b ≠ q) 21 1 v (ns k) xs w
  apart : Apart vs
theorem Handed.mk0 {q : Nat} {vs : List Value} {ns : Nat → Nat} {w : World} (h : Handed q vs ns w) : Mk q vs ns w 0 0 w :=
  ⟨h.row, Keep.refl _ _, rfl, fun j v hv => by
    obtain ⟨_, xs, ho⟩ := h.own j v hv
    exact ⟨xs, ho, fun h => by omega, fun _ => by simp [mkL]⟩⟩
theorem Mk.gs0 {q : Nat} {vs : List Value} {ns : Nat → Nat} {w W : World} (h : Mk q vs ns w vs.length 0 W) : Gs q vs ns w 0 (.slice none 0 0) W := by
  obtain ⟨h1, h2, h3, h4⟩ := h
  have all : ∀ j v, vs[j]? = some v → OwnS (fun b => ¬ False ∧ b ≠ q ∧ b < w.heap.size) 21 1 v (ns j) (i32s (mkL j (ns j))) W := fun j v hv => by
    obtain ⟨xs, ho, ha, _⟩ := h4 j v hv
    rw [ha (List.getElem?_eq_some_iff.1 hv).1] at ho
    exact ⟨ho.1, fun b hb => ⟨fun h => h, ho.2 b hb, by have := (ho.1.lt b hb).2; omega⟩⟩
  exact ⟨fun _ => False, [], ⟨rfl, h1, h2, fun _ h => h.elim, own_nil _ _ _ _, fun j hj => by omega, fun j v _ hv => all j v hv⟩, fun v hv => all 0 v hv⟩

theorem own_bd {Y : Nat → Prop} {e : TypeId} {size n : Nat} {v : Value} {xs : List Value} {A : World} (h : OwnS Y e size v n xs A) : OwnS (fun b => Y b ∧ b < A.heap.size) e size v n xs A := ⟨h.1, fun b hb => ⟨h.2 b hb, (h.1.lt b hb).2⟩⟩
theorem own_later {Y : Nat → Prop} {e : TypeId} {size n : Nat} {v : Value} {xs : List Value} {A B : World} (h : OwnS Y e size v n xs A) (hb : Below A.heap.size A B) : OwnS Y e size v n xs B := h.keep (X := fun _ => False) (.of_all hb) (fun _ h => h.elim)

end Go.Proofs.YtbnnhbmnddaafaaGreatDoor
