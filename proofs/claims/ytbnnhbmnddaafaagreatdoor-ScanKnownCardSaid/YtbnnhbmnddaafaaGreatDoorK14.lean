/- What is the same of any program: 'x = append(x, a, b, ..)' of a local variable in a drawn region (K12): operation ib builds the elements' block, ia appends, ic lays the slice into its slot. -/
import Derived.Test.YtbnnhbmnddaafaaGreatDoorGz8
namespace Go.Kt
open Go Go.RowKit

structure AppR where
  w : World
  kv : Value
  E : TypeId
  sz : Nat
  n : Nat
  m : Nat
  xs : List Value
  ys : List Value
  bs : Array Value
  bl : Nat
  ib : Nat
  ia : Nat
  ic : Nat
  val : Nat → Option Value
section
variable {F : AppR}
def AppR.Row (F : AppR) (v : Value) (W : World) : Prop :=
  ∃ ao cp, v = .slice ao F.m cp ∧ OwnS (fun b => F.kv.ownBlock = some b ∨ F.w.heap.size ≤ b) F.E F.sz v F.m F.ys W
def AppR.S (F : AppR) (D : Nat → Bool) (X : World) : Prop :=
  (D F.ia = false → OwnS (fun b => F.kv.ownBlock = some b) F.E F.sz F.kv F.n F.xs X) ∧ Keep (fun b => F.kv.ownBlock = some b) F.w X
variable {D : Nat → Bool} {X Y W : World} {i : Nat} {v u : Value}
theorem AppR.S.more (h : F.S D X) : F.S (fun j => D j || j == i) X := ⟨fun e => h.1 (orb_l e), h.2⟩
theorem AppR.S.below (h : F.S D X) (hb : Below X.heap.size X Y) : F.S D Y :=
  ⟨fun e => (h.1 e).keep (X := fun _ => False) (Keep.of_all hb) (fun _ h => h.elim), h.2.then (hb.mono h.2.size)⟩
theorem AppR.S.app (h : F.S D X) (hk : Keep (fun b => F.kv.ownBlock = some b) X Y) : F.S (fun j => D j || j == F.ia) Y :=
  ⟨fun e => by simp at e, h.2.trans hk⟩
def AppR.P (F : AppR) (i : Nat) (v : Value) (W : World) : Prop :=
  (∀ u, F.val i = some u → v = u) ∧ (i = F.ib → ∃ b, v = .slice (some ⟨b, 0, none⟩) F.bl F.bl ∧ W.heap[b]? = some (.cells F.bs F.E (0, 0)) ∧ F.w.heap.size ≤ b) ∧ (i = F.ia ∨ i = F.ic → F.Row v W)
theorem AppR.P.is (h : F.P i v W) (e : F.val i = some u) : v = u := h.1 u e
theorem AppR.P.mk (e : F.val i = some v) (hi : i ≠ F.ib ∧ i ≠ F.ia ∧ i ≠ F.ic) : F.P i v W :=
  ⟨fun u h => by rw [e] at h; exact Option.some.inj h, fun h => absurd h hi.1, fun h => by rcases h with h | h; exact absurd h hi.2.1; exact absurd h hi.2.2⟩
theorem AppR.P.bs_ (e : F.val F.ib = none) (hi : F.ib ≠ F.ia ∧ F.ib ≠ F.ic) (h : ∃ b, v = .slice (some ⟨b, 0, none⟩) F.bl F.bl ∧ W.heap[b]? = some (.cells F.bs F.E (0, 0)) ∧ F.w.heap.size ≤ b) : F.P F.ib v W :=
  ⟨fun u h => (by rw [e] at h; cases h), fun _ => h, fun h => by rcases h with h | h; exact absurd h hi.1; exact absurd h hi.2⟩
theorem AppR.P.row (_hi : i = F.ia ∨ i = F.ic) (e : F.val i = none) (hb : i ≠ F.ib) (h : F.Row v W) : F.P i v W :=
  ⟨fun u h => (by rw [e] at h; cases h), fun h => absurd h hb, fun _ => h⟩
theorem AppR.Row.below (h : F.Row v W) (hb : Below W.heap.size W Y) : F.Row v Y := by
  obtain ⟨ao, cp, e, ho⟩ := h
  exact ⟨ao, cp, e, ho.keep (X := fun _ => False) (Keep.of_all hb) (fun _ h => h.elim)⟩
theorem AppR.P.below (h : F.P i v W) (hb : Below W.heap.size W Y) : F.P i v Y := by
  refine ⟨h.1, fun e => ?_, fun e => (h.2.2 e).below hb⟩
  obtain ⟨b, h1, h2, h3⟩ := h.2.1 e
  exact ⟨b, h1, (hb.block b (Array.getElem?_eq_some_iff.1 h2).1).trans h2, h3⟩
theorem AppR.P.app (h : F.P i v W) (hkv : ∀ b, F.kv.ownBlock = some b → b < F.w.heap.size) (hk : Keep (fun b => F.kv.ownBlock = some b) W Y) (ha : i ≠ F.ia) (hc : i ≠ F.ic) : F.P i v Y := by
  refine ⟨h.1, fun e => ?_, fun e => by rcases e with e | e; exact absurd e ha; exact absurd e hc⟩
  obtain ⟨b, h1, h2, h3⟩ := h.2.1 e
  exact ⟨b, h1, hk.heap h2 (fun h => by have := hkv b h; omega), h3⟩
end
end Go.Kt
