/- What is the same of any program: a drawn region that reads, and stores once, behind all else (K12). -/
import Derived.Test.YtjbkpcdpdifpnaaGreatDoorCk10
import Derived.Test.YtjbkpcdpdifpnaaGreatDoorCk11
namespace Go.Kt
open Go Go.RowKit

structure StoR where
  w : World
  w2 : World
  js : Nat
  val : Nat → Option Value
variable {F : StoR} {D : Nat → Bool} {X Y W : World} {i : Nat} {v u : Value}
def StoR.S (F : StoR) (D : Nat → Bool) (X : World) : Prop := D F.js = false → X = F.w
def StoR.P (F : StoR) (i : Nat) (v : Value) (W : World) : Prop := (∀ u, F.val i = some u → v = u) ∧ (i = F.js → W = F.w2)
theorem StoR.S.more (h : F.S D X) : F.S (fun j => D j || j == i) X := fun e => h (orb_l e)
theorem StoR.S.store : F.S (fun j => D j || j == F.js) Y := fun e => by simp at e
theorem StoR.P.is (h : F.P i v W) (e : F.val i = some u) : v = u := h.1 u e
theorem StoR.P.mk (e : F.val i = some v) (hi : i ≠ F.js) : F.P i v W := ⟨fun u h => by rw [e] at h; exact Option.some.inj h, fun h => absurd h hi⟩
theorem StoR.P.last (e : F.val F.js = none) (h : Y = F.w2) : F.P F.js v Y := ⟨fun u h => (by rw [e] at h; cases h), fun _ => h⟩
theorem StoR.P.store (h : F.P i v W) (hi : i ≠ F.js) : F.P i v Y := ⟨h.1, fun e => absurd e hi⟩
end Go.Kt
