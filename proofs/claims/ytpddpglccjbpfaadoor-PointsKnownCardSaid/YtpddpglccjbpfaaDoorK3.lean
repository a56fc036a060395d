/- What is the same of any program: a loop with a known number of rounds at the most, whose rounds may leave marks on the activation. -/
import Derived.Test.YtpddpglccjbpfaaDoorK
import Derived.LoopNIn
import Derived.Laws.ResultCell
import Derived.Laws.Rows
namespace Go.Kt
open Go Go.RowKit
variable {P : Program}

theorem rounds_ind {F : Fence} {n : Nat} {c : Code} {Q : Exit → Act → World → Prop} (Rel : Nat → Act → World → Prop)
    (hstep : ∀ m a w, Rel (m + 1) a w → c.wpIn F n P (Exit.then (Rel m) Q) a w) (h0 : ∀ a w, ¬ Rel 0 a w) (m : Nat) {a : Act} {w : World} (h : Rel m a w) : (Code.loop c).wpIn F n P Q a w := by
  refine wpIn_loop_rounds m ?_
  induction m generalizing a w with
  | zero => exact (h0 _ _ h).elim
  | succ m ih =>
    rw [roundsIn_succ]
    refine wpIn_mono (hstep m a w h) ?_
    intro e a' w' he
    cases e with
    | normal => exact ih he
    | ret => exact he
    | exit id => exact he
    | goto t => exact he
    | panic ch => exact he
    | outgrown => exact he

theorem alloc_at {A : World} {o : Obj} {k : Nat} (hk : k = A.heap.size) : (A.alloc o).heap[k]? = some o := by rw [hk]; exact World.alloc_heap_new A o
theorem alloc_old {A : World} {o x : Obj} {k : Nat} (h : A.heap[k]? = some x) : (A.alloc o).heap[k]? = some x := ((Keep.refl (fun _ => False) A).alloc o).heap h (fun h => h)
theorem set_at {A : World} {k : Nat} {v u : Value} {t : TypeId} {fr : Nat × Nat} (h : A.heap[k]? = some (.cells #[v] t fr)) : (A.setCell ⟨k, 0, none⟩ u).heap[k]? = some (.cells #[u] t fr) := by
  simp [World.setCell, Array.getElem?_modify, h]
theorem set_old {A : World} {j k : Nat} {o : Nat} {x : Obj} {u : Value} (h : A.heap[j]? = some x) (hne : j ≠ k) : (A.setCell ⟨k, o, none⟩ u).heap[j]? = some x :=
  ((Keep.refl (fun b => b = k) A).setCell (p := ⟨k, o, none⟩) rfl u).heap h hne
theorem cell_one {A : World} {k : Nat} {v : Value} {t : TypeId} {fr : Nat × Nat} (h : A.heap[k]? = some (.cells #[v] t fr)) : A.cell? ⟨k, 0, none⟩ = some v := by
  simp [World.cell?, h]
theorem frozen_one {A : World} {k : Nat} {v : Value} {t : TypeId} (h : A.heap[k]? = some (.cells #[v] t (0, 0))) : A.frozen? ⟨k, 0, none⟩ = false := by
  simp [World.frozen?, h]

theorem results_cell_one {fn : Func} {p : Tmp} {ty : TypeId} (h : fn.results = #[.cell p ty]) (tmps : Array Value) (w : World) (g : Nat) (v : Value)
    (hp : tmps.getD p undef = .pointer (some ⟨g, 0, none⟩)) (hg : w.cell? ⟨g, 0, none⟩ = some v) (ha : ∀ w, (isAgg ty).run P w = .ok false w) :
    (results fn tmps).run P w = .ok v w := by
  have hp' : tmps[p]?.getD undef = .pointer (some ⟨g, 0, none⟩) := by simpa using hp
  simp [results, h, hp', asAddr, loadVar, ha, hg]
end Go.Kt
