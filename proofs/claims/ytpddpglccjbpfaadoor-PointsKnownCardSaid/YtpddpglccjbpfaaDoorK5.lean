/- What is the same of any program: more on rows of one's own, and on worlds that keep their blocks. -/
import Derived.Test.YtpddpglccjbpfaaDoorK2
import Derived.Laws.OwnMore
namespace Go.Kt
open Go Go.RowKit

theorem Keep.plus {X Z : Nat → Prop} {A B C : World} (h : Keep X A B) (k : Keep Z B C) (hz : ∀ b, b < A.heap.size → Z b → X b) : Keep X A C :=
  ⟨k.os.trans h.os, k.tape.trans h.tape, k.output.trans h.output, Nat.le_trans h.size k.size, fun b hb hX => (k.same b (Nat.lt_of_lt_of_le hb h.size) (fun e => hX (hz b hb e))).trans (h.same b hb hX)⟩

/-- One that owns its row: nil, or a row at its head. -/
theorem OwnS.shape {Y : Nat → Prop} {e : TypeId} {size n : Nat} {v : Value} {xs : List Value} {W : World} (h : OwnS Y e size v n xs W) :
    (v = .slice none 0 0 ∧ n = 0) ∨ ∃ g cap, v = .slice (some ⟨g, 0, none⟩) n cap ∧ Y g ∧ g < W.heap.size := by
  rcases h.1.2 with h1 | ⟨g, cap, cur, rfl, _, hg, _⟩
  · exact .inl h1
  · exact .inr ⟨g, cap, rfl, h.2 g rfl, (Array.getElem?_eq_some_iff.1 hg).1⟩
theorem OwnS.at0 {Y : Nat → Prop} {e : TypeId} {n g cap : Nat} {xs : List Value} {W : World} (h : OwnS Y e 1 (.slice (some ⟨g, 0, none⟩) n cap) n xs W) {i : Nat} {u : Value} (hi : xs[i]? = some u) : W.cell? ⟨g, i, none⟩ = some u := by
  have := h.1.cells (g := g) rfl i u hi
  rwa [Addr.add_lit, Nat.zero_add] at this
theorem OwnS.frozen {Y : Nat → Prop} {e : TypeId} {n g cap : Nat} {xs : List Value} {W : World} (h : OwnS Y e 1 (.slice (some ⟨g, 0, none⟩) n cap) n xs W) (i : Nat) : W.frozen? ⟨g, i, none⟩ = false := by
  rcases h.1.2 with ⟨h1, _⟩ | ⟨g', cap', cur, h1, _, hg, _⟩
  · cases h1
  · injection h1 with e1 _ _
    injection e1 with e1
    injection e1 with e1
    subst e1
    exact Lib.frozen_of_heap hg i

theorem OwnS.self {Y : Nat → Prop} {e : TypeId} {size n : Nat} {v : Value} {xs : List Value} {A : World} (h : OwnS Y e size v n xs A) : OwnS (fun b => v.ownBlock = some b) e size v n xs A := ⟨h.1, fun _ hg => hg⟩
theorem OwnS.keepX {X Y : Nat → Prop} {e : TypeId} {size n : Nat} {v : Value} {xs : List Value} {A B : World} (h : OwnS Y e size v n xs A) (hk : Keep X A B) (hX : ∀ b, X b → v.ownBlock ≠ some b) : OwnS Y e size v n xs B :=
  ⟨(h.self.keep hk (fun b hb hy => hX b hb hy)).1, h.2⟩

end Go.Kt
