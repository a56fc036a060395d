/- What is the same of any program: a book of lists that were handed out (a struct of 24 lists of lists, one of which is filled), and the look at what it holds (K29). -/
import Derived.Test.YtfpfpaaojdodnaaGreatDoorK29
import Derived.Test.YtfpfpaaojdodnaaGreatDoorGz1
namespace Go.Kt.Bl
open Go Go.RowKit Go.Kt

def bookC (k : Nat) (sv : Value) : Array Value := ((List.replicate 24 (Value.slice none 0 0)).set k sv).toArray
def lenV : Value → Nat
  | .slice _ n _ => n
  | _ => 0
def nsV (vs : List Value) (j : Nat) : Nat := match vs[j]? with
  | some v => lenV v
  | none => 0
theorem nsV_at {vs : List Value} {j : Nat} {v : Value} (h : vs[j]? = some v) : nsV vs j = lenV v := by unfold nsV; rw [h]
theorem bookC_set (k : Nat) (sv u : Value) : (bookC k sv).setIfInBounds k u = bookC k u := by
  unfold bookC
  rw [List.setIfInBounds_toArray, List.set_set]

structure BookW (B e t : TypeId) (size k : Nat) (W0 : World) (gb : Nat) (sv : Value) (vs : List Value) (X : World) : Prop where
  book : X.heap[gb]? = some (.cells (bookC k sv) B (0, 0))
  list : OwnS (fun b => W0.heap.size ≤ b ∧ b ≠ gb) t 1 sv vs.length vs X
  own : ∀ (j : Nat) (v : Value), vs[j]? = some v → lenV v ≤ 2097152 ∧ ∃ xs, OwnS (fun b => W0.heap.size ≤ b ∧ b ≠ gb ∧ sv.ownBlock ≠ some b) e size v (lenV v) xs X
  apart : Ly.Apart vs
  ge : W0.heap.size ≤ gb
  below : Below W0.heap.size W0 X

variable {B e t : TypeId} {size k gb : Nat} {W0 X X0 Y : World} {sv v : Value} {vs : List Value}
theorem BookW.start (W0 : World) (hY : Y = W0.alloc (.cells (bookC k (.slice none 0 0)) B)) : BookW B e t size k W0 W0.heap.size (.slice none 0 0) [] Y := by
  subst hY
  exact ⟨World.alloc_heap_new W0 _, own_nil _ _ _ _, fun j v h => by simp at h, fun i j u v b _ h => by simp at h, Nat.le_refl _, (Below.refl _ _).alloc (Nat.le_refl _) _⟩
theorem BookW.next (h : BookW B e t size k W0 gb sv vs X) (hb : Below X.heap.size X Y) : BookW B e t size k W0 gb sv vs Y := by
  have hk : Keep (fun _ => False) X Y := Keep.of_all hb
  refine ⟨hk.heap h.book (fun h => h), h.list.keep hk (fun _ h => h.elim), fun j v hj => ?_, h.apart, h.ge, h.below.trans (hb.mono h.below.size)⟩
  obtain ⟨h1, xs, h2⟩ := h.own j v hj
  exact ⟨h1, xs, h2.keep hk (fun _ h => h.elim)⟩
theorem BookW.cell (h : BookW B e t size k W0 gb sv vs X) (hk : k < 24) : X.cell? ⟨gb, k, none⟩ = some sv := by
  rw [Lib.cell_of_heap h.book]
  unfold bookC
  simp [hk]
theorem BookW.cell0 (h : BookW B e t size k W0 gb sv vs X) {i : Nat} (hi : i < 24) (hne : k ≠ i) : X.cell? ⟨gb, i, none⟩ = some (.slice none 0 0) := by
  rw [Lib.cell_of_heap h.book]
  unfold bookC
  rw [List.getElem?_toArray, List.getElem?_set_ne hne, List.getElem?_replicate, if_pos hi]
theorem BookW.handed (h : BookW B e t size k W0 gb sv vs X) (hne : 0 < vs.length) (hfew : vs.length ≤ 2000) : ∃ q cap ex, sv = .slice (some ⟨q, 0, none⟩) vs.length cap ∧ Ly.Handed e t size q ex vs (nsV vs) X ∧ ∀ b, Ly.Xs vs b → b ≠ gb ∧ W0.heap.size ≤ b := by
  rcases h.list.1.2 with ⟨_, h1⟩ | ⟨g, cap, cur, rfl, _, hg, hc, hm, hs, ht⟩
  · omega
  · refine ⟨g, cap, cur.toList.drop (vs.length * 1), rfl, ⟨?_, hfew, fun j v hj => ?_, h.apart⟩, ?_⟩
    · have e1 : vs ++ cur.toList.drop (vs.length * 1) = cur.toList := by
        have := List.take_append_drop (vs.length * 1) cur.toList
        rw [ht] at this
        exact this
      rw [e1]
      exact hg
    · obtain ⟨h1, xs, h2⟩ := h.own j v hj
      rw [nsV_at hj]
      exact ⟨h1, xs, h2.weaken (fun b hb e => hb.2.2 (by rw [e]; rfl))⟩
    · rintro b ⟨v, hv, hb⟩
      obtain ⟨j, hj, rfl⟩ := List.getElem_of_mem hv
      obtain ⟨_, xs, h2⟩ := h.own j _ (List.getElem?_eq_getElem hj)
      have := h2.2 b hb
      exact ⟨this.2.1, this.1⟩
end Go.Kt.Bl
