/- What is the same of any program: a list more in the kit's book, which was made long before: it lies in no block of the book's. -/
import Derived.Test.YtfpfpaaojdodnaaGreatDoorK30
namespace Go.Kt.Bl
open Go Go.RowKit Go.Kt

def Pend (e : TypeId) (size : Nat) (W0 : World) (gb : Nat) (sv : Value) (vs : List Value) (v : Value) (n : Nat) (xs : List Value) (X : World) : Prop :=
  OwnS (fun b => W0.heap.size ≤ b ∧ b ≠ gb ∧ sv.ownBlock ≠ some b ∧ ∀ u ∈ vs, u.ownBlock ≠ some b) e size v n xs X
variable {B e t : TypeId} {size k gb : Nat} {W0 X X0 Y : World} {sv v : Value} {vs xs : List Value} {n : Nat}
theorem Pend.next (h : Pend e size W0 gb sv vs v n xs X) (hb : Below X.heap.size X Y) : Pend e size W0 gb sv vs v n xs Y :=
  OwnS.keep h (Keep.of_all hb) (fun _ h => False.elim h)
theorem BookW.lts (h : BookW B e t size k W0 gb sv vs X) : gb < X.heap.size ∧ (∀ b, sv.ownBlock = some b → b < X.heap.size) ∧ ∀ u ∈ vs, ∀ b, u.ownBlock = some b → b < X.heap.size := by
  refine ⟨(Array.getElem?_eq_some_iff.1 h.book).1, fun b hb => (h.list.1.lt b hb).2, fun u hu b hb => ?_⟩
  obtain ⟨j, hj⟩ := List.getElem?_of_mem hu
  obtain ⟨_, zs, h3⟩ := h.own j u hj
  exact (h3.1.lt b hb).2
theorem BookW.pend (h : BookW B e t size k W0 gb sv vs X) (hz : W0.heap.size ≤ X.heap.size) (hv : OwnS (fun b => X.heap.size ≤ b) e size v n xs Y) : Pend e size W0 gb sv vs v n xs Y := by
  obtain ⟨h1, h2, h3⟩ := h.lts
  refine OwnS.weaken hv (fun b hb => ⟨Nat.le_trans hz hb, fun e => ?_, fun e => ?_, fun u hu e => ?_⟩)
  · omega
  · have := h2 b e; omega
  · have := h3 u hu b e; omega
theorem BookW.put (h : BookW B e t size k W0 gb sv vs X) {g cap : Nat} {ao : Option Addr} {vc : Nat} (hv : Pend e size W0 gb sv vs (.slice ao n vc) n xs X) (hn : n ≤ 2097152) {W2 : World}
    (ho : OwnS (fun b => b = g) t 1 (.slice (some ⟨g, 0, none⟩) (vs.length + 1) cap) (vs.length + 1) (vs ++ [.slice ao n vc]) W2) (hk2 : Keep (fun b => sv.ownBlock = some b) X W2) (hg : sv.ownBlock = some g ∨ X.heap.size < g) :
    BookW B e t size k W0 gb (.slice (some ⟨g, 0, none⟩) (vs.length + 1) cap) (vs ++ [.slice ao n vc]) (W2.setCell ⟨gb, k, none⟩ (.slice (some ⟨g, 0, none⟩) (vs.length + 1) cap)) ∧
    (∀ {u : Value} {m : Nat} {ys : List Value}, Pend e size W0 gb sv vs u m ys X → (∀ b, u.ownBlock = some b → (Value.slice ao n vc).ownBlock ≠ some b) → Pend e size W0 gb (.slice (some ⟨g, 0, none⟩) (vs.length + 1) cap) (vs ++ [.slice ao n vc]) u m ys (W2.setCell ⟨gb, k, none⟩ (.slice (some ⟨g, 0, none⟩) (vs.length + 1) cap))) := by
  obtain ⟨hgl, hsl, hvl⟩ := h.lts
  have hz0 := h.below.size
  have hsg : ∀ b, sv.ownBlock = some b → W0.heap.size ≤ b ∧ b ≠ gb := fun b hb => h.list.2 b hb
  have hgg : g ≠ gb ∧ W0.heap.size ≤ g := by
    rcases hg with hg | hg
    · exact ⟨(hsg g hg).2, (hsg g hg).1⟩
    · exact ⟨by omega, by omega⟩
  have hks : Keep (fun b => b = gb) W2 (W2.setCell ⟨gb, k, none⟩ (.slice (some ⟨g, 0, none⟩) (vs.length + 1) cap)) := Keep.setCell (X := fun b => b = gb) (Keep.refl _ _) (p := ⟨gb, k, none⟩) rfl _
  have hbk2 : W2.heap[gb]? = some (.cells (bookC k sv) B (0, 0)) := hk2.heap h.book (fun hh => (hsg gb hh).2 rfl)
  have hboth : Keep (fun b => sv.ownBlock = some b ∨ b = gb) X (W2.setCell ⟨gb, k, none⟩ (.slice (some ⟨g, 0, none⟩) (vs.length + 1) cap)) := (hk2.weaken fun _ _ h => .inl h).trans (hks.weaken fun _ _ h => .inr h)
  have hnew : ∀ b, b < X.heap.size → sv.ownBlock ≠ some b → (Value.slice (some ⟨g, 0, none⟩) (vs.length + 1) cap).ownBlock ≠ some b := fun b hb hne e => by
    have e : g = b := by simpa [Value.ownBlock] using e
    subst e
    rcases hg with hg | hg
    · exact hne hg
    · omega
  refine ⟨⟨?_, ?_, fun j v hj => ?_, ?_, h.ge, ?_⟩, fun {u} {m} {ys} hu hne => ?_⟩
  · have := heap_setCell_same W2 gb k _ _ (.slice (some ⟨g, 0, none⟩) (vs.length + 1) cap) hbk2
    rw [bookC_set] at this
    exact this
  · have h1 : OwnS (fun b => b = g) t 1 (.slice (some ⟨g, 0, none⟩) (vs.length + 1) cap) (vs.length + 1) (vs ++ [.slice ao n vc]) (W2.setCell ⟨gb, k, none⟩ (.slice (some ⟨g, 0, none⟩) (vs.length + 1) cap)) := ho.keep hks (fun b hb hb2 => hgg.1 (by rw [← hb2, hb]))
    rw [List.length_append]
    exact h1.weaken (fun b hb => by subst hb; exact ⟨hgg.2, hgg.1⟩)
  · rcases Nat.lt_or_ge j vs.length with hjl | hjl
    · rw [List.getElem?_append_left hjl] at hj
      obtain ⟨h1, ys, h2⟩ := h.own j v hj
      refine ⟨h1, ys, ?_⟩
      have h3 := h2.keep hboth (fun b hb hY => by
        rcases hb with hb | hb
        · exact hY.2.2 hb
        · exact hY.2.1 hb)
      exact ⟨h3.1, fun b hb => ⟨(h3.2 b hb).1, (h3.2 b hb).2.1, hnew b (h2.1.lt b hb).2 (h2.2 b hb).2.2⟩⟩
    · rw [List.getElem?_append_right hjl] at hj
      have hj0 : j - vs.length = 0 := by
        rcases Nat.eq_zero_or_pos (j - vs.length) with h | h
        · exact h
        · rw [List.getElem?_eq_none (by simp; omega)] at hj
          cases hj
      rw [hj0] at hj
      obtain rfl : Value.slice ao n vc = v := by simpa using hj
      refine ⟨hn, xs, ?_⟩
      have h3 := OwnS.keep hv hboth (fun b hb hY => by
        rcases hb with hb | hb
        · exact hY.2.2.1 hb
        · exact hY.2.1 hb)
      exact ⟨h3.1, fun b hb => ⟨(h3.2 b hb).1, (h3.2 b hb).2.1, hnew b (hv.1.lt b hb).2 (hv.2 b hb).2.2.1⟩⟩
  · have hat : ∀ (i : Nat) (u : Value), (vs ++ [Value.slice ao n vc])[i]? = some u → vs[i]? = some u ∨ (i = vs.length ∧ u = .slice ao n vc) := fun i u hi => by
      rcases Nat.lt_or_ge i vs.length with hil | hil
      · rw [List.getElem?_append_left hil] at hi
        exact .inl hi
      · rw [List.getElem?_append_right hil] at hi
        rcases Nat.eq_zero_or_pos (i - vs.length) with h | h
        · rw [h] at hi
          exact .inr ⟨by omega, by simpa using hi.symm⟩
        · rw [List.getElem?_eq_none (by simp; omega)] at hi
          cases hi
    intro i j u v b hij hi hj hu hv2
    rcases hat i u hi with hi | ⟨hi, rfl⟩
    · rcases hat j v hj with hj | ⟨hj, rfl⟩
      · exact h.apart i j u v b hij hi hj hu hv2
      · exact (hv.2 b hv2).2.2.2 u (List.mem_of_getElem? hi) hu
    · rcases hat j v hj with hj | ⟨hj, rfl⟩
      · exact (hv.2 b hu).2.2.2 v (List.mem_of_getElem? hj) hv2
      · omega
  · exact h.below.trans (hboth.below h.below.size (fun b hb => by
      rcases hb with hb | hb
      · exact (hsg b hb).1
      · rw [hb]; exact h.ge))
  · have h3 := OwnS.keep hu hboth (fun b hb hY => by
      rcases hb with hb | hb
      · exact hY.2.2.1 hb
      · exact hY.2.1 hb)
    refine ⟨h3.1, fun b hb => ⟨(hu.2 b hb).1, (hu.2 b hb).2.1, hnew b (hu.1.lt b hb).2 (hu.2 b hb).2.2.1, fun w hw => ?_⟩⟩
    rcases List.mem_append.1 hw with hw | hw
    · exact (hu.2 b hb).2.2.2 w hw
    · rw [List.mem_singleton.1 hw]
      exact hne b hb
end Go.Kt.Bl
