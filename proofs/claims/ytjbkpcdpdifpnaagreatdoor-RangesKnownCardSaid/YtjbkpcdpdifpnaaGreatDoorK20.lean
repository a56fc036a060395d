/- What is the same of any program: a book of lists that were handed out (a struct of 24 lists of lists, one of which is filled), and the look at what it holds (K18). -/
import Derived.Test.YtjbkpcdpdifpnaaGreatDoorK18
import Derived.Test.YtjbkpcdpdifpnaaGreatDoorCk1
namespace Go.Kt.Bk
open Go Go.RowKit Go.Kt

def bookC (k : Nat) (sv : Value) : Array Value := ((List.replicate 24 (Value.slice none 0 0)).set k sv).toArray
def lenV : Value → Nat
  | .slice _ n _ => n
  | _ => 0
def nsV (vs : List Value) (j : Nat) : Nat := match vs[j]? with
  | some v => lenV v
  | none => 0
theorem nsV_at {vs : List Value} {j : Nat} {v : Value} (h : vs[j]? = some v) : nsV vs j = lenV v := by unfold nsV; rw [h]
theorem bookC_set (k : Nat) (sv u : Value) : (bookC k sv).setIfInBounds k u = bookC k u := by
  unfold bookC
  rw [List.setIfInBounds_toArray, List.set_set]

structure BookW (B e t : TypeId) (size k : Nat) (W0 : World) (gb : Nat) (sv : Value) (vs : List Value) (X : World) : Prop where
  book : X.heap[gb]? = some (.cells (bookC k sv) B (0, 0))
  list : OwnS (fun b => W0.heap.size ≤ b ∧ b ≠ gb) t 1 sv vs.length vs X
  own : ∀ (j : Nat) (v : Value), vs[j]? = some v → lenV v ≤ 2097152 ∧ ∃ xs, OwnS (fun b => W0.heap.size ≤ b ∧ b ≠ gb ∧ sv.ownBlock ≠ some b) e size v (lenV v) xs X
  apart : Lx.Apart vs
  ge : W0.heap.size ≤ gb
  below : Below W0.heap.size W0 X

variable {B e t : TypeId} {size k gb : Nat} {W0 X X0 Y : World} {sv v : Value} {vs : List Value}
theorem BookW.start (W0 : World) (hY : Y = W0.alloc (.cells (bookC k (.slice none 0 0)) B)) : BookW B e t size k W0 W0.heap.size (.slice none 0 0) [] Y := by
  subst hY
  exact ⟨World.alloc_heap_new W0 _, own_nil _ _ _ _, fun j v h => by simp at h, fun i j u v b _ h => by simp at h, Nat.le_refl _, (Below.refl _ _).alloc (Nat.le_refl _) _⟩
theorem BookW.next (h : BookW B e t size k W0 gb sv vs X) (hb : Below X.heap.size X Y) : BookW B e t size k W0 gb sv vs Y := by
  have hk : Keep (fun _ => False) X Y := Keep.of_all hb
  refine ⟨hk.heap h.book (fun h => h), h.list.keep hk (fun _ h => h.elim), fun j v hj => ?_, h.apart, h.ge, h.below.trans (hb.mono h.below.size)⟩
  obtain ⟨h1, xs, h2⟩ := h.own j v hj
  exact ⟨h1, xs, h2.keep hk (fun _ h => h.elim)⟩
theorem BookW.cell (h : BookW B e t size k W0 gb sv vs X) (hk : k < 24) : X.cell? ⟨gb, k, none⟩ = some sv := by
  rw [Lib.cell_of_heap h.book]
  unfold bookC
  simp [hk]
theorem BookW.cell0 (h : BookW B e t size k W0 gb sv vs X) {i : Nat} (hi : i < 24) (hne : k ≠ i) : X.cell? ⟨gb, i, none⟩ = some (.slice none 0 0) := by
  rw [Lib.cell_of_heap h.book]
  unfold bookC
  rw [List.getElem?_toArray, List.getElem?_set_ne hne, List.getElem?_replicate, if_pos hi]
theorem BookW.add (h0 : BookW B e t size k W0 gb sv vs X0) (hb : Below X0.heap.size X0 X) {n g cap : Nat} {ao : Option Addr} {vc : Nat} {xs : List Value} (hv : OwnS (fun b => X0.heap.size ≤ b) e size (.slice ao n vc) n xs X) (hn : n ≤ 2097152) {W2 : World}
    (ho : OwnS (fun b => b = g) t 1 (.slice (some ⟨g, 0, none⟩) (vs.length + 1) cap) (vs.length + 1) (vs ++ [.slice ao n vc]) W2) (hk2 : Keep (fun b => sv.ownBlock = some b) X W2) (hg : sv.ownBlock = some g ∨ X.heap.size < g) :
    BookW B e t size k W0 gb (.slice (some ⟨g, 0, none⟩) (vs.length + 1) cap) (vs ++ [.slice ao n vc]) (W2.setCell ⟨gb, k, none⟩ (.slice (some ⟨g, 0, none⟩) (vs.length + 1) cap)) := by
  have h := h0.next hb
  have hz0 := h0.below.size
  have hzx := hb.size
  have hgl : gb < X0.heap.size := (Array.getElem?_eq_some_iff.1 h0.book).1
  have hsl : ∀ b, sv.ownBlock = some b → b < X0.heap.size := fun b hb => (h0.list.1.lt b hb).2
  have hsg : ∀ b, sv.ownBlock = some b → W0.heap.size ≤ b ∧ b ≠ gb := fun b hb => h0.list.2 b hb
  have hgg : g ≠ gb ∧ W0.heap.size ≤ g := by
    rcases hg with hg | hg
    · exact ⟨(hsg g hg).2, (hsg g hg).1⟩
    · exact ⟨by omega, by omega⟩
  have hks : Keep (fun b => b = gb) W2 (W2.setCell ⟨gb, k, none⟩ (.slice (some ⟨g, 0, none⟩) (vs.length + 1) cap)) := Keep.setCell (X := fun b => b = gb) (Keep.refl _ _) (p := ⟨gb, k, none⟩) rfl _
  have hbk2 : W2.heap[gb]? = some (.cells (bookC k sv) B (0, 0)) := hk2.heap h.book (fun hh => (hsg gb hh).2 rfl)
  have hboth : Keep (fun b => sv.ownBlock = some b ∨ b = gb) X (W2.setCell ⟨gb, k, none⟩ (.slice (some ⟨g, 0, none⟩) (vs.length + 1) cap)) := (hk2.weaken fun _ _ h => .inl h).trans (hks.weaken fun _ _ h => .inr h)
  refine ⟨?_, ?_, fun j v hj => ?_, ?_, h0.ge, ?_⟩
  · have := heap_setCell_same W2 gb k _ _ (.slice (some ⟨g, 0, none⟩) (vs.length + 1) cap) hbk2
    rw [bookC_set] at this
    exact this
  · have h1 : OwnS (fun b => b = g) t 1 (.slice (some ⟨g, 0, none⟩) (vs.length + 1) cap) (vs.length + 1) (vs ++ [.slice ao n vc]) (W2.setCell ⟨gb, k, none⟩ (.slice (some ⟨g, 0, none⟩) (vs.length + 1) cap)) := ho.keep hks (fun b hb hb2 => hgg.1 (by rw [← hb2, hb]))
    rw [List.length_append]
    exact h1.weaken (fun b hb => by subst hb; exact ⟨hgg.2, hgg.1⟩)
  · rcases Nat.lt_or_ge j vs.length with hjl | hjl
    · rw [List.getElem?_append_left hjl] at hj
      obtain ⟨h1, ys, h2⟩ := h.own j v hj
      refine ⟨h1, ys, ?_⟩
      have hlt : ∀ b, v.ownBlock = some b → b < X0.heap.size := fun b hb => by
        obtain ⟨_, zs, h3⟩ := h0.own j v hj
        exact (h3.1.lt b hb).2
      have h3 := h2.keep hboth (fun b hb hY => by
        rcases hb with hb | hb
        · exact hY.2.2 hb
        · exact hY.2.1 hb)
      refine ⟨h3.1, fun b hb => ⟨(h3.2 b hb).1, (h3.2 b hb).2.1, fun e => ?_⟩⟩
      have e : g = b := by simpa [Value.ownBlock] using e
      subst e
      rcases hg with hg | hg
      · exact (h2.2 g hb).2.2 hg
      · have := hlt g hb
        omega
    · rw [List.getElem?_append_right hjl] at hj
      have hj0 : j - vs.length = 0 := by
        rcases Nat.eq_zero_or_pos (j - vs.length) with h | h
        · exact h
        · rw [List.getElem?_eq_none (by simp; omega)] at hj
          cases hj
      rw [hj0] at hj
      obtain rfl : Value.slice ao n vc = v := by simpa using hj
      refine ⟨hn, xs, ?_⟩
      have h3 := hv.keep hboth (fun b hb hY => by
        rcases hb with hb | hb
        · have h5 := hsl b hb
          have h6 : X0.heap.size ≤ b := hY
          omega
        · have h6 : X0.heap.size ≤ b := hY
          omega)
      refine ⟨h3.1, fun b hb => ?_⟩
      have h5 : X0.heap.size ≤ b := hv.2 b hb
      have h6 := (hv.1.lt b hb).2
      refine ⟨by omega, by omega, fun e => ?_⟩
      have e : g = b := by simpa [Value.ownBlock] using e
      subst e
      rcases hg with hg | hg
      · have := hsl g hg
        omega
      · omega
  · have hlt : ∀ (i : Nat) (u : Value) (b : Nat), vs[i]? = some u → u.ownBlock = some b → b < X0.heap.size := fun i u b hi hb => by
      obtain ⟨_, zs, h3⟩ := h0.own i u hi
      exact (h3.1.lt b hb).2
    have hge : ∀ b, (Value.slice ao n vc).ownBlock = some b → X0.heap.size ≤ b := fun b hb => hv.2 b hb
    have hat : ∀ (i : Nat) (u : Value), (vs ++ [Value.slice ao n vc])[i]? = some u → vs[i]? = some u ∨ (i = vs.length ∧ u = .slice ao n vc) := fun i u hi => by
      rcases Nat.lt_or_ge i vs.length with hil | hil
      · rw [List.getElem?_append_left hil] at hi
        exact .inl hi
      · rw [List.getElem?_append_right hil] at hi
        rcases Nat.eq_zero_or_pos (i - vs.length) with h | h
        · rw [h] at hi
          exact .inr ⟨by omega, by simpa using hi.symm⟩
        · rw [List.getElem?_eq_none (by simp; omega)] at hi
          cases hi
    intro i j u v b hij hi hj hu hv2
    rcases hat i u hi with hi | ⟨hi, rfl⟩
    · rcases hat j v hj with hj | ⟨hj, rfl⟩
      · exact h0.apart i j u v b hij hi hj hu hv2
      · have := hlt i u b hi hu
        have := hge b hv2
        omega
    · rcases hat j v hj with hj | ⟨hj, rfl⟩
      · have := hlt j v b hj hv2
        have := hge b hu
        omega
      · omega
  · exact h.below.trans (hboth.below h.below.size (fun b hb => by
      rcases hb with hb | hb
      · exact (hsg b hb).1
      · rw [hb]; exact h0.ge))
theorem BookW.handed (h : BookW B e t size k W0 gb sv vs X) (hne : 0 < vs.length) (hfew : vs.length ≤ 1000) : ∃ q cap ex, sv = .slice (some ⟨q, 0, none⟩) vs.length cap ∧ Lx.Handed e t size q ex vs (nsV vs) X ∧ ∀ b, Lx.Xs vs b → b ≠ gb ∧ W0.heap.size ≤ b := by
  rcases h.list.1.2 with ⟨_, h1⟩ | ⟨g, cap, cur, rfl, _, hg, hc, hm, hs, ht⟩
  · omega
  · refine ⟨g, cap, cur.toList.drop (vs.length * 1), rfl, ⟨?_, hfew, fun j v hj => ?_, h.apart⟩, ?_⟩
    · have e1 : vs ++ cur.toList.drop (vs.length * 1) = cur.toList := by
        have := List.take_append_drop (vs.length * 1) cur.toList
        rw [ht] at this
        exact this
      rw [e1]
      exact hg
    · obtain ⟨h1, xs, h2⟩ := h.own j v hj
      rw [nsV_at hj]
      exact ⟨h1, xs, h2.weaken (fun b hb e => hb.2.2 (by rw [e]; rfl))⟩
    · rintro b ⟨v, hv, hb⟩
      obtain ⟨j, hj, rfl⟩ := List.getElem_of_mem hv
      obtain ⟨_, xs, h2⟩ := h.own j _ (List.getElem?_eq_getElem hj)
      have := h2.2 b hb
      exact ⟨this.2.1, this.1⟩
end Go.Kt.Bk
