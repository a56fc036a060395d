/- The kit's look at lists of numbers that were handed out: have they memory of their own? What its loops keep. -/
import Derived.Test.YtbnnhbmnddaafaaGreatDoorDa
import Derived.Test.YtbnnhbmnddaafaaGreatDoorGz2
import Derived.Test.YtbnnhbmnddaafaaGreatDoorGz4
import Derived.Laws.OwnMore
namespace Go.Proofs.YtbnnhbmnddaafaaGreatDoor
open Go Go.RowKit Go.Kt Go.Shelf

def mk (k i : Nat) : Int := -1000 * ((k : Int) + 1) - i
def mkL (k n : Nat) : List Int := (List.range n).map fun i : Nat => mk k i
theorem mkL_succ (k n : Nat) : mkL k (n + 1) = mkL k n ++ [mk k n] := by simp [mkL, List.range_succ]
theorem mkL_get (k n i : Nat) (h : i < n) : (i32s (mkL k n))[i]? = some (.int .i32 (mk k i)) := by simp [mkL, h]

variable (q : Nat) (vs : List Value) (ns : Nat → Nat)

def Xs (b : Nat) : Prop := ∃ v ∈ vs, v.ownBlock = some b

structure Apart : Prop where
  two : ∀ (i j : Nat) (u v : Value) (b : Nat), i ≠ j → vs[i]? = some u → vs[j]? = some v → u.ownBlock = some b → v.ownBlock ≠ some b

def Mk (w : World) (k i : Nat) (W : World) : Prop :=
  W.heap[q]? = some (.cells vs.toArray 90 (0, 0)) ∧ Keep (Xs vs) w W ∧ W.heap.size = w.heap.size ∧
  ∀ j v, vs[j]? = some v → ∃ xs, OwnS (fun b => b ≠ q) 21 1 v (ns j) xs W ∧ (j < k → xs = i32s (mkL j (ns j))) ∧ (j = k → xs.take i = i32s (mkL k i))

variable {q vs ns}
theorem Mk.start {w W : World} {k i : Nat} (h : Mk q vs ns w k i W) (hi : i = ns k) : Mk q vs ns w (k + 1) 0 W := by
  obtain ⟨h1, h2, h2', h3⟩ := h
  refine ⟨h1, h2, h2', fun j v hv => ?_⟩
  obtain ⟨xs, ho, ha, hb⟩ := h3 j v hv
  refine ⟨xs, ho, fun hj => ?_, fun _ => by simp [mkL]⟩
  rcases Nat.lt_or_ge j k with h | h
  · exact ha h
  · obtain rfl : j = k := by omega
    have := hb rfl
    rw [hi, List.take_of_length_le (by have := ho.1.1; omega)] at this
    exact this
theorem Mk.store {w W : World} {k i g cap : Nat} (h : Mk q vs ns w k i W) (ha : Apart vs) (hv : vs[k]? = some (.slice (some ⟨g, 0, none⟩) (ns k) cap)) (hi : i < ns k) :
    Mk q vs ns w k (i + 1) (W.drew.setCell ⟨g, i, none⟩ (.int .i32 (mk k i))) := by
  obtain ⟨h1, h2, h2', h3⟩ := h
  obtain ⟨xs, ho, ha1, hb1⟩ := h3 k _ hv
  have hgq : g ≠ q := ho.2 g rfl
  have hk : Keep (fun b => b = g) W (W.drew.setCell ⟨g, i, none⟩ (.int .i32 (mk k i))) := ((Keep.refl (fun b => b = g) W).drew).setCell (p := ⟨g, i, none⟩) rfl _
  refine ⟨hk.heap h1 (fun e => hgq e.symm), h2.trans (hk.weaken fun b _ e => ⟨_, List.mem_of_getElem? hv, by subst e; rfl⟩), by simpa using h2', fun j v hj => ?_⟩
  by_cases hjk : j = k
  · subst hjk
    rw [hv] at hj
    have hj := Option.some.inj hj
    subst hj
    have hd : OwnS (fun b => b ≠ q) 21 1 (.slice (some ⟨g, 0, none⟩) (ns j) cap) (ns j) xs W.drew := ho.keep (X := fun _ => False) ((Keep.refl _ _).drew) (fun _ h => h.elim)
    have hs := (hd.1.stored i (.int .i32 (mk j i))).1
    refine ⟨xs.set i (.int .i32 (mk j i)), ⟨hs, hd.2⟩, fun h => by omega, fun _ => ?_⟩
    have hl : i < xs.length := by have := ho.1.1; omega
    rw [List.take_add_one, List.getElem?_set_self hl, List.take_set_of_le (by omega), hb1 rfl, mkL_succ]
    simp [i32s]
  · obtain ⟨ys, hoj, haj, hbj⟩ := h3 j v hj
    have hs : OwnS (fun b => v.ownBlock = some b) 21 1 v (ns j) ys W := ⟨hoj.1, fun g hg => hg⟩
    have hs2 := hs.keep hk (fun b hb hy => ha.two k j _ _ g (fun e => hjk e.symm) hv hj rfl (by rw [hy, hb]))
    exact ⟨ys, ⟨hs2.1, hoj.2⟩, haj, fun e => absurd e hjk⟩
end Go.Proofs.YtbnnhbmnddaafaaGreatDoor
