/- props: PropsPairs: the walk. -/
import Derived.Test.YtfpfpaaojdodnaaGreatDoorUv
import Derived.Test.YtfpfpaaojdodnaaGreatDoorGz19
import Derived.Deep.RegionWith
namespace Go.Proofs.YtfpfpaaojdodnaaGreatDoor
open Go Go.RowKit Go.Kt Go.Kt.Rg Go.Maps

def SlA (W : World) (v : Value) (l : List Int) : Prop :=
  ∃ ao cap, v = .slice ao l.length cap ∧ (l = [] ∨ ∃ a : Addr, ao = some a ∧ ∀ i x, l[i]? = some x → W.cell? (a.add i) = some (.int .i32 x))
theorem SlA.below {A B : World} {v : Value} {l : List Int} (h : SlA A v l) (hb : Below A.heap.size A B) : SlA B v l := by
  obtain ⟨ao, cap, rfl, h⟩ := h
  refine ⟨ao, cap, rfl, ?_⟩
  rcases h with h | ⟨a, rfl, h⟩
  · exact .inl h
  · exact .inr ⟨a, rfl, fun i x hx => (hb.cell (lt_of_cell (h i x hx))).trans (h i x hx)⟩
theorem own_sl {Y : Nat → Prop} {v : Value} {l : List Int} {w : World} (ho : OwnS Y 21 1 v l.length (encZ l) w) : Sl .i32 w v l := by
  rcases ho.shape with ⟨hv, h0⟩ | ⟨gb, cap, hv, hg, hgl⟩
  · exact ⟨none, 0, by rw [hv, h0], .inl (List.length_eq_zero_iff.1 h0)⟩
  · subst hv
    refine ⟨_, cap, rfl, .inr ⟨gb, 0, rfl, fun i x hx => ?_⟩⟩
    rw [Nat.zero_add]
    refine ho.at0 (i := i) ?_
    simp [encZ, List.getElem?_map, hx]

theorem dcp_i32 {k : Nat} {S : RdS} (hS : RdOk k S) {r : Int} {p q : Nat} (h : dcpV S r = [p, q]) : I32 (p : Int) ∧ I32 (q : Int) := by
  by_cases hs : 44032 ≤ r ∧ r ≤ 55203
  · rw [dcp_syl hs.1 hs.2] at h
    by_cases h28 : (r - 44032).toNat % 28 = 0
    · rw [parts_two _ h28] at h
      simp only [List.cons.injEq, and_true] at h
      obtain ⟨rfl, rfl⟩ := h
      exact ⟨⟨by omega, by omega⟩, ⟨by omega, by omega⟩⟩
    · rw [parts_three _ h28] at h
      simp at h
  · rw [dcp_no (by omega)] at h
    unfold atZ at h
    by_cases h0 : 0 ≤ r
    · rw [if_pos h0] at h
      cases hd : S.ds r.toNat with
      | none => rw [hd] at h; cases h
      | some l =>
        rw [hd] at h
        simp only [Option.getD_some] at h
        subst h
        have h9 := (hS.ds _ _ hd).2.2
        have a1 := valid_le (h9 p (by simp))
        have a2 := valid_le (h9 q (by simp))
        exact ⟨⟨by omega, by omega⟩, ⟨by omega, by omega⟩⟩
    · rw [if_neg h0] at h
      cases h

theorem dcp_len {k : Nat} {S : RdS} (hS : RdOk k S) (r : Int) : (dcpV S r).length ≤ 1048576 := by
  by_cases hs : 44032 ≤ r ∧ r ≤ 55203
  · rw [dcp_syl hs.1 hs.2]
    unfold partsP
    split <;> simp
  · rw [dcp_no (by omega)]
    unfold atZ
    split
    · cases hd : S.ds r.toNat with
      | none => simp
      | some l =>
        have := (hS.ds _ _ hd).2.1
        simp only [Option.getD_some]
        omega
    · simp
end Go.Proofs.YtfpfpaaojdodnaaGreatDoor
