/- The document's reading of a point: what its loops keep (mathematics, for its walk). -/
import Derived.Test.YtjbkpcdpdifpnaaGreatDoorCk9
namespace Go.Proofs.YtjbkpcdpdifpnaaGreatDoor
open Go Go.RowKit Go.Kt Go.Kt.Rg

def rdO (s : ByteArray) (p : Nat) : Int × Int := if (rdV (s.data.toList.drop p)).1 < 0 then (-1, 0) else ((rdV (s.data.toList.drop p)).1, (p : Int) + (rdV (s.data.toList.drop p)).2)
theorem rdO_none {s : ByteArray} {p : Nat} (h : rdV (s.data.toList.drop p) = (-1, 0)) : rdO s p = (-1, 0) := by
  unfold rdO
  rw [h]; rfl
theorem rdO_some {s : ByteArray} {p k : Nat} {n : Int} (h : rdV (s.data.toList.drop p) = (n, k)) (h0 : 0 ≤ n) : rdO s p = (n, (p : Int) + k) := by
  unfold rdO
  rw [h]
  simp only
  rw [if_neg (by omega)]
def rdX (L : List UInt8) (e : Nat) : Prop := 4 ≤ e → ∀ c d t, L = 92 :: 120 :: c :: d :: t → ¬ (8 ≤ valB c ∧ 0 ≤ valB d)
def rdU (L : List UInt8) (e : Nat) : Prop := L.take 3 = [92, 117, 123] → ∀ j, 4 ≤ j → j < e → L[j]? ≠ some 125
theorem rd_end {L : List UInt8} {e : Nat} (h : e = 10 ∨ e = L.length) (he : e ≤ 10) (hx : rdX L e) (hu : rdU L e) : rdV L = (-1, 0) := by
  refine rd_no (fun c d t hl => ?_) (fun h3 j h4 h10 => ?_)
  · refine hx ?_ c d t hl
    rcases h with h | h
    · omega
    · rw [hl] at h; simp at h; omega
  · by_cases hj : j < e
    · exact hu h3 j h4 hj
    · rcases h with h | h
      · omega
      · rw [List.getElem?_eq_none (by omega)]
        intro hc
        cases hc
theorem rdX_next {L : List UInt8} {e : Nat} (hx : rdX L e) (h : e + 1 = 4 → rdX L 4) : rdX L (e + 1) := fun h4 => by
  by_cases he : e + 1 = 4
  · exact h he (Nat.le_refl _)
  · exact hx (by omega)
theorem rdU_next {L : List UInt8} {e : Nat} (hu : rdU L e) (h : 4 ≤ e → L.take 3 = [92, 117, 123] → L[e]? ≠ some 125) : rdU L (e + 1) := fun h3 j h4 hj => by
  by_cases he : j = e
  · subst he; exact h h4 h3
  · exact hu h3 j h4 (by omega)
theorem rdX_no {L : List UInt8} (h : L.take 2 ≠ [92, 120]) (e : Nat) : rdX L e := fun _ c d t hl => absurd (by rw [hl]; rfl) h
theorem rdX_at {L : List UInt8} {c d : UInt8} (h2 : L[2]? = some c) (h3 : L[3]? = some d) (h : ¬ (8 ≤ valB c ∧ 0 ≤ valB d)) (e : Nat) : rdX L e := fun _ c' d' t hl => by
  rw [hl] at h2 h3
  simp at h2 h3
  rw [h2, h3]
  exact h
def dgs (L : List UInt8) (k : Nat) : List UInt8 := (L.take (3 + k)).drop 3
theorem dgs_zero (L : List UInt8) : dgs L 0 = [] := by
  unfold dgs
  rw [List.drop_eq_nil_iff, List.length_take]
  omega
theorem dgs_step {L : List UInt8} {k : Nat} {c : UInt8} (h : L[3 + k]? = some c) : dgs L (k + 1) = dgs L k ++ [c] := by
  have hlt : 3 + k < L.length := (List.getElem?_eq_some_iff.1 h).1
  unfold dgs
  rw [show 3 + (k + 1) = 3 + k + 1 by omega, List.take_add_one, h, Option.toList_some, List.drop_append_of_le_length (by rw [List.length_take]; omega)]
def DgS (L : List UInt8) (k : Nat) (x : Int) : Prop := x = sumF 0 (dgs L k) ∧ 0 ≤ x ∧ x < 16 ^ k ∧ ∀ c ∈ dgs L k, 0 ≤ valB c
theorem DgS.zero (L : List UInt8) : DgS L 0 0 := ⟨by rw [dgs_zero]; rfl, by omega, by decide, by rw [dgs_zero]; intro c hc; cases hc⟩
theorem DgS.step {L : List UInt8} {k : Nat} {x : Int} {c : UInt8} (h : DgS L k x) (hc : L[3 + k]? = some c) (h0 : 0 ≤ valB c) : DgS L (k + 1) (16 * x + valB c) := by
  obtain ⟨h1, h2, h3, h4⟩ := h
  have hb := (valB_back h0).2
  refine ⟨?_, by omega, ?_, fun d hd => ?_⟩
  · rw [dgs_step hc, sumF_append, ← h1]; rfl
  · rw [Int.pow_succ]; omega
  · rw [dgs_step hc] at hd
    rcases List.mem_append.1 hd with hd | hd
    · exact h4 d hd
    · rw [List.mem_singleton] at hd
      rw [hd]; exact h0
theorem DgS.bd {L : List UInt8} {k : Nat} {x : Int} (h : DgS L k x) (hk : k ≤ 6) : 0 ≤ x ∧ x < 16777216 := by
  have h2 : (16 : Nat) ^ k ≤ 16 ^ 6 := Nat.pow_le_pow_right (by decide) hk
  have h3 : ((16 ^ k : Nat) : Int) = (16 : Int) ^ k := by rw [Int.natCast_pow]; rfl
  have := h.2.2.1
  exact ⟨h.2.1, by omega⟩
theorem rd_digit {L : List UInt8} {e k : Nat} {c : UInt8} (h5 : 5 ≤ e) (h3 : L.take 3 = [92, 117, 123]) (hc : L[e - 1]? = some 125) (hu : rdU L (e - 1)) (hk : 3 + k < e - 1) (h : L[3 + k]? = some c) (hv : valB c < 0) : rdV L = (-1, 0) := by
  refine rd_bad h5 h3 hc (fun j h4 hj => hu h3 j h4 (by omega)) (.inl ⟨c, ?_, hv⟩)
  rw [List.mem_iff_getElem?]
  refine ⟨k, ?_⟩
  rw [List.getElem?_drop, List.getElem?_take_of_lt hk, h]
theorem rd_sum {L : List UInt8} {e k : Nat} {x : Int} (h5 : 5 ≤ e) (h3 : L.take 3 = [92, 117, 123]) (hc : L[e - 1]? = some 125) (hu : rdU L (e - 1)) (hk : 3 + k = e - 1) (h : DgS L k x) (hl : e ≤ L.length) :
    ((1114111 < x ∨ dNum x < 0 ∨ dOne x ≠ L.take e) → rdV L = (-1, 0)) ∧ (¬ 1114111 < x → 0 ≤ dNum x → dOne x = L.take e → rdV L = (dNum x, e)) := by
  have hd : (L.take (e - 1)).drop 3 = dgs L k := by unfold dgs; rw [hk]
  refine ⟨fun hb => rd_bad h5 h3 hc (fun j h4 hj => hu h3 j h4 (by omega)) (.inr ?_), fun _ h2 h4 => rd_u hl h4.symm h2⟩
  rw [hd, ← h.1]
  exact hb
end Go.Proofs.YtjbkpcdpdifpnaaGreatDoor
