/- cells: edges by properties that say nothing: mathematics. -/
import Derived.Test.YthhepebkfokddaaGreatDoorIh
namespace Go.Proofs.YthhepebkfokddaaGreatDoor
open Go Go.RowKit Go.Kt Go.Kt.Rg Go.Maps

theorem lastV_mem : ∀ (l : List Rw3) (e : Nat) (v : Int), lastV l e = some v → ∃ x, x ∈ l ∧ x.2.2 = v
  | [], _, _, h => by cases h
  | x :: t, e, v, h => by
    unfold lastV at h
    split at h
    · rename_i u hu
      cases h
      obtain ⟨y, h1, h2⟩ := lastV_mem t e _ hu
      exact ⟨y, List.mem_cons_of_mem _ h1, h2⟩
    · split at h
      · cases h
        exact ⟨x, List.mem_cons_self .., rfl⟩
      · cases h
theorem cls_plain (r : Int) : clsV rd0 r = 0 := by
  unfold clsV
  split
  · rfl
  · cases h : lastV (rd0.cs ++ hanR ++ noR) r.toNat with
    | none => rfl
    | some v =>
      obtain ⟨x, h1, h2⟩ := lastV_mem _ _ _ h
      have : ∀ x, x ∈ (rd0.cs ++ hanR ++ noR : List Rw3) → x.2.2 = 0 := by decide
      rw [this x h1] at h2
      exact h2.symm
theorem knd_plain (r : Int) : kndV rd0 r = 0 ∨ kndV rd0 r = 1 := by
  unfold kndV
  split
  · exact .inl rfl
  · cases h : lastV (sylR ++ rd0.ks ++ noR) r.toNat with
    | none => exact .inl rfl
    | some v =>
      obtain ⟨x, h1, h2⟩ := lastV_mem _ _ _ h
      have : ∀ x, x ∈ (sylR ++ rd0.ks ++ noR : List Rw3) → x.2.2 = 0 ∨ x.2.2 = 1 := by decide
      have := this x h1
      rw [h2] at this
      exact this
theorem unt_num (S : RdS) (s : ByteArray) (a : Int) : (untP S s a).num = (decP s a).1 := by
  unfold untP
  split
  · rename_i h; exact h.1.symm
  · rfl
theorem unt_plain (s : ByteArray) (a : Int) : (untP rd0 s a).hangs = false ∧ (untP rd0 s a).holds = false ∧ ((untP rd0 s a).apart = true ∨ (untP rd0 s a).han = hanK (decP s a).1) := by
  unfold untP
  split
  · exact ⟨rfl, rfl, .inl rfl⟩
  · have h1 := cls_plain (decP s a).1
    have h2 : decide (kndV rd0 (decP s a).1 = 3) = false ∧ decide (kndV rd0 (decP s a).1 = 6) = false := by
      rcases knd_plain (decP s a).1 with h | h <;> rw [h] <;> exact ⟨rfl, rfl⟩
    simp only [h1, h2.1, h2.2]
    exact ⟨rfl, trivial, .inr trivial⟩
theorem oneS_zero (x : Int) : oneS x 0 = false := by
  unfold oneS
  split
  · rfl
  · split
    · rfl
    · split <;> rfl
theorem han_none (r : Int) (h : ¬ (4352 ≤ r ∧ r ≤ 4607 ∨ 44032 ≤ r ∧ r ≤ 55203)) : hanK r = 0 := by
  unfold hanK
  rw [if_neg (by omega), if_neg (by omega), if_neg (by omega), if_pos (by omega)]
theorem edge_plain (s : ByteArray) (n : Nat) (hn : n + 1 < (units s).length) (hh : ¬ (4352 ≤ ((Utf8.decode s (pos s (n + 1))).1 : Int) ∧ ((Utf8.decode s (pos s (n + 1))).1 : Int) ≤ 4607 ∨ 44032 ≤ ((Utf8.decode s (pos s (n + 1))).1 : Int) ∧ ((Utf8.decode s (pos s (n + 1))).1 : Int) ≤ 55203))
    (hc : ¬ (((Utf8.decode s (pos s n)).1 : Int) = 13 ∧ ((Utf8.decode s (pos s (n + 1))).1 : Int) = 10)) : edgP rd0 s (pos s (n + 1)) = true := by
  have d0 := decP_in s _ (pos_lt s n (by omega))
  have d1 := decP_in s _ (pos_lt s (n + 1) hn)
  rw [edgP_unit rd0 s n hn]
  obtain ⟨_, a2, _⟩ := unt_plain s (pos s n)
  obtain ⟨b1, _, b3⟩ := unt_plain s (pos s (n + 1))
  have e0 := unt_num rd0 s (pos s n)
  have e1 := unt_num rd0 s (pos s (n + 1))
  rw [d0] at e0
  rw [d1] at e1 b3
  simp only at e0 e1 b3
  unfold edgU
  rw [e0, e1, if_neg hc]
  split
  · rfl
  · rename_i hap
    rw [b1, a2]
    rcases b3 with h | h
    · rw [h] at hap; simp at hap
    · rw [h, han_none _ hh, oneS_zero]
      rfl
end Go.Proofs.YthhepebkfokddaaGreatDoor
