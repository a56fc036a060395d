/- cells: which bytes lie within a unit; whether an edge lies at a byte; the cells of a text: mathematics. -/
import Derived.Test.YthhepebkfokddaaGreatDoorGz17
import Derived.Test.YthhepebkfokddaaGreatDoorMc
namespace Go.Proofs.YthhepebkfokddaaGreatDoor
open Go Go.RowKit Go.Kt

/-- Whether a byte lies within a unit, behind its first byte. -/
def withP (s : ByteArray) (a : Int) : Bool := decide (1 < (decP s (a - 1)).2) || decide (2 < (decP s (a - 2)).2) || decide (3 < (decP s (a - 3)).2)
/-- Whether an edge lies at a byte. -/
def edgP (S : RdS) (s : ByteArray) (a : Int) : Bool :=
  if s.size = 0 ∨ a < 0 ∨ s.size < a then false else if a = 0 ∨ a = s.size then true else if withP s a then false else edgU (untP S s (a - (befP s a).2)) (untP S s a)

theorem within_back (s : ByteArray) (i k : Nat) (hi : i < s.size) (h1 : 1 ≤ k) (h : (k : Int) < (decP s ((i : Int) - k)).2) : i ∉ PL s := by
  by_cases hk : k ≤ i
  · obtain ⟨p, rfl⟩ : ∃ p, i = p + k := ⟨i - k, by omega⟩
    rw [show ((p + k : Nat) : Int) - k = (p : Int) by omega, decP_in s p (by omega)] at h
    simp only at h
    rcases decode_wide s p (by omega) with ⟨_, h4⟩ | ⟨u, u1, u4, u5, h6, h7⟩
    · rw [h4] at h
      simp only at h
      omega
    · exact no_unit_within s p u (p + k) (by omega) u1 u4 h6 (by omega) (by omega) s.size 0 (Nat.zero_le _)
  · exfalso
    unfold decP at h
    rw [if_neg (by omega)] at h
    simp only at h
    omega
theorem withP_iff (s : ByteArray) (i : Nat) (hi : i < s.size) : withP s i = true ↔ i ∉ PL s := by
  constructor
  · intro h
    unfold withP at h
    simp only [Bool.or_eq_true, decide_eq_true_eq] at h
    rcases h with (h | h) | h
    · exact within_back s i 1 hi (by omega) (by simpa using h)
    · exact within_back s i 2 hi (by omega) (by simpa using h)
    · exact within_back s i 3 hi (by omega) (by simpa using h)
  · intro h
    obtain ⟨n, hn, h1, h2⟩ := unit_of s i hi
    have hne : pos s n ≠ i := fun e => h (e ▸ pos_mem s n hn)
    have hst := pos_step s n hn
    have hsu := pos_succ s n hn
    have hlt := pos_lt s n hn
    have key : ∀ k : Nat, i = pos s n + k → (k : Int) < (decP s ((i : Int) - k)).2 := fun k hk => by
      rw [show (i : Int) - k = (pos s n : Int) by omega, decP_in s _ hlt]
      simp only
      omega
    unfold withP
    simp only [Bool.or_eq_true, decide_eq_true_eq]
    rcases (by omega : i = pos s n + 1 ∨ i = pos s n + 2 ∨ i = pos s n + 3) with e | e | e
    · exact .inl (.inl (by simpa using key 1 e))
    · exact .inl (.inr (by simpa using key 2 e))
    · exact .inr (by simpa using key 3 e)
/-- At a unit's beginning. -/
theorem edgP_unit (S : RdS) (s : ByteArray) (n : Nat) (hn : n + 1 < (units s).length) : edgP S s (pos s (n + 1)) = edgU (untP S s (pos s n)) (untP S s (pos s (n + 1))) := by
  have hlt := pos_lt s (n + 1) hn
  have hst := (pos_step s n (by omega)).1
  have hw : withP s (pos s (n + 1)) = false := by
    have := (withP_iff s (pos s (n + 1)) hlt)
    cases hb : withP s (pos s (n + 1)) with
    | false => rfl
    | true => exact absurd (pos_mem s (n + 1) hn) (this.1 hb)
  have hb := before_unit s (pos s n) (pos_lt s n (by omega)) (pos_mem s n (by omega))
  have hsu := pos_succ s n (by omega)
  unfold edgP
  rw [if_neg (by omega), if_neg (by omega), hw]
  simp only [Bool.false_eq_true, if_false]
  rw [show ((pos s (n + 1) : Nat) : Int) = (pos s n : Int) + (Utf8.decode s (pos s n)).2 by omega, hb]
  simp only
  rw [Int.add_sub_cancel]
/-- Within a unit there is none. -/
theorem edgP_within (S : RdS) (s : ByteArray) (i : Nat) (h0 : 0 < i) (hi : i < s.size) (h : i ∉ PL s) : edgP S s i = false := by
  unfold edgP
  rw [if_neg (by omega), if_neg (by omega), (withP_iff s i hi).2 h]
  rfl
theorem edgP_ends (S : RdS) (s : ByteArray) (a : Int) (h : a = 0 ∨ a = s.size) : edgP S s a = decide (s.size ≠ 0) := by
  unfold edgP
  by_cases hz : s.size = 0
  · rw [if_pos (.inl hz)]; simp [hz]
  · rw [if_neg (by omega), if_pos h]; simp [hz]
theorem edgP_out (S : RdS) (s : ByteArray) (a : Int) (h : a < 0 ∨ s.size < a) : edgP S s a = false := by
  unfold edgP
  rw [if_pos (by omega)]

/-- The cells that are told, where the one under way begins, the unit ahead. -/
def celStep (S : RdS) (s : ByteArray) (z : List (Nat × Nat) × Nat × CU) (p : Nat × Nat) : List (Nat × Nat) × Nat × CU :=
  if 0 < p.1 ∧ edgU z.2.2 (untP S s p.1) = true then (z.1 ++ [(z.2.1, p.1)], p.1, untP S s p.1) else (z.1, z.2.1, untP S s p.1)
def celF (S : RdS) (s : ByteArray) (l : List (Nat × Nat)) : List (Nat × Nat) × Nat × CU := l.foldl (celStep S s) ([], 0, ⟨0, false, false, false, 0⟩)
/-- The cells of a text. -/
def celL (S : RdS) (s : ByteArray) : List (Nat × Nat) := if s.size = 0 then [] else (celF S s (units s)).1 ++ [((celF S s (units s)).2.1, s.size)]
theorem celF_snoc (S : RdS) (s : ByteArray) (l : List (Nat × Nat)) (p : Nat × Nat) : celF S s (l ++ [p]) = celStep S s (celF S s l) p := by simp [celF]
theorem celF_pre (S : RdS) (s : ByteArray) (l r : List (Nat × Nat)) : (celF S s l).1 <+: (celF S s (l ++ r)).1 := by
  induction r generalizing l with
  | nil => rw [List.append_nil]; exact List.prefix_refl _
  | cons p t ih =>
    have h1 : (celF S s l).1 <+: (celF S s (l ++ [p])).1 := by
      rw [celF_snoc]
      unfold celStep
      split
      · exact List.prefix_append _ _
      · exact List.prefix_refl _
    have h2 := ih (l ++ [p])
    rw [List.append_assoc, List.singleton_append] at h2
    exact h1.trans h2
theorem celL_pre (S : RdS) (s : ByteArray) (l : List (Nat × Nat)) (h : l <+: units s) (hs : s.size ≠ 0) : (celF S s l).1 <+: celL S s := by
  obtain ⟨r, hr⟩ := h
  unfold celL
  rw [if_neg hs, ← hr]
  exact (celF_pre S s l r).trans (List.prefix_append _ _)
theorem untP_han (S : RdS) (s : ByteArray) (a : Int) : 0 ≤ (untP S s a).han ∧ (untP S s a).han ≤ 5 := by
  unfold untP
  split
  · exact ⟨by decide, by decide⟩
  · exact hanK_in _
theorem celF_han (S : RdS) (s : ByteArray) (l : List (Nat × Nat)) : 0 ≤ (celF S s l).2.2.han ∧ (celF S s l).2.2.han ≤ 5 := by
  rcases List.eq_nil_or_concat l with rfl | ⟨r, p, rfl⟩
  · exact ⟨Int.le_refl 0, (by decide : (0 : Int) ≤ 5)⟩
  · rw [List.concat_eq_append, celF_snoc]
    unfold celStep
    split
    · exact untP_han S s _
    · exact untP_han S s _
end Go.Proofs.YthhepebkfokddaaGreatDoor
