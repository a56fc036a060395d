/- Which bytes of a text begin a unit, and of what kind; where the n-th unit begins: the mathematics. -/
import Derived.Test.YthhepebkfokddaaGreatDoorGz14
import Derived.Test.YthhepebkfokddaaGreatDoorCr
namespace Go.Proofs.YthhepebkfokddaaGreatDoor
open Go Go.RowKit Go.Kt Go.Kt.Bits

/-- The bytes at which units begin, rising. -/
def PL (s : ByteArray) : List Nat := placesF s s.size 0
theorem PL_units (s : ByteArray) : PL s = (units s).map (·.1) := rfl
theorem PL_len (s : ByteArray) : (PL s).length = (units s).length := by simp [PL_units]
theorem placesF_rise (s : ByteArray) : ∀ f i, (placesF s f i).Pairwise (· < ·)
  | 0, i => by simp [placesF, unitsF]
  | f + 1, i => by
    by_cases h : i < s.size
    · rw [placesF_in s f i h]
      obtain ⟨d1, _, _⟩ := dec_width s i h
      refine List.pairwise_cons.2 ⟨fun x hx => ?_, placesF_rise s f _⟩
      have := placesF_ge s f _ x hx
      omega
    · rw [placesF_end s (f + 1) i (by omega)]; exact List.Pairwise.nil
theorem PL_rise (s : ByteArray) : (PL s).Pairwise (· < ·) := placesF_rise s _ _
theorem PL_lt (s : ByteArray) (x : Nat) (h : x ∈ PL s) : x < s.size := by
  obtain ⟨p, hp, rfl⟩ := List.mem_map.1 h
  exact (units_dec s s.size 0 p hp).2
/-- The kinds that are counted: units; units of two pairs; units that end a line. -/
def kindB (k r : Nat) : Bool := if k = 0 then true else if k = 1 then decide (65535 < r) else decide (r = 10)
def isK (s : ByteArray) (k x : Nat) : Bool := decide (x ∈ PL s) && kindB k (Utf8.decode s x).1
def kl (s : ByteArray) (k : Nat) : List Nat := (PL s).filter fun x => kindB k (Utf8.decode s x).1
theorem isK_kl (s : ByteArray) (k x : Nat) : isK s k x = decide (x ∈ kl s k) := by
  unfold isK kl; rw [Bool.eq_iff_iff]; simp [List.mem_filter]
theorem kl_rise (s : ByteArray) (k : Nat) : (kl s k).Pairwise (· < ·) := (PL_rise s).sublist List.filter_sublist
theorem kl_lt (s : ByteArray) (k x : Nat) (h : x ∈ kl s k) : x < s.size := PL_lt s x (List.mem_filter.1 h).1
theorem kl_zero (s : ByteArray) : kl s 0 = PL s := by unfold kl; rw [List.filter_eq_self]; intro a _; rfl
theorem isK_lt (s : ByteArray) (k x : Nat) (h : isK s k x = true) : x < s.size := by
  rw [isK_kl] at h; exact kl_lt s k x (by simpa using h)
theorem cnt_top (s : ByteArray) (k n : Nat) (h : s.size ≤ n) : cnt (isK s k) n = (kl s k).length :=
  cnt_all (kl s k) (kl_rise s k) _ (isK_kl s k) n (fun x hx => by have := kl_lt s k x hx; omega)
/-- The same of some units. -/
def isP (k : Nat) (pre : List (Nat × Nat)) (x : Nat) : Bool := pre.any fun u => kindB k u.2 && decide (u.1 = x)
theorem isP_snoc (k : Nat) (pre : List (Nat × Nat)) (u : Nat × Nat) (x : Nat) : isP k (pre ++ [u]) x = (isP k pre x || (kindB k u.2 && decide (u.1 = x))) := by simp [isP]
theorem isP_units (s : ByteArray) (k x : Nat) : isP k (units s) x = isK s k x := by
  rw [Bool.eq_iff_iff]
  unfold isP isK
  simp only [List.any_eq_true, Bool.and_eq_true, decide_eq_true_eq]
  constructor
  · rintro ⟨u, hu, hk, rfl⟩
    exact ⟨List.mem_map.2 ⟨u, hu, rfl⟩, by rw [← (units_dec s s.size 0 u hu).1]; exact hk⟩
  · rintro ⟨hx, hk⟩
    obtain ⟨u, hu, rfl⟩ := List.mem_map.1 hx
    exact ⟨u, hu, by rw [(units_dec s s.size 0 u hu).1]; exact hk, rfl⟩
/-- Where the n-th unit begins (the text's end, if there is none). -/
def pos (s : ByteArray) (n : Nat) : Nat := (PL s).getD n s.size
theorem pos_in (s : ByteArray) (n : Nat) (h : n < (units s).length) : ∃ hn : n < (PL s).length, pos s n = (PL s)[n] := by
  have hn : n < (PL s).length := by rw [PL_len]; exact h
  exact ⟨hn, by unfold pos; rw [List.getD_eq_getElem?_getD, List.getElem?_eq_getElem hn]; rfl⟩
theorem pos_end (s : ByteArray) (n : Nat) (h : (units s).length ≤ n) : pos s n = s.size := by
  unfold pos; rw [List.getD_eq_getElem?_getD, List.getElem?_eq_none (by rw [PL_len]; exact h)]; rfl
theorem placesF_getD0 (s : ByteArray) (f i : Nat) (hi : i ≤ s.size) (hf : s.size ≤ f + i) : (placesF s f i).getD 0 s.size = i := by
  by_cases h : i < s.size
  · obtain ⟨f', rfl⟩ : ∃ f', f = f' + 1 := ⟨f - 1, by omega⟩
    rw [placesF_in s f' i h]; rfl
  · rw [placesF_end s f i (by omega)]; simp; omega
theorem placesF_succ (s : ByteArray) : ∀ n f i, i ≤ s.size → s.size ≤ f + i → n < (placesF s f i).length →
    (placesF s f i).getD (n + 1) s.size = (placesF s f i).getD n s.size + (Utf8.decode s ((placesF s f i).getD n s.size)).2
  | n, f, i, hi, hf, hn => by
    by_cases h : i < s.size
    · obtain ⟨f', rfl⟩ : ∃ f', f = f' + 1 := ⟨f - 1, by omega⟩
      obtain ⟨d1, _, d3⟩ := dec_width s i h
      rw [placesF_in s f' i h] at hn ⊢
      cases n with
      | zero =>
        rw [List.getD_cons_succ, List.getD_cons_zero]
        exact placesF_getD0 s f' _ d3 (by omega)
      | succ n =>
        rw [List.getD_cons_succ, List.getD_cons_succ]
        exact placesF_succ s n f' _ d3 (by omega) (by simpa using hn)
    · rw [placesF_end s f i (by omega)] at hn; simp at hn
theorem pos_zero (s : ByteArray) : pos s 0 = 0 := placesF_getD0 s s.size 0 (Nat.zero_le _) (by omega)
theorem pos_succ (s : ByteArray) (n : Nat) (h : n < (units s).length) : pos s (n + 1) = pos s n + (Utf8.decode s (pos s n)).2 :=
  placesF_succ s n s.size 0 (Nat.zero_le _) (by omega) (by rw [show (placesF s s.size 0).length = (units s).length from PL_len s]; exact h)
theorem pos_mem (s : ByteArray) (n : Nat) (h : n < (units s).length) : pos s n ∈ PL s := by
  obtain ⟨hn, e⟩ := pos_in s n h; rw [e]; exact List.getElem_mem hn
theorem pos_lt (s : ByteArray) (n : Nat) (h : n < (units s).length) : pos s n < s.size := PL_lt s _ (pos_mem s n h)
theorem pos_le (s : ByteArray) (n : Nat) : pos s n ≤ s.size := by
  rcases Nat.lt_or_ge n (units s).length with h | h
  · exact Nat.le_of_lt (pos_lt s n h)
  · rw [pos_end s n h]; exact Nat.le_refl _
theorem pos_step (s : ByteArray) (n : Nat) (h : n < (units s).length) : pos s n < pos s (n + 1) ∧ pos s (n + 1) ≤ pos s n + 4 := by
  obtain ⟨d1, d2, _⟩ := dec_width s _ (pos_lt s n h)
  rw [pos_succ s n h]; omega
theorem pos_mono (s : ByteArray) {a b : Nat} (h : a ≤ b) (hb : b ≤ (units s).length) : pos s a ≤ pos s b := by
  obtain ⟨k, rfl⟩ := Nat.exists_eq_add_of_le h
  clear h
  induction k with
  | zero => exact Nat.le_refl _
  | succ k ih =>
    have := (pos_step s (a + k) (by omega)).1
    have := ih (by omega)
    rw [show a + (k + 1) = a + k + 1 by omega]; omega
theorem cnt_pos (s : ByteArray) (n : Nat) (h : n ≤ (units s).length) : cnt (isK s 0) (pos s n) = n := by
  rcases Nat.lt_or_eq_of_le h with h1 | h1
  · obtain ⟨hn, e⟩ := pos_in s n h1
    rw [e]
    exact cnt_at (PL s) (PL_rise s) _ (fun x => by rw [isK_kl, kl_zero]) n hn
  · rw [pos_end s n (by omega), cnt_top s 0 s.size (Nat.le_refl _), kl_zero, PL_len, h1]
theorem pos_nth (s : ByteArray) (n : Nat) (h : n < (units s).length) : IsNth (isK s 0) n (pos s n) :=
  ⟨by unfold isK; rw [Bool.and_eq_true]; exact ⟨by simpa using pos_mem s n h, rfl⟩, cnt_pos s n (Nat.le_of_lt h)⟩
/-- The unit in which a byte lies. -/
theorem unit_at_pos (s : ByteArray) (a n : Nat) (hn : n < (units s).length) (h1 : pos s n ≤ a) (h2 : a < pos s (n + 1)) : cnt (isK s 0) (a + 1) = n + 1 := by
  have l1 := cnt_mono (isK s 0) (show pos s n + 1 ≤ a + 1 by omega)
  have l2 := cnt_mono (isK s 0) (show a + 1 ≤ pos s (n + 1) by omega)
  rw [cnt_pos s (n + 1) (by omega)] at l2
  rw [cnt_succ, cnt_pos s n (by omega), if_pos (pos_nth s n hn).1] at l1
  omega
theorem unit_of (s : ByteArray) (a : Nat) (h : a < s.size) : ∃ n, n < (units s).length ∧ pos s n ≤ a ∧ a < pos s (n + 1) := by
  have : ∀ m, m ≤ (units s).length → a < pos s m → ∃ n, n < m ∧ pos s n ≤ a ∧ a < pos s (n + 1) := by
    intro m
    induction m with
    | zero => intro _ h; rw [pos_zero] at h; omega
    | succ m ih =>
      intro hm ha
      by_cases hlt : a < pos s m
      · obtain ⟨n, h1, h2, h3⟩ := ih (by omega) hlt
        exact ⟨n, by omega, h2, h3⟩
      · exact ⟨m, by omega, by omega, ha⟩
  obtain ⟨n, h1, h2, h3⟩ := this (units s).length (Nat.le_refl _) (by rw [pos_end s _ (Nat.le_refl _)]; exact h)
  exact ⟨n, h1, h2, h3⟩
end Go.Proofs.YthhepebkfokddaaGreatDoor
