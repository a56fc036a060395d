/- The points of a text, and the text of its points: the mathematics. -/
import Derived.Test.YtgjhingjheplfaaDoorPf
import Derived.Test.YtgjhingjheplfaaDoorPc
import Derived.Test.YtgjhingjheplfaaDoorCp
namespace Go.Proofs.YtgjhingjheplfaaDoor
open Go Go.RowKit Go.Kt Go.Shelf

theorem ptU_cases (s : ByteArray) (i : Nat) (h : i < s.size) :
    (Utf8.decode s i = (65533, 1) ∧ ptU s i = (1114112 + B s i, 1) ∧ 128 ≤ B s i) ∨
    (∃ w : Nat, 1 ≤ w ∧ w ≤ 4 ∧ i + w ≤ s.size ∧ wideI s i = w ∧ Utf8.decode s i ≠ (65533, 1) ∧ ptU s i = Utf8.decode s i ∧ (Utf8.decode s i).2 = w ∧ charB (Utf8.decode s i).1 = true ∧ bytesP (Utf8.decode s i).1 = seg s i (i + w)) := by
  by_cases hd : Utf8.decode s i = (65533, 1)
  · refine .inl ⟨hd, by unfold ptU; rw [if_pos hd], ?_⟩
    rcases Nat.lt_or_ge (B s i) 128 with hb | hb
    · have := decode_B s i
      rw [hd] at this
      unfold Lib.decodeN at this
      rw [if_pos hb] at this
      injection this with h1 _
      omega
    · exact hb
  · refine .inr ?_
    rcases unit_at s i h with ⟨_, e⟩ | ⟨w, h1, h4, hw, he, e2, _⟩
    · exact absurd e hd
    · obtain ⟨q1, q2⟩ := encode_decode s i w h h1 h4 he
      have hc : charB ((Utf8.decode s i).1 : Int) = true := by rw [← valid_char2]; exact q2
      exact ⟨w, h1, h4, hw, he, hd, by unfold ptU; rw [if_neg hd], e2, hc, by rw [bytesP_char _ hc]; exact q1⟩

theorem ptU_point (s : ByteArray) (i : Nat) (h : i < s.size) : pointB (ptU s i).1 = true := by
  rcases ptU_cases s i h with ⟨_, e, hb⟩ | ⟨w, _, _, _, _, _, e, _, hc, _⟩
  · have := B_lt s i
    rw [e, pointB_iff]
    right
    simp
    omega
  · rw [e]
    unfold pointB
    rw [hc]
    rfl
theorem ptU_bytes (s : ByteArray) (i : Nat) (h : i < s.size) : bytesP (ptU s i).1 = seg s i (i + (ptU s i).2) := by
  rcases ptU_cases s i h with ⟨_, e, hb⟩ | ⟨w, _, _, _, _, _, e, e2, _, hq⟩
  · have := B_lt s i
    rw [e]
    rw [seg_range s i 1 (by omega)]
    unfold bytesP
    rw [if_pos (by omega)]
    have : ((1114112 + B s i : Nat) : Int) - 1114112 = B s i := by omega
    rw [this]
    simp
  · rw [e, hq, e2]
theorem textP_from (s : ByteArray) : ∀ f i, i ≤ s.size → s.size ≤ f + i → textP (ptL s (unitsF s f i)) = seg s i s.size
  | 0, i, hi, hf => by
    obtain rfl : i = s.size := by omega
    simp [unitsF, ptL, textP, seg_self]
  | f + 1, i, hi, hf => by
    unfold unitsF
    split
    · rename_i hlt
      obtain ⟨d1, d2, d3⟩ := ptU_wide s i hlt
      have ih := textP_from s f (i + (Utf8.decode s i).2) (by rw [← ptU_wide_eq]; exact d3) (by rw [← ptU_wide_eq]; omega)
      have : textP (ptL s ((i, (Utf8.decode s i).1) :: unitsF s f (i + (Utf8.decode s i).2))) = bytesP (ptU s i).1 ++ textP (ptL s (unitsF s f (i + (Utf8.decode s i).2))) := by simp [textP, ptL]
      rw [this, ih, ptU_bytes s i hlt, ← ptU_wide_eq]
      exact seg_app s i _ _ (by omega) d3
    · obtain rfl : i = s.size := by omega
      simp [ptL, textP, seg_self]
/-- A TEXT COMES BACK FROM ITS POINTS. -/
theorem textP_pts (s : ByteArray) : textP (pts s) = s.data.toList := by
  unfold pts units
  rw [textP_from s s.size 0 (Nat.zero_le _) (by omega), seg_all]
theorem pts_points (s : ByteArray) : ∀ x ∈ pts s, pointB x = true := by
  intro x hx
  obtain ⟨p, hp, rfl⟩ := List.mem_map.1 hx
  exact ptU_point s p.1 (units_dec s s.size 0 p hp).2
theorem pts_bd (s : ByteArray) : ∀ x ∈ pts s, -2147483648 ≤ x ∧ x ≤ 2147483647 := by
  intro x hx
  have := (pointB_iff x).1 (pts_points s x hx)
  omega

/-- Rows of characters. -/
theorem textP_chars : ∀ l : List Int, (∀ x ∈ l, charB x = true) → textP l = (runesBytes l).data.toList
  | [], _ => by simp [textP, runesBytes]
  | x :: l, h => by
    have ih := textP_chars l (fun y hy => h y (by simp [hy]))
    rw [runesBytes_cons]
    show bytesP x ++ textP l = _
    rw [ih, bytesP_char x (h x (by simp))]
    simp
theorem pts_nums_from (s : ByteArray) : ∀ f i, i ≤ s.size → s.size ≤ f + i → okF s f i = true → ptL s (unitsF s f i) = (numsF s f i).map fun x : Nat => (x : Int)
  | 0, i, _, _, _ => by simp [unitsF, ptL, numsF]
  | f + 1, i, hi, hf, hok => by
    by_cases hlt : i < s.size
    · rw [okF, if_pos hlt] at hok
      have hill : illB s i = false := by
        cases h : illB s i
        · rfl
        · rw [h] at hok; simp at hok
      rw [hill] at hok
      simp only [Bool.false_eq_true, if_false] at hok
      obtain ⟨d1, d2, d3⟩ := ptU_wide s i hlt
      rw [ptU_wide_eq] at d1 d2 d3
      have ih := pts_nums_from s f (i + (Utf8.decode s i).2) d3 (by omega) hok
      rw [numsF_in s f i hlt]
      have hu : unitsF s (f + 1) i = (i, (Utf8.decode s i).1) :: unitsF s f (i + (Utf8.decode s i).2) := by rw [unitsF, if_pos hlt]
      rw [hu]
      rw [ill_dec s i hlt] at hill
      have e : ptU s i = Utf8.decode s i := by unfold ptU; rw [if_neg (by simpa using hill)]
      have : ptL s ((i, (Utf8.decode s i).1) :: unitsF s f (i + (Utf8.decode s i).2)) = ((ptU s i).1 : Int) :: ptL s (unitsF s f (i + (Utf8.decode s i).2)) := by simp [ptL]
      rw [this, ih, e]
      simp
    · have hu : unitsF s (f + 1) i = [] := by rw [unitsF, if_neg hlt]
      rw [hu, numsF_end s (f + 1) i (by omega)]
      rfl
theorem pts_nums (s : ByteArray) (h : okB s = true) : pts s = numsI s := pts_nums_from s s.size 0 (Nat.zero_le _) (by omega) h
/-- A ROW OF CHARACTERS COMES BACK FROM ITS TEXT. -/
theorem row_ok (l : List Int) (h : ∀ x ∈ l, charB x = true) : okB (runesBytes l) = true ∧ numsI (runesBytes l) = l := by
  have h1 : numsI (runesBytes l) = l := by
    rw [nums_text]
    have := fix_same l
    have h2 : l.all Utf8.valid = true := List.all_eq_true.2 fun x hx => by rw [valid_char2]; exact h x hx
    rw [h2] at this
    simpa using this
  refine ⟨?_, h1⟩
  have := (back_iff (runesBytes l)).1
  exact this (by rw [h1])
theorem row_pts (l : List Int) (h : ∀ x ∈ l, charB x = true) : pts (runesBytes l) = l := by
  rw [pts_nums _ (row_ok l h).1, (row_ok l h).2]
end Go.Proofs.YtgjhingjheplfaaDoor
