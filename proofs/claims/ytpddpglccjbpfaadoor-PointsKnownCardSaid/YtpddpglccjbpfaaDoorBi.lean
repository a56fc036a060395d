/- utf.Back's inner function: it hands out the units from behind. -/
import Derived.Test.YtpddpglccjbpfaaDoorO
import Derived.Test.YtpddpglccjbpfaaDoorCr
namespace Go.Proofs.YtpddpglccjbpfaaDoor
open Go Go.RowKit Go.Kt Go.Shelf
attribute [local go_sem] Oper.semAt_some

theorem unitsF_split (s : ByteArray) : ∀ (F i0 : Nat) (front : List (Nat × Nat)) (x : Nat × Nat) (rest : List (Nat × Nat)), unitsF s F i0 = front ++ x :: rest → s.size ≤ i0 + F →
    x.1 < s.size ∧ x.2 = (Utf8.decode s x.1).1 ∧ ∃ f', rest = unitsF s f' (x.1 + (Utf8.decode s x.1).2) ∧ s.size ≤ x.1 + (Utf8.decode s x.1).2 + f'
  | 0, _, front, x, rest, h, _ => by simp [unitsF] at h
  | F + 1, i0, front, x, rest, h, hf => by
    by_cases hi : i0 < s.size
    · obtain ⟨d1, d2, d3⟩ := dec_width s i0 hi
      rw [unitsF, if_pos hi] at h
      cases front with
      | nil =>
        simp only [List.nil_append, List.cons.injEq] at h
        obtain ⟨h1, h2⟩ := h
        subst h1
        exact ⟨hi, rfl, F, h2.symm, by simp only; omega⟩
      | cons y t =>
        simp only [List.cons_append, List.cons.injEq] at h
        exact unitsF_split s F _ t x rest h.2 (by omega)
    · rw [unitsF, if_neg hi] at h
      simp at h
theorem unitsF_nil {s : ByteArray} {f e : Nat} (h : unitsF s f e = []) (hf : s.size ≤ e + f) : s.size ≤ e := by
  rcases Nat.lt_or_ge e s.size with h1 | h1
  · cases f with
    | zero => omega
    | succ f => rw [unitsF, if_pos h1] at h; cases h
  · exact h1
theorem unitsF_head {s : ByteArray} {f e : Nat} {x : Nat × Nat} {r : List (Nat × Nat)} (h : unitsF s f e = x :: r) : x.1 = e := by
  cases f with
  | zero => simp [unitsF] at h
  | succ f =>
    rw [unitsF] at h
    split at h
    · simp only [List.cons.injEq] at h; rw [← h.1]
    · cases h

/-- 'front' are the units ahead of the byte e. -/
def Fr (s : ByteArray) (front : List (Nat × Nat)) (e : Nat) : Prop := ∃ f, units s = front ++ unitsF s f e ∧ (unitsF s f e = [] → s.size ≤ e) ∧ e ≤ s.size
theorem Fr.all (s : ByteArray) : Fr s (units s) s.size := ⟨0, by simp [unitsF], fun _ => Nat.le_refl _, Nat.le_refl _⟩
theorem Fr.zero {s : ByteArray} {e : Nat} (h : Fr s [] e) : e = 0 := by
  obtain ⟨f, h1, h2, h3⟩ := h
  rw [List.nil_append] at h1
  rcases Nat.eq_zero_or_pos s.size with hz | hz
  · omega
  · cases hu : units s with
    | nil =>
      have := unitsF_nil (show unitsF s s.size 0 = [] from hu) (by omega)
      omega
    | cons x r =>
      rw [hu] at h1
      have e1 := unitsF_head h1.symm
      have e2 := unitsF_head (show unitsF s s.size 0 = x :: r from hu)
      omega
theorem Fr.snoc {s : ByteArray} {front : List (Nat × Nat)} {x : Nat × Nat} {e : Nat} (h : Fr s (front ++ [x]) e) : x.1 < s.size ∧ x.2 = (Utf8.decode s x.1).1 ∧ e = x.1 + (Utf8.decode s x.1).2 ∧ Fr s front x.1 := by
  obtain ⟨f, h1, h2, h3⟩ := h
  rw [List.append_assoc] at h1
  have h1' : unitsF s s.size 0 = front ++ x :: unitsF s f e := h1
  obtain ⟨a1, a2, f', a3, a4⟩ := unitsF_split s s.size 0 front x _ h1' (by omega)
  obtain ⟨d1, d2, d3⟩ := dec_width s x.1 a1
  refine ⟨a1, a2, ?_, f' + 1, ?_, fun h => (by rw [unitsF, if_pos a1] at h; cases h), by omega⟩
  · cases hu : unitsF s f e with
    | nil =>
      have k1 := h2 hu
      rw [hu] at a3
      have k2 := unitsF_nil a3.symm a4
      omega
    | cons y r =>
      have k1 := unitsF_head hu
      rw [hu] at a3
      have k2 := unitsF_head a3.symm
      omega
  · rw [h1, unitsF, if_pos a1, ← a3, ← a2]; rfl

end Go.Proofs.YtpddpglccjbpfaaDoor
