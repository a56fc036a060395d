import Derived.Test.YtpddpglccjbpfaaDoorC
import Derived.Lib.TrimUEq
namespace Go.Proofs.YtpddpglccjbpfaaDoor
open Go Go.RowKit Go.Lib

def CharAt (w b0 b1 b2 b3 : Nat) : Prop :=
  (w = 1 ∧ b0 < 128) ∨ (w = 2 ∧ 194 ≤ b0 ∧ b0 < 224 ∧ 128 ≤ b1 ∧ b1 ≤ 191) ∨
  (w = 3 ∧ 224 ≤ b0 ∧ b0 < 240 ∧ 128 ≤ b1 ∧ b1 ≤ 191 ∧ (b0 = 224 → 160 ≤ b1) ∧ (b0 = 237 → b1 ≤ 159) ∧ 128 ≤ b2 ∧ b2 ≤ 191) ∨
  (w = 4 ∧ 240 ≤ b0 ∧ b0 < 245 ∧ 128 ≤ b1 ∧ b1 ≤ 191 ∧ (b0 = 240 → 144 ≤ b1) ∧ (b0 = 244 → b1 ≤ 143) ∧ 128 ≤ b2 ∧ b2 ≤ 191 ∧ 128 ≤ b3 ∧ b3 ≤ 191)

theorem lead_1 (b0 : Nat) (h : b0 < 128) : leadI b0 = (1, 0, 0) := by unfold leadI; rw [if_pos (by omega)]

theorem bgT_char (N b0 b1 b2 b3 w : Nat) (hw1 : 1 ≤ w) (hw4 : w ≤ 4) (hN : 1 ≤ N) (c0 : b0 < 256) :
    ((leadI b0).1 = w ∧ bgT (leadI b0) N b1 b2 b3 = w) ↔ (w ≤ N ∧ CharAt w b0 b1 b2 b3) := by
  unfold CharAt
  by_cases h0 : b0 < 128
  · rw [lead_1 b0 h0]; simp only [bgT, inB_iff]; rw [if_neg (by omega)]; omega
  by_cases h1 : (128 ≤ b0 ∧ b0 < 194) ∨ 245 ≤ b0
  · rw [lead_bad b0 h1]; simp only; omega
  by_cases h2 : b0 < 224
  · rw [lead_2 b0 (by omega)]; simp only [bgT, inB_iff]
    split
    · rw [if_neg (by omega)]; omega
    · omega
  by_cases h3 : b0 < 240
  · rw [lead_3 b0 (by omega)]; simp only [bgT, inB_iff]
    have e1 : (if b0 = 224 then 160 else 128) = (if b0 = 224 then 160 else 128 : Nat) := rfl
    generalize hlo : (if b0 = 224 then 160 else 128 : Nat) = lo
    generalize hhi : (if b0 = 237 then 159 else 191 : Nat) = hi
    have hlo' : (b0 = 224 ∧ lo = 160) ∨ (b0 ≠ 224 ∧ lo = 128) := by split at hlo <;> omega
    have hhi' : (b0 = 237 ∧ hi = 159) ∨ (b0 ≠ 237 ∧ hi = 191) := by split at hhi <;> omega
    clear hlo hhi e1
    split
    · split
      · rw [if_neg (by omega)]; omega
      · omega
    · omega
  · rw [lead_4 b0 (by omega)]; simp only [bgT, inB_iff]
    generalize hlo : (if b0 = 240 then 144 else 128 : Nat) = lo
    generalize hhi : (if b0 = 244 then 143 else 191 : Nat) = hi
    have hlo' : (b0 = 240 ∧ lo = 144) ∨ (b0 ≠ 240 ∧ lo = 128) := by split at hlo <;> omega
    have hhi' : (b0 = 244 ∧ hi = 143) ∨ (b0 ≠ 244 ∧ hi = 191) := by split at hhi <;> omega
    clear hlo hhi
    split
    · split
      · split <;> omega
      · omega
    · omega

theorem wide_iff (s : ByteArray) (i w : Nat) (hi : i < s.size) (hw1 : 1 ≤ w) (hw4 : w ≤ 4) :
    wideI s i = w ↔ (i + w ≤ s.size ∧ CharAt w (B s i) (B s (i + 1)) (B s (i + 2)) (B s (i + 3))) := by
  have hb := bgT_char (s.size - i) (B s i) (B s (i + 1)) (B s (i + 2)) (B s (i + 3)) w hw1 hw4 (by omega) (B_lt _ _)
  have e : (i + w ≤ s.size) ↔ (w ≤ s.size - i) := by omega
  rw [e, ← hb]
  unfold wideI
  rw [begunI_eq]
  by_cases hz : (leadI (B s i)).1 = 0
  · rw [if_pos hz]; simp [hz]; omega
  · rw [if_neg hz]
    by_cases hq : bgT (leadI (B s i)) (s.size - i) (B s (i + 1)) (B s (i + 2)) (B s (i + 3)) = (leadI (B s i)).1
    · simp [hq]
    · simp only [bne_iff_ne, ne_eq, hq, not_false_eq_true, if_true]
      omega
/-- A decode of more than one byte is that of a character. -/
theorem decode_wide (s : ByteArray) (i : Nat) (hi : i < s.size) :
    (wideI s i = 0 ∧ Utf8.decode s i = (65533, 1)) ∨ (∃ w : Nat, 1 ≤ w ∧ w ≤ 4 ∧ i + w ≤ s.size ∧ wideI s i = w ∧ (Utf8.decode s i).2 = w) := by
  rcases unit_at s i hi with h | ⟨w, h1, h2, h3, h4, h5, _⟩
  · exact .inl h
  · exact .inr ⟨w, h1, h2, h3, h4, h5⟩
end Go.Proofs.YtpddpglccjbpfaaDoor
