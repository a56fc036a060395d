/- The unit at a place: its point and its width; as layer 2's document reckons it, and as the model decodes. No run in this text. -/
import Derived.Test.YtpddpglccjbpfaaDoorM
namespace Go.Proofs.YtpddpglccjbpfaaDoor
open Go Go.RowKit Go.Lib

/-- The point and the width of the unit at the head of N bytes b0 b1 b2 b3 .. -/
def ptN (N b0 b1 b2 b3 : Nat) : Nat × Nat := if decodeN N b0 b1 b2 b3 = (65533, 1) then (1114112 + b0, 1) else decodeN N b0 b1 b2 b3
/-- The same at a place of a text. -/
def ptU (s : ByteArray) (i : Nat) : Nat × Nat := if Utf8.decode s i = (65533, 1) then (1114112 + B s i, 1) else Utf8.decode s i
def ptP (s : ByteArray) (a : Int) : Int × Int := if 0 ≤ a ∧ a < s.size then (((ptU s a.toNat).1 : Int), ((ptU s a.toNat).2 : Int)) else (0, 0)
theorem ptU_N (s : ByteArray) (i : Nat) : ptU s i = ptN (s.size - i) (B s i) (B s (i + 1)) (B s (i + 2)) (B s (i + 3)) := by
  unfold ptU ptN; rw [decode_B]
theorem ptP_in (s : ByteArray) (i : Nat) (h : i < s.size) : ptP s i = (((ptU s i).1 : Int), ((ptU s i).2 : Int)) := by
  unfold ptP; rw [if_pos (by omega)]; simp
theorem ptP_out (s : ByteArray) (a : Int) (h : a < 0 ∨ s.size ≤ a) : ptP s a = (0, 0) := by
  unfold ptP; rw [if_neg (by omega)]

/-- The document's first byte: how many bytes it asks for, and its own bits. -/
def longI (c : Int) : Int × Int :=
  if c < 128 then (1, c) else if 192 ≤ c ∧ c < 224 then (2, c - 192) else if 224 ≤ c ∧ c < 240 then (3, c - 224) else if 240 ≤ c ∧ c < 248 then (4, c - 240) else (0, 0)
def charB (c : Int) : Bool := decide (0 ≤ c ∧ c < 55296) || decide (57343 < c ∧ c ≤ 1114111)
def leastI (n : Int) : Int := if n = 1 then 0 else if n = 2 then 128 else if n = 3 then 2048 else 65536

/-- The document's unit, unfolded. -/
def nextN (N b0 b1 b2 b3 : Int) : Int × Int :=
  if b0 < 128 then (b0, 1)
  else if 192 ≤ b0 ∧ b0 < 224 then
    if 2 ≤ N ∧ (128 ≤ b1 ∧ b1 < 192) ∧ 128 ≤ (b0 - 192) * 64 + b1 - 128 then ((b0 - 192) * 64 + b1 - 128, 2) else (1114112 + b0, 1)
  else if 224 ≤ b0 ∧ b0 < 240 then
    if 3 ≤ N ∧ (128 ≤ b1 ∧ b1 < 192) ∧ (128 ≤ b2 ∧ b2 < 192) ∧ 2048 ≤ ((b0 - 224) * 64 + b1 - 128) * 64 + b2 - 128 ∧ charB (((b0 - 224) * 64 + b1 - 128) * 64 + b2 - 128) = true
    then (((b0 - 224) * 64 + b1 - 128) * 64 + b2 - 128, 3) else (1114112 + b0, 1)
  else if 240 ≤ b0 ∧ b0 < 248 then
    if 4 ≤ N ∧ (128 ≤ b1 ∧ b1 < 192) ∧ (128 ≤ b2 ∧ b2 < 192) ∧ (128 ≤ b3 ∧ b3 < 192) ∧ 65536 ≤ (((b0 - 240) * 64 + b1 - 128) * 64 + b2 - 128) * 64 + b3 - 128 ∧ charB ((((b0 - 240) * 64 + b1 - 128) * 64 + b2 - 128) * 64 + b3 - 128) = true
    then ((((b0 - 240) * 64 + b1 - 128) * 64 + b2 - 128) * 64 + b3 - 128, 4) else (1114112 + b0, 1)
  else (1114112 + b0, 1)

theorem charB_iff (c : Int) : charB c = true ↔ (0 ≤ c ∧ c < 55296) ∨ (57343 < c ∧ c ≤ 1114111) := by simp [charB]

theorem nextN_2 (N b0 b1 b2 b3 : Nat) (h : 192 ≤ b0 ∧ b0 < 224) (c1 : b1 < 256) : nextN N b0 b1 b2 b3 = (((ptN N b0 b1 b2 b3).1 : Int), ((ptN N b0 b1 b2 b3).2 : Int)) := by
  by_cases g : 1 < N ∧ 128 ≤ b1 ∧ b1 ≤ 191 ∧ 128 ≤ (b0 - 192) * 64 + (b1 - 128)
  · have e : decodeN N b0 b1 b2 b3 = ((b0 - 192) * 64 + (b1 - 128), 2) := by
      unfold decodeN; rw [if_neg (by omega), if_pos (by omega), if_pos (by omega)]
      exact Prod.ext (by simp; omega) rfl
    unfold nextN ptN
    rw [if_neg (by omega), if_pos (by omega), if_pos (by omega), e, if_neg (by simp)]
    exact Prod.ext (by simp; omega) rfl
  · have e : decodeN N b0 b1 b2 b3 = (65533, 1) := by
      unfold decodeN; rw [if_neg (by omega)]
      by_cases k : b0 / 32 = 6 ∧ (1 < N ∧ b1 / 64 = 2)
      · rw [if_pos k, if_neg (by omega)]
      · rw [if_neg k, if_neg (by omega), if_neg (by omega)]
    unfold nextN ptN
    rw [if_neg (by omega), if_pos (by omega), if_neg (by omega), e, if_pos rfl]
    exact Prod.ext (by simp) rfl
theorem nextN_3 (N b0 b1 b2 b3 : Nat) (h : 224 ≤ b0 ∧ b0 < 240) (c1 : b1 < 256) (c2 : b2 < 256) : nextN N b0 b1 b2 b3 = (((ptN N b0 b1 b2 b3).1 : Int), ((ptN N b0 b1 b2 b3).2 : Int)) := by
  by_cases g : (2 < N ∧ 128 ≤ b1 ∧ b1 ≤ 191 ∧ 128 ≤ b2 ∧ b2 ≤ 191) ∧ 2048 ≤ ((b0 - 224) * 64 + (b1 - 128)) * 64 + (b2 - 128) ∧ (((b0 - 224) * 64 + (b1 - 128)) * 64 + (b2 - 128) < 55296 ∨ 57344 ≤ ((b0 - 224) * 64 + (b1 - 128)) * 64 + (b2 - 128))
  · have e : decodeN N b0 b1 b2 b3 = (((b0 - 224) * 64 + (b1 - 128)) * 64 + (b2 - 128), 3) := by
      unfold decodeN; rw [if_neg (by omega), if_neg (by omega), if_pos (by omega), if_pos (by omega)]
      exact Prod.ext (by simp; omega) rfl
    unfold nextN ptN
    rw [if_neg (by omega), if_neg (by omega), if_pos (by omega), if_pos (by rw [charB_iff]; omega), e, if_neg (by simp)]
    exact Prod.ext (by simp; omega) rfl
  · have e : decodeN N b0 b1 b2 b3 = (65533, 1) := by
      unfold decodeN; rw [if_neg (by omega), if_neg (by omega)]
      by_cases k : b0 / 16 = 14 ∧ (1 < N ∧ b1 / 64 = 2) ∧ (2 < N ∧ b2 / 64 = 2)
      · rw [if_pos k, if_neg (by omega)]
      · rw [if_neg k, if_neg (by omega)]
    unfold nextN ptN
    rw [if_neg (by omega), if_neg (by omega), if_pos (by omega), if_neg (by rw [charB_iff]; omega), e, if_pos rfl]
    exact Prod.ext (by simp) rfl
theorem nextN_4 (N b0 b1 b2 b3 : Nat) (h : 240 ≤ b0 ∧ b0 < 248) (c1 : b1 < 256) (c2 : b2 < 256) (c3 : b3 < 256) : nextN N b0 b1 b2 b3 = (((ptN N b0 b1 b2 b3).1 : Int), ((ptN N b0 b1 b2 b3).2 : Int)) := by
  by_cases g : (3 < N ∧ 128 ≤ b1 ∧ b1 ≤ 191 ∧ 128 ≤ b2 ∧ b2 ≤ 191 ∧ 128 ≤ b3 ∧ b3 ≤ 191) ∧ 65536 ≤ (((b0 - 240) * 64 + (b1 - 128)) * 64 + (b2 - 128)) * 64 + (b3 - 128) ∧ (((b0 - 240) * 64 + (b1 - 128)) * 64 + (b2 - 128)) * 64 + (b3 - 128) ≤ 1114111
  · have e : decodeN N b0 b1 b2 b3 = ((((b0 - 240) * 64 + (b1 - 128)) * 64 + (b2 - 128)) * 64 + (b3 - 128), 4) := by
      unfold decodeN; rw [if_neg (by omega), if_neg (by omega), if_neg (by omega), if_pos (by omega), if_pos (by omega)]
      exact Prod.ext (by simp; omega) rfl
    unfold nextN ptN
    rw [if_neg (by omega), if_neg (by omega), if_neg (by omega), if_pos (by omega), if_pos (by rw [charB_iff]; omega), e, if_neg (by simp)]
    exact Prod.ext (by simp; omega) rfl
  · have e : decodeN N b0 b1 b2 b3 = (65533, 1) := by
      unfold decodeN; rw [if_neg (by omega), if_neg (by omega), if_neg (by omega)]
      by_cases k : b0 / 8 = 30 ∧ (1 < N ∧ b1 / 64 = 2) ∧ (2 < N ∧ b2 / 64 = 2) ∧ (3 < N ∧ b3 / 64 = 2)
      · rw [if_pos k, if_neg (by omega)]
      · rw [if_neg k]
    unfold nextN ptN
    rw [if_neg (by omega), if_neg (by omega), if_neg (by omega), if_pos (by omega), if_neg (by rw [charB_iff]; omega), e, if_pos rfl]
    exact Prod.ext (by simp) rfl
theorem nextN_eq (N b0 b1 b2 b3 : Nat) (_hN : 1 ≤ N) (_c0 : b0 < 256) (c1 : b1 < 256) (c2 : b2 < 256) (c3 : b3 < 256) : nextN N b0 b1 b2 b3 = (((ptN N b0 b1 b2 b3).1 : Int), ((ptN N b0 b1 b2 b3).2 : Int)) := by
  by_cases h0 : b0 < 128
  · have e : decodeN N b0 b1 b2 b3 = (b0, 1) := by unfold decodeN; rw [if_pos h0]
    unfold nextN ptN
    rw [if_pos (by omega), e, if_neg (by simp; omega)]
    rfl
  by_cases h2 : 192 ≤ b0 ∧ b0 < 224
  · exact nextN_2 N b0 b1 b2 b3 h2 c1
  by_cases h3 : 224 ≤ b0 ∧ b0 < 240
  · exact nextN_3 N b0 b1 b2 b3 h3 c1 c2
  by_cases h4 : 240 ≤ b0 ∧ b0 < 248
  · exact nextN_4 N b0 b1 b2 b3 h4 c1 c2 c3
  · have e : decodeN N b0 b1 b2 b3 = (65533, 1) := by
      unfold decodeN; rw [if_neg h0, if_neg (by omega), if_neg (by omega), if_neg (by omega)]
    unfold nextN ptN
    rw [if_neg (by omega), if_neg (by omega), if_neg (by omega), if_neg (by omega), e, if_pos rfl]
    exact Prod.ext (by simp) rfl
theorem nextN_at (s : ByteArray) (i : Nat) (h : i < s.size) : nextN ((s.size - i : Nat) : Int) (B s i) (B s (i + 1)) (B s (i + 2)) (B s (i + 3)) = (((ptU s i).1 : Int), ((ptU s i).2 : Int)) := by
  rw [ptU_N]; exact nextN_eq _ _ _ _ _ (by omega) (B_lt _ _) (B_lt _ _) (B_lt _ _) (B_lt _ _)

/-- Widths and sizes of points. -/
theorem ptU_wide (s : ByteArray) (i : Nat) (h : i < s.size) : 1 ≤ (ptU s i).2 ∧ (ptU s i).2 ≤ 4 ∧ i + (ptU s i).2 ≤ s.size := by
  rcases unit_at s i h with ⟨_, e⟩ | ⟨w, h1, h4, hw, _, e, _⟩
  · unfold ptU; rw [if_pos e]; simp; omega
  · unfold ptU; split
    · simp; omega
    · omega
theorem ptU_wide_eq (s : ByteArray) (i : Nat) : (ptU s i).2 = (Utf8.decode s i).2 := by
  unfold ptU; split
  · rename_i h; rw [h]
  · rfl
end Go.Proofs.YtpddpglccjbpfaaDoor
