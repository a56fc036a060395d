/- The document's answer for scan: sign, quoted, escaped. -/
import Derived.Test.YtbnnhbmnddaafaaGreatDoorGz16
import Derived.Test.YtbnnhbmnddaafaaGreatDoorGz5
namespace Go.Proofs.YtbnnhbmnddaafaaGreatDoor
open Go Go.RowKit Go.Kt Go.Kt.Rg Go.Shelf Go.Lib
attribute [local go_sem] Oper.semAt_some

def firstB (s : ByteArray) (i : Nat) : List ByteArray → ByteArray
  | [] => ⟨#[]⟩
  | c :: C => if begL s i c.data.toList = true then c else firstB s i C
theorem firstB_at {s : ByteArray} {i : Nat} : ∀ (C : List ByteArray) (k : Nat) (c : ByteArray), (∀ j d, j < k → C[j]? = some d → begL s i d.data.toList = false) → C[k]? = some c → begL s i c.data.toList = true → firstB s i C = c
  | [], k, c, _, h, _ => by simp at h
  | d :: C, 0, c, _, h, hb => by
    simp at h
    subst h
    rw [firstB, if_pos hb]
  | d :: C, k + 1, c, h1, h, hb => by
    have h0 := h1 0 d (by omega) rfl
    rw [firstB, if_neg (by rw [h0]; decide)]
    exact firstB_at C k c (fun j e hj he => h1 (j + 1) e (by omega) (by simpa using he)) (by simpa using h) hb
theorem firstB_none {s : ByteArray} {i : Nat} : ∀ (C : List ByteArray), (∀ j d, j < C.length → C[j]? = some d → begL s i d.data.toList = false) → firstB s i C = ⟨#[]⟩
  | [], _ => rfl
  | d :: C, h => by
    rw [firstB, if_neg (by rw [h 0 d (by simp) rfl]; decide)]
    exact firstB_none C fun j e hj he => h (j + 1) e (by simpa using hj) (by simpa using he)
def sgA : List ByteArray := [⟨#[60, 60, 60, 42]⟩, ⟨#[60, 60, 42]⟩, ⟨#[60, 42]⟩, ⟨#[61, 42]⟩, ⟨#[60, 60, 60]⟩, ⟨#[60, 60]⟩, ⟨#[60]⟩, ⟨#[38]⟩, ⟨#[61]⟩, ⟨#[47]⟩, ⟨#[45]⟩]
def sgB : List ByteArray := [⟨#[60, 60, 60, 42]⟩, ⟨#[60, 60, 60]⟩]
def sgC : List ByteArray := [⟨#[60, 60, 42]⟩, ⟨#[60, 60]⟩]
theorem beg_cons {s : ByteArray} {i : Nat} {c : UInt8} {t : List UInt8} (hc : c ≠ 0) : begL s i (c :: t) = true ↔ B s i = c.toNat ∧ begL s (i + 1) t = true := by
  have hb1 := beg_one (s := s) (i := i) hc
  unfold begL at hb1 ⊢
  simp only [List.length_cons, List.length_nil, Nat.zero_add, Bool.and_eq_true, decide_eq_true_eq, beq_iff_eq] at hb1 ⊢
  rw [← hb1]
  constructor
  · rintro ⟨h1, h2⟩
    rw [← seg_app s i (i + 1) (i + (t.length + 1)) (by omega) (by omega), one_byte (by omega)] at h2
    injection h2 with h3 h4
    refine ⟨⟨by omega, by rw [one_byte (by omega), h3]⟩, by omega, ?_⟩
    rw [show i + 1 + t.length = i + (t.length + 1) by omega]
    exact h4
  · rintro ⟨⟨h1, h2⟩, h3, h4⟩
    refine ⟨by omega, ?_⟩
    rw [← seg_app s i (i + 1) (i + (t.length + 1)) (by omega) (by omega), h2, show i + (t.length + 1) = i + 1 + t.length by omega, h4]
    rfl
theorem beg_2 {s : ByteArray} {i : Nat} {a b : UInt8} (ha : a ≠ 0) (hb : b ≠ 0) : begL s i [a, b] = true ↔ B s i = a.toNat ∧ B s (i + 1) = b.toNat := by
  rw [beg_cons ha, beg_one hb]
theorem beg_3 {s : ByteArray} {i : Nat} {a b c : UInt8} (ha : a ≠ 0) (hb : b ≠ 0) (hc : c ≠ 0) : begL s i [a, b, c] = true ↔ B s i = a.toNat ∧ B s (i + 1) = b.toNat ∧ B s (i + 2) = c.toNat := by
  rw [beg_cons ha, beg_2 hb hc]
theorem beg_4 {s : ByteArray} {i : Nat} {a b c d : UInt8} (ha : a ≠ 0) (hb : b ≠ 0) (hc : c ≠ 0) (hd : d ≠ 0) : begL s i [a, b, c, d] = true ↔ B s i = a.toNat ∧ B s (i + 1) = b.toNat ∧ B s (i + 2) = c.toNat ∧ B s (i + 3) = d.toNat := by
  rw [beg_cons ha, beg_3 hb hc hd]
def sgnD (s : ByteArray) (i : Nat) : ByteArray := if begL s i [60, 60, 60] = true then firstB s i sgB else if begL s i [60, 60] = true then firstB s i sgC else firstB s i sgA
theorem sgnD_eq (s : ByteArray) (i : Nat) : sgnD s i = ⟨(seg s i (i + sgnN s i)).toArray⟩ := by
  have a1 : begL s i (⟨#[60, 60, 60, 42]⟩ : ByteArray).data.toList = true ↔ B s i = 60 ∧ B s (i + 1) = 60 ∧ B s (i + 2) = 60 ∧ B s (i + 3) = 42 := beg_4 (by decide) (by decide) (by decide) (by decide)
  have a2 : begL s i (⟨#[60, 60, 42]⟩ : ByteArray).data.toList = true ↔ B s i = 60 ∧ B s (i + 1) = 60 ∧ B s (i + 2) = 42 := beg_3 (by decide) (by decide) (by decide)
  have a3 : begL s i (⟨#[60, 42]⟩ : ByteArray).data.toList = true ↔ B s i = 60 ∧ B s (i + 1) = 42 := beg_2 (by decide) (by decide)
  have a4 : begL s i (⟨#[61, 42]⟩ : ByteArray).data.toList = true ↔ B s i = 61 ∧ B s (i + 1) = 42 := beg_2 (by decide) (by decide)
  have a5 : begL s i (⟨#[60, 60, 60]⟩ : ByteArray).data.toList = true ↔ B s i = 60 ∧ B s (i + 1) = 60 ∧ B s (i + 2) = 60 := beg_3 (by decide) (by decide) (by decide)
  have a6 : begL s i (⟨#[60, 60]⟩ : ByteArray).data.toList = true ↔ B s i = 60 ∧ B s (i + 1) = 60 := beg_2 (by decide) (by decide)
  have a7 : begL s i (⟨#[60]⟩ : ByteArray).data.toList = true ↔ B s i = 60 := beg_one (by decide)
  have a8 : begL s i (⟨#[38]⟩ : ByteArray).data.toList = true ↔ B s i = 38 := beg_one (by decide)
  have a9 : begL s i (⟨#[61]⟩ : ByteArray).data.toList = true ↔ B s i = 61 := beg_one (by decide)
  have a10 : begL s i (⟨#[47]⟩ : ByteArray).data.toList = true ↔ B s i = 47 := beg_one (by decide)
  have a11 : begL s i (⟨#[45]⟩ : ByteArray).data.toList = true ↔ B s i = 45 := beg_one (by decide)
  have q3 : begL s i [60, 60, 60] = true ↔ B s i = 60 ∧ B s (i + 1) = 60 ∧ B s (i + 2) = 60 := a5
  have q2 : begL s i [60, 60] = true ↔ B s i = 60 ∧ B s (i + 1) = 60 := a6
  have hres : ∀ c : ByteArray, begL s i c.data.toList = true → c.size = sgnN s i → c = ⟨(seg s i (i + sgnN s i)).toArray⟩ := fun c h hz => by
    unfold begL at h
    simp only [Bool.and_eq_true, decide_eq_true_eq, beq_iff_eq] at h
    rw [← Lib.size_eq, hz] at h
    rw [h.2]
  unfold sgnD
  by_cases h3 : B s i = 60 ∧ B s (i + 1) = 60 ∧ B s (i + 2) = 60
  · rw [if_pos (q3.2 h3)]
    unfold sgB
    simp only [firstB]
    by_cases h4 : B s (i + 3) = 42
    · have g := a1.2 ⟨h3.1, h3.2.1, h3.2.2, h4⟩
      rw [if_pos g]
      refine hres _ g ?_
      unfold sgnN
      rw [if_pos h3.1, if_pos h3.2.1, if_pos h3.2.2, if_pos h4]
      rfl
    · rw [if_neg (fun h => h4 (a1.1 h).2.2.2), if_pos (a5.2 h3)]
      refine hres _ (a5.2 h3) ?_
      unfold sgnN
      rw [if_pos h3.1, if_pos h3.2.1, if_pos h3.2.2, if_neg h4]
      rfl
  rw [if_neg (fun h => h3 (q3.1 h))]
  by_cases h2 : B s i = 60 ∧ B s (i + 1) = 60
  · have n2 : B s (i + 2) ≠ 60 := fun h => h3 ⟨h2.1, h2.2, h⟩
    rw [if_pos (q2.2 h2)]
    unfold sgC
    simp only [firstB]
    by_cases h4 : B s (i + 2) = 42
    · have g := a2.2 ⟨h2.1, h2.2, h4⟩
      rw [if_pos g]
      refine hres _ g ?_
      unfold sgnN
      rw [if_pos h2.1, if_pos h2.2, if_neg n2, if_pos h4]
      rfl
    · rw [if_neg (fun h => h4 (a2.1 h).2.2), if_pos (a6.2 h2)]
      refine hres _ (a6.2 h2) ?_
      unfold sgnN
      rw [if_pos h2.1, if_pos h2.2, if_neg n2, if_neg h4]
      rfl
  rw [if_neg (fun h => h2 (q2.1 h))]
  unfold sgA
  simp only [firstB]
  rw [if_neg (fun h => h3 ⟨(a1.1 h).1, (a1.1 h).2.1, (a1.1 h).2.2.1⟩), if_neg (fun h => h2 ⟨(a2.1 h).1, (a2.1 h).2.1⟩)]
  by_cases c1 : B s i = 60 ∧ B s (i + 1) = 42
  · rw [if_pos (a3.2 c1)]
    refine hres _ (a3.2 c1) ?_
    unfold sgnN
    rw [if_pos c1.1, if_neg (by omega), if_pos c1.2]
    rfl
  rw [if_neg (fun h => c1 (a3.1 h))]
  by_cases c2 : B s i = 61 ∧ B s (i + 1) = 42
  · rw [if_pos (a4.2 c2)]
    refine hres _ (a4.2 c2) ?_
    unfold sgnN
    rw [if_neg (by omega), if_pos c2.1, if_pos c2.2]
    rfl
  rw [if_neg (fun h => c2 (a4.1 h)), if_neg (fun h => h3 (a5.1 h)), if_neg (fun h => h2 (a6.1 h))]
  by_cases c3 : B s i = 60
  · rw [if_pos (a7.2 c3)]
    refine hres _ (a7.2 c3) ?_
    unfold sgnN
    rw [if_pos c3, if_neg (fun h => h2 ⟨c3, h⟩), if_neg (fun h => c1 ⟨c3, h⟩)]
    rfl
  rw [if_neg (fun h => c3 (a7.1 h))]
  by_cases c4 : B s i = 38
  · rw [if_pos (a8.2 c4)]
    refine hres _ (a8.2 c4) ?_
    unfold sgnN
    rw [if_neg c3, if_neg (by omega), if_pos (.inl c4)]
    rfl
  rw [if_neg (fun h => c4 (a8.1 h))]
  by_cases c5 : B s i = 61
  · rw [if_pos (a9.2 c5)]
    refine hres _ (a9.2 c5) ?_
    unfold sgnN
    rw [if_neg c3, if_pos c5, if_neg (fun h => c2 ⟨c5, h⟩)]
    rfl
  rw [if_neg (fun h => c5 (a9.1 h))]
  by_cases c6 : B s i = 47
  · rw [if_pos (a10.2 c6)]
    refine hres _ (a10.2 c6) ?_
    unfold sgnN
    rw [if_neg c3, if_neg c5, if_pos (.inr (.inl c6))]
    rfl
  rw [if_neg (fun h => c6 (a10.1 h))]
  by_cases c7 : B s i = 45
  · rw [if_pos (a11.2 c7)]
    refine hres _ (a11.2 c7) ?_
    unfold sgnN
    rw [if_neg c3, if_neg c5, if_pos (.inr (.inr c7))]
    rfl
  rw [if_neg (fun h => c7 (a11.1 h))]
  have : sgnN s i = 0 := by
    unfold sgnN
    rw [if_neg c3, if_neg c5, if_neg (by omega)]
  rw [this, Nat.add_zero, seg_none]
end Go.Proofs.YtbnnhbmnddaafaaGreatDoor
