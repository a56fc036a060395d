/- Parts of the proof of what the last text says. -/
import Derived.Test.YtbnnhbmnddaafaaGreatDoorGz14
import Derived.Test.YtbnnhbmnddaafaaGreatDoorGz5
import Derived.Test.YtbnnhbmnddaafaaGreatDoorGz4
import Derived.Test.YtbnnhbmnddaafaaGreatDoorGz3
/- The document's answer for scan, in plain words: a sign, a text, a token; and what the scanner's run makes of each. No run in this text. -/
namespace Go.Proofs.YtbnnhbmnddaafaaGreatDoor
open Go Go.RowKit Go.Kt Go.Kt.Rg Go.Shelf Go.Lib

def rU (s : ByteArray) (i : Nat) : Nat := if i < s.size then (Utf8.decode s i).1 else 10
theorem B_in {s : ByteArray} {i : Nat} (h : B s i ≠ 0) : i < s.size := by
  by_cases hi : i < s.size
  · exact hi
  · exfalso
    apply h
    unfold B
    rw [List.getD_eq_getElem?_getD, List.getElem?_eq_none (by rw [← Lib.size_eq]; omega)]
    rfl
theorem seg_more {s : ByteArray} {p k : Nat} (h : p + k < s.size) : seg s p (p + (k + 1)) = seg s p (p + k) ++ [UInt8.ofNat (B s (p + k))] := by
  have h1 : seg s p (p + (k + 1)) = seg s p (p + k) ++ seg s (p + k) (p + k + 1) := by
    rw [seg_eq, seg_eq, seg_eq, List.drop_take, List.drop_take, List.drop_take, show p + (k + 1) - p = k + 1 by omega, show p + k - p = k by omega, show p + k + 1 - (p + k) = 1 by omega, List.take_add, List.drop_drop]
  rw [h1, one_byte h]
theorem seg_none (s : ByteArray) (p : Nat) : seg s p p = [] := by
  rw [seg_eq, List.drop_take, Nat.sub_self, List.take_zero]
theorem rU_lo {s : ByteArray} {i : Nat} (hi : i < s.size) (h : B s i < 128) : rU s i = B s i := by
  unfold rU
  rw [if_pos hi, dec_lo s i h]
theorem rU_in {s : ByteArray} {i : Nat} (hi : i < s.size) : rU s i = (Utf8.decode s i).1 := by unfold rU; rw [if_pos hi]
theorem rU_out {s : ByteArray} {i : Nat} (hi : ¬ i < s.size) : rU s i = 10 := by unfold rU; rw [if_neg hi]
theorem rU_B {s : ByteArray} {i : Nat} (h : rU s i < 128) : (i < s.size ∧ B s i = rU s i) ∨ ¬ i < s.size ∧ rU s i = 10 := by
  by_cases hi : i < s.size
  · rw [rU_in hi] at h ⊢
    exact .inl ⟨hi, (dec_r_lo h).1⟩
  · exact .inr ⟨hi, rU_out hi⟩
set_option maxRecDepth 100000 in
theorem encL_lo (r : Nat) (h : r < 128) : encL (r : Nat) = [UInt8.ofNat r] := by
  have he : (Utf8.encode (r : Nat)).data.toList = [UInt8.ofNat r] := (by decide +kernel : ∀ r : Nat, r < 128 → (Utf8.encode (r : Nat)).data.toList = [UInt8.ofNat r]) r h
  exact he
theorem sgn_lo (l : List UInt8) (hl : l ∈ sgnL) (c : UInt8) (hc : c ∈ l) : c.toNat < 128 := by
  have h : (sgnL.all fun l => l.all fun c => decide (c.toNat < 128)) = true := by decide +kernel
  exact of_decide_eq_true (List.all_eq_true.1 (List.all_eq_true.1 h l hl) c hc)
theorem v65 : Utf8.valid ((65533 : Nat) : Int) = true := by decide +kernel
set_option maxRecDepth 100000 in
theorem enc_hiL {s : ByteArray} {i : Nat} (h : 128 ≤ (Utf8.decode s i).1) : ∃ c ∈ encL ((Utf8.decode s i).1 : Nat), 128 ≤ c.toNat := by
  have hv : Utf8.valid ((Utf8.decode s i).1 : Nat) = true := by
    by_cases hw : (Utf8.decode s i).1 = 65533 ∧ (Utf8.decode s i).2 = 1
    · rw [hw.1]; exact v65
    rw [decode_B] at hw h ⊢
    revert hw h
    unfold decodeN
    repeat' split
    all_goals (intro hw h; simp only at hw h ⊢; first | (exfalso; omega) | (simp only [Utf8.valid, Bool.or_eq_true, Bool.and_eq_true, decide_eq_true_iff]; omega) | (exact absurd ⟨rfl, rfl⟩ hw))
  obtain ⟨q1, q2, q3⟩ := enc_hi ((Utf8.decode s i).1 : Nat) (by omega) hv
  have hl : (encL ((Utf8.decode s i).1 : Nat)).length = (Utf8.encode ((Utf8.decode s i).1 : Nat)).size := (Lib.size_eq _).symm
  cases he : encL ((Utf8.decode s i).1 : Nat) with
  | nil => rw [he] at hl; simp at hl; omega
  | cons a t => exact ⟨a, .head _, q3 a (by show a ∈ encL _; rw [he]; exact .head _)⟩
theorem sgn_hi {s : ByteArray} {i : Nat} (l : List UInt8) (h : 128 ≤ rU s i) : isSgn (l ++ encL (rU s i : Nat)) = false := by
  by_cases hi : i < s.size
  · rw [rU_in hi] at h ⊢
    obtain ⟨c, hc, h8⟩ := enc_hiL h
    have : l ++ encL ((Utf8.decode s i).1 : Nat) ∉ sgnL := fun hm => by
      have := sgn_lo _ hm c (List.mem_append_right _ hc)
      omega
    unfold isSgn
    simpa using this
  · rw [rU_out hi] at h; omega

def sgnN (s : ByteArray) (i : Nat) : Nat :=
  if B s i = 60 then
    (if B s (i + 1) = 60 then (if B s (i + 2) = 60 then (if B s (i + 3) = 42 then 4 else 3) else if B s (i + 2) = 42 then 3 else 2)
     else if B s (i + 1) = 42 then 2 else 1)
  else if B s i = 61 then (if B s (i + 1) = 42 then 2 else 1)
  else if B s i = 38 ∨ B s i = 47 ∨ B s i = 45 then 1 else 0
theorem stop_of {s : ByteArray} {i : Nat} {l : List UInt8} (hd : ∀ r : Nat, r < 128 → isSgn (l ++ [UInt8.ofNat r]) = false) : isSgn (l ++ encL (rU s i : Nat)) = false := by
  by_cases h : rU s i < 128
  · rw [encL_lo _ h]; exact hd _ h
  · exact sgn_hi l (by omega)
theorem stop_ne {s : ByteArray} {i : Nat} {l : List UInt8} (a : Nat) (ha : B s i ≠ a) (h10 : a ≠ 10) (hd : ∀ r : Nat, r < 128 → r ≠ a → isSgn (l ++ [UInt8.ofNat r]) = false) : isSgn (l ++ encL (rU s i : Nat)) = false := by
  by_cases h : rU s i < 128
  · rw [encL_lo _ h]
    refine hd _ h ?_
    rcases rU_B h with ⟨_, e⟩ | ⟨_, e⟩
    · rw [← e]; exact ha
    · rw [e]; exact h10.symm
  · exact sgn_hi l (by omega)
theorem stop_ne2 {s : ByteArray} {i : Nat} {l : List UInt8} (a b : Nat) (ha : B s i ≠ a) (hb : B s i ≠ b) (h10 : a ≠ 10) (h11 : b ≠ 10) (hd : ∀ r : Nat, r < 128 → r ≠ a → r ≠ b → isSgn (l ++ [UInt8.ofNat r]) = false) : isSgn (l ++ encL (rU s i : Nat)) = false := by
  by_cases h : rU s i < 128
  · rw [encL_lo _ h]
    rcases rU_B h with ⟨_, e⟩ | ⟨_, e⟩
    · exact hd _ h (by rw [← e]; exact ha) (by rw [← e]; exact hb)
    · exact hd _ h (by rw [e]; exact h10.symm) (by rw [e]; exact h11.symm)
  · exact sgn_hi l (by omega)
theorem sgn_stop (s : ByteArray) (p : Nat) (h : sgnN s p ≠ 0) :
    p + sgnN s p ≤ s.size ∧ isSgn (seg s p (p + sgnN s p) ++ encL (rU s (p + sgnN s p) : Nat)) = false ∧ (∀ k, k < sgnN s p → B s (p + k) < 128 ∧ isSgn (seg s p (p + k) ++ encL (B s (p + k) : Nat)) = true) ∧ isSgn (seg s p (p + sgnN s p)) = true := by
  have s1 : p < s.size → seg s p (p + 1) = [UInt8.ofNat (B s p)] := fun h => by have e := seg_more (s := s) (p := p) (k := 0) h; simpa [seg_none] using e
  have s2 : p + 1 < s.size → seg s p (p + 2) = [UInt8.ofNat (B s p), UInt8.ofNat (B s (p + 1))] := fun h => by rw [seg_more (k := 1) h, s1 (by omega)]; rfl
  have s3 : p + 2 < s.size → seg s p (p + 3) = [UInt8.ofNat (B s p), UInt8.ofNat (B s (p + 1)), UInt8.ofNat (B s (p + 2))] := fun h => by rw [seg_more (k := 2) h, s2 (by omega)]; rfl
  have s4 : p + 3 < s.size → seg s p (p + 4) = [UInt8.ofNat (B s p), UInt8.ofNat (B s (p + 1)), UInt8.ofNat (B s (p + 2)), UInt8.ofNat (B s (p + 3))] := fun h => by rw [seg_more (k := 3) h, s3 (by omega)]; rfl
  have k0 : seg s p (p + 0) = [] := seg_none s p
  unfold sgnN at h ⊢
  by_cases a : B s p = 60
  · have i0 := B_in (s := s) (i := p) (by omega)
    rw [if_pos a] at h ⊢
    by_cases b : B s (p + 1) = 60
    · have i1 := B_in (s := s) (i := p + 1) (by omega)
      rw [if_pos b] at h ⊢
      by_cases c : B s (p + 2) = 60
      · have i2 := B_in (s := s) (i := p + 2) (by omega)
        rw [if_pos c] at h ⊢
        by_cases d : B s (p + 3) = 42
        · have i3 := B_in (s := s) (i := p + 3) (by omega)
          rw [if_pos d]
          refine ⟨by omega, ?_, fun k hk => ?_, by rw [s4 i3, a, b, c, d]; decide⟩
          · rw [s4 i3, a, b, c, d]; exact stop_of (by decide +kernel)
          · rcases (by omega : k = 0 ∨ k = 1 ∨ k = 2 ∨ k = 3) with rfl | rfl | rfl | rfl
            · rw [k0, Nat.add_zero, a]; decide
            · rw [s1 i0, a, b]; decide
            · rw [s2 i1, a, b, c]; decide
            · rw [s3 i2, a, b, c, d]; decide
        · rw [if_neg d]
          refine ⟨by omega, ?_, fun k hk => ?_, by rw [s3 i2, a, b, c]; decide⟩
          · rw [s3 i2, a, b, c]; exact stop_ne 42 d (by decide) (by decide +kernel)
          · rcases (by omega : k = 0 ∨ k = 1 ∨ k = 2) with rfl | rfl | rfl
            · rw [k0, Nat.add_zero, a]; decide
            · rw [s1 i0, a, b]; decide
            · rw [s2 i1, a, b, c]; decide
      · rw [if_neg c] at h ⊢
        by_cases d : B s (p + 2) = 42
        · have i2 := B_in (s := s) (i := p + 2) (by omega)
          rw [if_pos d]
          refine ⟨by omega, ?_, fun k hk => ?_, by rw [s3 i2, a, b, d]; decide⟩
          · rw [s3 i2, a, b, d]; exact stop_of (by decide +kernel)
          · rcases (by omega : k = 0 ∨ k = 1 ∨ k = 2) with rfl | rfl | rfl
            · rw [k0, Nat.add_zero, a]; decide
            · rw [s1 i0, a, b]; decide
            · rw [s2 i1, a, b, d]; decide
        · rw [if_neg d]
          refine ⟨by omega, ?_, fun k hk => ?_, by rw [s2 i1, a, b]; decide⟩
          · rw [s2 i1, a, b]; exact stop_ne2 60 42 c d (by decide) (by decide) (by decide +kernel)
          · rcases (by omega : k = 0 ∨ k = 1) with rfl | rfl
            · rw [k0, Nat.add_zero, a]; decide
            · rw [s1 i0, a, b]; decide
    · rw [if_neg b] at h ⊢
      by_cases c : B s (p + 1) = 42
      · have i1 := B_in (s := s) (i := p + 1) (by omega)
        rw [if_pos c]
        refine ⟨by omega, ?_, fun k hk => ?_, by rw [s2 i1, a, c]; decide⟩
        · rw [s2 i1, a, c]; exact stop_of (by decide +kernel)
        · rcases (by omega : k = 0 ∨ k = 1) with rfl | rfl
          · rw [k0, Nat.add_zero, a]; decide
          · rw [s1 i0, a, c]; decide
      · rw [if_neg c]
        refine ⟨by omega, ?_, fun k hk => ?_, by rw [s1 i0, a]; decide⟩
        · rw [s1 i0, a]; exact stop_ne2 60 42 b c (by decide) (by decide) (by decide +kernel)
        · obtain rfl : k = 0 := by omega
          rw [k0, Nat.add_zero, a]; decide
  rw [if_neg a] at h ⊢
  by_cases b : B s p = 61
  · have i0 := B_in (s := s) (i := p) (by omega)
    rw [if_pos b] at h ⊢
    by_cases c : B s (p + 1) = 42
    · have i1 := B_in (s := s) (i := p + 1) (by omega)
      rw [if_pos c]
      refine ⟨by omega, ?_, fun k hk => ?_, by rw [s2 i1, b, c]; decide⟩
      · rw [s2 i1, b, c]; exact stop_of (by decide +kernel)
      · rcases (by omega : k = 0 ∨ k = 1) with rfl | rfl
        · rw [k0, Nat.add_zero, b]; decide
        · rw [s1 i0, b, c]; decide
    · rw [if_neg c]
      refine ⟨by omega, ?_, fun k hk => ?_, by rw [s1 i0, b]; decide⟩
      · rw [s1 i0, b]; exact stop_ne 42 c (by decide) (by decide +kernel)
      · obtain rfl : k = 0 := by omega
        rw [k0, Nat.add_zero, b]; decide
  rw [if_neg b] at h ⊢
  by_cases c : B s p = 38 ∨ B s p = 47 ∨ B s p = 45
  · have i0 := B_in (s := s) (i := p) (by omega)
    rw [if_pos c]
    refine ⟨by omega, ?_, fun k hk => ?_, ?_⟩
    · rw [s1 i0]; rcases c with c | c | c <;> (rw [c]; exact stop_of (by decide +kernel))
    · obtain rfl : k = 0 := by omega
      rw [k0, Nat.add_zero]; rcases c with c | c | c <;> (rw [c]; decide)
    · rw [s1 i0]; rcases c with c | c | c <;> (rw [c]; decide)
  · rw [if_neg c] at h; exact absurd rfl h

def BT (s : ByteArray) (i : Nat) (c : Sc) (T : List Tk) : Prop :=
  ∃ cc : Sc, cc.here = plNext s c.here i ∧ cc.toks = T ∧ tokenS s { c with here := plNext s c.here i } (rU s i : Nat) = betweenS s cc (rU s i : Nat)
def Fu (s : ByteArray) (i f : Nat) : Prop := s.size + 1 ≤ i + f
section
variable {s : ByteArray} {i f : Nat} {c c2 : Sc}
theorem run_step (ha : Ahead s i c) (hi : i < s.size) (hf : Fu s i f) (ht : tokenS s { c with here := plNext s c.here i } (rU s i : Nat) = .ok c2) :
    ∃ f', runS s f i c = runS s f' (i + (Utf8.decode s i).2) c2 ∧ Ahead s (i + (Utf8.decode s i).2) c2 ∧ Fu s (i + (Utf8.decode s i).2) f' ∧ c2.here = plNext s c.here i := by
  unfold Fu at hf ⊢
  obtain ⟨g, rfl⟩ : ∃ g, f = g + 1 := ⟨f - 1, by omega⟩
  rw [rU_in hi] at ht
  obtain ⟨h1, h2⟩ := ha.step hi ht
  have hw := (dec_width s i hi).1
  exact ⟨g, run_to hi ht, h1, by omega, h2⟩
theorem run_bad {no : Nat} {p : Pl} (hi : i ≤ s.size) (hf : Fu s i f) (ht : tokenS s { c with here := plNext s c.here i } (rU s i : Nat) = .bad no p) : runS s f i c = .bad no p := by
  unfold Fu at hf
  obtain ⟨g, rfl⟩ : ∃ g, f = g + 1 := ⟨f - 1, by omega⟩
  rw [runS, if_pos (by omega)]
  by_cases h : i < s.size
  · rw [rU_in h] at ht
    rw [decode_nl s i h, ht]
  · obtain rfl : i = s.size := by omega
    rw [rU_out h] at ht
    rw [decode_end, ht]
theorem run_fin (hf : Fu s s.size f) (ht : tokenS s { c with here := plNext s c.here s.size } (10 : Nat) = .ok c2) : runS s f s.size c = .ok c2 := by
  unfold Fu at hf
  obtain ⟨g, rfl⟩ : ∃ g, f = g + 1 := ⟨f - 1, by omega⟩
  rw [runS, if_pos (by omega), decode_end, ht]
  show runS s g (s.size + 1) c2 = .ok c2
  cases g with
  | zero => rfl
  | succ g => rw [runS, if_neg (by omega)]
theorem Ahead.pl (ha : Ahead s i c) : (∃ n, plN s n = plNext s c.here i) ∧ (plNext s c.here i).2.2 = i := ⟨ha.js.here, (plNext_ix s c.here i).1⟩
theorem BT.of0 (h0 : c.st = 0) : BT s i c c.toks := ⟨{ c with here := plNext s c.here i }, rfl, rfl, token0 h0⟩
theorem asc_fit {j : Nat} (hij : i < j) (hj : B s j < 128) (hjz : j < s.size) : i + (Utf8.decode s i).2 ≤ j := by
  have hi : i < s.size := by omega
  by_cases hw : (Utf8.decode s i).2 = 1
  · omega
  have h128 : 128 ≤ (Utf8.decode s i).1 := by
    by_cases h : (Utf8.decode s i).1 < 128
    · exact absurd (dec_r_lo h).2 hw
    · omega
  by_cases hle : i + (Utf8.decode s i).2 ≤ j
  · exact hle
  · exfalso
    have := dec_hi_bytes h128 (fun h => hw h.2) (j - i) (by omega)
    rw [show i + (j - i) = j by omega] at this
    omega
end
end Go.Proofs.YtbnnhbmnddaafaaGreatDoor
/- What the scanner's run makes of blanks, remarks, signs, options. No run in this text. -/
namespace Go.Proofs.YtbnnhbmnddaafaaGreatDoor
open Go Go.RowKit Go.Kt Go.Kt.Rg Go.Shelf Go.Lib

theorem xfindF_spec (s : ByteArray) (c : Nat) : ∀ (f i : Nat), i ≤ s.size → s.size ≤ i + f →
    (xfindF s (c : Nat) f i = -1 ∧ ∀ j, i ≤ j → j < s.size → B s j ≠ c) ∨ ∃ j, xfindF s (c : Nat) f i = (j : Nat) ∧ i ≤ j ∧ j < s.size ∧ B s j = c ∧ ∀ k, i ≤ k → k < j → B s k ≠ c := by
  intro f
  induction f with
  | zero => intro i h1 h2; exact .inl ⟨rfl, fun j h3 h4 => by omega⟩
  | succ f ih =>
    intro i h1 h2
    rw [xfindF]
    by_cases hi : i < s.size
    · rw [if_pos hi]
      by_cases hb : B s i = c
      · rw [if_pos (by rw [bAt_B, hb])]
        exact .inr ⟨i, rfl, Nat.le_refl _, hi, hb, fun k h3 h4 => by omega⟩
      · rw [if_neg (by rw [bAt_B]; omega)]
        rcases ih (i + 1) (by omega) (by omega) with ⟨e, h⟩ | ⟨j, e, h3, h4, h5, h6⟩
        · refine .inl ⟨e, fun j h3 h4 => ?_⟩
          rcases Nat.lt_or_ge i j with h | h
          · rename_i hh; exact hh j (by omega) h4
          · obtain rfl : j = i := by omega
            exact hb
        · refine .inr ⟨j, e, by omega, h4, h5, fun k h7 h8 => ?_⟩
          rcases Nat.lt_or_ge i k with h | h
          · exact h6 k (by omega) h8
          · obtain rfl : k = i := by omega
            exact hb
    · rw [if_neg hi]
      exact .inl ⟨rfl, fun j h3 h4 => by omega⟩
theorem xfindI_spec (s : ByteArray) (c i : Nat) (hi : i ≤ s.size) :
    (xfindI s (c : Nat) i = -1 ∧ ∀ j, i ≤ j → j < s.size → B s j ≠ c) ∨ ∃ j, xfindI s (c : Nat) i = (j : Nat) ∧ i ≤ j ∧ j < s.size ∧ B s j = c ∧ ∀ k, i ≤ k → k < j → B s k ≠ c :=
  xfindF_spec s c s.size i hi (by omega)

theorem rU_two {s : ByteArray} {i : Nat} (hi : i < s.size) : (B s i < 128 ∧ rU s i = B s i) ∨ 128 ≤ B s i ∧ 128 ≤ rU s i := by
  by_cases h : B s i < 128
  · exact .inl ⟨h, rU_lo hi h⟩
  · refine .inr ⟨by omega, ?_⟩
    by_cases h2 : rU s i < 128
    · rcases rU_B h2 with ⟨_, e⟩ | ⟨h3, _⟩
      · omega
      · exact absurd hi h3
    · omega
theorem rU_is {s : ByteArray} {i a : Nat} (hi : i < s.size) (ha : a < 128) : rU s i = a ↔ B s i = a := by
  rcases rU_two hi with ⟨h, e⟩ | ⟨h, e⟩
  · rw [e]
  · constructor <;> (intro h2; omega)
theorem isBlk_hi {r : Nat} (h : 128 ≤ r) : isBlk (r : Nat) = false := by
  unfold isBlk
  simp only [Bool.or_eq_false_iff, beq_eq_false_iff_ne, ne_eq]
  omega
theorem rU_blk {s : ByteArray} {i : Nat} (hi : i < s.size) : isBlk (rU s i : Nat) = isBlk (B s i : Nat) := by
  rcases rU_two hi with ⟨h, e⟩ | ⟨h, e⟩
  · rw [e]
  · rw [isBlk_hi e, isBlk_hi h]
theorem rU_sgs {s : ByteArray} {i : Nat} (hi : i < s.size) : isSgs (rU s i : Nat) = isSgs (B s i : Nat) := by
  rcases rU_two hi with ⟨h, e⟩ | ⟨h, e⟩
  · rw [e]
  · rw [isSgs_hi _ (by omega), isSgs_hi _ (by omega)]
theorem blk_asc {b : Nat} (h : isBlk (b : Nat) = true) : b < 128 := by
  by_cases hb : b < 128
  · exact hb
  · rw [isBlk_hi (by omega)] at h; cases h

theorem run_hold {s : ByteArray} (Q : Nat → Sc → Prop) (i0 j : Nat) (hj : j ≤ s.size)
    (hst : ∀ q c, i0 ≤ q → q < j → q < s.size → Ahead s q c → Q q c → q + (Utf8.decode s q).2 ≤ j ∧ ∃ c2, tokenS s { c with here := plNext s c.here q } (rU s q : Nat) = .ok c2 ∧ Q (q + (Utf8.decode s q).2) c2) :
    ∀ (n q : Nat) (c : Sc) (f : Nat), j - q ≤ n → i0 ≤ q → q ≤ j → Ahead s q c → Q q c → Fu s q f → ∃ c' f', Ahead s j c' ∧ Q j c' ∧ Fu s j f' ∧ runS s f q c = runS s f' j c' := by
  intro n
  induction n with
  | zero =>
    intro q c f h1 h2 h3 ha hq hf
    obtain rfl : q = j := by omega
    exact ⟨c, f, ha, hq, hf, rfl⟩
  | succ n ih =>
    intro q c f h1 h2 h3 ha hq hf
    by_cases h : q < j
    · obtain ⟨hle, c2, ht, hq2⟩ := hst q c h2 h (by omega) ha hq
      obtain ⟨f', e, ha2, hf2, _⟩ := run_step ha (by omega) hf ht
      have hw := (dec_width s q (by omega)).1
      obtain ⟨c', f'', g1, g2, g3, g4⟩ := ih _ c2 f' (by omega) (by omega) hle ha2 hq2 hf2
      exact ⟨c', f'', g1, g2, g3, e.trans g4⟩
    · obtain rfl : q = j := by omega
      exact ⟨c, f, ha, hq, hf, rfl⟩
theorem fit {s : ByteArray} {q j : Nat} (hq : q < j) (hj : j = s.size ∨ j < s.size ∧ B s j < 128) : q + (Utf8.decode s q).2 ≤ j := by
  rcases hj with rfl | ⟨h1, h2⟩
  · exact (dec_width s q hq).2.2
  · exact asc_fit hq h2 h1

section
variable {s : ByteArray} {i f : Nat} {c : Sc} {T : List Tk}
theorem rem_run {q j : Nat} (hq : q ≤ j) (hj : j = s.size ∨ j < s.size ∧ B s j = 10) (hn : ∀ k, q ≤ k → k < j → B s k ≠ 10) (ha : Ahead s q c) (h1 : c.st = 1) (hT : c.toks = T) (hf : Fu s q f) :
    ∃ c' f', Ahead s j c' ∧ BT s j c' T ∧ Fu s j f' ∧ runS s f q c = runS s f' j c' := by
  have hjz : j ≤ s.size := by rcases hj with h | h <;> omega
  obtain ⟨c', f', g1, ⟨g2, g3⟩, g4, g5⟩ := run_hold (s := s) (fun _ c => c.st = 1 ∧ c.toks = T) q j hjz (fun q2 c2 h2 h3 h4 _ hc => by
    refine ⟨fit h3 (by rcases hj with h | h; exact .inl h; exact .inr ⟨h.1, by omega⟩), ?_⟩
    have hne : rU s q2 ≠ 10 := fun h => hn q2 h2 h3 ((rU_is h4 (by decide)).1 h)
    obtain ⟨c3, e1, e2, e3⟩ := rem_step (s := s) (c := { c2 with here := plNext s c2.here q2 }) (r := (rU s q2 : Nat)) hc.1 (by omega)
    exact ⟨c3, e1, e2, e3.trans hc.2⟩) (j - q) q c f (Nat.le_refl _) (Nat.le_refl _) hq ha ⟨h1, hT⟩ hf
  refine ⟨c', f', g1, ⟨{ c' with here := plNext s c'.here j, st := 1 }, rfl, g3, ?_⟩, g4, g5⟩
  have hr : rU s j = 10 := by
    rcases hj with h | ⟨h, hb⟩
    · exact rU_out (by omega)
    · exact (rU_is h (by decide)).2 hb
  rw [hr]
  unfold tokenS
  rw [if_neg (by simp [g2]), if_pos (by simp [g2])]
  unfold remarkS
  rw [if_pos (by decide)]
theorem BT.step {c2 : Sc} {cc : Sc} {r : Int} (h : tokenS s { c with here := plNext s c.here i } r = betweenS s cc r) (hb : betweenS s cc r = .ok c2) : tokenS s { c with here := plNext s c.here i } r = .ok c2 := h.trans hb

def xpastF (s : ByteArray) : Nat → Nat → Nat
  | 0, i => i
  | f + 1, i => if i < s.size then (if isBlk (B s i : Nat) = true then xpastF s f (i + 1) else if B s i = 35 then (if xfindI s (10 : Nat) i < 0 then s.size else xpastF s f (xfindI s (10 : Nat) i).toNat) else i) else i
theorem past_run : ∀ (g i : Nat) (c : Sc) (f : Nat), Ahead s i c → BT s i c T → s.size ≤ i + g → Fu s i f →
    xpastF s g i ≤ s.size ∧ i ≤ xpastF s g i ∧ (xpastF s g i < s.size → isBlk (B s (xpastF s g i) : Nat) = false ∧ B s (xpastF s g i) ≠ 35) ∧
    ∃ c' f', Ahead s (xpastF s g i) c' ∧ BT s (xpastF s g i) c' T ∧ Fu s (xpastF s g i) f' ∧ runS s f i c = runS s f' (xpastF s g i) c' := by
  intro g
  induction g with
  | zero =>
    intro i c f ha hb hg hf
    have := ha.le
    rw [xpastF]
    exact ⟨this, Nat.le_refl _, fun h => by omega, c, f, ha, hb, hf, rfl⟩
  | succ g ih =>
    intro i c f ha hb hg hf
    have hle := ha.le
    rw [xpastF]
    by_cases hi : i < s.size
    · rw [if_pos hi]
      obtain ⟨cc, b1, b2, b3⟩ := hb
      by_cases hk : isBlk (B s i : Nat) = true
      · rw [if_pos hk]
        have hbs : betweenS s cc (rU s i : Nat) = .ok { cc with st := 0, «from» := cc.here } := by
          unfold betweenS
          rw [if_pos (by rw [rU_blk hi]; exact hk)]
        obtain ⟨f', e, ha2, hf2, _⟩ := run_step ha hi hf (b3.trans hbs)
        have hw : (Utf8.decode s i).2 = 1 := by rw [dec_lo s i (blk_asc hk)]
        rw [hw] at e ha2 hf2
        obtain ⟨q1, q2, q3, c', f'', q4, q5, q6, q7⟩ := ih (i + 1) _ f' ha2 (by have := BT.of0 (s := s) (i := i + 1) (c := { cc with st := 0, «from» := cc.here }) rfl; rw [← b2]; exact this) (by omega) hf2
        exact ⟨q1, by omega, q3, c', f'', q4, q5, q6, e.trans q7⟩
      · rw [if_neg hk]
        by_cases h35 : B s i = 35
        · rw [if_pos h35]
          have hr : rU s i = 35 := (rU_is hi (by decide)).2 h35
          have hbs : betweenS s cc (rU s i : Nat) = .ok { cc with st := 1, «from» := cc.here } := by rw [hr]; exact between35 s cc
          obtain ⟨f', e, ha2, hf2, _⟩ := run_step ha hi hf (b3.trans hbs)
          have hw : (Utf8.decode s i).2 = 1 := by rw [dec_lo s i (by omega)]
          rw [hw] at e ha2 hf2
          rcases xfindI_spec s 10 i hle with ⟨e1, h1⟩ | ⟨j, e1, h1, h2, h3, h4⟩
          · rw [if_pos (by rw [e1]; decide)]
            obtain ⟨c', f'', q4, q5, q6, q7⟩ := rem_run (T := T) (q := i + 1) (j := s.size) (by omega) (.inl rfl) (fun k h2 h3 => h1 k (by omega) h3) ha2 rfl b2 hf2
            exact ⟨Nat.le_refl _, hle, fun h => absurd h (Nat.lt_irrefl _), c', f'', q4, q5, q6, e.trans q7⟩
          · rw [e1, if_neg (by omega), Int.toNat_natCast]
            have hij : i < j := by
              rcases Nat.lt_or_ge i j with h | h
              · exact h
              · obtain rfl : j = i := by omega
                omega
            obtain ⟨c', f'', q4, q5, q6, q7⟩ := rem_run (T := T) (q := i + 1) (j := j) (by omega) (.inr ⟨h2, h3⟩) (fun k h5 h6 => h4 k (by omega) h6) ha2 rfl b2 hf2
            obtain ⟨p1, p2, p3, c3, f3, p4, p5, p6, p7⟩ := ih j c' f'' q4 q5 (by omega) q6
            exact ⟨p1, by omega, p3, c3, f3, p4, p5, p6, e.trans (q7.trans p7)⟩
        · rw [if_neg h35]
          exact ⟨hle, Nat.le_refl _, fun _ => ⟨by simpa using hk, h35⟩, c, f, ha, ⟨cc, b1, b2, b3⟩, hf, rfl⟩
    · rw [if_neg hi]
      exact ⟨hle, Nat.le_refl _, fun h => absurd h hi, c, f, ha, hb, hf, rfl⟩

theorem sgnN_hi (h : 128 ≤ B s i) : sgnN s i = 0 := by
  unfold sgnN
  rw [if_neg (by omega), if_neg (by omega), if_neg (by omega)]
theorem sgn_first (hi : i < s.size) : isSgn (encL (rU s i : Nat)) = true ↔ sgnN s i ≠ 0 := by
  rcases rU_two hi with ⟨h, e⟩ | ⟨h, e⟩
  · rw [e, encL_lo _ h]
    have h1 : isSgn [UInt8.ofNat (B s i)] = true ↔ B s i = 60 ∨ B s i = 61 ∨ B s i = 38 ∨ B s i = 47 ∨ B s i = 45 := by
      generalize B s i = b at h
      revert h
      exact (by decide +kernel : ∀ b, b < 128 → (isSgn [UInt8.ofNat b] = true ↔ b = 60 ∨ b = 61 ∨ b = 38 ∨ b = 47 ∨ b = 45)) b
    rw [h1]
    unfold sgnN
    repeat' split
    all_goals (constructor <;> intro h2 <;> omega)
  · have := sgn_hi (s := s) (i := i) [] e
    rw [List.nil_append] at this
    rw [this, sgnN_hi h]
    simp
theorem sign_run {p : Nat} (ha : Ahead s p c) (hb : BT s p c T) (hf : Fu s p f) (hp : p < s.size) (hk : isBlk (B s p : Nat) = false) (h35 : B s p ≠ 35) (hn : sgnN s p ≠ 0) :
    ∃ c' f', Ahead s (p + sgnN s p) c' ∧ BT s (p + sgnN s p) c' (T ++ [⟨2, seg s p (p + sgnN s p), plNext s c.here p⟩]) ∧ Fu s (p + sgnN s p) f' ∧ runS s f p c = runS s f' (p + sgnN s p) c' := by
  obtain ⟨z1, z2, z3, _⟩ := sgn_stop s p hn
  obtain ⟨cc, b1, b2, b3⟩ := hb
  have hbs : betweenS s cc (rU s p : Nat) = .ok { cc with st := 2, «from» := cc.here } := by
    unfold betweenS
    rw [if_neg (by rw [rU_blk hp, hk]; decide), if_neg (by have := rU_is (s := s) hp (show 35 < 128 by decide); omega), if_pos ((sgn_first hp).2 hn)]
  obtain ⟨f', e, ha2, hf2, _⟩ := run_step ha hp hf (b3.trans hbs)
  have hw : (Utf8.decode s p).2 = 1 := by rw [dec_lo s p (by have := (z3 0 (by omega)).1; simpa using this)]
  rw [hw] at e ha2 hf2
  have hpl : (plNext s c.here p).2.2 = p := (plNext_ix s c.here p).1
  have hsince : ∀ (c2 : Sc) (q : Nat), c2.from = plNext s c.here p → sinceL s { c2 with here := plNext s c2.here q } = seg s p q := fun c2 q h => by
    unfold sinceL
    simp only [h, hpl, (plNext_ix s c2.here q).1]
    rfl
  obtain ⟨c', f'', g1, ⟨g2, g3, g4⟩, g5, g6⟩ := run_hold (s := s) (fun _ c2 => c2.st = 2 ∧ c2.from = plNext s c.here p ∧ c2.toks = T) (p + 1) (p + sgnN s p) z1 (fun q c2 h1 h2 h3 _ hc => by
    obtain ⟨y1, y2⟩ := z3 (q - p) (by omega)
    rw [show p + (q - p) = q by omega] at y1 y2
    have hw2 : (Utf8.decode s q).2 = 1 := by rw [dec_lo s q y1]
    rw [hw2]
    refine ⟨by omega, { c2 with here := plNext s c2.here q, st := 2 }, ?_, rfl, hc.2.1, hc.2.2⟩
    unfold tokenS
    rw [if_neg (by simp [hc.1]), if_neg (by simp [hc.1]), if_pos (by simp [hc.1])]
    unfold signS
    rw [hsince c2 q hc.2.1, rU_lo h3 y1, if_pos y2]) (sgnN s p - 1) (p + 1) _ f' (by omega) (Nat.le_refl _) (by omega) ha2 ⟨rfl, b1, b2⟩ hf2
  refine ⟨c', f'', g1, ⟨addT { c' with here := plNext s c'.here (p + sgnN s p), st := 2 } 2 (seg s p (p + sgnN s p)), rfl, ?_, ?_⟩, g5, e.trans g6⟩
  · unfold addT
    simp only [g3, g4]
  · unfold tokenS
    rw [if_neg (by simp [g2]), if_neg (by simp [g2]), if_pos (by simp [g2])]
    unfold signS
    rw [hsince c' _ g3, if_neg (by rw [z2]; decide)]
theorem option_run {p : Nat} (ha : Ahead s p c) (hb : BT s p c T) (hf : Fu s p f) (hp : p < s.size) (h91 : B s p = 91) :
    (∀ j, p ≤ j → j < s.size → B s j = 93 → (∀ k, p ≤ k → k < j → B s k ≠ 93) → ∃ c' f', Ahead s (j + 1) c' ∧ BT s (j + 1) c' (T ++ [⟨3, evnV (s.extract (p + 1) j), plNext s c.here p⟩]) ∧ Fu s (j + 1) f' ∧ runS s f p c = runS s f' (j + 1) c') ∧
    ((∀ j, p ≤ j → j < s.size → B s j ≠ 93) → finS (runS s f p c) = .bad 25 (plNext s c.here p).1 (plNext s c.here p).2.1) := by
  obtain ⟨cc, b1, b2, b3⟩ := hb
  have hr : rU s p = 91 := (rU_is hp (by decide)).2 h91
  have hbs : betweenS s cc (rU s p : Nat) = .ok { cc with st := 3, «from» := cc.here } := by
    rw [hr]
    unfold betweenS
    rw [if_neg (by decide), if_neg (by decide), if_neg (by decide), if_pos (by decide)]
  obtain ⟨f', e, ha2, hf2, _⟩ := run_step ha hp hf (b3.trans hbs)
  have hw : (Utf8.decode s p).2 = 1 := by rw [dec_lo s p (by omega)]
  rw [hw] at e ha2 hf2
  have hpl : (plNext s c.here p).2.2 = p := (plNext_ix s c.here p).1
  have hold : ∀ j, p < j → (j = s.size ∨ j < s.size ∧ B s j = 93) → (∀ k, p ≤ k → k < j → B s k ≠ 93) → ∃ c' f'', Ahead s j c' ∧ (c'.st = 3 ∧ c'.from = plNext s c.here p ∧ c'.toks = T) ∧ Fu s j f'' ∧ runS s f' (p + 1) { cc with st := 3, «from» := cc.here } = runS s f'' j c' := fun j hj1 hj2 hj3 => by
    refine run_hold (s := s) (fun _ c2 => c2.st = 3 ∧ c2.from = plNext s c.here p ∧ c2.toks = T) (p + 1) j (by rcases hj2 with h | h <;> omega) (fun q c2 h1 h2 h3 _ hc => ?_) (j - (p + 1)) (p + 1) _ f' (Nat.le_refl _) (Nat.le_refl _) (by omega) ha2 ⟨rfl, b1, b2⟩ hf2
    refine ⟨fit h2 (by rcases hj2 with h | h; exact .inl h; exact .inr ⟨h.1, by omega⟩), { c2 with here := plNext s c2.here q, st := 3 }, ?_, rfl, hc.2.1, hc.2.2⟩
    have hne : rU s q ≠ 93 := fun h => hj3 q (by omega) h2 ((rU_is h3 (by decide)).1 h)
    unfold tokenS
    rw [if_neg (by simp [hc.1]), if_neg (by simp [hc.1]), if_neg (by simp [hc.1]), if_pos (by simp [hc.1])]
    unfold optionS
    rw [if_neg (by omega)]
  refine ⟨fun j hj1 hj2 hj3 hj4 => ?_, fun hj => ?_⟩
  · have hpj : p < j := by
      rcases Nat.lt_or_ge p j with h | h
      · exact h
      · obtain rfl : j = p := by omega
        omega
    obtain ⟨c', f'', g1, ⟨g2, g3, g4⟩, g5, g6⟩ := hold j hpj (.inr ⟨hj2, hj3⟩) hj4
    have hrj : rU s j = 93 := (rU_is hj2 (by decide)).2 hj3
    have hx : (plNext s c'.here j).2.2 = j := (plNext_ix s c'.here j).1
    have ht : tokenS s { c' with here := plNext s c'.here j } (rU s j : Nat) = .ok { addT { c' with here := plNext s c'.here j, st := 3 } 3 (evnV (s.extract (p + 1) j)) with st := 0 } := by
      rw [hrj]
      unfold tokenS
      rw [if_neg (by simp [g2]), if_neg (by simp [g2]), if_neg (by simp [g2]), if_pos (by simp [g2])]
      unfold optionS
      rw [if_pos (by decide)]
      simp only [g3, hpl, hx]
    obtain ⟨f3, e3, ha3, hf3, _⟩ := run_step g1 hj2 g5 ht
    have hw3 : (Utf8.decode s j).2 = 1 := by rw [dec_lo s j (by omega)]
    rw [hw3] at e3 ha3 hf3
    refine ⟨_, f3, ha3, ?_, hf3, e.trans (g6.trans e3)⟩
    have := BT.of0 (s := s) (i := j + 1) (c := { addT { c' with here := plNext s c'.here j, st := 3 } 3 (evnV (s.extract (p + 1) j)) with st := 0 }) rfl
    have ht2 : ({ addT { c' with here := plNext s c'.here j, st := 3 } 3 (evnV (s.extract (p + 1) j)) with st := 0 } : Sc).toks = T ++ [⟨3, evnV (s.extract (p + 1) j), plNext s c.here p⟩] := by
      unfold addT
      simp only [g3, g4]
    rw [ht2] at this
    exact this
  · obtain ⟨c', f'', g1, ⟨g2, g3, g4⟩, g5, g6⟩ := hold s.size hp (.inl rfl) hj
    have ht : tokenS s { c' with here := plNext s c'.here s.size } (10 : Nat) = .ok { c' with here := plNext s c'.here s.size, st := 3 } := by
      unfold tokenS
      rw [if_neg (by simp [g2]), if_neg (by simp [g2]), if_neg (by simp [g2]), if_pos (by simp [g2])]
      unfold optionS
      rw [if_neg (by decide)]
    rw [e, g6, run_fin g5 ht]
    show endS _ = _
    unfold endS
    rw [if_pos rfl]
    simp only [g3]
end
end Go.Proofs.YtbnnhbmnddaafaaGreatDoor
/- The points of a text, and the text of its points: the mathematics. -/
namespace Go.Proofs.YtbnnhbmnddaafaaGreatDoor
open Go Go.RowKit Go.Kt Go.Shelf

theorem ptU_cases (s : ByteArray) (i : Nat) (h : i < s.size) :
    (Utf8.decode s i = (65533, 1) ∧ ptU s i = (1114112 + B s i, 1) ∧ 128 ≤ B s i) ∨
    (∃ w : Nat, 1 ≤ w ∧ w ≤ 4 ∧ i + w ≤ s.size ∧ wideI s i = w ∧ Utf8.decode s i ≠ (65533, 1) ∧ ptU s i = Utf8.decode s i ∧ (Utf8.decode s i).2 = w ∧ charB (Utf8.decode s i).1 = true ∧ bytesP (Utf8.decode s i).1 = seg s i (i + w)) := by
  by_cases hd : Utf8.decode s i = (65533, 1)
  · refine .inl ⟨hd, by unfold ptU; rw [if_pos hd], ?_⟩
    rcases Nat.lt_or_ge (B s i) 128 with hb | hb
    · have := decode_B s i
      rw [hd] at this
      unfold Lib.decodeN at this
      rw [if_pos hb] at this
      injection this with h1 _
      omega
    · exact hb
  · refine .inr ?_
    rcases unit_at s i h with ⟨_, e⟩ | ⟨w, h1, h4, hw, he, e2, _⟩
    · exact absurd e hd
    · obtain ⟨q1, q2⟩ := encode_decode s i w h h1 h4 he
      have hc : charB ((Utf8.decode s i).1 : Int) = true := by rw [← valid_char2]; exact q2
      exact ⟨w, h1, h4, hw, he, hd, by unfold ptU; rw [if_neg hd], e2, hc, by rw [bytesP_char _ hc]; exact q1⟩

theorem ptU_point (s : ByteArray) (i : Nat) (h : i < s.size) : pointB (ptU s i).1 = true := by
  rcases ptU_cases s i h with ⟨_, e, hb⟩ | ⟨w, _, _, _, _, _, e, _, hc, _⟩
  · have := B_lt s i
    rw [e, pointB_iff]
    right
    simp
    omega
  · rw [e]
    unfold pointB
    rw [hc]
    rfl
theorem ptU_bytes (s : ByteArray) (i : Nat) (h : i < s.size) : bytesP (ptU s i).1 = seg s i (i + (ptU s i).2) := by
  rcases ptU_cases s i h with ⟨_, e, hb⟩ | ⟨w, _, _, _, _, _, e, e2, _, hq⟩
  · have := B_lt s i
    rw [e]
    rw [seg_range s i 1 (by omega)]
    unfold bytesP
    rw [if_pos (by omega)]
    have : ((1114112 + B s i : Nat) : Int) - 1114112 = B s i := by omega
    rw [this]
    simp
  · rw [e, hq, e2]
theorem pts_points (s : ByteArray) : ∀ x ∈ pts s, pointB x = true := by
  intro x hx
  obtain ⟨p, hp, rfl⟩ := List.mem_map.1 hx
  exact ptU_point s p.1 (units_dec s s.size 0 p hp).2
end Go.Proofs.YtbnnhbmnddaafaaGreatDoor
/- The document's answer for scan: begins, number, past, Place, Lines. -/
namespace Go.Proofs.YtbnnhbmnddaafaaGreatDoor
open Go Go.RowKit Go.Kt Go.Kt.Rg Go.Shelf Go.Lib
attribute [local go_sem] Oper.semAt_some

def begL (s : ByteArray) (i : Nat) (t : List UInt8) : Bool := decide (i + t.length ≤ s.size) && (seg s i (i + t.length) == t)
set_option maxRecDepth 100000 in
theorem xbegins_any (s t : ByteArray) (i : Nat) (w : World) (hs : s.size ≤ 140737488351232) (ht : t.size ≤ 100) (hi : i ≤ s.size + 10) :
    Calls Tryz.prog 97 #[.string s, .int .i64 (i : Nat), .string t] w fun e w' => e = .returned (.bool (begL s i t.data.toList)) ∧ w = w' := by
  have hw : IntKind.i64.wrap ((i : Int) + (t.size : Int)) = (i : Int) + t.size := IntWalk.i64_in _ (by omega)
  have hl : t.data.toList.length = t.size := (Lib.size_eq t).symm
  by_cases h : i + t.size ≤ s.size
  · have h1 : (i : Int) + (t.size : Int) ≤ s.size := by omega
    have h2 : (0 : Int) ≤ i := by omega
    have h3 : (i : Int) ≤ (i : Int) + t.size := by omega
    have h4 : ((i : Int) + (t.size : Int)).toNat = i + t.size := by omega
    have HR : Hid (((s.extract i (i + t.size)).toList == t.toList) = begL s i t.data.toList) := Lib.hid (by
      unfold begL seg
      rw [hl, decide_eq_true h, Bool.true_and, ByteArray.toList_eq, ByteArray.toList_eq])
    clear hl h
    go_enter Tryz.func97, Tryz.ntmps97
    go_wp2
    go_ret
    rw [← HR.out]
    exact ⟨rfl, rfl⟩
  · have h1 : ¬ (i : Int) + (t.size : Int) ≤ s.size := by omega
    have HR : Hid (begL s i t.data.toList = false) := Lib.hid (by
      unfold begL
      rw [hl, decide_eq_false h, Bool.false_and])
    clear hl h
    go_enter Tryz.func97, Tryz.ntmps97
    go_wp2
    go_ret
    rw [HR.out]
    exact ⟨rfl, rfl⟩

def xnumF (s : ByteArray) : Nat → Nat → Int → Int
  | 0, _, v => v
  | n + 1, k, v => if xdigI (bAt s k) < 0 then -1 else xnumF s n (k + 1) (v * 16 + xdigI (bAt s k))
def xnumI (s : ByteArray) (i e least most : Nat) : Int := if e - i < least ∨ most < e - i ∨ s.size < e then -1 else xnumF s (e - i) i 0
theorem xdig_bd (c : Int) : -1 ≤ xdigI c ∧ xdigI c ≤ 15 := by unfold xdigI; repeat' split <;> omega
set_option maxRecDepth 100000 in
theorem xnumber_any (s : ByteArray) (i e least most : Nat) (w : World) (hs : s.size ≤ 140737488351232) (hi : i ≤ e) (he : e ≤ s.size + 10) (_hl : least ≤ 6) (hm : most ≤ 6) :
    Calls Tryz.prog 117 #[.string s, .int .i64 (i : Nat), .int .i64 (e : Nat), .int .i64 (least : Nat), .int .i64 (most : Nat)] w fun r w' => r = .returned (.int .i64 (xnumI s i e least most)) ∧ w = w' := by
  have hw : IntKind.i64.wrap ((e : Int) - (i : Int)) = (e : Int) - i := IntWalk.i64_in _ (by omega)
  by_cases h1 : e - i < least
  · have g1 : (e : Int) - (i : Int) < (least : Nat) := by omega
    have HR : Hid (xnumI s i e least most = -1) := Lib.hid (by unfold xnumI; rw [if_pos (.inl h1)])
    clear h1
    go_enter Tryz.func117, Tryz.ntmps117
    go_wp2
    go_ret
    exact ⟨by rw [HR.out]; rfl, rfl⟩
  have g1 : ¬ (e : Int) - (i : Int) < (least : Nat) := by omega
  by_cases h2 : most < e - i
  · have g2 : ((most : Nat) : Int) < (e : Int) - (i : Int) := by omega
    have HR : Hid (xnumI s i e least most = -1) := Lib.hid (by unfold xnumI; rw [if_pos (.inr (.inl h2))])
    clear h1 h2
    go_enter Tryz.func117, Tryz.ntmps117
    go_wp2
    go_ret
    exact ⟨by rw [HR.out]; rfl, rfl⟩
  have g2 : ¬ ((most : Nat) : Int) < (e : Int) - (i : Int) := by omega
  by_cases h3 : s.size < e
  · have g3 : (s.size : Int) < (e : Nat) := by omega
    have HR : Hid (xnumI s i e least most = -1) := Lib.hid (by unfold xnumI; rw [if_pos (.inr (.inr h3))])
    clear h1 h2 h3
    go_enter Tryz.func117, Tryz.ntmps117
    go_wp2
    go_ret
    exact ⟨by rw [HR.out]; rfl, rfl⟩
  have g3 : ¬ (s.size : Int) < (e : Nat) := by omega
  obtain ⟨R, hR⟩ : ∃ R, xnumI s i e least most = R := ⟨_, rfl⟩
  have hR2 : xnumF s (e - i) i 0 = R := by rw [← hR]; unfold xnumI; rw [if_neg (by omega)]
  rw [hR]
  have HR := Lib.hid hR2
  clear hR hR2 h1
  go_enter Tryz.func117, Tryz.ntmps117
  go_wp2
  clear hw g1 g2 g3
  go_loop [11, 12] (fun u v => ∃ (k n : Nat) (x : Int), k + n = e ∧ i ≤ k ∧ v = .int .i64 k ∧ u = .int .i64 x ∧ 0 ≤ x ∧ (∀ m, k = i + m → x < 16 ^ m) ∧ xnumF s n k x = R) (fun _ v => e - (RowKit.intOf v).toNat)
  case atStart =>
    have h0 : ∀ m, i = i + m → (0 : Int) < 16 ^ m := fun m hm => by
      obtain rfl : m = 0 := by omega
      decide
    exact ⟨i, e - i, 0, by omega, Nat.le_refl _, rfl, rfl, by omega, h0, HR.out⟩
  case round =>
    obtain ⟨k, n, x, hkn, hik, rfl, rfl, hx0, hxm, hc⟩ := hrel
    by_cases hlt : k < e
    · have hks : k < s.size := by omega
      have HI : ∀ w, (Instr.index 9 (.string s) (.int .i64 (k : Nat))).run Tryz.prog w = .ok (.int .u8 (bAt s k)) w := fun w => run_bAt s k hks w
      have l0 := bAt_lo s k
      have u0 := bAt_hi s k
      have CD := Lib.hid (fun V => xdigit_any (bAt s k) V l0 u0)
      obtain ⟨n, rfl⟩ : ∃ m, n = m + 1 := ⟨n - 1, by omega⟩
      rw [xnumF] at hc
      obtain ⟨db, du⟩ := xdig_bd (bAt s k)
      have hx6 : x < 16 ^ 6 := by
        obtain ⟨m, rfl⟩ : ∃ m, k = i + m := ⟨k - i, by omega⟩
        have h := hxm m rfl
        have h2 : (16 : Nat) ^ m ≤ 16 ^ 6 := Nat.pow_le_pow_right (by decide) (by omega)
        have h3 : ((16 ^ m : Nat) : Int) = (16 : Int) ^ m := by rw [Int.natCast_pow]; rfl
        omega
      have hstep : ∀ d : Int, 0 ≤ d → d ≤ 15 → ∀ m, k + 1 = i + m → x * 16 + d < 16 ^ m := fun d d0 d1 m hm => by
        obtain ⟨m', rfl⟩ : ∃ m', m = m' + 1 := ⟨m - 1, by omega⟩
        have h := hxm m' (by omega)
        rw [Int.pow_succ]
        omega
      generalize xdigI (bAt s k) = d at *
      generalize bAt s k = b at *
      have hlt' : (k : Int) < e := by omega
      by_cases hd : d < 0
      · rw [if_pos hd] at hc
        have HT := Lib.hid hc
        clear hc hxm hstep hx6 hkn h2 h3
        go_wp2_with fail
        refine (CD.out _).mono ?_
        rintro r w1 ⟨rfl, rfl⟩
        go_wp2
        go_ret
        exact ⟨by rw [← HT.out]; rfl, rfl⟩
      · rw [if_neg hd] at hc
        have HT := Lib.hid (And.intro hc (hstep d (by omega) du))
        have w1' : IntKind.i64.wrap (x * 16) = x * 16 := IntWalk.i64_in _ (by omega)
        have w2' : IntKind.i64.wrap (x * 16 + d) = x * 16 + d := IntWalk.i64_in _ (by omega)
        have hx2 : 0 ≤ x * 16 + d := by omega
        have HM := Lib.hid hkn
        clear hc hxm hstep hkn h2 h3 hx6
        go_wp2_with fail
        refine (CD.out _).mono ?_
        rintro r w1 ⟨rfl, rfl⟩
        go_wp2
        go_round
        case rel => exact ⟨k + 1, n, x * 16 + d, by have := HM.out; omega, by omega, by go_num, rfl, hx2, HT.out.2, HT.out.1⟩
        case measure => simp [RowKit.intOf]; omega
    · obtain rfl : n = 0 := by omega
      have HT := Lib.hid hc
      have hge : ¬ (k : Int) < e := by omega
      clear hc hxm h2 h3 hkn
      go_wp2
      go_ret
      exact ⟨by rw [← HT.out]; rfl, rfl⟩

set_option maxRecDepth 100000 in
theorem xpast_any (s : ByteArray) (i : Nat) (w : World) (hs : s.size ≤ 140737488351232) (hi : i ≤ s.size) :
    Calls Tryz.prog 53 #[.string s, .int .i64 (i : Nat)] w fun e w' => e = .returned (.int .i64 (xpastF s (s.size + 1) i : Nat)) ∧ w = w' := by
  obtain ⟨R, hR⟩ : ∃ R, xpastF s (s.size + 1) i = R := ⟨_, rfl⟩
  rw [hR]
  have HR := Lib.hid hR
  clear hR
  go_enter Tryz.func53, Tryz.ntmps53
  go_wp2
  go_loop [1] (fun v => ∃ k f : Nat, k ≤ s.size ∧ s.size + 1 ≤ k + f ∧ v = .int .i64 k ∧ xpastF s f k = R) (fun v => s.size - (RowKit.intOf v).toNat)
  case atStart => exact ⟨i, s.size + 1, hi, by omega, rfl, HR.out⟩
  case round =>
    obtain ⟨k, f, hk, hf, rfl, hc⟩ := hrel
    obtain ⟨f, rfl⟩ : ∃ m, f = m + 1 := ⟨f - 1, by omega⟩
    rw [xpastF] at hc
    by_cases hlt : k < s.size
    · rw [if_pos hlt] at hc
      have HI : ∀ w, (Instr.index 9 (.string s) (.int .i64 (k : Nat))).run Tryz.prog w = .ok (.int .u8 (bAt s k)) w := fun w => run_bAt s k hlt w
      have hlt' : (k : Int) < s.size := by omega
      have CB := Lib.hid (fun V => xBlank_any (bAt s k) V)
      have CF := Lib.hid (fun V => xfind_any s k 10 V hs (by omega))
      rw [← bAt_B] at hc
      by_cases hb : isBlk (bAt s k) = true
      · rw [if_pos hb] at hc
        rw [hb] at CB
        have HT := Lib.hid hc
        generalize bAt s k = b at *
        clear hc hb
        go_wp2_with fail
        refine (CB.out _).mono ?_
        rintro r w1 ⟨rfl, rfl⟩
        go_wp2
        go_round
        case rel => exact ⟨k + 1, f, by omega, by omega, by go_num, HT.out⟩
        case measure => simp [RowKit.intOf]; omega
      · rw [if_neg hb] at hc
        have hb' : isBlk (bAt s k) = false := by simpa using hb
        rw [hb'] at CB
        by_cases h35 : B s k = 35
        · rw [if_pos h35] at hc
          have hbb : bAt s k = 35 := by rw [bAt_B, h35]; rfl
          rw [hbb] at HI CB
          rcases xfindI_spec s 10 k hk with ⟨e1, h1⟩ | ⟨j, e1, h1, h2, h3, h4⟩
          · rw [if_pos (by rw [e1]; decide)] at hc
            rw [show xfindI s 10 k = -1 from e1] at CF
            have HT := Lib.hid hc
            clear hc hb hb' h35 hbb e1 h1
            go_wp2_with fail
            refine (CB.out _).mono ?_
            rintro r w1 ⟨rfl, rfl⟩
            go_wp2_with fail
            refine (CF.out _).mono ?_
            rintro r w1 ⟨rfl, rfl⟩
            go_wp2
            go_ret
            rw [← HT.out]; exact ⟨rfl, rfl⟩
          · rw [e1, if_neg (by omega), Int.toNat_natCast] at hc
            rw [show xfindI s 10 k = (j : Nat) from e1] at CF
            have hkj : k < j := by
              rcases Nat.lt_or_ge k j with h | h
              · exact h
              · obtain rfl : j = k := by omega
                omega
            have HT := Lib.hid hc
            have hj0 : ¬ (j : Int) < 0 := by omega
            clear hc hb hb' h35 hbb e1 h1 h3 h4
            go_wp2_with fail
            refine (CB.out _).mono ?_
            rintro r w1 ⟨rfl, rfl⟩
            go_wp2_with fail
            refine (CF.out _).mono ?_
            rintro r w1 ⟨rfl, rfl⟩
            go_wp2
            go_round
            case rel => exact ⟨j, f, by omega, by omega, rfl, HT.out⟩
            case measure => simp [RowKit.intOf]; omega
        · rw [if_neg h35] at hc
          have hbb : (bAt s k == 35) = false := by rw [bAt_B]; simp; omega
          have HT := Lib.hid hc
          generalize bAt s k = b at *
          clear hc hb hb' h35
          go_wp2_with fail
          refine (CB.out _).mono ?_
          rintro r w1 ⟨rfl, rfl⟩
          go_wp2
          go_ret
          rw [← HT.out]; exact ⟨rfl, rfl⟩
    · rw [if_neg hlt] at hc
      have HT := Lib.hid hc
      have hge : ¬ (k : Int) < s.size := by omega
      clear hc
      go_wp2
      go_ret
      rw [← HT.out]; exact ⟨rfl, rfl⟩

set_option maxRecDepth 100000 in
theorem xplace_any (s : ByteArray) (n l c at_ : Nat) (w : World) (hs : s.size ≤ 140737488351232) (hp : plN s n = (l, c, at_)) :
    Calls Tryz.prog 54 #[.string s, .int .i64 (at_ : Nat)] w fun e w' => e = .returned (.tuple #[.int .i64 (l : Nat), .int .i64 (c : Nat)]) ∧ w = w' := by
  have HP := Lib.hid hp
  have haz : at_ ≤ s.size := by have := plN_le s n; rw [hp] at this; exact this
  clear hp
  go_enter Tryz.func54, Tryz.ntmps54
  go_wp2
  go_loop [6, 7, 8] (fun a b v => ∃ m l' c' p : Nat, plN s m = (l', c', p) ∧ p ≤ at_ ∧ a = .int .i64 l' ∧ b = .int .i64 c' ∧ v = .int .i64 p) (fun _ _ v => at_ - (RowKit.intOf v).toNat)
  case atStart => exact ⟨0, 1, 1, 0, rfl, Nat.zero_le _, rfl, rfl, rfl⟩
  case round =>
    obtain ⟨m, l', c', p, hm, hpa, rfl, rfl, rfl⟩ := hrel
    have hcb : c' ≤ p + 1 := by have := plN_col s m; rw [hm] at this; exact this
    have hlb : l' ≤ p + 1 := by
      have h1 := plN_line s m
      rw [hm] at h1
      have : nlc s p ≤ p := by unfold nlc; exact Nat.le_trans List.count_le_length (by rw [List.length_take]; exact Nat.min_le_left _ _)
      simp only at h1; omega
    by_cases hlt : p < at_
    · have hps : p < s.size := by omega
      have hnx : p + (Utf8.decode s p).2 ≤ at_ := by
        have := plN_next s (n := m) (m := n) (by rw [hm, HP.out]; exact hlt)
        rw [hm, HP.out] at this
        exact this
      have hstep := plN_step s hm hps
      have CN := Lib.hid (fun V => refNext_any s p V (by omega))
      rw [ptP_in s p hps, ptU_wide_eq] at CN
      have hw := (dec_width s p hps).1
      have h10 : (((ptU s p).1 : Nat) : Int) = 10 ↔ (Utf8.decode s p).1 = 10 := by
        unfold ptU
        split
        · rename_i hd
          rw [hd]
          constructor <;> (intro h; simp only at h; omega)
        · omega
      have hlt' : (p : Int) < at_ := by omega
      generalize (ptU s p).1 = x at *
      generalize (Utf8.decode s p).1 = r at *
      generalize (Utf8.decode s p).2 = v at *
      by_cases hr : r = 10
      · rw [if_pos hr] at hstep
        have hx := h10.2 hr
        have hx' : x = 10 := by omega
        subst hx'
        have HS := Lib.hid hstep
        clear hstep h10 hr hx hm
        go_wp2_with fail
        refine (CN.out _).mono ?_
        rintro r w1 ⟨rfl, rfl⟩
        go_wp2
        go_round
        case rel => exact ⟨m + 1, l' + 1, 1, p + v, HS.out, hnx, by go_num, rfl, by go_num⟩
        case measure => simp [RowKit.intOf]; omega
      · rw [if_neg hr] at hstep
        have hx : ((x : Int) == 10) = false := by simp; exact fun h => hr (h10.1 h)
        have HS := Lib.hid hstep
        clear hstep h10 hr hm
        go_wp2_with fail
        refine (CN.out _).mono ?_
        rintro r w1 ⟨rfl, rfl⟩
        go_wp2
        go_round
        case rel => exact ⟨m + 1, l', c' + 1, p + v, HS.out, hnx, rfl, by go_num, by go_num⟩
        case measure => simp [RowKit.intOf]; omega
    · obtain rfl : p = at_ := by omega
      have hone := plN_one s (n := m) (m := n) (by rw [hm, HP.out])
      rw [hm, HP.out] at hone
      obtain ⟨rfl, rfl⟩ : l' = l ∧ c' = c := by injection hone with h1 h2; injection h2 with h2 h3; exact ⟨h1, h2⟩
      have hge : ¬ (p : Int) < p := by omega
      clear hm hone
      go_wp2
      go_ret2
      exact ⟨rfl, rfl⟩

def xlinN (s : ByteArray) : Nat → Nat
  | 0 => 0
  | i + 1 => xlinN s i + if B s i = 10 ∨ i + 1 = s.size then 1 else 0
theorem xlin_le (s : ByteArray) : ∀ i, xlinN s i ≤ i
  | 0 => Nat.le_refl _
  | i + 1 => by rw [xlinN]; have := xlin_le s i; split <;> omega
set_option maxRecDepth 100000 in
theorem xlines_any (s : ByteArray) (w : World) (hs : s.size ≤ 140737488351232) :
    Calls Tryz.prog 51 #[.string s] w fun e w' => e = .returned (.int .i64 (xlinN s s.size : Nat)) ∧ w = w' := by
  go_enter Tryz.func51, Tryz.ntmps51
  go_wp2
  go_loop [3, 4] (fun u v => ∃ k n : Nat, k ≤ s.size ∧ n = xlinN s k ∧ v = .int .i64 k ∧ u = .int .i64 n) (fun _ v => s.size - (RowKit.intOf v).toNat)
  case atStart => exact ⟨0, 0, Nat.zero_le _, rfl, rfl, rfl⟩
  case round =>
    obtain ⟨k, n, hk, hn, rfl, rfl⟩ := hrel
    have hnk : n ≤ k := by rw [hn]; exact xlin_le s k
    by_cases hlt : k < s.size
    · have HI : ∀ w, (Instr.index 9 (.string s) (.int .i64 (k : Nat))).run Tryz.prog w = .ok (.int .u8 (bAt s k)) w := fun w => run_bAt s k hlt w
      have hlt' : (k : Int) < s.size := by omega
      have hstep : xlinN s (k + 1) = n + if B s k = 10 ∨ k + 1 = s.size then 1 else 0 := by rw [xlinN, hn]
      have hw1 : IntKind.i64.wrap ((k : Int) + 1) = (k : Int) + 1 := IntWalk.i64_in _ (by omega)
      by_cases h10 : B s k = 10
      · rw [if_pos (.inl h10)] at hstep
        have hb : bAt s k = 10 := by rw [bAt_B, h10]; rfl
        rw [hb] at HI
        have HS := Lib.hid hstep
        clear hstep h10 hb hn
        go_wp2
        go_round
        case rel => exact ⟨k + 1, n + 1, by omega, HS.out.symm, by go_num, by go_num⟩
        case measure => simp [RowKit.intOf]; omega
      · have hb : (bAt s k == 10) = false := by rw [bAt_B]; simp; omega
        generalize bAt s k = b at *
        by_cases he : k + 1 = s.size
        · rw [if_pos (.inr he)] at hstep
          have he' : ((k : Int) + 1 == (s.size : Int)) = true := by simp; omega
          have HS := Lib.hid hstep
          clear hstep h10 hn he
          go_wp2
          go_round
          case rel => exact ⟨k + 1, n + 1, by omega, HS.out.symm, by go_num, by go_num⟩
          case measure => simp [RowKit.intOf]; omega
        · rw [if_neg (by omega)] at hstep
          have he' : ((k : Int) + 1 == (s.size : Int)) = false := by simp; omega
          have HS := Lib.hid hstep
          clear hstep h10 hn he
          go_wp2
          go_round
          case rel => exact ⟨k + 1, n, by omega, by rw [HS.out]; rfl, by go_num, rfl⟩
          case measure => simp [RowKit.intOf]; omega
    · obtain rfl : k = s.size := by omega
      subst hn
      have hge : ¬ (s.size : Int) < s.size := by omega
      go_wp2
      go_ret
      exact ⟨rfl, rfl⟩
end Go.Proofs.YtbnnhbmnddaafaaGreatDoor
