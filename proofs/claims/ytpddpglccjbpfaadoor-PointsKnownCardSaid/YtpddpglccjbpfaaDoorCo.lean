/- Mended texts: how long they are; that they are right; U+FFFD byte by byte. -/
import Derived.Test.YtpddpglccjbpfaaDoorCn
namespace Go.Proofs.YtpddpglccjbpfaaDoor
open Go

def mendR (s by' : ByteArray) (whole : Bool) : Nat → Nat → List UInt8
  | 0, _ => []
  | f + 1, i => if i < s.size then (if wideI s i = 0 then rep by'.data.toList (if whole then 1 else badK s i) ++ mendR s by' whole f (i + badK s i) else seg s i (i + (wideI s i).toNat) ++ mendR s by' whole f (i + (wideI s i).toNat)) else []
theorem badsF_step (s : ByteArray) (f i : Nat) (hi : i < s.size) : badsF s (f + 1) i = if wideI s i = 0 then (i, badK s i) :: badsF s f (i + badK s i) else badsF s f (i + (wideI s i).toNat) := by simp only [badsF]; rw [if_pos hi]
theorem badsF_end (s : ByteArray) (f i : Nat) (hi : s.size ≤ i) : badsF s f i = [] := by
  cases f with
  | zero => rfl
  | succ f => rw [badsF, if_neg (by omega)]
theorem mendR_end (s by' : ByteArray) (whole : Bool) (f i : Nat) (hi : s.size ≤ i) : mendR s by' whole f i = [] := by
  cases f with
  | zero => rfl
  | succ f => rw [mendR, if_neg (by omega)]

theorem mend_fold (s by' : ByteArray) (whole : Bool) : ∀ f i acc e, e ≤ i → i ≤ s.size → s.size ≤ f + i →
    ((badsF s f i).foldl (mendStep s by' whole) (acc, e)).1 ++ seg s ((badsF s f i).foldl (mendStep s by' whole) (acc, e)).2 s.size = acc ++ seg s e i ++ mendR s by' whole f i
  | 0, i, acc, e, he, hi, hf => by
    obtain rfl : i = s.size := by omega
    simp [badsF, mendR]
  | f + 1, i, acc, e, he, hi, hf => by
    rcases Nat.lt_or_ge i s.size with hlt | hge
    · rw [badsF_step s f i hlt, mendR, if_pos hlt]
      obtain ⟨k1, k2, _⟩ := badK_bd s i hlt
      have wb := wideI_bd s i hlt
      by_cases hw : wideI s i = 0
      · rw [if_pos hw, if_pos hw, List.foldl_cons]
        have := mend_fold s by' whole f (i + badK s i) (acc ++ seg s e i ++ rep by'.data.toList (if whole then 1 else badK s i)) (i + badK s i) (Nat.le_refl _) k2 (by omega)
        show (List.foldl (mendStep s by' whole) (mendStep s by' whole (acc, e) (i, badK s i)) _).1 ++ seg s (List.foldl (mendStep s by' whole) (mendStep s by' whole (acc, e) (i, badK s i)) _).2 s.size = _
        have e1 : mendStep s by' whole (acc, e) (i, badK s i) = (acc ++ seg s e i ++ rep by'.data.toList (if whole then 1 else badK s i), i + badK s i) := rfl
        rw [e1, this, seg_self]
        simp [List.append_assoc]
      · rw [if_neg hw, if_neg hw]
        rw [mend_fold s by' whole f _ acc e (by omega) (by omega) (by omega), ← seg_app s e i (i + (wideI s i).toNat) he (by omega)]
        simp [List.append_assoc]
    · obtain rfl : i = s.size := by omega
      rw [badsF_end s _ _ (Nat.le_refl _), mendR_end s by' whole _ _ (Nat.le_refl _)]
      simp
theorem mendL_R (s by' : ByteArray) (whole : Bool) : mendL s by' whole = mendR s by' whole s.size 0 := by
  have := mend_fold s by' whole s.size 0 [] 0 (Nat.le_refl _) (Nat.zero_le _) (by omega)
  rw [seg_self] at this
  exact this

def sumK (l : List (Nat × Nat)) : Nat := (l.map (·.2)).sum
theorem sumK_cons (p : Nat × Nat) (l : List (Nat × Nat)) : sumK (p :: l) = p.2 + sumK l := by simp [sumK]
theorem sumK_snoc (l : List (Nat × Nat)) (p : Nat × Nat) : sumK (l ++ [p]) = sumK l + p.2 := by simp [sumK]
theorem mend_len (s by' : ByteArray) : ∀ f i, i ≤ s.size → s.size ≤ f + i →
    (mendR s by' true f i).length + sumK (badsF s f i) = (s.size - i) + (badsF s f i).length * by'.size ∧
    (mendR s by' false f i).length + sumK (badsF s f i) = (s.size - i) + sumK (badsF s f i) * by'.size ∧ sumK (badsF s f i) ≤ s.size - i
  | 0, i, hi, hf => by
    obtain rfl : i = s.size := by omega
    simp [badsF, mendR, sumK]
  | f + 1, i, hi, hf => by
    rcases Nat.lt_or_ge i s.size with hlt | hge
    · rw [badsF_step s f i hlt, mendR, mendR, if_pos hlt, if_pos hlt]
      obtain ⟨k1, k2, _⟩ := badK_bd s i hlt
      have wb := wideI_bd s i hlt
      have hb : by'.data.toList.length = by'.size := by simp
      by_cases hw : wideI s i = 0
      · rw [if_pos hw, if_pos hw, if_pos hw]
        obtain ⟨h1, h2, h3⟩ := mend_len s by' f (i + badK s i) k2 (by omega)
        simp only [List.length_append, rep_len, hb, sumK_cons, List.length_cons, if_true, Bool.false_eq_true, if_false]
        refine ⟨?_, ?_, by omega⟩
        · rw [Nat.add_mul, Nat.one_mul]; omega
        · rw [Nat.add_mul]; omega
      · rw [if_neg hw, if_neg hw, if_neg hw]
        obtain ⟨h1, h2, h3⟩ := mend_len s by' f (i + (wideI s i).toNat) (by omega) (by omega)
        simp only [List.length_append]
        rw [seg_len s i _ (by omega) (by omega)]
        refine ⟨by omega, by omega, by omega⟩
    · obtain rfl : i = s.size := by omega
      rw [badsF_end s _ _ (Nat.le_refl _), mendR_end s by' _ _ _ (Nat.le_refl _), mendR_end s by' _ _ _ (Nat.le_refl _)]
      simp [sumK]

theorem bads_ok (s : ByteArray) : ∀ f i, (badsF s f i = [] ↔ okF s f i = true)
  | 0, i => by simp [badsF, okF]
  | f + 1, i => by
    rcases Nat.lt_or_ge i s.size with hlt | hge
    · rw [badsF_step s f i hlt, okF, if_pos hlt]
      rcases unit_cases s i hlt with ⟨h1, h2, h3⟩ | ⟨w, h1, h4, h5, h6, h7, h8, _, _⟩
      · rw [if_pos h2, if_pos h1]; simp
      · rw [h6, if_neg (by omega)]
        simp only [Bool.false_eq_true, if_false]
        rw [h8, h7, Int.toNat_natCast]
        exact bads_ok s f (i + w)
    · rw [badsF_end s _ _ hge, okF, if_neg (by omega)]; simp
theorem mend_ok (s by' : ByteArray) (whole : Bool) : ∀ f i, i ≤ s.size → s.size ≤ f + i → badsF s f i = [] → mendR s by' whole f i = seg s i s.size
  | 0, i, hi, hf, _ => by
    obtain rfl : i = s.size := by omega
    simp [mendR, seg_self]
  | f + 1, i, hi, hf, h => by
    rcases Nat.lt_or_ge i s.size with hlt | hge
    · rw [badsF_step s f i hlt] at h
      rw [mendR, if_pos hlt]
      have wb := wideI_bd s i hlt
      by_cases hw : wideI s i = 0
      · rw [if_pos hw] at h; cases h
      · rw [if_neg hw] at h ⊢
        rw [mend_ok s by' whole f _ (by omega) (by omega) h, seg_app s i _ _ (by omega) (by omega)]
    · obtain rfl : i = s.size := by omega
      rw [mendR_end s by' _ _ _ (Nat.le_refl _), seg_self]

/-- A row of ill-formed bytes. -/
theorem fix_run (s : ByteArray) : ∀ k g i, i + k ≤ s.size → (∀ q, i ≤ q → q < i + k → wideI s q = 0) → s.size ≤ g + i → ∃ g', s.size ≤ g' + (i + k) ∧ fixF s g i = rep fffd k ++ fixF s g' (i + k)
  | 0, g, i, _, _, hf => ⟨g, by omega, by simp [rep]⟩
  | k + 1, g, i, hk, hq, hf => by
    obtain ⟨g1, rfl⟩ : ∃ g1, g = g1 + 1 := ⟨g - 1, by omega⟩
    have e := decode_ill s i (by omega) (hq i (by omega) (by omega))
    obtain ⟨g', hg, hl⟩ := fix_run s k g1 (i + 1) (by omega) (fun q h1 h2 => hq q (by omega) (by omega)) (by omega)
    refine ⟨g', by omega, ?_⟩
    rw [fixF, if_pos (by omega), e]
    simp only
    rw [enc_fffd, hl, show i + 1 + k = i + (k + 1) by omega, ← List.append_assoc]
    congr 1
    have : ∀ k, fffd ++ rep fffd k = rep fffd (k + 1) := by
      intro k
      induction k with
      | zero => simp [rep]
      | succ k ih => rw [rep, ← List.append_assoc, ih]; rfl
    exact this k
theorem mend_fix (s by' : ByteArray) (hb : by'.data.toList = fffd) : ∀ f i g, i ≤ s.size → s.size ≤ f + i → s.size ≤ g + i → mendR s by' false f i = fixF s g i
  | 0, i, g, hi, hf, _ => by
    obtain rfl : i = s.size := by omega
    cases g with
    | zero => rfl
    | succ g => simp [mendR, fixF]
  | f + 1, i, g, hi, hf, hg => by
    rcases Nat.lt_or_ge i s.size with hlt | hge
    · rw [mendR, if_pos hlt]
      obtain ⟨k1, k2, _⟩ := badK_bd s i hlt
      rcases unit_cases s i hlt with ⟨h1, h2, h3⟩ | ⟨w, h1, h4, h5, h6, h7, h8, h9, _⟩
      · rw [if_pos h2]
        obtain ⟨g', hg', hl⟩ := fix_run s (badK s i) g i k2 (fun q h1 h2' => by
          rcases Nat.eq_or_lt_of_le h1 with e | e
          · subst e; exact h2
          · have := badK_cont s i (q - i) hlt (by omega) (by omega)
            rw [Nat.add_sub_cancel' h1] at this
            exact wide_cont s q this.1 this.2) hg
        rw [hl, hb, mend_fix s by' hb f _ g' k2 (by omega) hg']
        simp
      · rw [if_neg (by omega), h7, Int.toNat_natCast]
        obtain ⟨g1, rfl⟩ : ∃ g1, g = g1 + 1 := ⟨g - 1, by omega⟩
        rw [fixF, if_pos hlt, h8, h9, mend_fix s by' hb f (i + w) g1 h5 (by omega) (by omega)]
    · obtain rfl : i = s.size := by omega
      rw [mendR_end s by' _ _ _ (Nat.le_refl _)]
      cases g with
      | zero => rfl
      | succ g => simp [fixF]
end Go.Proofs.YtpddpglccjbpfaaDoor
