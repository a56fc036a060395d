import Derived.Test.YtpddpglccjbpfaaDoorJ
namespace Go.Proofs.YtpddpglccjbpfaaDoor
open Go Go.RowKit Go.Lib

/-- How many bytes belong together from a place where no character begins. -/
def badK (s : ByteArray) (i : Nat) : Nat := ((begunI s i).1).toNat.max 1
def badsF (s : ByteArray) : Nat → Nat → List (Nat × Nat)
  | 0, _ => []
  | f + 1, i => if i < s.size then (if wideI s i = 0 then (i, badK s i) :: badsF s f (i + badK s i) else badsF s f (i + (wideI s i).toNat)) else []
def bads (s : ByteArray) : List (Nat × Nat) := badsF s s.size 0

theorem bgT_min (r : Int × Int × Int) (N m : Nat) (b1 b2 b3 c1 c2 c3 : Int) (h1 : 1 ≤ m) (hm : m ≤ N) (e1 : 1 < m → c1 = b1) (e2 : 2 < m → c2 = b2) (e3 : 3 < m → c3 = b3) :
    bgT r m c1 c2 c3 = min (bgT r N b1 b2 b3) m := by
  obtain ⟨k, lo, hi⟩ := r
  unfold bgT
  simp only [inB_iff]
  rcases (by omega : m = 1 ∨ m = 2 ∨ m = 3 ∨ 4 ≤ m) with h | h | h | h
  · subst h
    repeat' split
    all_goals omega
  · subst h
    rw [e1 (by omega)]
    repeat' split
    all_goals omega
  · subst h
    rw [e1 (by omega), e2 (by omega)]
    repeat' split
    all_goals omega
  · rw [e1 (by omega), e2 (by omega), e3 (by omega)]
    repeat' split
    all_goals omega
theorem bgT_bd (r : Int × Int × Int) (N : Nat) (b1 b2 b3 : Int) (h1 : 1 ≤ N) : 1 ≤ bgT r N b1 b2 b3 ∧ bgT r N b1 b2 b3 ≤ N ∧ bgT r N b1 b2 b3 ≤ 4 ∧ (1 ≤ r.1 → bgT r N b1 b2 b3 ≤ r.1) := by
  obtain ⟨k, lo, hi⟩ := r
  unfold bgT
  repeat' split
  all_goals (simp only at *; omega)

theorem wide0_iff (s : ByteArray) (i : Nat) : wideI s i = 0 ↔ ((leadI (B s i)).1 = 0 ∨ bgT (leadI (B s i)) (s.size - i) (B s (i + 1)) (B s (i + 2)) (B s (i + 3)) ≠ (leadI (B s i)).1) := by
  unfold wideI
  rw [begunI_eq]
  by_cases hz : (leadI (B s i)).1 = 0
  · rw [if_pos hz]; simp [hz]
  · rw [if_neg hz]
    by_cases hq : bgT (leadI (B s i)) (s.size - i) (B s (i + 1)) (B s (i + 2)) (B s (i + 3)) = (leadI (B s i)).1
    · simp [hq, hz]
    · simp [hq]
theorem badK_eq (s : ByteArray) (i : Nat) (hi : i < s.size) : (leadI (B s i)).1 = 0 ∧ badK s i = 1 ∨ (1 ≤ (leadI (B s i)).1 ∧ (badK s i : Int) = bgT (leadI (B s i)) (s.size - i) (B s (i + 1)) (B s (i + 2)) (B s (i + 3))) := by
  unfold badK
  rw [begunI_eq]
  have hb := bgT_bd (leadI (B s i)) (s.size - i) (B s (i + 1)) (B s (i + 2)) (B s (i + 3)) (by omega)
  have hl := leadI_bd (B s i)
  by_cases hz : (leadI (B s i)).1 = 0
  · rw [if_pos hz]; exact .inl ⟨hz, rfl⟩
  · rw [if_neg hz]
    refine .inr ⟨by omega, ?_⟩
    simp only [Nat.max_def]
    split <;> omega
theorem badK_bd (s : ByteArray) (i : Nat) (hi : i < s.size) : 1 ≤ badK s i ∧ i + badK s i ≤ s.size ∧ badK s i ≤ 4 := by
  have hb := bgT_bd (leadI (B s i)) (s.size - i) (B s (i + 1)) (B s (i + 2)) (B s (i + 3)) (by omega)
  rcases badK_eq s i hi with ⟨_, h⟩ | ⟨_, h⟩ <;> omega
theorem bgT_cont (r : Int × Int × Int) (N : Nat) (b1 b2 b3 : Int) (hlo : 128 ≤ r.2.1 ∨ r.1 ≤ 1) (hhi : r.2.2 ≤ 191) :
    (1 < bgT r N b1 b2 b3 → 128 ≤ b1 ∧ b1 ≤ 191) ∧ (2 < bgT r N b1 b2 b3 → 128 ≤ b2 ∧ b2 ≤ 191) ∧ (3 < bgT r N b1 b2 b3 → 128 ≤ b3 ∧ b3 ≤ 191) := by
  obtain ⟨k, lo, hi⟩ := r
  unfold bgT
  simp only [inB_iff] at *
  repeat' split
  all_goals omega
theorem lead_lohi (c : Int) : (128 ≤ (leadI c).2.1 ∨ (leadI c).1 ≤ 1) ∧ (leadI c).2.2 ≤ 191 := by
  unfold leadI; repeat' split
  all_goals simp
/-- The bytes of a piece behind its first one are continuations. -/
theorem badK_cont (s : ByteArray) (i j : Nat) (hi : i < s.size) (h1 : 1 ≤ j) (hj : j < badK s i) : 128 ≤ B s (i + j) ∧ B s (i + j) ≤ 191 := by
  have hb := bgT_bd (leadI (B s i)) (s.size - i) (B s (i + 1)) (B s (i + 2)) (B s (i + 3)) (by omega)
  obtain ⟨hl, hh⟩ := lead_lohi (B s i)
  obtain ⟨k1, k2, k3⟩ := bgT_cont (leadI (B s i)) (s.size - i) (B s (i + 1)) (B s (i + 2)) (B s (i + 3)) hl hh
  rcases badK_eq s i hi with ⟨_, h⟩ | ⟨_, h⟩
  · omega
  · rcases (by omega : j = 1 ∨ j = 2 ∨ j = 3) with rfl | rfl | rfl
    · have := k1 (by omega); omega
    · have := k2 (by omega); omega
    · have := k3 (by omega); omega
theorem wide_cont (s : ByteArray) (i : Nat) (h1 : 128 ≤ B s i) (h2 : B s i ≤ 191) : wideI s i = 0 := by
  rw [wide0_iff]; left; rw [lead_bad _ (by omega)]
theorem decode_ill (s : ByteArray) (i : Nat) (hi : i < s.size) (h : wideI s i = 0) : Utf8.decode s i = (65533, 1) := by
  rcases decode_wide s i hi with ⟨_, e⟩ | ⟨w, h1, _, _, e, _⟩
  · exact e
  · omega

set_option maxRecDepth 10000 in
theorem fullB_pre (t : ByteArray) (m : Nat) (h1 : 1 ≤ m) (hm : m ≤ t.size) (hw : wideI t 0 = 0) : fullB (t.extract 0 m) = decide (badK t 0 < m ∨ (leadI (B t 0)).1 = 0) := by
  have hz := size_pre t m hm
  have e0 : B (t.extract 0 m) 0 = B t 0 := B_pre t m 0 hm (by omega)
  unfold fullB
  rw [if_neg (by omega), begunI_eq, e0, hz]
  by_cases hl : (leadI (B t 0)).1 = 0
  · rw [if_pos hl]; simp [hl]
  · rw [if_neg hl]
    have hmin := bgT_min (leadI (B t 0)) (t.size - 0) m (B t (0 + 1)) (B t (0 + 2)) (B t (0 + 3)) (B (t.extract 0 m) (0 + 1)) (B (t.extract 0 m) (0 + 2)) (B (t.extract 0 m) (0 + 3)) h1 (by omega)
      (fun h => by rw [B_pre t m _ hm (by omega)]) (fun h => by rw [B_pre t m _ hm (by omega)]) (fun h => by rw [B_pre t m _ hm (by omega)])
    rw [Nat.sub_zero, hmin]
    have hne := ((wide0_iff t 0).1 hw).resolve_left hl
    have hbd := bgT_bd (leadI (B t 0)) (t.size - 0) (B t (0 + 1)) (B t (0 + 2)) (B t (0 + 3)) (by omega)
    have hlb := leadI_bd (B t 0)
    rcases badK_eq t 0 (by omega) with ⟨hq, _⟩ | ⟨_, hk⟩
    · exact absurd hq hl
    · rw [← hk] at hne hbd ⊢
      have hb := hbd.2.2.2 (by omega)
      simp only
      have e1 : ((min (badK t 0 : Int) (m : Int)) == (leadI (B t 0)).1) = false := by
        rw [beq_eq_false_iff_ne]; omega
      rw [e1, Bool.false_or]
      congr 1
      apply propext
      constructor
      · intro h; left; omega
      · intro h; rcases h with h | h
        · omega
        · exact absurd h hl

theorem pieceK_eq (t : ByteArray) (hw : wideI t 0 = 0) : ∀ f n, 1 ≤ n → n ≤ badK t 0 → t.size ≤ f + n → badK t 0 ≤ t.size → pieceK t f n = badK t 0
  | 0, n, h1, h2, h3, h4 => by unfold pieceK; omega
  | f + 1, n, h1, h2, h3, h4 => by
    unfold pieceK
    by_cases hn : n < t.size
    · rw [fullB_pre t (n + 1) (by omega) (by omega) hw]
      by_cases hl : (leadI (B t 0)).1 = 0
      · have : badK t 0 = 1 := by
          rcases badK_eq t 0 (by omega) with ⟨_, h⟩ | ⟨h, _⟩
          · exact h
          · omega
        rw [if_neg (by simp [hl])]; omega
      · by_cases hk : badK t 0 < n + 1
        · rw [if_neg (by simp [hk])]; omega
        · rw [if_pos ⟨hn, by simp [hl]; omega⟩]
          exact pieceK_eq t hw f (n + 1) (by omega) (by omega) (by omega) h4
    · rw [if_neg (by omega)]; omega
theorem tail_size (s : ByteArray) (i : Nat) (hi : i ≤ s.size) : (s.extract i s.size).size = s.size - i := by rw [ByteArray.size_extract]; omega
theorem begunI_tail (s : ByteArray) (i : Nat) (hi : i < s.size) : begunI (s.extract i s.size) 0 = begunI s i := by
  rw [begunI_eq, begunI_eq, tail_size s i (by omega)]
  simp only [B_tail s i _ (by omega), Nat.zero_add, Nat.add_zero, Nat.sub_zero]
theorem piece_bad (s : ByteArray) (i : Nat) (hi : i < s.size) (hw : wideI s i = 0) : pieceK (s.extract i s.size) (s.extract i s.size).size 1 = badK s i := by
  have e := begunI_tail s i hi
  have hw' : wideI (s.extract i s.size) 0 = 0 := by unfold wideI at *; rw [e]; exact hw
  have hk : badK (s.extract i s.size) 0 = badK s i := by unfold badK; rw [e]
  have hb := badK_bd s i hi
  rw [pieceK_eq _ hw' _ 1 (by omega) (by omega) (by omega) (by rw [hk, tail_size s i (by omega)]; omega), hk]

/-- What the program's walk over a text hands out. -/
def badU (s : ByteArray) : Nat → Nat → Nat → List (Nat × Nat)
  | 0, _, _ => []
  | f + 1, p, e => if p < s.size then (if p < e ∨ wideI s p ≠ 0 then badU s f (p + (Utf8.decode s p).2) e else (p, badK s p) :: badU s f (p + (Utf8.decode s p).2) (p + badK s p)) else []
theorem badU_skip (s : ByteArray) (e : Nat) (he : e ≤ s.size) (d : Nat) : ∀ f p, p + d = e → (∀ q, p ≤ q → q < e → wideI s q = 0) → s.size ≤ f + p → ∃ f', s.size ≤ f' + e ∧ badU s f p e = badU s f' e e := by
  induction d with
  | zero =>
    intro f p h _ hf
    obtain rfl : p = e := by omega
    exact ⟨f, hf, rfl⟩
  | succ d ih =>
    intro f p h hc hf
    obtain ⟨f', rfl⟩ : ∃ f', f = f' + 1 := ⟨f - 1, by omega⟩
    have h0 := hc p (Nat.le_refl _) (by omega)
    have hd := decode_ill s p (by omega) h0
    obtain ⟨f2, h1, h2⟩ := ih f' (p + 1) (by omega) (fun q hq => hc q (by omega)) (by omega)
    refine ⟨f2, h1, ?_⟩
    rw [← h2]
    rw [badU, if_pos (by omega), if_pos (.inl (by omega)), hd]
theorem badU_eq (s : ByteArray) : ∀ m p e f g, s.size - p ≤ m → e ≤ p → s.size ≤ f + p → s.size ≤ g + p → badU s f p e = badsF s g p
  | 0, p, e, f, g, hm, he, hf, hg => by
    have hp : ¬ p < s.size := by omega
    cases f <;> cases g <;> simp [badU, badsF, hp]
  | m + 1, p, e, f, g, hm, he, hf, hg => by
    by_cases hp : p < s.size
    · obtain ⟨f', rfl⟩ : ∃ f', f = f' + 1 := ⟨f - 1, by omega⟩
      obtain ⟨g', rfl⟩ : ∃ g', g = g' + 1 := ⟨g - 1, by omega⟩
      rw [badU, badsF, if_pos hp, if_pos hp]
      by_cases hw : wideI s p = 0
      · rw [if_neg (by omega), if_pos hw]
        have hb := badK_bd s p hp
        rw [decode_ill s p hp hw]
        obtain ⟨f2, h1, h2⟩ := badU_skip s (p + badK s p) hb.2.1 (badK s p - 1) f' (p + 1) (by omega) (fun q hq1 hq2 => by
          obtain ⟨c1, c2⟩ := badK_cont s p (q - p) hp (by omega) (by omega)
          rw [show p + (q - p) = q by omega] at c1 c2
          exact wide_cont s q c1 c2) (by omega)
        rw [h2, badU_eq s m (p + badK s p) (p + badK s p) f2 g' (by omega) (by omega) (by omega) (by omega)]
      · rw [if_pos (.inr hw), if_neg hw]
        rcases decode_wide s p hp with ⟨e0, _⟩ | ⟨v, v1, v4, hv, ev, ed⟩
        · exact absurd e0 hw
        · rw [ed, ev]
          simp only [Int.toNat_natCast]
          exact badU_eq s m (p + v) e f' g' (by omega) (by omega) (by omega) (by omega)
    · cases f <;> cases g <;> simp [badU, badsF, hp]
theorem badU_bads (s : ByteArray) : badU s s.size 0 0 = bads s := badU_eq s s.size 0 0 s.size s.size (by omega) (by omega) (by omega) (by omega)
end Go.Proofs.YtpddpglccjbpfaaDoor
