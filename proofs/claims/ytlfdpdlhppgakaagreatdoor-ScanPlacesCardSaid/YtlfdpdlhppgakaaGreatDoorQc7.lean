/- Parts of the proof of what the last text says. -/
import Derived.Test.YtlfdpdlhppgakaaGreatDoorQc6
import Derived.Test.YtlfdpdlhppgakaaGreatDoorQc2
import Derived.Test.YtlfdpdlhppgakaaGreatDoorQc3
import Derived.Test.YtlfdpdlhppgakaaGreatDoorCards
/- The places of the scanner's tokens. No run in this text. -/
namespace Go.Proofs.YtlfdpdlhppgakaaGreatDoor
open Go Go.RowKit Go.Kt Go.Kt.Rg Go.Shelf Go.Lib

/-- The place of the n-th unit: line, column, byte. -/
def plN (s : ByteArray) : Nat → Pl
  | 0 => (1, 1, 0)
  | n + 1 => let p := plN s n; if p.2.2 < s.size then (if (Utf8.decode s p.2.2).1 = 10 then (p.1 + 1, 1, p.2.2 + (Utf8.decode s p.2.2).2) else (p.1, p.2.1 + 1, p.2.2 + (Utf8.decode s p.2.2).2)) else p
theorem plN_at (s : ByteArray) (n : Nat) : (plN s (n + 1)).2.2 = if (plN s n).2.2 < s.size then (plN s n).2.2 + (Utf8.decode s (plN s n).2.2).2 else (plN s n).2.2 := by
  rw [plN]
  split
  · split <;> rfl
  · rfl
theorem plN_le (s : ByteArray) : ∀ n, (plN s n).2.2 ≤ s.size
  | 0 => Nat.zero_le _
  | n + 1 => by
    rw [plN_at]
    split
    · rename_i h
      exact (dec_width s _ h).2.2
    · exact plN_le s n
theorem plN_up (s : ByteArray) (n : Nat) : (plN s n).2.2 ≤ (plN s (n + 1)).2.2 := by rw [plN_at]; split <;> omega
theorem plN_mono (s : ByteArray) (n : Nat) : ∀ k, (plN s n).2.2 ≤ (plN s (n + k)).2.2
  | 0 => Nat.le_refl _
  | k + 1 => Nat.le_trans (plN_mono s n k) (plN_up s (n + k))
theorem plN_stuck (s : ByteArray) (n : Nat) (h : ¬ (plN s n).2.2 < s.size) : ∀ k, plN s (n + k) = plN s n
  | 0 => rfl
  | k + 1 => by
    have ih := plN_stuck s n h k
    show plN s (n + k + 1) = _
    rw [plN]
    rw [ih, if_neg h]
theorem plN_lt (s : ByteArray) {n m : Nat} (h : (plN s n).2.2 < (plN s m).2.2) : n < m := by
  by_cases hnm : n < m
  · exact hnm
  · have := plN_mono s m (n - m)
    rw [show m + (n - m) = n by omega] at this
    omega
theorem plN_next (s : ByteArray) {n m : Nat} (h : (plN s n).2.2 < (plN s m).2.2) : (plN s n).2.2 + (Utf8.decode s (plN s n).2.2).2 ≤ (plN s m).2.2 := by
  have h1 := plN_lt s h
  have h2 := plN_mono s (n + 1) (m - (n + 1))
  rw [show n + 1 + (m - (n + 1)) = m by omega, plN_at, if_pos (by have := plN_le s m; omega)] at h2
  exact h2
/-- One byte, one place. -/
theorem plN_one (s : ByteArray) {n m : Nat} (h : (plN s n).2.2 = (plN s m).2.2) : plN s n = plN s m := by
  have key : ∀ {n m : Nat}, n < m → (plN s n).2.2 = (plN s m).2.2 → plN s n = plN s m := by
    intro n m hnm h
    by_cases hlt : (plN s n).2.2 < s.size
    · exfalso
      have h2 := plN_mono s (n + 1) (m - (n + 1))
      rw [show n + 1 + (m - (n + 1)) = m by omega, plN_at, if_pos hlt] at h2
      have := (dec_width s _ hlt).1
      omega
    · have := plN_stuck s n hlt (m - n)
      rw [show n + (m - n) = m by omega] at this
      exact this.symm
  rcases Nat.lt_trichotomy n m with h1 | h1 | h1
  · exact key h1 h
  · rw [h1]
  · exact (key h1 h.symm).symm

theorem dec_last {s : ByteArray} {i : Nat} (hi : i < s.size) : B s (i + (Utf8.decode s i).2 - 1) = 10 ↔ (Utf8.decode s i).1 = 10 := by
  obtain ⟨d1, d2, d3⟩ := dec_width s i hi
  by_cases hlo : (Utf8.decode s i).1 < 128
  · obtain ⟨q1, q2⟩ := dec_r_lo hlo
    rw [q2, Nat.add_sub_cancel, q1]
  · by_cases hne : (Utf8.decode s i).1 = 65533 ∧ (Utf8.decode s i).2 = 1
    · rw [hne.2, Nat.add_sub_cancel, hne.1]
      constructor
      · intro h
        have := dec_lo s i (by omega)
        rw [this] at hlo
        simp only at hlo
        omega
      · intro h; omega
    · have h1 := dec_hi_bytes (by omega) hne ((Utf8.decode s i).2 - 1) (by omega)
      rw [show i + (Utf8.decode s i).2 - 1 = i + ((Utf8.decode s i).2 - 1) by omega]
      omega
theorem plNext_plN (s : ByteArray) (n : Nat) (h : (plN s n).2.2 < s.size) : plNext s (plN s n) ((plN s n).2.2 + (Utf8.decode s (plN s n).2.2).2) = plN s (n + 1) := by
  have hd := dec_last h
  have hw := (dec_width s _ h).1
  unfold plNext
  rw [plN]
  rw [if_pos h]
  by_cases h10 : (Utf8.decode s (plN s n).2.2).1 = 10
  · rw [if_pos ⟨by omega, hd.2 h10⟩, if_pos h10]
  · rw [if_neg (fun hh => h10 (hd.1 hh.2)), if_neg h10]

theorem plN_col (s : ByteArray) : ∀ n, (plN s n).2.1 ≤ (plN s n).2.2 + 1
  | 0 => Nat.le_refl _
  | n + 1 => by
    have ih := plN_col s n
    rw [plN_at, plN]
    by_cases h : (plN s n).2.2 < s.size
    · have hw := (dec_width s _ h).1
      rw [if_pos h, if_pos h]
      split
      · simp only; omega
      · simp only; omega
    · rw [if_neg h, if_neg h]; exact ih
theorem plN_step (s : ByteArray) {n l c p : Nat} (h : plN s n = (l, c, p)) (hp : p < s.size) : plN s (n + 1) = if (Utf8.decode s p).1 = 10 then (l + 1, 1, p + (Utf8.decode s p).2) else (l, c + 1, p + (Utf8.decode s p).2) := by
  rw [plN, h]
  simp only
  rw [if_pos hp]
/-- How many line ends a text has up to a byte. -/
def nlc (s : ByteArray) (i : Nat) : Nat := (s.data.toList.take i).count 10
theorem nlc_succ (s : ByteArray) (i : Nat) (h : i < s.size) : nlc s (i + 1) = nlc s i + if B s i = 10 then 1 else 0 := by
  have hl : i < s.data.toList.length := by rw [← Lib.size_eq]; exact h
  unfold nlc B
  rw [List.take_add_one, List.count_append, List.getElem?_eq_getElem hl, List.getD_eq_getElem?_getD, List.getElem?_eq_getElem hl]
  simp only [Option.toList_some, Option.getD_some, List.count_singleton]
  congr 1
  have : (s.data.toList[i] == 10) = decide ((s.data.toList[i]).toNat = 10) := by
    rw [Bool.eq_iff_iff]
    simp only [beq_iff_eq, decide_eq_true_iff]
    constructor
    · intro e; rw [e]; rfl
    · intro e; exact UInt8.toNat_inj.1 e
  rw [this]
  simp
theorem nlc_unit (s : ByteArray) (i : Nat) (h : i < s.size) : nlc s (i + (Utf8.decode s i).2) = nlc s i + if (Utf8.decode s i).1 = 10 then 1 else 0 := by
  obtain ⟨d1, d2, d3⟩ := dec_width s i h
  by_cases hw : (Utf8.decode s i).2 = 1
  · have hd := dec_last h
    rw [hw, Nat.add_sub_cancel] at hd
    rw [hw, nlc_succ s i h]
    by_cases h10 : (Utf8.decode s i).1 = 10
    · rw [if_pos h10, if_pos (hd.2 h10)]
    · rw [if_neg h10, if_neg (fun hh => h10 (hd.1 hh))]
  · have hlo : ¬ (Utf8.decode s i).1 < 128 := fun hlo => hw (dec_r_lo hlo).2
    have hb := dec_hi_bytes (by omega) (fun hh => hw hh.2)
    rw [if_neg (by omega)]
    have key : ∀ k, k ≤ (Utf8.decode s i).2 → nlc s (i + k) = nlc s i := by
      intro k
      induction k with
      | zero => intro _; rfl
      | succ k ih =>
        intro hk
        rw [← Nat.add_assoc, nlc_succ s (i + k) (by omega), ih (by omega), if_neg (by have := hb k (by omega); omega), Nat.add_zero]
    exact key _ (Nat.le_refl _)
theorem plN_line (s : ByteArray) : ∀ n, (plN s n).1 = nlc s (plN s n).2.2 + 1
  | 0 => by simp [plN, nlc]
  | n + 1 => by
    have ih := plN_line s n
    rw [plN_at, plN]
    by_cases h : (plN s n).2.2 < s.size
    · rw [if_pos h, if_pos h, nlc_unit s _ h]
      by_cases h10 : (Utf8.decode s (plN s n).2.2).1 = 10
      · rw [if_pos h10, if_pos h10]; simp only; omega
      · rw [if_neg h10, if_neg h10]; simp only; omega
    · rw [if_neg h, if_neg h]; exact ih

/-- The tokens stand behind one another, each at a place. -/
structure TokOk (s : ByteArray) (l : List Tk) : Prop where
  up : l.Pairwise fun a b => a.pl.2.2 < b.pl.2.2
  pl : ∀ t ∈ l, ∃ n, plN s n = t.pl
  sg : ∀ t ∈ l, t.kind = 2 → t.pl.2.2 + t.text.length ≤ s.size ∧ seg s t.pl.2.2 (t.pl.2.2 + t.text.length) = t.text
theorem TokOk.snoc {s : ByteArray} {l : List Tk} {t : Tk} (h : TokOk s l) (h1 : ∀ a ∈ l, a.pl.2.2 < t.pl.2.2) (h2 : ∃ n, plN s n = t.pl) (h3 : t.kind = 2 → t.pl.2.2 + t.text.length ≤ s.size ∧ seg s t.pl.2.2 (t.pl.2.2 + t.text.length) = t.text) : TokOk s (l ++ [t]) := by
  refine ⟨?_, ?_, ?_⟩
  · rw [List.pairwise_append]
    exact ⟨h.up, List.pairwise_singleton _ _, fun a ha b hb => by rw [List.mem_singleton] at hb; subst hb; exact h1 a ha⟩
  · intro a ha
    rcases List.mem_append.1 ha with ha | ha
    · exact h.pl a ha
    · rw [List.mem_singleton] at ha; subst ha; exact h2
  · intro a ha
    rcases List.mem_append.1 ha with ha | ha
    · exact h.sg a ha
    · rw [List.mem_singleton] at ha; subst ha; exact h3
/-- Ahead of a unit. -/
structure JS (s : ByteArray) (c : Sc) : Prop where
  here : ∃ n, plN s n = c.here
  fr : c.st ≠ 0 → ∃ n, plN s n = c.from
  lt : c.st ≠ 0 → c.from.2.2 < c.here.2.2
  tl : c.st ≠ 0 → ∀ t ∈ c.toks, t.pl.2.2 < c.from.2.2
  t0 : ∀ t ∈ c.toks, t.pl.2.2 < c.here.2.2
  bh : c.behind ≤ s.size
  ok : TokOk s c.toks
/-- Behind a unit. -/
structure KS (s : ByteArray) (h0 : Pl) (c : Sc) : Prop where
  here : c.here = h0
  fr : c.st ≠ 0 → ∃ n, plN s n = c.from
  le : c.st ≠ 0 → c.from.2.2 ≤ c.here.2.2
  tl : c.st ≠ 0 → ∀ t ∈ c.toks, t.pl.2.2 < c.from.2.2
  t0 : ∀ t ∈ c.toks, t.pl.2.2 ≤ c.here.2.2
  tz : c.from.2.2 = c.here.2.2 → ∀ t ∈ c.toks, t.pl.2.2 < c.here.2.2
  bh : c.behind ≤ s.size
  ok : TokOk s c.toks
theorem unesc_le {s : ByteArray} {t : List UInt8} {k : Nat} (h1 : 1 ≤ s.size) (h : unescV s = some (t, k)) : k ≤ s.size := by
  obtain ⟨b1, b2, b3⟩ := unitW_bd s 1 h1
  have hl : s.data.toList.length = s.size := (Lib.size_eq s).symm
  unfold unescV at h
  split at h
  · cases h
  · split at h
    · unfold chrV at h
      cases ho : puV 16777215 (upB (rst s.data.toList)) with
      | none => rw [ho] at h; cases h
      | some n =>
        rw [ho] at h
        unfold chrO at h
        simp only at h
        split at h
        · rename_i hc
          injection h with h
          injection h with h2 h3
          simp only [Bool.and_eq_true] at hc
          obtain ⟨⟨⟨ho, hk⟩, _⟩, _⟩ := hc
          have hr : rst s.data.toList = s.data.toList.drop 3 := by unfold rst; rw [if_pos ho]
          have hup : (upB (rst s.data.toList)).length < (rst s.data.toList).length := by
            generalize rst s.data.toList = l at hk
            unfold upB
            induction l with
            | nil => simp at hk
            | cons a l ih =>
              rw [List.takeWhile_cons]
              split
              · rename_i ha
                have : a ≠ 125 := by simpa using ha
                have hk2 : l.contains 125 = true := by
                  rw [List.contains_cons] at hk
                  rcases Bool.or_eq_true _ _ ▸ hk with h | h
                  · exact absurd (beq_iff_eq.1 h).symm this
                  · exact h
                have := ih hk2
                simp only [List.length_cons]; omega
              · simp
          have hrl : (rst s.data.toList).length ≤ s.size - 3 := by rw [hr, List.length_drop]; omega
          omega
        · cases h
    · split at h
      · unfold illV at h
        split at h
        · cases h
        · split at h
          · split at h
            · cases h
            · injection h with h
              injection h with h2 h3
              omega
          · cases h
      · injection h with h
        injection h with h2 h3
        omega
section
variable {s : ByteArray} {c c' : Sc} {r : Int}
theorem plainS_K (h92 : r = 92 → c.here.2.2 < s.size) (hi : c.here.2.2 ≤ s.size) (hb : c.behind ≤ s.size) (h : plainS s c r = .took c') : c'.behind ≤ s.size ∧ c'.st ≠ 0 := by
  unfold plainS at h
  split at h
  · cases h; exact ⟨hb, by simp⟩
  · split at h
    · rename_i h92'
      split at h
      · cases h
      · rename_i t k hu
        cases h
        have hz : (s.extract c.here.2.2 s.size).size = s.size - c.here.2.2 := by rw [ByteArray.size_extract]; omega
        have := unesc_le (by have := h92 h92'; omega) hu
        have := h92 h92'
        exact ⟨by simp only; omega, by simp⟩
    · split at h
      · cases h
      · split at h
        · cases h
        · cases h; exact ⟨hb, by simp⟩
theorem pieceS_K (h92 : r = 92 → c.here.2.2 < s.size) (hi : c.here.2.2 ≤ s.size) (hb : c.behind ≤ s.size) (h : pieceS s c r = .took c') : c'.behind ≤ s.size ∧ c'.st ≠ 0 := by
  unfold pieceS at h
  split at h
  · rename_i h5
    unfold quotedS at h
    split at h
    · cases h; exact ⟨hb, by simp⟩
    · cases h; exact ⟨hb, by simp [h5]⟩
  · split at h
    · unfold closingS at h
      split at h
      · cases h; exact ⟨hb, by simp⟩
      · exact plainS_K h92 hi hb h
    · split at h
      · rename_i h7
        unfold escapeS at h
        split at h
        · exact plainS_K h92 hi hb h
        · cases h; exact ⟨hb, by simp [h7]⟩
      · exact plainS_K h92 hi hb h
theorem betweenS_K (hp : ∃ n, plN s n = c.here) (t0 : ∀ t ∈ c.toks, t.pl.2.2 < c.here.2.2) (bh : c.behind ≤ s.size) (ok : TokOk s c.toks) (h92 : r = 92 → c.here.2.2 < s.size) (hi : c.here.2.2 ≤ s.size) (h : betweenS s c r = .ok c') : KS s c.here c' := by
  obtain ⟨a1, a2, a3, _⟩ := betweenS_ok h92 hi h
  have hbh : c'.behind ≤ s.size := by
    unfold betweenS at h
    repeat' split at h
    all_goals first | (cases h; done) | (cases h; exact bh) | skip
    cases hpl : plainS s { c with st := 4, «from» := c.here, text := [] } r with
    | took c2 =>
      rw [hpl] at h
      cases h
      exact (plainS_K (c := { c with st := 4, «from» := c.here, text := [] }) h92 hi bh hpl).1
    | left c2 =>
      rw [hpl] at h
      cases h
      have hl : pieceS s { c with st := 4, «from» := c.here, text := [] } r = plainS s { c with st := 4, «from» := c.here, text := [] } r := by simp [pieceS]
      have := pieceS_left (hl.trans hpl)
      subst this
      exact bh
    | bad no p => rw [hpl] at h; cases h
  exact ⟨a1, fun _ => by rw [a2]; exact hp, fun _ => by rw [a1, a2]; exact Nat.le_refl _, fun _ t ht => by rw [a2]; rw [a3] at ht; exact t0 t ht, fun t ht => by rw [a1]; rw [a3] at ht; exact Nat.le_of_lt (t0 t ht), fun _ t ht => by rw [a1]; rw [a3] at ht; exact t0 t ht, hbh, by rw [a3]; exact ok⟩
theorem tokenS_K (hj : JS s c) (h92 : r = 92 → c.here.2.2 < s.size) (hi : c.here.2.2 ≤ s.size) (h : tokenS s c r = .ok c') : KS s c.here c' := by
  unfold tokenS at h
  split at h
  · exact betweenS_K hj.here hj.t0 hj.bh hj.ok h92 hi h
  rename_i n0
  have hfr := hj.fr n0
  have hlt := hj.lt n0
  have htl := hj.tl n0
  have hle : ∀ t ∈ c.toks, t.pl.2.2 ≤ c.here.2.2 := fun t ht => Nat.le_of_lt (hj.t0 t ht)
  have hadd : ∀ k x, (k = 2 → c.from.2.2 + x.length ≤ s.size ∧ seg s c.from.2.2 (c.from.2.2 + x.length) = x) → TokOk s (c.toks ++ [⟨k, x, c.from⟩]) := fun k x hk => hj.ok.snoc htl hfr hk
  have hall : ∀ k x, ∀ t ∈ c.toks ++ [(⟨k, x, c.from⟩ : Tk)], t.pl.2.2 < c.here.2.2 := fun k x t ht => by
    rcases List.mem_append.1 ht with ht | ht
    · exact hj.t0 t ht
    · rw [List.mem_singleton] at ht; subst ht; exact hlt
  split at h
  · unfold remarkS at h
    split at h
    · exact betweenS_K (c := { c with st := 1 }) hj.here hj.t0 hj.bh hj.ok h92 hi h
    · cases h; exact ⟨rfl, fun _ => hfr, fun _ => Nat.le_of_lt hlt, fun _ => htl, hle, fun h => absurd h (Nat.ne_of_lt hlt), hj.bh, hj.ok⟩
  split at h
  · unfold signS at h
    split at h
    · cases h; exact ⟨rfl, fun _ => hfr, fun _ => Nat.le_of_lt hlt, fun _ => htl, hle, fun h => absurd h (Nat.ne_of_lt hlt), hj.bh, hj.ok⟩
    · have hsl : (sinceL s c).length = c.here.2.2 - c.from.2.2 := seg_len s _ _ (Nat.le_of_lt hlt) hi
      have ha := hadd 2 (sinceL s c) (fun _ => by
        have e : c.from.2.2 + (sinceL s c).length = c.here.2.2 := by omega
        rw [e]
        exact ⟨hi, rfl⟩)
      exact betweenS_K (c := addT { c with st := 2 } 2 (sinceL s c)) hj.here (hall 2 _) hj.bh ha h92 hi h
  split at h
  · unfold optionS at h
    split at h
    · cases h
      refine ⟨rfl, fun hh => absurd rfl hh, fun hh => absurd rfl hh, fun hh => absurd rfl hh, fun t ht => Nat.le_of_lt (hall 3 _ t ht), fun h => absurd h (Nat.ne_of_lt hlt), hj.bh, hadd 3 _ (fun hk => by cases hk)⟩
    · cases h; exact ⟨rfl, fun _ => hfr, fun _ => Nat.le_of_lt hlt, fun _ => htl, hle, fun h => absurd h (Nat.ne_of_lt hlt), hj.bh, hj.ok⟩
  · unfold textS at h
    cases hp : pieceS s c r with
    | took c2 =>
      rw [hp] at h
      cases h
      obtain ⟨a1, a2, a3, _⟩ := pieceS_ok h92 hi hp
      obtain ⟨b1, b2⟩ := pieceS_K h92 hi hj.bh hp
      exact ⟨a1, fun _ => by rw [a2]; exact hfr, fun _ => by rw [a1, a2]; exact Nat.le_of_lt hlt, fun _ t ht => by rw [a2]; rw [a3] at ht; exact htl t ht, fun t ht => by rw [a1]; rw [a3] at ht; exact hle t ht, fun h => by rw [a1, a2] at h; exact absurd h (Nat.ne_of_lt hlt), b1, by rw [a3]; exact hj.ok⟩
    | bad no p => rw [hp] at h; cases h
    | left c2 =>
      rw [hp] at h
      have := pieceS_left hp
      subst this
      exact betweenS_K (c := addT { c with st := 4 } 1 c.text) hj.here (hall 1 _) hj.bh (hadd 1 _ (fun hk => by cases hk)) h92 hi h
theorem between_10 (h : betweenS s c 10 = .ok c') : c'.st = 0 ∧ c'.from = c.here := by
  unfold betweenS at h
  rw [if_pos (by decide)] at h
  cases h
  exact ⟨rfl, rfl⟩
theorem plain_10 : plainS s c 10 = .left { c with st := 4 } := by
  unfold plainS
  rw [if_neg (by decide), if_neg (by decide), if_pos (by decide)]
theorem piece_10 (hb : c.behind ≤ c.here.2.2) : pieceS s c 10 = .left { c with st := 4 } ∨ ∃ c2, pieceS s c 10 = .took c2 ∧ c2.st = 5 := by
  unfold pieceS
  by_cases h5 : c.st = 5
  · rw [if_pos h5]
    unfold quotedS
    rw [if_neg (by decide)]
    exact .inr ⟨_, rfl, h5⟩
  rw [if_neg h5]
  by_cases h6 : c.st = 6
  · rw [if_pos h6]
    unfold closingS
    rw [if_neg (by decide)]
    exact .inl plain_10
  rw [if_neg h6]
  by_cases h7 : c.st = 7
  · rw [if_pos h7]
    unfold escapeS
    rw [if_pos hb]
    exact .inl plain_10
  rw [if_neg h7]
  exact .inl plain_10
theorem tokenS_end (hb : c.behind ≤ c.here.2.2) (h : tokenS s c 10 = .ok c') : c'.st = 3 ∨ c'.st = 5 ∨ c'.st = 0 ∧ c'.from = c.here := by
  unfold tokenS at h
  split at h
  · exact .inr (.inr (between_10 h))
  split at h
  · unfold remarkS at h
    rw [if_pos rfl] at h
    have := between_10 h
    exact .inr (.inr this)
  split at h
  · unfold signS at h
    have hn : isSgn (sinceL s c ++ encL 10) = false := by
      have he : encL 10 = [10] := by decide
      rw [he]
      have hall : ∀ l ∈ sgnL, l.getLast? ≠ some 10 := by decide
      unfold isSgn
      have hne : sinceL s c ++ [10] ∉ sgnL := fun hm => hall _ hm (by simp)
      simpa using hne
    rw [if_neg (by rw [hn]; decide)] at h
    have := between_10 h
    exact .inr (.inr this)
  split at h
  · unfold optionS at h
    rw [if_neg (by decide)] at h
    cases h
    exact .inl rfl
  · unfold textS at h
    rcases piece_10 (s := s) hb with e | ⟨c2, e, h5⟩
    · rw [e] at h
      have := between_10 h
      exact .inr (.inr this)
    · rw [e] at h
      cases h
      exact .inr (.inl h5)
end
/-- The scanner's run: its tokens are at their places. -/
theorem runS_K (s : ByteArray) (cF : Sc) : ∀ (f i : Nat) (c : Sc), (i = 0 ∧ c = c0S ∨ KS s c.here c ∧ (∃ n, plN s n = c.here) ∧ c.here.2.2 < s.size ∧ i = c.here.2.2 + (Utf8.decode s c.here.2.2).2) → s.size + 1 ≤ i + f → runS s f i c = .ok cF →
    cF.st = 3 ∨ cF.st = 5 ∨ cF.st = 0 ∧ TokOk s cF.toks ∧ (∃ n, plN s n = cF.from) ∧ cF.from.2.2 = s.size ∧ ∀ t ∈ cF.toks, t.pl.2.2 < s.size := by
  intro f
  induction f with
  | zero =>
    intro i c hc hf
    exfalso
    rcases hc with ⟨rfl, _⟩ | ⟨_, _, h3, h4⟩
    · omega
    · have := (dec_width s _ h3).2.2; omega
  | succ f ih =>
    intro i c hc hf hrun
    have hiz : i ≤ s.size := by
      rcases hc with ⟨rfl, _⟩ | ⟨_, _, h3, h4⟩
      · exact Nat.zero_le _
      · have := (dec_width s _ h3).2.2; omega
    have hx := (plNext_ix s c.here i).1
    have hj : JS s { c with here := plNext s c.here i } := by
      rcases hc with ⟨rfl, rfl⟩ | ⟨hk, ⟨n, hn⟩, h3, h4⟩
      · exact ⟨⟨0, rfl⟩, fun h => absurd rfl h, fun h => absurd rfl h, fun h => absurd rfl h, fun t ht => by simp [c0S] at ht, Nat.zero_le _, ⟨List.Pairwise.nil, fun t ht => by simp [c0S] at ht, fun t ht => by simp [c0S] at ht⟩⟩
      · have hw := (dec_width s _ h3).1
        have hpl : plNext s c.here i = plN s (n + 1) := by
          rw [← hn] at h3 h4 ⊢
          rw [h4]
          exact plNext_plN s n h3
        exact ⟨⟨n + 1, hpl.symm⟩, hk.fr, fun h0 => by have := hk.le h0; simp only [hx]; omega, hk.tl, fun t ht => by have := hk.t0 t ht; simp only [hx]; omega, hk.bh, hk.ok⟩
    rw [runS, if_pos (by omega)] at hrun
    by_cases hlt : i < s.size
    · rw [decode_nl s i hlt] at hrun
      cases ht : tokenS s { c with here := plNext s c.here i } ((Utf8.decode s i).1 : Nat) with
      | bad no p => rw [ht] at hrun; cases hrun
      | ok c2 =>
        rw [ht] at hrun
        have hk := tokenS_K hj (fun _ => by simp only [hx]; exact hlt) (by simp only [hx]; omega) ht
        have hh : c2.here = plNext s c.here i := hk.here
        have hw := (dec_width s i hlt).1
        refine ih (i + (Utf8.decode s i).2) c2 (.inr ⟨by rw [hh]; exact hk, by rw [hh]; exact hj.here, by rw [hh, hx]; exact hlt, by rw [hh, hx]⟩) (by omega) hrun
    · have hie : i = s.size := by omega
      subst hie
      rw [decode_end] at hrun
      cases ht : tokenS s { c with here := plNext s c.here s.size } ((10 : Nat) : Int) with
      | bad no p => rw [ht] at hrun; cases hrun
      | ok c2 =>
        rw [ht] at hrun
        have he : runS s f (s.size + 1) c2 = .ok c2 := by
          cases f with
          | zero => rfl
          | succ f => rw [runS, if_neg (by omega)]
        have hcF : c2 = cF := by
          have h2 : runS s f (s.size + 1) c2 = .ok cF := hrun
          rw [he] at h2
          exact TR.ok.inj h2
        subst hcF
        have hk := tokenS_K hj (fun h => by exact absurd h (by decide)) (by simp only [hx]; omega) ht
        rcases tokenS_end (c := { c with here := plNext s c.here s.size }) (by simp only [hx]; exact hj.bh) ht with h | h | ⟨h1, h2⟩
        · exact .inl h
        · exact .inr (.inl h)
        · refine .inr (.inr ⟨h1, hk.ok, by rw [h2]; exact hj.here, by rw [h2]; exact hx, fun t htm => ?_⟩)
          have h3 : c2.here = plNext s c.here s.size := hk.here
          have h4 := hk.tz (by rw [h2, h3]) t htm
          rw [h3, hx] at h4
          exact h4
/-- The tokens of a file that is taken. -/
theorem scan_places (s : ByteArray) {l : List Tk} (h : scanS s = .ok l) : TokOk s l ∧ ∃ l0 p, l = l0 ++ [⟨0, [], p⟩] ∧ p.2.2 = s.size := by
  unfold scanS at h
  split at h
  · cases h
  split at h
  · cases h
  cases hr : runS s (s.size + 1) 0 c0S with
  | bad no p => rw [hr] at h; cases h
  | ok c =>
    rw [hr] at h
    simp only [endS] at h
    rcases runS_K s c (s.size + 1) 0 c0S (.inl ⟨rfl, rfl⟩) (by omega) hr with h3 | h5 | ⟨h0, hok, hpl, hz, hlt⟩
    · rw [if_pos h3] at h; cases h
    · rw [if_neg (by omega), if_pos h5] at h; cases h
    · rw [if_neg (by omega), if_neg (by omega)] at h
      cases h
      exact ⟨hok.snoc (fun a ha => by rw [hz]; exact hlt a ha) hpl (fun hk => by cases hk), c.toks, c.from, rfl, hz⟩
end Go.Proofs.YtlfdpdlhppgakaaGreatDoor
/- The laws' own: works. -/
namespace Go.Proofs.YtlfdpdlhppgakaaGreatDoor
open Go Go.RowKit Go.Kt Go.Shelf Go.Lib
attribute [local go_sem] Oper.semAt_some

theorem ownS_at {Y : Nat → Prop} {e : TypeId} {sz n g cap : Nat} {xs : List Value} {W : World} (h : OwnS Y e sz (.slice (some ⟨g, 0, none⟩) n cap) n xs W) {i : Nat} {u : Value} (hi : xs[i]? = some u) : W.cell? ⟨g, i, none⟩ = some u := by
  have := h.1.cells (g := g) rfl i u hi
  by_cases h0 : i = 0
  · subst h0; simpa [Addr.add] using this
  · simpa [Addr.add, h0] using this
theorem scan_a : scanS ⟨#[97, 32, 60]⟩ = .ok [⟨1, [97], (1, 1, 0)⟩, ⟨2, [60], (1, 3, 2)⟩, ⟨0, [], (1, 4, 3)⟩] := by kernel_rfl
theorem scan_b : scanS ⟨#[97, 32, 93]⟩ = .bad 25 1 3 := by kernel_rfl

set_option maxHeartbeats 1000000 in
set_option maxRecDepth 100000 in
theorem works_any5 (w : World) (hE : SEnv w) :
    Calls Tryz.prog 10 #[] w fun e w' => e = .returned (.bool true) ∧ Below w.heap.size w w' := by
  have C1 := Lib.hid (scan_any ⟨#[97, 32, 60]⟩ w hE (by decide))
  rw [scan_a] at C1
  have HE := Lib.hid hE
  clear hE
  go_enter Tryz.func10, Tryz.ntmps10
  go_wp2_with fail
  refine C1.out.mono ?_
  rintro e w1 ⟨⟨g, cap, rfl, ho⟩, hb1⟩
  have hE1 := HE.out.below hb1
  have C2 := Lib.hid (scan_any ⟨#[97, 32, 93]⟩ w1 hE1 (by decide))
  rw [scan_b] at C2
  have HO := Lib.hid (And.intro ho hb1)
  clear ho hb1 hE1
  go_wp2_with fail
  refine C2.out.mono ?_
  rintro e w2 ⟨rfl, hb2⟩
  have hE2 := (HE.out.below HO.out.2).below hb2
  have ho2 := HO.out.1.keep (X := fun _ => False) (Keep.of_all hb2) (fun _ h => h.elim)
  have q1 : w2.cell? ⟨g, 1, none⟩ = some (.string ⟨#[97]⟩) := ownS_at ho2 (i := 1) rfl
  have q5 : w2.cell? ⟨g, 5, none⟩ = some (.int .i64 2) := ownS_at ho2 (i := 5) rfl
  have CA := Lib.hid (fun V (h : Below w2.heap.size w2 V) => at_fault 25 1 3 V (by decide) (by decide) (hE2.below h).err)
  have HB := Lib.hid (HO.out.2.trans (hb2.mono HO.out.2.size))
  clear ho2 hb2 hE2
  go_wp2_with (go_at_call 13; refine (CA.out _ (Below.refl _ _)).mono ?_; rintro e w3 ⟨rfl, hb3⟩)
  go_ret
  exact ⟨rfl, HB.out.trans (hb3.mono HB.out.size)⟩
end Go.Proofs.YtlfdpdlhppgakaaGreatDoor
/- What is the same of any program: a drawn region operation by operation, as in K6; an operation that its guard does not want leaves nothing in its slot. -/
namespace Go.Kt
open Go

section
variable {P : Program} {ops : Array Oper} {Q : Exit → Act → World → Prop} {md : Region.Mode}

/-- One operation: where those that it waits for have left what they are said to leave, it is wanted, and leaves what it is said to leave. -/
def GStep (P : Program) (md : Region.Mode) (ops : Array Oper) (Q : Exit → Act → World → Prop) (S : World → Prop) (R : World → World → Prop) (p : Nat → Value → World → Prop) (a0 : Act) (i : Nat) (o : Oper) : Prop :=
  ∀ a w, S w → Like ops a0 a → (∀ j k, waitsB md o j = true → slotB ops j k = true → p j (a.tmps.getD k undef) w) →
    (Region.wanted o (yielded ops a.tmps) = true ∧ o.wp P a w (fun a' w' => ∃ v, a' = a.put o.dst v ∧ S w' ∧ R w w' ∧ p i v w') Q) ∨ (Region.wanted o (yielded ops a.tmps) = false ∧ R w w ∧ p i undef w)
def GSteps (P : Program) (md : Region.Mode) (ops : Array Oper) (Q : Exit → Act → World → Prop) (S : World → Prop) (R : World → World → Prop) (p : Nat → Value → World → Prop) (a0 : Act) : Nat → List Oper → Prop
  | _, [] => True
  | i, o :: r => GStep P md ops Q S R p a0 i o ∧ GSteps P md ops Q S R p a0 (i + 1) r
theorem GSteps.get {S : World → Prop} {R : World → World → Prop} {p : Nat → Value → World → Prop} {a0 : Act} : ∀ (l : List Oper) (i : Nat), GSteps P md ops Q S R p a0 i l → ∀ j o, l[j]? = some o → GStep P md ops Q S R p a0 (i + j) o
  | [], _, _, j, o, h => by simp at h
  | x :: r, i, hs, 0, o, h => by simp at h; subst h; exact hs.1
  | x :: r, i, hs, j + 1, o, h => by
    have := GSteps.get r (i + 1) hs.2 j o (by simpa using h)
    rw [show i + (j + 1) = i + 1 + j by omega]; exact this

/-- A drawn region, operation by operation. S holds of each world that comes; R tells how a world goes over into the next; what a slot is said to hold stays so. -/
theorem wp_region_guarded {id : Nat} {a0 : Act} {w0 : World} (S : World → Prop) (R : World → World → Prop) (p : Nat → Value → World → Prop) (hm : P.follows .mixedOrders = true) (hap : apartB ops a0.tmps.size = true) (hfw : forwardB .any ops = true)
    (hS : S w0.drew) (hp : ∀ i v w w', S w → S w' → R w w' → p i v w → p i v w') (hs : GSteps P .any ops Q S R p a0 0 ops.toList)
    (hd : ∀ a w, S w → Like ops a0 a → (∀ j k, slotB ops j k = true → p j (a.tmps.getD k undef) w) → (∀ j, j < ops.size → ∃ v, p j v w) → Q .normal a w) : (Code.region id ops true).wp P Q a0 w0 := by
  have hdst : ∀ (i : Nat) (o : Oper) (k : Nat), ops[i]? = some o → o.dst = some k → k < a0.tmps.size ∧ ∀ (j : Nat) (oj : Oper), ops[j]? = some oj → oj.dst = some k → i = j := by
    intro i o k ho hk
    have hi := (Array.getElem?_eq_some_iff.1 ho).1
    have h1 := List.all_eq_true.1 hap i (List.mem_range.2 hi)
    have h2 : ops.getD i default = o := by simp [Array.getD_eq_getD_getElem?, ho]
    rw [h2, hk] at h1
    simp only [Bool.and_eq_true, decide_eq_true_eq] at h1
    refine ⟨h1.1, fun j oj hj hjk => ?_⟩
    have hj' := (Array.getElem?_eq_some_iff.1 hj).1
    have h3 := List.all_eq_true.1 h1.2 j (List.mem_range.2 hj')
    have h4 : ops.getD j default = oj := by simp [Array.getD_eq_getD_getElem?, hj]
    rw [h4, hjk] at h3
    simpa using h3
  refine wp_region_any hm ?_
  refine wpAny_inv (fun listed a w => listed.size = ops.size ∧ S w ∧ Like ops a0 a ∧ (∀ j, listed.getD j false = true → ∃ v, p j v w) ∧ ∀ j k, listed.getD j false = true → slotB ops j k = true → p j (a.tmps.getD k undef) w) ?_ ?_ _ _ _ _ ?_ ⟨by simp, hS, ⟨rfl, rfl, fun _ _ => rfl⟩, ?_, ?_⟩
  · rintro listed a w i ⟨hz, hSw, hL, hE, hP⟩ hi
    obtain ⟨hjun, o, ho, hall⟩ := mem_ready.1 hi
    have hilt := (Array.getElem?_eq_some_iff.1 ho).1
    have hst := GSteps.get ops.toList 0 hs i o (by simpa using ho)
    rw [Nat.zero_add] at hst
    have hst2 := hst a w hSw hL (fun j k hj hk => hP j k (by
      unfold waitsB at hj
      obtain ⟨e, he, h2⟩ := Array.any_eq_true'.1 hj
      simp only [Bool.and_eq_true, beq_iff_eq] at h2
      have := hall e he h2.2
      rw [h2.1] at this
      exact this) hk)
    suffices key : ∀ (v : Value) (w' : World), S w' → R w w' → p i v w' → (listed.setIfInBounds i true).size = ops.size ∧ S w' ∧ Like ops a0 (a.put o.dst v) ∧ (∀ j, (listed.setIfInBounds i true).getD j false = true → ∃ v, p j v w') ∧ ∀ j k, (listed.setIfInBounds i true).getD j false = true → slotB ops j k = true → p j ((a.put o.dst v).tmps.getD k undef) w' by
      rcases hst2 with ⟨hw, hx⟩ | ⟨hw, hR0, hp0⟩
      · unfold wpOp
        simp only [ho, hw, if_true]
        refine .inl (Oper.wp_mono ?_ hx)
        rintro a' w' ⟨v, rfl, hS', hR', hpv⟩
        exact key v w' hS' hR' hpv
      · unfold wpOp
        simp only [ho, hw, Bool.false_eq_true, if_false]
        exact key undef w hSw hR0 hp0
    intro v w' hS' hR' hpv
    refine ⟨by simpa using hz, hS', ⟨?_, ?_, fun k hk => ?_⟩, fun j hj => ?_, fun j k hj hk => ?_⟩
    · cases h : o.dst <;> exact hL.defers
    · cases h : o.dst
      · exact hL.size
      · simp only [Act.put, Array.size_setIfInBounds]; exact hL.size
    · cases h : o.dst with
      | none => exact hL.far k hk
      | some d =>
        have hne : d ≠ k := fun e => by
          subst e
          unfold outside at hk
          have := Array.all_eq_true.1 hk i hilt
          rw [(Array.getElem?_eq_some_iff.1 ho).2, h] at this
          simp at this
        simp only [Act.put, Array.getD_eq_getD_getElem?, Array.getElem?_setIfInBounds, if_neg hne]
        have := hL.far k hk
        simpa only [Array.getD_eq_getD_getElem?] using this
    · by_cases hji : j = i
      · subst hji; exact ⟨v, hpv⟩
      · have hjl : listed.getD j false = true := by
          simp only [Array.getD_eq_getD_getElem?, Array.getElem?_setIfInBounds, if_neg (Ne.symm hji)] at hj ⊢
          exact hj
        obtain ⟨u, hu⟩ := hE j hjl
        exact ⟨u, hp j _ w w' hSw hS' hR' hu⟩
    · obtain ⟨oj, hoj, hjk⟩ : ∃ oj, ops[j]? = some oj ∧ oj.dst = some k := by
        unfold slotB at hk
        cases h : ops[j]? with
        | none => rw [h] at hk; cases hk
        | some oj => rw [h] at hk; exact ⟨oj, rfl, by simpa using hk⟩
      by_cases hji : j = i
      · subst hji
        rw [hoj] at ho
        cases ho
        have hkz := (hdst j _ k hoj hjk).1
        rw [hjk]
        have : (a.put (some k) v).tmps.getD k undef = v := by
          have : k < a.tmps.size := by rw [hL.size]; exact hkz
          simp [Act.put, Array.getD_eq_getD_getElem?, this]
        rw [this]
        exact hpv
      · have hjl : listed.getD j false = true := by
          simp only [Array.getD_eq_getD_getElem?, Array.getElem?_setIfInBounds, if_neg (Ne.symm hji)] at hj ⊢
          exact hj
        have h1 := hp j _ w w' hSw hS' hR' (hP j k hjl hk)
        cases h : o.dst with
        | none => exact h1
        | some d =>
          have hne : d ≠ k := fun e => by
            subst e
            exact hji ((hdst i o d ho h).2 j oj hoj hjk).symm
          simp only [Act.put, Array.getD_eq_getD_getElem?, Array.getElem?_setIfInBounds, if_neg hne] at h1 ⊢
          exact h1
  · rintro listed a w ⟨hz, hSw, hL, hE, hP⟩ hr
    have hall : ∀ n j, j < n → j < ops.size → listed.getD j false = true := by
      intro n
      induction n with
      | zero => intro j h; omega
      | succ n ih =>
        intro j hjn hj
        cases hl : listed.getD j true with
        | true =>
          have : j < listed.size := by omega
          simpa [Array.getD_eq_getD_getElem?, this] using hl
        | false =>
          exfalso
          have hmem : j ∈ Region.ready .any ops listed := mem_ready.2 ⟨hl, ops[j], by simp [hj], fun e he hb => by
            have h1 := List.all_eq_true.1 hfw j (List.mem_range.2 hj)
            have h2 : ops.getD j default = ops[j] := by simp [Array.getD_eq_getD_getElem?, hj]
            rw [h2] at h1
            have h3 := Array.all_eq_true_iff_forall_mem.1 h1 e he
            rw [hb] at h3
            simp at h3
            exact ih e.on (by omega) (by omega)⟩
          rw [hr] at hmem
          cases hmem
    refine hd a w hSw hL (fun j k hk => hP j k (hall (j + 1) j (by omega) ?_) hk) (fun j hj => hE j (hall (j + 1) j (by omega) hj))
    unfold slotB at hk
    cases h : ops[j]? with
    | none => rw [h] at hk; cases hk
    | some oj => exact (Array.getElem?_eq_some_iff.1 h).1
  · unfold unlisted
    exact Nat.le_trans (List.length_filter_le _ _) (by simp)
  · intro j hj
    simp only [Array.getD_eq_getD_getElem?, Array.getElem?_replicate] at hj
    split at hj <;> simp at hj
  · intro j k hj
    simp only [Array.getD_eq_getD_getElem?, Array.getElem?_replicate] at hj
    split at hj <;> simp at hj
end
section
variable {P : Program} {ops : Array Oper} {Q : Exit → Act → World → Prop}
theorem GSteps.cons {S : World → Prop} {R : World → World → Prop} {p : Nat → Value → World → Prop} {a0 : Act} {md : Region.Mode} {i : Nat} {o : Oper} {r : List Oper}
    (h : GStep P md ops Q S R p a0 i o) (hr : GSteps P md ops Q S R p a0 (i + 1) r) : GSteps P md ops Q S R p a0 i (o :: r) := ⟨h, hr⟩
theorem GSteps.nil {S : World → Prop} {R : World → World → Prop} {p : Nat → Value → World → Prop} {a0 : Act} {md : Region.Mode} {i : Nat} : GSteps P md ops Q S R p a0 i [] := trivial
theorem wanted_false {o : Oper} {a : Act} {j : Nat} {b : Bool} (k : Nat) (hg : o.guard = some (j, !b)) (hk : slotB ops j k = true) (h : a.tmps.getD k undef = .bool b ∨ a.tmps.getD k undef = undef) : Region.wanted o (yielded ops a.tmps) = false := by
  unfold slotB at hk
  unfold Region.wanted yielded
  rw [hg]
  cases ho : ops[j]? with
  | none => rw [ho] at hk; cases hk
  | some oj =>
    rw [ho] at hk
    have hd : oj.dst = some k := by simpa using hk
    rw [Array.getD_eq_getD_getElem?] at h
    have e : (ops[j]?.bind fun x => x.dst).bind (fun x => a.tmps[x]?) = a.tmps[k]? := by rw [ho]; simp only [Option.bind_some, hd]
    cases hx : a.tmps[k]? with
    | none => simp only [e, hx]; rfl
    | some v =>
      rw [hx] at h
      simp only [Option.getD_some] at h
      rcases h with h | h
      · subst h; simp only [e, hx]; cases b <;> rfl
      · subst h; simp only [e, hx]; rfl
end
end Go.Kt
/- ScanPlaces: its walk. -/
namespace Go.Proofs.YtlfdpdlhppgakaaGreatDoor
open Go Go.RowKit Go.Kt Go.Shelf Go.Lib
attribute [local go_sem] Oper.semAt_some

set_option maxRecDepth 100000 in
theorem ended_any (s : ByteArray) (w : World) (hs : s.size ≤ 140737488351232) :
    Calls Tryz.prog 19 #[.string s] w fun e w' => e = .returned (.int .i64 (nlc s s.size : Nat)) ∧ w = w' := by
  go_enter Tryz.func19, Tryz.ntmps19
  go_wp2
  go_loopw [3, 4] (fun n v wr => ∃ i : Nat, v = .int .i64 i ∧ n = .int .i64 (nlc s i : Nat) ∧ i ≤ s.size ∧ nlc s i ≤ i ∧ wr = w) (fun _ v _ => s.size - (RowKit.intOf v).toNat)
  case atStart => exact ⟨0, rfl, by simp [nlc], Nat.zero_le _, by simp [nlc], rfl⟩
  case round =>
    obtain ⟨i, rfl, rfl, hi, hni, rfl⟩ := hrel
    by_cases hlt : i < s.size
    · have HI : ∀ w, (Instr.index 9 (.string s) (.int .i64 (i : Nat))).run Tryz.prog w = .ok (.int .u8 (bAt s i)) w := fun w => run_bAt s i hlt w
      have hBb : bAt s i = (B s i : Nat) := rfl
      have hsu := nlc_succ s i hlt
      have hlt' : (i : Int) < s.size := by omega
      by_cases h10 : B s i = 10
      · have hb : bAt s i = 10 := by rw [hBb, h10]; rfl
        rw [if_pos h10] at hsu
        generalize nlc s i = n at *
        rw [hb] at HI
        clear hb hBb h10
        have HS := Lib.hid hsu
        clear hsu
        go_wp2
        go_roundw
        case rel => exact ⟨i + 1, rfl, by rw [HS.out]; rfl, by omega, by have := HS.out; omega, trivial⟩
        case measure => simp [RowKit.intOf]; omega
      · rw [if_neg h10, Nat.add_zero] at hsu
        have hb : (bAt s i == 10) = false := by rw [hBb]; simp; omega
        generalize bAt s i = b at *
        generalize nlc s i = n at *
        have HS := Lib.hid hsu
        clear hsu hBb h10
        go_wp2
        go_roundw
        case rel => exact ⟨i + 1, rfl, congrArg (fun x : Nat => Value.int .i64 x) HS.out.symm, by omega, by have := HS.out; omega, trivial⟩
        case measure => simp [RowKit.intOf]; omega
    · have hie : i = s.size := by omega
      subst hie
      have hlt' : ¬ (s.size : Int) < s.size := by omega
      go_wp2
      go_ret
      exact ⟨rfl, rfl⟩
theorem tksC_get : ∀ (L : List Tk) (i k : Nat) (t : Tk), L[i]? = some t → k < 5 → (tksC L)[i * 5 + k]? = (tkC t)[k]?
  | [], i, k, t, h, _ => by simp at h
  | a :: L, 0, k, t, h, hk => by
    simp at h
    subst h
    have : tksC (a :: L) = tkC a ++ tksC L := by simp [tksC]
    rw [this, Nat.zero_mul, Nat.zero_add, List.getElem?_append_left (by simp [tkC]; omega)]
  | a :: L, i + 1, k, t, h, hk => by
    have h' : L[i]? = some t := by simpa using h
    have : tksC (a :: L) = tkC a ++ tksC L := by simp [tksC]
    rw [this, List.getElem?_append_right (by simp [tkC]; omega), ← tksC_get L i k t h' hk]
    congr 1
    simp [tkC]; omega
/-- The units of a text's beginning. -/
theorem dec_head (s : ByteArray) (p m : Nat) (hm : m ≤ s.size) (hp : p < m) (hw : p + (Utf8.decode s p).2 ≤ m) : Utf8.decode (s.extract 0 m) p = Utf8.decode s p := by
  have hz : (s.extract 0 m).size = m := by rw [ByteArray.size_extract]; omega
  have hB : ∀ j, j < m → B (s.extract 0 m) j = B s j := fun j hj => by
    unfold B
    have : (s.extract 0 m).data.toList = s.data.toList.take m := by simp
    rw [this, List.getD_eq_getElem?_getD, List.getD_eq_getElem?_getD, List.getElem?_take, if_pos hj]
  obtain ⟨d1, d2, d3⟩ := dec_width s p (by omega)
  obtain ⟨e1, e2, e3⟩ := dec_width (s.extract 0 m) p (by omega)
  rw [hz] at e3
  by_cases hne : (Utf8.decode s p).1 = 65533 ∧ (Utf8.decode s p).2 = 1
  · by_cases hne2 : (Utf8.decode (s.extract 0 m) p).1 = 65533 ∧ (Utf8.decode (s.extract 0 m) p).2 = 1
    · exact Prod.ext (hne2.1.trans hne.1.symm) (hne2.2.trans hne.2.symm)
    · have hq : Utf8.decode (s.extract 0 m) p = ((Utf8.decode (s.extract 0 m) p).1, (Utf8.decode (s.extract 0 m) p).2) := rfl
      generalize (Utf8.decode (s.extract 0 m) p).1 = r at *
      generalize (Utf8.decode (s.extract 0 m) p).2 = v at *
      rw [hq, decode_B s p]
      rw [decode_B, hB p hp] at hq
      exact (decN_pre hq hne2 (by omega) (fun h => (hB _ (by omega)).symm) (fun h => (hB _ (by omega)).symm) (fun h => (hB _ (by omega)).symm)).symm
  · have hq : Utf8.decode s p = ((Utf8.decode s p).1, (Utf8.decode s p).2) := rfl
    generalize (Utf8.decode s p).1 = r at *
    generalize (Utf8.decode s p).2 = v at *
    rw [hq, decode_B, hB p hp]
    rw [decode_B] at hq
    exact decN_pre hq hne (by omega) (fun h => hB _ (by omega)) (fun h => hB _ (by omega)) (fun h => hB _ (by omega))

def pP0 (g N cap c K : Nat) (H : ByteArray) (jx : Nat) (v : Value) (_W : World) : Prop := match jx with
  | 0 => v = .slice (some ⟨g, 0, none⟩) N cap
  | 1 => v = .int .i64 0
  | 2 => v = .pointer (some ⟨g, 0, none⟩)
  | 3 => v = .pointer (some ⟨g, 2, none⟩)
  | 4 => v = .int .i64 ((K : Int) + 1)
  | 5 => v = .string H
  | 6 => v = .int .i64 (K : Nat)
  | 7 => v = .int .i64 ((K : Int) + 1)
  | 8 => v = .bool false
  | 9 => v = .bool false
  | 10 => v = .slice (some ⟨g, 0, none⟩) N cap
  | 11 => v = .int .i64 0
  | 12 => v = .pointer (some ⟨g, 0, none⟩)
  | 13 => v = .pointer (some ⟨g, 3, none⟩)
  | 14 => v = .int .i64 (c : Nat)
  | 15 => v = .int .i64 (c : Nat)
  | 16 => v = .bool false
  | 17 => v = .bool false
  | _ => True
def pP1 (g N cap c K i : Nat) (H : ByteArray) (jx : Nat) (v : Value) (_W : World) : Prop := match jx with
  | 0 => v = .slice (some ⟨g, 0, none⟩) N cap
  | 1 => v = .int .i64 (i : Nat)
  | 2 => v = .pointer (some ⟨g, i * 5, none⟩)
  | 3 => v = .pointer (some ⟨g, i * 5 + 2, none⟩)
  | 4 => v = .int .i64 ((K : Int) + 1)
  | 5 => v = .string H
  | 6 => v = .int .i64 (K : Nat)
  | 7 => v = .int .i64 ((K : Int) + 1)
  | 8 => v = .bool false
  | 9 => v = .bool false
  | 10 => v = .slice (some ⟨g, 0, none⟩) N cap
  | 11 => v = .int .i64 (i : Nat)
  | 12 => v = .pointer (some ⟨g, i * 5, none⟩)
  | 13 => v = .pointer (some ⟨g, i * 5 + 3, none⟩)
  | 14 => v = .int .i64 (c : Nat)
  | 15 => v = .int .i64 (c : Nat)
  | 16 => v = .bool false
  | 17 => v = .bool false
  | _ => True
theorem toks_few {s : ByteArray} {L : List Tk} (h : TokOk s L) : L.length ≤ s.size + 1 := by
  have key : ∀ k (hk : k < L.length), k ≤ (L[k]).pl.2.2 := by
    intro k
    induction k with
    | zero => intro _; exact Nat.zero_le _
    | succ k ih =>
      intro hk
      have h1 := ih (by omega)
      have h2 := List.pairwise_iff_getElem.1 h.up k (k + 1) (by omega) hk (by omega)
      omega
  by_cases h0 : L.length = 0
  · omega
  have h1 := key (L.length - 1) (by omega)
  obtain ⟨n, hn⟩ := h.pl (L[L.length - 1]'(by omega)) (List.getElem_mem _)
  have h2 := plN_le s n
  rw [hn] at h2
  omega
set_option maxHeartbeats 4000000 in
set_option maxRecDepth 100000 in
theorem scanPlaces_c (s : ByteArray) (w : World) (hE : SEnv w) (_hB : BTab w) (_hl : 6 < w.heap.size) (hs : s.size ≤ 140737488351232) :
    Calls Tryz.prog 8 #[.string s] w fun e w' => e = .returned (.bool true) ∧ Below w.heap.size w w' := by
  have CS := Lib.hid (scan_any s w hE hs)
  have CW := Lib.hid (fun V (h : Below w.heap.size w V) => works_any5 V (hE.below h))
  clear hE _hB _hl
  cases ho : scanS s with
  | bad no l c =>
    rw [ho] at CS
    clear ho
    go_enter Tryz.func8, Tryz.ntmps8
    go_wp2_with fail
    refine CS.out.mono ?_
    rintro e w1 ⟨rfl, hb1⟩
    have HB1 := Lib.hid hb1
    clear hb1
    go_wp2_with (go_at_call 10; refine (CW.out _ HB1.out).mono ?_; rintro e w4 ⟨rfl, hb4⟩)
    go_ret
    exact ⟨rfl, HB1.out.trans (hb4.mono HB1.out.size)⟩
  | ok L =>
    obtain ⟨hok, L0, pE, hLe, hpE⟩ := scan_places s ho
    rw [ho] at CS
    clear ho
    by_cases hz : 20000 < s.size
    · have hz' : (20000 : Int) < s.size := by omega
      clear hok hLe hpE
      go_enter Tryz.func8, Tryz.ntmps8
      go_wp2_with fail
      refine CS.out.mono ?_
      rintro e w1 ⟨⟨g, cap, rfl, ho⟩, hb1⟩
      have HB1 := Lib.hid hb1
      clear hb1 ho
      go_wp2_with (go_at_call 10; refine (CW.out _ HB1.out).mono ?_; rintro e w4 ⟨rfl, hb4⟩)
      go_ret
      exact ⟨rfl, HB1.out.trans (hb4.mono HB1.out.size)⟩
    have hz' : ¬ (20000 : Int) < s.size := by omega
    have hz2 : s.size ≤ 20000 := by omega
    have HK := Lib.hid (And.intro hok (And.intro hLe hpE))
    clear hok hLe hpE hz hs
    go_enter Tryz.func8, Tryz.ntmps8
    go_wp2_with fail
    refine CS.out.mono ?_
    rintro e w2 ⟨⟨g, cap, rfl, ho⟩, hb1⟩
    have hgl : g < w2.heap.size := (ho.1.lt g rfl).2
    have HC : Hid (∀ (V : World) (i : Nat) (t : Tk), Below w2.heap.size w2 V → L[i]? = some t → V.cell? ⟨g, i * 5, none⟩ = some (.int .i64 (t.kind : Nat)) ∧ V.cell? ⟨g, i * 5 + 1, none⟩ = some (.string ⟨t.text.toArray⟩) ∧ V.cell? ⟨g, i * 5 + 2, none⟩ = some (.int .i64 (t.pl.1 : Nat)) ∧ V.cell? ⟨g, i * 5 + 3, none⟩ = some (.int .i64 (t.pl.2.1 : Nat)) ∧ V.cell? ⟨g, i * 5 + 4, none⟩ = some (.int .i64 (t.pl.2.2 : Nat))) := Lib.hid fun V i t hV ht => by
      have hc : ∀ k u, k < 5 → (tkC t)[k]? = some u → V.cell? ⟨g, i * 5 + k, none⟩ = some u := fun k u hk hu => (hV.cell (p := ⟨g, i * 5 + k, none⟩) hgl).trans (ownS_at ho (by rw [tksC_get L i k t ht hk]; exact hu))
      exact ⟨hc 0 _ (by decide) rfl, hc 1 _ (by decide) rfl, hc 2 _ (by decide) rfl, hc 3 _ (by decide) rfl, hc 4 _ (by decide) rfl⟩
    have HN2 : Hid (L.length ≤ maxLen) := Lib.hid (by
      rcases ho.1.2 with ⟨h, _⟩ | ⟨_, _, _, h, _, _, hnc, hcm, _⟩
      · cases h
      · omega)
    have HB1 := Lib.hid hb1
    obtain ⟨N, hN⟩ : ∃ N, L.length = N := ⟨_, rfl⟩
    rw [hN] at HN2 ⊢
    have hN3 : (N : Int) ≤ 20001 := by have h1 := toks_few HK.out.1; omega
    have HN := Lib.hid hN
    clear hb1 ho hgl CS hN
    go_wp2
    go_loopw [5] (fun v wr => ∃ i : Nat, v = .int .i64 i ∧ i ≤ N ∧ Below w2.heap.size w2 wr) (fun v _ => N - (RowKit.intOf v).toNat)
    case atStart => exact ⟨0, rfl, Nat.zero_le _, Below.refl _ _⟩
    case round =>
      obtain ⟨i, rfl, hi, hb⟩ := hrel
      obtain ⟨Wo, hWo⟩ : ∃ Wo, Wo = wr := ⟨_, rfl⟩
      subst hWo
      by_cases hlt : i < N
      · have hlt' : (i : Int) < N := by omega
        obtain ⟨t, ht⟩ : ∃ t, L[i]? = some t := ⟨_, List.getElem?_eq_getElem (by have := HN.out; omega)⟩
        obtain ⟨c0, c1, c2, c3, c4⟩ := HC.out Wo i t hb ht
        have hok := HK.out.1
        obtain ⟨n, hn⟩ := hok.pl t (List.mem_of_getElem? ht)
        have hat := plN_le s n
        rw [hn] at hat
        obtain ⟨kd, tx, ln, cl, at_⟩ := t
        simp only at c0 c1 c2 c3 c4 hat
        have hat' : (at_ : Int) ≤ s.size := by omega
        have HT := Lib.hid (And.intro ht (And.intro hn hb))
        clear ht hn hb hok
        have hpre : i = 0 ∨ ∃ u, 0 < i ∧ Wo.cell? ⟨g, (i - 1) * 5 + 4, none⟩ = some (.int .i64 (u : Nat)) ∧ u < at_ := by
          rcases Nat.eq_zero_or_pos i with h0 | h0
          · exact .inl h0
          · right
            obtain ⟨t0, ht0⟩ : ∃ t0, L[i - 1]? = some t0 := ⟨_, List.getElem?_eq_getElem (by have := HN.out; omega)⟩
            refine ⟨t0.pl.2.2, h0, (HC.out Wo (i - 1) t0 HT.out.2.2 ht0).2.2.2.2, ?_⟩
            obtain ⟨h1, h2⟩ := List.getElem?_eq_some_iff.1 ht0
            obtain ⟨h3, h4⟩ := List.getElem?_eq_some_iff.1 HT.out.1
            have := List.pairwise_iff_getElem.1 HK.out.1.up (i - 1) i h1 h3 (by omega)
            rw [h2, h4] at this
            exact this
        rcases hpre with rfl | ⟨u, hi0, hj, hju⟩
        · simp only [Nat.zero_mul, Nat.zero_add] at c0 c1 c2 c3 c4
          go_wp2
          go_loopw [8] (fun col wx => ∃ (m p c l : Nat), col = .int .i64 (c : Nat) ∧ plN s m = (l, c, p) ∧ p ≤ at_ ∧ Below w2.heap.size w2 wx ∧ wx.heap[Wo.heap.size]? = some (.stringIter (s.extract 0 at_) p)) (fun _ wx => at_ - iterPos wx Wo.heap.size)
          case atStart =>
            have hz := HT.out.2.2.size
            exact ⟨0, 0, 1, 1, rfl, rfl, Nat.zero_le _, HT.out.2.2.trans (((Below.refl _ Wo).alloc (Nat.le_refl _) (.stringIter (s.extract 0 at_) 0)).mono hz), World.alloc_heap_new Wo _⟩
          case round =>
            obtain ⟨m, p, c, l, rfl, hm, hp, hbx, hit⟩ := hrel
            have hltx : Wo.heap.size < wr.heap.size := (Array.getElem?_eq_some_iff.1 hit).1
            have hhz : (s.extract 0 at_).size = at_ := by rw [ByteArray.size_extract]; omega
            have hcb := plN_col s m
            rw [hm] at hcb
            simp only at hcb
            by_cases hpl : p < at_
            · have hn := HT.out.2.1
              have hnx2 := plN_next s (n := m) (m := n) (by rw [hm, hn]; exact hpl)
              rw [hm, hn] at hnx2
              simp only at hnx2
              have hst := plN_step s hm (by omega)
              have hdh := dec_head s p at_ hat hpl hnx2
              have hwd := (dec_width s p (by omega)).1
              have hrb : (Utf8.decode s p).1 ≤ 2147483647 := decode_le s p
              have HV0 : ∃ v, (Utf8.decode s p).2 = v := ⟨_, rfl⟩
              obtain ⟨v, hv⟩ := HV0
              rw [hv] at hnx2 hst hwd
              have HV := Lib.hid hv
              clear hv
              obtain ⟨r, hr⟩ : ∃ r, (Utf8.decode s p).1 = r := ⟨_, rfl⟩
              rw [hr] at hst hrb
              have hnx : ∀ ty, (Instr.next (.pointer (some ⟨Wo.heap.size, 0, none⟩)) true ty).run Tryz.prog wr = .ok (.tuple #[.bool true, .int .i64 p, .int .i32 r]) (wr.putObj Wo.heap.size (.stringIter (s.extract 0 at_) (p + (Utf8.decode (s.extract 0 at_) p).2))) := fun ty => by
                rw [run_next_str wr Wo.heap.size (s.extract 0 at_) p ty hit (by omega)]
                rw [hdh, hr]
              obtain ⟨W1, hW1⟩ : ∃ W1, wr.putObj Wo.heap.size (.stringIter (s.extract 0 at_) (p + (Utf8.decode (s.extract 0 at_) p).2)) = W1 := ⟨_, rfl⟩
              rw [hW1] at hnx
              have hdv : (Utf8.decode (s.extract 0 at_) p).2 = v := by rw [hdh]; exact HV.out
              have hit1 : W1.heap[Wo.heap.size]? = some (.stringIter (s.extract 0 at_) (p + v)) := by rw [← hW1, ← hdv]; exact World.putObj_heap_same hltx
              have hb1 : Below w2.heap.size w2 W1 := by rw [← hW1]; exact hbx.trans (below_putObj HT.out.2.2.size _)
              have hc1 : (c : Int) ≤ 20001 := by omega
              have HP := Lib.hid (And.intro hst (And.intro hit (And.intro hit1 (And.intro hb1 (And.intro hnx2 hwd)))))
              clear hst hit hit1 hb1 hnx2 hwd hdh hdv hW1 hbx hm hltx hn hr hhz
              by_cases h10 : r = 10
              · subst h10
                go_wp2
                go_roundw
                case rel =>
                  obtain ⟨hst, hit, hit1, hb1, hnx2, hwd⟩ := HP.out
                  rw [if_pos rfl] at hst
                  exact ⟨m + 1, p + v, 1, l + 1, rfl, hst, hnx2, hb1, hit1⟩
                case measure =>
                  obtain ⟨hst, hit, hit1, hb1, hnx2, hwd⟩ := HP.out
                  rw [iterPos_eq hit1, iterPos_eq hit]; omega
              · have n10 : ((r : Int) == 10) = false := by simp; omega
                go_wp2
                go_roundw
                case rel =>
                  obtain ⟨hst, hit, hit1, hb1, hnx2, hwd⟩ := HP.out
                  rw [if_neg h10] at hst
                  exact ⟨m + 1, p + v, c + 1, l, rfl, hst, hnx2, hb1, hit1⟩
                case measure =>
                  obtain ⟨hst, hit, hit1, hb1, hnx2, hwd⟩ := HP.out
                  rw [iterPos_eq hit1, iterPos_eq hit]; omega
            · have hpe : p = at_ := by omega
              subst hpe
              have hnx : ∀ ty, (Instr.next (.pointer (some ⟨Wo.heap.size, 0, none⟩)) true ty).run Tryz.prog wr = .ok (.tuple #[.bool false]) wr := fun ty => run_next_str_end wr Wo.heap.size (s.extract 0 p) p ty hit (by omega)
              have hone := plN_one s (n := m) (m := n) (by rw [hm, HT.out.2.1])
              rw [hm, HT.out.2.1] at hone
              injection hone with q1 hone
              injection hone with q2 _
              subst q1
              subst q2
              have hln := plN_line s n
              rw [HT.out.2.1] at hln
              simp only at hln
              obtain ⟨d0, d1, d2, d3, d4⟩ := HC.out wr _ _ hbx HT.out.1
              simp only [Nat.zero_mul, Nat.zero_add] at d0 d1 d2 d3 d4
              have hnh : nlc (s.extract 0 p) (s.extract 0 p).size = nlc s p := by
                unfold nlc
                have h1 : (s.extract 0 p).data.toList = s.data.toList.take p := by simp
                rw [h1, hhz, List.take_take, Nat.min_self]
              have CEn := Lib.hid (fun V => ended_any (s.extract 0 p) V (by rw [hhz]; omega))
              rw [hnh] at CEn
              obtain ⟨K, hK⟩ : ∃ K, nlc s p = K := ⟨_, rfl⟩
              rw [hK] at CEn hln
              rw [hln] at d2
              have hKb : K ≤ p := by
                rw [← hK]
                unfold nlc
                exact Nat.le_trans List.count_le_length (by rw [List.length_take]; exact Nat.min_le_left _ _)
              have HD := Lib.hid (And.intro d0 (And.intro d1 (And.intro d2 (And.intro d3 (And.intro d4 (And.intro hbx hit))))))
              have hK2 : (K : Int) ≤ 20000 := by omega
              have hc20 : (c : Int) ≤ 20001 := by omega
              clear hnh hK hln hhz hm hit hltx hbx hpl
              have hix : ∀ X : World, (Instr.indexAt 24 (.slice (some ⟨g, 0, none⟩) N cap) (.int .i64 0)).run Tryz.prog X = .ok (.pointer (some ⟨g, 0, none⟩)) X := fun X => by
                go_simp
                all_goals (intro h; exfalso; omega)
              have hf2 : ∀ X : World, (Instr.fieldAt 39 (.pointer (some ⟨g, 0, none⟩)) 2).run Tryz.prog X = .ok (.pointer (some ⟨g, 2, none⟩)) X := fun X => by go_simp
              have hf3 : ∀ X : World, (Instr.fieldAt 39 (.pointer (some ⟨g, 0, none⟩)) 3).run Tryz.prog X = .ok (.pointer (some ⟨g, 3, none⟩)) X := fun X => by go_simp
              have hl2 : ∀ X : World, Below wr.heap.size wr X → (Instr.loadAt 3 (.pointer (some ⟨g, 2, none⟩))).run Tryz.prog X = .ok (.int .i64 ((K : Int) + 1)) X := fun X hX => by
                have q : X.cell? ⟨g, 2, none⟩ = some (.int .i64 ((K : Int) + 1)) := (hX.cell (p := ⟨g, 2, none⟩) (Go.Kt.lt_of_cell d2)).trans d2
                go_simp
              have hl3 : ∀ X : World, Below wr.heap.size wr X → (Instr.loadAt 3 (.pointer (some ⟨g, 3, none⟩))).run Tryz.prog X = .ok (.int .i64 (c : Nat)) X := fun X hX => by
                have q : X.cell? ⟨g, 3, none⟩ = some (.int .i64 (c : Nat)) := (hX.cell (p := ⟨g, 3, none⟩) (Go.Kt.lt_of_cell d3)).trans d3
                go_simp
              have ha : ∀ X : World, (do eqGuard .add 3 (.tmp 75) (.const (.int .i64 1)) (.int .i64 (K : Nat)) (.int .i64 1); binOp .add 3 (.int .i64 (K : Nat)) (.int .i64 1) : Sem Value).run Tryz.prog X = .ok (.int .i64 ((K : Int) + 1)) X := fun X => by
                go_simp
                exact IntWalk.i64_in _ (by omega)
              have hn1 : ∀ X : World, (do eqGuard .neq 3 (.tmp 73) (.tmp 76) (.int .i64 ((K : Int) + 1)) (.int .i64 ((K : Int) + 1)); binOp .neq 3 (.int .i64 ((K : Int) + 1)) (.int .i64 ((K : Int) + 1)) : Sem Value).run Tryz.prog X = .ok (.bool false) X := fun X => by go_simp
              have hn2 : ∀ X : World, (do eqGuard .neq 3 (.tmp 83) (.tmp 84) (.int .i64 (c : Nat)) (.int .i64 (c : Nat)); binOp .neq 3 (.int .i64 (c : Nat)) (.int .i64 (c : Nat)) : Sem Value).run Tryz.prog X = .ok (.bool false) X := fun X => by go_simp
              go_wp2_with fail
              refine wp_region_guarded (fun X => Below wr.heap.size wr X) (fun U V => Below U.heap.size U V) (pP0 g N cap c K (s.extract 0 p)) (by kernel_rfl) (by kernel_rfl) (by kernel_rfl) ?hS ?hp ?hs ?hd
              case hS => exact (Below.refl _ wr).drew
              case hp => exact fun i v U V _ _ _ hv => hv
              case hs =>
                refine GSteps.cons ?_ (GSteps.cons ?_ (GSteps.cons ?_ (GSteps.cons ?_ (GSteps.cons ?_ (GSteps.cons ?_ (GSteps.cons ?_ (GSteps.cons ?_ (GSteps.cons ?_ (GSteps.cons ?_ (GSteps.cons ?_ (GSteps.cons ?_ (GSteps.cons ?_ (GSteps.cons ?_ (GSteps.cons ?_ (GSteps.cons ?_ (GSteps.cons ?_ (GSteps.cons ?_ (GSteps.nil))))))))))))))))))
                · intro a X hX hL hd
                  refine .inl ⟨rfl, ?_⟩
                  have e0 : a.eval (.tmp 3) = .slice (some ⟨g, 0, none⟩) N cap := hL.far 3 (by kernel_rfl)
                  exact wp_value (exec_move rfl e0) ⟨_, rfl, hX, Below.refl _ _, rfl⟩
                · intro a X hX hL hd
                  refine .inl ⟨rfl, ?_⟩
                  have e0 : a.eval (.tmp 5) = .int .i64 0 := hL.far 5 (by kernel_rfl)
                  exact wp_value (exec_move rfl e0) ⟨_, rfl, hX, Below.refl _ _, rfl⟩
                · intro a X hX hL hd
                  refine .inl ⟨rfl, ?_⟩
                  have e0 : a.eval (.tmp 69) = .slice (some ⟨g, 0, none⟩) N cap := hd 0 69 (by kernel_rfl) (by kernel_rfl)
                  have e1 : a.eval (.tmp 70) = .int .i64 0 := hd 1 70 (by kernel_rfl) (by kernel_rfl)
                  exact wp_value (exec_indexAddr rfl e0 e1 (hix X)) ⟨_, rfl, hX, Below.refl _ _, rfl⟩
                · intro a X hX hL hd
                  refine .inl ⟨rfl, ?_⟩
                  have e0 : a.eval (.tmp 71) = .pointer (some ⟨g, 0, none⟩) := hd 2 71 (by kernel_rfl) (by kernel_rfl)
                  exact wp_value (exec_fieldAddr rfl e0 (hf2 X)) ⟨_, rfl, hX, Below.refl _ _, rfl⟩
                · intro a X hX hL hd
                  refine .inl ⟨rfl, ?_⟩
                  have e0 : a.eval (.tmp 72) = .pointer (some ⟨g, 2, none⟩) := hd 3 72 (by kernel_rfl) (by kernel_rfl)
                  exact wp_value (exec_load rfl e0 (hl2 X hX)) ⟨_, rfl, hX, Below.refl _ _, rfl⟩
                · intro a X hX hL hd
                  refine .inl ⟨rfl, ?_⟩
                  have e0 : a.eval (.tmp 7) = .string (s.extract 0 p) := hL.far 7 (by kernel_rfl)
                  exact wp_value (exec_move rfl e0) ⟨_, rfl, hX, Below.refl _ _, rfl⟩
                · intro a X hX hL hd
                  refine .inl ⟨rfl, ?_⟩
                  have e0 : a.eval (.tmp 74) = .string (s.extract 0 p) := hd 5 74 (by kernel_rfl) (by kernel_rfl)
                  refine wp_enter (exec_call (vs := #[.string (s.extract 0 p)]) rfl (by simp only [List.map_toArray, List.map_cons, List.map_nil, e0]) Tryz.func19 rfl rfl) ?_
                  refine (CEn.out X).mono ?_
                  rintro e X2 ⟨rfl, rfl⟩
                  exact ⟨_, rfl, _, rfl, hX, Below.refl _ _, rfl⟩
                · intro a X hX hL hd
                  refine .inl ⟨rfl, ?_⟩
                  have e0 : a.eval (.tmp 75) = .int .i64 (K : Nat) := hd 6 75 (by kernel_rfl) (by kernel_rfl)
                  exact wp_value (exec_binop rfl e0 rfl (ha X)) ⟨_, rfl, hX, Below.refl _ _, rfl⟩
                · intro a X hX hL hd
                  refine .inl ⟨rfl, ?_⟩
                  have e0 : a.eval (.tmp 73) = .int .i64 ((K : Int) + 1) := hd 4 73 (by kernel_rfl) (by kernel_rfl)
                  have e1 : a.eval (.tmp 76) = .int .i64 ((K : Int) + 1) := hd 7 76 (by kernel_rfl) (by kernel_rfl)
                  exact wp_value (exec_binop rfl e0 e1 (hn1 X)) ⟨_, rfl, hX, Below.refl _ _, rfl⟩
                · intro a X hX hL hd
                  refine .inl ⟨rfl, ?_⟩
                  have e0 : a.eval (.tmp 77) = .bool false := hd 8 77 (by kernel_rfl) (by kernel_rfl)
                  exact wp_value (exec_move rfl e0) ⟨_, rfl, hX, Below.refl _ _, rfl⟩
                · intro a X hX hL hd
                  refine .inl ⟨wanted_true 78 rfl (by kernel_rfl) (hd 9 78 (by kernel_rfl) (by kernel_rfl)), ?_⟩
                  have e0 : a.eval (.tmp 3) = .slice (some ⟨g, 0, none⟩) N cap := hL.far 3 (by kernel_rfl)
                  exact wp_value (exec_move rfl e0) ⟨_, rfl, hX, Below.refl _ _, rfl⟩
                · intro a X hX hL hd
                  refine .inl ⟨wanted_true 78 rfl (by kernel_rfl) (hd 9 78 (by kernel_rfl) (by kernel_rfl)), ?_⟩
                  have e0 : a.eval (.tmp 5) = .int .i64 0 := hL.far 5 (by kernel_rfl)
                  exact wp_value (exec_move rfl e0) ⟨_, rfl, hX, Below.refl _ _, rfl⟩
                · intro a X hX hL hd
                  refine .inl ⟨wanted_true 78 rfl (by kernel_rfl) (hd 9 78 (by kernel_rfl) (by kernel_rfl)), ?_⟩
                  have e0 : a.eval (.tmp 79) = .slice (some ⟨g, 0, none⟩) N cap := hd 10 79 (by kernel_rfl) (by kernel_rfl)
                  have e1 : a.eval (.tmp 80) = .int .i64 0 := hd 11 80 (by kernel_rfl) (by kernel_rfl)
                  exact wp_value (exec_indexAddr rfl e0 e1 (hix X)) ⟨_, rfl, hX, Below.refl _ _, rfl⟩
                · intro a X hX hL hd
                  refine .inl ⟨wanted_true 78 rfl (by kernel_rfl) (hd 9 78 (by kernel_rfl) (by kernel_rfl)), ?_⟩
                  have e0 : a.eval (.tmp 81) = .pointer (some ⟨g, 0, none⟩) := hd 12 81 (by kernel_rfl) (by kernel_rfl)
                  exact wp_value (exec_fieldAddr rfl e0 (hf3 X)) ⟨_, rfl, hX, Below.refl _ _, rfl⟩
                · intro a X hX hL hd
                  refine .inl ⟨wanted_true 78 rfl (by kernel_rfl) (hd 9 78 (by kernel_rfl) (by kernel_rfl)), ?_⟩
                  have e0 : a.eval (.tmp 82) = .pointer (some ⟨g, 3, none⟩) := hd 13 82 (by kernel_rfl) (by kernel_rfl)
                  exact wp_value (exec_load rfl e0 (hl3 X hX)) ⟨_, rfl, hX, Below.refl _ _, rfl⟩
                · intro a X hX hL hd
                  refine .inl ⟨wanted_true 78 rfl (by kernel_rfl) (hd 9 78 (by kernel_rfl) (by kernel_rfl)), ?_⟩
                  have e0 : a.eval (.tmp 8) = .int .i64 (c : Nat) := hL.far 8 (by kernel_rfl)
                  exact wp_value (exec_move rfl e0) ⟨_, rfl, hX, Below.refl _ _, rfl⟩
                · intro a X hX hL hd
                  refine .inl ⟨wanted_true 78 rfl (by kernel_rfl) (hd 9 78 (by kernel_rfl) (by kernel_rfl)), ?_⟩
                  have e0 : a.eval (.tmp 83) = .int .i64 (c : Nat) := hd 14 83 (by kernel_rfl) (by kernel_rfl)
                  have e1 : a.eval (.tmp 84) = .int .i64 (c : Nat) := hd 15 84 (by kernel_rfl) (by kernel_rfl)
                  exact wp_value (exec_binop rfl e0 e1 (hn2 X)) ⟨_, rfl, hX, Below.refl _ _, rfl⟩
                · intro a X hX hL hd
                  refine .inl ⟨rfl, ?_⟩
                  have e0 : a.eval (.tmp 78) = .bool false := hd 9 78 (by kernel_rfl) (by kernel_rfl)
                  have e1 : a.eval (.tmp 85) = .bool false := hd 16 85 (by kernel_rfl) (by kernel_rfl)
                  exact wp_value (exec_pick rfl e0 rfl e1) ⟨_, rfl, hX, Below.refl _ _, rfl⟩
              case hd =>
                intro a X hX hL hP _
                obtain ⟨f, ha2, hf⟩ := hL.out [69, 70, 71, 72, 73, 74, 75, 76, 77, 78, 79, 80, 81, 82, 83, 84, 85, 86] rfl
                have v86 : f 86 = .bool false := (hf 86).trans (hP 17 86 (by kernel_rfl))
                have HX := Lib.hid hX
                clear hX hL hP hf hix hf2 hf3 hl2 hl3 ha hn1 hn2 CEn
                simp only [List.foldl_cons, List.foldl_nil, List.setIfInBounds_toArray, List.set_cons_zero, List.set_cons_succ, v86] at ha2
                subst ha2
                have hbX : Below w2.heap.size w2 X := HD.out.2.2.2.2.2.1.trans (HX.out.mono HD.out.2.2.2.2.2.1.size)
                obtain ⟨x0, x1, x2, x3, x4⟩ := HC.out X _ _ hbX HT.out.1
                simp only at x0 x1
                simp only [Nat.zero_mul, Nat.zero_add] at x0 x1 x2 x3 x4
                obtain ⟨T, hT⟩ : ∃ T : ByteArray, (⟨tx.toArray⟩ : ByteArray) = T := ⟨_, rfl⟩
                have hTl : T.data.toList = tx := by rw [← hT]
                have hTz : T.size = tx.length := by rw [← hT]; exact size_mk _
                rw [hT] at x1
                have hsg := HK.out.1.sg _ (List.mem_of_getElem? HT.out.1)
                simp only at hsg
                have HBX := Lib.hid hbX
                have HII : Hid (0 + 1 ≤ N) := Lib.hid (by omega)
                by_cases hk : kd = 2
                · obtain ⟨g1, g2⟩ := hsg hk
                  subst hk
                  have m1 : (p : Int) + (T.size : Int) ≤ s.size := by omega
                  have m2 : ¬ (s.size : Int) - (p : Int) < (T.size : Int) := by omega
                  have m4 : (s.size : Int) ≤ 20000 := by omega
                  have m7 : (p : Int) ≤ (p : Int) + (T.size : Int) := by omega
                  have m5 : IntKind.i64.wrap ((s.size : Int) - (p : Int)) = (s.size : Int) - (p : Int) := IntWalk.i64_in _ (by omega)
                  have m6 : IntKind.i64.wrap ((p : Int) + (T.size : Int)) = (p : Int) + (T.size : Int) := IntWalk.i64_in _ (by omega)
                  have hex : s.extract p (p + T.size) = T := by
                    apply ByteArray.ext
                    apply Array.toList_inj.1
                    rw [hTl, hTz]
                    exact g2
                  have m3 : ((p : Int) + (T.size : Int)).toNat = p + T.size := by omega
                  clear hsg hTl hTz hT g1 g2 hbX
                  go_wp2_with fail
                  go_quiet (fail)
                  go_wp2
                  go_roundw
                  case rel => exact ⟨0 + 1, by simp, HII.out, below_drewN HBX.out _⟩
                  case measure => simp [RowKit.intOf]; have := HII.out; omega
                · have nk : (((kd : Nat) : Int) == 2) = false := by simp; omega
                  clear hsg hTl hTz hT hk hbX
                  go_wp2_with fail
                  go_quiet (fail)
                  go_wp2
                  go_roundw
                  case rel => exact ⟨0 + 1, by simp, HII.out, below_drewN HBX.out _⟩
                  case measure => simp [RowKit.intOf]; have := HII.out; omega
        · have hju' : ¬ (at_ : Int) ≤ u := by omega
          have hi0' : (0 : Int) < i := by omega
          have hp1 : (0 : Int) ≤ (i : Int) - 1 := by omega
          have hp2 : (i : Int) - 1 < N := by omega
          have hp3 : IntKind.i64.wrap ((i : Int) - 1) = (i : Int) - 1 := IntWalk.i64_in _ (by omega)
          have hp4 : ((i : Int) - 1).toNat = i - 1 := by omega
          go_wp2
          clear hp1 hp2 hp3 hp4 hju' hj hju
          go_loopw [8] (fun col wx => ∃ (m p c l : Nat), col = .int .i64 (c : Nat) ∧ plN s m = (l, c, p) ∧ p ≤ at_ ∧ Below w2.heap.size w2 wx ∧ wx.heap[Wo.heap.size]? = some (.stringIter (s.extract 0 at_) p)) (fun _ wx => at_ - iterPos wx Wo.heap.size)
          case atStart =>
            have hz := HT.out.2.2.size
            exact ⟨0, 0, 1, 1, rfl, rfl, Nat.zero_le _, HT.out.2.2.trans (((Below.refl _ Wo).alloc (Nat.le_refl _) (.stringIter (s.extract 0 at_) 0)).mono hz), World.alloc_heap_new Wo _⟩
          case round =>
            obtain ⟨m, p, c, l, rfl, hm, hp, hbx, hit⟩ := hrel
            have hltx : Wo.heap.size < wr.heap.size := (Array.getElem?_eq_some_iff.1 hit).1
            have hhz : (s.extract 0 at_).size = at_ := by rw [ByteArray.size_extract]; omega
            have hcb := plN_col s m
            rw [hm] at hcb
            simp only at hcb
            by_cases hpl : p < at_
            · have hn := HT.out.2.1
              have hnx2 := plN_next s (n := m) (m := n) (by rw [hm, hn]; exact hpl)
              rw [hm, hn] at hnx2
              simp only at hnx2
              have hst := plN_step s hm (by omega)
              have hdh := dec_head s p at_ hat hpl hnx2
              have hwd := (dec_width s p (by omega)).1
              have hrb : (Utf8.decode s p).1 ≤ 2147483647 := decode_le s p
              have HV0 : ∃ v, (Utf8.decode s p).2 = v := ⟨_, rfl⟩
              obtain ⟨v, hv⟩ := HV0
              rw [hv] at hnx2 hst hwd
              have HV := Lib.hid hv
              clear hv
              obtain ⟨r, hr⟩ : ∃ r, (Utf8.decode s p).1 = r := ⟨_, rfl⟩
              rw [hr] at hst hrb
              have hnx : ∀ ty, (Instr.next (.pointer (some ⟨Wo.heap.size, 0, none⟩)) true ty).run Tryz.prog wr = .ok (.tuple #[.bool true, .int .i64 p, .int .i32 r]) (wr.putObj Wo.heap.size (.stringIter (s.extract 0 at_) (p + (Utf8.decode (s.extract 0 at_) p).2))) := fun ty => by
                rw [run_next_str wr Wo.heap.size (s.extract 0 at_) p ty hit (by omega)]
                rw [hdh, hr]
              obtain ⟨W1, hW1⟩ : ∃ W1, wr.putObj Wo.heap.size (.stringIter (s.extract 0 at_) (p + (Utf8.decode (s.extract 0 at_) p).2)) = W1 := ⟨_, rfl⟩
              rw [hW1] at hnx
              have hdv : (Utf8.decode (s.extract 0 at_) p).2 = v := by rw [hdh]; exact HV.out
              have hit1 : W1.heap[Wo.heap.size]? = some (.stringIter (s.extract 0 at_) (p + v)) := by rw [← hW1, ← hdv]; exact World.putObj_heap_same hltx
              have hb1 : Below w2.heap.size w2 W1 := by rw [← hW1]; exact hbx.trans (below_putObj HT.out.2.2.size _)
              have hc1 : (c : Int) ≤ 20001 := by omega
              have HP := Lib.hid (And.intro hst (And.intro hit (And.intro hit1 (And.intro hb1 (And.intro hnx2 hwd)))))
              clear hst hit hit1 hb1 hnx2 hwd hdh hdv hW1 hbx hm hltx hn hr hhz
              by_cases h10 : r = 10
              · subst h10
                go_wp2
                go_roundw
                case rel =>
                  obtain ⟨hst, hit, hit1, hb1, hnx2, hwd⟩ := HP.out
                  rw [if_pos rfl] at hst
                  exact ⟨m + 1, p + v, 1, l + 1, rfl, hst, hnx2, hb1, hit1⟩
                case measure =>
                  obtain ⟨hst, hit, hit1, hb1, hnx2, hwd⟩ := HP.out
                  rw [iterPos_eq hit1, iterPos_eq hit]; omega
              · have n10 : ((r : Int) == 10) = false := by simp; omega
                go_wp2
                go_roundw
                case rel =>
                  obtain ⟨hst, hit, hit1, hb1, hnx2, hwd⟩ := HP.out
                  rw [if_neg h10] at hst
                  exact ⟨m + 1, p + v, c + 1, l, rfl, hst, hnx2, hb1, hit1⟩
                case measure =>
                  obtain ⟨hst, hit, hit1, hb1, hnx2, hwd⟩ := HP.out
                  rw [iterPos_eq hit1, iterPos_eq hit]; omega
            · have hpe : p = at_ := by omega
              subst hpe
              have hnx : ∀ ty, (Instr.next (.pointer (some ⟨Wo.heap.size, 0, none⟩)) true ty).run Tryz.prog wr = .ok (.tuple #[.bool false]) wr := fun ty => run_next_str_end wr Wo.heap.size (s.extract 0 p) p ty hit (by omega)
              have hone := plN_one s (n := m) (m := n) (by rw [hm, HT.out.2.1])
              rw [hm, HT.out.2.1] at hone
              injection hone with q1 hone
              injection hone with q2 _
              subst q1
              subst q2
              have hln := plN_line s n
              rw [HT.out.2.1] at hln
              simp only at hln
              obtain ⟨d0, d1, d2, d3, d4⟩ := HC.out wr _ _ hbx HT.out.1
              skip
              have hnh : nlc (s.extract 0 p) (s.extract 0 p).size = nlc s p := by
                unfold nlc
                have h1 : (s.extract 0 p).data.toList = s.data.toList.take p := by simp
                rw [h1, hhz, List.take_take, Nat.min_self]
              have CEn := Lib.hid (fun V => ended_any (s.extract 0 p) V (by rw [hhz]; omega))
              rw [hnh] at CEn
              obtain ⟨K, hK⟩ : ∃ K, nlc s p = K := ⟨_, rfl⟩
              rw [hK] at CEn hln
              rw [hln] at d2
              have hKb : K ≤ p := by
                rw [← hK]
                unfold nlc
                exact Nat.le_trans List.count_le_length (by rw [List.length_take]; exact Nat.min_le_left _ _)
              have HD := Lib.hid (And.intro d0 (And.intro d1 (And.intro d2 (And.intro d3 (And.intro d4 (And.intro hbx hit))))))
              have hK2 : (K : Int) ≤ 20000 := by omega
              have hc20 : (c : Int) ≤ 20001 := by omega
              clear hnh hK hln hhz hm hit hltx hbx hpl
              have hix : ∀ X : World, (Instr.indexAt 24 (.slice (some ⟨g, 0, none⟩) N cap) (.int .i64 (i : Nat))).run Tryz.prog X = .ok (.pointer (some ⟨g, i * 5, none⟩)) X := fun X => by
                go_simp
                all_goals (intro h; exfalso; omega)
              have hf2 : ∀ X : World, (Instr.fieldAt 39 (.pointer (some ⟨g, i * 5, none⟩)) 2).run Tryz.prog X = .ok (.pointer (some ⟨g, i * 5 + 2, none⟩)) X := fun X => by go_simp
              have hf3 : ∀ X : World, (Instr.fieldAt 39 (.pointer (some ⟨g, i * 5, none⟩)) 3).run Tryz.prog X = .ok (.pointer (some ⟨g, i * 5 + 3, none⟩)) X := fun X => by go_simp
              have hl2 : ∀ X : World, Below wr.heap.size wr X → (Instr.loadAt 3 (.pointer (some ⟨g, i * 5 + 2, none⟩))).run Tryz.prog X = .ok (.int .i64 ((K : Int) + 1)) X := fun X hX => by
                have q : X.cell? ⟨g, i * 5 + 2, none⟩ = some (.int .i64 ((K : Int) + 1)) := (hX.cell (p := ⟨g, i * 5 + 2, none⟩) (Go.Kt.lt_of_cell d2)).trans d2
                go_simp
              have hl3 : ∀ X : World, Below wr.heap.size wr X → (Instr.loadAt 3 (.pointer (some ⟨g, i * 5 + 3, none⟩))).run Tryz.prog X = .ok (.int .i64 (c : Nat)) X := fun X hX => by
                have q : X.cell? ⟨g, i * 5 + 3, none⟩ = some (.int .i64 (c : Nat)) := (hX.cell (p := ⟨g, i * 5 + 3, none⟩) (Go.Kt.lt_of_cell d3)).trans d3
                go_simp
              have ha : ∀ X : World, (do eqGuard .add 3 (.tmp 75) (.const (.int .i64 1)) (.int .i64 (K : Nat)) (.int .i64 1); binOp .add 3 (.int .i64 (K : Nat)) (.int .i64 1) : Sem Value).run Tryz.prog X = .ok (.int .i64 ((K : Int) + 1)) X := fun X => by
                go_simp
                exact IntWalk.i64_in _ (by omega)
              have hn1 : ∀ X : World, (do eqGuard .neq 3 (.tmp 73) (.tmp 76) (.int .i64 ((K : Int) + 1)) (.int .i64 ((K : Int) + 1)); binOp .neq 3 (.int .i64 ((K : Int) + 1)) (.int .i64 ((K : Int) + 1)) : Sem Value).run Tryz.prog X = .ok (.bool false) X := fun X => by go_simp
              have hn2 : ∀ X : World, (do eqGuard .neq 3 (.tmp 83) (.tmp 84) (.int .i64 (c : Nat)) (.int .i64 (c : Nat)); binOp .neq 3 (.int .i64 (c : Nat)) (.int .i64 (c : Nat)) : Sem Value).run Tryz.prog X = .ok (.bool false) X := fun X => by go_simp
              go_wp2_with fail
              refine wp_region_guarded (fun X => Below wr.heap.size wr X) (fun U V => Below U.heap.size U V) (pP1 g N cap c K i (s.extract 0 p)) (by kernel_rfl) (by kernel_rfl) (by kernel_rfl) ?hS ?hp ?hs ?hd
              case hS => exact (Below.refl _ wr).drew
              case hp => exact fun i v U V _ _ _ hv => hv
              case hs =>
                refine GSteps.cons ?_ (GSteps.cons ?_ (GSteps.cons ?_ (GSteps.cons ?_ (GSteps.cons ?_ (GSteps.cons ?_ (GSteps.cons ?_ (GSteps.cons ?_ (GSteps.cons ?_ (GSteps.cons ?_ (GSteps.cons ?_ (GSteps.cons ?_ (GSteps.cons ?_ (GSteps.cons ?_ (GSteps.cons ?_ (GSteps.cons ?_ (GSteps.cons ?_ (GSteps.cons ?_ (GSteps.nil))))))))))))))))))
                · intro a X hX hL hd
                  refine .inl ⟨rfl, ?_⟩
                  have e0 : a.eval (.tmp 3) = .slice (some ⟨g, 0, none⟩) N cap := hL.far 3 (by kernel_rfl)
                  exact wp_value (exec_move rfl e0) ⟨_, rfl, hX, Below.refl _ _, rfl⟩
                · intro a X hX hL hd
                  refine .inl ⟨rfl, ?_⟩
                  have e0 : a.eval (.tmp 5) = .int .i64 (i : Nat) := hL.far 5 (by kernel_rfl)
                  exact wp_value (exec_move rfl e0) ⟨_, rfl, hX, Below.refl _ _, rfl⟩
                · intro a X hX hL hd
                  refine .inl ⟨rfl, ?_⟩
                  have e0 : a.eval (.tmp 69) = .slice (some ⟨g, 0, none⟩) N cap := hd 0 69 (by kernel_rfl) (by kernel_rfl)
                  have e1 : a.eval (.tmp 70) = .int .i64 (i : Nat) := hd 1 70 (by kernel_rfl) (by kernel_rfl)
                  exact wp_value (exec_indexAddr rfl e0 e1 (hix X)) ⟨_, rfl, hX, Below.refl _ _, rfl⟩
                · intro a X hX hL hd
                  refine .inl ⟨rfl, ?_⟩
                  have e0 : a.eval (.tmp 71) = .pointer (some ⟨g, i * 5, none⟩) := hd 2 71 (by kernel_rfl) (by kernel_rfl)
                  exact wp_value (exec_fieldAddr rfl e0 (hf2 X)) ⟨_, rfl, hX, Below.refl _ _, rfl⟩
                · intro a X hX hL hd
                  refine .inl ⟨rfl, ?_⟩
                  have e0 : a.eval (.tmp 72) = .pointer (some ⟨g, i * 5 + 2, none⟩) := hd 3 72 (by kernel_rfl) (by kernel_rfl)
                  exact wp_value (exec_load rfl e0 (hl2 X hX)) ⟨_, rfl, hX, Below.refl _ _, rfl⟩
                · intro a X hX hL hd
                  refine .inl ⟨rfl, ?_⟩
                  have e0 : a.eval (.tmp 7) = .string (s.extract 0 p) := hL.far 7 (by kernel_rfl)
                  exact wp_value (exec_move rfl e0) ⟨_, rfl, hX, Below.refl _ _, rfl⟩
                · intro a X hX hL hd
                  refine .inl ⟨rfl, ?_⟩
                  have e0 : a.eval (.tmp 74) = .string (s.extract 0 p) := hd 5 74 (by kernel_rfl) (by kernel_rfl)
                  refine wp_enter (exec_call (vs := #[.string (s.extract 0 p)]) rfl (by simp only [List.map_toArray, List.map_cons, List.map_nil, e0]) Tryz.func19 rfl rfl) ?_
                  refine (CEn.out X).mono ?_
                  rintro e X2 ⟨rfl, rfl⟩
                  exact ⟨_, rfl, _, rfl, hX, Below.refl _ _, rfl⟩
                · intro a X hX hL hd
                  refine .inl ⟨rfl, ?_⟩
                  have e0 : a.eval (.tmp 75) = .int .i64 (K : Nat) := hd 6 75 (by kernel_rfl) (by kernel_rfl)
                  exact wp_value (exec_binop rfl e0 rfl (ha X)) ⟨_, rfl, hX, Below.refl _ _, rfl⟩
                · intro a X hX hL hd
                  refine .inl ⟨rfl, ?_⟩
                  have e0 : a.eval (.tmp 73) = .int .i64 ((K : Int) + 1) := hd 4 73 (by kernel_rfl) (by kernel_rfl)
                  have e1 : a.eval (.tmp 76) = .int .i64 ((K : Int) + 1) := hd 7 76 (by kernel_rfl) (by kernel_rfl)
                  exact wp_value (exec_binop rfl e0 e1 (hn1 X)) ⟨_, rfl, hX, Below.refl _ _, rfl⟩
                · intro a X hX hL hd
                  refine .inl ⟨rfl, ?_⟩
                  have e0 : a.eval (.tmp 77) = .bool false := hd 8 77 (by kernel_rfl) (by kernel_rfl)
                  exact wp_value (exec_move rfl e0) ⟨_, rfl, hX, Below.refl _ _, rfl⟩
                · intro a X hX hL hd
                  refine .inl ⟨wanted_true 78 rfl (by kernel_rfl) (hd 9 78 (by kernel_rfl) (by kernel_rfl)), ?_⟩
                  have e0 : a.eval (.tmp 3) = .slice (some ⟨g, 0, none⟩) N cap := hL.far 3 (by kernel_rfl)
                  exact wp_value (exec_move rfl e0) ⟨_, rfl, hX, Below.refl _ _, rfl⟩
                · intro a X hX hL hd
                  refine .inl ⟨wanted_true 78 rfl (by kernel_rfl) (hd 9 78 (by kernel_rfl) (by kernel_rfl)), ?_⟩
                  have e0 : a.eval (.tmp 5) = .int .i64 (i : Nat) := hL.far 5 (by kernel_rfl)
                  exact wp_value (exec_move rfl e0) ⟨_, rfl, hX, Below.refl _ _, rfl⟩
                · intro a X hX hL hd
                  refine .inl ⟨wanted_true 78 rfl (by kernel_rfl) (hd 9 78 (by kernel_rfl) (by kernel_rfl)), ?_⟩
                  have e0 : a.eval (.tmp 79) = .slice (some ⟨g, 0, none⟩) N cap := hd 10 79 (by kernel_rfl) (by kernel_rfl)
                  have e1 : a.eval (.tmp 80) = .int .i64 (i : Nat) := hd 11 80 (by kernel_rfl) (by kernel_rfl)
                  exact wp_value (exec_indexAddr rfl e0 e1 (hix X)) ⟨_, rfl, hX, Below.refl _ _, rfl⟩
                · intro a X hX hL hd
                  refine .inl ⟨wanted_true 78 rfl (by kernel_rfl) (hd 9 78 (by kernel_rfl) (by kernel_rfl)), ?_⟩
                  have e0 : a.eval (.tmp 81) = .pointer (some ⟨g, i * 5, none⟩) := hd 12 81 (by kernel_rfl) (by kernel_rfl)
                  exact wp_value (exec_fieldAddr rfl e0 (hf3 X)) ⟨_, rfl, hX, Below.refl _ _, rfl⟩
                · intro a X hX hL hd
                  refine .inl ⟨wanted_true 78 rfl (by kernel_rfl) (hd 9 78 (by kernel_rfl) (by kernel_rfl)), ?_⟩
                  have e0 : a.eval (.tmp 82) = .pointer (some ⟨g, i * 5 + 3, none⟩) := hd 13 82 (by kernel_rfl) (by kernel_rfl)
                  exact wp_value (exec_load rfl e0 (hl3 X hX)) ⟨_, rfl, hX, Below.refl _ _, rfl⟩
                · intro a X hX hL hd
                  refine .inl ⟨wanted_true 78 rfl (by kernel_rfl) (hd 9 78 (by kernel_rfl) (by kernel_rfl)), ?_⟩
                  have e0 : a.eval (.tmp 8) = .int .i64 (c : Nat) := hL.far 8 (by kernel_rfl)
                  exact wp_value (exec_move rfl e0) ⟨_, rfl, hX, Below.refl _ _, rfl⟩
                · intro a X hX hL hd
                  refine .inl ⟨wanted_true 78 rfl (by kernel_rfl) (hd 9 78 (by kernel_rfl) (by kernel_rfl)), ?_⟩
                  have e0 : a.eval (.tmp 83) = .int .i64 (c : Nat) := hd 14 83 (by kernel_rfl) (by kernel_rfl)
                  have e1 : a.eval (.tmp 84) = .int .i64 (c : Nat) := hd 15 84 (by kernel_rfl) (by kernel_rfl)
                  exact wp_value (exec_binop rfl e0 e1 (hn2 X)) ⟨_, rfl, hX, Below.refl _ _, rfl⟩
                · intro a X hX hL hd
                  refine .inl ⟨rfl, ?_⟩
                  have e0 : a.eval (.tmp 78) = .bool false := hd 9 78 (by kernel_rfl) (by kernel_rfl)
                  have e1 : a.eval (.tmp 85) = .bool false := hd 16 85 (by kernel_rfl) (by kernel_rfl)
                  exact wp_value (exec_pick rfl e0 rfl e1) ⟨_, rfl, hX, Below.refl _ _, rfl⟩
              case hd =>
                intro a X hX hL hP _
                obtain ⟨f, ha2, hf⟩ := hL.out [69, 70, 71, 72, 73, 74, 75, 76, 77, 78, 79, 80, 81, 82, 83, 84, 85, 86] rfl
                have v86 : f 86 = .bool false := (hf 86).trans (hP 17 86 (by kernel_rfl))
                have HX := Lib.hid hX
                clear hX hL hP hf hix hf2 hf3 hl2 hl3 ha hn1 hn2 CEn
                simp only [List.foldl_cons, List.foldl_nil, List.setIfInBounds_toArray, List.set_cons_zero, List.set_cons_succ, v86] at ha2
                subst ha2
                have hbX : Below w2.heap.size w2 X := HD.out.2.2.2.2.2.1.trans (HX.out.mono HD.out.2.2.2.2.2.1.size)
                obtain ⟨x0, x1, x2, x3, x4⟩ := HC.out X _ _ hbX HT.out.1
                simp only at x0 x1
                simp only [Nat.zero_mul, Nat.zero_add] at x0 x1 x2 x3 x4
                obtain ⟨T, hT⟩ : ∃ T : ByteArray, (⟨tx.toArray⟩ : ByteArray) = T := ⟨_, rfl⟩
                have hTl : T.data.toList = tx := by rw [← hT]
                have hTz : T.size = tx.length := by rw [← hT]; exact size_mk _
                rw [hT] at x1
                have hsg := HK.out.1.sg _ (List.mem_of_getElem? HT.out.1)
                simp only at hsg
                have HBX := Lib.hid hbX
                have HII : Hid (i + 1 ≤ N) := Lib.hid (by omega)
                by_cases hk : kd = 2
                · obtain ⟨g1, g2⟩ := hsg hk
                  subst hk
                  have m1 : (p : Int) + (T.size : Int) ≤ s.size := by omega
                  have m2 : ¬ (s.size : Int) - (p : Int) < (T.size : Int) := by omega
                  have m4 : (s.size : Int) ≤ 20000 := by omega
                  have m7 : (p : Int) ≤ (p : Int) + (T.size : Int) := by omega
                  have m5 : IntKind.i64.wrap ((s.size : Int) - (p : Int)) = (s.size : Int) - (p : Int) := IntWalk.i64_in _ (by omega)
                  have m6 : IntKind.i64.wrap ((p : Int) + (T.size : Int)) = (p : Int) + (T.size : Int) := IntWalk.i64_in _ (by omega)
                  have hex : s.extract p (p + T.size) = T := by
                    apply ByteArray.ext
                    apply Array.toList_inj.1
                    rw [hTl, hTz]
                    exact g2
                  have m3 : ((p : Int) + (T.size : Int)).toNat = p + T.size := by omega
                  clear hsg hTl hTz hT g1 g2 hbX
                  go_wp2_with fail
                  go_quiet (fail)
                  go_wp2
                  go_roundw
                  case rel => exact ⟨i + 1, by simp, HII.out, below_drewN HBX.out _⟩
                  case measure => simp [RowKit.intOf]; have := HII.out; omega
                · have nk : (((kd : Nat) : Int) == 2) = false := by simp; omega
                  clear hsg hTl hTz hT hk hbX
                  go_wp2_with fail
                  go_quiet (fail)
                  go_wp2
                  go_roundw
                  case rel => exact ⟨i + 1, by simp, HII.out, below_drewN HBX.out _⟩
                  case measure => simp [RowKit.intOf]; have := HII.out; omega
      · have hie : i = N := by omega
        subst hie
        have hlt' : ¬ (i : Int) < i := by omega
        have hLn := HN.out
        obtain ⟨_, hLe, hpE⟩ := HK.out
        have hNp : i = L0.length + 1 := by rw [← hLn, hLe]; simp
        subst hNp
        have hgt : L[L0.length]? = some ⟨0, [], pE⟩ := by rw [hLe]; simp
        obtain ⟨c0, c1, c2, c3, c4⟩ := HC.out Wo L0.length _ hb hgt
        simp only at c0 c4
        rw [hpE] at c4
        have hwj : wrap64 (L0.length : Int) = L0.length := by
          have h1 := HN2.out
          unfold maxLen at h1
          unfold wrap64; omega
        have hbw := HB1.out.trans (hb.mono HB1.out.size)
        have HB := Lib.hid hbw
        clear c1 c2 c3 hLe hpE hgt hLn hb hlt hbw
        generalize L0.length = m at *
        have hm0 : (0 : Int) < (m : Int) + 1 := by omega
        have hm1 : (m : Int) < (m : Int) + 1 := by omega
        go_wp2_with (go_at_call 10; refine (CW.out _ HB.out).mono ?_; rintro e w4 ⟨rfl, hb4⟩)
        go_ret
        exact ⟨rfl, HB.out.trans (hb4.mono HB.out.size)⟩
end Go.Proofs.YtlfdpdlhppgakaaGreatDoor
/- Of every text, ScanPlaces answers true (line, column and byte of each token are one place; tokens stand behind one another), in any world in which the package's variables are laid: the row and the card. -/
namespace Go.Proofs.YtlfdpdlhppgakaaGreatDoor
open Go.ChangeShapes Go.WideShapes Go.ChangeAt Go.RowKit Go.Kt
set_option maxRecDepth 100000

theorem scanPlaces_lifted (os : Os) (started : os.Started) (H : Type) (enc : TypeId × Value → H) (F : Stop.Interp) :
    ReturnsInHanded {} Tryz.checked os 8 .any ((OpenSpec.ofChange Rows.scanPlacesSpec).preRow enc Tryz.prog Tryz.f8 Rows.scanPlacesRow.domain false Rows.scanPlacesRow.laid) (((OpenSpec.ofChange Rows.scanPlacesSpec).at F).post enc Tryz.prog Tryz.f8 false true false false) := by
  refine returnsInHanded_of_row (C := Tryz.checked) (s := OpenSpec.ofChange Rows.scanPlacesSpec) own started (by kernel_rfl) Tryz.func8
    (witness_row_at (enc := enc) (C := Tryz.checked) false (world8 os) #[.string ⟨#[]⟩] (world8_os _) (by kernel_rfl) (by kernel_rfl) (by kernel_rfl)
      (OpenSpec.preRow_of_cond (x := ([.lit (.string [])], [], [])) 8 (by kernel_rfl) (by kernel_rfl) (fun k hk => by cases hk) (by kernel_rfl) (laid_met8 os _))) ?_
  intro W base args ds gs before hval0 hW _ _ hz hL _ _
  have hval : ∀ (j : Nat) t v, Tryz.f8.params[j]? = some t → args[j]? = some v → Value.okWide Tryz.prog W .any base t v := hval0
  have hW' := hW
  obtain ⟨p, q, hA0, hV, rfl, _, _⟩ := hW
  have hA : DataW.TrodAll enc Tryz.prog W 0 (fun _ => true) true Tryz.f8.params.toList args.toList ds p := hA0
  rw [Tryz.params8] at hA hval
  obtain ⟨v0, d0, rfl, rfl, h0⟩ := trodAll_one hA
  obtain ⟨rfl, rfl⟩ := trodVars_none hV
  obtain ⟨a0, rfl, rfl, rfl, w0⟩ := ChangeMaps.open_string Tryz.underlying9 (hval 0 9 v0 rfl rfl) h0
  have z0 : a0.size ≤ 140737488351232 := by simpa [reachBytes] using sized_string hz (j := 0) rfl rfl
  obtain ⟨hE, hT, hTl⟩ := of_laid8 hL
  clear hA0 hval0
  simp only [List.append_nil] at hW'
  refine (scanPlaces_c a0 W hE hT hTl z0).mono fun e W' ⟨he, hb⟩ => ?_
  subst he
  exact ⟨_, rfl, _, _, _, [], [], [], hW', trodAll_mk1 (shut_bool Tryz.underlying4 _), (trodAll_mk1 (ChangeMaps.shut_string Tryz.underlying9 w0)), rfl, hb.frame _, fun h => by cases h⟩

theorem scanPlaces_said : Rows.ScanPlacesSaid :=
  OpenClaim.holds_of_cond 8 Tryz.f8 rfl rfl rfl rfl rfl rfl rfl ⟨rfl, rfl, rfl, rfl, rfl⟩ rfl rfl rfl rfl rfl (by kernel_rfl) Tryz.func8 (by kernel_rfl)
    (of_decide_eq_true (by kernel_rfl)) (by unfold Func.isWrapper; first | (rw [if_pos (by decide +kernel)]; kernel_rfl) | (rw [if_neg (by decide +kernel)]; exact ⟨rfl, rfl⟩))
    (fun os started H enc _ F => by rw [OpenClaim.pre_eq_preRow]; exact scanPlaces_lifted os started H enc F)

theorem scanPlaces_plain (f : FuncId) (fn : Func) (hf : Tryz.pinned.checked.prog.funcNamed "glossary/glossarylaw05.ScanPlaces" = some f) (hfn : Tryz.pinned.checked.prog.funcs[f]? = some fn) :
    true = Tryz.pinned.checked.prog.looks [] ∧ ∀ (j : Nat) t, fn.params[j]? = some t → Tryz.pinned.checked.prog.wantsStandIn t = false := by
  obtain rfl : f = 8 := Option.some.inj ((show Tryz.prog.funcNamed "glossary/glossarylaw05.ScanPlaces" = some 8 by kernel_rfl).symm.trans hf) |>.symm
  obtain rfl : fn = Tryz.f8 := (Option.some.inj (Tryz.func8.symm.trans hfn)).symm
  refine ⟨by kernel_rfl, fun j t ht => ?_⟩
  rw [Tryz.params8] at ht
  have hm : t ∈ [9] := by simpa using Array.mem_of_getElem? ht
  have hall : ([9].all fun u => !Tryz.prog.wantsStandIn u) = true := by kernel_rfl
  exact (show Tryz.prog.wantsStandIn t = false by simpa using List.all_eq_true.1 hall t hm)

theorem scanPlaces_card : Rows.ScanPlacesCardSaid :=
  Claim7.holds_tied_plain_at .later [] _ _ _ _ scanPlaces_said (fun _ h => by cases h) (by kernel_rfl) (fun _ h => by cases h) scanPlaces_row_tie rfl ⟨rfl, rfl⟩ (by kernel_rfl) rfl scanPlaces_plain (by kernel_rfl)

end Go.Proofs.YtlfdpdlhppgakaaGreatDoor
