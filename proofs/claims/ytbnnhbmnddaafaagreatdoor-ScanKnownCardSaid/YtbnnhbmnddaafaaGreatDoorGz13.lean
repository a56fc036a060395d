/- Parts of the proof of what the last text says. -/
import Derived.Test.YtbnnhbmnddaafaaGreatDoorGz12
import Derived.Test.YtbnnhbmnddaafaaGreatDoorGz3
/- The places of the scanner's tokens. No run in this text. -/
namespace Go.Proofs.YtbnnhbmnddaafaaGreatDoor
open Go Go.RowKit Go.Kt Go.Kt.Rg Go.Shelf Go.Lib

def plN (s : ByteArray) : Nat → Pl
  | 0 => (1, 1, 0)
  | n + 1 => let p := plN s n; if p.2.2 < s.size then (if (Utf8.decode s p.2.2).1 = 10 then (p.1 + 1, 1, p.2.2 + (Utf8.decode s p.2.2).2) else (p.1, p.2.1 + 1, p.2.2 + (Utf8.decode s p.2.2).2)) else p
theorem plN_at (s : ByteArray) (n : Nat) : (plN s (n + 1)).2.2 = if (plN s n).2.2 < s.size then (plN s n).2.2 + (Utf8.decode s (plN s n).2.2).2 else (plN s n).2.2 := by
  rw [plN]
  split
  · split <;> rfl
  · rfl
theorem plN_le (s : ByteArray) : ∀ n, (plN s n).2.2 ≤ s.size
  | 0 => Nat.zero_le _
  | n + 1 => by
    rw [plN_at]
    split
    · rename_i h
      exact (dec_width s _ h).2.2
    · exact plN_le s n
theorem plN_up (s : ByteArray) (n : Nat) : (plN s n).2.2 ≤ (plN s (n + 1)).2.2 := by rw [plN_at]; split <;> omega
theorem plN_mono (s : ByteArray) (n : Nat) : ∀ k, (plN s n).2.2 ≤ (plN s (n + k)).2.2
  | 0 => Nat.le_refl _
  | k + 1 => Nat.le_trans (plN_mono s n k) (plN_up s (n + k))
theorem plN_stuck (s : ByteArray) (n : Nat) (h : ¬ (plN s n).2.2 < s.size) : ∀ k, plN s (n + k) = plN s n
  | 0 => rfl
  | k + 1 => by
    have ih := plN_stuck s n h k
    show plN s (n + k + 1) = _
    rw [plN]
    rw [ih, if_neg h]
theorem plN_lt (s : ByteArray) {n m : Nat} (h : (plN s n).2.2 < (plN s m).2.2) : n < m := by
  by_cases hnm : n < m
  · exact hnm
  · have := plN_mono s m (n - m)
    rw [show m + (n - m) = n by omega] at this
    omega
theorem plN_next (s : ByteArray) {n m : Nat} (h : (plN s n).2.2 < (plN s m).2.2) : (plN s n).2.2 + (Utf8.decode s (plN s n).2.2).2 ≤ (plN s m).2.2 := by
  have h1 := plN_lt s h
  have h2 := plN_mono s (n + 1) (m - (n + 1))
  rw [show n + 1 + (m - (n + 1)) = m by omega, plN_at, if_pos (by have := plN_le s m; omega)] at h2
  exact h2
theorem plN_one (s : ByteArray) {n m : Nat} (h : (plN s n).2.2 = (plN s m).2.2) : plN s n = plN s m := by
  have key : ∀ {n m : Nat}, n < m → (plN s n).2.2 = (plN s m).2.2 → plN s n = plN s m := by
    intro n m hnm h
    by_cases hlt : (plN s n).2.2 < s.size
    · exfalso
      have h2 := plN_mono s (n + 1) (m - (n + 1))
      rw [show n + 1 + (m - (n + 1)) = m by omega, plN_at, if_pos hlt] at h2
      have := (dec_width s _ hlt).1
      omega
    · have := plN_stuck s n hlt (m - n)
      rw [show n + (m - n) = m by omega] at this
      exact this.symm
  rcases Nat.lt_trichotomy n m with h1 | h1 | h1
  · exact key h1 h
  · rw [h1]
  · exact (key h1 h.symm).symm

theorem dec_last {s : ByteArray} {i : Nat} (hi : i < s.size) : B s (i + (Utf8.decode s i).2 - 1) = 10 ↔ (Utf8.decode s i).1 = 10 := by
  obtain ⟨d1, d2, d3⟩ := dec_width s i hi
  by_cases hlo : (Utf8.decode s i).1 < 128
  · obtain ⟨q1, q2⟩ := dec_r_lo hlo
    rw [q2, Nat.add_sub_cancel, q1]
  · by_cases hne : (Utf8.decode s i).1 = 65533 ∧ (Utf8.decode s i).2 = 1
    · rw [hne.2, Nat.add_sub_cancel, hne.1]
      constructor
      · intro h
        have := dec_lo s i (by omega)
        rw [this] at hlo
        simp only at hlo
        omega
      · intro h; omega
    · have h1 := dec_hi_bytes (by omega) hne ((Utf8.decode s i).2 - 1) (by omega)
      rw [show i + (Utf8.decode s i).2 - 1 = i + ((Utf8.decode s i).2 - 1) by omega]
      omega
theorem plNext_plN (s : ByteArray) (n : Nat) (h : (plN s n).2.2 < s.size) : plNext s (plN s n) ((plN s n).2.2 + (Utf8.decode s (plN s n).2.2).2) = plN s (n + 1) := by
  have hd := dec_last h
  have hw := (dec_width s _ h).1
  unfold plNext
  rw [plN]
  rw [if_pos h]
  by_cases h10 : (Utf8.decode s (plN s n).2.2).1 = 10
  · rw [if_pos ⟨by omega, hd.2 h10⟩, if_pos h10]
  · rw [if_neg (fun hh => h10 (hd.1 hh.2)), if_neg h10]

theorem plN_col (s : ByteArray) : ∀ n, (plN s n).2.1 ≤ (plN s n).2.2 + 1
  | 0 => Nat.le_refl _
  | n + 1 => by
    have ih := plN_col s n
    rw [plN_at, plN]
    by_cases h : (plN s n).2.2 < s.size
    · have hw := (dec_width s _ h).1
      rw [if_pos h, if_pos h]
      split
      · simp only; omega
      · simp only; omega
    · rw [if_neg h, if_neg h]; exact ih
theorem plN_step (s : ByteArray) {n l c p : Nat} (h : plN s n = (l, c, p)) (hp : p < s.size) : plN s (n + 1) = if (Utf8.decode s p).1 = 10 then (l + 1, 1, p + (Utf8.decode s p).2) else (l, c + 1, p + (Utf8.decode s p).2) := by
  rw [plN, h]
  simp only
  rw [if_pos hp]
def nlc (s : ByteArray) (i : Nat) : Nat := (s.data.toList.take i).count 10
theorem nlc_succ (s : ByteArray) (i : Nat) (h : i < s.size) : nlc s (i + 1) = nlc s i + if B s i = 10 then 1 else 0 := by
  have hl : i < s.data.toList.length := by rw [← Lib.size_eq]; exact h
  unfold nlc B
  rw [List.take_add_one, List.count_append, List.getElem?_eq_getElem hl, List.getD_eq_getElem?_getD, List.getElem?_eq_getElem hl]
  simp only [Option.toList_some, Option.getD_some, List.count_singleton]
  congr 1
  have : (s.data.toList[i] == 10) = decide ((s.data.toList[i]).toNat = 10) := by
    rw [Bool.eq_iff_iff]
    simp only [beq_iff_eq, decide_eq_true_iff]
    constructor
    · intro e; rw [e]; rfl
    · intro e; exact UInt8.toNat_inj.1 e
  rw [this]
  simp
theorem nlc_unit (s : ByteArray) (i : Nat) (h : i < s.size) : nlc s (i + (Utf8.decode s i).2) = nlc s i + if (Utf8.decode s i).1 = 10 then 1 else 0 := by
  obtain ⟨d1, d2, d3⟩ := dec_width s i h
  by_cases hw : (Utf8.decode s i).2 = 1
  · have hd := dec_last h
    rw [hw, Nat.add_sub_cancel] at hd
    rw [hw, nlc_succ s i h]
    by_cases h10 : (Utf8.decode s i).1 = 10
    · rw [if_pos h10, if_pos (hd.2 h10)]
    · rw [if_neg h10, if_neg (fun hh => h10 (hd.1 hh))]
  · have hlo : ¬ (Utf8.decode s i).1 < 128 := fun hlo => hw (dec_r_lo hlo).2
    have hb := dec_hi_bytes (by omega) (fun hh => hw hh.2)
    rw [if_neg (by omega)]
    have key : ∀ k, k ≤ (Utf8.decode s i).2 → nlc s (i + k) = nlc s i := by
      intro k
      induction k with
      | zero => intro _; rfl
      | succ k ih =>
        intro hk
        rw [← Nat.add_assoc, nlc_succ s (i + k) (by omega), ih (by omega), if_neg (by have := hb k (by omega); omega), Nat.add_zero]
    exact key _ (Nat.le_refl _)
theorem plN_line (s : ByteArray) : ∀ n, (plN s n).1 = nlc s (plN s n).2.2 + 1
  | 0 => by simp [plN, nlc]
  | n + 1 => by
    have ih := plN_line s n
    rw [plN_at, plN]
    by_cases h : (plN s n).2.2 < s.size
    · rw [if_pos h, if_pos h, nlc_unit s _ h]
      by_cases h10 : (Utf8.decode s (plN s n).2.2).1 = 10
      · rw [if_pos h10, if_pos h10]; simp only; omega
      · rw [if_neg h10, if_neg h10]; simp only; omega
    · rw [if_neg h, if_neg h]; exact ih

structure TokOk (s : ByteArray) (l : List Tk) : Prop where
  up : l.Pairwise fun a b => a.pl.2.2 < b.pl.2.2
  pl : ∀ t ∈ l, ∃ n, plN s n = t.pl
  sg : ∀ t ∈ l, t.kind = 2 → t.pl.2.2 + t.text.length ≤ s.size ∧ seg s t.pl.2.2 (t.pl.2.2 + t.text.length) = t.text
theorem TokOk.snoc {s : ByteArray} {l : List Tk} {t : Tk} (h : TokOk s l) (h1 : ∀ a ∈ l, a.pl.2.2 < t.pl.2.2) (h2 : ∃ n, plN s n = t.pl) (h3 : t.kind = 2 → t.pl.2.2 + t.text.length ≤ s.size ∧ seg s t.pl.2.2 (t.pl.2.2 + t.text.length) = t.text) : TokOk s (l ++ [t]) := by
  refine ⟨?_, ?_, ?_⟩
  · rw [List.pairwise_append]
    exact ⟨h.up, List.pairwise_singleton _ _, fun a ha b hb => by rw [List.mem_singleton] at hb; subst hb; exact h1 a ha⟩
  · intro a ha
    rcases List.mem_append.1 ha with ha | ha
    · exact h.pl a ha
    · rw [List.mem_singleton] at ha; subst ha; exact h2
  · intro a ha
    rcases List.mem_append.1 ha with ha | ha
    · exact h.sg a ha
    · rw [List.mem_singleton] at ha; subst ha; exact h3
structure JS (s : ByteArray) (c : Sc) : Prop where
  here : ∃ n, plN s n = c.here
  fr : c.st ≠ 0 → ∃ n, plN s n = c.from
  lt : c.st ≠ 0 → c.from.2.2 < c.here.2.2
  tl : c.st ≠ 0 → ∀ t ∈ c.toks, t.pl.2.2 < c.from.2.2
  t0 : ∀ t ∈ c.toks, t.pl.2.2 < c.here.2.2
  bh : c.behind ≤ s.size
  ok : TokOk s c.toks
structure KS (s : ByteArray) (h0 : Pl) (c : Sc) : Prop where
  here : c.here = h0
  fr : c.st ≠ 0 → ∃ n, plN s n = c.from
  le : c.st ≠ 0 → c.from.2.2 ≤ c.here.2.2
  tl : c.st ≠ 0 → ∀ t ∈ c.toks, t.pl.2.2 < c.from.2.2
  t0 : ∀ t ∈ c.toks, t.pl.2.2 ≤ c.here.2.2
  tz : c.from.2.2 = c.here.2.2 → ∀ t ∈ c.toks, t.pl.2.2 < c.here.2.2
  bh : c.behind ≤ s.size
  ok : TokOk s c.toks
theorem unesc_le {s : ByteArray} {t : List UInt8} {k : Nat} (h1 : 1 ≤ s.size) (h : unescV s = some (t, k)) : k ≤ s.size := by
  obtain ⟨b1, b2, b3⟩ := unitW_bd s 1 h1
  have hl : s.data.toList.length = s.size := (Lib.size_eq s).symm
  unfold unescV at h
  split at h
  · cases h
  · split at h
    · unfold chrV at h
      cases ho : puV 16777215 (upB (rst s.data.toList)) with
      | none => rw [ho] at h; cases h
      | some n =>
        rw [ho] at h
        unfold chrO at h
        simp only at h
        split at h
        · rename_i hc
          injection h with h
          injection h with h2 h3
          simp only [Bool.and_eq_true] at hc
          obtain ⟨⟨⟨ho, hk⟩, _⟩, _⟩ := hc
          have hr : rst s.data.toList = s.data.toList.drop 3 := by unfold rst; rw [if_pos ho]
          have hup : (upB (rst s.data.toList)).length < (rst s.data.toList).length := by
            generalize rst s.data.toList = l at hk
            unfold upB
            induction l with
            | nil => simp at hk
            | cons a l ih =>
              rw [List.takeWhile_cons]
              split
              · rename_i ha
                have : a ≠ 125 := by simpa using ha
                have hk2 : l.contains 125 = true := by
                  rw [List.contains_cons] at hk
                  rcases Bool.or_eq_true _ _ ▸ hk with h | h
                  · exact absurd (beq_iff_eq.1 h).symm this
                  · exact h
                have := ih hk2
                simp only [List.length_cons]; omega
              · simp
          have hrl : (rst s.data.toList).length ≤ s.size - 3 := by rw [hr, List.length_drop]; omega
          omega
        · cases h
    · split at h
      · unfold illV at h
        split at h
        · cases h
        · split at h
          · split at h
            · cases h
            · injection h with h
              injection h with h2 h3
              omega
          · cases h
      · injection h with h
        injection h with h2 h3
        omega
section
variable {s : ByteArray} {c c' : Sc} {r : Int}
theorem plainS_K (h92 : r = 92 → c.here.2.2 < s.size) (hi : c.here.2.2 ≤ s.size) (hb : c.behind ≤ s.size) (h : plainS s c r = .took c') : c'.behind ≤ s.size ∧ c'.st ≠ 0 := by
  unfold plainS at h
  split at h
  · cases h; exact ⟨hb, by simp⟩
  · split at h
    · rename_i h92'
      split at h
      · cases h
      · rename_i t k hu
        cases h
        have hz : (s.extract c.here.2.2 s.size).size = s.size - c.here.2.2 := by rw [ByteArray.size_extract]; omega
        have := unesc_le (by have := h92 h92'; omega) hu
        have := h92 h92'
        exact ⟨by simp only; omega, by simp⟩
    · split at h
      · cases h
      · split at h
        · cases h
        · cases h; exact ⟨hb, by simp⟩
theorem pieceS_K (h92 : r = 92 → c.here.2.2 < s.size) (hi : c.here.2.2 ≤ s.size) (hb : c.behind ≤ s.size) (h : pieceS s c r = .took c') : c'.behind ≤ s.size ∧ c'.st ≠ 0 := by
  unfold pieceS at h
  split at h
  · rename_i h5
    unfold quotedS at h
    split at h
    · cases h; exact ⟨hb, by simp⟩
    · cases h; exact ⟨hb, by simp [h5]⟩
  · split at h
    · unfold closingS at h
      split at h
      · cases h; exact ⟨hb, by simp⟩
      · exact plainS_K h92 hi hb h
    · split at h
      · rename_i h7
        unfold escapeS at h
        split at h
        · exact plainS_K h92 hi hb h
        · cases h; exact ⟨hb, by simp [h7]⟩
      · exact plainS_K h92 hi hb h
theorem betweenS_K (hp : ∃ n, plN s n = c.here) (t0 : ∀ t ∈ c.toks, t.pl.2.2 < c.here.2.2) (bh : c.behind ≤ s.size) (ok : TokOk s c.toks) (h92 : r = 92 → c.here.2.2 < s.size) (hi : c.here.2.2 ≤ s.size) (h : betweenS s c r = .ok c') : KS s c.here c' := by
  obtain ⟨a1, a2, a3, _⟩ := betweenS_ok h92 hi h
  have hbh : c'.behind ≤ s.size := by
    unfold betweenS at h
    repeat' split at h
    all_goals first | (cases h; done) | (cases h; exact bh) | skip
    cases hpl : plainS s { c with st := 4, «from» := c.here, text := [] } r with
    | took c2 =>
      rw [hpl] at h
      cases h
      exact (plainS_K (c := { c with st := 4, «from» := c.here, text := [] }) h92 hi bh hpl).1
    | left c2 =>
      rw [hpl] at h
      cases h
      have hl : pieceS s { c with st := 4, «from» := c.here, text := [] } r = plainS s { c with st := 4, «from» := c.here, text := [] } r := by simp [pieceS]
      have := pieceS_left (hl.trans hpl)
      subst this
      exact bh
    | bad no p => rw [hpl] at h; cases h
  exact ⟨a1, fun _ => by rw [a2]; exact hp, fun _ => by rw [a1, a2]; exact Nat.le_refl _, fun _ t ht => by rw [a2]; rw [a3] at ht; exact t0 t ht, fun t ht => by rw [a1]; rw [a3] at ht; exact Nat.le_of_lt (t0 t ht), fun _ t ht => by rw [a1]; rw [a3] at ht; exact t0 t ht, hbh, by rw [a3]; exact ok⟩
theorem tokenS_K (hj : JS s c) (h92 : r = 92 → c.here.2.2 < s.size) (hi : c.here.2.2 ≤ s.size) (h : tokenS s c r = .ok c') : KS s c.here c' := by
  unfold tokenS at h
  split at h
  · exact betweenS_K hj.here hj.t0 hj.bh hj.ok h92 hi h
  rename_i n0
  have hfr := hj.fr n0
  have hlt := hj.lt n0
  have htl := hj.tl n0
  have hle : ∀ t ∈ c.toks, t.pl.2.2 ≤ c.here.2.2 := fun t ht => Nat.le_of_lt (hj.t0 t ht)
  have hadd : ∀ k x, (k = 2 → c.from.2.2 + x.length ≤ s.size ∧ seg s c.from.2.2 (c.from.2.2 + x.length) = x) → TokOk s (c.toks ++ [⟨k, x, c.from⟩]) := fun k x hk => hj.ok.snoc htl hfr hk
  have hall : ∀ k x, ∀ t ∈ c.toks ++ [(⟨k, x, c.from⟩ : Tk)], t.pl.2.2 < c.here.2.2 := fun k x t ht => by
    rcases List.mem_append.1 ht with ht | ht
    · exact hj.t0 t ht
    · rw [List.mem_singleton] at ht; subst ht; exact hlt
  split at h
  · unfold remarkS at h
    split at h
    · exact betweenS_K (c := { c with st := 1 }) hj.here hj.t0 hj.bh hj.ok h92 hi h
    · cases h; exact ⟨rfl, fun _ => hfr, fun _ => Nat.le_of_lt hlt, fun _ => htl, hle, fun h => absurd h (Nat.ne_of_lt hlt), hj.bh, hj.ok⟩
  split at h
  · unfold signS at h
    split at h
    · cases h; exact ⟨rfl, fun _ => hfr, fun _ => Nat.le_of_lt hlt, fun _ => htl, hle, fun h => absurd h (Nat.ne_of_lt hlt), hj.bh, hj.ok⟩
    · have hsl : (sinceL s c).length = c.here.2.2 - c.from.2.2 := seg_len s _ _ (Nat.le_of_lt hlt) hi
      have ha := hadd 2 (sinceL s c) (fun _ => by
        have e : c.from.2.2 + (sinceL s c).length = c.here.2.2 := by omega
        rw [e]
        exact ⟨hi, rfl⟩)
      exact betweenS_K (c := addT { c with st := 2 } 2 (sinceL s c)) hj.here (hall 2 _) hj.bh ha h92 hi h
  split at h
  · unfold optionS at h
    split at h
    · cases h
      refine ⟨rfl, fun hh => absurd rfl hh, fun hh => absurd rfl hh, fun hh => absurd rfl hh, fun t ht => Nat.le_of_lt (hall 3 _ t ht), fun h => absurd h (Nat.ne_of_lt hlt), hj.bh, hadd 3 _ (fun hk => by cases hk)⟩
    · cases h; exact ⟨rfl, fun _ => hfr, fun _ => Nat.le_of_lt hlt, fun _ => htl, hle, fun h => absurd h (Nat.ne_of_lt hlt), hj.bh, hj.ok⟩
  · unfold textS at h
    cases hp : pieceS s c r with
    | took c2 =>
      rw [hp] at h
      cases h
      obtain ⟨a1, a2, a3, _⟩ := pieceS_ok h92 hi hp
      obtain ⟨b1, b2⟩ := pieceS_K h92 hi hj.bh hp
      exact ⟨a1, fun _ => by rw [a2]; exact hfr, fun _ => by rw [a1, a2]; exact Nat.le_of_lt hlt, fun _ t ht => by rw [a2]; rw [a3] at ht; exact htl t ht, fun t ht => by rw [a1]; rw [a3] at ht; exact hle t ht, fun h => by rw [a1, a2] at h; exact absurd h (Nat.ne_of_lt hlt), b1, by rw [a3]; exact hj.ok⟩
    | bad no p => rw [hp] at h; cases h
    | left c2 =>
      rw [hp] at h
      have := pieceS_left hp
      subst this
      exact betweenS_K (c := addT { c with st := 4 } 1 c.text) hj.here (hall 1 _) hj.bh (hadd 1 _ (fun hk => by cases hk)) h92 hi h
theorem between_10 (h : betweenS s c 10 = .ok c') : c'.st = 0 ∧ c'.from = c.here := by
  unfold betweenS at h
  rw [if_pos (by decide)] at h
  cases h
  exact ⟨rfl, rfl⟩
theorem plain_10 : plainS s c 10 = .left { c with st := 4 } := by
  unfold plainS
  rw [if_neg (by decide), if_neg (by decide), if_pos (by decide)]
theorem piece_10 (hb : c.behind ≤ c.here.2.2) : pieceS s c 10 = .left { c with st := 4 } ∨ ∃ c2, pieceS s c 10 = .took c2 ∧ c2.st = 5 := by
  unfold pieceS
  by_cases h5 : c.st = 5
  · rw [if_pos h5]
    unfold quotedS
    rw [if_neg (by decide)]
    exact .inr ⟨_, rfl, h5⟩
  rw [if_neg h5]
  by_cases h6 : c.st = 6
  · rw [if_pos h6]
    unfold closingS
    rw [if_neg (by decide)]
    exact .inl plain_10
  rw [if_neg h6]
  by_cases h7 : c.st = 7
  · rw [if_pos h7]
    unfold escapeS
    rw [if_pos hb]
    exact .inl plain_10
  rw [if_neg h7]
  exact .inl plain_10
theorem tokenS_end (hb : c.behind ≤ c.here.2.2) (h : tokenS s c 10 = .ok c') : c'.st = 3 ∨ c'.st = 5 ∨ c'.st = 0 ∧ c'.from = c.here := by
  unfold tokenS at h
  split at h
  · exact .inr (.inr (between_10 h))
  split at h
  · unfold remarkS at h
    rw [if_pos rfl] at h
    have := between_10 h
    exact .inr (.inr this)
  split at h
  · unfold signS at h
    have hn : isSgn (sinceL s c ++ encL 10) = false := by
      have he : encL 10 = [10] := by decide
      rw [he]
      have hall : ∀ l ∈ sgnL, l.getLast? ≠ some 10 := by decide
      unfold isSgn
      have hne : sinceL s c ++ [10] ∉ sgnL := fun hm => hall _ hm (by simp)
      simpa using hne
    rw [if_neg (by rw [hn]; decide)] at h
    have := between_10 h
    exact .inr (.inr this)
  split at h
  · unfold optionS at h
    rw [if_neg (by decide)] at h
    cases h
    exact .inl rfl
  · unfold textS at h
    rcases piece_10 (s := s) hb with e | ⟨c2, e, h5⟩
    · rw [e] at h
      have := between_10 h
      exact .inr (.inr this)
    · rw [e] at h
      cases h
      exact .inr (.inl h5)
end
theorem runS_K (s : ByteArray) (cF : Sc) : ∀ (f i : Nat) (c : Sc), (i = 0 ∧ c = c0S ∨ KS s c.here c ∧ (∃ n, plN s n = c.here) ∧ c.here.2.2 < s.size ∧ i = c.here.2.2 + (Utf8.decode s c.here.2.2).2) → s.size + 1 ≤ i + f → runS s f i c = .ok cF →
    cF.st = 3 ∨ cF.st = 5 ∨ cF.st = 0 ∧ TokOk s cF.toks ∧ (∃ n, plN s n = cF.from) ∧ cF.from.2.2 = s.size ∧ ∀ t ∈ cF.toks, t.pl.2.2 < s.size := by
  intro f
  induction f with
  | zero =>
    intro i c hc hf
    exfalso
    rcases hc with ⟨rfl, _⟩ | ⟨_, _, h3, h4⟩
    · omega
    · have := (dec_width s _ h3).2.2; omega
  | succ f ih =>
    intro i c hc hf hrun
    have hiz : i ≤ s.size := by
      rcases hc with ⟨rfl, _⟩ | ⟨_, _, h3, h4⟩
      · exact Nat.zero_le _
      · have := (dec_width s _ h3).2.2; omega
    have hx := (plNext_ix s c.here i).1
    have hj : JS s { c with here := plNext s c.here i } := by
      rcases hc with ⟨rfl, rfl⟩ | ⟨hk, ⟨n, hn⟩, h3, h4⟩
      · exact ⟨⟨0, rfl⟩, fun h => absurd rfl h, fun h => absurd rfl h, fun h => absurd rfl h, fun t ht => by simp [c0S] at ht, Nat.zero_le _, ⟨List.Pairwise.nil, fun t ht => by simp [c0S] at ht, fun t ht => by simp [c0S] at ht⟩⟩
      · have hw := (dec_width s _ h3).1
        have hpl : plNext s c.here i = plN s (n + 1) := by
          rw [← hn] at h3 h4 ⊢
          rw [h4]
          exact plNext_plN s n h3
        exact ⟨⟨n + 1, hpl.symm⟩, hk.fr, fun h0 => by have := hk.le h0; simp only [hx]; omega, hk.tl, fun t ht => by have := hk.t0 t ht; simp only [hx]; omega, hk.bh, hk.ok⟩
    rw [runS, if_pos (by omega)] at hrun
    by_cases hlt : i < s.size
    · rw [decode_nl s i hlt] at hrun
      cases ht : tokenS s { c with here := plNext s c.here i } ((Utf8.decode s i).1 : Nat) with
      | bad no p => rw [ht] at hrun; cases hrun
      | ok c2 =>
        rw [ht] at hrun
        have hk := tokenS_K hj (fun _ => by simp only [hx]; exact hlt) (by simp only [hx]; omega) ht
        have hh : c2.here = plNext s c.here i := hk.here
        have hw := (dec_width s i hlt).1
        refine ih (i + (Utf8.decode s i).2) c2 (.inr ⟨by rw [hh]; exact hk, by rw [hh]; exact hj.here, by rw [hh, hx]; exact hlt, by rw [hh, hx]⟩) (by omega) hrun
    · have hie : i = s.size := by omega
      subst hie
      rw [decode_end] at hrun
      cases ht : tokenS s { c with here := plNext s c.here s.size } ((10 : Nat) : Int) with
      | bad no p => rw [ht] at hrun; cases hrun
      | ok c2 =>
        rw [ht] at hrun
        have he : runS s f (s.size + 1) c2 = .ok c2 := by
          cases f with
          | zero => rfl
          | succ f => rw [runS, if_neg (by omega)]
        have hcF : c2 = cF := by
          have h2 : runS s f (s.size + 1) c2 = .ok cF := hrun
          rw [he] at h2
          exact TR.ok.inj h2
        subst hcF
        have hk := tokenS_K hj (fun h => by exact absurd h (by decide)) (by simp only [hx]; omega) ht
        rcases tokenS_end (c := { c with here := plNext s c.here s.size }) (by simp only [hx]; exact hj.bh) ht with h | h | ⟨h1, h2⟩
        · exact .inl h
        · exact .inr (.inl h)
        · refine .inr (.inr ⟨h1, hk.ok, by rw [h2]; exact hj.here, by rw [h2]; exact hx, fun t htm => ?_⟩)
          have h3 : c2.here = plNext s c.here s.size := hk.here
          have h4 := hk.tz (by rw [h2, h3]) t htm
          rw [h3, hx] at h4
          exact h4
theorem scan_places (s : ByteArray) {l : List Tk} (h : scanS s = .ok l) : TokOk s l ∧ ∃ l0 p, l = l0 ++ [⟨0, [], p⟩] ∧ p.2.2 = s.size := by
  unfold scanS at h
  split at h
  · cases h
  split at h
  · cases h
  cases hr : runS s (s.size + 1) 0 c0S with
  | bad no p => rw [hr] at h; cases h
  | ok c =>
    rw [hr] at h
    simp only [endS] at h
    rcases runS_K s c (s.size + 1) 0 c0S (.inl ⟨rfl, rfl⟩) (by omega) hr with h3 | h5 | ⟨h0, hok, hpl, hz, hlt⟩
    · rw [if_pos h3] at h; cases h
    · rw [if_neg (by omega), if_pos h5] at h; cases h
    · rw [if_neg (by omega), if_neg (by omega)] at h
      cases h
      exact ⟨hok.snoc (fun a ha => by rw [hz]; exact hlt a ha) hpl (fun hk => by cases hk), c.toks, c.from, rfl, hz⟩
end Go.Proofs.YtbnnhbmnddaafaaGreatDoor
/- Two files with the same rest: what the scanner sees of it. No run in this text. -/
namespace Go.Proofs.YtbnnhbmnddaafaaGreatDoor
open Go Go.RowKit Go.Kt Go.Kt.Rg Go.Shelf Go.Lib

section
variable {F G : ByteArray} {p q : Nat}
theorem same_size (h : F.data.toList.drop p = G.data.toList.drop q) : F.size - p = G.size - q := by
  have h1 := congrArg List.length h
  rw [List.length_drop, List.length_drop, ← Lib.size_eq, ← Lib.size_eq] at h1
  exact h1
theorem same_B (h : F.data.toList.drop p = G.data.toList.drop q) (j : Nat) : B F (p + j) = B G (q + j) := by
  unfold B
  rw [List.getD_eq_getElem?_getD, List.getD_eq_getElem?_getD, ← List.getElem?_drop, ← List.getElem?_drop, h]
theorem same_more (h : F.data.toList.drop p = G.data.toList.drop q) (j : Nat) : F.data.toList.drop (p + j) = G.data.toList.drop (q + j) := by
  rw [← List.drop_drop, ← List.drop_drop, h]
theorem same_dec (h : F.data.toList.drop p = G.data.toList.drop q) : Utf8.decode F p = Utf8.decode G q := by
  have h0 := same_B h 0
  rw [Nat.add_zero, Nat.add_zero] at h0
  rw [decode_B, decode_B, same_size h, h0, same_B h 1, same_B h 2, same_B h 3]
theorem same_nl (h : F.data.toList.drop p = G.data.toList.drop q) (hp : p ≤ F.size) (hq : q ≤ G.size) : (F ++ nlB).data.toList.drop p = (G ++ nlB).data.toList.drop q := by
  rw [nl_list, nl_list, List.drop_append_of_le_length (by rw [← Lib.size_eq]; exact hp), List.drop_append_of_le_length (by rw [← Lib.size_eq]; exact hq), h]
theorem same_seg (h : F.data.toList.drop p = G.data.toList.drop q) (x y : Nat) : seg F (p + x) (p + y) = seg G (q + x) (q + y) := by
  rw [seg_eq, seg_eq, List.drop_take, List.drop_take, same_more h x, show p + y - (p + x) = y - x by omega, show q + y - (q + x) = y - x by omega]
theorem same_unitW (h : F.data.toList.drop p = G.data.toList.drop q) (hp : p ≤ F.size) (hq : q ≤ G.size) : unitW F p = unitW G q := by
  have hz := same_size h
  unfold unitW
  by_cases h1 : p < F.size
  · rw [if_pos h1, if_pos (by omega), same_dec h]
  · rw [if_neg h1, if_neg (by omega)]
theorem same_unitL (h : F.data.toList.drop p = G.data.toList.drop q) (hp : p ≤ F.size) (hq : q ≤ G.size) : unitL F p = unitL G q := by
  have h1 : unitL F p = seg F (p + 0) (p + unitW F p) := rfl
  have h2 : unitL G q = seg G (q + 0) (q + unitW G q) := rfl
  rw [h1, h2, same_seg h, same_unitW h hp hq]
theorem same_rest (h : F.data.toList.drop p = G.data.toList.drop q) : F.extract p F.size = G.extract q G.size := by
  apply ByteArray.ext
  apply Array.toList_inj.1
  have h1 : (F.extract p F.size).data.toList = seg F p F.size := rfl
  have h2 : (G.extract q G.size).data.toList = seg G q G.size := rfl
  rw [h1, h2, seg_eq, seg_eq, List.take_of_length_le (by rw [← Lib.size_eq]; omega), List.take_of_length_le (by rw [← Lib.size_eq]; omega), h]
theorem same_unesc (h : F.data.toList.drop p = G.data.toList.drop q) : unescV (F.extract p F.size) = unescV (G.extract q G.size) := by rw [same_rest h]
end

def Mv (p q u v : Nat) : Prop := ∃ x, u = p + x ∧ v = q + x
def TkRel (PR : Pl → Pl → Prop) (X X' : List Tk) : Prop := X.length = X'.length ∧ ∀ (i : Nat) (a b : Tk), X[i]? = some a → X'[i]? = some b → b.kind = a.kind ∧ b.text = a.text ∧ PR a.pl b.pl
theorem TkRel.snoc {PR : Pl → Pl → Prop} {X X' : List Tk} {a b : Tk} (h : TkRel PR X X') (h1 : b.kind = a.kind ∧ b.text = a.text ∧ PR a.pl b.pl) : TkRel PR (X ++ [a]) (X' ++ [b]) := by
  refine ⟨by simp [h.1], fun i u v hu hv => ?_⟩
  by_cases hi : i < X.length
  · rw [List.getElem?_append_left hi] at hu
    rw [List.getElem?_append_left (by rw [← h.1]; exact hi)] at hv
    exact h.2 i u v hu hv
  · rw [List.getElem?_append_right (by omega)] at hu
    rw [List.getElem?_append_right (by rw [← h.1]; omega), ← h.1] at hv
    cases hk : i - X.length with
    | zero => rw [hk] at hu hv; simp at hu hv; subst hu; subst hv; exact h1
    | succ k => rw [hk] at hu; simp at hu
structure Sim (p q : Nat) (PR : Pl → Pl → Prop) (T T' : List Tk) (c c' : Sc) : Prop where
  st : c'.st = c.st
  here : PR c.here c'.here
  mv : Mv p q c.here.2.2 c'.here.2.2
  fr : PR c.from c'.from ∧ Mv p q c.from.2.2 c'.from.2.2
  text : 4 ≤ c.st → c'.text = c.text
  bh : c.st = 7 → Mv p q c.behind c'.behind
  qu : c.st = 5 ∨ c.st = 6 → PR c.quote c'.quote
  toks : ∃ X X', c.toks = T ++ X ∧ c'.toks = T' ++ X' ∧ TkRel PR X X'
section
variable {F G : ByteArray} {p q : Nat} {PR : Pl → Pl → Prop} {T T' : List Tk} {c c' c2 : Sc} {r : Int}
theorem sim_plain (h : F.data.toList.drop p = G.data.toList.drop q) (hs : Sim p q PR T T' c c') (h4 : 4 ≤ c.st) (hF : c.here.2.2 ≤ F.size) (hG : c'.here.2.2 ≤ G.size) :
    (∀ c2, plainS F c r = .took c2 → ∃ c2', plainS G c' r = .took c2' ∧ Sim p q PR T T' c2 c2') ∧ (∀ c2, plainS F c r = .left c2 → plainS G c' r = .left { c' with st := 4 }) := by
  obtain ⟨x, hx, hx'⟩ := hs.mv
  have hm := same_more h x
  rw [← hx, ← hx'] at hm
  have hfr := hs.fr
  have htx := hs.text h4
  constructor
  · intro c2 hp
    unfold plainS at hp ⊢
    by_cases h39 : r = 39
    · rw [if_pos h39] at hp ⊢
      cases hp
      exact ⟨_, rfl, ⟨rfl, hs.here, hs.mv, hfr, fun _ => htx, fun h => absurd h (by simp), fun _ => hs.here, hs.toks⟩⟩
    rw [if_neg h39] at hp ⊢
    by_cases h92 : r = 92
    · rw [if_pos h92] at hp ⊢
      rw [← same_unesc hm]
      cases hu : unescV (F.extract c.here.2.2 F.size) with
      | none => rw [hu] at hp; cases hp
      | some z =>
        obtain ⟨t, k⟩ := z
        rw [hu] at hp
        cases hp
        refine ⟨_, rfl, ⟨rfl, hs.here, hs.mv, hfr, fun _ => by simp only [htx], fun _ => ⟨x + k, by simp only; omega, by simp only; omega⟩, fun h => absurd h (by simp), hs.toks⟩⟩
    rw [if_neg h92] at hp ⊢
    by_cases hb : isBlk r = true
    · rw [if_pos hb] at hp; cases hp
    rw [if_neg hb] at hp ⊢
    by_cases hg : isSgs r = true
    · rw [if_pos hg] at hp; cases hp
    rw [if_neg hg] at hp ⊢
    cases hp
    refine ⟨_, rfl, ⟨rfl, hs.here, hs.mv, hfr, fun _ => by simp only [htx, same_unitL hm hF hG], fun h => absurd h (by simp), fun h => absurd h (by simp), hs.toks⟩⟩
  · intro c2 hp
    unfold plainS at hp ⊢
    by_cases h39 : r = 39
    · rw [if_pos h39] at hp; cases hp
    rw [if_neg h39] at hp ⊢
    by_cases h92 : r = 92
    · rw [if_pos h92] at hp
      split at hp <;> cases hp
    rw [if_neg h92] at hp ⊢
    by_cases hb : isBlk r = true
    · rw [if_pos hb]
    rw [if_neg hb] at hp ⊢
    by_cases hg : isSgs r = true
    · rw [if_pos hg]
    rw [if_neg hg] at hp
    cases hp
theorem sim_piece (h : F.data.toList.drop p = G.data.toList.drop q) (hs : Sim p q PR T T' c c') (h4 : 4 ≤ c.st) (hF : c.here.2.2 ≤ F.size) (hG : c'.here.2.2 ≤ G.size) :
    (∀ c2, pieceS F c r = .took c2 → ∃ c2', pieceS G c' r = .took c2' ∧ Sim p q PR T T' c2 c2') ∧ (∀ c2, pieceS F c r = .left c2 → pieceS G c' r = .left { c' with st := 4 }) := by
  obtain ⟨x, hx, hx'⟩ := hs.mv
  have hm := same_more h x
  rw [← hx, ← hx'] at hm
  have hfr := hs.fr
  have htx := hs.text h4
  have hpl := sim_plain (r := r) h hs h4 hF hG
  unfold pieceS
  rw [hs.st]
  by_cases h5 : c.st = 5
  · rw [if_pos h5, if_pos h5]
    unfold quotedS
    have hq := hs.qu (.inl h5)
    by_cases h39 : r = 39
    · rw [if_pos h39, if_pos h39]
      refine ⟨fun c2 hp => ?_, fun c2 hp => by cases hp⟩
      cases hp
      exact ⟨_, rfl, ⟨rfl, hs.here, hs.mv, hfr, fun _ => htx, fun h => absurd h (by simp), fun _ => hq, hs.toks⟩⟩
    · rw [if_neg h39, if_neg h39]
      refine ⟨fun c2 hp => ?_, fun c2 hp => by cases hp⟩
      cases hp
      exact ⟨_, rfl, ⟨hs.st, hs.here, hs.mv, hfr, fun _ => by simp only [htx, same_unitL hm hF hG], fun h => absurd h (by simp only; omega), fun _ => hq, hs.toks⟩⟩
  rw [if_neg h5, if_neg h5]
  by_cases h6 : c.st = 6
  · rw [if_pos h6, if_pos h6]
    unfold closingS
    have hq := hs.qu (.inr h6)
    by_cases h39 : r = 39
    · rw [if_pos h39, if_pos h39]
      refine ⟨fun c2 hp => ?_, fun c2 hp => by cases hp⟩
      cases hp
      exact ⟨_, rfl, ⟨rfl, hs.here, hs.mv, hfr, fun _ => by simp only [htx], fun h => absurd h (by simp), fun _ => hq, hs.toks⟩⟩
    · rw [if_neg h39, if_neg h39]
      exact hpl
  rw [if_neg h6, if_neg h6]
  by_cases h7 : c.st = 7
  · rw [if_pos h7, if_pos h7]
    unfold escapeS
    obtain ⟨y, hy, hy'⟩ := hs.bh h7
    by_cases hb : c.behind ≤ c.here.2.2
    · rw [if_pos hb, if_pos (by omega)]
      exact hpl
    · rw [if_neg hb, if_neg (by omega)]
      refine ⟨fun c2 hp => ?_, fun c2 hp => by cases hp⟩
      cases hp
      exact ⟨_, rfl, hs⟩
  rw [if_neg h7, if_neg h7]
  exact hpl
theorem sim_between (h : F.data.toList.drop p = G.data.toList.drop q) (hh : PR c.here c'.here) (hv : Mv p q c.here.2.2 c'.here.2.2) (hk : ∃ X X', c.toks = T ++ X ∧ c'.toks = T' ++ X' ∧ TkRel PR X X') (hF : c.here.2.2 ≤ F.size) (hG : c'.here.2.2 ≤ G.size) (c2 : Sc) (hp : betweenS F c r = .ok c2) :
    ∃ c2', betweenS G c' r = .ok c2' ∧ Sim p q PR T T' c2 c2' := by
  unfold betweenS at hp ⊢
  by_cases hb : isBlk r = true
  · rw [if_pos hb] at hp ⊢
    cases hp
    exact ⟨_, rfl, ⟨rfl, hh, hv, ⟨hh, hv⟩, fun h => absurd h (by simp), fun h => absurd h (by simp), fun h => absurd h (by simp), hk⟩⟩
  rw [if_neg hb] at hp ⊢
  by_cases h35 : r = 35
  · rw [if_pos h35] at hp ⊢
    cases hp
    exact ⟨_, rfl, ⟨rfl, hh, hv, ⟨hh, hv⟩, fun h => absurd h (by simp), fun h => absurd h (by simp), fun h => absurd h (by simp), hk⟩⟩
  rw [if_neg h35] at hp ⊢
  by_cases hg : isSgn (encL r) = true
  · rw [if_pos hg] at hp ⊢
    cases hp
    exact ⟨_, rfl, ⟨rfl, hh, hv, ⟨hh, hv⟩, fun h => absurd h (by simp), fun h => absurd h (by simp), fun h => absurd h (by simp), hk⟩⟩
  rw [if_neg hg] at hp ⊢
  by_cases h91 : r = 91
  · rw [if_pos h91] at hp ⊢
    cases hp
    exact ⟨_, rfl, ⟨rfl, hh, hv, ⟨hh, hv⟩, fun h => absurd h (by simp), fun h => absurd h (by simp), fun h => absurd h (by simp), hk⟩⟩
  rw [if_neg h91] at hp ⊢
  by_cases h93 : r = 93
  · rw [if_pos h93] at hp; cases hp
  rw [if_neg h93] at hp ⊢
  by_cases h42 : r = 42
  · rw [if_pos h42] at hp; cases hp
  rw [if_neg h42] at hp ⊢
  have hs : Sim p q PR T T' { c with st := 4, «from» := c.here, text := [] } { c' with st := 4, «from» := c'.here, text := [] } :=
    ⟨rfl, hh, hv, ⟨hh, hv⟩, fun _ => rfl, fun h => absurd h (by simp), fun h => absurd h (by simp), hk⟩
  obtain ⟨s1, s2⟩ := sim_plain (r := r) h hs (by simp) hF hG
  cases hpl : plainS F { c with st := 4, «from» := c.here, text := [] } r with
  | took d =>
    rw [hpl] at hp
    cases hp
    obtain ⟨d', e1, e2⟩ := s1 _ hpl
    exact ⟨d', by rw [e1]; rfl, e2⟩
  | left d =>
    exact (plain_left hpl (by simpa using hb) (by simpa using hg) h35 h91 h93 h42).elim
  | bad no z => rw [hpl] at hp; cases hp
theorem sim_token (h : F.data.toList.drop p = G.data.toList.drop q) (hs : Sim p q PR T T' c c') (hF : c.here.2.2 ≤ F.size) (hG : c'.here.2.2 ≤ G.size) (c2 : Sc) (hp : tokenS F c r = .ok c2) :
    ∃ c2', tokenS G c' r = .ok c2' ∧ Sim p q PR T T' c2 c2' := by
  have hadd : ∀ (k : Nat) (x : List UInt8), c.st ≠ 0 → ∃ X X', c.toks ++ [⟨k, x, c.from⟩] = T ++ X ∧ c'.toks ++ [⟨k, x, c'.from⟩] = T' ++ X' ∧ TkRel PR X X' := fun k x h0 => by
    obtain ⟨X, X', e1, e2, e3⟩ := hs.toks
    exact ⟨X ++ [⟨k, x, c.from⟩], X' ++ [⟨k, x, c'.from⟩], by rw [e1, List.append_assoc], by rw [e2, List.append_assoc], e3.snoc ⟨rfl, rfl, hs.fr.1⟩⟩
  have hsl : ∀ y, c.st ≠ 0 → seg F (c.from.2.2 + y) c.here.2.2 = seg G (c'.from.2.2 + y) c'.here.2.2 := fun y h0 => by
    obtain ⟨x, hx, hx'⟩ := hs.mv
    obtain ⟨z, hz, hz'⟩ := hs.fr.2
    rw [hx, hx', hz, hz', show p + z + y = p + (z + y) by omega, show q + z + y = q + (z + y) by omega]
    exact same_seg h (z + y) x
  unfold tokenS at hp ⊢
  rw [hs.st]
  by_cases h0 : c.st = 0
  · rw [if_pos h0] at hp ⊢
    exact sim_between h hs.here hs.mv hs.toks hF hG c2 hp
  rw [if_neg h0] at hp ⊢
  have hfr := hs.fr
  have hsi : sinceL F c = sinceL G c' := hsl 0 h0
  by_cases h1 : c.st = 1
  · rw [if_pos h1] at hp ⊢
    unfold remarkS at hp ⊢
    by_cases h10 : r = 10
    · rw [if_pos h10] at hp ⊢
      exact sim_between (c := { c with st := 1 }) (c' := { c' with st := 1 }) h hs.here hs.mv hs.toks hF hG c2 hp
    · rw [if_neg h10] at hp ⊢
      cases hp
      exact ⟨_, rfl, ⟨rfl, hs.here, hs.mv, hfr, fun h => absurd h (by simp), fun h => absurd h (by simp), fun h => absurd h (by simp), hs.toks⟩⟩
  rw [if_neg h1] at hp ⊢
  by_cases h2 : c.st = 2
  · rw [if_pos h2] at hp ⊢
    unfold signS at hp ⊢
    rw [← hsi]
    by_cases hg : isSgn (sinceL F c ++ encL r) = true
    · rw [if_pos hg] at hp ⊢
      cases hp
      exact ⟨_, rfl, ⟨rfl, hs.here, hs.mv, hfr, fun h => absurd h (by simp), fun h => absurd h (by simp), fun h => absurd h (by simp), hs.toks⟩⟩
    · rw [if_neg hg] at hp ⊢
      exact sim_between (c := addT { c with st := 2 } 2 (sinceL F c)) (c' := addT { c' with st := 2 } 2 (sinceL F c)) h hs.here hs.mv (hadd 2 _ h0) hF hG c2 hp
  rw [if_neg h2] at hp ⊢
  by_cases h3 : c.st = 3
  · rw [if_pos h3] at hp ⊢
    unfold optionS at hp ⊢
    by_cases h93 : r = 93
    · rw [if_pos h93] at hp ⊢
      have he : F.extract (c.from.2.2 + 1) c.here.2.2 = G.extract (c'.from.2.2 + 1) c'.here.2.2 := by
        apply ByteArray.ext
        apply Array.toList_inj.1
        exact hsl 1 h0
      rw [← he]
      cases hp
      exact ⟨_, rfl, ⟨rfl, hs.here, hs.mv, hfr, fun h => absurd h (by simp), fun h => absurd h (by simp), fun h => absurd h (by simp), hadd 3 _ h0⟩⟩
    · rw [if_neg h93] at hp ⊢
      cases hp
      exact ⟨_, rfl, ⟨rfl, hs.here, hs.mv, hfr, fun h => absurd h (by simp), fun h => absurd h (by simp), fun h => absurd h (by simp), hs.toks⟩⟩
  rw [if_neg h3] at hp ⊢
  have h4 : 4 ≤ c.st := by omega
  obtain ⟨s1, s2⟩ := sim_piece (r := r) h hs h4 hF hG
  unfold textS at hp ⊢
  cases hpp : pieceS F c r with
  | took d =>
    rw [hpp] at hp
    cases hp
    obtain ⟨d', e1, e2⟩ := s1 _ hpp
    exact ⟨d', by rw [e1], e2⟩
  | bad no z => rw [hpp] at hp; cases hp
  | left d =>
    rw [hpp] at hp
    have hd := pieceS_left hpp
    subst hd
    rw [s2 _ hpp]
    have htx := hs.text h4
    have := hadd 1 c.text h0
    exact sim_between (c := addT { c with st := 4 } 1 c.text) (c' := addT { c' with st := 4 } 1 c'.text) h hs.here hs.mv (by rw [htx]; exact this) hF hG c2 hp
theorem sim_run (h : F.data.toList.drop p = G.data.toList.drop q) (hp : p ≤ F.size) (hq : q ≤ G.size) (hPR : ∀ u v x, PR u v → Mv p q u.2.2 v.2.2 → 0 < x → PR (plNext F u (p + x)) (plNext G v (q + x))) :
    ∀ (f x : Nat) (c c' cF : Sc) (f' : Nat), 0 < x → Sim p q PR T T' c c' → runS F f (p + x) c = .ok cF → F.size + 1 ≤ p + x + f → G.size + 1 ≤ q + x + f' → ∃ cG, runS G f' (q + x) c' = .ok cG ∧ Sim p q PR T T' cF cG := by
  have hz := same_size h
  have stop : ∀ (H : ByteArray) (f i : Nat) (c : Sc), ¬ i < H.size + 1 → runS H f i c = .ok c := fun H f i c hi => by
    cases f with
    | zero => rfl
    | succ f => rw [runS, if_neg hi]
  intro f
  induction f with
  | zero =>
    intro x c c' cF f' hx hs hr hf hf'
    cases hr
    exact ⟨c', stop G f' (q + x) c' (by omega), hs⟩
  | succ f ih =>
    intro x c c' cF f' hx hs hr hf hf'
    by_cases hlt : p + x < F.size + 1
    · obtain ⟨f', rfl⟩ : ∃ g, f' = g + 1 := ⟨f' - 1, by omega⟩
      rw [runS, if_pos hlt] at hr
      rw [runS, if_pos (by omega)]
      have hd : Utf8.decode (F ++ nlB) (p + x) = Utf8.decode (G ++ nlB) (q + x) := same_dec (same_more (same_nl h hp hq) x)
      rw [← hd]
      have e1 := (plNext_ix F c.here (p + x)).1
      have e2 := (plNext_ix G c'.here (q + x)).1
      have hs1 : Sim p q PR T T' { c with here := plNext F c.here (p + x) } { c' with here := plNext G c'.here (q + x) } :=
        ⟨hs.st, hPR _ _ x hs.here hs.mv hx, ⟨x, e1, e2⟩, hs.fr, hs.text, hs.bh, hs.qu, hs.toks⟩
      have hw : 1 ≤ (Utf8.decode (F ++ nlB) (p + x)).2 := (dec_width (F ++ nlB) (p + x) (by rw [nl_size]; exact hlt)).1
      generalize (Utf8.decode (F ++ nlB) (p + x)).2 = v at *
      cases ht : tokenS F { c with here := plNext F c.here (p + x) } ((Utf8.decode (F ++ nlB) (p + x)).1 : Nat) with
      | bad no z => rw [ht] at hr; cases hr
      | ok c2 =>
        rw [ht] at hr
        obtain ⟨c2', e3, e4⟩ := sim_token h hs1 (by simp only [e1]; omega) (by simp only [e2]; omega) c2 ht
        rw [e3]
        simp only at hr ⊢
        rw [Nat.add_assoc] at hr ⊢
        exact ih (x + v) c2 c2' cF f' (by omega) e4 hr (by omega) (by omega)
    · rw [stop F (f + 1) (p + x) c hlt] at hr
      cases hr
      exact ⟨c', stop G f' (q + x) c' (by omega), hs⟩
end
end Go.Proofs.YtbnnhbmnddaafaaGreatDoor
/- A file whose beginning is another's: escapes. No run in this text. -/
namespace Go.Proofs.YtbnnhbmnddaafaaGreatDoor
open Go Go.RowKit Go.Kt Go.Kt.Rg Go.Shelf Go.Lib

theorem upB_ext {a b : List UInt8} (h : a.contains 125 = true) : upB (a ++ b) = upB a := by
  unfold upB
  induction a with
  | nil => simp at h
  | cons x a ih =>
    rw [List.cons_append, List.takeWhile_cons, List.takeWhile_cons]
    by_cases hx : x = 125
    · subst hx; rfl
    · have h2 : a.contains 125 = true := by
        rw [List.contains_cons] at h
        rcases Bool.or_eq_true _ _ ▸ h with h | h
        · exact absurd (beq_iff_eq.1 h).symm hx
        · exact h
      rw [ih h2]
theorem unesc_ext {X Y : ByteArray} {Z t : List UInt8} {k : Nat} (hY : Y.data.toList = X.data.toList ++ Z) (hd : Utf8.decode Y 1 = Utf8.decode X 1) (h : unescV X = some (t, k)) : unescV Y = some (t, k) := by
  have h1 : 1 < X.size := by
    by_cases h1 : 1 < X.size
    · exact h1
    · unfold unescV at h
      rw [show unitW X 1 = 0 by unfold unitW; rw [if_neg h1], if_pos rfl] at h
      cases h
  have hz : Y.size = X.size + Z.length := by rw [Lib.size_eq, hY, List.length_append, ← Lib.size_eq]
  have hw : unitW Y 1 = unitW X 1 := by unfold unitW; rw [if_pos h1, if_pos (by omega), hd]
  have hp : (decP Y 1).1 = (decP X 1).1 := by
    have e1 := decP_in Y 1 (by omega)
    have e2 := decP_in X 1 h1
    rw [show ((1 : Nat) : Int) = 1 from rfl] at e1 e2
    rw [e1, e2, hd]
  have hsg : (Y.extract 1 (1 + unitW X 1)).data.toList = (X.extract 1 (1 + unitW X 1)).data.toList := by
    have a1 : (Y.extract 1 (1 + unitW X 1)).data.toList = seg Y 1 (1 + unitW X 1) := rfl
    have a2 : (X.extract 1 (1 + unitW X 1)).data.toList = seg X 1 (1 + unitW X 1) := rfl
    have hb := (unitW_bd X 1 (by omega)).2.1
    rw [a1, a2, seg_eq, seg_eq, hY, List.take_append_of_le_length (by rw [← Lib.size_eq]; exact hb)]
  unfold unescV at h ⊢
  rw [hw, hp, hsg]
  split at h
  · cases h
  rename_i n0
  rw [if_neg n0]
  split at h
  · rename_i n1
    rw [if_pos n1]
    unfold chrV at h ⊢
    cases hop : opn X.data.toList with
    | false =>
      rw [hop] at h
      unfold chrO at h
      split at h
      · cases h
      · simp at h
    | true =>
      rw [hop] at h
      have hpx : [92, 117, 123] <+: X.data.toList := by
        unfold opn at hop
        exact List.isPrefixOf_iff_prefix.1 hop
      have hl3 : 3 ≤ X.data.toList.length := by have := hpx.length_le; simpa using this
      have hoy : opn Y.data.toList = true := by
        unfold opn
        rw [hY]
        exact List.isPrefixOf_iff_prefix.2 (hpx.trans (List.prefix_append _ _))
      have hr : rst Y.data.toList = rst X.data.toList ++ Z := by
        unfold rst
        rw [if_pos hop, if_pos hoy, hY, List.drop_append_of_le_length hl3]
      cases hct : (rst X.data.toList).contains 125 with
      | false =>
        rw [hct] at h
        unfold chrO at h
        split at h
        · cases h
        · simp at h
      | true =>
        rw [hct] at h
        rw [hoy, hr, upB_ext hct, show (rst X.data.toList ++ Z).contains 125 = true by rw [List.contains_iff_mem, List.mem_append]; exact .inl (List.contains_iff_mem.1 hct)]
        exact h
  · rename_i n1
    rw [if_neg n1]
    split at h
    · rename_i n2
      rw [if_pos n2]
      unfold illV at h ⊢
      split at h
      · cases h
      · rename_i h4
        rw [if_neg (by rw [hY, List.length_append]; omega)]
        have hdt : (Y.data.toList.drop 2).take 2 = (X.data.toList.drop 2).take 2 := by
          rw [hY, List.drop_append_of_le_length (by omega), List.take_append_of_le_length (by rw [List.length_drop]; omega)]
        rw [hdt]
        exact h
    · rename_i n2
      rw [if_neg n2]
      exact h
theorem dec_two {E F : ByteArray} {p i : Nat} (hag : ∀ j, j < p → B E j = B F j) (hi : i < p) (hpE : p ≤ E.size) (hpF : p < F.size) (hb : B F p < 128) (hw : i + (Utf8.decode E i).2 ≤ p) : Utf8.decode F i = Utf8.decode E i := by
  obtain ⟨d1, d2, d3⟩ := dec_width E i (by omega)
  obtain ⟨e1, e2, e3⟩ := dec_width F i (by omega)
  by_cases hne : (Utf8.decode E i).1 = 65533 ∧ (Utf8.decode E i).2 = 1
  · by_cases hnf : (Utf8.decode F i).1 = 65533 ∧ (Utf8.decode F i).2 = 1
    · exact Prod.ext (hnf.1.trans hne.1.symm) (hnf.2.trans hne.2.symm)
    · have hin : i + (Utf8.decode F i).2 ≤ p := by
        by_cases hlo : (Utf8.decode F i).1 < 128
        · have := (dec_r_lo hlo).2; omega
        · by_cases hgt : i + (Utf8.decode F i).2 ≤ p
          · exact hgt
          · have := dec_hi_bytes (by omega) hnf (p - i) (by omega)
            rw [show i + (p - i) = p by omega] at this
            omega
      have hq : Utf8.decode F i = ((Utf8.decode F i).1, (Utf8.decode F i).2) := rfl
      generalize (Utf8.decode F i).1 = r at *
      generalize (Utf8.decode F i).2 = v at *
      rw [hq, decode_B E i, hag i hi]
      rw [decode_B] at hq
      exact (decN_pre hq hnf (by omega) (fun h => hag _ (by omega)) (fun h => hag _ (by omega)) (fun h => hag _ (by omega))).symm
  · have hq : Utf8.decode E i = ((Utf8.decode E i).1, (Utf8.decode E i).2) := rfl
    generalize (Utf8.decode E i).1 = r at *
    generalize (Utf8.decode E i).2 = v at *
    rw [hq, decode_B F i, ← hag i hi]
    rw [decode_B] at hq
    exact decN_pre hq hne (by omega) (fun h => (hag _ (by omega)).symm) (fun h => (hag _ (by omega)).symm) (fun h => (hag _ (by omega)).symm)
end Go.Proofs.YtbnnhbmnddaafaaGreatDoor
/- The laws' own: works. -/
namespace Go.Proofs.YtbnnhbmnddaafaaGreatDoor
open Go Go.RowKit Go.Kt Go.Shelf Go.Lib
attribute [local go_sem] Oper.semAt_some

theorem ownS_at {Y : Nat → Prop} {e : TypeId} {sz n g cap : Nat} {xs : List Value} {W : World} (h : OwnS Y e sz (.slice (some ⟨g, 0, none⟩) n cap) n xs W) {i : Nat} {u : Value} (hi : xs[i]? = some u) : W.cell? ⟨g, i, none⟩ = some u := by
  have := h.1.cells (g := g) rfl i u hi
  by_cases h0 : i = 0
  · subst h0; simpa [Addr.add] using this
  · simpa [Addr.add, h0] using this
theorem scan_a : scanS ⟨#[97, 32, 60]⟩ = .ok [⟨1, [97], (1, 1, 0)⟩, ⟨2, [60], (1, 3, 2)⟩, ⟨0, [], (1, 4, 3)⟩] := by kernel_rfl
theorem scan_b : scanS ⟨#[97, 32, 93]⟩ = .bad 25 1 3 := by kernel_rfl

set_option maxHeartbeats 1000000 in
set_option maxRecDepth 100000 in
theorem works_any5 (w : World) (hE : SEnv w) :
    Calls Tryz.prog 28 #[] w fun e w' => e = .returned (.bool true) ∧ Below w.heap.size w w' := by
  have C1 := Lib.hid (scan_any ⟨#[97, 32, 60]⟩ w hE (by decide))
  rw [scan_a] at C1
  have HE := Lib.hid hE
  clear hE
  go_enter Tryz.func28, Tryz.ntmps28
  go_wp2_with fail
  refine C1.out.mono ?_
  rintro e w1 ⟨⟨g, cap, rfl, ho⟩, hb1⟩
  have hE1 := HE.out.below hb1
  have C2 := Lib.hid (scan_any ⟨#[97, 32, 93]⟩ w1 hE1 (by decide))
  rw [scan_b] at C2
  have HO := Lib.hid (And.intro ho hb1)
  clear ho hb1 hE1
  go_wp2_with fail
  refine C2.out.mono ?_
  rintro e w2 ⟨rfl, hb2⟩
  have hE2 := (HE.out.below HO.out.2).below hb2
  have ho2 := HO.out.1.keep (X := fun _ => False) (Keep.of_all hb2) (fun _ h => h.elim)
  have q1 : w2.cell? ⟨g, 1, none⟩ = some (.string ⟨#[97]⟩) := ownS_at ho2 (i := 1) rfl
  have q5 : w2.cell? ⟨g, 5, none⟩ = some (.int .i64 2) := ownS_at ho2 (i := 5) rfl
  have CA := Lib.hid (fun V (h : Below w2.heap.size w2 V) => at_fault 25 1 3 V (by decide) (by decide) (hE2.below h).err)
  have HB := Lib.hid (HO.out.2.trans (hb2.mono HO.out.2.size))
  clear ho2 hb2 hE2
  go_wp2_with (go_at_call 10; refine (CA.out _ (Below.refl _ _)).mono ?_; rintro e w3 ⟨rfl, hb3⟩)
  go_ret
  exact ⟨rfl, HB.out.trans (hb3.mono HB.out.size)⟩
end Go.Proofs.YtbnnhbmnddaafaaGreatDoor
/- A text's line ends, counted by the law; cells of tokens; a beginning's units. -/
namespace Go.Proofs.YtbnnhbmnddaafaaGreatDoor
open Go Go.RowKit Go.Kt Go.Shelf Go.Lib
attribute [local go_sem] Oper.semAt_some

set_option maxRecDepth 100000 in
theorem ended_any (s : ByteArray) (w : World) (hs : s.size ≤ 140737488351232) :
    Calls Tryz.prog 33 #[.string s] w fun e w' => e = .returned (.int .i64 (nlc s s.size : Nat)) ∧ w = w' := by
  go_enter Tryz.func33, Tryz.ntmps33
  go_wp2
  go_loopw [3, 4] (fun n v wr => ∃ i : Nat, v = .int .i64 i ∧ n = .int .i64 (nlc s i : Nat) ∧ i ≤ s.size ∧ nlc s i ≤ i ∧ wr = w) (fun _ v _ => s.size - (RowKit.intOf v).toNat)
  case atStart => exact ⟨0, rfl, by simp [nlc], Nat.zero_le _, by simp [nlc], rfl⟩
  case round =>
    obtain ⟨i, rfl, rfl, hi, hni, rfl⟩ := hrel
    by_cases hlt : i < s.size
    · have HI : ∀ w, (Instr.index 9 (.string s) (.int .i64 (i : Nat))).run Tryz.prog w = .ok (.int .u8 (bAt s i)) w := fun w => run_bAt s i hlt w
      have hBb : bAt s i = (B s i : Nat) := rfl
      have hsu := nlc_succ s i hlt
      have hlt' : (i : Int) < s.size := by omega
      by_cases h10 : B s i = 10
      · have hb : bAt s i = 10 := by rw [hBb, h10]; rfl
        rw [if_pos h10] at hsu
        generalize nlc s i = n at *
        rw [hb] at HI
        clear hb hBb h10
        have HS := Lib.hid hsu
        clear hsu
        go_wp2
        go_roundw
        case rel => exact ⟨i + 1, rfl, by rw [HS.out]; rfl, by omega, by have := HS.out; omega, trivial⟩
        case measure => simp [RowKit.intOf]; omega
      · rw [if_neg h10, Nat.add_zero] at hsu
        have hb : (bAt s i == 10) = false := by rw [hBb]; simp; omega
        generalize bAt s i = b at *
        generalize nlc s i = n at *
        have HS := Lib.hid hsu
        clear hsu hBb h10
        go_wp2
        go_roundw
        case rel => exact ⟨i + 1, rfl, congrArg (fun x : Nat => Value.int .i64 x) HS.out.symm, by omega, by have := HS.out; omega, trivial⟩
        case measure => simp [RowKit.intOf]; omega
    · have hie : i = s.size := by omega
      subst hie
      have hlt' : ¬ (s.size : Int) < s.size := by omega
      go_wp2
      go_ret
      exact ⟨rfl, rfl⟩
theorem tksC_get : ∀ (L : List Tk) (i k : Nat) (t : Tk), L[i]? = some t → k < 5 → (tksC L)[i * 5 + k]? = (tkC t)[k]?
  | [], i, k, t, h, _ => by simp at h
  | a :: L, 0, k, t, h, hk => by
    simp at h
    subst h
    have : tksC (a :: L) = tkC a ++ tksC L := by simp [tksC]
    rw [this, Nat.zero_mul, Nat.zero_add, List.getElem?_append_left (by simp [tkC]; omega)]
  | a :: L, i + 1, k, t, h, hk => by
    have h' : L[i]? = some t := by simpa using h
    have : tksC (a :: L) = tkC a ++ tksC L := by simp [tksC]
    rw [this, List.getElem?_append_right (by simp [tkC]; omega), ← tksC_get L i k t h' hk]
    congr 1
    simp [tkC]; omega
theorem dec_head (s : ByteArray) (p m : Nat) (hm : m ≤ s.size) (hp : p < m) (hw : p + (Utf8.decode s p).2 ≤ m) : Utf8.decode (s.extract 0 m) p = Utf8.decode s p := by
  have hz : (s.extract 0 m).size = m := by rw [ByteArray.size_extract]; omega
  have hB : ∀ j, j < m → B (s.extract 0 m) j = B s j := fun j hj => by
    unfold B
    have : (s.extract 0 m).data.toList = s.data.toList.take m := by simp
    rw [this, List.getD_eq_getElem?_getD, List.getD_eq_getElem?_getD, List.getElem?_take, if_pos hj]
  obtain ⟨d1, d2, d3⟩ := dec_width s p (by omega)
  obtain ⟨e1, e2, e3⟩ := dec_width (s.extract 0 m) p (by omega)
  rw [hz] at e3
  by_cases hne : (Utf8.decode s p).1 = 65533 ∧ (Utf8.decode s p).2 = 1
  · by_cases hne2 : (Utf8.decode (s.extract 0 m) p).1 = 65533 ∧ (Utf8.decode (s.extract 0 m) p).2 = 1
    · exact Prod.ext (hne2.1.trans hne.1.symm) (hne2.2.trans hne.2.symm)
    · have hq : Utf8.decode (s.extract 0 m) p = ((Utf8.decode (s.extract 0 m) p).1, (Utf8.decode (s.extract 0 m) p).2) := rfl
      generalize (Utf8.decode (s.extract 0 m) p).1 = r at *
      generalize (Utf8.decode (s.extract 0 m) p).2 = v at *
      rw [hq, decode_B s p]
      rw [decode_B, hB p hp] at hq
      exact (decN_pre hq hne2 (by omega) (fun h => (hB _ (by omega)).symm) (fun h => (hB _ (by omega)).symm) (fun h => (hB _ (by omega)).symm)).symm
  · have hq : Utf8.decode s p = ((Utf8.decode s p).1, (Utf8.decode s p).2) := rfl
    generalize (Utf8.decode s p).1 = r at *
    generalize (Utf8.decode s p).2 = v at *
    rw [hq, decode_B, hB p hp]
    rw [decode_B] at hq
    exact decN_pre hq hne (by omega) (fun h => hB _ (by omega)) (fun h => hB _ (by omega)) (fun h => hB _ (by omega))

theorem toks_few {s : ByteArray} {L : List Tk} (h : TokOk s L) : L.length ≤ s.size + 1 := by
  have key : ∀ k (hk : k < L.length), k ≤ (L[k]).pl.2.2 := by
    intro k
    induction k with
    | zero => intro _; exact Nat.zero_le _
    | succ k ih =>
      intro hk
      have h1 := ih (by omega)
      have h2 := List.pairwise_iff_getElem.1 h.up k (k + 1) (by omega) hk (by omega)
      omega
  by_cases h0 : L.length = 0
  · omega
  have h1 := key (L.length - 1) (by omega)
  obtain ⟨n, hn⟩ := h.pl (L[L.length - 1]'(by omega)) (List.getElem_mem _)
  have h2 := plN_le s n
  rw [hn] at h2
  omega
theorem toks_cells {Y : Nat → Prop} {L : List Tk} {g cap : Nat} {W : World} (ho : OwnS Y 30 5 (.slice (some ⟨g, 0, none⟩) L.length cap) L.length (tksC L) W) {V : World} {i : Nat} {t : Tk} (hV : Below W.heap.size W V) (ht : L[i]? = some t) :
    V.cell? ⟨g, i * 5, none⟩ = some (.int .i64 (t.kind : Nat)) ∧ V.cell? ⟨g, i * 5 + 1, none⟩ = some (.string ⟨t.text.toArray⟩) ∧ V.cell? ⟨g, i * 5 + 2, none⟩ = some (.int .i64 (t.pl.1 : Nat)) ∧ V.cell? ⟨g, i * 5 + 3, none⟩ = some (.int .i64 (t.pl.2.1 : Nat)) ∧ V.cell? ⟨g, i * 5 + 4, none⟩ = some (.int .i64 (t.pl.2.2 : Nat)) := by
  have hgl : g < W.heap.size := (ho.1.lt g rfl).2
  have hc : ∀ k u, k < 5 → (tkC t)[k]? = some u → V.cell? ⟨g, i * 5 + k, none⟩ = some u := fun k u hk hu => (hV.cell (p := ⟨g, i * 5 + k, none⟩) hgl).trans (ownS_at ho (by rw [tksC_get L i k t ht hk]; exact hu))
  exact ⟨hc 0 _ (by decide) rfl, hc 1 _ (by decide) rfl, hc 2 _ (by decide) rfl, hc 3 _ (by decide) rfl, hc 4 _ (by decide) rfl⟩
end Go.Proofs.YtbnnhbmnddaafaaGreatDoor
