/- props: what a file's lines come to: the mathematics. -/
import Derived.Test.YtdmimdiffjpjpaaGreatDoorJm
import Derived.Test.YtdmimdiffjpjpaaGreatDoorJo
import Derived.Test.YtdmimdiffjpjpaaGreatDoorJp
import Derived.Test.YtdmimdiffjpjpaaGreatDoorJx
import Derived.Test.YtdmimdiffjpjpaaGreatDoorJn
namespace Go.Proofs.YtdmimdiffjpjpaaGreatDoor
open Go Go.RowKit Go.Kt Go.Kt.Rg Go.Maps

/-- What lines hold behind a first line end's place. -/
theorem ix_some {l : List UInt8} {i : Nat} (h : Lib.indexByte l 10 = (i : Int)) : l.count 10 = 1 + (l.drop (i + 1)).count 10 ∧ (Lib.hasSuffix l [10] = true ↔ l.drop (i + 1) = [] ∨ Lib.hasSuffix (l.drop (i + 1)) [10] = true) ∧ i < l.length ∧ l.take (i + 1) = l.take i ++ [10] ∧ (l.take i).count 10 = 0 := by
  induction l generalizing i with
  | nil => simp [Lib.indexByte] at h
  | cons b t ih =>
    unfold Lib.indexByte at h
    by_cases hb : b = 10
    · subst hb
      simp at h
      obtain rfl : i = 0 := by omega
      refine ⟨by simp; omega, ?_, by simp, rfl, rfl⟩
      simp only [Lib.hasSuffix, Nat.zero_add, List.drop_succ_cons, List.drop_zero, List.isSuffixOf_iff_suffix]
      cases t with
      | nil => simp
      | cons c u =>
        rw [List.suffix_cons_iff]
        constructor
        · rintro (h | h)
          · cases h
          · exact .inr h
        · rintro (h | h)
          · cases h
          · exact .inr h
    · have hbf : (b == 10) = false := by simpa using hb
      rw [hbf] at h
      simp only [Bool.false_eq_true, if_false] at h
      by_cases hn : Lib.indexByte t 10 = -1
      · rw [if_pos (by simpa using hn)] at h
        omega
      · rw [if_neg (by simpa using hn)] at h
        have hnn : ∀ l : List UInt8, -1 ≤ Lib.indexByte l 10 := by
          intro l
          induction l with
          | nil => simp [Lib.indexByte]
          | cons c u ih2 => unfold Lib.indexByte; split; omega; split <;> omega
        have h0 := hnn t
        obtain ⟨j, hj⟩ : ∃ j : Nat, Lib.indexByte t 10 = (j : Int) := ⟨(Lib.indexByte t 10).toNat, by omega⟩
        obtain ⟨h1, h2, h3, h4, h5⟩ := ih hj
        obtain rfl : i = j + 1 := by omega
        refine ⟨?_, ?_, by simp; omega, ?_, ?_⟩
        · rw [List.count_cons_of_ne hb, List.drop_succ_cons]
          exact h1
        · rw [List.drop_succ_cons, ← h2]
          simp only [Lib.hasSuffix, List.isSuffixOf_iff_suffix]
          rw [List.suffix_cons_iff]
          constructor
          · rintro (h | h)
            · injection h with h _; exact absurd h.symm hb
            · exact h
          · exact .inr
        · rw [List.take_succ_cons, h4]; rfl
        · rw [List.take_succ_cons, List.count_cons_of_ne hb]; exact h5
theorem ix_none {l : List UInt8} (h : Lib.indexByte l 10 = -1) : l.count 10 = 0 := by
  induction l with
  | nil => rfl
  | cons b t ih =>
    unfold Lib.indexByte at h
    by_cases hb : b = 10
    · subst hb; simp at h
    · have hbf : (b == 10) = false := by simpa using hb
      rw [hbf] at h
      simp only [Bool.false_eq_true, if_false] at h
      rw [List.count_cons_of_ne hb]
      by_cases hn : Lib.indexByte t 10 = -1
      · exact ih hn
      · rw [if_neg (by simpa using hn)] at h
        have hnn : ∀ l : List UInt8, -1 ≤ Lib.indexByte l 10 := by
          intro l
          induction l with
          | nil => simp [Lib.indexByte]
          | cons c u ih2 => unfold Lib.indexByte; split; omega; split <;> omega
        have := hnn t
        omega
theorem ix_ge (l : List UInt8) : -1 ≤ Lib.indexByte l 10 := by
  induction l with
  | nil => simp [Lib.indexByte]
  | cons c u ih2 => unfold Lib.indexByte; split; omega; split <;> omega
/-- There are as many lines as are counted. -/
theorem linesP_len (l : List UInt8) : (linesP l).length = lnC l := by
  obtain ⟨n, hn⟩ : ∃ n, l.length ≤ n := ⟨_, Nat.le_refl _⟩
  induction n generalizing l with
  | zero =>
    have : l = [] := List.length_eq_zero_iff.1 (by omega)
    subst this
    simp [linesP_nil, lnC]
  | succ n ih =>
    by_cases h0 : l = []
    · subst h0
      simp [linesP_nil, lnC]
    · by_cases hi : Lib.indexByte l 10 = -1
      · rw [linesP_none h0 hi]
        have hc := ix_none hi
        unfold lnC
        rw [hc, if_neg]
        · rfl
        · rintro (h | h)
          · exact h0 h
          · have h2 : (10 : UInt8) ∈ l := by
              simp only [Lib.hasSuffix, List.isSuffixOf_iff_suffix] at h
              exact h.subset (by simp)
            have := List.count_pos_iff.2 h2
            omega
      · obtain ⟨i, hi2⟩ : ∃ i : Nat, Lib.indexByte l 10 = (i : Int) := ⟨(Lib.indexByte l 10).toNat, by have := ix_ge l; omega⟩
        obtain ⟨h1, h2, h3, _⟩ := ix_some hi2
        rw [linesP_some h0 hi2, List.length_cons, ih _ (by rw [List.length_drop]; omega)]
        unfold lnC
        rw [h1]
        by_cases hs : Lib.hasSuffix l [10] = true
        · rw [if_pos (h2.1 hs), if_pos (Or.inr hs)]; omega
        · rw [if_neg (fun h => hs (h2.2 h)), if_neg (fun h => by rcases h with h | h; exact h0 h; exact hs h)]; omega
theorem linesP_le (l x : List UInt8) (h : x ∈ linesP l) : x.length ≤ l.length := by
  obtain ⟨n, hn⟩ : ∃ n, l.length ≤ n := ⟨_, Nat.le_refl _⟩
  induction n generalizing l with
  | zero =>
    have : l = [] := List.length_eq_zero_iff.1 (by omega)
    subst this
    cases h
  | succ n ih =>
    by_cases h0 : l = []
    · subst h0; cases h
    · by_cases hi : Lib.indexByte l 10 = -1
      · rw [linesP_none h0 hi] at h
        simp at h
        subst h
        exact Nat.le_refl _
      · obtain ⟨i, hi2⟩ : ∃ i : Nat, Lib.indexByte l 10 = (i : Int) := ⟨(Lib.indexByte l 10).toNat, by have := ix_ge l; omega⟩
        obtain ⟨_, _, h3, _⟩ := ix_some hi2
        rw [linesP_some h0 hi2] at h
        rcases List.mem_cons.1 h with h | h
        · subst h
          rw [List.length_take]; omega
        · have := ih _ h (by rw [List.length_drop]; omega)
          rw [List.length_drop] at this
          omega

/-- What lines say is sound: behind k lines. -/
structure RdOk (k : Nat) (S : RdS) : Prop where
  cs : S.cs.length ≤ k ∧ ∀ r ∈ S.cs, r.1 ≤ r.2.1 ∧ r.2.1 ≤ 1114111
  ks : S.ks.length ≤ k ∧ ∀ r ∈ S.ks, r.1 ≤ r.2.1 ∧ r.2.1 ≤ 1114111
  ds : ∀ x l, S.ds x = some l → (Lib.validRune (x : Int) = true ∧ hanP (x : Int) = false) ∧ (1 ≤ l.length ∧ l.length ≤ 8) ∧ ∀ z ∈ l, Lib.validRune (z : Int) = true
  fs : ∀ x l, S.fs x = some l → Lib.validRune (x : Int) = true ∧ (1 ≤ l.length ∧ l.length ≤ 8) ∧ ∀ z ∈ l, Lib.validRune (z : Int) = true
  ls : ∀ x, (S.ds x).isSome = true → ∃ m, S.ls x = some (m + 1)
theorem RdOk.mono {k k' : Nat} {S : RdS} (h : RdOk k S) (hk : k ≤ k') : RdOk k' S := ⟨⟨Nat.le_trans h.cs.1 hk, h.cs.2⟩, ⟨Nat.le_trans h.ks.1 hk, h.ks.2⟩, h.ds, h.fs, h.ls⟩
theorem rd0_ok : RdOk 0 rd0 := ⟨⟨Nat.le_refl _, fun _ h => (by cases h)⟩, ⟨Nat.le_refl _, fun _ h => (by cases h)⟩, fun _ _ h => (by cases h), fun _ _ h => (by cases h), fun _ h => (by cases h)⟩
theorem spnP_ok {l : List UInt8} (h : (spnP l).1 = 0) : (spnP l).2.1 ≤ (spnP l).2.2 ∧ (spnP l).2.2 ≤ 1114111 := by
  unfold spnP at h ⊢
  generalize numP (Lib.cut l [46, 46]).1 = o1 at h ⊢
  generalize numP (if (Lib.cut l [46, 46]).2.2 = true then (Lib.cut l [46, 46]).2.1 else (Lib.cut l [46, 46]).1) = o2 at h ⊢
  cases o1 with
  | none => simp [spnO] at h
  | some lo =>
    cases o2 with
    | none => simp [spnO] at h
    | some hi =>
      rw [spnO_some] at h ⊢
      by_cases h1 : Lib.validRune (lo : Int) = false ∨ Lib.validRune (hi : Int) = false
      · rw [if_pos h1] at h; cases h
      · rw [if_neg h1] at h ⊢
        by_cases h2 : hi < lo
        · rw [if_pos h2] at h; cases h
        · rw [if_neg h2]
          refine ⟨by simp only; omega, ?_⟩
          have h3 : Lib.validRune (hi : Int) = true := by
            cases h4 : Lib.validRune (hi : Int) with
            | true => rfl
            | false => exact absurd (.inr h4) h1
          exact valid_le h3
theorem rowP_ok {V : List UInt8 → Nat × Int} {ws : List (List UInt8)} (h : (rowP V ws).1 = 0) : (rowP V ws).2.1 ≤ (rowP V ws).2.2.1 ∧ (rowP V ws).2.2.1 ≤ 1114111 := by
  unfold rowP at h ⊢
  by_cases h1 : 2 < ws.length
  · rw [if_pos h1] at h; cases h
  · rw [if_neg h1] at h ⊢
    by_cases h2 : (spnP (ws.getD 0 [])).1 ≠ 0
    · rw [if_pos h2] at h; exact absurd h h2
    · rw [if_neg h2] at h ⊢
      by_cases h3 : (V (ws.getD 1 [])).1 ≠ 0
      · rw [if_pos h3] at h; exact absurd h h3
      · rw [if_neg h3]
        exact spnP_ok (by simpa using h2)
theorem foldP_ok {k : Nat} {S : RdS} {t : List (List UInt8)} (hS : RdOk k S) (h2 : 2 ≤ t.length) (h : (foldP S t).1 = 0) : RdOk (k + 1) (foldP S t).2 := by
  obtain ⟨o, ho⟩ : ∃ o, ptsP t = o := ⟨_, rfl⟩
  obtain ⟨no, l⟩ := o
  by_cases hno : no = 0
  rotate_left
  · rw [foldP_no ho hno] at h
    exact absurd h hno
  · subst hno
    unfold foldP at h ⊢
    rw [ho] at h ⊢
    obtain ⟨q1, q2, q3⟩ := ptsP_ok ho
    cases l with
    | nil => simp at q1; omega
    | cons x u =>
      simp only at h ⊢
      by_cases h3 : (S.fs x).isSome = true
      · rw [if_pos h3] at h; cases h
      · rw [if_neg h3]
        refine ⟨⟨by have := hS.cs.1; simp only; omega, hS.cs.2⟩, ⟨by have := hS.ks.1; simp only; omega, hS.ks.2⟩, hS.ds, fun y m hy => ?_, hS.ls⟩
        simp only [updN] at hy
        by_cases e : y = x
        · rw [if_pos e] at hy
          cases hy
          subst e
          simp only [List.length_cons] at q1
          exact ⟨q3 y List.mem_cons_self, ⟨by omega, by omega⟩, fun z hz => q3 z (List.mem_cons_of_mem _ hz)⟩
        · rw [if_neg e] at hy
          exact hS.fs y m hy
theorem decP_ok {k line : Nat} {S : RdS} {t : List (List UInt8)} (hS : RdOk k S) (h2 : 2 ≤ t.length) (h : (decP (line + 1) S t).1 = 0) : RdOk (k + 1) (decP (line + 1) S t).2 := by
  obtain ⟨o, ho⟩ : ∃ o, ptsP t = o := ⟨_, rfl⟩
  obtain ⟨no, l⟩ := o
  by_cases hno : no = 0
  rotate_left
  · rw [decP_no ho hno] at h
    exact absurd h hno
  · subst hno
    unfold decP at h ⊢
    rw [ho] at h ⊢
    obtain ⟨q1, q2, q3⟩ := ptsP_ok ho
    cases l with
    | nil => simp at q1; omega
    | cons x u =>
      simp only at h ⊢
      by_cases h3 : (S.ds x).isSome = true
      · rw [if_pos h3] at h; cases h
      · rw [if_neg h3] at h ⊢
        by_cases h4 : hanP (x : Int) = true
        · rw [if_pos h4] at h; cases h
        · rw [if_neg h4]
          refine ⟨⟨by have := hS.cs.1; simp only; omega, hS.cs.2⟩, ⟨by have := hS.ks.1; simp only; omega, hS.ks.2⟩, fun y m hy => ?_, hS.fs, fun y hy => ?_⟩
          · simp only [updN] at hy
            by_cases e : y = x
            · rw [if_pos e] at hy
              cases hy
              subst e
              simp only [List.length_cons] at q1
              exact ⟨⟨q3 y List.mem_cons_self, by simpa using h4⟩, ⟨by omega, by omega⟩, fun z hz => q3 z (List.mem_cons_of_mem _ hz)⟩
            · rw [if_neg e] at hy
              exact hS.ds y m hy
          · simp only [updN] at hy ⊢
            by_cases e : y = x
            · rw [if_pos e]; exact ⟨line, rfl⟩
            · rw [if_neg e] at hy ⊢
              exact hS.ls y hy
theorem takeP_ok {k line : Nat} {S : RdS} {ws : List (List UInt8)} (hS : RdOk k S) (h : (takeP (line + 1) S ws).1 = 0) : RdOk (k + 1) (takeP (line + 1) S ws).2 := by
  cases ws with
  | nil => exact hS.mono (by omega)
  | cons x t =>
    rw [takeP] at h ⊢
    by_cases h1 : x ≠ [99, 108, 97, 115, 115] ∧ x ≠ [107, 105, 110, 100] ∧ x ≠ [102, 111, 108, 100] ∧ x ≠ [100, 101, 99, 111, 109, 112]
    · rw [if_pos h1] at h; cases h
    rw [if_neg h1] at h ⊢
    by_cases h2 : t.length < 2
    · rw [if_pos h2] at h; cases h
    rw [if_neg h2] at h ⊢
    by_cases h3 : x = [99, 108, 97, 115, 115]
    · rw [if_pos h3] at h ⊢
      have hr := rowP_ok h
      refine ⟨⟨by have := hS.cs.1; simp; omega, fun r hr2 => ?_⟩, ⟨by have := hS.ks.1; simp only; omega, hS.ks.2⟩, hS.ds, hS.fs, hS.ls⟩
      simp only [List.mem_append, List.mem_singleton] at hr2
      rcases hr2 with hr2 | hr2
      · exact hS.cs.2 r hr2
      · subst hr2; exact hr
    rw [if_neg h3] at h ⊢
    by_cases h4 : x = [107, 105, 110, 100]
    · rw [if_pos h4] at h ⊢
      have hr := rowP_ok h
      refine ⟨⟨by have := hS.cs.1; simp only; omega, hS.cs.2⟩, ⟨by have := hS.ks.1; simp; omega, fun r hr2 => ?_⟩, hS.ds, hS.fs, hS.ls⟩
      simp only [List.mem_append, List.mem_singleton] at hr2
      rcases hr2 with hr2 | hr2
      · exact hS.ks.2 r hr2
      · subst hr2; exact hr
    rw [if_neg h4] at h ⊢
    by_cases h5 : x = [102, 111, 108, 100]
    · rw [if_pos h5] at h ⊢
      exact foldP_ok hS (by omega) h
    · rw [if_neg h5] at h ⊢
      exact decP_ok hS (by omega) h

/-- What lines come to, one behind the other: the error's number, the line, what is held. -/
def readP (line : Nat) (S : RdS) : List (List UInt8) → Nat × Nat × RdS
  | [] => (0, line, S)
  | l :: t => if (takeP (line + 1) S (wrdP l)).1 ≠ 0 then ((takeP (line + 1) S (wrdP l)).1, line + 1, S) else readP (line + 1) (takeP (line + 1) S (wrdP l)).2 t
theorem readP_append (a b : List (List UInt8)) : ∀ (line : Nat) (S : RdS), readP line S (a ++ b) = if (readP line S a).1 ≠ 0 then readP line S a else readP (readP line S a).2.1 (readP line S a).2.2 b := by
  induction a with
  | nil => intro line S; simp [readP]
  | cons x t ih =>
    intro line S
    rw [List.cons_append, readP, readP]
    by_cases h : (takeP (line + 1) S (wrdP x)).1 ≠ 0
    · rw [if_pos h, if_pos h, if_pos h]
    · rw [if_neg h, if_neg h]; exact ih _ _
theorem readP_line (a : List (List UInt8)) : ∀ (line : Nat) (S : RdS), (readP line S a).1 = 0 → (readP line S a).2.1 = line + a.length := by
  induction a with
  | nil => intro line S _; rfl
  | cons x t ih =>
    intro line S h
    rw [readP] at h ⊢
    by_cases h1 : (takeP (line + 1) S (wrdP x)).1 ≠ 0
    · rw [if_pos h1] at h; exact absurd h h1
    · rw [if_neg h1] at h ⊢
      rw [ih _ _ h, List.length_cons]; omega
theorem readP_ok (a : List (List UInt8)) : ∀ (line k : Nat) (S : RdS), RdOk k S → (readP line S a).1 = 0 → RdOk (k + a.length) (readP line S a).2.2 := by
  induction a with
  | nil => intro line k S hS _; exact hS
  | cons x t ih =>
    intro line k S hS h
    rw [readP] at h ⊢
    by_cases h1 : (takeP (line + 1) S (wrdP x)).1 ≠ 0
    · rw [if_pos h1] at h; exact absurd h h1
    · rw [if_neg h1] at h ⊢
      have := ih (line + 1) (k + 1) _ (takeP_ok hS (by simpa using h1)) h
      rw [List.length_cons, show k + (t.length + 1) = k + 1 + t.length by omega]
      exact this
theorem takeP_le (line : Nat) (S : RdS) (ws : List (List UInt8)) : (takeP line S ws).2.le = S.le := by
  cases ws with
  | nil => rfl
  | cons x t =>
    rw [takeP]
    split
    · rfl
    split
    · rfl
    split
    · rfl
    split
    · rfl
    split
    · unfold foldP
      split
      · split <;> rfl
      · rfl
    · unfold decP
      split
      · split
        · rfl
        · split <;> rfl
      · rfl
theorem readP_le (a : List (List UInt8)) : ∀ (line : Nat) (S : RdS), (readP line S a).2.2.le = S.le := by
  induction a with
  | nil => intro line S; rfl
  | cons x t ih =>
    intro line S
    rw [readP]
    split
    · rfl
    · rw [ih, takeP_le]
/-- What is wrong with full decompositions, of points that rise: the error's number, the line. -/
def ringP (S : RdS) (f : Nat) : List Nat → LeT → Nat × Nat
  | [], _ => (0, 0)
  | x :: t, le => if endN (lenF S.ds f le x).1 ≠ 0 then (endN (lenF S.ds f le x).1, (S.ls x).getD 0) else ringP S f t (lenF S.ds f le x).2
/-- What is known behind points of which nothing is wrong. -/
def ringL (S : RdS) (f : Nat) : List Nat → LeT → LeT
  | [], le => le
  | x :: t, le => ringL S f t (lenF S.ds f le x).2
theorem ringP_append (S : RdS) (f : Nat) (a b : List Nat) : ∀ le, ringP S f (a ++ b) le = if (ringP S f a le).1 ≠ 0 then ringP S f a le else ringP S f b (ringL S f a le) := by
  induction a with
  | nil => intro le; simp [ringP, ringL]
  | cons x t ih =>
    intro le
    rw [List.cons_append, ringP, ringP, ringL]
    by_cases h : endN (lenF S.ds f le x).1 ≠ 0
    · rw [if_pos h, if_pos h, if_pos h]
    · rw [if_neg h, if_neg h]; exact ih _
end Go.Proofs.YtdmimdiffjpjpaaGreatDoor
