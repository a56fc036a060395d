/- Parts of the proof of what the last text says. -/
import Derived.Test.YtfpfpaaojdodnaaGreatDoorGz6
import Derived.Test.YtfpfpaaojdodnaaGreatDoorGz7
import Derived.Test.YtfpfpaaojdodnaaGreatDoorGz8
import Derived.Test.YtfpfpaaojdodnaaGreatDoorGz1
import Derived.Sort.LotA
import Derived.Sort.LotB
import Derived.Sort.LotC
import Derived.Sort.Row
import Derived.Deep.Draws
/- props: what a file's lines come to: the mathematics. -/
namespace Go.Proofs.YtfpfpaaojdodnaaGreatDoor
open Go Go.RowKit Go.Kt Go.Kt.Rg Go.Maps

theorem ix_some {l : List UInt8} {i : Nat} (h : Lib.indexByte l 10 = (i : Int)) : l.count 10 = 1 + (l.drop (i + 1)).count 10 ∧ (Lib.hasSuffix l [10] = true ↔ l.drop (i + 1) = [] ∨ Lib.hasSuffix (l.drop (i + 1)) [10] = true) ∧ i < l.length ∧ l.take (i + 1) = l.take i ++ [10] ∧ (l.take i).count 10 = 0 := by
  induction l generalizing i with
  | nil => simp [Lib.indexByte] at h
  | cons b t ih =>
    unfold Lib.indexByte at h
    by_cases hb : b = 10
    · subst hb
      simp at h
      obtain rfl : i = 0 := by omega
      refine ⟨by simp; omega, ?_, by simp, rfl, rfl⟩
      simp only [Lib.hasSuffix, Nat.zero_add, List.drop_succ_cons, List.drop_zero, List.isSuffixOf_iff_suffix]
      cases t with
      | nil => simp
      | cons c u =>
        rw [List.suffix_cons_iff]
        constructor
        · rintro (h | h)
          · cases h
          · exact .inr h
        · rintro (h | h)
          · cases h
          · exact .inr h
    · have hbf : (b == 10) = false := by simpa using hb
      rw [hbf] at h
      simp only [Bool.false_eq_true, if_false] at h
      by_cases hn : Lib.indexByte t 10 = -1
      · rw [if_pos (by simpa using hn)] at h
        omega
      · rw [if_neg (by simpa using hn)] at h
        have hnn : ∀ l : List UInt8, -1 ≤ Lib.indexByte l 10 := by
          intro l
          induction l with
          | nil => simp [Lib.indexByte]
          | cons c u ih2 => unfold Lib.indexByte; split; omega; split <;> omega
        have h0 := hnn t
        obtain ⟨j, hj⟩ : ∃ j : Nat, Lib.indexByte t 10 = (j : Int) := ⟨(Lib.indexByte t 10).toNat, by omega⟩
        obtain ⟨h1, h2, h3, h4, h5⟩ := ih hj
        obtain rfl : i = j + 1 := by omega
        refine ⟨?_, ?_, by simp; omega, ?_, ?_⟩
        · rw [List.count_cons_of_ne hb, List.drop_succ_cons]
          exact h1
        · rw [List.drop_succ_cons, ← h2]
          simp only [Lib.hasSuffix, List.isSuffixOf_iff_suffix]
          rw [List.suffix_cons_iff]
          constructor
          · rintro (h | h)
            · injection h with h _; exact absurd h.symm hb
            · exact h
          · exact .inr
        · rw [List.take_succ_cons, h4]; rfl
        · rw [List.take_succ_cons, List.count_cons_of_ne hb]; exact h5
theorem ix_none {l : List UInt8} (h : Lib.indexByte l 10 = -1) : l.count 10 = 0 := by
  induction l with
  | nil => rfl
  | cons b t ih =>
    unfold Lib.indexByte at h
    by_cases hb : b = 10
    · subst hb; simp at h
    · have hbf : (b == 10) = false := by simpa using hb
      rw [hbf] at h
      simp only [Bool.false_eq_true, if_false] at h
      rw [List.count_cons_of_ne hb]
      by_cases hn : Lib.indexByte t 10 = -1
      · exact ih hn
      · rw [if_neg (by simpa using hn)] at h
        have hnn : ∀ l : List UInt8, -1 ≤ Lib.indexByte l 10 := by
          intro l
          induction l with
          | nil => simp [Lib.indexByte]
          | cons c u ih2 => unfold Lib.indexByte; split; omega; split <;> omega
        have := hnn t
        omega
theorem ix_ge (l : List UInt8) : -1 ≤ Lib.indexByte l 10 := by
  induction l with
  | nil => simp [Lib.indexByte]
  | cons c u ih2 => unfold Lib.indexByte; split; omega; split <;> omega
theorem linesP_len (l : List UInt8) : (linesP l).length = lnC l := by
  obtain ⟨n, hn⟩ : ∃ n, l.length ≤ n := ⟨_, Nat.le_refl _⟩
  induction n generalizing l with
  | zero =>
    have : l = [] := List.length_eq_zero_iff.1 (by omega)
    subst this
    simp [linesP_nil, lnC]
  | succ n ih =>
    by_cases h0 : l = []
    · subst h0
      simp [linesP_nil, lnC]
    · by_cases hi : Lib.indexByte l 10 = -1
      · rw [linesP_none h0 hi]
        have hc := ix_none hi
        unfold lnC
        rw [hc, if_neg]
        · rfl
        · rintro (h | h)
          · exact h0 h
          · have h2 : (10 : UInt8) ∈ l := by
              simp only [Lib.hasSuffix, List.isSuffixOf_iff_suffix] at h
              exact h.subset (by simp)
            have := List.count_pos_iff.2 h2
            omega
      · obtain ⟨i, hi2⟩ : ∃ i : Nat, Lib.indexByte l 10 = (i : Int) := ⟨(Lib.indexByte l 10).toNat, by have := ix_ge l; omega⟩
        obtain ⟨h1, h2, h3, _⟩ := ix_some hi2
        rw [linesP_some h0 hi2, List.length_cons, ih _ (by rw [List.length_drop]; omega)]
        unfold lnC
        rw [h1]
        by_cases hs : Lib.hasSuffix l [10] = true
        · rw [if_pos (h2.1 hs), if_pos (Or.inr hs)]; omega
        · rw [if_neg (fun h => hs (h2.2 h)), if_neg (fun h => by rcases h with h | h; exact h0 h; exact hs h)]; omega
theorem linesP_le (l x : List UInt8) (h : x ∈ linesP l) : x.length ≤ l.length := by
  obtain ⟨n, hn⟩ : ∃ n, l.length ≤ n := ⟨_, Nat.le_refl _⟩
  induction n generalizing l with
  | zero =>
    have : l = [] := List.length_eq_zero_iff.1 (by omega)
    subst this
    cases h
  | succ n ih =>
    by_cases h0 : l = []
    · subst h0; cases h
    · by_cases hi : Lib.indexByte l 10 = -1
      · rw [linesP_none h0 hi] at h
        simp at h
        subst h
        exact Nat.le_refl _
      · obtain ⟨i, hi2⟩ : ∃ i : Nat, Lib.indexByte l 10 = (i : Int) := ⟨(Lib.indexByte l 10).toNat, by have := ix_ge l; omega⟩
        obtain ⟨_, _, h3, _⟩ := ix_some hi2
        rw [linesP_some h0 hi2] at h
        rcases List.mem_cons.1 h with h | h
        · subst h
          rw [List.length_take]; omega
        · have := ih _ h (by rw [List.length_drop]; omega)
          rw [List.length_drop] at this
          omega

structure RdOk (k : Nat) (S : RdS) : Prop where
  cs : S.cs.length ≤ k ∧ ∀ r ∈ S.cs, r.1 ≤ r.2.1 ∧ r.2.1 ≤ 1114111
  ks : S.ks.length ≤ k ∧ ∀ r ∈ S.ks, r.1 ≤ r.2.1 ∧ r.2.1 ≤ 1114111
  ds : ∀ x l, S.ds x = some l → (Lib.validRune (x : Int) = true ∧ hanP (x : Int) = false) ∧ (1 ≤ l.length ∧ l.length ≤ 8) ∧ ∀ z ∈ l, Lib.validRune (z : Int) = true
  fs : ∀ x l, S.fs x = some l → Lib.validRune (x : Int) = true ∧ (1 ≤ l.length ∧ l.length ≤ 8) ∧ ∀ z ∈ l, Lib.validRune (z : Int) = true
  ls : ∀ x, (S.ds x).isSome = true → ∃ m, S.ls x = some (m + 1)
theorem RdOk.mono {k k' : Nat} {S : RdS} (h : RdOk k S) (hk : k ≤ k') : RdOk k' S := ⟨⟨Nat.le_trans h.cs.1 hk, h.cs.2⟩, ⟨Nat.le_trans h.ks.1 hk, h.ks.2⟩, h.ds, h.fs, h.ls⟩
theorem rd0_ok : RdOk 0 rd0 := ⟨⟨Nat.le_refl _, fun _ h => (by cases h)⟩, ⟨Nat.le_refl _, fun _ h => (by cases h)⟩, fun _ _ h => (by cases h), fun _ _ h => (by cases h), fun _ h => (by cases h)⟩
theorem spnP_ok {l : List UInt8} (h : (spnP l).1 = 0) : (spnP l).2.1 ≤ (spnP l).2.2 ∧ (spnP l).2.2 ≤ 1114111 := by
  unfold spnP at h ⊢
  generalize numP (Lib.cut l [46, 46]).1 = o1 at h ⊢
  generalize numP (if (Lib.cut l [46, 46]).2.2 = true then (Lib.cut l [46, 46]).2.1 else (Lib.cut l [46, 46]).1) = o2 at h ⊢
  cases o1 with
  | none => simp [spnO] at h
  | some lo =>
    cases o2 with
    | none => simp [spnO] at h
    | some hi =>
      rw [spnO_some] at h ⊢
      by_cases h1 : Lib.validRune (lo : Int) = false ∨ Lib.validRune (hi : Int) = false
      · rw [if_pos h1] at h; cases h
      · rw [if_neg h1] at h ⊢
        by_cases h2 : hi < lo
        · rw [if_pos h2] at h; cases h
        · rw [if_neg h2]
          refine ⟨by simp only; omega, ?_⟩
          have h3 : Lib.validRune (hi : Int) = true := by
            cases h4 : Lib.validRune (hi : Int) with
            | true => rfl
            | false => exact absurd (.inr h4) h1
          exact valid_le h3
theorem rowP_ok {V : List UInt8 → Nat × Int} {ws : List (List UInt8)} (h : (rowP V ws).1 = 0) : (rowP V ws).2.1 ≤ (rowP V ws).2.2.1 ∧ (rowP V ws).2.2.1 ≤ 1114111 := by
  unfold rowP at h ⊢
  by_cases h1 : 2 < ws.length
  · rw [if_pos h1] at h; cases h
  · rw [if_neg h1] at h ⊢
    by_cases h2 : (spnP (ws.getD 0 [])).1 ≠ 0
    · rw [if_pos h2] at h; exact absurd h h2
    · rw [if_neg h2] at h ⊢
      by_cases h3 : (V (ws.getD 1 [])).1 ≠ 0
      · rw [if_pos h3] at h; exact absurd h h3
      · rw [if_neg h3]
        exact spnP_ok (by simpa using h2)
theorem foldP_ok {k : Nat} {S : RdS} {t : List (List UInt8)} (hS : RdOk k S) (h2 : 2 ≤ t.length) (h : (foldP S t).1 = 0) : RdOk (k + 1) (foldP S t).2 := by
  obtain ⟨o, ho⟩ : ∃ o, ptsP t = o := ⟨_, rfl⟩
  obtain ⟨no, l⟩ := o
  by_cases hno : no = 0
  rotate_left
  · rw [foldP_no ho hno] at h
    exact absurd h hno
  · subst hno
    unfold foldP at h ⊢
    rw [ho] at h ⊢
    obtain ⟨q1, q2, q3⟩ := ptsP_ok ho
    cases l with
    | nil => simp at q1; omega
    | cons x u =>
      simp only at h ⊢
      by_cases h3 : (S.fs x).isSome = true
      · rw [if_pos h3] at h; cases h
      · rw [if_neg h3]
        refine ⟨⟨by have := hS.cs.1; simp only; omega, hS.cs.2⟩, ⟨by have := hS.ks.1; simp only; omega, hS.ks.2⟩, hS.ds, fun y m hy => ?_, hS.ls⟩
        simp only [updN] at hy
        by_cases e : y = x
        · rw [if_pos e] at hy
          cases hy
          subst e
          simp only [List.length_cons] at q1
          exact ⟨q3 y List.mem_cons_self, ⟨by omega, by omega⟩, fun z hz => q3 z (List.mem_cons_of_mem _ hz)⟩
        · rw [if_neg e] at hy
          exact hS.fs y m hy
theorem decP_ok {k line : Nat} {S : RdS} {t : List (List UInt8)} (hS : RdOk k S) (h2 : 2 ≤ t.length) (h : (decP (line + 1) S t).1 = 0) : RdOk (k + 1) (decP (line + 1) S t).2 := by
  obtain ⟨o, ho⟩ : ∃ o, ptsP t = o := ⟨_, rfl⟩
  obtain ⟨no, l⟩ := o
  by_cases hno : no = 0
  rotate_left
  · rw [decP_no ho hno] at h
    exact absurd h hno
  · subst hno
    unfold decP at h ⊢
    rw [ho] at h ⊢
    obtain ⟨q1, q2, q3⟩ := ptsP_ok ho
    cases l with
    | nil => simp at q1; omega
    | cons x u =>
      simp only at h ⊢
      by_cases h3 : (S.ds x).isSome = true
      · rw [if_pos h3] at h; cases h
      · rw [if_neg h3] at h ⊢
        by_cases h4 : hanP (x : Int) = true
        · rw [if_pos h4] at h; cases h
        · rw [if_neg h4]
          refine ⟨⟨by have := hS.cs.1; simp only; omega, hS.cs.2⟩, ⟨by have := hS.ks.1; simp only; omega, hS.ks.2⟩, fun y m hy => ?_, hS.fs, fun y hy => ?_⟩
          · simp only [updN] at hy
            by_cases e : y = x
            · rw [if_pos e] at hy
              cases hy
              subst e
              simp only [List.length_cons] at q1
              exact ⟨⟨q3 y List.mem_cons_self, by simpa using h4⟩, ⟨by omega, by omega⟩, fun z hz => q3 z (List.mem_cons_of_mem _ hz)⟩
            · rw [if_neg e] at hy
              exact hS.ds y m hy
          · simp only [updN] at hy ⊢
            by_cases e : y = x
            · rw [if_pos e]; exact ⟨line, rfl⟩
            · rw [if_neg e] at hy ⊢
              exact hS.ls y hy
theorem takeP_ok {k line : Nat} {S : RdS} {ws : List (List UInt8)} (hS : RdOk k S) (h : (takeP (line + 1) S ws).1 = 0) : RdOk (k + 1) (takeP (line + 1) S ws).2 := by
  cases ws with
  | nil => exact hS.mono (by omega)
  | cons x t =>
    rw [takeP] at h ⊢
    by_cases h1 : x ≠ [99, 108, 97, 115, 115] ∧ x ≠ [107, 105, 110, 100] ∧ x ≠ [102, 111, 108, 100] ∧ x ≠ [100, 101, 99, 111, 109, 112]
    · rw [if_pos h1] at h; cases h
    rw [if_neg h1] at h ⊢
    by_cases h2 : t.length < 2
    · rw [if_pos h2] at h; cases h
    rw [if_neg h2] at h ⊢
    by_cases h3 : x = [99, 108, 97, 115, 115]
    · rw [if_pos h3] at h ⊢
      have hr := rowP_ok h
      refine ⟨⟨by have := hS.cs.1; simp; omega, fun r hr2 => ?_⟩, ⟨by have := hS.ks.1; simp only; omega, hS.ks.2⟩, hS.ds, hS.fs, hS.ls⟩
      simp only [List.mem_append, List.mem_singleton] at hr2
      rcases hr2 with hr2 | hr2
      · exact hS.cs.2 r hr2
      · subst hr2; exact hr
    rw [if_neg h3] at h ⊢
    by_cases h4 : x = [107, 105, 110, 100]
    · rw [if_pos h4] at h ⊢
      have hr := rowP_ok h
      refine ⟨⟨by have := hS.cs.1; simp only; omega, hS.cs.2⟩, ⟨by have := hS.ks.1; simp; omega, fun r hr2 => ?_⟩, hS.ds, hS.fs, hS.ls⟩
      simp only [List.mem_append, List.mem_singleton] at hr2
      rcases hr2 with hr2 | hr2
      · exact hS.ks.2 r hr2
      · subst hr2; exact hr
    rw [if_neg h4] at h ⊢
    by_cases h5 : x = [102, 111, 108, 100]
    · rw [if_pos h5] at h ⊢
      exact foldP_ok hS (by omega) h
    · rw [if_neg h5] at h ⊢
      exact decP_ok hS (by omega) h

def readP (line : Nat) (S : RdS) : List (List UInt8) → Nat × Nat × RdS
  | [] => (0, line, S)
  | l :: t => if (takeP (line + 1) S (wrdP l)).1 ≠ 0 then ((takeP (line + 1) S (wrdP l)).1, line + 1, S) else readP (line + 1) (takeP (line + 1) S (wrdP l)).2 t
theorem readP_append (a b : List (List UInt8)) : ∀ (line : Nat) (S : RdS), readP line S (a ++ b) = if (readP line S a).1 ≠ 0 then readP line S a else readP (readP line S a).2.1 (readP line S a).2.2 b := by
  induction a with
  | nil => intro line S; simp [readP]
  | cons x t ih =>
    intro line S
    rw [List.cons_append, readP, readP]
    by_cases h : (takeP (line + 1) S (wrdP x)).1 ≠ 0
    · rw [if_pos h, if_pos h, if_pos h]
    · rw [if_neg h, if_neg h]; exact ih _ _
theorem readP_ok (a : List (List UInt8)) : ∀ (line k : Nat) (S : RdS), RdOk k S → (readP line S a).1 = 0 → RdOk (k + a.length) (readP line S a).2.2 := by
  induction a with
  | nil => intro line k S hS _; exact hS
  | cons x t ih =>
    intro line k S hS h
    rw [readP] at h ⊢
    by_cases h1 : (takeP (line + 1) S (wrdP x)).1 ≠ 0
    · rw [if_pos h1] at h; exact absurd h h1
    · rw [if_neg h1] at h ⊢
      have := ih (line + 1) (k + 1) _ (takeP_ok hS (by simpa using h1)) h
      rw [List.length_cons, show k + (t.length + 1) = k + 1 + t.length by omega]
      exact this
theorem takeP_le (line : Nat) (S : RdS) (ws : List (List UInt8)) : (takeP line S ws).2.le = S.le := by
  cases ws with
  | nil => rfl
  | cons x t =>
    rw [takeP]
    split
    · rfl
    split
    · rfl
    split
    · rfl
    split
    · rfl
    split
    · unfold foldP
      split
      · split <;> rfl
      · rfl
    · unfold decP
      split
      · split
        · rfl
        · split <;> rfl
      · rfl
theorem readP_le (a : List (List UInt8)) : ∀ (line : Nat) (S : RdS), (readP line S a).2.2.le = S.le := by
  induction a with
  | nil => intro line S; rfl
  | cons x t ih =>
    intro line S
    rw [readP]
    split
    · rfl
    · rw [ih, takeP_le]
def ringP (S : RdS) (f : Nat) : List Nat → LeT → Nat × Nat
  | [], _ => (0, 0)
  | x :: t, le => if endN (lenF S.ds f le x).1 ≠ 0 then (endN (lenF S.ds f le x).1, (S.ls x).getD 0) else ringP S f t (lenF S.ds f le x).2
def ringL (S : RdS) (f : Nat) : List Nat → LeT → LeT
  | [], le => le
  | x :: t, le => ringL S f t (lenF S.ds f le x).2
theorem ringP_append (S : RdS) (f : Nat) (a b : List Nat) : ∀ le, ringP S f (a ++ b) le = if (ringP S f a le).1 ≠ 0 then ringP S f a le else ringP S f b (ringL S f a le) := by
  induction a with
  | nil => intro le; simp [ringP, ringL]
  | cons x t ih =>
    intro le
    rw [List.cons_append, ringP, ringP, ringL]
    by_cases h : endN (lenF S.ds f le x).1 ≠ 0
    · rw [if_pos h, if_pos h, if_pos h]
    · rw [if_neg h, if_neg h]; exact ih _
end Go.Proofs.YtfpfpaaojdodnaaGreatDoor
/- props: full decompositions: which end, and how many points they have; what the program's lengths are. -/
namespace Go.Proofs.YtfpfpaaojdodnaaGreatDoor
open Go Go.RowKit Go.Kt Go.Kt.Rg Go.Maps

abbrev DsT := Nat → Option (List Nat)
def sumO (g : Nat → Option Nat) : List Nat → Option Nat
  | [] => some 0
  | y :: t => match g y, sumO g t with
    | some a, some b => some (a + b)
    | _, _ => none
theorem sumO_some {g : Nat → Option Nat} : ∀ {l : List Nat} {n : Nat}, sumO g l = some n → ∀ y ∈ l, ∃ a, g y = some a
  | [], _, _, y, hy => by cases hy
  | z :: t, n, h, y, hy => by
    rw [sumO] at h
    cases hz : g z with
    | none => rw [hz] at h; cases h
    | some a =>
      cases ht : sumO g t with
      | none => rw [hz, ht] at h; cases h
      | some b =>
        rcases List.mem_cons.1 hy with rfl | hy
        · exact ⟨a, hz⟩
        · exact sumO_some ht y hy
theorem sumO_mono {g h : Nat → Option Nat} (hgh : ∀ y a, g y = some a → h y = some a) : ∀ {l : List Nat} {n : Nat}, sumO g l = some n → sumO h l = some n
  | [], _, e => e
  | z :: t, n, e => by
    rw [sumO] at e ⊢
    cases hz : g z with
    | none => rw [hz] at e; cases e
    | some a =>
      cases ht : sumO g t with
      | none => rw [hz, ht] at e; cases e
      | some b =>
        rw [hz, ht] at e
        rw [hgh z a hz, sumO_mono hgh ht]; exact e
def fullN (ds : DsT) : Nat → Nat → Option Nat
  | 0, _ => none
  | f + 1, x => if sylP x then some (partsP (x - 44032)).length else match ds x with
    | none => some 1
    | some l => sumO (fullN ds f) l
theorem fullN_step (ds : DsT) : ∀ (f x n : Nat), fullN ds f x = some n → fullN ds (f + 1) x = some n
  | 0, x, n, h => by cases h
  | f + 1, x, n, h => by
    rw [fullN] at h ⊢
    split
    · rename_i hs; rw [if_pos hs] at h; exact h
    · rename_i hs
      rw [if_neg hs] at h
      cases hd : ds x with
      | none => rw [hd] at h; exact h
      | some l => rw [hd] at h; exact sumO_mono (fun y a => fullN_step ds f y a) h
theorem fullN_mono (ds : DsT) {f g x n : Nat} (hfg : f ≤ g) (h : fullN ds f x = some n) : fullN ds g x = some n := by
  obtain ⟨k, rfl⟩ : ∃ k, g = f + k := ⟨g - f, by omega⟩
  clear hfg
  induction k with
  | zero => exact h
  | succ k ih => exact fullN_step ds _ _ _ ih
def EndA (ds : DsT) (x n : Nat) : Prop := ∃ f, fullN ds f x = some n
def NoEnd (ds : DsT) (x : Nat) : Prop := ∀ f, fullN ds f x = none
theorem EndA.uniq {ds : DsT} {x n m : Nat} (h : EndA ds x n) (h2 : EndA ds x m) : n = m := by
  obtain ⟨f, h⟩ := h
  obtain ⟨g, h2⟩ := h2
  have a := fullN_mono ds (Nat.le_max_left f g) h
  have b := fullN_mono ds (Nat.le_max_right f g) h2
  rw [a] at b
  exact Option.some.inj b
theorem EndA.not {ds : DsT} {x n : Nat} (h : EndA ds x n) : ¬ NoEnd ds x := fun h2 => by
  obtain ⟨f, h⟩ := h
  rw [h2 f] at h; cases h
theorem end_or (ds : DsT) (x : Nat) : NoEnd ds x ∨ ∃ n, EndA ds x n := by
  by_cases h : ∃ n, EndA ds x n
  · exact .inr h
  · refine .inl fun f => ?_
    cases hf : fullN ds f x with
    | none => rfl
    | some n => exact absurd ⟨n, f, hf⟩ h
def EndS (ds : DsT) (l : List Nat) (n : Nat) : Prop := ∃ f, sumO (fullN ds f) l = some n
theorem ends_nil (ds : DsT) : EndS ds [] 0 := ⟨0, rfl⟩
theorem EndS.cons {ds : DsT} {y a b : Nat} {t : List Nat} (h : EndA ds y a) (ht : EndS ds t b) : EndS ds (y :: t) (a + b) := by
  obtain ⟨f, h⟩ := h
  obtain ⟨g, ht⟩ := ht
  refine ⟨max f g, ?_⟩
  rw [sumO, fullN_mono ds (Nat.le_max_left f g) h, sumO_mono (fun y a => fullN_mono ds (Nat.le_max_right f g)) ht]
theorem EndA.ofL {ds : DsT} {x n : Nat} {l : List Nat} (hs : sylP (x : Int) = false) (hd : ds x = some l) (h : EndS ds l n) : EndA ds x n := by
  obtain ⟨f, h⟩ := h
  exact ⟨f + 1, by rw [fullN, if_neg (by rw [hs]; decide), hd]; exact h⟩
theorem EndA.ofN {ds : DsT} {x : Nat} (hs : sylP (x : Int) = false) (hd : ds x = none) : EndA ds x 1 := ⟨1, by rw [fullN, if_neg (by rw [hs]; decide), hd]⟩
theorem EndA.syl {ds : DsT} {x : Nat} (hs : sylP (x : Int) = true) : EndA ds x (partsP (x - 44032)).length := ⟨1, by rw [fullN, if_pos hs]⟩
theorem NoEnd.up {ds : DsT} {x y : Nat} {l : List Nat} (hs : sylP (x : Int) = false) (hd : ds x = some l) (hy : y ∈ l) (h : NoEnd ds y) : NoEnd ds x := fun f => by
  cases f with
  | zero => rfl
  | succ f =>
    rw [fullN, if_neg (by rw [hs]; decide), hd]
    cases hq : sumO (fullN ds f) l with
    | none => exact hq
    | some n =>
      obtain ⟨a, ha⟩ := sumO_some hq y hy
      rw [h f] at ha; cases ha
inductive Leads (ds : DsT) : Nat → Nat → Prop
  | one {p y : Nat} {l : List Nat} (hs : sylP (p : Int) = false) (hd : ds p = some l) (hy : y ∈ l) : Leads ds p y
  | more {p y z : Nat} {l : List Nat} (h : Leads ds p y) (hs : sylP (y : Int) = false) (hd : ds y = some l) (hz : z ∈ l) : Leads ds p z
theorem one_less {ds : DsT} {p y f n : Nat} {l : List Nat} (hs : sylP (p : Int) = false) (hd : ds p = some l) (hy : y ∈ l) (h : fullN ds f p = some n) : ∃ g, g < f ∧ ∃ m, fullN ds g y = some m := by
  cases f with
  | zero => cases h
  | succ f =>
    rw [fullN, if_neg (by rw [hs]; decide), hd] at h
    exact ⟨f, Nat.lt_succ_self f, sumO_some h y hy⟩
theorem Leads.less {ds : DsT} {p y f n : Nat} (h : Leads ds p y) (hf : fullN ds f p = some n) : ∃ g, g < f ∧ ∃ m, fullN ds g y = some m := by
  induction h with
  | one hs hd hy => exact one_less hs hd hy hf
  | more _ hs hd hz ih =>
    obtain ⟨g, hg, m, hm⟩ := ih
    obtain ⟨g2, hg2, m2, hm2⟩ := one_less hs hd hz hm
    exact ⟨g2, by omega, m2, hm2⟩
theorem Leads.ring {ds : DsT} {x : Nat} (h : Leads ds x x) : NoEnd ds x := by
  have key : ∀ (k f : Nat), f ≤ k → fullN ds f x = none := by
    intro k
    induction k with
    | zero =>
      intro f hf
      obtain rfl : f = 0 := by omega
      rfl
    | succ k ih =>
      intro f hf
      cases hq : fullN ds f x with
      | none => rfl
      | some n =>
        obtain ⟨g, hg, m, hm⟩ := h.less hq
        rw [ih g (by omega)] at hm; cases hm
  exact fun f => key f f (Nat.le_refl _)

/-! ### The program's lengths -/
def LeInv (ds : DsT) (P : List Nat) (le : LeT) : Prop := ∀ x v, le x = some v → (v = -1 ∧ x ∈ P) ∨ (v = -1 ∧ NoEnd ds x) ∨ ∃ n, EndA ds x n ∧ v = (min n 9 : Nat)
def LenR (ds : DsT) (x : Nat) (r : Int) : Prop := (r = -1 ∧ NoEnd ds x) ∨ ∃ n, EndA ds x n ∧ r = (min n 9 : Nat)
theorem LeInv.upd {ds : DsT} {P : List Nat} {le : LeT} (h : LeInv ds P le) (x : Nat) : LeInv ds (x :: P) (updN le x (-1)) := fun y v hv => by
  unfold updN at hv
  by_cases e : y = x
  · rw [if_pos e] at hv
    exact .inl ⟨(Option.some.inj hv).symm, by rw [e]; exact List.mem_cons_self⟩
  · rw [if_neg e] at hv
    rcases h y v hv with ⟨h1, h2⟩ | h
    · exact .inl ⟨h1, List.mem_cons_of_mem _ h2⟩
    · exact .inr h
theorem LeInv.done {ds : DsT} {P : List Nat} {le : LeT} {x n : Nat} (h : LeInv ds (x :: P) le) (hx : EndA ds x n) {v : Int} (hv : v = (min n 9 : Nat)) : LeInv ds P (updN le x v) := fun y u hu => by
  unfold updN at hu
  by_cases e : y = x
  · rw [if_pos e] at hu
    exact .inr (.inr ⟨n, by rw [e]; exact hx, by rw [← Option.some.inj hu]; exact hv⟩)
  · rw [if_neg e] at hu
    rcases h y u hu with ⟨h1, h2⟩ | h
    · rcases List.mem_cons.1 h2 with h2 | h2
      · exact absurd h2 e
      · exact .inl ⟨h1, h2⟩
    · exact .inr h
theorem LeInv.ring {ds : DsT} {P : List Nat} {le : LeT} {x : Nat} (h : LeInv ds (x :: P) le) (hx : NoEnd ds x) : LeInv ds P le := fun y u hu => by
  rcases h y u hu with ⟨h1, h2⟩ | h
  · rcases List.mem_cons.1 h2 with h2 | h2
    · exact .inr (.inl ⟨h1, by rw [h2]; exact hx⟩)
    · exact .inl ⟨h1, h2⟩
  · exact .inr h
theorem lenL_spec {ds : DsT} {L : List Nat} {f x : Nat} {P : List Nat}
    (hg : ∀ le y, LeInv ds P le → LeOk le → (∀ p ∈ P, Leads ds p y) → unk L le < f → LeInv ds P (lenF ds f le y).2 ∧ LenR ds y (lenF ds f le y).1) :
    ∀ (l : List Nat) (k : Nat) (sum : Int) (le : LeT), sum = (min k 9 : Nat) → LeInv ds P le → LeOk le → (∀ y ∈ l, ∀ p ∈ P, Leads ds p y) → unk L le < f →
      ((lenL (lenF ds f) x l sum le).1 = -1 ∧ LeInv ds P (lenL (lenF ds f) x l sum le).2 ∧ ∃ y ∈ l, NoEnd ds y) ∨
      ∃ n le', EndS ds l n ∧ (lenL (lenF ds f) x l sum le) = (((min (k + n) 9 : Nat) : Int), updN le' x ((min (k + n) 9 : Nat) : Int)) ∧ LeInv ds P le'
  | [], k, sum, le, hk, hI, _, _, _ => .inr ⟨0, le, ends_nil ds, by rw [lenL, hk]; rfl, hI⟩
  | y :: t, k, sum, le, hk, hI, hO, hr, hu => by
    obtain ⟨h1, h2⟩ := hg le y hI hO (hr y List.mem_cons_self) hu
    have h3 := lenF_ok ds f le y hO
    rw [lenL]
    rcases h2 with ⟨h2, h4⟩ | ⟨n, h4, h5⟩
    · rw [if_pos h2]
      exact .inl ⟨rfl, h1, y, List.mem_cons_self, h4⟩
    · rw [if_neg (by omega)]
      have hu2 := unk_mono L h3.2.2
      have hs : min (sum + (lenF ds f le y).1) 9 = ((min (k + n) 9 : Nat) : Int) := by rw [hk, h5]; omega
      rcases lenL_spec hg t (k + n) _ _ hs h1 h3.2.1 (fun z hz => hr z (List.mem_cons_of_mem _ hz)) (by omega) with ⟨q1, q2, z, hz, q3⟩ | ⟨m, le', q1, q2, q3⟩
      · exact .inl ⟨q1, q2, z, List.mem_cons_of_mem _ hz, q3⟩
      · refine .inr ⟨n + m, le', EndS.cons h4 q1, ?_, q3⟩
        rw [q2, show k + n + m = k + (n + m) by omega]
theorem lenF_spec (ds : DsT) (L : List Nat) (hL : ∀ y, (ds y).isSome = true → y ∈ L) : ∀ (f : Nat) (P : List Nat) (le : LeT) (x : Nat), LeInv ds P le → LeOk le → (∀ p ∈ P, Leads ds p x) → unk L le < f → LeInv ds P (lenF ds f le x).2 ∧ LenR ds x (lenF ds f le x).1
  | 0, P, le, x, _, _, _, hu => absurd hu (by omega)
  | f + 1, P, le, x, hI, hO, hP, hu => by
    rw [lenF]
    by_cases hs : sylP (x : Int) = true
    · rw [if_pos hs]
      refine ⟨hI, .inr ⟨_, EndA.syl hs, ?_⟩⟩
      have : (partsP (x - 44032)).length ≤ 3 := by unfold partsP; split <;> simp
      simp only
      omega
    · have hs' : sylP (x : Int) = false := by simpa using hs
      rw [if_neg hs]
      cases hd : ds x with
      | none => exact ⟨hI, .inr ⟨1, EndA.ofN hs' hd, rfl⟩⟩
      | some own =>
        simp only
        cases hl : le x with
        | some v =>
          simp only
          refine ⟨hI, ?_⟩
          rcases hI x v hl with ⟨h1, h2⟩ | h | h
          · exact .inl ⟨h1, (hP x h2).ring⟩
          · exact .inl h
          · exact .inr h
        | none =>
          simp only
          have hu2 := unk_upd L (hL x (by rw [hd]; rfl)) hl (-1)
          have key := lenL_spec (ds := ds) (L := L) (f := f) (x := x) (P := x :: P) (fun le y a b c d => lenF_spec ds L hL f (x :: P) le y a b c d) own 0 0 (updN le x (-1)) rfl (hI.upd x) (hO.upd (by omega) (by omega))
            (fun y hy p hp => by
              rcases List.mem_cons.1 hp with rfl | hp
              · exact .one hs' hd hy
              · exact .more (hP p hp) hs' hd hy) (by omega)
          rcases key with ⟨q1, q2, y, hy, q3⟩ | ⟨n, le', q1, q2, q3⟩
          · have := NoEnd.up hs' hd hy q3
            exact ⟨q2.ring this, .inl ⟨q1, this⟩⟩
          · have := EndA.ofL hs' hd q1
            rw [q2, Nat.zero_add]
            exact ⟨q3.done this rfl, .inr ⟨n, this, rfl⟩⟩
def FineD (ds : DsT) (x : Nat) : Prop := ∃ n, EndA ds x n ∧ n ≤ 8
theorem FineD.not1 {ds : DsT} {x : Nat} (h : FineD ds x) : ¬ NoEnd ds x := by
  obtain ⟨n, h, _⟩ := h
  exact h.not
theorem FineD.not2 {ds : DsT} {x n : Nat} (h : FineD ds x) (h2 : EndA ds x n) (h8 : 8 < n) : False := by
  obtain ⟨m, h, hm⟩ := h
  have := h.uniq h2
  omega
def BadN (ds : DsT) (x no : Nat) : Prop := (NoEnd ds x ∧ no = 14) ∨ ((∃ n, EndA ds x n ∧ 8 < n) ∧ no = 5)
theorem BadN.uniq {ds : DsT} {x a b : Nat} (h : BadN ds x a) (h2 : BadN ds x b) : a = b := by
  rcases h with ⟨h, e⟩ | ⟨⟨n, h, _⟩, e⟩ <;> rcases h2 with ⟨h2, e2⟩ | ⟨⟨m, h2, _⟩, e2⟩
  · omega
  · exact absurd h h2.not
  · exact absurd h2 h.not
  · omega
theorem BadN.not {ds : DsT} {x a : Nat} (h : BadN ds x a) : ¬ FineD ds x := fun hf => by
  rcases h with ⟨h, _⟩ | ⟨⟨n, h, h8⟩, _⟩
  · exact hf.not1 h
  · exact hf.not2 h h8
theorem BadN.ne {ds : DsT} {x a : Nat} (h : BadN ds x a) : a ≠ 0 := by
  rcases h with ⟨_, h⟩ | ⟨_, h⟩ <;> omega
theorem ringP_spec (S : RdS) (L0 : List Nat) (f : Nat) (hL : ∀ y, (S.ds y).isSome = true → y ∈ L0) (hf : L0.length < f) : ∀ (L : List Nat) (le : LeT), LeInv S.ds [] le → LeOk le →
    (ringP S f L le = (0, 0) ∧ ∀ x ∈ L, FineD S.ds x) ∨ ∃ a x b no, L = a ++ x :: b ∧ (∀ y ∈ a, FineD S.ds y) ∧ BadN S.ds x no ∧ ringP S f L le = (no, (S.ls x).getD 0)
  | [], le, _, _ => .inl ⟨rfl, fun x h => by cases h⟩
  | x :: t, le, hI, hO => by
    have hu : unk L0 le < f := Nat.lt_of_le_of_lt (List.length_filter_le _ _) hf
    obtain ⟨h1, h2⟩ := lenF_spec S.ds L0 hL f [] le x hI hO (fun p hp => by cases hp) hu
    have h3 := (lenF_ok S.ds f le x hO).2.1
    rw [ringP]
    rcases h2 with ⟨h2, h4⟩ | ⟨n, h4, h5⟩
    · have e : endN (lenF S.ds f le x).1 = 14 := by rw [h2]; rfl
      rw [e, if_pos (by decide)]
      exact .inr ⟨[], x, t, 14, rfl, fun y h => (by cases h), .inl ⟨h4, rfl⟩, rfl⟩
    · by_cases h8 : 8 < n
      · have e : endN (lenF S.ds f le x).1 = 5 := by rw [h5]; unfold endN; rw [if_neg (by omega), if_pos (by omega)]
        rw [e, if_pos (by decide)]
        exact .inr ⟨[], x, t, 5, rfl, fun y h => (by cases h), .inr ⟨⟨n, h4, h8⟩, rfl⟩, rfl⟩
      · have e : endN (lenF S.ds f le x).1 = 0 := by rw [h5]; unfold endN; rw [if_neg (by omega), if_neg (by omega)]
        rw [e, if_neg (by decide)]
        have hx : FineD S.ds x := ⟨n, h4, by omega⟩
        rcases ringP_spec S L0 f hL hf t _ h1 h3 with ⟨q1, q2⟩ | ⟨a, y, b, no, rfl, q2, q3, q4⟩
        · refine .inl ⟨q1, fun y hy => ?_⟩
          rcases List.mem_cons.1 hy with rfl | hy
          · exact hx
          · exact q2 y hy
        · refine .inr ⟨x :: a, y, b, no, rfl, fun z hz => ?_, q3, q4⟩
          rcases List.mem_cons.1 hz with rfl | hz
          · exact hx
          · exact q2 z hz
theorem leInv_none (ds : DsT) : LeInv ds [] fun _ => none := fun _ _ h => by cases h
theorem leOk_none : LeOk fun _ => none := fun _ _ h => by cases h
end Go.Proofs.YtfpfpaaojdodnaaGreatDoor
/- The document's answer for props: number, character. -/
namespace Go.Proofs.YtfpfpaaojdodnaaGreatDoor
open Go Go.RowKit Go.Kt Go.Kt.Rg Go.Maps

def yAt (s : ByteArray) (i : Nat) : UInt8 := s.data.toList.getD i 0
theorem yAt_run (s : ByteArray) (i : Nat) (h : i < s.size) (w : World) : (Instr.index 9 (.string s) (.int .i64 (i : Int))).run Tryz.prog w = .ok (.int .u8 ((yAt s i).toNat : Int)) w := by
  have h' : i < s.data.toList.length := by rw [← Lib.size_eq]; exact h
  have e : ((yAt s i).toNat : Int) = ((s[i]'h).toNat : Int) := by
    unfold yAt
    rw [List.getD_eq_getElem?_getD, List.getElem?_eq_getElem h']; rfl
  rw [run_index_string (h := Tryz.underlying9), dif_pos (by omega), e]; rfl
theorem yAt_drop (s : ByteArray) (i : Nat) (h : i < s.size) : s.data.toList.drop i = yAt s i :: s.data.toList.drop (i + 1) := by
  have h' : i < s.data.toList.length := by rw [← Lib.size_eq]; exact h
  unfold yAt
  rw [List.drop_eq_getElem_cons h', List.getD_eq_getElem?_getD, List.getElem?_eq_getElem h']; rfl

/-! ### Digits -/
def lowD : ByteArray := ⟨#[48, 49, 50, 51, 52, 53, 54, 55, 56, 57, 97, 98, 99, 100, 101, 102]⟩
def uppD : ByteArray := ⟨#[48, 49, 50, 51, 52, 53, 54, 55, 56, 57, 65, 66, 67, 68, 69, 70]⟩
def digB (base : Nat) (b : UInt8) : Option Nat := match digV b.toNat with
  | some d => if d < base then some d else none
  | none => none
theorem dig_low : ∀ k : Fin 16, (digV (yAt lowD k).toNat = some k.1) ∧ (digV (yAt uppD k).toNat = some k.1) := by decide
theorem dig_only : ∀ b : Fin 256, ∀ k : Fin 16, digV b.1 = some k.1 → b.1 = (yAt lowD k).toNat ∨ b.1 = (yAt uppD k).toNat := of_decide_eq_true (by kernel_rfl)
def dK (b : UInt8) (k : Nat) : Int := match digV b.toNat with
  | some d => if d < k then (d : Int) else -1
  | none => -1
theorem dK_zero (b : UInt8) : dK b 0 = -1 := by
  unfold dK
  split
  · rw [if_neg (by omega)]
  · rfl
theorem dK_yes {b : UInt8} {k : Nat} (hk : k < 16) (h : b.toNat = (yAt lowD k).toNat ∨ b.toNat = (yAt uppD k).toNat) : dK b (k + 1) = k := by
  have h1 := dig_low ⟨k, hk⟩
  have : digV b.toNat = some k := by
    rcases h with h | h
    · rw [h]; exact h1.1
    · rw [h]; exact h1.2
  unfold dK
  rw [this]
  simp
theorem dK_no {b : UInt8} {k : Nat} (hk : k < 16) (h1 : b.toNat ≠ (yAt lowD k).toNat) (h2 : b.toNat ≠ (yAt uppD k).toNat) : dK b (k + 1) = dK b k := by
  have hne : digV b.toNat ≠ some k := fun e => by
    rcases dig_only ⟨b.toNat, b.toNat_lt⟩ ⟨k, hk⟩ e with h | h
    · exact h1 h
    · exact h2 h
  unfold dK
  cases hd : digV b.toNat with
  | none => rfl
  | some d =>
    simp only
    have : d ≠ k := fun e => hne (by rw [hd, e])
    by_cases h : d < k
    · rw [if_pos h, if_pos (by omega)]
    · rw [if_neg h, if_neg (by omega)]
theorem dK_dig (b : UInt8) (base : Nat) : dK b base = match digB base b with
    | some d => (d : Int)
    | none => -1 := by
  unfold dK digB
  cases digV b.toNat with
  | none => rfl
  | some d =>
    simp only
    by_cases h : d < base
    · rw [if_pos h, if_pos h]
    · rw [if_neg h, if_neg h]
theorem digB_lt {base d : Nat} {b : UInt8} (h : digB base b = some d) : d < base := by
  unfold digB at h
  split at h
  · split at h
    · cases h; assumption
    · cases h
  · cases h
def numF (base : Nat) : Nat → List UInt8 → Option Nat
  | n, [] => some n
  | n, b :: t => match digB base b with
    | some d => numF base (base * n + d) t
    | none => none
def numG (base least most : Nat) (l : List UInt8) : Int := if l.length < least ∨ most < l.length then -1 else match numF base 0 l with
  | some n => (n : Int)
  | none => -1

set_option maxRecDepth 100000 in
set_option maxHeartbeats 4000000 in
theorem ynumber (s : ByteArray) (base least most : Nat) (w : World) (hs : s.size ≤ 140737488351232) (hB : (base = 16 ∧ least = 4 ∧ most = 6) ∨ (base = 10 ∧ least = 1 ∧ most = 18)) :
    Calls Tryz.prog 87 #[.string s, .int .i64 (base : Nat), .int .i64 (least : Nat), .int .i64 (most : Nat)] w fun e w' => e = .returned (.int .i64 (numG base least most s.data.toList)) ∧ Below w.heap.size w w' := by
  have hln : s.data.toList.length = s.size := (Lib.size_eq s).symm
  by_cases h1 : s.size < least
  · have g1 : (s.size : Int) < (least : Nat) := by omega
    have HR : Hid (numG base least most s.data.toList = -1) := Lib.hid (by unfold numG; rw [if_pos (.inl (by omega))])
    clear h1 hln hB
    go_enter Tryz.func87, Tryz.ntmps87
    go_wp2
    go_ret
    exact ⟨by rw [HR.out]; rfl, Below.refl _ _⟩
  have g1 : ¬ (s.size : Int) < (least : Nat) := by omega
  by_cases h2 : most < s.size
  · have g2 : ((most : Nat) : Int) < s.size := by omega
    have HR : Hid (numG base least most s.data.toList = -1) := Lib.hid (by unfold numG; rw [if_pos (.inr (by omega))])
    clear h1 h2 hln hB
    go_enter Tryz.func87, Tryz.ntmps87
    go_wp2
    go_ret
    exact ⟨by rw [HR.out]; rfl, Below.refl _ _⟩
  have g2 : ¬ ((most : Nat) : Int) < s.size := by omega
  obtain ⟨R, hR⟩ : ∃ R, numG base least most s.data.toList = R := ⟨_, rfl⟩
  have hR2 : (match numF base 0 s.data.toList with
    | some n => (n : Int)
    | none => -1) = R := by rw [← hR]; unfold numG; rw [if_neg (by omega)]
  rw [hR]
  have hb16 : base ≤ 16 := by omega
  have hb10 : 10 ≤ base := by omega
  have hmx : base ^ s.size ≤ 1000000000000000000 := by
    rcases hB with ⟨rfl, _, rfl⟩ | ⟨rfl, _, rfl⟩
    · exact Nat.le_trans (Nat.pow_le_pow_right (by decide) (by omega : s.size ≤ 6)) (by decide)
    · exact Nat.le_trans (Nat.pow_le_pow_right (by decide) (by omega : s.size ≤ 18)) (by decide)
  have HP := Lib.hid (And.intro hb16 (And.intro hb10 (And.intro hmx hln)))
  have HR := Lib.hid hR2
  clear hB hR hR2 h1 h2 hln hb10 hmx
  go_enter Tryz.func87, Tryz.ntmps87
  go_wp2_with fail
  clear g1 g2
  go_loopw [9, 10] (fun u v wr => ∃ (i n : Nat), u = .int .i64 (n : Nat) ∧ v = .int .i64 (i : Nat) ∧ i ≤ s.size ∧ Hid (n < base ^ i ∧ (match numF base n (s.data.toList.drop i) with
    | some n => (n : Int)
    | none => -1) = R) ∧ Below w.heap.size w wr) (fun _ v _ => s.size - (RowKit.intOf v).toNat)
  case atStart => exact ⟨0, 0, rfl, rfl, Nat.zero_le _, Lib.hid ⟨by simp, by rw [List.drop_zero]; exact HR.out⟩, Below.refl _ _⟩
  case round =>
    obtain ⟨i, n, rfl, rfl, hi, hn, hbr⟩ := hrel
    by_cases hlt : i < s.size
    · have e1 : (i : Int) < s.size := by omega
      have HI := fun W => yAt_run s i hlt W
      have HD := yAt_drop s i hlt
      obtain ⟨b, hb⟩ : ∃ b, yAt s i = b := ⟨_, rfl⟩
      rw [hb] at HI HD
      have HX := Lib.hid (And.intro HD hbr)
      clear HD hbr hb
      go_wp2_with fail
      go_loopw [11, 12] (fun u v wr => ∃ (k : Nat), u = .int .i64 (dK b k) ∧ v = .int .i64 (k : Nat) ∧ k ≤ base ∧ Below w.heap.size w wr) (fun _ v _ => base - (RowKit.intOf v).toNat)
      case atStart => exact ⟨0, by rw [dK_zero], rfl, Nat.zero_le _, HX.out.2⟩
      case round =>
        obtain ⟨k, rfl, rfl, hk, hbr2⟩ := hrel
        by_cases hkb : k < base
        · have e2 : (k : Int) < (base : Nat) := by omega
          have hk16 : k < 16 := by omega
          have HLo := fun W => yAt_run lowD k hk16 W
          have HUp := fun W => yAt_run uppD k hk16 W
          unfold lowD at HLo
          unfold uppD at HUp
          have hk1 : IntKind.i64.wrap ((k : Int) + 1) = ((k + 1 : Nat) : Int) := by rw [IntWalk.i64_in _ (by omega)]; omega
          obtain ⟨c, hc⟩ : ∃ c : Int, (b.toNat : Int) = c := ⟨_, rfl⟩
          obtain ⟨lo, hlo⟩ : ∃ c : Int, ((yAt lowD k).toNat : Int) = c := ⟨_, rfl⟩
          obtain ⟨up, hup⟩ : ∃ c : Int, ((yAt uppD k).toNat : Int) = c := ⟨_, rfl⟩
          rw [show (yAt ⟨#[48, 49, 50, 51, 52, 53, 54, 55, 56, 57, 97, 98, 99, 100, 101, 102]⟩ k) = yAt lowD k from rfl, hlo] at HLo
          rw [show (yAt ⟨#[48, 49, 50, 51, 52, 53, 54, 55, 56, 57, 65, 66, 67, 68, 69, 70]⟩ k) = yAt uppD k from rfl, hup] at HUp
          rw [hc] at HI
          obtain ⟨dv, hdv⟩ : ∃ dv : Int, dK b k = dv := ⟨_, rfl⟩
          by_cases hcl : c = lo
          · have q1 : (c == lo) = true := by simp [hcl]
            have HN := Lib.hid (dK_yes hk16 (.inl (show b.toNat = (yAt lowD k).toNat by omega)))
            rw [hdv]
            have HBR := Lib.hid hbr2
            clear hc hlo hup hbr2 hdv hcl
            go_wp2_with fail
            go_quiet (fail)
            go_wp2
            go_roundw
            case rel => exact ⟨k + 1, by rw [HN.out], by go_num, by omega, below_drewN HBR.out _⟩
            case measure => simp [RowKit.intOf]; omega
          · have q1 : (c == lo) = false := beq_eq_false_iff_ne.2 hcl
            by_cases hcu : c = up
            · have q2 : (c == up) = true := by simp [hcu]
              have HN := Lib.hid (dK_yes hk16 (.inr (show b.toNat = (yAt uppD k).toNat by omega)))
              rw [hdv]
              have HBR := Lib.hid hbr2
              clear hc hlo hup hbr2 hdv hcl hcu
              go_wp2_with fail
              go_quiet (fail)
              go_wp2
              go_roundw
              case rel => exact ⟨k + 1, by rw [HN.out], by go_num, by omega, below_drewN HBR.out _⟩
              case measure => simp [RowKit.intOf]; omega
            · have q2 : (c == up) = false := beq_eq_false_iff_ne.2 hcu
              have HN := Lib.hid ((dK_no hk16 (show b.toNat ≠ (yAt lowD k).toNat by omega) (show b.toNat ≠ (yAt uppD k).toNat by omega)).trans hdv)
              rw [hdv]
              have HBR := Lib.hid hbr2
              clear hc hlo hup hbr2 hdv hcl hcu
              go_wp2_with fail
              go_quiet (fail)
              go_wp2
              go_roundw
              case rel => exact ⟨k + 1, by rw [HN.out], by go_num, by omega, below_drewN HBR.out _⟩
              case measure => simp [RowKit.intOf]; omega
        · have e2 : ¬ (k : Int) < (base : Nat) := by omega
          obtain rfl : k = base := by omega
          have hk1 : IntKind.i64.wrap ((i : Int) + 1) = ((i + 1 : Nat) : Int) := by rw [IntWalk.i64_in _ (by omega)]; omega
          have hdd := dK_dig b k
          have hst := hn.out.2
          rw [HX.out.1, numF] at hst
          cases hdg : digB k b with
          | none =>
            rw [hdg] at hdd hst
            have HS := Lib.hid hst
            have HBR := Lib.hid hbr2
            rw [hdd]
            clear hdd hst hbr2 hdg hkb
            go_wp2
            go_ret
            exact ⟨by rw [← HS.out]; rfl, HBR.out⟩
          | some d =>
            rw [hdg] at hdd hst
            have hd := digB_lt hdg
            have hpw : k * n + d < k ^ (i + 1) := by
              rw [Nat.pow_succ, Nat.mul_comm (k ^ i)]
              have h3 : k * (n + 1) ≤ k * k ^ i := Nat.mul_le_mul_left _ hn.out.1
              rw [Nat.mul_add] at h3
              omega
            have hle : k ^ (i + 1) ≤ k ^ s.size := Nat.pow_le_pow_right (by have := HP.out.2.1; omega) (by omega)
            have hmx := HP.out.2.2.1
            have w1 : IntKind.i64.wrap ((k : Int) * (n : Int)) = ((k * n : Nat) : Int) := by rw [IntWalk.i64_in _ (by rw [← Int.natCast_mul]; omega)]; exact (Int.natCast_mul _ _).symm
            have w2 : IntKind.i64.wrap (((k * n : Nat) : Int) + (d : Int)) = ((k * n + d : Nat) : Int) := by rw [IntWalk.i64_in _ (by omega)]; omega
            have d0 : ¬ (d : Int) < 0 := by omega
            have HS := Lib.hid (And.intro hpw hst)
            have HBR := Lib.hid hbr2
            simp only at hdd
            rw [hdd]
            obtain ⟨K, hK⟩ : ∃ K : Nat, k * n = K := ⟨_, rfl⟩
            rw [hK] at w1 w2
            have HK := Lib.hid hK
            clear hdd hst hbr2 hdg hkb hpw hle hmx hd hK
            go_wp2
            go_roundw
            case rel => exact ⟨i + 1, K + d, by go_num, by go_num, by omega, Lib.hid ⟨by rw [← HK.out]; exact HS.out.1, by rw [← HK.out]; exact HS.out.2⟩, HBR.out⟩
            case measure => simp [RowKit.intOf]; omega
    · have e1 : ¬ (i : Int) < s.size := by omega
      have hr := hn.out.2
      rw [List.drop_eq_nil_of_le (by have := HP.out.2.2.2; omega)] at hr
      have hr2 : (n : Int) = R := hr
      have HR2 := Lib.hid hr2
      clear hr hr2 hlt
      go_wp2
      go_ret
      exact ⟨by rw [← HR2.out]; rfl, hbr⟩
end Go.Proofs.YtfpfpaaojdodnaaGreatDoor
/- The document's answer for props: syllable, jamo. -/
namespace Go.Proofs.YtfpfpaaojdodnaaGreatDoor
open Go Go.RowKit Go.Kt Go.Kt.Rg Go.Maps

def jamP (n : Int) : Bool := leadP n || vowP n || tailP n
theorem jam_iff (n : Int) : jamP n = decide ((4352 ≤ n ∧ n ≤ 4370) ∨ (4449 ≤ n ∧ n ≤ 4469) ∨ (4520 ≤ n ∧ n ≤ 4546)) := by
  rw [Bool.eq_iff_iff]
  simp [jamP, leadP, vowP, tailP]
  omega
theorem syl_iff (n : Int) : sylP n = decide (44032 ≤ n ∧ n ≤ 55203) := by
  rw [Bool.eq_iff_iff]
  simp [sylP]
  omega
theorem han_two (n : Int) : hanP n = (sylP n || jamP n) := by
  unfold hanP jamP
  simp [Bool.or_assoc]
set_option maxRecDepth 100000 in
theorem ysyl (n : Int) (w : World) : Calls Tryz.prog 56 #[.int .i64 n] w fun e w' => e = .returned (.bool (sylP n)) ∧ Below w.heap.size w w' := by
  by_cases h2 : 44032 ≤ n
  · by_cases h4 : n ≤ 55203
    · have HR : Hid (sylP n = true) := Lib.hid (by rw [syl_iff]; simp; omega)
      go_enter Tryz.func56, Tryz.ntmps56
      go_wp2
      go_ret
      exact ⟨by rw [HR.out]; rfl, Below.refl _ _⟩
    · have HR : Hid (sylP n = false) := Lib.hid (by rw [syl_iff]; simp; omega)
      go_enter Tryz.func56, Tryz.ntmps56
      go_wp2
      go_ret
      exact ⟨by rw [HR.out]; rfl, Below.refl _ _⟩
  · have HR : Hid (sylP n = false) := Lib.hid (by rw [syl_iff]; simp; omega)
    go_enter Tryz.func56, Tryz.ntmps56
    go_wp2
    go_ret
    exact ⟨by rw [HR.out]; rfl, Below.refl _ _⟩
set_option maxRecDepth 100000 in
theorem yjam (n : Int) (w : World) : Calls Tryz.prog 90 #[.int .i64 n] w fun e w' => e = .returned (.bool (jamP n)) ∧ Below w.heap.size w w' := by
  by_cases h2 : 4352 ≤ n
  · by_cases h4 : n ≤ 4370
    · have HR : Hid (jamP n = true) := Lib.hid (by rw [jam_iff]; simp; omega)
      go_enter Tryz.func90, Tryz.ntmps90
      go_wp2
      go_ret
      exact ⟨by rw [HR.out]; rfl, Below.refl _ _⟩
    · by_cases h6 : 4449 ≤ n
      · by_cases h8 : n ≤ 4469
        · have HR : Hid (jamP n = true) := Lib.hid (by rw [jam_iff]; simp; omega)
          go_enter Tryz.func90, Tryz.ntmps90
          go_wp2
          go_ret
          exact ⟨by rw [HR.out]; rfl, Below.refl _ _⟩
        · by_cases h10 : 4520 ≤ n
          · by_cases h12 : n ≤ 4546
            · have HR : Hid (jamP n = true) := Lib.hid (by rw [jam_iff]; simp; omega)
              go_enter Tryz.func90, Tryz.ntmps90
              go_wp2
              go_ret
              exact ⟨by rw [HR.out]; rfl, Below.refl _ _⟩
            · have HR : Hid (jamP n = false) := Lib.hid (by rw [jam_iff]; simp; omega)
              go_enter Tryz.func90, Tryz.ntmps90
              go_wp2
              go_ret
              exact ⟨by rw [HR.out]; rfl, Below.refl _ _⟩
          · have HR : Hid (jamP n = false) := Lib.hid (by rw [jam_iff]; simp; omega)
            go_enter Tryz.func90, Tryz.ntmps90
            go_wp2
            go_ret
            exact ⟨by rw [HR.out]; rfl, Below.refl _ _⟩
      · by_cases h8 : 4520 ≤ n
        · by_cases h10 : n ≤ 4546
          · have HR : Hid (jamP n = true) := Lib.hid (by rw [jam_iff]; simp; omega)
            go_enter Tryz.func90, Tryz.ntmps90
            go_wp2
            go_ret
            exact ⟨by rw [HR.out]; rfl, Below.refl _ _⟩
          · have HR : Hid (jamP n = false) := Lib.hid (by rw [jam_iff]; simp; omega)
            go_enter Tryz.func90, Tryz.ntmps90
            go_wp2
            go_ret
            exact ⟨by rw [HR.out]; rfl, Below.refl _ _⟩
        · have HR : Hid (jamP n = false) := Lib.hid (by rw [jam_iff]; simp; omega)
          go_enter Tryz.func90, Tryz.ntmps90
          go_wp2
          go_ret
          exact ⟨by rw [HR.out]; rfl, Below.refl _ _⟩
  · by_cases h4 : 4449 ≤ n
    · by_cases h6 : n ≤ 4469
      · have HR : Hid (jamP n = true) := Lib.hid (by rw [jam_iff]; simp; omega)
        go_enter Tryz.func90, Tryz.ntmps90
        go_wp2
        go_ret
        exact ⟨by rw [HR.out]; rfl, Below.refl _ _⟩
      · by_cases h8 : 4520 ≤ n
        · by_cases h10 : n ≤ 4546
          · have HR : Hid (jamP n = true) := Lib.hid (by rw [jam_iff]; simp; omega)
            go_enter Tryz.func90, Tryz.ntmps90
            go_wp2
            go_ret
            exact ⟨by rw [HR.out]; rfl, Below.refl _ _⟩
          · have HR : Hid (jamP n = false) := Lib.hid (by rw [jam_iff]; simp; omega)
            go_enter Tryz.func90, Tryz.ntmps90
            go_wp2
            go_ret
            exact ⟨by rw [HR.out]; rfl, Below.refl _ _⟩
        · have HR : Hid (jamP n = false) := Lib.hid (by rw [jam_iff]; simp; omega)
          go_enter Tryz.func90, Tryz.ntmps90
          go_wp2
          go_ret
          exact ⟨by rw [HR.out]; rfl, Below.refl _ _⟩
    · by_cases h6 : 4520 ≤ n
      · by_cases h8 : n ≤ 4546
        · have HR : Hid (jamP n = true) := Lib.hid (by rw [jam_iff]; simp; omega)
          go_enter Tryz.func90, Tryz.ntmps90
          go_wp2
          go_ret
          exact ⟨by rw [HR.out]; rfl, Below.refl _ _⟩
        · have HR : Hid (jamP n = false) := Lib.hid (by rw [jam_iff]; simp; omega)
          go_enter Tryz.func90, Tryz.ntmps90
          go_wp2
          go_ret
          exact ⟨by rw [HR.out]; rfl, Below.refl _ _⟩
      · have HR : Hid (jamP n = false) := Lib.hid (by rw [jam_iff]; simp; omega)
        go_enter Tryz.func90, Tryz.ntmps90
        go_wp2
        go_ret
        exact ⟨by rw [HR.out]; rfl, Below.refl _ _⟩
end Go.Proofs.YtfpfpaaojdodnaaGreatDoor
/- Numbers of 32 bits that are put in order: what a row at work is, what two stores make of it, and how the plain functions go on. No program. -/
namespace Go.Kt.Os
open Go Go.RowKit Go.Kt Go.Sort

abbrev E32 : Int → Value := Value.int .i32

theorem holds_keep {X : Nat → Prop} {blk off : Nat} {d : Array Int} {A B : World} (h : Holds E32 A blk off d) (k : Keep X A B) (hX : ¬ X blk) : Holds E32 B blk off d := fun j hj => by
  obtain ⟨h1, h2⟩ := h j hj
  exact ⟨k.cell h1 hX, (k.frozen (lt_of_cell h1) hX).trans h2⟩

structure SW (w : World) (blk off : Nat) (d : Array Int) (wr : World) : Prop where
  keep : Keep (fun b => b = blk) w wr
  holds : Holds E32 wr blk off d

section
variable {w wr w1 : World} {blk off : Nat} {d d' : Array Int}
theorem SW.refl (h : Holds E32 w blk off d) : SW w blk off d w := ⟨Keep.refl _ _, h⟩
theorem SW.trans (h : SW w blk off d wr) (k : SW wr blk off d' w1) : SW w blk off d' w1 := ⟨h.keep.trans k.keep, k.holds⟩
theorem SW.drewN (h : SW w blk off d wr) (q : Nat) : SW w blk off d (wr.drewN q) := ⟨h.keep.trans ⟨rfl, rfl, rfl, Nat.le_refl _, fun _ _ _ => rfl⟩, h.holds⟩
theorem SW.then (h : SW w blk off d wr) (k : Keep (fun b => b ≠ blk ∧ w.heap.size ≤ b) wr w1) : SW w blk off d w1 :=
  ⟨h.keep.plus k (fun b hb hz => absurd hz.2 (by omega)), holds_keep h.holds k (fun e => e.1 rfl)⟩
theorem SW.cells (h : SW w blk off d wr) {G : Nat → Int} (hG : ∀ t, G t = d[t]!) {n : Nat} (hn : d.size = n) : ∀ t, t < n → wr.cell? ⟨blk, off + t, none⟩ = some (.int .i32 (G t)) := fun t ht => by
  rw [hG]; exact (h.holds t (by omega)).1
theorem SW.thaw (h : SW w blk off d wr) {n : Nat} (hn : d.size = n) : ∀ t, t < n → wr.frozen? ⟨blk, off + t, none⟩ = false := fun t ht => (h.holds t (by omega)).2
theorem SW.swap (h : SW w blk off d wr) {G : Nat → Int} (hG : ∀ t, G t = d[t]!) {i j : Nat} (hi : i < d.size) (hj : j < d.size) :
    SW w blk off (swp d i j) ((wr.setCell ⟨blk, off + i, none⟩ (.int .i32 (G j))).setCell ⟨blk, off + j, none⟩ (.int .i32 (G i))) := by
  refine ⟨(h.keep.setCell rfl _).setCell rfl _, ?_⟩
  rw [hG, hG]
  have e := putRow_swp E32 wr blk off d i j hi hj
  rw [putRow_self E32 wr blk off d h.holds] at e
  rw [show (wr.setCell ⟨blk, off + i, none⟩ (.int .i32 d[j]!)).setCell ⟨blk, off + j, none⟩ (.int .i32 d[i]!) = _ from e]
  exact holds_putRow E32 wr blk off d _ h.holds (size_swp _ _ _)
theorem SW.swapq (h : SW w blk off d wr) {G : Nat → Int} (hG : ∀ t, G t = d[t]!) {i j : Nat} (hi : i < d.size) (hj : j < d.size) (q r : Nat) :
    SW w blk off (swp d i j) ((((wr.drewN q).setCell ⟨blk, off + i, none⟩ (.int .i32 (G j))).setCell ⟨blk, off + j, none⟩ (.int .i32 (G i))).drewN r) :=
  ((h.drewN q).swap hG hi hj).drewN r
end

section
variable (lt : Int → Int → Bool)
theorem insInner_go (a j : Nat) (d : Array Int) (hj : a < j) (hl : lt d[j]! d[j - 1]! = true) : insInner lt a j d = insInner lt a (j - 1) (swp d j (j - 1)) := by
  obtain ⟨k, rfl⟩ : ∃ k, j = k + 1 := ⟨j - 1, by omega⟩
  simp only [Nat.add_sub_cancel] at hl ⊢
  rw [insInner, if_pos (by simp [hl]; omega)]
theorem insInner_stop (a j : Nat) (d : Array Int) (h : j ≤ a ∨ lt d[j]! d[j - 1]! = false) : insInner lt a j d = d := by
  cases j with
  | zero => rfl
  | succ k =>
    simp only [Nat.add_sub_cancel] at h
    rw [insInner, if_neg]
    rcases h with h | h
    · simp; omega
    · simp [h]
theorem insOuter_go (a b i : Nat) (d : Array Int) (h : i < b) : insOuter lt a b i d = insOuter lt a b (i + 1) (insInner lt a i d) := by rw [insOuter, if_pos h]
theorem insOuter_stop (a b i : Nat) (d : Array Int) (h : ¬ i < b) : insOuter lt a b i d = d := by rw [insOuter, if_neg h]

theorem sd_end {hi F root : Nat} (d : Array Int) (h : hi ≤ 2 * root + 1) : siftDown lt hi F root d = d := by rw [siftDown, dif_pos h]
theorem sd_right {hi F root : Nat} (d : Array Int) (h1 : 2 * root + 2 < hi) (h2 : lt d[F + (2 * root + 1)]! d[F + (2 * root + 1) + 1]! = true) :
    siftDown lt hi F root d = if lt d[F + root]! d[F + (2 * root + 2)]! then siftDown lt hi F (2 * root + 2) (swp d (F + root) (F + (2 * root + 2))) else d := by
  rw [siftDown, dif_neg (by omega), if_pos (by simp [h2]; omega)]
  cases lt d[F + root]! d[F + (2 * root + 2)]! with
  | true => simp [h1]
  | false => simp
theorem sd_left {hi F root : Nat} (d : Array Int) (h0 : 2 * root + 1 < hi) (h1 : ¬ (2 * root + 2 < hi) ∨ lt d[F + (2 * root + 1)]! d[F + (2 * root + 1) + 1]! = false) :
    siftDown lt hi F root d = if lt d[F + root]! d[F + (2 * root + 1)]! then siftDown lt hi F (2 * root + 1) (swp d (F + root) (F + (2 * root + 1))) else d := by
  rw [siftDown, dif_neg (by omega), if_neg (by rcases h1 with h | h <;> simp [h] <;> omega)]
  cases lt d[F + root]! d[F + (2 * root + 1)]! with
  | true => simp
  | false => simp
theorem sd_r {hi F root : Nat} (d : Array Int) (h1 : 2 * root + 2 < hi) (h2 : lt d[F + 2 * root + 1]! d[F + 2 * root + 2]! = true) :
    siftDown lt hi F root d = if lt d[F + root]! d[F + 2 * root + 2]! then siftDown lt hi F (2 * root + 2) (swp d (F + root) (F + 2 * root + 2)) else d := sd_right lt d h1 h2
theorem sd_l {hi F root : Nat} (d : Array Int) (h0 : 2 * root + 1 < hi) (h1 : ¬ (2 * root + 2 < hi) ∨ lt d[F + 2 * root + 1]! d[F + 2 * root + 2]! = false) :
    siftDown lt hi F root d = if lt d[F + root]! d[F + 2 * root + 1]! then siftDown lt hi F (2 * root + 1) (swp d (F + root) (F + 2 * root + 1)) else d := sd_left lt d h0 h1
theorem size_siftDown (hi F : Nat) : ∀ (n root : Nat) (d : Array Int), hi - root ≤ n → (siftDown lt hi F root d).size = d.size := by
  intro n
  induction n with
  | zero => intro root d h; rw [sd_end lt d (by omega)]
  | succ n ih =>
    intro root d h
    by_cases h0 : hi ≤ 2 * root + 1
    · rw [sd_end lt d h0]
    · by_cases h1 : 2 * root + 2 < hi ∧ lt d[F + (2 * root + 1)]! d[F + (2 * root + 1) + 1]! = true
      · rw [sd_right lt d h1.1 h1.2]
        split
        · rw [ih _ _ (by omega), size_swp]
        · rfl
      · rw [sd_left lt d (by omega) (by
          by_cases h2 : 2 * root + 2 < hi
          · right; cases h3 : lt d[F + (2 * root + 1)]! d[F + (2 * root + 1) + 1]! with
            | true => exact absurd ⟨h2, h3⟩ h1
            | false => rfl
          · exact .inl h2)]
        split
        · rw [ih _ _ (by omega), size_swp]
        · rfl

theorem scanUp_go (p : Int → Bool) (d : Array Int) (j i : Nat) (h : i ≤ j) (hp : p d[i]! = true) : scanUp p d j i = scanUp p d j (i + 1) := by
  rw [scanUp, if_pos (by simp [h, hp])]
theorem scanUp_end (p : Int → Bool) (d : Array Int) (j i : Nat) (h : ¬ i ≤ j ∨ p d[i]! = false) : scanUp p d j i = i := by
  rw [scanUp, if_neg (by rcases h with h | h <;> simp [h])]
theorem scanDown_go (p : Int → Bool) (d : Array Int) (i j : Nat) (h : i ≤ j) (h0 : 0 < j) (hp : p d[j]! = true) : scanDown p d i j = scanDown p d i (j - 1) := by
  obtain ⟨k, rfl⟩ : ∃ k, j = k + 1 := ⟨j - 1, by omega⟩
  rw [scanDown, if_pos (by simp [h, hp])]
  rfl
theorem scanDown_end (p : Int → Bool) (d : Array Int) (i j : Nat) (h : ¬ i ≤ j ∨ p d[j]! = false) : scanDown p d i j = j := by
  cases j with
  | zero => rfl
  | succ k => rw [scanDown, if_neg (by rcases h with h | h <;> simp [h])]

theorem ss_go (d : Array Int) (b i : Nat) (h : i < b) (hl : lt d[i]! d[i - 1]! = false) : scanSorted lt d b i = scanSorted lt d b (i + 1) := by
  rw [scanSorted, if_pos (by simp [h, hl])]
theorem ss_stop (d : Array Int) (b i : Nat) (h : ¬ i < b ∨ lt d[i]! d[i - 1]! = true) : scanSorted lt d b i = i := by
  rw [scanSorted, if_neg (by rcases h with h | h <;> simp [h])]
theorem sdn_go (j : Nat) (d : Array Int) (hj : 1 ≤ j) (hl : lt d[j]! d[j - 1]! = true) : shiftDown lt j d = shiftDown lt (j - 1) (swp d j (j - 1)) := by
  obtain ⟨k, rfl⟩ : ∃ k, j = k + 1 := ⟨j - 1, by omega⟩
  simp only [Nat.add_sub_cancel] at hl ⊢
  rw [shiftDown, if_neg (by simp [hl])]
theorem sdn_stop (j : Nat) (d : Array Int) (h : ¬ 1 ≤ j ∨ lt d[j]! d[j - 1]! = false) : shiftDown lt j d = d := by
  cases j with
  | zero => rfl
  | succ k =>
    simp only [Nat.add_sub_cancel] at h
    rw [shiftDown, if_pos]
    rcases h with h | h
    · omega
    · simp [h]
theorem sup_go (b j : Nat) (d : Array Int) (hj : j < b) (hl : lt d[j]! d[j - 1]! = true) : shiftUp lt b j d = shiftUp lt b (j + 1) (swp d j (j - 1)) := by
  rw [shiftUp, if_pos hj, if_neg (by simp [hl])]
theorem sup_stop (b j : Nat) (d : Array Int) (h : ¬ j < b ∨ lt d[j]! d[j - 1]! = false) : shiftUp lt b j d = d := by
  rw [shiftUp]
  rcases h with h | h
  · rw [if_neg h]
  · rw [if_pos (by simp [h] : (!lt d[j]! d[j - 1]!) = true)]
    split <;> rfl
theorem pi_true (a b s i : Nat) (d : Array Int) (hs : s < 5) (hK : scanSorted lt d b i = b) : partialIns lt a b (5 - s) i d = (d, true) := by
  rw [show 5 - s = (4 - s) + 1 by omega, partialIns]
  simp [hK]
theorem pi_short (a b s i k : Nat) (d : Array Int) (hs : s < 5) (hK : scanSorted lt d b i = k) (hkb : k ≠ b) (h50 : b - a < 50) : partialIns lt a b (5 - s) i d = (d, false) := by
  rw [show 5 - s = (4 - s) + 1 by omega, partialIns]
  simp [hK, hkb, h50]
theorem pi_go (a b s i k : Nat) (d : Array Int) (hs : s < 5) (hK : scanSorted lt d b i = k) (hkb : k ≠ b) (h50 : ¬ b - a < 50) {d1 d2 d3 : Array Int} (h1 : d1 = swp d k (k - 1))
    (h2 : d2 = if k - a ≥ 2 then shiftDown lt (k - 1) d1 else d1) (h3 : d3 = if b - k ≥ 2 then shiftUp lt b (k + 1) d2 else d2) : partialIns lt a b (5 - s) i d = partialIns lt a b (5 - (s + 1)) k d3 := by
  subst h1 h2 h3
  rw [show 5 - s = (5 - (s + 1)) + 1 by omega, partialIns]
  simp only [hK]
  rw [if_neg hkb, if_neg h50]
end
end Go.Kt.Os
