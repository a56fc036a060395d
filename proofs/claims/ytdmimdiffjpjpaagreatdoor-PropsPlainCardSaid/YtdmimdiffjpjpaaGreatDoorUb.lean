/- props: runs of rows: what is told of each edge. -/
import Derived.Test.YtdmimdiffjpjpaaGreatDoorUa
import Derived.Test.YtdmimdiffjpjpaaGreatDoorJy
import Derived.Test.YtdmimdiffjpjpaaGreatDoorGz10
namespace Go.Proofs.YtdmimdiffjpjpaaGreatDoor
open Go Go.RowKit Go.Kt Go.Kt.Rg Go.Maps Go.Kt.Os Go.Sort

abbrev Rw3 := Nat × Nat × Int
def holdsR (x : Rw3) (e : Nat) : Prop := x.1 ≤ e ∧ e ≤ x.2.1
instance (x : Rw3) (e : Nat) : Decidable (holdsR x e) := inferInstanceAs (Decidable (_ ∧ _))
/-- The value of the last row that holds a number; 0 if none does. -/
def lastV : List Rw3 → Nat → Option Int
  | [], _ => none
  | x :: t, e => match lastV t e with
    | some v => some v
    | none => if holdsR x e then some x.2.2 else none
theorem lastV_none {l : List Rw3} {e : Nat} : lastV l e = none ↔ ∀ x ∈ l, ¬ holdsR x e := by
  induction l with
  | nil => exact ⟨fun _ _ h => (by cases h), fun _ => rfl⟩
  | cons x t ih =>
    unfold lastV
    cases h : lastV t e with
    | some v =>
      refine ⟨fun h1 => (by cases h1), fun h1 => ?_⟩
      have := ih.2 (fun y hy => h1 y (List.mem_cons_of_mem _ hy))
      rw [h] at this; cases this
    | none =>
      have h2 := ih.1 h
      simp only
      split
      · rename_i h3
        exact ⟨fun h1 => (by cases h1), fun h1 => absurd h3 (h1 x List.mem_cons_self)⟩
      · rename_i h3
        exact ⟨fun _ y hy => by rcases List.mem_cons.1 hy with rfl | hy; exact h3; exact h2 y hy, fun _ => rfl⟩
/-- What is told of the edges E while the rows l are done: which are left, and the values. -/
def ToldW (E : List Nat) (l : List Rw3) (P : Nat → Prop) (V : Nat → Int) : Prop :=
  ∀ j e, E[j]? = some e → (P j ↔ lastV l e = none) ∧ V j = (lastV l e).getD 0
/-- Behind a row x more, from its place first to the place at. -/
theorem ToldW.cons {E : List Nat} {l : List Rw3} {P P' : Nat → Prop} {V V' : Nat → Int} (h : ToldW E l P V) {x : Rw3} {first at_ : Nat} (hE : E.Pairwise (· < ·)) (hf : E[first]? = some x.1) (ha : ∀ e, E[at_]? = some e → x.2.1 < e) (hat : at_ < E.length)
    (hb : ∀ j e, first ≤ j → j < at_ → E[j]? = some e → P j → e ≤ x.2.1)
    (hP : ∀ j, j < E.length → (P' j ↔ P j ∧ (j < first ∨ at_ ≤ j))) (hV1 : ∀ j, P j → first ≤ j → j < at_ → V' j = x.2.2) (hV2 : ∀ j, j < E.length → ¬ (P j ∧ first ≤ j ∧ j < at_) → V' j = V j) : ToldW E (x :: l) P' V' := by
  have hlt : ∀ i j a b, E[i]? = some a → E[j]? = some b → i < j → a < b := fun i j a b hi hj hij => by
    have h1 := (List.getElem?_eq_some_iff.1 hi)
    have h2 := (List.getElem?_eq_some_iff.1 hj)
    rw [← h1.2, ← h2.2]
    exact (List.pairwise_iff_getElem.1 hE) i j h1.1 h2.1 hij
  intro j e hj
  have hjl := (List.getElem?_eq_some_iff.1 hj).1
  obtain ⟨h1, h2⟩ := h j e hj
  obtain ⟨ea, hea⟩ : ∃ ea, E[at_]? = some ea := ⟨_, List.getElem?_eq_getElem hat⟩
  have hax := ha ea hea
  rw [hP j hjl]
  unfold lastV
  cases hl : lastV l e with
  | some v =>
    have hp : ¬ P j := fun hp => by have := h1.1 hp; rw [hl] at this; cases this
    rw [hV2 j hjl (fun h => hp h.1), h2, hl]
    exact ⟨⟨fun h => absurd h.1 hp, fun h => (by cases h)⟩, rfl⟩
  | none =>
    have hp : P j := h1.2 hl
    simp only
    by_cases hh : holdsR x e
    · have hjf : first ≤ j := by
        refine Nat.le_of_not_lt fun hlt2 => ?_
        have := hlt j first e x.1 hj hf hlt2
        have := hh.1
        omega
      have hja : j < at_ := by
        refine Nat.lt_of_not_le fun hle => ?_
        have := hh.2
        by_cases e2 : at_ = j
        · subst e2; rw [hea] at hj; cases hj; omega
        · have := hlt at_ j ea e hea hj (by omega)
          omega
      rw [if_pos hh, hV1 j hp hjf hja]
      exact ⟨⟨fun h => (by omega), fun h => (by cases h)⟩, rfl⟩
    · have hn : ¬ (first ≤ j ∧ j < at_) := fun hq => hh (by
        have hle := hb j e hq.1 hq.2 hj hp
        refine ⟨?_, hle⟩
        by_cases e2 : first = j
        · subst e2; rw [hf] at hj; cases hj; exact Nat.le_refl _
        · have := hlt first j x.1 e hf hj (by omega)
          omega)
      rw [if_neg hh, hV2 j hjl (fun h => hn h.2), h2, hl]
      exact ⟨⟨fun _ => rfl, fun _ => ⟨hp, by omega⟩⟩, rfl⟩
end Go.Proofs.YtdmimdiffjpjpaaGreatDoor
