/- The document's sets are the program's: join, both, less, not, and the set of spans: the mathematics (for RangesMade, RangesOf). -/
import Derived.Test.YtjbkpcdpdifpnaaGreatDoorRm
import Derived.Test.YtjbkpcdpdifpnaaGreatDoorCk7
import Derived.Test.YtjbkpcdpdifpnaaGreatDoorCk9
namespace Go.Proofs.YtjbkpcdpdifpnaaGreatDoor
open Go Go.RowKit Go.Kt Go.Kt.Rg

def hasL (l : List Run) (n : Int) : Bool := l.any fun x => decide (x.1 ≤ n) && decide (n < x.2)
theorem hasL_iff (l : List Run) (n : Int) : hasL l n = true ↔ inS l n := by
  unfold hasL inS inR
  rw [List.any_eq_true]
  constructor
  · rintro ⟨x, hx, h⟩
    rw [Bool.and_eq_true, decide_eq_true_eq, decide_eq_true_eq] at h
    exact ⟨x, hx, h⟩
  · rintro ⟨x, hx, h⟩
    exact ⟨x, hx, by rw [Bool.and_eq_true, decide_eq_true_eq, decide_eq_true_eq]; exact h⟩
def saysB : Nat → Bool → Bool → Bool
  | 0, a, b => a || b
  | 1, a, b => a && b
  | 2, a, b => a && !b
  | _, a, _ => !a
def madeL (how : Nat) (a b : List Run) : List Run := mkR (fun x => saysB how (hasL a x) (hasL b x)) (edgL b (edgL a [0, allN])) []
theorem madeL_in {a b : List Run} (ha : Canon a) (hb : Canon b) (how : Nat) : Canon (madeL how a b) ∧ ∀ n, inS (madeL how a b) n ↔ 0 ≤ n ∧ n < allN ∧ saysB how (hasL a n) (hasL b n) = true :=
  made_in ha hb (saysB how) (hasL a) (hasL b) (hasL_iff a) (hasL_iff b)
theorem made_join {a b : List Run} (ha : Canon a) (hb : Canon b) : madeL 0 a b = joinL a b := by
  obtain ⟨k1, k2⟩ := madeL_in ha hb 0
  refine k1.ext (join_canon ha hb) fun n => ?_
  rw [k2, join_in ha hb]
  simp only [saysB, Bool.or_eq_true, hasL_iff]
  constructor
  · exact fun h => h.2.2
  · intro h
    have : 0 ≤ n ∧ n < allN := h.elim (fun h => ha.in_bd h) (fun h => hb.in_bd h)
    exact ⟨this.1, this.2, h⟩
theorem made_both {a b : List Run} (ha : Canon a) (hb : Canon b) : madeL 1 a b = bothL a b := by
  obtain ⟨k1, k2⟩ := madeL_in ha hb 1
  refine k1.ext (both_canon a b ha hb) fun n => ?_
  rw [k2, both_in a b ha hb]
  simp only [saysB, Bool.and_eq_true, hasL_iff]
  constructor
  · exact fun h => h.2.2
  · intro h
    have := ha.in_bd h.1
    exact ⟨this.1, this.2, h⟩
theorem hasL_not (l : List Run) (n : Int) : (!hasL l n) = true ↔ ¬ inS l n := by
  rw [← hasL_iff]
  cases hasL l n <;> simp
theorem made_less {a b : List Run} (ha : Canon a) (hb : Canon b) : madeL 2 a b = lessL a b := by
  obtain ⟨k1, k2⟩ := madeL_in ha hb 2
  refine k1.ext (less_canon ha hb) fun n => ?_
  rw [k2, less_in ha hb]
  simp only [saysB, Bool.and_eq_true, hasL_iff, hasL_not]
  constructor
  · exact fun h => h.2.2
  · intro h
    have := ha.in_bd h.1
    exact ⟨this.1, this.2, h⟩
theorem made_not {a b : List Run} (ha : Canon a) (hb : Canon b) : madeL 3 a b = notL 0 a := by
  obtain ⟨k1, k2⟩ := madeL_in ha hb 3
  refine k1.ext (not_canon a ha) fun n => ?_
  rw [k2, not_in a ha]
  simp only [saysB, hasL_not]
theorem join_self {a : List Run} (ha : Canon a) : joinL a a = a :=
  (join_canon ha ha).ext ha fun n => by rw [join_in ha ha, or_self]
theorem less_self {a : List Run} (ha : Canon a) : lessL a a = [] :=
  (less_canon ha ha).ext (show Canon [] from trivial) fun n => by
    rw [less_in ha ha]
    exact ⟨fun h => absurd h.1 h.2, fun h => absurd h (inS_nil n)⟩

theorem bad_point {x : Int × Int} (h : dNum x.1 < 0 ∨ dNum x.2 < 0) : badR x = 8 := by
  unfold badR
  rw [if_pos]
  rcases h with h | h
  · left
    cases hb : (numB x.1).2 with
    | false => rfl
    | true =>
      have e := dNum_numB x.1
      rw [hb] at e
      have := numB_bd x.1
      simp only [if_true] at e
      omega
  · right
    cases hb : (numB x.2).2 with
    | false => rfl
    | true =>
      have e := dNum_numB x.2
      rw [hb] at e
      have := numB_bd x.2
      simp only [if_true] at e
      omega
theorem bad_turned {x : Int × Int} (h1 : 0 ≤ dNum x.1) (h2 : 0 ≤ dNum x.2) (h : dNum x.2 < dNum x.1) : badR x = 1 := by
  obtain ⟨a1, a2⟩ := dNum_ok h1
  obtain ⟨b1, b2⟩ := dNum_ok h2
  unfold badR
  rw [if_neg (by rw [a1, b1]; simp), if_pos (by omega)]
theorem bad_none {x : Int × Int} (h1 : 0 ≤ dNum x.1) (h2 : 0 ≤ dNum x.2) (h : ¬ dNum x.2 < dNum x.1) : badR x = 0 ∧ numsR [x] = [(dNum x.1, dNum x.2 + 1)] := by
  obtain ⟨a1, a2⟩ := dNum_ok h1
  obtain ⟨b1, b2⟩ := dNum_ok h2
  unfold badR
  rw [if_neg (by rw [a1, b1]; simp), if_neg (by omega)]
  refine ⟨rfl, ?_⟩
  simp only [numsR, List.map_cons, List.map_nil, a2, b2]
theorem numsR_append (l m : List (Int × Int)) : numsR (l ++ m) = numsR l ++ numsR m := by simp [numsR]
theorem of_one_more {l : List (Int × Int)} {x : Int × Int} (h : ∀ y ∈ l, badR y = 0) (hx : badR x = 0) : Canon (canonOf (numsR l)) ∧ Canon (numsR [x]) ∧ madeL 0 (canonOf (numsR l)) (numsR [x]) = canonOf (numsR (l ++ [x])) := by
  have f1 := good_fit h
  have f2 : Fit (numsR [x]) := good_fit fun y hy => by rw [List.mem_singleton] at hy; rw [hy]; exact hx
  have c1 := canonOf_canon _ f1
  have c2 : Canon (numsR [x]) := by
    have := f2 _ (show ((numB x.1).1, (numB x.2).1 + 1) ∈ numsR [x] from .head _)
    exact ⟨by simp only at this ⊢; omega, this.2.1, this.2.2, trivial⟩
  refine ⟨c1, c2, ?_⟩
  rw [made_join c1 c2]
  refine (join_canon c1 c2).ext (canonOf_canon _ (by rw [numsR_append]; exact f1.append f2)) fun n => ?_
  rw [join_in c1 c2, canonOf_in _ f1, canonOf_in _ (by rw [numsR_append]; exact f1.append f2), numsR_append, inS_append]
end Go.Proofs.YtjbkpcdpdifpnaaGreatDoor
