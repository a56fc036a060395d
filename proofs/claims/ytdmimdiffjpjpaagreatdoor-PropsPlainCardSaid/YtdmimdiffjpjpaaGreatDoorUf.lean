/- props: runs of values: what the runs of edges say of each number. -/
import Derived.Test.YtdmimdiffjpjpaaGreatDoorUb
import Derived.Test.YtdmimdiffjpjpaaGreatDoorK27
namespace Go.Proofs.YtdmimdiffjpjpaaGreatDoor
open Go Go.RowKit Go.Kt Go.Kt.Rg Go.Maps Go.Kt.Os Go.Sort

/-- What runs say of a number: the value of the last one that begins at or below it. -/
def runVal (L : List (Nat × Int)) (r : Int) : Int := L.foldl (fun a x => if (x.1 : Int) ≤ r then x.2 else a) 0
theorem runVal_nil (r : Int) : runVal [] r = 0 := rfl
theorem runVal_snoc (L : List (Nat × Int)) (x : Nat × Int) (r : Int) : runVal (L ++ [x]) r = if (x.1 : Int) ≤ r then x.2 else runVal L r := by
  unfold runVal
  rw [List.foldl_append]
  rfl
theorem runVal_neg (L : List (Nat × Int)) (r : Int) (h : r < 0) : runVal L r = 0 := by
  unfold runVal
  have : ∀ (L : List (Nat × Int)) (a : Int), L.foldl (fun a x => if (x.1 : Int) ≤ r then x.2 else a) a = a := by
    intro L
    induction L with
    | nil => intro a; rfl
    | cons x t ih => intro a; rw [List.foldl_cons, if_neg (by omega)]; exact ih a
  exact this L 0
/-- Where the first k runs begin at or below a number and the others above it, the value is the last of these. -/
theorem runVal_at (L : List (Nat × Int)) (k : Nat) (r : Int) (hk : k ≤ L.length) (h1 : ∀ i x, L[i]? = some x → i < k → (x.1 : Int) ≤ r) (h2 : ∀ i x, L[i]? = some x → k ≤ i → r < (x.1 : Int)) :
    (k = 0 → runVal L r = 0) ∧ (∀ j x, k = j + 1 → L[j]? = some x → runVal L r = x.2) := by
  have key : ∀ (M : List (Nat × Int)) (a : Int), (∀ x ∈ M, r < (x.1 : Int)) → M.foldl (fun a x => if (x.1 : Int) ≤ r then x.2 else a) a = a := by
    intro M
    induction M with
    | nil => intro a _; rfl
    | cons x t ih =>
      intro a hM
      have h9 := hM x List.mem_cons_self
      rw [List.foldl_cons, if_neg (by omega)]
      exact ih a (fun y hy => hM y (List.mem_cons_of_mem _ hy))
  have hd : ∀ x ∈ L.drop k, r < (x.1 : Int) := fun x hx => by
    obtain ⟨i, hi⟩ := List.getElem?_of_mem hx
    rw [List.getElem?_drop] at hi
    exact h2 _ _ hi (by omega)
  have hs : runVal L r = runVal (L.take k) r := by
    conv => lhs; rw [← List.take_append_drop k L]
    unfold runVal
    rw [List.foldl_append]
    exact key _ _ hd
  refine ⟨fun e => ?_, fun j x e hj => ?_⟩
  · subst e
    rw [hs]; rfl
  · subst e
    have ht : L.take (j + 1) = L.take j ++ [x] := by rw [List.take_add_one, hj]; rfl
    rw [hs, ht, runVal_snoc, if_pos (h1 j x hj (by omega))]

/-- What the first k edges say of a number. -/
def evV (E : List Nat) (V : Nat → Int) : Nat → Nat → Int
  | 0, _ => 0
  | k + 1, r => if E.getD k 0 ≤ r then V k else evV E V k r
theorem evV_spec (E : List Nat) (V : Nat → Int) (r : Nat) : ∀ k, ((∀ j, j < k → r < E.getD j 0) ∧ evV E V k r = 0) ∨ ∃ j, j < k ∧ E.getD j 0 ≤ r ∧ (∀ i, j < i → i < k → r < E.getD i 0) ∧ evV E V k r = V j
  | 0 => .inl ⟨fun j h => absurd h (by omega), rfl⟩
  | k + 1 => by
    unfold evV
    by_cases h : E.getD k 0 ≤ r
    · rw [if_pos h]
      exact .inr ⟨k, by omega, h, fun i h1 h2 => by omega, rfl⟩
    · rw [if_neg h]
      rcases evV_spec E V r k with ⟨h1, h2⟩ | ⟨j, h1, h2, h3, h4⟩
      · refine .inl ⟨fun j hj => ?_, h2⟩
        by_cases e : j = k
        · subst e; omega
        · exact h1 j (by omega)
      · refine .inr ⟨j, by omega, h2, fun i h5 h6 => ?_, h4⟩
        by_cases e : i = k
        · subst e; omega
        · exact h3 i h5 (by omega)
theorem lastV_congr {l : List Rw3} {a b : Nat} (h : ∀ x ∈ l, holdsR x a ↔ holdsR x b) : lastV l a = lastV l b := by
  induction l with
  | nil => rfl
  | cons x t ih =>
    unfold lastV
    rw [ih (fun y hy => h y (List.mem_cons_of_mem _ hy))]
    have h1 := h x List.mem_cons_self
    by_cases h2 : holdsR x a
    · rw [if_pos h2, if_pos (h1.1 h2)]
    · rw [if_neg h2, if_neg (fun h3 => h2 (h1.2 h3))]
/-- All edges at hand say of each number what the last row that holds it says. -/
theorem evV_all {E : List Nat} {rows : List Rw3} {P : Nat → Prop} {V : Nat → Int} (hT : ToldW E rows P V) (hE : E.Pairwise (· < ·)) (hm : ∀ x ∈ rows, x.1 ∈ E ∧ x.2.1 + 1 ∈ E) (r : Nat) : evV E V E.length r = (lastV rows r).getD 0 := by
  have hget : ∀ j, j < E.length → E[j]? = some (E.getD j 0) := fun j hj => by
    rw [List.getD_eq_getElem?_getD, List.getElem?_eq_getElem hj]; rfl
  rcases evV_spec E V r E.length with ⟨h1, h2⟩ | ⟨j, h1, h2, h3, h4⟩
  · rw [h2]
    have : lastV rows r = none := lastV_none.2 fun x hx hh => by
      obtain ⟨i, hi⟩ := List.getElem?_of_mem (hm x hx).1
      have hil := (List.getElem?_eq_some_iff.1 hi).1
      have h9 := h1 i hil
      have h8 := hget i hil
      rw [hi] at h8
      injection h8 with h8
      have := hh.1
      omega
    rw [this]; rfl
  · rw [h4, (hT j _ (hget j h1)).2]
    have hle : ∀ y ∈ E, (y ≤ r ↔ y ≤ E.getD j 0) := fun y hy => by
      obtain ⟨i, hi⟩ := List.getElem?_of_mem hy
      have hil := (List.getElem?_eq_some_iff.1 hi).1
      have h8 := hget i hil
      rw [hi] at h8
      injection h8 with h8
      have h5 := List.pairwise_iff_getElem.1 hE
      rcases Nat.lt_trichotomy i j with h6 | h6 | h6
      · have h7 := h5 i j hil h1 h6
        have e1 : E[i] = E.getD i 0 := by rw [List.getD_eq_getElem?_getD, List.getElem?_eq_getElem hil]; rfl
        have e2 : E[j] = E.getD j 0 := by rw [List.getD_eq_getElem?_getD, List.getElem?_eq_getElem h1]; rfl
        rw [e1, e2] at h7
        omega
      · subst h6; omega
      · have h7 := h3 i h6 hil
        have h9 := h5 j i h1 hil h6
        have e1 : E[i] = E.getD i 0 := by rw [List.getD_eq_getElem?_getD, List.getElem?_eq_getElem hil]; rfl
        have e2 : E[j] = E.getD j 0 := by rw [List.getD_eq_getElem?_getD, List.getElem?_eq_getElem h1]; rfl
        rw [e1, e2] at h9
        omega
    congr 1
    refine lastV_congr fun x hx => ?_
    obtain ⟨m1, m2⟩ := hm x hx
    have a1 := hle _ m1
    have a2 := hle _ m2
    unfold holdsR
    omega
/-- What the runs so far are, at the edge k, with the value at hand. -/
def RunsAt (E : List Nat) (V : Nat → Int) (k : Nat) (c : Int) (L : List (Nat × Int)) : Prop :=
  L.length ≤ k ∧ c = (if k = 0 then 0 else V (k - 1)) ∧ L.Pairwise (fun a b => a.1 < b.1) ∧ (∀ x ∈ L, ∃ j, j < k ∧ E[j]? = some x.1) ∧ ∀ r : Nat, runVal L r = evV E V k r
theorem RunsAt.zero (E : List Nat) (V : Nat → Int) : RunsAt E V 0 0 [] := ⟨Nat.le_refl _, rfl, .nil, fun _ h => (by cases h), fun _ => rfl⟩
theorem RunsAt.same {E : List Nat} {V : Nat → Int} {k : Nat} {c : Int} {L : List (Nat × Int)} (h : RunsAt E V k c L) (hE : E.Pairwise (· < ·)) (hk : k < E.length) (hc : V k = c) : RunsAt E V (k + 1) c L := by
  obtain ⟨h1, h2, h3, h4, h5⟩ := h
  refine ⟨by omega, by rw [if_neg (by omega)]; exact hc.symm, h3, fun x hx => ?_, fun r => ?_⟩
  · obtain ⟨j, hj, he⟩ := h4 x hx
    exact ⟨j, by omega, he⟩
  · rw [h5 r]
    show _ = (if E.getD k 0 ≤ r then V k else evV E V k r)
    by_cases hr : E.getD k 0 ≤ r
    · rw [if_pos hr, hc, h2]
      cases k with
      | zero => rfl
      | succ k =>
        rw [if_neg (by omega)]
        show (if E.getD k 0 ≤ r then V k else evV E V k r) = _
        have h7 := (List.pairwise_iff_getElem.1 hE) k (k + 1) (by omega) hk (by omega)
        rw [List.getD_eq_getElem?_getD, List.getElem?_eq_getElem hk] at hr
        rw [List.getD_eq_getElem?_getD, List.getElem?_eq_getElem (show k < E.length by omega)]
        simp only [Option.getD_some] at hr ⊢
        rw [if_pos (by omega)]
        rfl
    · rw [if_neg hr]
theorem RunsAt.more {E : List Nat} {V : Nat → Int} {k : Nat} {c : Int} {L : List (Nat × Int)} (h : RunsAt E V k c L) (hE : E.Pairwise (· < ·)) {e : Nat} (he : E[k]? = some e) : RunsAt E V (k + 1) (V k) (L ++ [(e, V k)]) := by
  obtain ⟨h1, h2, h3, h4, h5⟩ := h
  refine ⟨by rw [List.length_append]; simp; omega, by rw [if_neg (by omega)]; rfl, ?_, fun x hx => ?_, fun r => ?_⟩
  · rw [List.pairwise_append]
    refine ⟨h3, List.pairwise_singleton _ _, fun a ha b hb => ?_⟩
    obtain ⟨j, hj, hje⟩ := h4 a ha
    simp at hb
    subst hb
    have q1 := List.getElem?_eq_some_iff.1 hje
    have q2 := List.getElem?_eq_some_iff.1 he
    have h7 := (List.pairwise_iff_getElem.1 hE) j k q1.1 q2.1 hj
    rw [q1.2, q2.2] at h7
    exact h7
  · rcases List.mem_append.1 hx with hx | hx
    · obtain ⟨j, hj, hje⟩ := h4 x hx
      exact ⟨j, by omega, hje⟩
    · simp at hx
      subst hx
      exact ⟨k, by omega, he⟩
  · rw [runVal_snoc]
    show _ = (if E.getD k 0 ≤ r then V k else evV E V k r)
    have hg : E.getD k 0 = e := by rw [List.getD_eq_getElem?_getD, he]; rfl
    rw [hg, ← h5 r]
    by_cases hr : e ≤ r
    · rw [if_pos hr, if_pos (by simp only; omega)]
    · rw [if_neg hr, if_neg (by simp only; omega)]
/-- Runs that are read: pairs of where they begin and a value. -/
def encR2 (L : List (Nat × Int)) : List Value := L.flatMap fun x => [.int .i32 (x.1 : Nat), .int .i64 x.2]
theorem encR2_snoc (L : List (Nat × Int)) (x : Nat × Int) : encR2 (L ++ [x]) = encR2 L ++ [.int .i32 (x.1 : Nat), .int .i64 x.2] := by simp [encR2]
theorem encR2_len (L : List (Nat × Int)) : (encR2 L).length = 2 * L.length := by
  induction L with
  | nil => rfl
  | cons x t ih => simp [encR2] at ih ⊢; omega
theorem encR2_get (L : List (Nat × Int)) (i : Nat) (x : Nat × Int) (h : L[i]? = some x) : (encR2 L)[i * 2]? = some (.int .i32 (x.1 : Nat)) ∧ (encR2 L)[i * 2 + 1]? = some (.int .i64 x.2) := by
  induction L generalizing i with
  | nil => cases h
  | cons y t ih =>
    cases i with
    | zero =>
      simp at h
      subst h
      simp [encR2]
    | succ i =>
      simp at h
      have := ih i h
      have e : encR2 (y :: t) = [.int .i32 (y.1 : Nat), .int .i64 y.2] ++ encR2 t := by simp [encR2]
      rw [e, show (i + 1) * 2 = i * 2 + 2 by omega]
      refine ⟨?_, ?_⟩
      · rw [List.getElem?_append_right (by simp)]
        simpa using this.1
      · rw [List.getElem?_append_right (by simp)]
        have h9 := this.2
        simpa [show i * 2 + 2 + 1 - 2 = i * 2 + 1 by omega] using h9
/-- Runs of values that are read; none may lie nowhere. -/
def RunV (w : World) (v : Value) (l : List (Nat × Int)) : Prop :=
  ∃ ao cp, v = .slice ao l.length cp ∧ (l = [] ∨ ∃ g, ao = some ⟨g, 0, none⟩ ∧ ∀ (i : Nat) (x : Nat × Int), l[i]? = some x → w.cell? ⟨g, i * 2, none⟩ = some (.int .i32 (x.1 : Nat)) ∧ w.cell? ⟨g, i * 2 + 1, none⟩ = some (.int .i64 x.2))
theorem RunV.below {v : Value} {l : List (Nat × Int)} {A B : World} (h : RunV A v l) (hb : Below A.heap.size A B) : RunV B v l := by
  obtain ⟨ao, cp, rfl, h⟩ := h
  refine ⟨ao, cp, rfl, ?_⟩
  rcases h with h | ⟨g, e, h⟩
  · exact .inl h
  · exact .inr ⟨g, e, fun i r hr => ⟨(hb.cell (lt_of_cell (h i r hr).1)).trans (h i r hr).1, (hb.cell (lt_of_cell (h i r hr).2)).trans (h i r hr).2⟩⟩
/-- One's own runs are runs that are read. -/
theorem own_runv {Y : Nat → Prop} {v : Value} {l : List (Nat × Int)} {w : World} (h : OwnS Y 181 2 v l.length (encR2 l) w) : RunV w v l := by
  rcases h.shape with ⟨hv, h0⟩ | ⟨gb, cap, hv, hg, hgl⟩
  · exact ⟨none, 0, by rw [hv, h0], .inl (List.length_eq_zero_iff.1 h0)⟩
  · refine ⟨_, cap, hv, .inr ⟨gb, rfl, fun i r hr => ?_⟩⟩
    subst hv
    obtain ⟨e1, e2⟩ := encR2_get l i r hr
    exact ⟨h.atN e1, h.atN e2⟩
end Go.Proofs.YtdmimdiffjpjpaaGreatDoor
