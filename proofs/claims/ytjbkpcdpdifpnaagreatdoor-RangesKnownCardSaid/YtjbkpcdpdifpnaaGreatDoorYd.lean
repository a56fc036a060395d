/- The answers of both Ofs by number and place; values of sets in memory. -/
import Derived.Test.YtjbkpcdpdifpnaaGreatDoorYc
import Derived.Test.YtjbkpcdpdifpnaaGreatDoorRx
import Derived.Test.YtjbkpcdpdifpnaaGreatDoorCk9
namespace Go.Proofs.YtjbkpcdpdifpnaaGreatDoor
open Go Go.RowKit Go.Kt Go.Kt.Rg

def errN : Nat → List (Int × Int) → Int × Nat
  | _, [] => (0, 0)
  | i, x :: t => if badR x = 0 then errN (i + 1) t else (badR x, i)
theorem errN_spec : ∀ (l : List (Int × Int)) (i : Nat), ((errN i l).1 = 0 ∧ (errN i l).2 = 0 ∧ ∀ x ∈ l, badR x = 0) ∨ (∃ (k : Nat) (x : Int × Int), errN i l = (badR x, i + k) ∧ badR x ≠ 0 ∧ l[k]? = some x ∧ ∀ j y, j < k → l[j]? = some y → badR y = 0)
  | [], _ => .inl ⟨rfl, rfl, fun x hx => by cases hx⟩
  | x :: t, i => by
    rw [errN]
    by_cases h : badR x = 0
    · rw [if_pos h]
      rcases errN_spec t (i + 1) with ⟨h1, h2, h3⟩ | ⟨k, y, h1, h2, h3, h4⟩
      · exact .inl ⟨h1, h2, fun y hy => by rcases List.mem_cons.1 hy with rfl | hy; exact h; exact h3 y hy⟩
      · refine .inr ⟨k + 1, y, by rw [h1]; congr 1; omega, h2, by simpa using h3, fun j z hj hz => ?_⟩
        cases j with
        | zero => simp at hz; subst hz; exact h
        | succ j => exact h4 j z (by omega) (by simpa using hz)
    · rw [if_neg h]
      exact .inr ⟨0, x, rfl, h, rfl, fun j y hj => by omega⟩
theorem badR_bd (x : Int × Int) : badR x = 0 ∨ badR x = 1 ∨ badR x = 8 := by
  unfold badR
  split
  · exact .inr (.inr rfl)
  · split
    · exact .inr (.inl rfl)
    · exact .inl rfl
theorem first_one {l : List (Int × Int)} {k k' : Nat} {x x' : Int × Int} (h1 : l[k]? = some x) (h2 : badR x ≠ 0) (h3 : ∀ j y, j < k → l[j]? = some y → badR y = 0) (g1 : l[k']? = some x') (g2 : badR x' ≠ 0) (g3 : ∀ j y, j < k' → l[j]? = some y → badR y = 0) : k = k' ∧ x = x' := by
  rcases Nat.lt_trichotomy k k' with h | h | h
  · exact absurd (g3 k x h h1) h2
  · subst h; rw [h1] at g1; exact ⟨rfl, Option.some.inj g1⟩
  · exact absurd (h3 k' x' h g1) g2
def OfE (l : List (Int × Int)) (p ev : Value) (no aT : Int) (W : World) : Prop :=
  (no = 0 ∧ aT = 0 ∧ ev = .nilIface ∧ (∀ x ∈ l, badR x = 0) ∧ ∃ b, p = ptrV b ∧ SetAt (canonOf (numsR l)) b W) ∨ (no ≠ 0 ∧ p = .pointer none ∧ ev = faultV no aT ∧ 1 ≤ no ∧ no ≤ 25)
theorem OfE.below {l : List (Int × Int)} {p ev : Value} {no aT : Int} {A B : World} (h : OfE l p ev no aT A) (hb : Below A.heap.size A B) : OfE l p ev no aT B := by
  rcases h with ⟨h1, h2, h3, h4, b, h5, h6⟩ | h
  · exact .inl ⟨h1, h2, h3, h4, b, h5, h6.below hb⟩
  · exact .inr h
theorem rof_e (l : List (Int × Int)) (v : Value) (w : World) (h : SpG w v l) (hT : PTab w) (hl : l.length ≤ 2199023255552) (hr : Runy l) :
    Calls Tryz.prog 15 #[v] w fun e w' => ∃ p ev, e = .returned (.tuple #[p, ev]) ∧ OfE l p ev (errN 0 l).1 (errN 0 l).2 w' ∧ Below w.heap.size w w' := by
  refine (rof_any l v w h hT hl hr).mono ?_
  rintro e w' ⟨hh, hb⟩
  rcases hh with ⟨k, x, h1, h2, h3, rfl⟩ | ⟨h1, b, rfl, hs⟩
  · refine ⟨_, _, rfl, .inr ?_, hb⟩
    rcases errN_spec l 0 with ⟨g1, _, g3⟩ | ⟨k', x', g1, g2, g3, g4⟩
    · exact absurd (g3 x (List.mem_of_getElem? h1)) h2
    · obtain ⟨rfl, rfl⟩ := first_one h1 h2 h3 g3 g2 g4
      rw [g1]
      have := badR_bd x
      exact ⟨h2, rfl, by simp, by simp only; omega, by simp only; omega⟩
  · refine ⟨_, _, rfl, .inl ?_, hb⟩
    rcases errN_spec l 0 with ⟨g1, g2, g3⟩ | ⟨k', x', g1, g2, g3, g4⟩
    · exact ⟨g1, by rw [g2]; rfl, rfl, h1, b, rfl, hs⟩
    · exact absurd (h1 x' (List.mem_of_getElem? g3)) g2
theorem xof_e (l : List (Int × Int)) (v : Value) (w : World) (h : SpA w v l) (hl : l.length ≤ 2199023255552) (hr : Runy l) :
    Calls Tryz.prog 17 #[v] w fun e w' => ∃ ao n c, e = .returned (.tuple #[.agg #[.slice ao n c], .int .i64 (errN 0 l).1, .int .i64 ((errN 0 l).2 : Nat)]) ∧ ((errN 0 l).1 = 0 → SlR w' (.slice ao n c) ((canonOf (numsR l)).map dnR)) ∧ Below w.heap.size w w' := by
  refine (xof_any l v w h hl hr).mono ?_
  rintro e w' ⟨hh, hb⟩
  rcases hh with ⟨k, x, h1, h2, h3, rfl⟩ | ⟨h1, v, rfl, hs⟩
  · refine ⟨none, 0, 0, ?_, ?_, hb⟩
    · rcases errN_spec l 0 with ⟨g1, _, g3⟩ | ⟨k', x', g1, g2, g3, g4⟩
      · exact absurd (g3 x (List.mem_of_getElem? h1)) h2
      · obtain ⟨rfl, rfl⟩ := first_one h1 h2 h3 g3 g2 g4
        rw [g1]
        simp
    · rcases errN_spec l 0 with ⟨g1, _, g3⟩ | ⟨k', x', g1, g2, g3, g4⟩
      · exact absurd (g3 x (List.mem_of_getElem? h1)) h2
      · rw [g1]
        exact fun e => absurd e g2
  · obtain ⟨av, cv, rfl, _⟩ := slr_at hs
    refine ⟨_, _, _, ?_, fun _ => hs, hb⟩
    rcases errN_spec l 0 with ⟨g1, g2, g3⟩ | ⟨k', x', g1, g2, g3, g4⟩
    · rw [g1, g2]; rfl
    · exact absurd (h1 x' (List.mem_of_getElem? g3)) g2
theorem told_e (l : List (Int × Int)) (p ev : Value) (no aT : Int) (A w : World) (h : OfE l p ev no aT A) (hE : ErrT w) :
    Calls Tryz.prog 18 #[ev, .int .i64 no, .int .i64 aT] w fun e w' => e = .returned (.bool true) ∧ Below w.heap.size w w' := by
  rcases h with ⟨rfl, rfl, rfl, _⟩ | ⟨_, _, rfl, h1, h2⟩
  · exact told_ok 0 w
  · exact told_fault no aT w h1 h2 hE

def SetP (R : List Run) (v : Value) (W : World) : Prop := ∃ b, v = ptrV b ∧ SetAt R b W
def SlP (R : List Run) (v : Value) (W : World) : Prop := ∃ s, v = .agg #[s] ∧ SlR W s (R.map dnR)
theorem SetP.below {R : List Run} {v : Value} {A B : World} (h : SetP R v A) (hb : Below A.heap.size A B) : SetP R v B := by
  obtain ⟨b, e, h⟩ := h
  exact ⟨b, e, h.below hb⟩
theorem SlP.below {R : List Run} {v : Value} {A B : World} (h : SlP R v A) (hb : Below A.heap.size A B) : SlP R v B := by
  obtain ⟨b, e, h⟩ := h
  exact ⟨b, e, h.below hb⟩
theorem is_p (R : List Run) (v1 v2 av : Value) (ask : List Int) (w : World) (hE : REnv w) (hs : SetP R v1 w) (hc : Canon R) (hv : SlP R v2 w) (ha : Slg .i32 w av ask) (hr : ∀ x ∈ ask, -2147483648 ≤ x ∧ x ≤ 2147483647) (hm : ask.length ≤ 4611686018427387904) :
    Calls Tryz.prog 19 #[v1, v2, av] w fun e w' => e = .returned (.bool true) ∧ Below w.heap.size w w' := by
  obtain ⟨b, rfl, hs⟩ := hs
  obtain ⟨s, rfl, hv⟩ := hv
  exact is_any R b s av ask w hE hs hc hv ha hr hm
theorem join_p (R Q : List Run) (b c : Nat) (w : World) (h : SetAt R b w) (k : SetAt Q c w) (hR : Canon R) (hQ : Canon Q) :
    Calls Tryz.prog 31 #[ptrV b, ptrV c] w fun e w' => ∃ v, e = .returned v ∧ SetP (joinL R Q) v w' ∧ Below w.heap.size w w' := by
  refine (rjoin_any R Q b c w h k hR hQ).mono ?_
  rintro e w' ⟨d, rfl, hs, hb⟩
  exact ⟨_, rfl, ⟨d, rfl, hs⟩, hb⟩
theorem xjoin_p (R Q : List Run) (s t : Value) (w : World) (h : SlR w s (R.map dnR)) (k : SlR w t (Q.map dnR)) (hR : Canon R) (hQ : Canon Q) :
    Calls Tryz.prog 32 #[.agg #[s], .agg #[t]] w fun e w' => ∃ v, e = .returned v ∧ SlP (joinL R Q) v w' ∧ Below w.heap.size w w' := by
  refine (xjoin_any R Q s t w h k hR hQ).mono ?_
  rintro e w' ⟨d, rfl, hs, hb⟩
  rw [made_join hR hQ] at hs
  exact ⟨_, rfl, ⟨d, rfl, hs⟩, hb⟩
theorem both_p (R Q : List Run) (b c : Nat) (w : World) (h : SetAt R b w) (k : SetAt Q c w) (hR : Canon R) (hQ : Canon Q) :
    Calls Tryz.prog 33 #[ptrV b, ptrV c] w fun e w' => ∃ v, e = .returned v ∧ SetP (bothL R Q) v w' ∧ Below w.heap.size w w' := by
  refine (rboth_any R Q b c w h k hR hQ).mono ?_
  rintro e w' ⟨d, rfl, hs, hb⟩
  exact ⟨_, rfl, ⟨d, rfl, hs⟩, hb⟩
theorem xboth_p (R Q : List Run) (s t : Value) (w : World) (h : SlR w s (R.map dnR)) (k : SlR w t (Q.map dnR)) (hR : Canon R) (hQ : Canon Q) :
    Calls Tryz.prog 34 #[.agg #[s], .agg #[t]] w fun e w' => ∃ v, e = .returned v ∧ SlP (bothL R Q) v w' ∧ Below w.heap.size w w' := by
  refine (xboth_any R Q s t w h k hR hQ).mono ?_
  rintro e w' ⟨d, rfl, hs, hb⟩
  rw [made_both hR hQ] at hs
  exact ⟨_, rfl, ⟨d, rfl, hs⟩, hb⟩
theorem less_p (R Q : List Run) (b c : Nat) (w : World) (h : SetAt R b w) (k : SetAt Q c w) (hR : Canon R) (hQ : Canon Q) :
    Calls Tryz.prog 35 #[ptrV b, ptrV c] w fun e w' => ∃ v, e = .returned v ∧ SetP (lessL R Q) v w' ∧ Below w.heap.size w w' := by
  refine (rless_any R Q b c w h k hR hQ).mono ?_
  rintro e w' ⟨d, rfl, hs, hb⟩
  exact ⟨_, rfl, ⟨d, rfl, hs⟩, hb⟩
theorem xless_p (R Q : List Run) (s t : Value) (w : World) (h : SlR w s (R.map dnR)) (k : SlR w t (Q.map dnR)) (hR : Canon R) (hQ : Canon Q) :
    Calls Tryz.prog 36 #[.agg #[s], .agg #[t]] w fun e w' => ∃ v, e = .returned v ∧ SlP (lessL R Q) v w' ∧ Below w.heap.size w w' := by
  refine (xless_any R Q s t w h k hR hQ).mono ?_
  rintro e w' ⟨d, rfl, hs, hb⟩
  rw [made_less hR hQ] at hs
  exact ⟨_, rfl, ⟨d, rfl, hs⟩, hb⟩
theorem not_p (R : List Run) (b : Nat) (w : World) (h : SetAt R b w) (hR : Canon R) :
    Calls Tryz.prog 37 #[ptrV b] w fun e w' => ∃ v, e = .returned v ∧ SetP (notL 0 R) v w' ∧ Below w.heap.size w w' := by
  refine (rnot_any R b w h hR).mono ?_
  rintro e w' ⟨d, rfl, hs, hb⟩
  exact ⟨_, rfl, ⟨d, rfl, hs⟩, hb⟩
theorem xnot_p (R : List Run) (s : Value) (w : World) (h : SlR w s (R.map dnR)) (hR : Canon R) :
    Calls Tryz.prog 38 #[.agg #[s]] w fun e w' => ∃ v, e = .returned v ∧ SlP (notL 0 R) v w' ∧ Below w.heap.size w w' := by
  refine (xnot_any R s w h hR).mono ?_
  rintro e w' ⟨d, rfl, hs, hb⟩
  rw [made_not hR hR] at hs
  exact ⟨_, rfl, ⟨d, rfl, hs⟩, hb⟩
end Go.Proofs.YtjbkpcdpdifpnaaGreatDoor
