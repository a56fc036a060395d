/- Parts of the proof of what the last text says. -/
import Derived.Test.YthhepebkfokddaaGreatDoorGy10
import Derived.Test.YthhepebkfokddaaGreatDoorGy5
import Derived.OrdersIn
import Derived.OwnWalkIn
/- props: runs of values: what the runs of edges say of each number. -/
namespace Go.Proofs.YthhepebkfokddaaGreatDoor
open Go Go.RowKit Go.Kt Go.Kt.Rg Go.Maps Go.Kt.Os Go.Sort

def runVal (L : List (Nat × Int)) (r : Int) : Int := L.foldl (fun a x => if (x.1 : Int) ≤ r then x.2 else a) 0
theorem runVal_snoc (L : List (Nat × Int)) (x : Nat × Int) (r : Int) : runVal (L ++ [x]) r = if (x.1 : Int) ≤ r then x.2 else runVal L r := by
  unfold runVal
  rw [List.foldl_append]
  rfl
theorem runVal_neg (L : List (Nat × Int)) (r : Int) (h : r < 0) : runVal L r = 0 := by
  unfold runVal
  have : ∀ (L : List (Nat × Int)) (a : Int), L.foldl (fun a x => if (x.1 : Int) ≤ r then x.2 else a) a = a := by
    intro L
    induction L with
    | nil => intro a; rfl
    | cons x t ih => intro a; rw [List.foldl_cons, if_neg (by omega)]; exact ih a
  exact this L 0
theorem runVal_at (L : List (Nat × Int)) (k : Nat) (r : Int) (hk : k ≤ L.length) (h1 : ∀ i x, L[i]? = some x → i < k → (x.1 : Int) ≤ r) (h2 : ∀ i x, L[i]? = some x → k ≤ i → r < (x.1 : Int)) :
    (k = 0 → runVal L r = 0) ∧ (∀ j x, k = j + 1 → L[j]? = some x → runVal L r = x.2) := by
  have key : ∀ (M : List (Nat × Int)) (a : Int), (∀ x ∈ M, r < (x.1 : Int)) → M.foldl (fun a x => if (x.1 : Int) ≤ r then x.2 else a) a = a := by
    intro M
    induction M with
    | nil => intro a _; rfl
    | cons x t ih =>
      intro a hM
      have h9 := hM x List.mem_cons_self
      rw [List.foldl_cons, if_neg (by omega)]
      exact ih a (fun y hy => hM y (List.mem_cons_of_mem _ hy))
  have hd : ∀ x ∈ L.drop k, r < (x.1 : Int) := fun x hx => by
    obtain ⟨i, hi⟩ := List.getElem?_of_mem hx
    rw [List.getElem?_drop] at hi
    exact h2 _ _ hi (by omega)
  have hs : runVal L r = runVal (L.take k) r := by
    conv => lhs; rw [← List.take_append_drop k L]
    unfold runVal
    rw [List.foldl_append]
    exact key _ _ hd
  refine ⟨fun e => ?_, fun j x e hj => ?_⟩
  · subst e
    rw [hs]; rfl
  · subst e
    have ht : L.take (j + 1) = L.take j ++ [x] := by rw [List.take_add_one, hj]; rfl
    rw [hs, ht, runVal_snoc, if_pos (h1 j x hj (by omega))]

def evV (E : List Nat) (V : Nat → Int) : Nat → Nat → Int
  | 0, _ => 0
  | k + 1, r => if E.getD k 0 ≤ r then V k else evV E V k r
theorem evV_spec (E : List Nat) (V : Nat → Int) (r : Nat) : ∀ k, ((∀ j, j < k → r < E.getD j 0) ∧ evV E V k r = 0) ∨ ∃ j, j < k ∧ E.getD j 0 ≤ r ∧ (∀ i, j < i → i < k → r < E.getD i 0) ∧ evV E V k r = V j
  | 0 => .inl ⟨fun j h => absurd h (by omega), rfl⟩
  | k + 1 => by
    unfold evV
    by_cases h : E.getD k 0 ≤ r
    · rw [if_pos h]
      exact .inr ⟨k, by omega, h, fun i h1 h2 => by omega, rfl⟩
    · rw [if_neg h]
      rcases evV_spec E V r k with ⟨h1, h2⟩ | ⟨j, h1, h2, h3, h4⟩
      · refine .inl ⟨fun j hj => ?_, h2⟩
        by_cases e : j = k
        · subst e; omega
        · exact h1 j (by omega)
      · refine .inr ⟨j, by omega, h2, fun i h5 h6 => ?_, h4⟩
        by_cases e : i = k
        · subst e; omega
        · exact h3 i h5 (by omega)
theorem lastV_congr {l : List Rw3} {a b : Nat} (h : ∀ x ∈ l, holdsR x a ↔ holdsR x b) : lastV l a = lastV l b := by
  induction l with
  | nil => rfl
  | cons x t ih =>
    unfold lastV
    rw [ih (fun y hy => h y (List.mem_cons_of_mem _ hy))]
    have h1 := h x List.mem_cons_self
    by_cases h2 : holdsR x a
    · rw [if_pos h2, if_pos (h1.1 h2)]
    · rw [if_neg h2, if_neg (fun h3 => h2 (h1.2 h3))]
theorem evV_all {E : List Nat} {rows : List Rw3} {P : Nat → Prop} {V : Nat → Int} (hT : ToldW E rows P V) (hE : E.Pairwise (· < ·)) (hm : ∀ x ∈ rows, x.1 ∈ E ∧ x.2.1 + 1 ∈ E) (r : Nat) : evV E V E.length r = (lastV rows r).getD 0 := by
  have hget : ∀ j, j < E.length → E[j]? = some (E.getD j 0) := fun j hj => by
    rw [List.getD_eq_getElem?_getD, List.getElem?_eq_getElem hj]; rfl
  rcases evV_spec E V r E.length with ⟨h1, h2⟩ | ⟨j, h1, h2, h3, h4⟩
  · rw [h2]
    have : lastV rows r = none := lastV_none.2 fun x hx hh => by
      obtain ⟨i, hi⟩ := List.getElem?_of_mem (hm x hx).1
      have hil := (List.getElem?_eq_some_iff.1 hi).1
      have h9 := h1 i hil
      have h8 := hget i hil
      rw [hi] at h8
      injection h8 with h8
      have := hh.1
      omega
    rw [this]; rfl
  · rw [h4, (hT j _ (hget j h1)).2]
    have hle : ∀ y ∈ E, (y ≤ r ↔ y ≤ E.getD j 0) := fun y hy => by
      obtain ⟨i, hi⟩ := List.getElem?_of_mem hy
      have hil := (List.getElem?_eq_some_iff.1 hi).1
      have h8 := hget i hil
      rw [hi] at h8
      injection h8 with h8
      have h5 := List.pairwise_iff_getElem.1 hE
      rcases Nat.lt_trichotomy i j with h6 | h6 | h6
      · have h7 := h5 i j hil h1 h6
        have e1 : E[i] = E.getD i 0 := by rw [List.getD_eq_getElem?_getD, List.getElem?_eq_getElem hil]; rfl
        have e2 : E[j] = E.getD j 0 := by rw [List.getD_eq_getElem?_getD, List.getElem?_eq_getElem h1]; rfl
        rw [e1, e2] at h7
        omega
      · subst h6; omega
      · have h7 := h3 i h6 hil
        have h9 := h5 j i h1 hil h6
        have e1 : E[i] = E.getD i 0 := by rw [List.getD_eq_getElem?_getD, List.getElem?_eq_getElem hil]; rfl
        have e2 : E[j] = E.getD j 0 := by rw [List.getD_eq_getElem?_getD, List.getElem?_eq_getElem h1]; rfl
        rw [e1, e2] at h9
        omega
    congr 1
    refine lastV_congr fun x hx => ?_
    obtain ⟨m1, m2⟩ := hm x hx
    have a1 := hle _ m1
    have a2 := hle _ m2
    unfold holdsR
    omega
def RunsAt (E : List Nat) (V : Nat → Int) (k : Nat) (c : Int) (L : List (Nat × Int)) : Prop :=
  L.length ≤ k ∧ c = (if k = 0 then 0 else V (k - 1)) ∧ L.Pairwise (fun a b => a.1 < b.1) ∧ (∀ x ∈ L, ∃ j, j < k ∧ E[j]? = some x.1) ∧ ∀ r : Nat, runVal L r = evV E V k r
theorem RunsAt.zero (E : List Nat) (V : Nat → Int) : RunsAt E V 0 0 [] := ⟨Nat.le_refl _, rfl, .nil, fun _ h => (by cases h), fun _ => rfl⟩
theorem RunsAt.same {E : List Nat} {V : Nat → Int} {k : Nat} {c : Int} {L : List (Nat × Int)} (h : RunsAt E V k c L) (hE : E.Pairwise (· < ·)) (hk : k < E.length) (hc : V k = c) : RunsAt E V (k + 1) c L := by
  obtain ⟨h1, h2, h3, h4, h5⟩ := h
  refine ⟨by omega, by rw [if_neg (by omega)]; exact hc.symm, h3, fun x hx => ?_, fun r => ?_⟩
  · obtain ⟨j, hj, he⟩ := h4 x hx
    exact ⟨j, by omega, he⟩
  · rw [h5 r]
    show _ = (if E.getD k 0 ≤ r then V k else evV E V k r)
    by_cases hr : E.getD k 0 ≤ r
    · rw [if_pos hr, hc, h2]
      cases k with
      | zero => rfl
      | succ k =>
        rw [if_neg (by omega)]
        show (if E.getD k 0 ≤ r then V k else evV E V k r) = _
        have h7 := (List.pairwise_iff_getElem.1 hE) k (k + 1) (by omega) hk (by omega)
        rw [List.getD_eq_getElem?_getD, List.getElem?_eq_getElem hk] at hr
        rw [List.getD_eq_getElem?_getD, List.getElem?_eq_getElem (show k < E.length by omega)]
        simp only [Option.getD_some] at hr ⊢
        rw [if_pos (by omega)]
        rfl
    · rw [if_neg hr]
theorem RunsAt.more {E : List Nat} {V : Nat → Int} {k : Nat} {c : Int} {L : List (Nat × Int)} (h : RunsAt E V k c L) (hE : E.Pairwise (· < ·)) {e : Nat} (he : E[k]? = some e) : RunsAt E V (k + 1) (V k) (L ++ [(e, V k)]) := by
  obtain ⟨h1, h2, h3, h4, h5⟩ := h
  refine ⟨by rw [List.length_append]; simp; omega, by rw [if_neg (by omega)]; rfl, ?_, fun x hx => ?_, fun r => ?_⟩
  · rw [List.pairwise_append]
    refine ⟨h3, List.pairwise_singleton _ _, fun a ha b hb => ?_⟩
    obtain ⟨j, hj, hje⟩ := h4 a ha
    simp at hb
    subst hb
    have q1 := List.getElem?_eq_some_iff.1 hje
    have q2 := List.getElem?_eq_some_iff.1 he
    have h7 := (List.pairwise_iff_getElem.1 hE) j k q1.1 q2.1 hj
    rw [q1.2, q2.2] at h7
    exact h7
  · rcases List.mem_append.1 hx with hx | hx
    · obtain ⟨j, hj, hje⟩ := h4 x hx
      exact ⟨j, by omega, hje⟩
    · simp at hx
      subst hx
      exact ⟨k, by omega, he⟩
  · rw [runVal_snoc]
    show _ = (if E.getD k 0 ≤ r then V k else evV E V k r)
    have hg : E.getD k 0 = e := by rw [List.getD_eq_getElem?_getD, he]; rfl
    rw [hg, ← h5 r]
    by_cases hr : e ≤ r
    · rw [if_pos hr, if_pos (by simp only; omega)]
    · rw [if_neg hr, if_neg (by simp only; omega)]
def encR2 (L : List (Nat × Int)) : List Value := L.flatMap fun x => [.int .i32 (x.1 : Nat), .int .i64 x.2]
theorem encR2_snoc (L : List (Nat × Int)) (x : Nat × Int) : encR2 (L ++ [x]) = encR2 L ++ [.int .i32 (x.1 : Nat), .int .i64 x.2] := by simp [encR2]
theorem encR2_get (L : List (Nat × Int)) (i : Nat) (x : Nat × Int) (h : L[i]? = some x) : (encR2 L)[i * 2]? = some (.int .i32 (x.1 : Nat)) ∧ (encR2 L)[i * 2 + 1]? = some (.int .i64 x.2) := by
  induction L generalizing i with
  | nil => cases h
  | cons y t ih =>
    cases i with
    | zero =>
      simp at h
      subst h
      simp [encR2]
    | succ i =>
      simp at h
      have := ih i h
      have e : encR2 (y :: t) = [.int .i32 (y.1 : Nat), .int .i64 y.2] ++ encR2 t := by simp [encR2]
      rw [e, show (i + 1) * 2 = i * 2 + 2 by omega]
      refine ⟨?_, ?_⟩
      · rw [List.getElem?_append_right (by simp)]
        simpa using this.1
      · rw [List.getElem?_append_right (by simp)]
        have h9 := this.2
        simpa [show i * 2 + 2 + 1 - 2 = i * 2 + 1 by omega] using h9
def RunV (w : World) (v : Value) (l : List (Nat × Int)) : Prop :=
  ∃ ao cp, v = .slice ao l.length cp ∧ (l = [] ∨ ∃ g, ao = some ⟨g, 0, none⟩ ∧ ∀ (i : Nat) (x : Nat × Int), l[i]? = some x → w.cell? ⟨g, i * 2, none⟩ = some (.int .i32 (x.1 : Nat)) ∧ w.cell? ⟨g, i * 2 + 1, none⟩ = some (.int .i64 x.2))
theorem RunV.below {v : Value} {l : List (Nat × Int)} {A B : World} (h : RunV A v l) (hb : Below A.heap.size A B) : RunV B v l := by
  obtain ⟨ao, cp, rfl, h⟩ := h
  refine ⟨ao, cp, rfl, ?_⟩
  rcases h with h | ⟨g, e, h⟩
  · exact .inl h
  · exact .inr ⟨g, e, fun i r hr => ⟨(hb.cell (lt_of_cell (h i r hr).1)).trans (h i r hr).1, (hb.cell (lt_of_cell (h i r hr).2)).trans (h i r hr).2⟩⟩
theorem own_runv {Y : Nat → Prop} {v : Value} {l : List (Nat × Int)} {w : World} (h : OwnS Y 146 2 v l.length (encR2 l) w) : RunV w v l := by
  rcases h.shape with ⟨hv, h0⟩ | ⟨gb, cap, hv, hg, hgl⟩
  · exact ⟨none, 0, by rw [hv, h0], .inl (List.length_eq_zero_iff.1 h0)⟩
  · refine ⟨_, cap, hv, .inr ⟨gb, rfl, fun i r hr => ?_⟩⟩
    subst hv
    obtain ⟨e1, e2⟩ := encR2_get l i r hr
    exact ⟨h.atN e1, h.atN e2⟩
end Go.Proofs.YthhepebkfokddaaGreatDoor
/- What is the same of any program: a drawn region without calls inside a fence, in a round too, operation by operation: K12 so. -/
namespace Go.Kt
open Go

section
variable {F : Fence} {n : Nat} {P : Program} {ops : Array Oper} {Q : Exit → Act → World → Prop} {md : Region.Mode}
theorem wpIn_value {o : Oper} {a : Act} {w w' : World} {v : Value} {K : Act → World → Prop} (hc : ∀ c, o.op ≠ .call c ∧ o.op ≠ .defer c) (h : (execOp a.eval o).run P w = .ok (.value v) w') (hK : K (a.put o.dst v) w') : o.wpIn F n P a w K Q := by
  unfold Oper.wpIn
  refine ⟨fun f hf => ?_, ?_⟩
  · unfold Oper.about at hf
    split at hf
    · rename_i c e; exact absurd e (hc c).1
    · cases hf
  · rw [Oper.semAt_plain F _ _ (fun c => (hc c).2), h]
    exact hK
theorem wpAnyIn_inv (I : Array Bool → Act → World → Prop)
    (step : ∀ listed a w i, I listed a w → i ∈ Region.ready md ops listed → wpOpIn F n P ops Q i (I (listed.setIfInBounds i true)) a w)
    (done : ∀ listed a w, I listed a w → Region.ready md ops listed = [] → Q .normal a w) :
    ∀ fuel listed a w, unlisted listed ops.size ≤ fuel → I listed a w → wpAnyIn F n P md ops Q fuel listed a w := by
  intro fuel
  induction fuel with
  | zero =>
    intro listed a w hf hI
    have hr : Region.ready md ops listed = [] := by
      rcases List.eq_nil_or_concat (Region.ready md ops listed) with h | ⟨l, i, h⟩
      · exact h
      · have hi : i ∈ Region.ready md ops listed := by rw [h]; simp
        obtain ⟨h1, o, ho, _⟩ := mem_ready.1 hi
        have hm : i ∈ (List.range ops.size).filter fun i => !listed.getD i true := by
          rw [List.mem_filter]
          exact ⟨List.mem_range.2 (Array.getElem?_eq_some_iff.1 ho).1, by rw [h1]; rfl⟩
        have := List.length_pos_of_mem hm
        unfold unlisted at hf
        omega
    exact ⟨hr, done _ _ _ hI hr⟩
  | succ fuel ih =>
    intro listed a w hf hI
    refine ⟨done _ _ _ hI, fun i hi => ?_⟩
    obtain ⟨h1, o, ho, _⟩ := mem_ready.1 hi
    have hlt := filter_set_lt listed i h1 (List.range ops.size) (List.mem_range.2 (Array.getElem?_eq_some_iff.1 ho).1)
    refine wpOpIn_mono (fun a' w' h' => ih _ a' w' ?_ h') (step listed a w i hI hi)
    unfold unlisted at hf ⊢
    omega

def DInStep (F : Fence) (n : Nat) (P : Program) (md : Region.Mode) (ops : Array Oper) (Q : Exit → Act → World → Prop) (S : (Nat → Bool) → World → Prop) (p : Nat → Value → World → Prop) (a0 : Act) (i : Nat) (o : Oper) : Prop :=
  ∀ (D : Nat → Bool) a w, D i = false → (∀ j, awaits md ops j i = true → D j = false) → (∀ j, waitsB md o j = true → D j = true) → S D w → Like ops a0 a → (∀ j k, waitsB md o j = true → slotB ops j k = true → p j (a.tmps.getD k undef) w) →
    Region.wanted o (yielded ops a.tmps) = true ∧ o.wpIn F n P a w (fun a' w' => ∃ v, a' = a.put o.dst v ∧ S (fun j => D j || j == i) w' ∧ (∀ j u, D j = true → p j u w → p j u w') ∧ p i v w') Q
def DInSteps (F : Fence) (n : Nat) (P : Program) (md : Region.Mode) (ops : Array Oper) (Q : Exit → Act → World → Prop) (S : (Nat → Bool) → World → Prop) (p : Nat → Value → World → Prop) (a0 : Act) : Nat → List Oper → Prop
  | _, [] => True
  | i, o :: r => DInStep F n P md ops Q S p a0 i o ∧ DInSteps F n P md ops Q S p a0 (i + 1) r
theorem DInSteps.get {S : (Nat → Bool) → World → Prop} {p : Nat → Value → World → Prop} {a0 : Act} : ∀ (l : List Oper) (i : Nat), DInSteps F n P md ops Q S p a0 i l → ∀ j o, l[j]? = some o → DInStep F n P md ops Q S p a0 (i + j) o
  | [], _, _, j, o, h => by simp at h
  | x :: r, i, hs, 0, o, h => by simp at h; subst h; exact hs.1
  | x :: r, i, hs, j + 1, o, h => by
    have := DInSteps.get r (i + 1) hs.2 j o (by simpa using h)
    rw [show i + (j + 1) = i + 1 + j by omega]; exact this
theorem DInSteps.cons {S : (Nat → Bool) → World → Prop} {p : Nat → Value → World → Prop} {a0 : Act} {i : Nat} {o : Oper} {r : List Oper} (h : DInStep F n P md ops Q S p a0 i o) (hr : DInSteps F n P md ops Q S p a0 (i + 1) r) : DInSteps F n P md ops Q S p a0 i (o :: r) := ⟨h, hr⟩
theorem DInSteps.nil {S : (Nat → Bool) → World → Prop} {p : Nat → Value → World → Prop} {a0 : Act} {i : Nat} : DInSteps F n P md ops Q S p a0 i [] := trivial

theorem wpIn_region_done {id : Nat} {a0 : Act} {w0 : World} (S : (Nat → Bool) → World → Prop) (p : Nat → Value → World → Prop) (hm : P.follows .mixedOrders = true) (hap : apartB ops a0.tmps.size = true) (hfw : forwardB .any ops = true)
    (hS : S (fun _ => false) w0.drew) (hs : DInSteps F n P .any ops Q S p a0 0 ops.toList)
    (hd : ∀ D a w, (∀ j, j < ops.size → D j = true) → S D w → Like ops a0 a → (∀ j k, slotB ops j k = true → p j (a.tmps.getD k undef) w) → (∀ j, j < ops.size → ∃ v, p j v w) → Q .normal a w) : (Code.region id ops true).wpIn F n P Q a0 w0 := by
  have hdst : ∀ (i : Nat) (o : Oper) (k : Nat), ops[i]? = some o → o.dst = some k → k < a0.tmps.size ∧ ∀ (j : Nat) (oj : Oper), ops[j]? = some oj → oj.dst = some k → i = j := by
    intro i o k ho hk
    have hi := (Array.getElem?_eq_some_iff.1 ho).1
    have h1 := List.all_eq_true.1 hap i (List.mem_range.2 hi)
    have h2 : ops.getD i default = o := by simp [Array.getD_eq_getD_getElem?, ho]
    rw [h2, hk] at h1
    simp only [Bool.and_eq_true, decide_eq_true_eq] at h1
    refine ⟨h1.1, fun j oj hj hjk => ?_⟩
    have hj' := (Array.getElem?_eq_some_iff.1 hj).1
    have h3 := List.all_eq_true.1 h1.2 j (List.mem_range.2 hj')
    have h4 : ops.getD j default = oj := by simp [Array.getD_eq_getD_getElem?, hj]
    rw [h4, hjk] at h3
    simpa using h3
  refine wpIn_region_any hm ?_
  refine wpAnyIn_inv (fun listed a w => listed.size = ops.size ∧ S (fun j => listed.getD j false) w ∧ (∀ j k, listed.getD j false = true → awaits .any ops j k = true → listed.getD k false = true) ∧ Like ops a0 a ∧ (∀ j, listed.getD j false = true → ∃ v, p j v w) ∧ ∀ j k, listed.getD j false = true → slotB ops j k = true → p j (a.tmps.getD k undef) w) ?_ ?_ _ _ _ _ ?_ ⟨by simp, by rw [show (fun j => (Array.replicate ops.size false).getD j false) = fun _ => false from funext fun j => by simp only [Array.getD_eq_getD_getElem?, Array.getElem?_replicate]; split <;> rfl]; exact hS, ?_, ⟨rfl, rfl, fun _ _ => rfl⟩, ?_, ?_⟩
  · rintro listed a w i ⟨hz, hSw, hC, hL, hE, hP⟩ hi
    obtain ⟨hjun, o, ho, hall⟩ := mem_ready.1 hi
    have hilt := (Array.getElem?_eq_some_iff.1 ho).1
    have hin : listed.getD i false = false := by
      have hi2 : i < listed.size := by omega
      simpa [Array.getD_eq_getD_getElem?, hi2] using hjun
    have hw8 : ∀ j, waitsB .any o j = true → listed.getD j false = true := fun j hj => by
      unfold waitsB at hj
      obtain ⟨e, he, h2⟩ := Array.any_eq_true'.1 hj
      simp only [Bool.and_eq_true, beq_iff_eq] at h2
      have := hall e he h2.2
      rw [h2.1] at this
      exact this
    have hst := DInSteps.get ops.toList 0 hs i o (by simpa using ho)
    rw [Nat.zero_add] at hst
    obtain ⟨hw, hx⟩ := hst (fun j => listed.getD j false) a w hin (fun j hj => by
      cases hl : listed.getD j false with
      | false => rfl
      | true => have := hC j i hl hj; rw [hin] at this; cases this) hw8 hSw hL (fun j k hj hk => hP j k (hw8 j hj) hk)
    unfold wpOpIn
    simp only [ho, hw, if_true]
    refine Oper.wpIn_mono ?_ hx
    rintro a' w' ⟨v, rfl, hS', hR', hpv⟩
    refine ⟨by simpa using hz, by rw [set_done listed i (by omega)]; exact hS', ?_, ⟨?_, ?_, fun k hk => ?_⟩, fun j hj => ?_, fun j k hj hk => ?_⟩
    · intro j k hj hk
      have hd1 := congrFun (set_done listed i (by omega))
      rw [hd1] at hj ⊢
      rw [Bool.or_eq_true] at hj ⊢
      left
      rcases hj with hj | hj
      · exact hC j k hj hk
      · have : j = i := by simpa using hj
        subst this
        unfold awaits at hk
        rw [ho] at hk
        exact hw8 k hk
    · cases h : o.dst <;> exact hL.defers
    · cases h : o.dst
      · exact hL.size
      · simp only [Act.put, Array.size_setIfInBounds]; exact hL.size
    · cases h : o.dst with
      | none => exact hL.far k hk
      | some d =>
        have hne : d ≠ k := fun e => by
          subst e
          unfold outside at hk
          have := Array.all_eq_true.1 hk i hilt
          rw [(Array.getElem?_eq_some_iff.1 ho).2, h] at this
          simp at this
        simp only [Act.put, Array.getD_eq_getD_getElem?, Array.getElem?_setIfInBounds, if_neg hne]
        have := hL.far k hk
        simpa only [Array.getD_eq_getD_getElem?] using this
    · by_cases hji : j = i
      · subst hji; exact ⟨v, hpv⟩
      · have hjl : listed.getD j false = true := by
          simp only [Array.getD_eq_getD_getElem?, Array.getElem?_setIfInBounds, if_neg (Ne.symm hji)] at hj ⊢
          exact hj
        obtain ⟨u, hu⟩ := hE j hjl
        exact ⟨u, hR' j _ hjl hu⟩
    · obtain ⟨oj, hoj, hjk⟩ : ∃ oj, ops[j]? = some oj ∧ oj.dst = some k := by
        unfold slotB at hk
        cases h : ops[j]? with
        | none => rw [h] at hk; cases hk
        | some oj => rw [h] at hk; exact ⟨oj, rfl, by simpa using hk⟩
      by_cases hji : j = i
      · subst hji
        rw [hoj] at ho
        cases ho
        have hkz := (hdst j _ k hoj hjk).1
        rw [hjk]
        have : (a.put (some k) v).tmps.getD k undef = v := by
          have : k < a.tmps.size := by rw [hL.size]; exact hkz
          simp [Act.put, Array.getD_eq_getD_getElem?, this]
        rw [this]
        exact hpv
      · have hjl : listed.getD j false = true := by
          simp only [Array.getD_eq_getD_getElem?, Array.getElem?_setIfInBounds, if_neg (Ne.symm hji)] at hj ⊢
          exact hj
        have h1 := hR' j _ hjl (hP j k hjl hk)
        cases h : o.dst with
        | none => exact h1
        | some d =>
          have hne : d ≠ k := fun e => by
            subst e
            exact hji ((hdst i o d ho h).2 j oj hoj hjk).symm
          simp only [Act.put, Array.getD_eq_getD_getElem?, Array.getElem?_setIfInBounds, if_neg hne] at h1 ⊢
          exact h1
  · rintro listed a w ⟨hz, hSw, hC, hL, hE, hP⟩ hr
    have hall : ∀ n j, j < n → j < ops.size → listed.getD j false = true := by
      intro n
      induction n with
      | zero => intro j h; omega
      | succ n ih =>
        intro j hjn hj
        cases hl : listed.getD j true with
        | true =>
          have : j < listed.size := by omega
          simpa [Array.getD_eq_getD_getElem?, this] using hl
        | false =>
          exfalso
          have hmem : j ∈ Region.ready .any ops listed := mem_ready.2 ⟨hl, ops[j], by simp [hj], fun e he hb => by
            have h1 := List.all_eq_true.1 hfw j (List.mem_range.2 hj)
            have h2 : ops.getD j default = ops[j] := by simp [Array.getD_eq_getD_getElem?, hj]
            rw [h2] at h1
            have h3 := Array.all_eq_true_iff_forall_mem.1 h1 e he
            rw [hb] at h3
            simp at h3
            exact ih e.on (by omega) (by omega)⟩
          rw [hr] at hmem
          cases hmem
    refine hd _ a w (fun j hj => hall (j + 1) j (by omega) hj) hSw hL (fun j k hk => hP j k (hall (j + 1) j (by omega) ?_) hk) (fun j hj => hE j (hall (j + 1) j (by omega) hj))
    unfold slotB at hk
    cases h : ops[j]? with
    | none => rw [h] at hk; cases hk
    | some oj => exact (Array.getElem?_eq_some_iff.1 h).1
  · unfold unlisted
    exact Nat.le_trans (List.length_filter_le _ _) (by simp)
  · intro j k hj
    simp only [Array.getD_eq_getD_getElem?, Array.getElem?_replicate] at hj
    split at hj <;> simp at hj
  · intro j hj
    simp only [Array.getD_eq_getD_getElem?, Array.getElem?_replicate] at hj
    split at hj <;> simp at hj
  · intro j k hj
    simp only [Array.getD_eq_getD_getElem?, Array.getElem?_replicate] at hj
    split at hj <;> simp at hj
end
def RoS (w : World) (_ : Nat → Bool) (X : World) : Prop := X = w
def RoP (val : Nat → Option Value) (i : Nat) (v : Value) (_ : World) : Prop := ∀ u, val i = some u → v = u
theorem RoP.mk {val : Nat → Option Value} {i : Nat} {v : Value} {X : World} (e : val i = some v) : RoP val i v X := fun u h => by rw [e] at h; exact Option.some.inj h
end Go.Kt
