/- Parts of the proof of what the last text says. -/
import Derived.Test.YtcfhblbmpbfoaaaGreatDoorGv3
import Derived.Test.YtcfhblbmpbfoaaaGreatDoorGv4
import Derived.Laws.IdiomCopy
namespace Go.Kt
open Go

section
variable {P : Program} {ops : Array Oper} {Q : Exit → Act → World → Prop} {md : Region.Mode}

def awaits (md : Region.Mode) (ops : Array Oper) (j i : Nat) : Bool := match ops[j]? with | some o => waitsB md o i | none => false
def DStep (P : Program) (md : Region.Mode) (ops : Array Oper) (Q : Exit → Act → World → Prop) (S : (Nat → Bool) → World → Prop) (p : Nat → Value → World → Prop) (a0 : Act) (i : Nat) (o : Oper) : Prop :=
  ∀ (D : Nat → Bool) a w, D i = false → (∀ j, awaits md ops j i = true → D j = false) → (∀ j, waitsB md o j = true → D j = true) → S D w → Like ops a0 a → (∀ j k, waitsB md o j = true → slotB ops j k = true → p j (a.tmps.getD k undef) w) →
    Region.wanted o (yielded ops a.tmps) = true ∧ o.wp P a w (fun a' w' => ∃ v, a' = a.put o.dst v ∧ S (fun j => D j || j == i) w' ∧ (∀ j u, D j = true → p j u w → p j u w') ∧ p i v w') Q
def DSteps (P : Program) (md : Region.Mode) (ops : Array Oper) (Q : Exit → Act → World → Prop) (S : (Nat → Bool) → World → Prop) (p : Nat → Value → World → Prop) (a0 : Act) : Nat → List Oper → Prop
  | _, [] => True
  | i, o :: r => DStep P md ops Q S p a0 i o ∧ DSteps P md ops Q S p a0 (i + 1) r
theorem DSteps.get {S : (Nat → Bool) → World → Prop} {p : Nat → Value → World → Prop} {a0 : Act} : ∀ (l : List Oper) (i : Nat), DSteps P md ops Q S p a0 i l → ∀ j o, l[j]? = some o → DStep P md ops Q S p a0 (i + j) o
  | [], _, _, j, o, h => by simp at h
  | x :: r, i, hs, 0, o, h => by simp at h; subst h; exact hs.1
  | x :: r, i, hs, j + 1, o, h => by
    have := DSteps.get r (i + 1) hs.2 j o (by simpa using h)
    rw [show i + (j + 1) = i + 1 + j by omega]; exact this
theorem DSteps.cons {S : (Nat → Bool) → World → Prop} {p : Nat → Value → World → Prop} {a0 : Act} {i : Nat} {o : Oper} {r : List Oper} (h : DStep P md ops Q S p a0 i o) (hr : DSteps P md ops Q S p a0 (i + 1) r) : DSteps P md ops Q S p a0 i (o :: r) := ⟨h, hr⟩
theorem DSteps.nil {S : (Nat → Bool) → World → Prop} {p : Nat → Value → World → Prop} {a0 : Act} {i : Nat} : DSteps P md ops Q S p a0 i [] := trivial

theorem set_done (listed : Array Bool) (i : Nat) (hi : i < listed.size) : (fun j => (listed.setIfInBounds i true).getD j false) = fun j => listed.getD j false || j == i := by
  funext j
  simp only [Array.getD_eq_getD_getElem?, Array.getElem?_setIfInBounds]
  by_cases h : i = j
  · subst h; simp [hi]
  · rw [if_neg h]
    have : (j == i) = false := by simp; omega
    rw [this, Bool.or_false]

theorem wp_region_done {id : Nat} {a0 : Act} {w0 : World} (S : (Nat → Bool) → World → Prop) (p : Nat → Value → World → Prop) (hm : P.follows .mixedOrders = true) (hap : apartB ops a0.tmps.size = true) (hfw : forwardB .any ops = true)
    (hS : S (fun _ => false) w0.drew) (hs : DSteps P .any ops Q S p a0 0 ops.toList)
    (hd : ∀ D a w, (∀ j, j < ops.size → D j = true) → S D w → Like ops a0 a → (∀ j k, slotB ops j k = true → p j (a.tmps.getD k undef) w) → (∀ j, j < ops.size → ∃ v, p j v w) → Q .normal a w) : (Code.region id ops true).wp P Q a0 w0 := by
  have hdst : ∀ (i : Nat) (o : Oper) (k : Nat), ops[i]? = some o → o.dst = some k → k < a0.tmps.size ∧ ∀ (j : Nat) (oj : Oper), ops[j]? = some oj → oj.dst = some k → i = j := by
    intro i o k ho hk
    have hi := (Array.getElem?_eq_some_iff.1 ho).1
    have h1 := List.all_eq_true.1 hap i (List.mem_range.2 hi)
    have h2 : ops.getD i default = o := by simp [Array.getD_eq_getD_getElem?, ho]
    rw [h2, hk] at h1
    simp only [Bool.and_eq_true, decide_eq_true_eq] at h1
    refine ⟨h1.1, fun j oj hj hjk => ?_⟩
    have hj' := (Array.getElem?_eq_some_iff.1 hj).1
    have h3 := List.all_eq_true.1 h1.2 j (List.mem_range.2 hj')
    have h4 : ops.getD j default = oj := by simp [Array.getD_eq_getD_getElem?, hj]
    rw [h4, hjk] at h3
    simpa using h3
  refine wp_region_any hm ?_
  refine wpAny_inv (fun listed a w => listed.size = ops.size ∧ S (fun j => listed.getD j false) w ∧ (∀ j k, listed.getD j false = true → awaits .any ops j k = true → listed.getD k false = true) ∧ Like ops a0 a ∧ (∀ j, listed.getD j false = true → ∃ v, p j v w) ∧ ∀ j k, listed.getD j false = true → slotB ops j k = true → p j (a.tmps.getD k undef) w) ?_ ?_ _ _ _ _ ?_ ⟨by simp, by rw [show (fun j => (Array.replicate ops.size false).getD j false) = fun _ => false from funext fun j => by simp only [Array.getD_eq_getD_getElem?, Array.getElem?_replicate]; split <;> rfl]; exact hS, ?_, ⟨rfl, rfl, fun _ _ => rfl⟩, ?_, ?_⟩
  · rintro listed a w i ⟨hz, hSw, hC, hL, hE, hP⟩ hi
    obtain ⟨hjun, o, ho, hall⟩ := mem_ready.1 hi
    have hilt := (Array.getElem?_eq_some_iff.1 ho).1
    have hin : listed.getD i false = false := by
      have hi2 : i < listed.size := by omega
      simpa [Array.getD_eq_getD_getElem?, hi2] using hjun
    have hw8 : ∀ j, waitsB .any o j = true → listed.getD j false = true := fun j hj => by
      unfold waitsB at hj
      obtain ⟨e, he, h2⟩ := Array.any_eq_true'.1 hj
      simp only [Bool.and_eq_true, beq_iff_eq] at h2
      have := hall e he h2.2
      rw [h2.1] at this
      exact this
    have hst := DSteps.get ops.toList 0 hs i o (by simpa using ho)
    rw [Nat.zero_add] at hst
    obtain ⟨hw, hx⟩ := hst (fun j => listed.getD j false) a w hin (fun j hj => by
      cases hl : listed.getD j false with
      | false => rfl
      | true => have := hC j i hl hj; rw [hin] at this; cases this) hw8 hSw hL (fun j k hj hk => hP j k (hw8 j hj) hk)
    unfold wpOp
    simp only [ho, hw, if_true]
    refine .inl (Oper.wp_mono ?_ hx)
    rintro a' w' ⟨v, rfl, hS', hR', hpv⟩
    refine ⟨by simpa using hz, by rw [set_done listed i (by omega)]; exact hS', ?_, ⟨?_, ?_, fun k hk => ?_⟩, fun j hj => ?_, fun j k hj hk => ?_⟩
    · intro j k hj hk
      have hd1 := congrFun (set_done listed i (by omega))
      rw [hd1] at hj ⊢
      rw [Bool.or_eq_true] at hj ⊢
      left
      rcases hj with hj | hj
      · exact hC j k hj hk
      · have : j = i := by simpa using hj
        subst this
        unfold awaits at hk
        rw [ho] at hk
        exact hw8 k hk
    · cases h : o.dst <;> exact hL.defers
    · cases h : o.dst
      · exact hL.size
      · simp only [Act.put, Array.size_setIfInBounds]; exact hL.size
    · cases h : o.dst with
      | none => exact hL.far k hk
      | some d =>
        have hne : d ≠ k := fun e => by
          subst e
          unfold outside at hk
          have := Array.all_eq_true.1 hk i hilt
          rw [(Array.getElem?_eq_some_iff.1 ho).2, h] at this
          simp at this
        simp only [Act.put, Array.getD_eq_getD_getElem?, Array.getElem?_setIfInBounds, if_neg hne]
        have := hL.far k hk
        simpa only [Array.getD_eq_getD_getElem?] using this
    · by_cases hji : j = i
      · subst hji; exact ⟨v, hpv⟩
      · have hjl : listed.getD j false = true := by
          simp only [Array.getD_eq_getD_getElem?, Array.getElem?_setIfInBounds, if_neg (Ne.symm hji)] at hj ⊢
          exact hj
        obtain ⟨u, hu⟩ := hE j hjl
        exact ⟨u, hR' j _ hjl hu⟩
    · obtain ⟨oj, hoj, hjk⟩ : ∃ oj, ops[j]? = some oj ∧ oj.dst = some k := by
        unfold slotB at hk
        cases h : ops[j]? with
        | none => rw [h] at hk; cases hk
        | some oj => rw [h] at hk; exact ⟨oj, rfl, by simpa using hk⟩
      by_cases hji : j = i
      · subst hji
        rw [hoj] at ho
        cases ho
        have hkz := (hdst j _ k hoj hjk).1
        rw [hjk]
        have : (a.put (some k) v).tmps.getD k undef = v := by
          have : k < a.tmps.size := by rw [hL.size]; exact hkz
          simp [Act.put, Array.getD_eq_getD_getElem?, this]
        rw [this]
        exact hpv
      · have hjl : listed.getD j false = true := by
          simp only [Array.getD_eq_getD_getElem?, Array.getElem?_setIfInBounds, if_neg (Ne.symm hji)] at hj ⊢
          exact hj
        have h1 := hR' j _ hjl (hP j k hjl hk)
        cases h : o.dst with
        | none => exact h1
        | some d =>
          have hne : d ≠ k := fun e => by
            subst e
            exact hji ((hdst i o d ho h).2 j oj hoj hjk).symm
          simp only [Act.put, Array.getD_eq_getD_getElem?, Array.getElem?_setIfInBounds, if_neg hne] at h1 ⊢
          exact h1
  · rintro listed a w ⟨hz, hSw, hC, hL, hE, hP⟩ hr
    have hall : ∀ n j, j < n → j < ops.size → listed.getD j false = true := by
      intro n
      induction n with
      | zero => intro j h; omega
      | succ n ih =>
        intro j hjn hj
        cases hl : listed.getD j true with
        | true =>
          have : j < listed.size := by omega
          simpa [Array.getD_eq_getD_getElem?, this] using hl
        | false =>
          exfalso
          have hmem : j ∈ Region.ready .any ops listed := mem_ready.2 ⟨hl, ops[j], by simp [hj], fun e he hb => by
            have h1 := List.all_eq_true.1 hfw j (List.mem_range.2 hj)
            have h2 : ops.getD j default = ops[j] := by simp [Array.getD_eq_getD_getElem?, hj]
            rw [h2] at h1
            have h3 := Array.all_eq_true_iff_forall_mem.1 h1 e he
            rw [hb] at h3
            simp at h3
            exact ih e.on (by omega) (by omega)⟩
          rw [hr] at hmem
          cases hmem
    refine hd _ a w (fun j hj => hall (j + 1) j (by omega) hj) hSw hL (fun j k hk => hP j k (hall (j + 1) j (by omega) ?_) hk) (fun j hj => hE j (hall (j + 1) j (by omega) hj))
    unfold slotB at hk
    cases h : ops[j]? with
    | none => rw [h] at hk; cases hk
    | some oj => exact (Array.getElem?_eq_some_iff.1 h).1
  · unfold unlisted
    exact Nat.le_trans (List.length_filter_le _ _) (by simp)
  · intro j k hj
    simp only [Array.getD_eq_getD_getElem?, Array.getElem?_replicate] at hj
    split at hj <;> simp at hj
  · intro j hj
    simp only [Array.getD_eq_getD_getElem?, Array.getElem?_replicate] at hj
    split at hj <;> simp at hj
  · intro j k hj
    simp only [Array.getD_eq_getD_getElem?, Array.getElem?_replicate] at hj
    split at hj <;> simp at hj
end
end Go.Kt
namespace Go.Kt
open Go Go.RowKit

section
variable {P : Program}
end
structure FldR where
  g : Nat
  w : World
  kv : Value
  E : TypeId
  sz : Nat
  n : Nat
  m : Nat
  xs : List Value
  ys : List Value
  T : TypeId
  CS : Value → Array Value
  bs : Array Value
  ia : Nat
  js : Nat
  ib : Nat
  val : Nat → Option Value
variable {F : FldR}
def FldR.Row (F : FldR) (v : Value) (W : World) : Prop :=
  ∃ ao ln cp, v = .slice ao ln cp ∧ OwnS (fun b => (F.kv.ownBlock = some b ∨ F.w.heap.size ≤ b) ∧ b ≠ F.g) F.E F.sz v F.m F.ys W
theorem FldR.Row.keep {v : Value} {A B : World} {X : Nat → Prop} (h : F.Row v A) (hk : Keep X A B) (hX : ∀ b, X b → b = F.g) : F.Row v B := by
  obtain ⟨ao, ln, cp, e, ho⟩ := h
  exact ⟨ao, ln, cp, e, ho.keep hk (fun b hb hy => hy.2 (hX b hb))⟩
theorem FldR.Row.store {v u : Value} {A : World} {k : Nat} (h : F.Row v A) : F.Row v (A.setCell ⟨F.g, k, none⟩ u) :=
  h.keep (X := fun b => b = F.g) (Keep.setCell (X := fun b => b = F.g) (Keep.refl _ A) (p := ⟨F.g, k, none⟩) rfl u) (fun _ h => h)
theorem FldR.row_of {v' : Value} {ln : Nat} {W Y : World} (hz : F.w.heap.size ≤ W.heap.size) (hg : F.g < F.w.heap.size) (hkg : F.kv.ownBlock ≠ some F.g) (ho : OwnS (fun b => F.kv.ownBlock = some b ∨ W.heap.size ≤ b) F.E F.sz v' ln F.ys Y) (hm : ln = F.m) : F.Row v' Y := by
  subst hm
  have hY : OwnS (fun b => (F.kv.ownBlock = some b ∨ F.w.heap.size ≤ b) ∧ b ≠ F.g) F.E F.sz v' F.m F.ys Y := ho.weaken (by
    rintro b (h | h)
    · exact ⟨.inl h, fun e => hkg (e ▸ h)⟩
    · exact ⟨.inr (by omega), by omega⟩)
  rcases ho.shape with ⟨h, _⟩ | ⟨g', cap, h, _⟩
  · exact ⟨_, _, _, h, hY⟩
  · exact ⟨_, _, _, h, hY⟩
def FldR.S (F : FldR) (D : Nat → Bool) (X : World) : Prop :=
  (D F.js = false → X.heap[F.g]? = some (.cells (F.CS F.kv) F.T (0, 0))) ∧ (D F.ia = false → OwnS (fun b => b ≠ F.g) F.E F.sz F.kv F.n F.xs X) ∧ Keep (fun b => b = F.g ∨ F.kv.ownBlock = some b) F.w X
theorem orb_l {a b : Bool} (h : (a || b) = false) : a = false := by cases a <;> simp_all
variable {D : Nat → Bool} {X Y W : World} {i : Nat} {v u : Value}
theorem FldR.S.more (h : F.S D X) : F.S (fun j => D j || j == i) X := ⟨fun e => h.1 (orb_l e), fun e => h.2.1 (orb_l e), h.2.2⟩
theorem FldR.S.below (h : F.S D X) (hb : Below X.heap.size X Y) : F.S D Y :=
  ⟨fun e => (hb.block F.g (Array.getElem?_eq_some_iff.1 (h.1 e)).1).trans (h.1 e), fun e => (h.2.1 e).keep (X := fun _ => False) (Keep.of_all hb) (fun _ h => h.elim), h.2.2.then (hb.mono h.2.2.size)⟩
theorem FldR.S.app (h : F.S D X) (hkg : F.kv.ownBlock ≠ some F.g) (hj : D F.js = false) (hk : Keep (fun b => F.kv.ownBlock = some b) X Y) : F.S (fun j => D j || j == F.ia) Y :=
  ⟨fun _ => hk.heap (h.1 hj) hkg, fun e => by simp at e, h.2.2.trans (hk.weaken fun _ _ h => Or.inr h)⟩
theorem FldR.S.store {k : Nat} (h : F.S D X) : F.S (fun j => D j || j == F.js) (X.setCell ⟨F.g, k, none⟩ u) :=
  ⟨fun e => by simp at e, fun e => (h.2.1 (orb_l e)).keep (X := fun b => b = F.g) (Keep.setCell (X := fun b => b = F.g) (Keep.refl _ X) (p := ⟨F.g, k, none⟩) rfl u) (fun _ h1 h2 => h2 h1), h.2.2.setCell (Or.inl rfl) u⟩
def FldR.P (F : FldR) (i : Nat) (v : Value) (W : World) : Prop :=
  (∀ u, F.val i = some u → v = u) ∧ (i = F.ib → ∃ b, v = .slice (some ⟨b, 0, none⟩) 1 1 ∧ W.heap[b]? = some (.cells F.bs F.E (0, 0)) ∧ F.w.heap.size ≤ b) ∧ (i = F.ia → F.Row v W) ∧ (i = F.js → ∃ u, F.Row u W ∧ W.heap[F.g]? = some (.cells (F.CS u) F.T (0, 0)))
theorem FldR.P.is (h : F.P i v W) (e : F.val i = some u) : v = u := h.1 u e
theorem FldR.P.mk (e : F.val i = some v) (hi : i ≠ F.ib ∧ i ≠ F.ia ∧ i ≠ F.js) : F.P i v W :=
  ⟨fun u h => by rw [e] at h; exact Option.some.inj h, fun h => absurd h hi.1, fun h => absurd h hi.2.1, fun h => absurd h hi.2.2⟩
theorem FldR.P.bs (e : F.val F.ib = none) (hi : F.ib ≠ F.ia ∧ F.ib ≠ F.js) (h : ∃ b, v = .slice (some ⟨b, 0, none⟩) 1 1 ∧ W.heap[b]? = some (.cells F.bs F.E (0, 0)) ∧ F.w.heap.size ≤ b) : F.P F.ib v W :=
  ⟨fun u h => (by rw [e] at h; cases h), fun _ => h, fun h => absurd h hi.1, fun h => absurd h hi.2⟩
theorem FldR.P.row (e : F.val F.ia = none) (hi : F.ia ≠ F.ib ∧ F.ia ≠ F.js) (h : F.Row v W) : F.P F.ia v W :=
  ⟨fun u h => (by rw [e] at h; cases h), fun h => absurd h hi.1, fun _ => h, fun h => absurd h hi.2⟩
theorem FldR.P.last (e : F.val F.js = none) (hi : F.js ≠ F.ib ∧ F.js ≠ F.ia) (h : ∃ u, F.Row u W ∧ W.heap[F.g]? = some (.cells (F.CS u) F.T (0, 0))) : F.P F.js v W :=
  ⟨fun u h => (by rw [e] at h; cases h), fun h => absurd h hi.1, fun h => absurd h hi.2, fun _ => h⟩
theorem FldR.P.below (h : F.P i v W) (hb : Below W.heap.size W Y) : F.P i v Y := by
  have hk : Keep (fun _ => False) W Y := Keep.of_all hb
  refine ⟨h.1, fun e => ?_, fun e => (h.2.2.1 e).keep hk (fun _ h => h.elim), fun e => ?_⟩
  · obtain ⟨b, h1, h2, h3⟩ := h.2.1 e
    exact ⟨b, h1, hk.heap h2 (fun h => h), h3⟩
  · obtain ⟨u, h1, h2⟩ := h.2.2.2 e
    exact ⟨u, h1.keep hk (fun _ h => h.elim), hk.heap h2 (fun h => h)⟩
theorem FldR.P.app (h : F.P i v W) (hkv : ∀ b, F.kv.ownBlock = some b → b < F.w.heap.size) (hk : Keep (fun b => F.kv.ownBlock = some b) W Y) (ha : i ≠ F.ia) (hs : i ≠ F.js) : F.P i v Y := by
  refine ⟨h.1, fun e => ?_, fun e => absurd e ha, fun e => absurd e hs⟩
  obtain ⟨b, h1, h2, h3⟩ := h.2.1 e
  exact ⟨b, h1, hk.heap h2 (fun h => by have := hkv b h; omega), h3⟩
theorem FldR.P.store {k : Nat} (h : F.P i v W) (hgl : F.g < F.w.heap.size) (hs : i ≠ F.js) : F.P i v (W.setCell ⟨F.g, k, none⟩ u) := by
  have hk : Keep (fun b => b = F.g) W (W.setCell ⟨F.g, k, none⟩ u) := Keep.setCell (X := fun b => b = F.g) (Keep.refl _ W) (p := ⟨F.g, k, none⟩) rfl u
  refine ⟨h.1, fun e => ?_, fun e => (h.2.2.1 e).store, fun e => absurd e hs⟩
  obtain ⟨b, h1, h2, h3⟩ := h.2.1 e
  exact ⟨b, h1, hk.heap h2 (fun h => by omega), h3⟩
end Go.Kt
namespace Go.Kt
open Go Go.RowKit

structure StoR where
  w : World
  w2 : World
  js : Nat
  val : Nat → Option Value
variable {F : StoR} {D : Nat → Bool} {X Y W : World} {i : Nat} {v u : Value}
def StoR.S (F : StoR) (D : Nat → Bool) (X : World) : Prop := D F.js = false → X = F.w
def StoR.P (F : StoR) (i : Nat) (v : Value) (W : World) : Prop := (∀ u, F.val i = some u → v = u) ∧ (i = F.js → W = F.w2)
theorem StoR.S.more (h : F.S D X) : F.S (fun j => D j || j == i) X := fun e => h (orb_l e)
theorem StoR.S.store : F.S (fun j => D j || j == F.js) Y := fun e => by simp at e
theorem StoR.P.is (h : F.P i v W) (e : F.val i = some u) : v = u := h.1 u e
theorem StoR.P.mk (e : F.val i = some v) (hi : i ≠ F.js) : F.P i v W := ⟨fun u h => by rw [e] at h; exact Option.some.inj h, fun h => absurd h hi⟩
theorem StoR.P.last (e : F.val F.js = none) (h : Y = F.w2) : F.P F.js v Y := ⟨fun u h => (by rw [e] at h; cases h), fun _ => h⟩
theorem StoR.P.store (h : F.P i v W) (hi : i ≠ F.js) : F.P i v Y := ⟨h.1, fun e => absurd e hi⟩
end Go.Kt
namespace Go.Kt
open Go Go.RowKit Go.Maps

section
variable {P : Program} {a : Act} {o : Oper} {w w' : World}
theorem exec_mapUpdate {t : TypeId} {m k x : Operand} {u0 u1 u2 : Value} (ho : o.op = .mapUpdate t m k x) (hm : a.eval m = u0) (hk : a.eval k = u1) (hx : a.eval x = u2) (h : (Instr.mapUpdate t u0 u1 u2).run P w = .ok () w') : (execOp a.eval o).run P w = .ok .skip w' := by
  unfold execOp
  simp [ho, hm, hk, hx, h, Result.andThen]
theorem MapG.congr {k : TypeId} {b n : Nat} {f f' : Lit → Option Value} (h : MapG P k b n f w) (e : ∀ kl, WideAt.IsKeyLit kl → f kl = f' kl) : MapG P k b n f' w := by
  obtain ⟨D, h1, h2, h3⟩ := h
  exact ⟨D, h1, fun kl hk => by rw [h2 kl hk, e kl hk], fun kl v hk hf z => h3 kl v hk (by rw [e kl hk]; exact hf) z⟩
end

def ptF (vs : Nat → Option Value) : Lit → Option Value
  | .int .i32 x => if 0 ≤ x then vs x.toNat else none
  | _ => none
theorem ptF_at (vs : Nat → Option Value) (x : Nat) : ptF vs (.int .i32 (x : Int)) = vs x := by
  simp [ptF]
def updN {A : Type} (f : Nat → Option A) (x : Nat) (v : A) : Nat → Option A := fun y => if y = x then some v else f y
theorem ptF_put (vs : Nat → Option Value) (x : Nat) (v : Value) (kl : Lit) (hk : WideAt.IsKeyLit kl) : putF (ptF vs) (.int .i32 (x : Int)) v kl = ptF (updN vs x v) kl := by
  by_cases e : kl = .int .i32 (x : Int)
  · subst e
    rw [putF_same _ _ hk, ptF_at, updN, if_pos rfl]
  · rw [putF_other _ e]
    unfold ptF
    split
    · rename_i y
      split
      · rename_i hy
        rw [updN, if_neg (fun h => e (by rw [← h, Int.toNat_of_nonneg hy]))]
      · rfl
    · rfl
end Go.Kt
namespace Go.Proofs.YtcfhblbmpbfoaaaGreatDoor
open Go Go.RowKit Go.Kt Go.Kt.Os Go.Sort

set_option maxRecDepth 100000 in
set_option maxHeartbeats 8000000 in
theorem oSift (blk off cap lo hi F n : Nat) (d : Array Int) (w : World) (hn : d.size = n) (hH : Holds E32 w blk off d) (hlo : lo ≤ hi) (hb : F + hi ≤ n) (hsz : n < 4611686018427387904) :
    Calls Tryz.prog 216 #[.slice (some ⟨blk, off, none⟩) n cap, .int .i64 lo, .int .i64 hi, .int .i64 F] w fun e w' =>
      e = .returned (.tuple #[]) ∧ SW w blk off (siftDown ltInt hi F lo d) w' := by
  have H0 := Lib.hid (SW.refl hH)
  have HN := Lib.hid hn
  clear hH hn
  go_enter Tryz.func216, Tryz.ntmps216
  go_wp2
  go_loopw [8] (fun vr wr => ∃ (r : Nat) (dk : Array Int), vr = .int .i64 r ∧ r ≤ hi ∧ Hid (dk.size = n ∧ SW w blk off dk wr ∧ siftDown ltInt hi F r dk = siftDown ltInt hi F lo d)) (fun vr _ => hi - (RowKit.intOf vr).toNat)
  case atStart => exact ⟨lo, d, rfl, hlo, Lib.hid ⟨HN.out, H0.out, rfl⟩⟩
  case round =>
    obtain ⟨r, dk, rfl, hr, hh⟩ := hrel
    obtain ⟨G, hG⟩ : ∃ G : Nat → Int, ∀ t, G t = dk[t]! := ⟨fun t => dk[t]!, fun _ => rfl⟩
    have hcw := hh.out.2.1.cells hG hh.out.1
    have hfw := hh.out.2.1.thaw hh.out.1
    have HG := Lib.hid hG
    clear hG
    by_cases h0 : hi ≤ 2 * r + 1
    · have h0z : (hi : Int) ≤ 2 * (r : Int) + 1 := by omega
      go_wp2
      go_end0
      refine ⟨rfl, ?_⟩
      rw [← hh.out.2.2, sd_end ltInt dk h0]
      exact hh.out.2.1
    · have h0z : ¬ ((hi : Int) ≤ 2 * (r : Int) + 1) := by omega
      by_cases h1 : 2 * r + 2 < hi
      · have h1z : 2 * (r : Int) + 1 + 1 < (hi : Int) := by omega
        go_wp2_with fail
        go_big_quiet (first | (go_at_call 175; refine Calls.quiet_of_same (oLess _ _ _)))
        go_wp2_with fail
        · have hL : ltInt (G (F + 2 * r + 1)) (G (F + 2 * r + 2)) = true := by assumption
          have HS := Lib.hid (hh.out.2.1.drewN nq)
          clear hcw hfw
          generalize wr.drewN nq = wr2 at HS ⊢
          clear nq
          have hcw2 := HS.out.cells HG.out hh.out.1
          have hfw2 := HS.out.thaw hh.out.1
          go_big_quiet (first | (go_at_call 175; refine Calls.quiet_of_same (oLess _ _ _)))
          go_wp2_with fail
          · have hS : ltInt (G (F + r)) (G (F + 2 * r + 2)) = false := by
              have : (!ltInt (G (F + r)) (G (F + 2 * r + 2))) = true := by assumption
              simpa using this
            (try simp only [Exit.inBlock, Exit.then]); refine bodyPost_ret (results_none rfl _ _ _) rfl ?_
            refine ⟨rfl, ?_⟩
            rw [← hh.out.2.2, sd_r ltInt dk h1 (by rw [← HG.out, ← HG.out]; exact hL), if_neg (by rw [← HG.out, ← HG.out, hS]; exact Bool.false_ne_true)]
            exact HS.out.drewN nq
          · have hS : ltInt (G (F + r)) (G (F + 2 * r + 2)) = true := by
              have : (!ltInt (G (F + r)) (G (F + 2 * r + 2))) = false := by assumption
              simpa using this
            have HS3 := Lib.hid (HS.out.drewN nq)
            clear hcw2 hfw2
            generalize wr2.drewN nq = wr3 at HS3 ⊢
            have hcw3 := HS3.out.cells HG.out hh.out.1
            have hfw3 := HS3.out.thaw hh.out.1
            go_region
            all_goals go_wp2
            go_roundw
            case rel =>
              refine ⟨2 * r + 2, swp dk (F + r) (F + 2 * r + 2), by go_num, by omega, Lib.hid ⟨by rw [size_swp]; exact hh.out.1, HS3.out.swapq HG.out (by have := hh.out.1; omega) (by have := hh.out.1; omega) 0 1, ?_⟩⟩
              rw [← hh.out.2.2, sd_r ltInt dk h1 (by rw [← HG.out, ← HG.out]; exact hL), if_pos (by rw [← HG.out, ← HG.out]; exact hS)]
            case measure => simp [RowKit.intOf]; omega
        · have hL : ltInt (G (F + 2 * r + 1)) (G (F + 2 * r + 2)) = false := by assumption
          have HS := Lib.hid (hh.out.2.1.drewN nq)
          clear hcw hfw
          generalize wr.drewN nq = wr2 at HS ⊢
          clear nq
          have hcw2 := HS.out.cells HG.out hh.out.1
          have hfw2 := HS.out.thaw hh.out.1
          go_big_quiet (first | (go_at_call 175; refine Calls.quiet_of_same (oLess _ _ _)))
          go_wp2_with fail
          · have hS : ltInt (G (F + r)) (G (F + 2 * r + 1)) = false := by
              have : (!ltInt (G (F + r)) (G (F + 2 * r + 1))) = true := by assumption
              simpa using this
            (try simp only [Exit.inBlock, Exit.then]); refine bodyPost_ret (results_none rfl _ _ _) rfl ?_
            refine ⟨rfl, ?_⟩
            rw [← hh.out.2.2, sd_l ltInt dk (by omega) (.inr (by rw [← HG.out, ← HG.out]; exact hL)), if_neg (by rw [← HG.out, ← HG.out, hS]; exact Bool.false_ne_true)]
            exact HS.out.drewN nq
          · have hS : ltInt (G (F + r)) (G (F + 2 * r + 1)) = true := by
              have : (!ltInt (G (F + r)) (G (F + 2 * r + 1))) = false := by assumption
              simpa using this
            have HS3 := Lib.hid (HS.out.drewN nq)
            clear hcw2 hfw2
            generalize wr2.drewN nq = wr3 at HS3 ⊢
            have hcw3 := HS3.out.cells HG.out hh.out.1
            have hfw3 := HS3.out.thaw hh.out.1
            go_region
            all_goals go_wp2
            go_roundw
            case rel =>
              refine ⟨2 * r + 1, swp dk (F + r) (F + 2 * r + 1), by go_num, by omega, Lib.hid ⟨by rw [size_swp]; exact hh.out.1, HS3.out.swapq HG.out (by have := hh.out.1; omega) (by have := hh.out.1; omega) 0 1, ?_⟩⟩
              rw [← hh.out.2.2, sd_l ltInt dk (by omega) (.inr (by rw [← HG.out, ← HG.out]; exact hL)), if_pos (by rw [← HG.out, ← HG.out]; exact hS)]
            case measure => simp [RowKit.intOf]; omega
      · have h1z : decide (2 * (r : Int) + 1 + 1 < (hi : Int)) = false := decide_eq_false (by omega)
        go_wp2_with fail
        go_big_quiet (first | (go_at_call 175; refine Calls.quiet_of_same (oLess _ _ _)))
        go_wp2_with fail
        have HS := Lib.hid (hh.out.2.1.drewN nq)
        clear hcw hfw
        generalize wr.drewN nq = wr2 at HS ⊢
        clear nq
        have hcw2 := HS.out.cells HG.out hh.out.1
        have hfw2 := HS.out.thaw hh.out.1
        go_big_quiet (first | (go_at_call 175; refine Calls.quiet_of_same (oLess _ _ _)))
        go_wp2_with fail
        · have hS : ltInt (G (F + r)) (G (F + 2 * r + 1)) = false := by
            have : (!ltInt (G (F + r)) (G (F + 2 * r + 1))) = true := by assumption
            simpa using this
          (try simp only [Exit.inBlock, Exit.then]); refine bodyPost_ret (results_none rfl _ _ _) rfl ?_
          refine ⟨rfl, ?_⟩
          rw [← hh.out.2.2, sd_l ltInt dk (by omega) (.inl h1), if_neg (by rw [← HG.out, ← HG.out, hS]; exact Bool.false_ne_true)]
          exact HS.out.drewN nq
        · have hS : ltInt (G (F + r)) (G (F + 2 * r + 1)) = true := by
            have : (!ltInt (G (F + r)) (G (F + 2 * r + 1))) = false := by assumption
            simpa using this
          have HS3 := Lib.hid (HS.out.drewN nq)
          clear hcw2 hfw2
          generalize wr2.drewN nq = wr3 at HS3 ⊢
          have hcw3 := HS3.out.cells HG.out hh.out.1
          have hfw3 := HS3.out.thaw hh.out.1
          go_region
          all_goals go_wp2
          go_roundw
          case rel =>
            refine ⟨2 * r + 1, swp dk (F + r) (F + 2 * r + 1), by go_num, by omega, Lib.hid ⟨by rw [size_swp]; exact hh.out.1, HS3.out.swapq HG.out (by have := hh.out.1; omega) (by have := hh.out.1; omega) 0 1, ?_⟩⟩
            rw [← hh.out.2.2, sd_l ltInt dk (by omega) (.inl h1), if_pos (by rw [← HG.out, ← HG.out]; exact hS)]
          case measure => simp [RowKit.intOf]; omega

theorem half_up {a b : Nat} (h : a ≤ b) : ((b : Int) - (a : Int) - 1).tdiv 2 = (((b - a - 1) / 2 + 1 : Nat) : Int) - 1 := by
  obtain ⟨c, rfl⟩ : ∃ c, b = a + c := ⟨b - a, by omega⟩
  rcases Nat.eq_zero_or_pos c with h0 | h0
  · subst h0
    rw [show ((a + 0 : Nat) : Int) - (a : Int) - 1 = -1 by omega, show a + 0 - a - 1 = 0 by omega]
    decide
  · rw [show ((a + c : Nat) : Int) - (a : Int) - 1 = ((c - 1 : Nat) : Int) by omega, show a + c - a - 1 = c - 1 by omega, Int.tdiv_eq_ediv_of_nonneg (by omega)]
    omega

set_option maxRecDepth 100000 in
set_option maxHeartbeats 1000000 in
theorem oHeap (blk off cap a b n : Nat) (d : Array Int) (w : World) (hn : d.size = n) (hH : Holds E32 w blk off d) (hab : a ≤ b) (hb : b ≤ n) (hsz : n < 4611686018427387904) :
    Calls Tryz.prog 195 #[.slice (some ⟨blk, off, none⟩) n cap, .int .i64 a, .int .i64 b] w fun e w' =>
      e = .returned (.tuple #[]) ∧ SW w blk off (heapSort ltInt d a b) w' := by
  have H0 := Lib.hid (SW.refl hH)
  have HN := Lib.hid hn
  clear hH hn
  have EC := Lib.hid (show ((b - a : Nat) : Int) = (b : Int) - (a : Int) by omega)
  have EH := Lib.hid (half_up hab)
  have EB := Lib.hid (show heapSort ltInt d a b = heapPop ltInt a (b - a) (heapBuild ltInt (b - a) a ((b - a - 1) / 2 + 1) d) from rfl)
  go_enter Tryz.func195, Tryz.ntmps195
  go_wp2
  go_loopw [9] (fun vk wr => ∃ (k : Nat) (dk : Array Int), vk = .int .i64 ((k : Int) - 1) ∧ k ≤ (b - a - 1) / 2 + 1 ∧ Hid (dk.size = n ∧ SW w blk off dk wr ∧ heapBuild ltInt (b - a) a k dk = heapBuild ltInt (b - a) a ((b - a - 1) / 2 + 1) d)) (fun vk _ => (RowKit.intOf vk + 1).toNat)
  case atStart => exact ⟨_, d, by rw [← EH.out], Nat.le_refl _, Lib.hid ⟨HN.out, H0.out, rfl⟩⟩
  case round =>
    obtain ⟨k, dk, hv, hk, hg⟩ := hrel
    cases k with
    | zero =>
      replace hv := hv.trans (show Value.int .i64 (((0 : Nat) : Int) - 1) = .int .i64 (-1) from rfl)
      subst hv
      go_wp2
      go_loopw [10] (fun vk wr => ∃ (k : Nat) (dj : Array Int), vk = .int .i64 ((k : Int) - 1) ∧ k ≤ b - a ∧ Hid (dj.size = n ∧ SW w blk off dj wr ∧ heapPop ltInt a k dj = heapPop ltInt a (b - a) dk)) (fun vk _ => (RowKit.intOf vk + 1).toNat)
      case atStart => exact ⟨b - a, dk, by rw [EC.out], Nat.le_refl _, Lib.hid ⟨hg.out.1, hg.out.2.1, rfl⟩⟩
      case round =>
        obtain ⟨k, dj, hv, hk, hp⟩ := hrel
        cases k with
        | zero =>
          replace hv := hv.trans (show Value.int .i64 (((0 : Nat) : Int) - 1) = .int .i64 (-1) from rfl)
          subst hv
          go_wp2
          go_end0
          refine ⟨rfl, ?_⟩
          rw [EB.out, ← hg.out.2.2]
          show SW w blk off (heapPop ltInt a (b - a) dk) _
          rw [← hp.out.2.2]
          exact hp.out.2.1
        | succ k =>
          replace hv := hv.trans (show Value.int .i64 (((k + 1 : Nat) : Int) - 1) = .int .i64 (k : Int) by congr 1; omega)
          subst hv
          obtain ⟨G, hG⟩ : ∃ G : Nat → Int, ∀ t, G t = dj[t]! := ⟨fun t => dj[t]!, fun _ => rfl⟩
          have hcw := hp.out.2.1.cells hG hp.out.1
          have hfw := hp.out.2.1.thaw hp.out.1
          have HG := Lib.hid hG
          clear hG
          have hk0 : (0 : Int) ≤ (k : Int) := by omega
          obtain ⟨v', hy⟩ := cell?_setCell_some (w := wr) (p := ⟨blk, off + a, none⟩) (x := .int .i32 (G (a + k))) (q := ⟨blk, off + (a + k), none⟩) (hcw (a + k) (by omega))
          have HS := Lib.hid (SW.swapq hp.out.2.1 HG.out (i := a) (j := a + k) (by have := hp.out.1; omega) (by have := hp.out.1; omega))
          go_wp2
          go_region
          all_goals go_wp2_with fail
          have HS5 : SW w blk off (swp dj a (a + k)) (((wr.setCell ⟨blk, off + a, none⟩ (.int .i32 (G (a + k)))).setCell ⟨blk, off + (a + k), none⟩ (.int .i32 (G a))).drew) := HS.out 0 1
          generalize ((wr.setCell ⟨blk, off + a, none⟩ (.int .i32 (G (a + k)))).setCell ⟨blk, off + (a + k), none⟩ (.int .i32 (G a))).drew = W5 at HS5 ⊢
          have C0 := oSift blk off cap 0 k a n (swp dj a (a + k)) W5 (by rw [size_swp]; exact hp.out.1) HS5.holds (by omega) (by omega) hsz
          rw [show ((0 : Nat) : Int) = 0 from rfl] at C0
          refine C0.mono ?_
          rintro e w1 ⟨rfl, hS⟩
          go_wp2
          go_roundw
          case rel => exact ⟨k, siftDown ltInt k a 0 (swp dj a (a + k)), rfl, by omega, Lib.hid ⟨by rw [size_siftDown ltInt _ _ _ _ _ (Nat.le_refl _), size_swp]; exact hp.out.1, HS5.trans hS, hp.out.2.2⟩⟩
          case measure => simp [RowKit.intOf]
    | succ k =>
      replace hv := hv.trans (show Value.int .i64 (((k + 1 : Nat) : Int) - 1) = .int .i64 (k : Int) by congr 1; omega)
      subst hv
      have hk0 : (0 : Int) ≤ (k : Int) := by omega
      have C0 := oSift blk off cap k (b - a) a n dk wr hg.out.1 hg.out.2.1.holds (by omega) (by omega) hsz
      rw [EC.out] at C0
      have C := Lib.hid C0
      clear C0
      go_wp2_with (go_at_call 216; refine C.out.mono ?_; rintro e w1 ⟨rfl, hS⟩)
      go_roundw
      case rel => exact ⟨k, siftDown ltInt (b - a) a k dk, rfl, by omega, Lib.hid ⟨by rw [size_siftDown ltInt _ _ _ _ _ (Nat.le_refl _)]; exact hg.out.1, hg.out.2.1.trans hS, hg.out.2.2⟩⟩
      case measure => simp [RowKit.intOf]
end Go.Proofs.YtcfhblbmpbfoaaaGreatDoor
namespace Go.Kt.Os
open Go Go.RowKit Go.Kt Go.Sort

theorem ltI_t {x y : Int} : ltInt x y = true ↔ x < y := by simp [ltInt]
theorem ltI_f {x y : Int} : ltInt x y = false ↔ y ≤ x := by simp [ltInt]

structure PWay (a b : Nat) (d : Array Int) (a' b' : Nat) (dk : Array Int) : Prop where
  lo : a ≤ a'
  mid : a' ≤ b'
  hi : b' ≤ b
  all : b ≤ d.size
  perm : PermIn a b d dk
  under : Sort.Below ltInt a' b' dk
  fin : ∀ d4, PermIn a' b' dk d4 → SortedIn ltInt a' b' d4 → SortedIn ltInt a b d4

section
variable {a b a' b' m : Nat} {d dk d5 d6 : Array Int}
theorem PWay.size (h : PWay a b d a' b' dk) : dk.size = d.size := h.perm.1
theorem PWay.start (hab : a ≤ b) (hb : b ≤ d.size) (h : Sort.Below ltInt a b d) : PWay a b d a b d := ⟨Nat.le_refl _, hab, Nat.le_refl _, hb, permIn_refl _ _ _, h, fun _ _ h => h⟩
theorem PWay.wide (h : PWay a b d a' b' dk) (k : PermIn a' b' dk d5) : PermIn a b d d5 :=
  permIn_trans _ _ _ _ _ h.perm (permIn_mono _ _ _ _ _ _ h.lo h.hi (by rw [h.size]; exact h.all) k)
theorem PWay.done (h : PWay a b d a' b' dk) (k : PermIn a' b' dk d5) (s : SortedIn ltInt a' b' d5) : PermIn a b d d5 ∧ SortedIn ltInt a b d5 := ⟨h.wide k, h.fin _ k s⟩
theorem PWay.turn (h : PWay a b d a' b' dk) (k : PermIn a' b' dk d5) : PWay a b d a' b' d5 :=
  ⟨h.lo, h.mid, h.hi, h.all, h.wide k, h.under.permA permIn_all (by rw [h.size]; have := h.hi; have := h.all; omega) k, fun d4 h1 h2 => h.fin d4 (permIn_trans _ _ _ _ _ k h1) h2⟩
theorem pget (h : PermIn a b d d5) {i : Nat} (hi : i < a ∨ b ≤ i) : d5[i]! = d[i]! := h.2.1 i hi

theorem PWay.equal (h : PWay a b d a' b' dk) (p : Int) (h0 : ∀ i, a' ≤ i → i < b' → ltInt dk[i]! p = false) (k : PermIn a' b' dk d5) (hm : a' < m) (hm' : m ≤ b')
    (h1 : ∀ i, a' ≤ i → i < m → ltInt p d5[i]! = false) (h2 : ∀ i, m ≤ i → i < b' → ltInt p d5[i]! = true) : PWay a b d m b' d5 := by
  have hb' : b' ≤ dk.size := by rw [h.size]; have := h.hi; have := h.all; omega
  have hp := permIn_all dk d5 a' b' (fun x => p ≤ x) hb' k (fun i h3 h4 => ltI_f.1 (h0 i h3 h4))
  refine ⟨by have := h.lo; omega, hm', h.hi, h.all, h.wide k, .inr (fun i h3 h4 => ?_), fun d4 h3 h4 => ?_⟩
  · have e1 := ltI_t.1 (h2 i h3 h4)
    have e2 := ltI_f.1 (h1 (m - 1) (by omega) (by omega))
    exact ltI_f.2 (by omega)
  · refine h.fin d4 (permIn_trans _ _ _ _ _ k (permIn_mono _ _ _ _ _ _ (by omega) (Nat.le_refl _) (by rw [k.1]; exact hb') h3)) (fun i j hi hij hj => ?_)
    have hq := permIn_all d5 d4 m b' (fun x => p < x) (by rw [k.1]; exact hb') h3 (fun i h5 h6 => ltI_t.1 (h2 i h5 h6))
    rcases Nat.lt_or_ge j m with hjm | hjm
    · rw [pget h3 (.inl hjm), pget h3 (.inl (by omega))]
      have e1 := ltI_f.1 (h1 i hi (by omega))
      have e2 := hp j (by omega) hj
      exact ltI_f.2 (by omega)
    · rcases Nat.lt_or_ge i m with him | him
      · rw [pget h3 (.inl him)]
        have e1 := ltI_f.1 (h1 i hi him)
        have e2 := hq j hjm hj
        exact ltI_f.2 (by omega)
      · exact h4 i j him hij hj

structure Parted (a' b' m : Nat) (d5 : Array Int) : Prop where
  le : a' ≤ m
  lt : m < b'
  less : ∀ i, a' ≤ i → i < m → ltInt d5[i]! d5[m]! = true
  more : ∀ i, m < i → i < b' → ltInt d5[i]! d5[m]! = false

theorem PWay.belowL (h : PWay a b d a' b' d5) (k : Parted a' b' m d5) : Sort.Below ltInt a' m d5 := by
  rcases h.under with e | e
  · exact .inl e
  · exact .inr fun i h1 h2 => e i h1 (by have := k.lt; omega)
theorem PWay.belowR (k : Parted a' b' m d5) : Sort.Below ltInt (m + 1) b' d5 := .inr fun i h1 h2 => k.more i (by omega) h2

theorem PWay.left (h : PWay a b d a' b' d5) (k : Parted a' b' m d5) (h1 : PermIn a' m d5 d6) (h2 : SortedIn ltInt a' m d6) : PWay a b d (m + 1) b' d6 := by
  have hs : b' ≤ d5.size := by rw [h.size]; have := h.hi; have := h.all; omega
  have hw : PermIn a' b' d5 d6 := permIn_mono _ _ _ _ _ _ (Nat.le_refl _) (by have := k.lt; omega) hs h1
  have hl := permIn_all d5 d6 a' m (fun x => x < d5[m]!) (by have := k.lt; omega) h1 (fun i h3 h4 => ltI_t.1 (k.less i h3 h4))
  have hm6 : d6[m]! = d5[m]! := pget h1 (.inr (Nat.le_refl _))
  refine ⟨by have := h.lo; have := k.le; omega, k.lt, h.hi, h.all, h.wide hw, .inr (fun i h3 h4 => ?_), fun d4 h3 h4 => ?_⟩
  · rw [Nat.add_sub_cancel, hm6, pget h1 (.inr (by omega))]
    exact k.more i (by omega) h4
  · have hmr := permIn_all d6 d4 (m + 1) b' (fun x => d5[m]! ≤ x) (by rw [h1.1]; exact hs) h3 (fun i h5 h6 => by rw [pget h1 (.inr (by omega))]; exact ltI_f.1 (k.more i (by omega) h6))
    refine h.fin d4 (permIn_trans _ _ _ _ _ hw (permIn_mono _ _ _ _ _ _ (by have := k.le; omega) (Nat.le_refl _) (by rw [h1.1]; exact hs) h3)) (fun i j hi hij hj => ?_)
    have eL : ∀ t, t < m + 1 → d4[t]! = d6[t]! := fun t ht => pget h3 (.inl ht)
    rcases Nat.lt_trichotomy j m with hjm | hjm | hjm
    · rw [eL j (by omega), eL i (by omega)]; exact h2 i j hi hij hjm
    · subst hjm
      rw [eL j (by omega), eL i (by omega), hm6]
      have := hl i hi hij
      exact ltI_f.2 (by omega)
    · have ej := hmr j (by omega) hj
      rcases Nat.lt_trichotomy i m with him | him | him
      · rw [eL i (by omega)]
        have := hl i hi him
        exact ltI_f.2 (by omega)
      · subst him
        rw [eL i (by omega), hm6]
        exact ltI_f.2 (by omega)
      · exact h4 i j (by omega) hij hj

theorem PWay.right (h : PWay a b d a' b' d5) (k : Parted a' b' m d5) (h1 : PermIn (m + 1) b' d5 d6) (h2 : SortedIn ltInt (m + 1) b' d6) : PWay a b d a' m d6 := by
  have hs : b' ≤ d5.size := by rw [h.size]; have := h.hi; have := h.all; omega
  have hw : PermIn a' b' d5 d6 := permIn_mono _ _ _ _ _ _ (by have := k.le; omega) (Nat.le_refl _) hs h1
  have hr := permIn_all d5 d6 (m + 1) b' (fun x => d5[m]! ≤ x) hs h1 (fun i h3 h4 => ltI_f.1 (k.more i (by omega) h4))
  have hm6 : d6[m]! = d5[m]! := pget h1 (.inl (by omega))
  refine ⟨h.lo, k.le, by have := h.hi; have := k.lt; omega, h.all, h.wide hw, ?_, fun d4 h3 h4 => ?_⟩
  · rcases h.belowL k with e | e
    · exact .inl e
    · refine .inr fun i h3 h4 => ?_
      rw [pget h1 (.inl (by omega)), pget h1 (.inl (by omega))]
      exact e i h3 h4
  · have hl := permIn_all d6 d4 a' m (fun x => x < d5[m]!) (by rw [h1.1]; have := k.lt; omega) h3 (fun i h5 h6 => by rw [pget h1 (.inl (by omega))]; exact ltI_t.1 (k.less i h5 h6))
    refine h.fin d4 (permIn_trans _ _ _ _ _ hw (permIn_mono _ _ _ _ _ _ (Nat.le_refl _) (by have := k.lt; omega) (by rw [h1.1]; exact hs) h3)) (fun i j hi hij hj => ?_)
    have eR : ∀ t, m ≤ t → d4[t]! = d6[t]! := fun t ht => pget h3 (.inr ht)
    rcases Nat.lt_trichotomy j m with hjm | hjm | hjm
    · exact h4 i j hi hij hjm
    · subst hjm
      rw [eR j (Nat.le_refl _), hm6]
      have := hl i hi hij
      exact ltI_f.2 (by omega)
    · rw [eR j (by omega)]
      have ej := hr j (by omega) hj
      rcases Nat.lt_trichotomy i m with him | him | him
      · have := hl i hi him
        exact ltI_f.2 (by omega)
      · subst him
        rw [eR i (Nat.le_refl _), hm6]
        exact ltI_f.2 (by omega)
      · rw [eR i (by omega)]
        exact h2 i j (by omega) hij hj
end
end Go.Kt.Os
namespace Go.Proofs.YtcfhblbmpbfoaaaGreatDoor
open Go Go.RowKit Go.Kt Go.Kt.Os Go.Sort

structure PV (w : World) (blk off : Nat) (d : Array Int) (sb : Nat) : Prop where
  row : Holds E32 w blk off d
  ne : sb ≠ blk
  cell : ∃ s : Int, w.cell? ⟨sb, 0, none⟩ = some (.int .i64 s)
  thaw : w.frozen? ⟨sb, 0, none⟩ = false
theorem PV.drewN {w : World} {blk off sb : Nat} {d : Array Int} (h : PV w blk off d sb) (q : Nat) : PV (w.drewN q) blk off d sb := ⟨h.row, h.ne, h.cell, h.thaw⟩
theorem PV.set {w : World} {blk off sb : Nat} {d : Array Int} (h : PV w blk off d sb) (x : Int) : PV (w.setCell ⟨sb, 0, none⟩ (.int .i64 x)) blk off d sb := by
  obtain ⟨s, hs⟩ := h.cell
  have hk : Keep (fun b => b = sb) w (w.setCell ⟨sb, 0, none⟩ (.int .i64 x)) := Keep.setCell (X := fun b => b = sb) (Keep.refl _ _) (p := ⟨sb, 0, none⟩) rfl _
  exact ⟨holds_keep h.row hk (fun e => h.ne e.symm), h.ne, ⟨x, World.cell?_setCell_same _ _ _ hs⟩, by rw [World.frozen?_setCell]; exact h.thaw⟩

set_option maxRecDepth 100000 in
set_option maxHeartbeats 1000000 in
theorem oOrd2 (blk off cap a b n sb : Nat) (d : Array Int) (w : World) (hn : d.size = n) (hP : PV w blk off d sb) (ha : a < n) (hb : b < n) :
    Calls Tryz.prog 229 #[.slice (some ⟨blk, off, none⟩) n cap, .int .i64 a, .int .i64 b, .pointer (some ⟨sb, 0, none⟩)] w fun e w' =>
      ∃ x y : Nat, e = .returned (.tuple #[.int .i64 x, .int .i64 y]) ∧ ((x = a ∧ y = b) ∨ (x = b ∧ y = a)) ∧ PV w' blk off d sb ∧ Keep (fun b => b = sb) w w' := by
  obtain ⟨G, hG⟩ : ∃ G : Nat → Int, ∀ t, G t = d[t]! := ⟨fun t => d[t]!, fun _ => rfl⟩
  have hcw := (SW.refl hP.row).cells hG hn
  obtain ⟨s, hs⟩ := hP.cell
  have hfz := hP.thaw
  have HP := Lib.hid hP
  clear hG hP
  go_enter Tryz.func229, Tryz.ntmps229
  go_wp2
  go_big_quiet (first | (go_at_call 175; refine Calls.quiet_of_same (oLess _ _ _)))
  go_wp2_with fail
  · have HP2 := Lib.hid (HP.out.drewN nq)
    have HK2 : Hid (Keep (fun b => b = sb) w (w.drewN nq)) := Lib.hid ⟨rfl, rfl, rfl, Nat.le_refl _, fun _ _ _ => rfl⟩
    have hs2 : (w.drewN nq).cell? ⟨sb, 0, none⟩ = some (.int .i64 s) := hs
    have hf2 : (w.drewN nq).frozen? ⟨sb, 0, none⟩ = false := hfz
    clear hcw hs hfz
    generalize w.drewN nq = w2 at HP2 HK2 hs2 hf2 ⊢
    go_wp2
    go_ret2
    exact ⟨b, a, rfl, .inr ⟨rfl, rfl⟩, HP2.out.set _, HK2.out.setCell rfl _⟩
  · go_wp2
    go_ret2
    exact ⟨a, b, rfl, .inl ⟨rfl, rfl⟩, HP.out.drewN nq, ⟨rfl, rfl, rfl, Nat.le_refl _, fun _ _ _ => rfl⟩⟩

set_option maxRecDepth 100000 in
set_option maxHeartbeats 1000000 in
theorem oMed (blk off cap a b c n sb : Nat) (d : Array Int) (w : World) (hn : d.size = n) (hP : PV w blk off d sb) (ha : a < n) (hb : b < n) (hc : c < n) :
    Calls Tryz.prog 220 #[.slice (some ⟨blk, off, none⟩) n cap, .int .i64 a, .int .i64 b, .int .i64 c, .pointer (some ⟨sb, 0, none⟩)] w fun e w' =>
      ∃ x : Nat, e = .returned (.int .i64 x) ∧ (x = a ∨ x = b ∨ x = c) ∧ PV w' blk off d sb ∧ Keep (fun b => b = sb) w w' := by
  have C1 := Lib.hid (oOrd2 blk off cap a b n sb d w hn hP ha hb)
  have HN := Lib.hid hn
  clear hP hn
  go_enter Tryz.func220, Tryz.ntmps220
  go_wp2_with fail
  refine C1.out.mono ?_
  rintro e w1 ⟨a1, b1, rfl, h1, hP1, hK1⟩
  clear C1
  have C2 := Lib.hid (oOrd2 blk off cap b1 c n sb d w1 HN.out hP1 (by omega) hc)
  have HK1 := Lib.hid hK1
  clear hP1 hK1
  go_wp2_with fail
  refine C2.out.mono ?_
  rintro e w2 ⟨b2, c2, rfl, h2, hP2, hK2⟩
  clear C2
  have C3 := Lib.hid (oOrd2 blk off cap a1 b2 n sb d w2 HN.out hP2 (by omega) (by omega))
  have HK2 := Lib.hid hK2
  clear hP2 hK2
  go_wp2_with fail
  refine C3.out.mono ?_
  rintro e w3 ⟨a3, b3, rfl, h3, hP3, hK3⟩
  clear C3
  have HP3 := Lib.hid hP3
  have HK3 := Lib.hid hK3
  have HX := Lib.hid (show b3 = a ∨ b3 = b ∨ b3 = c by omega)
  clear hP3 hK3 h1 h2 h3
  go_wp2
  go_ret
  exact ⟨b3, rfl, HX.out, HP3.out, (HK1.out.trans HK2.out).trans HK3.out⟩

set_option maxRecDepth 100000 in
set_option maxHeartbeats 1000000 in
theorem oAdj (blk off cap a n sb : Nat) (d : Array Int) (w : World) (hn : d.size = n) (hP : PV w blk off d sb) (ha0 : 1 ≤ a) (ha : a + 1 < n) (hsz : n < 4611686018427387904) :
    Calls Tryz.prog 219 #[.slice (some ⟨blk, off, none⟩) n cap, .int .i64 a, .pointer (some ⟨sb, 0, none⟩)] w fun e w' =>
      ∃ x : Nat, e = .returned (.int .i64 x) ∧ (a - 1 ≤ x ∧ x ≤ a + 1) ∧ PV w' blk off d sb ∧ Keep (fun b => b = sb) w w' := by
  have C0 := oMed blk off cap (a - 1) a (a + 1) n sb d w hn hP (by omega) (by omega) ha
  rw [show ((a - 1 : Nat) : Int) = (a : Int) - 1 by omega, show ((a + 1 : Nat) : Int) = (a : Int) + 1 by omega] at C0
  have C1 := Lib.hid C0
  clear C0 hP hn
  go_enter Tryz.func219, Tryz.ntmps219
  go_wp2_with fail
  refine C1.out.mono ?_
  rintro e w1 ⟨x, rfl, h1, hP1, hK1⟩
  clear C1
  have HP1 := Lib.hid hP1
  have HK1 := Lib.hid hK1
  have HX := Lib.hid (show a - 1 ≤ x ∧ x ≤ a + 1 by omega)
  clear hP1 hK1 h1
  go_wp2
  go_ret
  exact ⟨x, rfl, HX.out, HP1.out, HK1.out⟩
end Go.Proofs.YtcfhblbmpbfoaaaGreatDoor
namespace Go.Proofs.YtcfhblbmpbfoaaaGreatDoor
open Go Go.RowKit Go.Kt Go.Kt.Os Go.Sort

set_option maxRecDepth 100000 in
set_option maxHeartbeats 1000000 in
theorem oPivot (blk off cap a l n : Nat) (d : Array Int) (w : World) (hn : d.size = n) (hH : Holds E32 w blk off d) (hblk : blk < w.heap.size) (hl8 : 8 ≤ l) (hb : a + l ≤ n) (hsz : n < 4611686018427387904) :
    Calls Tryz.prog 197 #[.slice (some ⟨blk, off, none⟩) n cap, .int .i64 a, .int .i64 ((a : Int) + (l : Int))] w fun e w' =>
      ∃ (x : Nat) (h : Int), e = .returned (.tuple #[.int .i64 x, .int .i64 h]) ∧ a ≤ x ∧ x < a + l ∧ SW w blk off d w' := by
  have HS1 := Lib.hid (SW.refl hH)
  have HN := Lib.hid hn
  clear hH hn
  have EL := Lib.hid (show (a : Int) + (l : Int) - (a : Int) = (l : Int) by omega)
  obtain ⟨q, hq⟩ : ∃ q, q = l / 4 := ⟨_, rfl⟩
  have hq1 : 4 * q ≤ l := by omega
  have hq2 : l < 4 * q + 4 := by omega
  have EQ := Lib.hid (show (l : Int) / 4 = (q : Int) by omega)
  clear hq
  have hlz : (8 : Int) ≤ (a : Int) + (l : Int) - (a : Int) := by omega
  have HP : Hid (PV (w.alloc (.cells #[.int .i64 0] 3)) blk off d w.heap.size) := Lib.hid ⟨holds_keep HS1.out.holds ((Keep.refl (fun _ => False) w).alloc _) id, by omega, ⟨0, by rw [World.cell?_alloc_at _ _ _ _ (by simp)]; rfl⟩, World.frozen?_alloc_new _ _ _ _⟩
  have HK : Hid (SW w blk off d (w.alloc (.cells #[.int .i64 0] 3))) := Lib.hid ⟨(Keep.refl _ _).alloc _, HP.out.row⟩
  have FIN : ∀ W, Keep (fun b => b = w.heap.size) (w.alloc (.cells #[.int .i64 0] 3)) W → SW w blk off d W := fun W k => HK.out.then (k.weaken fun b _ e => by subst e; exact ⟨by omega, Nat.le_refl _⟩)
  have HF := Lib.hid FIN
  clear FIN HK
  by_cases h50 : 50 ≤ l
  · have h50z : (50 : Int) ≤ (a : Int) + (l : Int) - (a : Int) := by omega
    go_enter Tryz.func197, Tryz.ntmps197
    go_wp2_with fail
    rw [EL.out, EQ.out]
    have C0 := oAdj blk off cap (a + q) n w.heap.size d _ HN.out HP.out (by omega) (by omega) hsz
    rw [show ((a + q : Nat) : Int) = (a : Int) + (q : Int) by omega] at C0
    have C := Lib.hid C0
    clear C0
    refine C.out.mono ?_
    rintro e w1 ⟨x1, rfl, hx1, hp1, hk1⟩
    clear C
    have HP1 := Lib.hid hp1
    have HK1 := Lib.hid (hk1)
    clear hp1 hk1
    have C0 := oAdj blk off cap (a + q * 2) n w.heap.size d w1 HN.out HP1.out (by omega) (by omega) hsz
    rw [show ((a + q * 2 : Nat) : Int) = (a : Int) + (q : Int) * 2 by omega] at C0
    have C := Lib.hid C0
    clear C0
    go_wp2_with fail
    refine C.out.mono ?_
    rintro e w2 ⟨x2, rfl, hx2, hp2, hk2⟩
    clear C
    have HP2 := Lib.hid hp2
    have HK2 := Lib.hid (HK1.out.trans hk2)
    clear hp2 hk2
    have C0 := oAdj blk off cap (a + q * 3) n w.heap.size d w2 HN.out HP2.out (by omega) (by omega) hsz
    rw [show ((a + q * 3 : Nat) : Int) = (a : Int) + (q : Int) * 3 by omega] at C0
    have C := Lib.hid C0
    clear C0
    go_wp2_with fail
    refine C.out.mono ?_
    rintro e w3 ⟨x3, rfl, hx3, hp3, hk3⟩
    clear C
    have HP3 := Lib.hid hp3
    have HK3 := Lib.hid (HK2.out.trans hk3)
    clear hp3 hk3
    have C := Lib.hid (oMed blk off cap x1 x2 x3 n w.heap.size d w3 HN.out HP3.out (by omega) (by omega) (by omega))
    go_wp2_with fail
    refine C.out.mono ?_
    rintro e w4 ⟨x4, rfl, hx4, hp4, hk4⟩
    clear C
    obtain ⟨s, hs⟩ := hp4.cell
    have HB := Lib.hid (show a ≤ x4 ∧ x4 < a + l by omega)
    have HS := Lib.hid (HF.out w4 (HK3.out.trans hk4))
    clear hp4 hk4 hx1 hx2 hx3 hx4
    go_wp2
    all_goals go_ret2
    all_goals exact ⟨x4, _, rfl, HB.out.1, HB.out.2, HS.out⟩
  · have h50z : (a : Int) + (l : Int) - (a : Int) < 50 := by omega
    go_enter Tryz.func197, Tryz.ntmps197
    go_wp2_with fail
    rw [EL.out, EQ.out]
    have C0 := oMed blk off cap (a + q) (a + q * 2) (a + q * 3) n w.heap.size d _ HN.out HP.out (by omega) (by omega) (by omega)
    rw [show ((a + q : Nat) : Int) = (a : Int) + (q : Int) by omega, show ((a + q * 2 : Nat) : Int) = (a : Int) + (q : Int) * 2 by omega, show ((a + q * 3 : Nat) : Int) = (a : Int) + (q : Int) * 3 by omega] at C0
    have C := Lib.hid C0
    clear C0
    refine C.out.mono ?_
    rintro e w4 ⟨x4, rfl, hx4, hp4, hk4⟩
    clear C
    obtain ⟨s, hs⟩ := hp4.cell
    have HB := Lib.hid (show a ≤ x4 ∧ x4 < a + l by omega)
    have HS := Lib.hid (HF.out w4 hk4)
    clear hp4 hk4 hx4
    go_wp2
    all_goals go_ret2
    all_goals exact ⟨x4, _, rfl, HB.out.1, HB.out.2, HS.out⟩
end Go.Proofs.YtcfhblbmpbfoaaaGreatDoor
namespace Go.Proofs.YtcfhblbmpbfoaaaGreatDoor
open Go Go.RowKit Go.Kt Go.Kt.Os Go.Sort

theorem oNaN2 (x : Int) (w : World) : Calls Tryz.prog 176 #[.int .i32 x] w fun e w' => e = .returned (.bool false) ∧ w' = w := by
  go_enter Tryz.func176, Tryz.ntmps176
  go_wp2
  go_ret
  exact ⟨by simp, rfl⟩

set_option maxRecDepth 100000 in
set_option maxHeartbeats 2000000 in
theorem oSearch (blk off cap n : Nat) (G : Nat → Int) (x : Int) (w : World) (hc : ∀ t, t < n → w.cell? ⟨blk, off + t, none⟩ = some (.int .i32 (G t))) (hs : ∀ i j, i ≤ j → j < n → G i ≤ G j) (hsz : n < 4611686018427387904) :
    Calls Tryz.prog 151 #[.slice (some ⟨blk, off, none⟩) n cap, .int .i32 x] w fun e w' =>
      ∃ (p : Nat) (f : Value), e = .returned (.tuple #[.int .i64 p, f]) ∧ p ≤ n ∧ (∀ t, t < p → G t < x) ∧ (∀ t, p ≤ t → t < n → x ≤ G t) ∧ Below w.heap.size w w' := by
  have HS := Lib.hid hs
  clear hs
  go_enter Tryz.func151, Tryz.ntmps151
  go_wp2
  go_loopw [7, 8] (fun vi vj wr => ∃ (i j q : Nat), vi = .int .i64 i ∧ vj = .int .i64 j ∧ i ≤ j ∧ j ≤ n ∧ Hid ((∀ t, t < i → G t < x) ∧ (∀ t, j ≤ t → t < n → x ≤ G t)) ∧ wr = w.drewN q) (fun vi vj _ => (RowKit.intOf vj).toNat - (RowKit.intOf vi).toNat)
  case atStart => exact ⟨0, n, 0, rfl, rfl, by omega, Nat.le_refl _, Lib.hid ⟨fun t h => absurd h (by omega), fun t h1 h2 => absurd h2 (by omega)⟩, rfl⟩
  case round =>
    obtain ⟨i, j, q, rfl, rfl, hij, hjn, hh, hw⟩ := hrel
    have hcw : ∀ t, t < n → wr.cell? ⟨blk, off + t, none⟩ = some (.int .i32 (G t)) := fun t ht => by rw [hw]; exact hc t ht
    have HW := Lib.hid hw
    clear hw
    by_cases hlt : i < j
    · have hltz : (i : Int) < (j : Int) := by omega
      obtain ⟨h, hh2⟩ : ∃ h, h = (i + j) / 2 := ⟨_, rfl⟩
      have hhz : ((i : Int) + (j : Int)) / 2 = (h : Int) := by omega
      have hm1 : i ≤ h := by omega
      have hm2 : h < j := by omega
      have HZ := Lib.hid hhz
      have HH := Lib.hid hh2
      clear hh2 hhz
      go_wp2_with fail
      rw [HZ.out, ← HH.out]
      refine (oLess _ _ _).mono ?_
      rintro e w2 ⟨rfl, rfl⟩
      cases hl : ltInt (G h) x
      · go_wp2
        go_roundw
        case rel => exact ⟨i, h, q, rfl, rfl, hm1, by omega, Lib.hid ⟨hh.out.1, fun t h1 h2 => by
          have e1 := HS.out h t h1 h2
          have e2 : x ≤ G h := by simpa [ltInt] using hl
          omega⟩, HW.out⟩
        case measure => simp [RowKit.intOf]; omega
      · go_wp2
        go_roundw
        case rel => exact ⟨h + 1, j, q, by go_num, rfl, by omega, hjn, Lib.hid ⟨fun t h1 => by
          have e1 := HS.out t h (by omega) (by omega)
          have e2 : G h < x := by simpa [ltInt] using hl
          omega, hh.out.2⟩, HW.out⟩
        case measure => simp [RowKit.intOf]; omega
    · have e : i = j := by omega
      subst e
      have hltz : ¬ (i : Int) < (i : Int) := by omega
      by_cases hin : i < n
      · have hinz : (i : Int) < (n : Int) := by omega
        cases hq : (G i == x)
        · go_wp2_with (go_at_call 176; refine (oNaN2 _ _).mono ?_; rintro e w2 ⟨rfl, rfl⟩)
          go_ret2
          first | exact ⟨i, ⟨_, rfl⟩, hjn, hh.out.1, hh.out.2, by rw [HW.out]; exact below_drewN (Below.refl _ _) _⟩ | exact ⟨i, rfl, hjn, hh.out.1, hh.out.2, by rw [HW.out]; exact below_drewN (Below.refl _ _) _⟩ | exact ⟨i, _, rfl, hjn, hh.out.1, hh.out.2, by rw [HW.out]; exact below_drewN (Below.refl _ _) _⟩
        · go_wp2_with (go_at_call 176; refine (oNaN2 _ _).mono ?_; rintro e w2 ⟨rfl, rfl⟩)
          go_ret2
          first | exact ⟨i, ⟨_, rfl⟩, hjn, hh.out.1, hh.out.2, by rw [HW.out]; exact below_drewN (Below.refl _ _) _⟩ | exact ⟨i, rfl, hjn, hh.out.1, hh.out.2, by rw [HW.out]; exact below_drewN (Below.refl _ _) _⟩ | exact ⟨i, _, rfl, hjn, hh.out.1, hh.out.2, by rw [HW.out]; exact below_drewN (Below.refl _ _) _⟩
      · have hinz : (n : Int) ≤ (i : Int) := by omega
        go_wp2
        go_ret2
        first | exact ⟨i, ⟨_, rfl⟩, hjn, hh.out.1, hh.out.2, by rw [HW.out]; exact below_drewN (Below.refl _ _) _⟩ | exact ⟨i, rfl, hjn, hh.out.1, hh.out.2, by rw [HW.out]; exact below_drewN (Below.refl _ _) _⟩ | exact ⟨i, _, rfl, hjn, hh.out.1, hh.out.2, by rw [HW.out]; exact below_drewN (Below.refl _ _) _⟩
end Go.Proofs.YtcfhblbmpbfoaaaGreatDoor
