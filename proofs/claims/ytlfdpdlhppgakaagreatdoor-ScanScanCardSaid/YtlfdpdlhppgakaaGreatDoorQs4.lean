/- Parts of the proof of what the last text says. -/
import Derived.Test.YtlfdpdlhppgakaaGreatDoorQs3
import Derived.Deep.AppendLies
import Derived.Test.YtlfdpdlhppgakaaGreatDoorQs1
import Derived.Shelf.Strings.Builder1
import Derived.Shelf.Strings.Builder2
import Derived.Shelf.Strings.OnBuilder
import Derived.Shelf.Strings.BuilderF
import Derived.Shelf.Strings.BuilderK
import Derived.Shelf.Strings.Builder2Cap
import Derived.Shelf.LaysM
import Derived.Shelf.LaysC
import Derived.Shelf.Strings.FieldsFuncAny
import Derived.Shelf.Strings.BuilderCap
import Derived.Test.YtlfdpdlhppgakaaGreatDoorProg
import Derived.WalkKit
import Derived.WalkMore
import Derived.Scope
import Derived.Lib.Hide
/- What is the same of any program: a drawn region operation by operation, as in K6; what holds of the world may hang on which operations are done (so a cell may be loaded and, at the end, stored). -/
namespace Go.Kt
open Go

section
variable {P : Program} {ops : Array Oper} {Q : Exit → Act → World → Prop} {md : Region.Mode}

/-- Operation j waits for operation i. -/
def awaits (md : Region.Mode) (ops : Array Oper) (j i : Nat) : Bool := match ops[j]? with | some o => waitsB md o i | none => false
/-- One operation: D tells what is done. -/
def DStep (P : Program) (md : Region.Mode) (ops : Array Oper) (Q : Exit → Act → World → Prop) (S : (Nat → Bool) → World → Prop) (p : Nat → Value → World → Prop) (a0 : Act) (i : Nat) (o : Oper) : Prop :=
  ∀ (D : Nat → Bool) a w, D i = false → (∀ j, awaits md ops j i = true → D j = false) → (∀ j, waitsB md o j = true → D j = true) → S D w → Like ops a0 a → (∀ j k, waitsB md o j = true → slotB ops j k = true → p j (a.tmps.getD k undef) w) →
    Region.wanted o (yielded ops a.tmps) = true ∧ o.wp P a w (fun a' w' => ∃ v, a' = a.put o.dst v ∧ S (fun j => D j || j == i) w' ∧ (∀ j u, D j = true → p j u w → p j u w') ∧ p i v w') Q
def DSteps (P : Program) (md : Region.Mode) (ops : Array Oper) (Q : Exit → Act → World → Prop) (S : (Nat → Bool) → World → Prop) (p : Nat → Value → World → Prop) (a0 : Act) : Nat → List Oper → Prop
  | _, [] => True
  | i, o :: r => DStep P md ops Q S p a0 i o ∧ DSteps P md ops Q S p a0 (i + 1) r
theorem DSteps.get {S : (Nat → Bool) → World → Prop} {p : Nat → Value → World → Prop} {a0 : Act} : ∀ (l : List Oper) (i : Nat), DSteps P md ops Q S p a0 i l → ∀ j o, l[j]? = some o → DStep P md ops Q S p a0 (i + j) o
  | [], _, _, j, o, h => by simp at h
  | x :: r, i, hs, 0, o, h => by simp at h; subst h; exact hs.1
  | x :: r, i, hs, j + 1, o, h => by
    have := DSteps.get r (i + 1) hs.2 j o (by simpa using h)
    rw [show i + (j + 1) = i + 1 + j by omega]; exact this
theorem DSteps.cons {S : (Nat → Bool) → World → Prop} {p : Nat → Value → World → Prop} {a0 : Act} {i : Nat} {o : Oper} {r : List Oper} (h : DStep P md ops Q S p a0 i o) (hr : DSteps P md ops Q S p a0 (i + 1) r) : DSteps P md ops Q S p a0 i (o :: r) := ⟨h, hr⟩
theorem DSteps.nil {S : (Nat → Bool) → World → Prop} {p : Nat → Value → World → Prop} {a0 : Act} {i : Nat} : DSteps P md ops Q S p a0 i [] := trivial

theorem set_done (listed : Array Bool) (i : Nat) (hi : i < listed.size) : (fun j => (listed.setIfInBounds i true).getD j false) = fun j => listed.getD j false || j == i := by
  funext j
  simp only [Array.getD_eq_getD_getElem?, Array.getElem?_setIfInBounds]
  by_cases h : i = j
  · subst h; simp [hi]
  · rw [if_neg h]
    have : (j == i) = false := by simp; omega
    rw [this, Bool.or_false]

/-- A drawn region, operation by operation; S D w: what holds of the world when D is done. -/
theorem wp_region_done {id : Nat} {a0 : Act} {w0 : World} (S : (Nat → Bool) → World → Prop) (p : Nat → Value → World → Prop) (hm : P.follows .mixedOrders = true) (hap : apartB ops a0.tmps.size = true) (hfw : forwardB .any ops = true)
    (hS : S (fun _ => false) w0.drew) (hs : DSteps P .any ops Q S p a0 0 ops.toList)
    (hd : ∀ D a w, (∀ j, j < ops.size → D j = true) → S D w → Like ops a0 a → (∀ j k, slotB ops j k = true → p j (a.tmps.getD k undef) w) → (∀ j, j < ops.size → ∃ v, p j v w) → Q .normal a w) : (Code.region id ops true).wp P Q a0 w0 := by
  have hdst : ∀ (i : Nat) (o : Oper) (k : Nat), ops[i]? = some o → o.dst = some k → k < a0.tmps.size ∧ ∀ (j : Nat) (oj : Oper), ops[j]? = some oj → oj.dst = some k → i = j := by
    intro i o k ho hk
    have hi := (Array.getElem?_eq_some_iff.1 ho).1
    have h1 := List.all_eq_true.1 hap i (List.mem_range.2 hi)
    have h2 : ops.getD i default = o := by simp [Array.getD_eq_getD_getElem?, ho]
    rw [h2, hk] at h1
    simp only [Bool.and_eq_true, decide_eq_true_eq] at h1
    refine ⟨h1.1, fun j oj hj hjk => ?_⟩
    have hj' := (Array.getElem?_eq_some_iff.1 hj).1
    have h3 := List.all_eq_true.1 h1.2 j (List.mem_range.2 hj')
    have h4 : ops.getD j default = oj := by simp [Array.getD_eq_getD_getElem?, hj]
    rw [h4, hjk] at h3
    simpa using h3
  refine wp_region_any hm ?_
  refine wpAny_inv (fun listed a w => listed.size = ops.size ∧ S (fun j => listed.getD j false) w ∧ (∀ j k, listed.getD j false = true → awaits .any ops j k = true → listed.getD k false = true) ∧ Like ops a0 a ∧ (∀ j, listed.getD j false = true → ∃ v, p j v w) ∧ ∀ j k, listed.getD j false = true → slotB ops j k = true → p j (a.tmps.getD k undef) w) ?_ ?_ _ _ _ _ ?_ ⟨by simp, by rw [show (fun j => (Array.replicate ops.size false).getD j false) = fun _ => false from funext fun j => by simp only [Array.getD_eq_getD_getElem?, Array.getElem?_replicate]; split <;> rfl]; exact hS, ?_, ⟨rfl, rfl, fun _ _ => rfl⟩, ?_, ?_⟩
  · rintro listed a w i ⟨hz, hSw, hC, hL, hE, hP⟩ hi
    obtain ⟨hjun, o, ho, hall⟩ := mem_ready.1 hi
    have hilt := (Array.getElem?_eq_some_iff.1 ho).1
    have hin : listed.getD i false = false := by
      have hi2 : i < listed.size := by omega
      simpa [Array.getD_eq_getD_getElem?, hi2] using hjun
    have hw8 : ∀ j, waitsB .any o j = true → listed.getD j false = true := fun j hj => by
      unfold waitsB at hj
      obtain ⟨e, he, h2⟩ := Array.any_eq_true'.1 hj
      simp only [Bool.and_eq_true, beq_iff_eq] at h2
      have := hall e he h2.2
      rw [h2.1] at this
      exact this
    have hst := DSteps.get ops.toList 0 hs i o (by simpa using ho)
    rw [Nat.zero_add] at hst
    obtain ⟨hw, hx⟩ := hst (fun j => listed.getD j false) a w hin (fun j hj => by
      cases hl : listed.getD j false with
      | false => rfl
      | true => have := hC j i hl hj; rw [hin] at this; cases this) hw8 hSw hL (fun j k hj hk => hP j k (hw8 j hj) hk)
    unfold wpOp
    simp only [ho, hw, if_true]
    refine .inl (Oper.wp_mono ?_ hx)
    rintro a' w' ⟨v, rfl, hS', hR', hpv⟩
    refine ⟨by simpa using hz, by rw [set_done listed i (by omega)]; exact hS', ?_, ⟨?_, ?_, fun k hk => ?_⟩, fun j hj => ?_, fun j k hj hk => ?_⟩
    · intro j k hj hk
      have hd1 := congrFun (set_done listed i (by omega))
      rw [hd1] at hj ⊢
      rw [Bool.or_eq_true] at hj ⊢
      left
      rcases hj with hj | hj
      · exact hC j k hj hk
      · have : j = i := by simpa using hj
        subst this
        unfold awaits at hk
        rw [ho] at hk
        exact hw8 k hk
    · cases h : o.dst <;> exact hL.defers
    · cases h : o.dst
      · exact hL.size
      · simp only [Act.put, Array.size_setIfInBounds]; exact hL.size
    · cases h : o.dst with
      | none => exact hL.far k hk
      | some d =>
        have hne : d ≠ k := fun e => by
          subst e
          unfold outside at hk
          have := Array.all_eq_true.1 hk i hilt
          rw [(Array.getElem?_eq_some_iff.1 ho).2, h] at this
          simp at this
        simp only [Act.put, Array.getD_eq_getD_getElem?, Array.getElem?_setIfInBounds, if_neg hne]
        have := hL.far k hk
        simpa only [Array.getD_eq_getD_getElem?] using this
    · by_cases hji : j = i
      · subst hji; exact ⟨v, hpv⟩
      · have hjl : listed.getD j false = true := by
          simp only [Array.getD_eq_getD_getElem?, Array.getElem?_setIfInBounds, if_neg (Ne.symm hji)] at hj ⊢
          exact hj
        obtain ⟨u, hu⟩ := hE j hjl
        exact ⟨u, hR' j _ hjl hu⟩
    · obtain ⟨oj, hoj, hjk⟩ : ∃ oj, ops[j]? = some oj ∧ oj.dst = some k := by
        unfold slotB at hk
        cases h : ops[j]? with
        | none => rw [h] at hk; cases hk
        | some oj => rw [h] at hk; exact ⟨oj, rfl, by simpa using hk⟩
      by_cases hji : j = i
      · subst hji
        rw [hoj] at ho
        cases ho
        have hkz := (hdst j _ k hoj hjk).1
        rw [hjk]
        have : (a.put (some k) v).tmps.getD k undef = v := by
          have : k < a.tmps.size := by rw [hL.size]; exact hkz
          simp [Act.put, Array.getD_eq_getD_getElem?, this]
        rw [this]
        exact hpv
      · have hjl : listed.getD j false = true := by
          simp only [Array.getD_eq_getD_getElem?, Array.getElem?_setIfInBounds, if_neg (Ne.symm hji)] at hj ⊢
          exact hj
        have h1 := hR' j _ hjl (hP j k hjl hk)
        cases h : o.dst with
        | none => exact h1
        | some d =>
          have hne : d ≠ k := fun e => by
            subst e
            exact hji ((hdst i o d ho h).2 j oj hoj hjk).symm
          simp only [Act.put, Array.getD_eq_getD_getElem?, Array.getElem?_setIfInBounds, if_neg hne] at h1 ⊢
          exact h1
  · rintro listed a w ⟨hz, hSw, hC, hL, hE, hP⟩ hr
    have hall : ∀ n j, j < n → j < ops.size → listed.getD j false = true := by
      intro n
      induction n with
      | zero => intro j h; omega
      | succ n ih =>
        intro j hjn hj
        cases hl : listed.getD j true with
        | true =>
          have : j < listed.size := by omega
          simpa [Array.getD_eq_getD_getElem?, this] using hl
        | false =>
          exfalso
          have hmem : j ∈ Region.ready .any ops listed := mem_ready.2 ⟨hl, ops[j], by simp [hj], fun e he hb => by
            have h1 := List.all_eq_true.1 hfw j (List.mem_range.2 hj)
            have h2 : ops.getD j default = ops[j] := by simp [Array.getD_eq_getD_getElem?, hj]
            rw [h2] at h1
            have h3 := Array.all_eq_true_iff_forall_mem.1 h1 e he
            rw [hb] at h3
            simp at h3
            exact ih e.on (by omega) (by omega)⟩
          rw [hr] at hmem
          cases hmem
    refine hd _ a w (fun j hj => hall (j + 1) j (by omega) hj) hSw hL (fun j k hk => hP j k (hall (j + 1) j (by omega) ?_) hk) (fun j hj => hE j (hall (j + 1) j (by omega) hj))
    unfold slotB at hk
    cases h : ops[j]? with
    | none => rw [h] at hk; cases hk
    | some oj => exact (Array.getElem?_eq_some_iff.1 h).1
  · unfold unlisted
    exact Nat.le_trans (List.length_filter_le _ _) (by simp)
  · intro j k hj
    simp only [Array.getD_eq_getD_getElem?, Array.getElem?_replicate] at hj
    split at hj <;> simp at hj
  · intro j hj
    simp only [Array.getD_eq_getD_getElem?, Array.getElem?_replicate] at hj
    split at hj <;> simp at hj
  · intro j k hj
    simp only [Array.getD_eq_getD_getElem?, Array.getElem?_replicate] at hj
    split at hj <;> simp at hj
end
end Go.Kt
/- The scanner's add: a token behind the others (written by wip/tools/gen_add.py). -/
namespace Go.Proofs.YtlfdpdlhppgakaaGreatDoor
open Go Go.RowKit Go.Kt Go.Shelf
attribute [local go_sem] Oper.semAt_some

theorem tinfoTok : (Tryz.prog.info? 39).map (fun i => (i.zero, i.size, i.bytes)) = some (some (.agg #[.int .i64 0, .string ⟨#[]⟩, .int .i64 0, .int .i64 0, .int .i64 0]), 5, 48) := by kernel_rfl
theorem set_13 {W : World} {g : Nat} {s : ByteArray} {st l1 c1 i1 l2 c2 i2 l3 c3 i3 bh : Int} {tv kv u : Value} {T : TypeId} (h : W.heap[g]? = some (.cells (scC s st l1 c1 i1 l2 c2 i2 tv l3 c3 i3 bh kv) T (0, 0))) :
    (W.setCell ⟨g, 13, none⟩ u).heap[g]? = some (.cells (scC s st l1 c1 i1 l2 c2 i2 tv l3 c3 i3 bh u) T (0, 0)) := by
  have hlt := (Array.getElem?_eq_some_iff.1 h).1
  have h' : W.heap[g] = .cells (scC s st l1 c1 i1 l2 c2 i2 tv l3 c3 i3 bh kv) T (0, 0) := by rw [Array.getElem?_eq_getElem hlt] at h; exact Option.some.inj h
  simp [World.setCell, hlt, Array.getElem_modify, h']

def AddRow (g n : Nat) (w : World) (kv : Value) (l : List Value) (v : Value) (W : World) : Prop :=
  ∃ g2 cap, v = .slice (some ⟨g2, 0, none⟩) (n + 1) cap ∧ OwnS (fun b => (kv.ownBlock = some b ∨ w.heap.size ≤ b) ∧ b ≠ g) 39 5 v (n + 1) l W
theorem AddRow.keep {g n : Nat} {w : World} {kv : Value} {l : List Value} {v : Value} {A B : World} {X : Nat → Prop} (h : AddRow g n w kv l v A) (hk : Keep X A B) (hX : ∀ b, X b → b = g) : AddRow g n w kv l v B := by
  obtain ⟨g2, cap, e, ho⟩ := h
  exact ⟨g2, cap, e, ho.keep hk (fun b hb hy => hy.2 (hX b hb))⟩
theorem AddRow.store {g n : Nat} {w : World} {kv : Value} {l : List Value} {v u : Value} {A : World} {k : Nat} (h : AddRow g n w kv l v A) : AddRow g n w kv l v (A.setCell ⟨g, k, none⟩ u) :=
  h.keep (X := fun b => b = g) (Keep.setCell (X := fun b => b = g) (Keep.refl _ A) (p := ⟨g, k, none⟩) rfl u) (fun _ h => h)
def AddS (g n : Nat) (w : World) (kv : Value) (xs : List Value) (CS : Value → Array Value) (D : Nat → Bool) (X : World) : Prop :=
  (D 28 = false → X.heap[g]? = some (.cells (CS kv) 53 (0, 0))) ∧ (D 25 = false → OwnS (fun b => b ≠ g) 39 5 kv n xs X) ∧ Keep (fun b => b = g ∨ kv.ownBlock = some b) w X
section
variable {g n : Nat} {w : World} {kv : Value} {xs : List Value} {CS : Value → Array Value} {D : Nat → Bool} {X Y : World}
theorem or_l {a b : Bool} (h : (a || b) = false) : a = false := by cases a <;> simp_all
theorem AddS.more (h : AddS g n w kv xs CS D X) {i : Nat} : AddS g n w kv xs CS (fun j => D j || j == i) X := ⟨fun e => h.1 (or_l e), fun e => h.2.1 (or_l e), h.2.2⟩
theorem AddS.below (h : AddS g n w kv xs CS D X) (hb : Below X.heap.size X Y) : AddS g n w kv xs CS D Y :=
  ⟨fun e => (hb.block g (Array.getElem?_eq_some_iff.1 (h.1 e)).1).trans (h.1 e), fun e => (h.2.1 e).keep (X := fun _ => False) (Keep.of_all hb) (fun _ h => h.elim), h.2.2.then (hb.mono h.2.2.size)⟩
theorem AddS.app (h : AddS g n w kv xs CS D X) (hkg : kv.ownBlock ≠ some g) (h28 : D 28 = false) (hk : Keep (fun b => kv.ownBlock = some b) X Y) : AddS g n w kv xs CS (fun j => D j || j == 25) Y :=
  ⟨fun _ => hk.heap (h.1 h28) hkg, fun e => by simp at e, h.2.2.trans (hk.weaken fun _ _ h => Or.inr h)⟩
theorem AddS.store {u : Value} {k : Nat} (h : AddS g n w kv xs CS D X) (_h28 : D 28 = false) : AddS g n w kv xs CS (fun j => D j || j == 28) (X.setCell ⟨g, k, none⟩ u) :=
  ⟨fun e => by simp at e, fun e => (h.2.1 (or_l e)).keep (X := fun b => b = g) (Keep.setCell (X := fun b => b = g) (Keep.refl _ X) (p := ⟨g, k, none⟩) rfl u) (fun _ h1 h2 => h2 h1), h.2.2.setCell (Or.inl rfl) u⟩
end
def valA (g : Nat) (kv : Value) (kind : Int) (t : ByteArray) (l2 c2 i2 : Int) (i : Nat) : Option Value := match i with
  | 0 => some (.pointer (some ⟨g, 0, none⟩))
  | 1 => some (.pointer (some ⟨g, 0, none⟩))
  | 2 => some (.pointer (some ⟨g, 0, none⟩))
  | 3 => some (.pointer (some ⟨g, 13, none⟩))
  | 4 => some (kv)
  | 5 => some (.int .i64 kind)
  | 6 => some (.string t)
  | 7 => some (.string t)
  | 8 => some (.pointer (some ⟨g, 0, none⟩))
  | 9 => some (.pointer (some ⟨g, 0, none⟩))
  | 10 => some (.pointer (some ⟨g, 5, none⟩))
  | 11 => some (.pointer (some ⟨g, 5, none⟩))
  | 12 => some (.int .i64 l2)
  | 13 => some (.pointer (some ⟨g, 0, none⟩))
  | 14 => some (.pointer (some ⟨g, 0, none⟩))
  | 15 => some (.pointer (some ⟨g, 5, none⟩))
  | 16 => some (.pointer (some ⟨g, 6, none⟩))
  | 17 => some (.int .i64 c2)
  | 18 => some (.pointer (some ⟨g, 0, none⟩))
  | 19 => some (.pointer (some ⟨g, 0, none⟩))
  | 20 => some (.pointer (some ⟨g, 5, none⟩))
  | 21 => some (.pointer (some ⟨g, 7, none⟩))
  | 22 => some (.int .i64 i2)
  | 23 => some (.agg #[.int .i64 kind, .string t, .int .i64 l2, .int .i64 c2, .int .i64 i2])
  | 26 => some (.pointer (some ⟨g, 0, none⟩))
  | 27 => some (.pointer (some ⟨g, 13, none⟩))
  | _ => none
def AddP (g n : Nat) (w : World) (kv : Value) (xs : List Value) (kind : Int) (t : ByteArray) (l2 c2 i2 : Int) (CS : Value → Array Value) (i : Nat) (v : Value) (W : World) : Prop :=
  (∀ u, valA g kv kind t l2 c2 i2 i = some u → v = u) ∧
  (i = 24 → ∃ b, v = .slice (some ⟨b, 0, none⟩) 1 1 ∧ W.heap[b]? = some (.cells #[.int .i64 kind, .string t, .int .i64 l2, .int .i64 c2, .int .i64 i2] 39 (0, 0)) ∧ w.heap.size ≤ b) ∧
  (i = 25 → AddRow g n w kv (xs ++ [.int .i64 kind, .string t, .int .i64 l2, .int .i64 c2, .int .i64 i2]) v W) ∧
  (i = 28 → ∃ u, AddRow g n w kv (xs ++ [.int .i64 kind, .string t, .int .i64 l2, .int .i64 c2, .int .i64 i2]) u W ∧ W.heap[g]? = some (.cells (CS u) 53 (0, 0)))
section
variable {g n : Nat} {w : World} {kv : Value} {xs : List Value} {kind : Int} {t : ByteArray} {l2 c2 i2 : Int} {CS : Value → Array Value} {i : Nat} {v u : Value} {W Y : World}
theorem AddP.val (h : AddP g n w kv xs kind t l2 c2 i2 CS i v W) (e : valA g kv kind t l2 c2 i2 i = some u) : v = u := h.1 u e
theorem AddP.mk (e : valA g kv kind t l2 c2 i2 i = some v) (hi : i ≠ 24 ∧ i ≠ 25 ∧ i ≠ 28) : AddP g n w kv xs kind t l2 c2 i2 CS i v W :=
  ⟨fun u h => by rw [e] at h; exact Option.some.inj h, fun h => absurd h hi.1, fun h => absurd h hi.2.1, fun h => absurd h hi.2.2⟩
theorem AddP.bs (h : ∃ b, v = .slice (some ⟨b, 0, none⟩) 1 1 ∧ W.heap[b]? = some (.cells #[.int .i64 kind, .string t, .int .i64 l2, .int .i64 c2, .int .i64 i2] 39 (0, 0)) ∧ w.heap.size ≤ b) : AddP g n w kv xs kind t l2 c2 i2 CS 24 v W :=
  ⟨fun u h => by simp [valA] at h, fun _ => h, fun h => by omega, fun h => by omega⟩
theorem AddP.row (h : AddRow g n w kv (xs ++ [.int .i64 kind, .string t, .int .i64 l2, .int .i64 c2, .int .i64 i2]) v W) : AddP g n w kv xs kind t l2 c2 i2 CS 25 v W :=
  ⟨fun u h => by simp [valA] at h, fun h => by omega, fun _ => h, fun h => by omega⟩
theorem AddP.last (h : ∃ u, AddRow g n w kv (xs ++ [.int .i64 kind, .string t, .int .i64 l2, .int .i64 c2, .int .i64 i2]) u W ∧ W.heap[g]? = some (.cells (CS u) 53 (0, 0))) : AddP g n w kv xs kind t l2 c2 i2 CS 28 v W :=
  ⟨fun u h => by simp [valA] at h, fun h => by omega, fun h => by omega, fun _ => h⟩
theorem AddP.below (h : AddP g n w kv xs kind t l2 c2 i2 CS i v W) (hb : Below W.heap.size W Y) : AddP g n w kv xs kind t l2 c2 i2 CS i v Y := by
  have hk : Keep (fun _ => False) W Y := Keep.of_all hb
  refine ⟨h.1, fun e => ?_, fun e => (h.2.2.1 e).keep hk (fun _ h => h.elim), fun e => ?_⟩
  · obtain ⟨b, h1, h2, h3⟩ := h.2.1 e
    exact ⟨b, h1, hk.heap h2 (fun h => h), h3⟩
  · obtain ⟨u, h1, h2⟩ := h.2.2.2 e
    exact ⟨u, h1.keep hk (fun _ h => h.elim), hk.heap h2 (fun h => h)⟩
theorem AddP.app (h : AddP g n w kv xs kind t l2 c2 i2 CS i v W) (hkv : ∀ b, kv.ownBlock = some b → b < w.heap.size) (hk : Keep (fun b => kv.ownBlock = some b) W Y) (h25 : i ≠ 25) (h28 : i ≠ 28) : AddP g n w kv xs kind t l2 c2 i2 CS i v Y := by
  refine ⟨h.1, fun e => ?_, fun e => absurd e h25, fun e => absurd e h28⟩
  obtain ⟨b, h1, h2, h3⟩ := h.2.1 e
  exact ⟨b, h1, hk.heap h2 (fun h => by have := hkv b h; omega), h3⟩
theorem AddP.store {k : Nat} (h : AddP g n w kv xs kind t l2 c2 i2 CS i v W) (hgl : g < w.heap.size) (h28 : i ≠ 28) : AddP g n w kv xs kind t l2 c2 i2 CS i v (W.setCell ⟨g, k, none⟩ u) := by
  have hk : Keep (fun b => b = g) W (W.setCell ⟨g, k, none⟩ u) := Keep.setCell (X := fun b => b = g) (Keep.refl _ W) (p := ⟨g, k, none⟩) rfl u
  refine ⟨h.1, fun e => ?_, fun e => (h.2.2.1 e).store, fun e => absurd e h28⟩
  obtain ⟨b, h1, h2, h3⟩ := h.2.1 e
  exact ⟨b, h1, hk.heap h2 (fun h => by omega), h3⟩
theorem addRow_app {D : Nat → Bool} {l : List Value} {g2 cap : Nat} (hX : AddS g n w kv xs CS D W) (hkg : kv.ownBlock ≠ some g) (hgl : g < w.heap.size) (ho : Y.ownsRow 0 39 5 (.slice (some ⟨g2, 0, none⟩) (n + 1) cap) (n + 1) l) (hat : kv.ownBlock = some g2 ∨ g2 = W.heap.size) :
    AddRow g n w kv l (.slice (some ⟨g2, 0, none⟩) (n + 1) cap) Y := by
  have hz := hX.2.2.size
  refine ⟨g2, cap, rfl, ho, fun b hb => ?_⟩
  have : g2 = b := by simpa [Value.ownBlock] using hb
  subst this
  rcases hat with h | h
  · exact ⟨.inl h, fun e => hkg (e ▸ h)⟩
  · exact ⟨.inr (by omega), by omega⟩
end

set_option maxHeartbeats 4000000 in
set_option maxRecDepth 100000 in
theorem add_raw (s : ByteArray) (st l1 c1 i1 l2 c2 i2 l3 c3 i3 bh : Int) (tv kv : Value) (g : Nat) (w : World) (kind : Int) (t : ByteArray) (n : Nat) (xs : List Value) (hg : w.heap[g]? = some (.cells (scC s st l1 c1 i1 l2 c2 i2 tv l3 c3 i3 bh kv) 53 (0, 0)))
    (hown : OwnS (fun b => b ≠ g) 39 5 kv n xs w) (hn : n ≤ 2097152) (ht : t.size ≤ 140737488351232) :
    Calls Tryz.prog 48 #[.pointer (some ⟨g, 0, none⟩), .int .i64 kind, .string t] w fun e w' => e = .returned (.tuple #[]) ∧ ∃ kv', w'.heap[g]? = some (.cells (scC s st l1 c1 i1 l2 c2 i2 tv l3 c3 i3 bh kv') 53 (0, 0)) ∧
      OwnS (fun b => (kv.ownBlock = some b ∨ w.heap.size ≤ b) ∧ b ≠ g) 39 5 kv' (n + 1) (xs ++ [.int .i64 kind, .string t, .int .i64 l2, .int .i64 c2, .int .i64 i2]) w' ∧ Keep (fun b => b = g ∨ kv.ownBlock = some b) w w' := by
  have hgl : g < w.heap.size := (Array.getElem?_eq_some_iff.1 hg).1
  have hkg : kv.ownBlock ≠ some g := fun h => hown.2 g h rfl
  have hkv : ∀ b, kv.ownBlock = some b → b < w.heap.size := fun b h => (hown.1.lt b h).2
  have CC := Lib.hid (fun w => clone_any t w ht)
  obtain ⟨ti, hti, hz, hs1, hb1⟩ := info_parts tinfoTok
  have HI := And.intro hti (And.intro hz (And.intro hs1 hb1))
  have HOC : ∀ u ∈ [Value.int .i64 kind, .string t, .int .i64 l2, .int .i64 c2, .int .i64 i2], u.oneCell' = true := by intro u hu; simp at hu; rcases hu with rfl | rfl | rfl | rfl | rfl <;> rfl
  have HM1 : n + 1 ≤ maxLen := by unfold maxLen; omega
  have HM2 : (n + 1) * 48 ≤ 140737488355328 := by omega
  obtain ⟨CS, hCS⟩ : ∃ CS : Value → Array Value, CS = fun u => scC s st l1 c1 i1 l2 c2 i2 tv l3 c3 i3 bh u := ⟨_, rfl⟩
  have FS7 : ∀ W : World, (Instr.fieldAt 53 (.pointer (some ⟨g, 0, none⟩)) 7).run Tryz.prog W = .ok (.pointer (some ⟨g, 13, none⟩)) W := fun W => by go_simp
  have FS3 : ∀ W : World, (Instr.fieldAt 53 (.pointer (some ⟨g, 0, none⟩)) 3).run Tryz.prog W = .ok (.pointer (some ⟨g, 5, none⟩)) W := fun W => by go_simp
  have FP0 : ∀ W : World, (Instr.fieldAt 50 (.pointer (some ⟨g, 5, none⟩)) 0).run Tryz.prog W = .ok (.pointer (some ⟨g, 5, none⟩)) W := fun W => by go_simp
  have FP1 : ∀ W : World, (Instr.fieldAt 50 (.pointer (some ⟨g, 5, none⟩)) 1).run Tryz.prog W = .ok (.pointer (some ⟨g, 6, none⟩)) W := fun W => by go_simp
  have FP2 : ∀ W : World, (Instr.fieldAt 50 (.pointer (some ⟨g, 5, none⟩)) 2).run Tryz.prog W = .ok (.pointer (some ⟨g, 7, none⟩)) W := fun W => by go_simp
  have L13 : ∀ W : World, W.heap[g]? = some (.cells (CS kv) 53 (0, 0)) → (Instr.loadAt 24 (.pointer (some ⟨g, 13, none⟩))).run Tryz.prog W = .ok kv W := fun W h => by
    subst hCS
    have q : W.cell? ⟨g, 13, none⟩ = some kv := by rw [Lib.cell_of_heap h]; rfl
    go_simp
  have L5 : ∀ W : World, W.heap[g]? = some (.cells (CS kv) 53 (0, 0)) → (Instr.loadAt 3 (.pointer (some ⟨g, 5, none⟩))).run Tryz.prog W = .ok (.int .i64 l2) W := fun W h => by
    subst hCS
    have q : W.cell? ⟨g, 5, none⟩ = some (.int .i64 l2) := by rw [Lib.cell_of_heap h]; rfl
    go_simp
  have L6 : ∀ W : World, W.heap[g]? = some (.cells (CS kv) 53 (0, 0)) → (Instr.loadAt 3 (.pointer (some ⟨g, 6, none⟩))).run Tryz.prog W = .ok (.int .i64 c2) W := fun W h => by
    subst hCS
    have q : W.cell? ⟨g, 6, none⟩ = some (.int .i64 c2) := by rw [Lib.cell_of_heap h]; rfl
    go_simp
  have L7 : ∀ W : World, W.heap[g]? = some (.cells (CS kv) 53 (0, 0)) → (Instr.loadAt 3 (.pointer (some ⟨g, 7, none⟩))).run Tryz.prog W = .ok (.int .i64 i2) W := fun W h => by
    subst hCS
    have q : W.cell? ⟨g, 7, none⟩ = some (.int .i64 i2) := by rw [Lib.cell_of_heap h]; rfl
    go_simp
  have ST : ∀ (W : World) (g2 m cap : Nat), W.heap[g]? = some (.cells (CS kv) 53 (0, 0)) → (Instr.storeAt 24 (.pointer (some ⟨g, 13, none⟩)) (.slice (some ⟨g2, 0, none⟩) m cap)).run Tryz.prog W = .ok () (W.setCell ⟨g, 13, none⟩ (.slice (some ⟨g2, 0, none⟩) m cap)) := fun W g2 m cap h => by
    subst hCS
    have q : W.cell? ⟨g, 13, none⟩ = some kv := by rw [Lib.cell_of_heap h]; rfl
    have q2 : W.frozen? ⟨g, 13, none⟩ = false := by simp [World.frozen?, h]
    go_simp
  have BB : ∀ W : World, (Instr.build 39 #[(0, .int .i64 kind), (1, .string t), (2, .int .i64 l2), (3, .int .i64 c2), (4, .int .i64 i2)]).run Tryz.prog W = .ok (.agg #[.int .i64 kind, .string t, .int .i64 l2, .int .i64 c2, .int .i64 i2]) W := fun W => by go_simp
  have BS : ∀ W : World, (Instr.buildSlice 24 1 #[(0, .agg #[.int .i64 kind, .string t, .int .i64 l2, .int .i64 c2, .int .i64 i2])]).run Tryz.prog W = .ok (.slice (some ⟨W.heap.size, 0, none⟩) 1 1) (W.alloc (.cells #[.int .i64 kind, .string t, .int .i64 l2, .int .i64 c2, .int .i64 i2] 39)) := fun W => by go_simp
  have H0 : AddS g n w kv xs CS (fun _ => false) w.drew := ⟨fun _ => by rw [hCS]; exact hg, fun _ => hown, (Keep.refl _ w).drew⟩
  have set_13 : ∀ {W : World} {u : Value}, W.heap[g]? = some (.cells (CS kv) 53 (0, 0)) → (W.setCell ⟨g, 13, none⟩ u).heap[g]? = some (.cells (CS u) 53 (0, 0)) := fun h => by subst hCS; exact set_13 h
  clear hg hown ht hti hz hs1 hb1
  go_enter Tryz.func48, Tryz.ntmps48
  go_wp2
  refine wp_region_done (AddS g n w kv xs CS) (AddP g n w kv xs kind t l2 c2 i2 CS) (by kernel_rfl) (by kernel_rfl) (by kernel_rfl) H0 ?hs ?hd
  case hs =>
   refine DSteps.cons ?_ (DSteps.cons ?_ (DSteps.cons ?_ (DSteps.cons ?_ (DSteps.cons ?_ (DSteps.cons ?_ (DSteps.cons ?_ (DSteps.cons ?_ (DSteps.cons ?_ (DSteps.cons ?_ (DSteps.cons ?_ (DSteps.cons ?_ (DSteps.cons ?_ (DSteps.cons ?_ (DSteps.cons ?_ (DSteps.cons ?_ (DSteps.cons ?_ (DSteps.cons ?_ (DSteps.cons ?_ (DSteps.cons ?_ (DSteps.cons ?_ (DSteps.cons ?_ (DSteps.cons ?_ (DSteps.cons ?_ (DSteps.cons ?_ (DSteps.cons ?_ (DSteps.cons ?_ (DSteps.cons ?_ (DSteps.cons ?_ (DSteps.nil)))))))))))))))))))))))))))))
   · intro D a X hDi hDa _ hX hL hd
     refine ⟨rfl, ?_⟩
     have e0 : a.eval (.tmp 0) = .pointer (some ⟨g, 0, none⟩) := hL.far 0 (by kernel_rfl)
     exact wp_value (exec_move rfl e0) ⟨_, rfl, hX.more, fun _ _ _ h => h, AddP.mk rfl (by decide)⟩
   · intro D a X hDi hDa _ hX hL hd
     refine ⟨rfl, ?_⟩
     have e0 : a.eval (.tmp 0) = .pointer (some ⟨g, 0, none⟩) := hL.far 0 (by kernel_rfl)
     exact wp_value (exec_move rfl e0) ⟨_, rfl, hX.more, fun _ _ _ h => h, AddP.mk rfl (by decide)⟩
   · intro D a X hDi hDa _ hX hL hd
     refine ⟨rfl, ?_⟩
     have e0 : a.eval (.tmp 7) = .pointer (some ⟨g, 0, none⟩) := (hd 1 7 (by kernel_rfl) (by kernel_rfl)).val rfl
     exact wp_value (exec_nilCheck rfl e0) ⟨_, rfl, hX.more, fun _ _ _ h => h, AddP.mk rfl (by decide)⟩
   · intro D a X hDi hDa _ hX hL hd
     refine ⟨rfl, ?_⟩
     have e0 : a.eval (.tmp 8) = .pointer (some ⟨g, 0, none⟩) := (hd 2 8 (by kernel_rfl) (by kernel_rfl)).val rfl
     exact wp_value (exec_fieldAddr rfl e0 (FS7 X)) ⟨_, rfl, hX.more, fun _ _ _ h => h, AddP.mk rfl (by decide)⟩
   · intro D a X hDi hDa _ hX hL hd
     refine ⟨rfl, ?_⟩
     have e0 : a.eval (.tmp 9) = .pointer (some ⟨g, 13, none⟩) := (hd 3 9 (by kernel_rfl) (by kernel_rfl)).val rfl
     exact wp_value (exec_load rfl e0 (L13 X (hX.1 (hDa 28 (by kernel_rfl))))) ⟨_, rfl, hX.more, fun _ _ _ h => h, AddP.mk rfl (by decide)⟩
   · intro D a X hDi hDa _ hX hL hd
     refine ⟨rfl, ?_⟩
     have e0 : a.eval (.tmp 1) = .int .i64 kind := hL.far 1 (by kernel_rfl)
     exact wp_value (exec_move rfl e0) ⟨_, rfl, hX.more, fun _ _ _ h => h, AddP.mk rfl (by decide)⟩
   · intro D a X hDi hDa _ hX hL hd
     refine ⟨rfl, ?_⟩
     have e0 : a.eval (.tmp 2) = .string t := hL.far 2 (by kernel_rfl)
     exact wp_value (exec_move rfl e0) ⟨_, rfl, hX.more, fun _ _ _ h => h, AddP.mk rfl (by decide)⟩
   · intro D a X hDi hDa _ hX hL hd
     refine ⟨rfl, ?_⟩
     have e0 : a.eval (.tmp 12) = .string t := (hd 6 12 (by kernel_rfl) (by kernel_rfl)).val rfl
     refine wp_enter (exec_call (vs := #[.string t]) rfl (by simp only [List.map_toArray, List.map_cons, List.map_nil, e0]) Tryz.func74 rfl rfl) ?_
     refine (CC.out X).mono ?_
     rintro e X2 ⟨rfl, hb⟩
     exact ⟨_, rfl, _, rfl, (hX.below hb).more, fun _ _ _ h => h.below hb, AddP.mk rfl (by decide)⟩
   · intro D a X hDi hDa _ hX hL hd
     refine ⟨rfl, ?_⟩
     have e0 : a.eval (.tmp 0) = .pointer (some ⟨g, 0, none⟩) := hL.far 0 (by kernel_rfl)
     exact wp_value (exec_move rfl e0) ⟨_, rfl, hX.more, fun _ _ _ h => h, AddP.mk rfl (by decide)⟩
   · intro D a X hDi hDa _ hX hL hd
     refine ⟨rfl, ?_⟩
     have e0 : a.eval (.tmp 14) = .pointer (some ⟨g, 0, none⟩) := (hd 8 14 (by kernel_rfl) (by kernel_rfl)).val rfl
     exact wp_value (exec_nilCheck rfl e0) ⟨_, rfl, hX.more, fun _ _ _ h => h, AddP.mk rfl (by decide)⟩
   · intro D a X hDi hDa _ hX hL hd
     refine ⟨rfl, ?_⟩
     have e0 : a.eval (.tmp 15) = .pointer (some ⟨g, 0, none⟩) := (hd 9 15 (by kernel_rfl) (by kernel_rfl)).val rfl
     exact wp_value (exec_fieldAddr rfl e0 (FS3 X)) ⟨_, rfl, hX.more, fun _ _ _ h => h, AddP.mk rfl (by decide)⟩
   · intro D a X hDi hDa _ hX hL hd
     refine ⟨rfl, ?_⟩
     have e0 : a.eval (.tmp 16) = .pointer (some ⟨g, 5, none⟩) := (hd 10 16 (by kernel_rfl) (by kernel_rfl)).val rfl
     exact wp_value (exec_fieldAddr rfl e0 (FP0 X)) ⟨_, rfl, hX.more, fun _ _ _ h => h, AddP.mk rfl (by decide)⟩
   · intro D a X hDi hDa _ hX hL hd
     refine ⟨rfl, ?_⟩
     have e0 : a.eval (.tmp 17) = .pointer (some ⟨g, 5, none⟩) := (hd 11 17 (by kernel_rfl) (by kernel_rfl)).val rfl
     exact wp_value (exec_load rfl e0 (L5 X (hX.1 (hDa 28 (by kernel_rfl))))) ⟨_, rfl, hX.more, fun _ _ _ h => h, AddP.mk rfl (by decide)⟩
   · intro D a X hDi hDa _ hX hL hd
     refine ⟨rfl, ?_⟩
     have e0 : a.eval (.tmp 0) = .pointer (some ⟨g, 0, none⟩) := hL.far 0 (by kernel_rfl)
     exact wp_value (exec_move rfl e0) ⟨_, rfl, hX.more, fun _ _ _ h => h, AddP.mk rfl (by decide)⟩
   · intro D a X hDi hDa _ hX hL hd
     refine ⟨rfl, ?_⟩
     have e0 : a.eval (.tmp 19) = .pointer (some ⟨g, 0, none⟩) := (hd 13 19 (by kernel_rfl) (by kernel_rfl)).val rfl
     exact wp_value (exec_nilCheck rfl e0) ⟨_, rfl, hX.more, fun _ _ _ h => h, AddP.mk rfl (by decide)⟩
   · intro D a X hDi hDa _ hX hL hd
     refine ⟨rfl, ?_⟩
     have e0 : a.eval (.tmp 20) = .pointer (some ⟨g, 0, none⟩) := (hd 14 20 (by kernel_rfl) (by kernel_rfl)).val rfl
     exact wp_value (exec_fieldAddr rfl e0 (FS3 X)) ⟨_, rfl, hX.more, fun _ _ _ h => h, AddP.mk rfl (by decide)⟩
   · intro D a X hDi hDa _ hX hL hd
     refine ⟨rfl, ?_⟩
     have e0 : a.eval (.tmp 21) = .pointer (some ⟨g, 5, none⟩) := (hd 15 21 (by kernel_rfl) (by kernel_rfl)).val rfl
     exact wp_value (exec_fieldAddr rfl e0 (FP1 X)) ⟨_, rfl, hX.more, fun _ _ _ h => h, AddP.mk rfl (by decide)⟩
   · intro D a X hDi hDa _ hX hL hd
     refine ⟨rfl, ?_⟩
     have e0 : a.eval (.tmp 22) = .pointer (some ⟨g, 6, none⟩) := (hd 16 22 (by kernel_rfl) (by kernel_rfl)).val rfl
     exact wp_value (exec_load rfl e0 (L6 X (hX.1 (hDa 28 (by kernel_rfl))))) ⟨_, rfl, hX.more, fun _ _ _ h => h, AddP.mk rfl (by decide)⟩
   · intro D a X hDi hDa _ hX hL hd
     refine ⟨rfl, ?_⟩
     have e0 : a.eval (.tmp 0) = .pointer (some ⟨g, 0, none⟩) := hL.far 0 (by kernel_rfl)
     exact wp_value (exec_move rfl e0) ⟨_, rfl, hX.more, fun _ _ _ h => h, AddP.mk rfl (by decide)⟩
   · intro D a X hDi hDa _ hX hL hd
     refine ⟨rfl, ?_⟩
     have e0 : a.eval (.tmp 24) = .pointer (some ⟨g, 0, none⟩) := (hd 18 24 (by kernel_rfl) (by kernel_rfl)).val rfl
     exact wp_value (exec_nilCheck rfl e0) ⟨_, rfl, hX.more, fun _ _ _ h => h, AddP.mk rfl (by decide)⟩
   · intro D a X hDi hDa _ hX hL hd
     refine ⟨rfl, ?_⟩
     have e0 : a.eval (.tmp 25) = .pointer (some ⟨g, 0, none⟩) := (hd 19 25 (by kernel_rfl) (by kernel_rfl)).val rfl
     exact wp_value (exec_fieldAddr rfl e0 (FS3 X)) ⟨_, rfl, hX.more, fun _ _ _ h => h, AddP.mk rfl (by decide)⟩
   · intro D a X hDi hDa _ hX hL hd
     refine ⟨rfl, ?_⟩
     have e0 : a.eval (.tmp 26) = .pointer (some ⟨g, 5, none⟩) := (hd 20 26 (by kernel_rfl) (by kernel_rfl)).val rfl
     exact wp_value (exec_fieldAddr rfl e0 (FP2 X)) ⟨_, rfl, hX.more, fun _ _ _ h => h, AddP.mk rfl (by decide)⟩
   · intro D a X hDi hDa _ hX hL hd
     refine ⟨rfl, ?_⟩
     have e0 : a.eval (.tmp 27) = .pointer (some ⟨g, 7, none⟩) := (hd 21 27 (by kernel_rfl) (by kernel_rfl)).val rfl
     exact wp_value (exec_load rfl e0 (L7 X (hX.1 (hDa 28 (by kernel_rfl))))) ⟨_, rfl, hX.more, fun _ _ _ h => h, AddP.mk rfl (by decide)⟩
   · intro D a X hDi hDa _ hX hL hd
     refine ⟨rfl, ?_⟩
     have e0 : a.eval (.tmp 11) = .int .i64 kind := (hd 5 11 (by kernel_rfl) (by kernel_rfl)).val rfl
     have e1 : a.eval (.tmp 13) = .string t := (hd 7 13 (by kernel_rfl) (by kernel_rfl)).val rfl
     have e2 : a.eval (.tmp 18) = .int .i64 l2 := (hd 12 18 (by kernel_rfl) (by kernel_rfl)).val rfl
     have e3 : a.eval (.tmp 23) = .int .i64 c2 := (hd 17 23 (by kernel_rfl) (by kernel_rfl)).val rfl
     have e4 : a.eval (.tmp 28) = .int .i64 i2 := (hd 22 28 (by kernel_rfl) (by kernel_rfl)).val rfl
     exact wp_value (exec_build rfl (ps := #[(0, .int .i64 kind), (1, .string t), (2, .int .i64 l2), (3, .int .i64 c2), (4, .int .i64 i2)]) (by simp only [List.map_toArray, List.map_cons, List.map_nil, e0, e1, e2, e3, e4] <;> rfl) (BB X)) ⟨_, rfl, hX.more, fun _ _ _ h => h, AddP.mk rfl (by decide)⟩
   · intro D a X hDi hDa _ hX hL hd
     refine ⟨rfl, ?_⟩
     have e0 : a.eval (.tmp 29) = .agg #[.int .i64 kind, .string t, .int .i64 l2, .int .i64 c2, .int .i64 i2] := (hd 23 29 (by kernel_rfl) (by kernel_rfl)).val rfl
     refine wp_value (exec_buildSlice rfl (ps := #[(0, .agg #[.int .i64 kind, .string t, .int .i64 l2, .int .i64 c2, .int .i64 i2])]) (by simp only [List.map_toArray, List.map_cons, List.map_nil, e0] <;> rfl) (BS X)) ⟨_, rfl, (hX.below ((Below.refl _ X).alloc (Nat.le_refl _) _)).more, fun _ _ _ h => h.below ((Below.refl _ X).alloc (Nat.le_refl _) _), AddP.bs ⟨X.heap.size, rfl, World.alloc_heap_new X _, hX.2.2.size⟩⟩
   · intro D a X hDi hDa _ hX hL hd
     refine ⟨rfl, ?_⟩
     have e0 : a.eval (.tmp 10) = kv := (hd 4 10 (by kernel_rfl) (by kernel_rfl)).val rfl
     obtain ⟨b, hb1, hb2, hb3⟩ := (hd 24 30 (by kernel_rfl) (by kernel_rfl)).2.1 rfl
     have h28 := hDa 28 (by kernel_rfl)
     refine wp_append_lies X (.tmp 10) (.tmp 30) 24 rfl 0 39 ti (.agg #[.int .i64 0, .string ⟨#[]⟩, .int .i64 0, .int .i64 0, .int .i64 0]) 5 48 Tryz.underlying24 HI.1 HI.2.1 HI.2.2.1 HI.2.2.2 rfl (Nat.succ_pos 4) kv n xs e0 (hX.2.1 hDi).1 ⟨b, 0, none⟩ 1 1 [.int .i64 kind, .string t, .int .i64 l2, .int .i64 c2, .int .i64 i2] hb1 rfl (World.news_of_block hb2) HOC (Nat.succ_pos 0) HM1 HM2 (Nat.zero_le _) _ rfl ?_
     intro g2 cap X2 hown2 hgrow hat hlt
     exact ⟨_, rfl, hX.app hkg h28 (keep_grown hgrow), fun j u hj h => h.app hkv (keep_grown hgrow) (fun e => by subst e; rw [hDi] at hj; cases hj) (fun e => by subst e; rw [h28] at hj; cases hj), AddP.row (addRow_app hX hkg hgl hown2 hat)⟩
   · intro D a X hDi hDa _ hX hL hd
     refine ⟨rfl, ?_⟩
     have e0 : a.eval (.tmp 6) = .pointer (some ⟨g, 0, none⟩) := (hd 0 6 (by kernel_rfl) (by kernel_rfl)).val rfl
     exact wp_value (exec_nilCheck rfl e0) ⟨_, rfl, hX.more, fun _ _ _ h => h, AddP.mk rfl (by decide)⟩
   · intro D a X hDi hDa _ hX hL hd
     refine ⟨rfl, ?_⟩
     have e0 : a.eval (.tmp 32) = .pointer (some ⟨g, 0, none⟩) := (hd 26 32 (by kernel_rfl) (by kernel_rfl)).val rfl
     exact wp_value (exec_fieldAddr rfl e0 (FS7 X)) ⟨_, rfl, hX.more, fun _ _ _ h => h, AddP.mk rfl (by decide)⟩
   · intro D a X hDi hDa _ hX hL hd
     refine ⟨rfl, ?_⟩
     have e0 : a.eval (.tmp 33) = .pointer (some ⟨g, 13, none⟩) := (hd 27 33 (by kernel_rfl) (by kernel_rfl)).val rfl
     obtain ⟨g2, cap, he, ho⟩ := (hd 25 31 (by kernel_rfl) (by kernel_rfl)).2.2.1 rfl
     have hc := hX.1 hDi
     exact wp_skipped (exec_store rfl e0 he (ST X _ _ _ hc)) ⟨undef, rfl, hX.store hDi, fun j u hj h => h.store hgl (fun e => by subst e; rw [hDi] at hj; cases hj), AddP.last ⟨_, AddRow.store ⟨g2, cap, rfl, by rw [← he]; exact ho⟩, set_13 hc⟩⟩
  case hd =>
    intro D a X hAll hX hL hP hE
    obtain ⟨_, hp⟩ := hE 28 (by decide)
    obtain ⟨u, ⟨g2, cap, rfl, ho⟩, hu⟩ := hp.2.2.2 rfl
    have hK := hX.2.2
    obtain ⟨f, ha, hf⟩ := hL.out [6, 7, 8, 9, 10, 11, 12, 13, 14, 15, 16, 17, 18, 19, 20, 21, 22, 23, 24, 25, 26, 27, 28, 29, 30, 31, 32, 33] rfl
    have HF := Lib.hid (And.intro ho (And.intro hu hK))
    have HCS := Lib.hid hCS
    clear hf hAll hP hX hL hE hp ho hu hK hCS FS7 FS3 FP0 FP1 FP2 L13 L5 L6 L7 ST BB BS set_13 HI HOC HM1 HM2 H0
    simp only [List.foldl_cons, List.foldl_nil, List.setIfInBounds_toArray, List.set_cons_zero, List.set_cons_succ] at ha
    subst ha
    go_wp2
    go_end0
    have hCS := HCS.out
    subst hCS
    exact ⟨rfl, _, HF.out.2.1, HF.out.1, HF.out.2.2⟩
end Go.Proofs.YtlfdpdlhppgakaaGreatDoor
/- strconv.ParseUint to the base 16, of 24 bits. -/
namespace Go.Proofs.YtlfdpdlhppgakaaGreatDoor
open Go Go.RowKit Go.Kt Go.Kt.Rg

set_option maxRecDepth 100000 in
set_option maxHeartbeats 8000000 in
theorem ipu24_any (s : ByteArray) (w : World) (hs : s.size ≤ 281474976710656) :
    Calls Tryz.prog 124 #[.string s, .int .i64 16, .int .i64 24] w fun e w' => PuOut 177 PuErr (puV 16777215 s.data.toList) e ∧ Below w.heap.size w w' := by
  obtain ⟨l, hl⟩ : ∃ l, s.data.toList = l := ⟨_, rfl⟩
  have hln : l.length = s.size := by rw [← hl]; exact (Lib.size_eq s).symm
  rw [hl]
  by_cases h0 : s.size = 0
  · have hn : l = [] := List.eq_nil_of_length_eq_zero (by omega)
    have hsn : s.toList = [] := by
      have : s.toList.length = 0 := by rw [ByteArray.toList_eq, hl, hn]; rfl
      exact List.eq_nil_of_length_eq_zero this
    have hsn2 : (!s.toList.isEmpty) = false := by rw [hsn]; rfl
    have HF : Hid (PuOut 177 PuErr (puV 16777215 l) (.returned (.tuple #[.int .u64 0, .iface 177 (.int .i64 2)])) ∧ Below w.heap.size w w) := Lib.hid ⟨.no 0 (by rw [hn]; rfl) (.inr rfl), Below.refl _ _⟩
    clear hn hl hln h0
    go_enter Tryz.func124, Tryz.ntmps124
    go_wp2
    go_ret2
    exact HF.out
  · have hemp : s.toList.isEmpty = false := by
      cases h : s.toList with
      | nil => rw [ByteArray.toList_eq, hl] at h; rw [h] at hln; exact absurd hln.symm h0
      | cons => rfl
    have hcv := Lib.run_convert_string_bytes (P := Tryz.prog) w 9 51 5 s (u := .string) Tryz.underlying9 Tryz.underlying51 Tryz.underlying5
    have hB : ∀ j, j < s.size → (Lib.bytesWorld w 5 s).cell? ⟨w.heap.size, j, none⟩ = some (.int .u8 (s.data.toList.getD j 0).toNat) := fun j hj => Lib.bytesWorld_cell w 5 s j hj
    have hBel : Below w.heap.size w (Lib.bytesWorld w 5 s) := Lib.bytesWorld_below w _ s
    obtain ⟨W1, hW1⟩ : ∃ W1, Lib.bytesWorld w 5 s = W1 := ⟨_, rfl⟩
    rw [hW1] at hcv hB hBel
    rw [hl] at hB
    have HB := Lib.hid hB
    have HBel := Lib.hid hBel
    obtain ⟨n, hn⟩ : ∃ n, s.size = n := ⟨_, rfl⟩
    rw [hn] at hs h0 hcv hln HB
    have HLN := Lib.hid hln
    have hV : Hid (puV 16777215 l = puF 16777215 0 l) := Lib.hid (by unfold puV; rw [if_neg]; intro e; rw [e] at hln; exact h0 hln.symm)
    clear hW1 hB hBel hl hln
    go_enter Tryz.func124, Tryz.ntmps124
    go_wp2
    go_loop [12, 13, 101] (fun vu vn vi => ∃ (k acc : Nat) (a : Int), vu = .bool false ∧ vn = .int .u64 a ∧ vi = .int .i64 k ∧ k ≤ n ∧ Hid (a = (acc : Int) ∧ acc ≤ 16777215 ∧ puF 16777215 acc (l.drop k) = puF 16777215 0 l)) (fun _ _ vi => n - (RowKit.intOf vi).toNat)
    case atStart => exact ⟨0, 0, 0, rfl, rfl, rfl, by omega, Lib.hid ⟨rfl, by omega, rfl⟩⟩
    case round =>
      obtain ⟨k, acc, a, rfl, rfl, rfl, hk, hh⟩ := hrel
      have a0 : 0 ≤ a := by have := hh.out.1; omega
      have a1 : a ≤ 16777215 := by have := hh.out; omega
      by_cases hkn : k < n
      · have hkn' : (k : Int) < n := by omega
        have hc := HB.out k hkn
        have hdrop : l.drop k = l[k]'(by rw [HLN.out]; exact hkn) :: l.drop (k + 1) := List.drop_eq_getElem_cons (by rw [HLN.out]; exact hkn)
        have hget : l.getD k 0 = l[k]'(by rw [HLN.out]; exact hkn) := by simp [List.getD, List.getElem?_eq_getElem (show k < l.length by rw [HLN.out]; exact hkn)]
        rw [hget] at hc
        generalize l[k]'(by rw [HLN.out]; exact hkn) = c at hc hdrop
        have HD := Lib.hid hdrop
        have hc256 : c.toNat < 256 := c.toNat_lt
        have q1 := or_32 c.toNat hc256
        have q2 := or_ge c.toNat hc256
        have q3 := or_bd c.toNat hc256
        have q4 := or_dig c.toNat hc256
        have e1 := @digV_dig c.toNat
        have e2 := @digV_let c.toNat
        have e3 := @digV_no c.toNat
        obtain ⟨L, hL⟩ : ∃ L, c.toNat ||| 32 = L := ⟨_, rfl⟩
        rw [hL] at q1 q2 q3 q4 e2 e3
        have FIN : ∀ d, digV c.toNat = some d → d < 16 → acc * 16 + d ≤ 16777215 → Hid (puF 16777215 (acc * 16 + d) (l.drop (k + 1)) = puF 16777215 0 l) := fun d h1 h2 h3 => Lib.hid (by rw [← hh.out.2.2, HD.out, puF_some h1 h2 h3])
        have OVR : ∀ d, digV c.toNat = some d → d < 16 → 16777215 < acc * 16 + d → Hid (puV 16777215 l = none) := fun d h1 h2 h3 => Lib.hid (by rw [hV.out, ← hh.out.2.2, HD.out, puF_over h1 h2 h3])
        have BIG : ∀ d, digV c.toNat = some d → 16 ≤ d → Hid (puV 16777215 l = none) := fun d h1 h2 => Lib.hid (by rw [hV.out, ← hh.out.2.2, HD.out, puF_big h1 h2])
        have BAD : digV c.toNat = none → Hid (puV 16777215 l = none) := fun h1 => Lib.hid (by rw [hV.out, ← hh.out.2.2, HD.out, puF_bad h1])
        have hacc := hh.out.1
        generalize c.toNat = cn at *
        clear hdrop hget hL
        by_cases hdig : 48 ≤ cn ∧ cn ≤ 57
        · obtain ⟨hd0, hd1⟩ := hdig
          have hdv := e1 hd0 hd1
          have i0 : (48 : Int) ≤ cn := by omega
          have i1 : (cn : Int) ≤ 57 := by omega
          by_cases hov : 16777215 < acc * 16 + (cn - 48)
          · have HF := OVR _ hdv (by omega) hov
            have iov : (16777215 : Int) < a * 16 + ((cn : Int) - 48) := by omega
            clear FIN OVR BIG BAD hdv e1 e2 e3 q1 q2 q3 q4 hacc hov hd0 hd1
            go_wp2
            go_ret2
            exact ⟨.no _ HF.out (.inl rfl), HBel.out⟩
          · have HF := FIN _ hdv (by omega) (by omega)
            have iov : a * 16 + ((cn : Int) - 48) ≤ 16777215 := by omega
            have HA : Hid (a * 16 + ((cn : Int) - 48) = ((acc * 16 + (cn - 48) : Nat) : Int) ∧ acc * 16 + (cn - 48) ≤ 16777215) := Lib.hid ⟨by omega, by omega⟩
            clear FIN OVR BIG BAD hdv e1 e2 e3 q1 q2 q3 q4 hacc hov hd0 hd1
            go_wp2
            go_round
            case rel => exact ⟨k + 1, acc * 16 + (cn - 48), a * 16 + ((cn : Int) - 48), rfl, rfl, by go_num, by omega, Lib.hid ⟨HA.out.1, HA.out.2, HF.out⟩⟩
            case measure => simp [RowKit.intOf]; omega
        · by_cases hlet : 97 ≤ L ∧ L ≤ 122
          · obtain ⟨hd0, hd1⟩ := hlet
            obtain ⟨g1, g2⟩ := q4 hd0 hd1
            have hdv := e2 g1 hd0 hd1
            have i0 : (97 : Int) ≤ L := by omega
            have i1 : (L : Int) ≤ 122 := by omega
            have i2 : (57 : Int) < cn := by omega
            have i3 : ((cn : Int) == 95) = false := by rw [beq_eq_false_iff_ne]; omega
            by_cases hbig : 102 < L
            · have HF := BIG _ hdv (by omega)
              have i4 : (102 : Int) < L := by omega
              clear FIN OVR BIG BAD hdv e1 e2 e3 q2 q3 q4 hacc hd0 hd1 g1 g2 hdig hbig
              go_wp2_with (go_at_call 127; refine (Tryz.internal_strconv_lower _ _).mono ?_; rintro e w' ⟨rfl, rfl⟩)
              go_ret2
              exact ⟨.no _ HF.out (.inr rfl), HBel.out⟩
            · have i4 : (L : Int) ≤ 102 := by omega
              by_cases hov : 16777215 < acc * 16 + (L - 87)
              · have HF := OVR _ hdv (by omega) hov
                have iov : (16777215 : Int) < a * 16 + ((L : Int) - 97 + 10) := by omega
                clear FIN OVR BIG BAD hdv e1 e2 e3 q2 q3 q4 hacc hov hd0 hd1 g1 g2 hdig hbig
                go_wp2_with (go_at_call 127; refine (Tryz.internal_strconv_lower _ _).mono ?_; rintro e w' ⟨rfl, rfl⟩)
                go_ret2
                exact ⟨.no _ HF.out (.inl rfl), HBel.out⟩
              · have HF := FIN _ hdv (by omega) (by omega)
                have iov : a * 16 + ((L : Int) - 97 + 10) ≤ 16777215 := by omega
                have HA : Hid (a * 16 + ((L : Int) - 97 + 10) = ((acc * 16 + (L - 87) : Nat) : Int) ∧ acc * 16 + (L - 87) ≤ 16777215) := Lib.hid ⟨by omega, by omega⟩
                clear FIN OVR BIG BAD hdv e1 e2 e3 q2 q3 q4 hacc hov hd0 hd1 g1 g2 hdig hbig
                go_wp2_with (go_at_call 127; refine (Tryz.internal_strconv_lower _ _).mono ?_; rintro e w' ⟨rfl, rfl⟩)
                go_round
                case rel => exact ⟨k + 1, acc * 16 + (L - 87), a * 16 + ((L : Int) - 97 + 10), rfl, rfl, by go_num, by omega, Lib.hid ⟨HA.out.1, HA.out.2, HF.out⟩⟩
                case measure => simp [RowKit.intOf]; omega
          · have HF := BAD (e3 hdig hlet)
            have u0 : (cn : Int) < 48 ∨ (57 : Int) < cn := by omega
            have u1 : (L : Int) < 97 ∨ (122 : Int) < L := by omega
            have hb0 : 0 ≤ (L : Int) := by omega
            have hb1 : (L : Int) < 256 := by omega
            clear FIN OVR BIG BAD e1 e2 e3 q2 q3 q4 hacc hdig hlet
            rcases u0 with u0 | u0
            all_goals rcases u1 with u1 | u1
            all_goals
              go_wp2_with (go_at_call 127; refine (Tryz.internal_strconv_lower _ _).mono ?_; rintro e w' ⟨rfl, rfl⟩)
            all_goals go_ret2
            all_goals exact ⟨.no _ HF.out (.inr rfl), HBel.out⟩
      · have hkn' : ¬ (k : Int) < n := by omega
        obtain rfl : k = n := by omega
        have HF : Hid (puV 16777215 l = some acc) := Lib.hid (by rw [hV.out, ← hh.out.2.2, List.drop_eq_nil_of_le (by rw [HLN.out]; exact Nat.le_refl _)]; rfl)
        have HA := hh.out.1
        subst HA
        go_wp2
        go_ret2
        exact ⟨.yes HF.out, HBel.out⟩
end Go.Proofs.YtlfdpdlhppgakaaGreatDoor
/- strconv.ParseUint to the base 16, of 8 bits. -/
namespace Go.Proofs.YtlfdpdlhppgakaaGreatDoor
open Go Go.RowKit Go.Kt Go.Kt.Rg

set_option maxRecDepth 100000 in
set_option maxHeartbeats 8000000 in
theorem ipu8_any (s : ByteArray) (w : World) (hs : s.size ≤ 281474976710656) :
    Calls Tryz.prog 124 #[.string s, .int .i64 16, .int .i64 8] w fun e w' => PuOut 177 PuErr (puV 255 s.data.toList) e ∧ Below w.heap.size w w' := by
  obtain ⟨l, hl⟩ : ∃ l, s.data.toList = l := ⟨_, rfl⟩
  have hln : l.length = s.size := by rw [← hl]; exact (Lib.size_eq s).symm
  rw [hl]
  by_cases h0 : s.size = 0
  · have hn : l = [] := List.eq_nil_of_length_eq_zero (by omega)
    have hsn : s.toList = [] := by
      have : s.toList.length = 0 := by rw [ByteArray.toList_eq, hl, hn]; rfl
      exact List.eq_nil_of_length_eq_zero this
    have hsn2 : (!s.toList.isEmpty) = false := by rw [hsn]; rfl
    have HF : Hid (PuOut 177 PuErr (puV 255 l) (.returned (.tuple #[.int .u64 0, .iface 177 (.int .i64 2)])) ∧ Below w.heap.size w w) := Lib.hid ⟨.no 0 (by rw [hn]; rfl) (.inr rfl), Below.refl _ _⟩
    clear hn hl hln h0
    go_enter Tryz.func124, Tryz.ntmps124
    go_wp2
    go_ret2
    exact HF.out
  · have hemp : s.toList.isEmpty = false := by
      cases h : s.toList with
      | nil => rw [ByteArray.toList_eq, hl] at h; rw [h] at hln; exact absurd hln.symm h0
      | cons => rfl
    have hcv := Lib.run_convert_string_bytes (P := Tryz.prog) w 9 51 5 s (u := .string) Tryz.underlying9 Tryz.underlying51 Tryz.underlying5
    have hB : ∀ j, j < s.size → (Lib.bytesWorld w 5 s).cell? ⟨w.heap.size, j, none⟩ = some (.int .u8 (s.data.toList.getD j 0).toNat) := fun j hj => Lib.bytesWorld_cell w 5 s j hj
    have hBel : Below w.heap.size w (Lib.bytesWorld w 5 s) := Lib.bytesWorld_below w _ s
    obtain ⟨W1, hW1⟩ : ∃ W1, Lib.bytesWorld w 5 s = W1 := ⟨_, rfl⟩
    rw [hW1] at hcv hB hBel
    rw [hl] at hB
    have HB := Lib.hid hB
    have HBel := Lib.hid hBel
    obtain ⟨n, hn⟩ : ∃ n, s.size = n := ⟨_, rfl⟩
    rw [hn] at hs h0 hcv hln HB
    have HLN := Lib.hid hln
    have hV : Hid (puV 255 l = puF 255 0 l) := Lib.hid (by unfold puV; rw [if_neg]; intro e; rw [e] at hln; exact h0 hln.symm)
    clear hW1 hB hBel hl hln
    go_enter Tryz.func124, Tryz.ntmps124
    go_wp2
    go_loop [12, 13, 101] (fun vu vn vi => ∃ (k acc : Nat) (a : Int), vu = .bool false ∧ vn = .int .u64 a ∧ vi = .int .i64 k ∧ k ≤ n ∧ Hid (a = (acc : Int) ∧ acc ≤ 255 ∧ puF 255 acc (l.drop k) = puF 255 0 l)) (fun _ _ vi => n - (RowKit.intOf vi).toNat)
    case atStart => exact ⟨0, 0, 0, rfl, rfl, rfl, by omega, Lib.hid ⟨rfl, by omega, rfl⟩⟩
    case round =>
      obtain ⟨k, acc, a, rfl, rfl, rfl, hk, hh⟩ := hrel
      have a0 : 0 ≤ a := by have := hh.out.1; omega
      have a1 : a ≤ 255 := by have := hh.out; omega
      by_cases hkn : k < n
      · have hkn' : (k : Int) < n := by omega
        have hc := HB.out k hkn
        have hdrop : l.drop k = l[k]'(by rw [HLN.out]; exact hkn) :: l.drop (k + 1) := List.drop_eq_getElem_cons (by rw [HLN.out]; exact hkn)
        have hget : l.getD k 0 = l[k]'(by rw [HLN.out]; exact hkn) := by simp [List.getD, List.getElem?_eq_getElem (show k < l.length by rw [HLN.out]; exact hkn)]
        rw [hget] at hc
        generalize l[k]'(by rw [HLN.out]; exact hkn) = c at hc hdrop
        have HD := Lib.hid hdrop
        have hc256 : c.toNat < 256 := c.toNat_lt
        have q1 := or_32 c.toNat hc256
        have q2 := or_ge c.toNat hc256
        have q3 := or_bd c.toNat hc256
        have q4 := or_dig c.toNat hc256
        have e1 := @digV_dig c.toNat
        have e2 := @digV_let c.toNat
        have e3 := @digV_no c.toNat
        obtain ⟨L, hL⟩ : ∃ L, c.toNat ||| 32 = L := ⟨_, rfl⟩
        rw [hL] at q1 q2 q3 q4 e2 e3
        have FIN : ∀ d, digV c.toNat = some d → d < 16 → acc * 16 + d ≤ 255 → Hid (puF 255 (acc * 16 + d) (l.drop (k + 1)) = puF 255 0 l) := fun d h1 h2 h3 => Lib.hid (by rw [← hh.out.2.2, HD.out, puF_some h1 h2 h3])
        have OVR : ∀ d, digV c.toNat = some d → d < 16 → 255 < acc * 16 + d → Hid (puV 255 l = none) := fun d h1 h2 h3 => Lib.hid (by rw [hV.out, ← hh.out.2.2, HD.out, puF_over h1 h2 h3])
        have BIG : ∀ d, digV c.toNat = some d → 16 ≤ d → Hid (puV 255 l = none) := fun d h1 h2 => Lib.hid (by rw [hV.out, ← hh.out.2.2, HD.out, puF_big h1 h2])
        have BAD : digV c.toNat = none → Hid (puV 255 l = none) := fun h1 => Lib.hid (by rw [hV.out, ← hh.out.2.2, HD.out, puF_bad h1])
        have hacc := hh.out.1
        generalize c.toNat = cn at *
        clear hdrop hget hL
        by_cases hdig : 48 ≤ cn ∧ cn ≤ 57
        · obtain ⟨hd0, hd1⟩ := hdig
          have hdv := e1 hd0 hd1
          have i0 : (48 : Int) ≤ cn := by omega
          have i1 : (cn : Int) ≤ 57 := by omega
          by_cases hov : 255 < acc * 16 + (cn - 48)
          · have HF := OVR _ hdv (by omega) hov
            have iov : (255 : Int) < a * 16 + ((cn : Int) - 48) := by omega
            clear FIN OVR BIG BAD hdv e1 e2 e3 q1 q2 q3 q4 hacc hov hd0 hd1
            go_wp2
            go_ret2
            exact ⟨.no _ HF.out (.inl rfl), HBel.out⟩
          · have HF := FIN _ hdv (by omega) (by omega)
            have iov : a * 16 + ((cn : Int) - 48) ≤ 255 := by omega
            have HA : Hid (a * 16 + ((cn : Int) - 48) = ((acc * 16 + (cn - 48) : Nat) : Int) ∧ acc * 16 + (cn - 48) ≤ 255) := Lib.hid ⟨by omega, by omega⟩
            clear FIN OVR BIG BAD hdv e1 e2 e3 q1 q2 q3 q4 hacc hov hd0 hd1
            go_wp2
            go_round
            case rel => exact ⟨k + 1, acc * 16 + (cn - 48), a * 16 + ((cn : Int) - 48), rfl, rfl, by go_num, by omega, Lib.hid ⟨HA.out.1, HA.out.2, HF.out⟩⟩
            case measure => simp [RowKit.intOf]; omega
        · by_cases hlet : 97 ≤ L ∧ L ≤ 122
          · obtain ⟨hd0, hd1⟩ := hlet
            obtain ⟨g1, g2⟩ := q4 hd0 hd1
            have hdv := e2 g1 hd0 hd1
            have i0 : (97 : Int) ≤ L := by omega
            have i1 : (L : Int) ≤ 122 := by omega
            have i2 : (57 : Int) < cn := by omega
            have i3 : ((cn : Int) == 95) = false := by rw [beq_eq_false_iff_ne]; omega
            by_cases hbig : 102 < L
            · have HF := BIG _ hdv (by omega)
              have i4 : (102 : Int) < L := by omega
              clear FIN OVR BIG BAD hdv e1 e2 e3 q2 q3 q4 hacc hd0 hd1 g1 g2 hdig hbig
              go_wp2_with (go_at_call 127; refine (Tryz.internal_strconv_lower _ _).mono ?_; rintro e w' ⟨rfl, rfl⟩)
              go_ret2
              exact ⟨.no _ HF.out (.inr rfl), HBel.out⟩
            · have i4 : (L : Int) ≤ 102 := by omega
              by_cases hov : 255 < acc * 16 + (L - 87)
              · have HF := OVR _ hdv (by omega) hov
                have iov : (255 : Int) < a * 16 + ((L : Int) - 97 + 10) := by omega
                clear FIN OVR BIG BAD hdv e1 e2 e3 q2 q3 q4 hacc hov hd0 hd1 g1 g2 hdig hbig
                go_wp2_with (go_at_call 127; refine (Tryz.internal_strconv_lower _ _).mono ?_; rintro e w' ⟨rfl, rfl⟩)
                go_ret2
                exact ⟨.no _ HF.out (.inl rfl), HBel.out⟩
              · have HF := FIN _ hdv (by omega) (by omega)
                have iov : a * 16 + ((L : Int) - 97 + 10) ≤ 255 := by omega
                have HA : Hid (a * 16 + ((L : Int) - 97 + 10) = ((acc * 16 + (L - 87) : Nat) : Int) ∧ acc * 16 + (L - 87) ≤ 255) := Lib.hid ⟨by omega, by omega⟩
                clear FIN OVR BIG BAD hdv e1 e2 e3 q2 q3 q4 hacc hov hd0 hd1 g1 g2 hdig hbig
                go_wp2_with (go_at_call 127; refine (Tryz.internal_strconv_lower _ _).mono ?_; rintro e w' ⟨rfl, rfl⟩)
                go_round
                case rel => exact ⟨k + 1, acc * 16 + (L - 87), a * 16 + ((L : Int) - 97 + 10), rfl, rfl, by go_num, by omega, Lib.hid ⟨HA.out.1, HA.out.2, HF.out⟩⟩
                case measure => simp [RowKit.intOf]; omega
          · have HF := BAD (e3 hdig hlet)
            have u0 : (cn : Int) < 48 ∨ (57 : Int) < cn := by omega
            have u1 : (L : Int) < 97 ∨ (122 : Int) < L := by omega
            have hb0 : 0 ≤ (L : Int) := by omega
            have hb1 : (L : Int) < 256 := by omega
            clear FIN OVR BIG BAD e1 e2 e3 q2 q3 q4 hacc hdig hlet
            rcases u0 with u0 | u0
            all_goals rcases u1 with u1 | u1
            all_goals
              go_wp2_with (go_at_call 127; refine (Tryz.internal_strconv_lower _ _).mono ?_; rintro e w' ⟨rfl, rfl⟩)
            all_goals go_ret2
            all_goals exact ⟨.no _ HF.out (.inr rfl), HBel.out⟩
      · have hkn' : ¬ (k : Int) < n := by omega
        obtain rfl : k = n := by omega
        have HF : Hid (puV 255 l = some acc) := Lib.hid (by rw [hV.out, ← hh.out.2.2, List.drop_eq_nil_of_le (by rw [HLN.out]; exact Nat.le_refl _)]; rfl)
        have HA := hh.out.1
        subst HA
        go_wp2
        go_ret2
        exact ⟨.yes HF.out, HBel.out⟩
end Go.Proofs.YtlfdpdlhppgakaaGreatDoor
/- Scan's escapes: strconv.ParseUint of 24 and 8 bits, illFormed, character, unescaped. -/
namespace Go.Proofs.YtlfdpdlhppgakaaGreatDoor
open Go Go.RowKit Go.Kt Go.Kt.Rg Go.Shelf
attribute [local go_sem] Oper.semAt_some

set_option maxRecDepth 100000 in
set_option maxHeartbeats 2000000 in
theorem pu24_any (s : ByteArray) (w : World) (hs : s.size ≤ 140737488351232) (hV : SVar w) :
    Calls Tryz.prog 117 #[.string s, .int .i64 16, .int .i64 24] w fun e w' => PuOut 179 (fun _ => True) (puV 16777215 s.data.toList) e ∧ Below w.heap.size w w' := by
  have CI := Lib.hid (ipu24_any s w (by omega))
  have HV := Lib.hid hV
  obtain ⟨o, ho⟩ : ∃ o, puV 16777215 s.data.toList = o := ⟨_, rfl⟩
  rw [ho] at CI ⊢
  clear hV ho
  go_enter Tryz.func117, Tryz.ntmps117
  go_wp2_with fail
  refine CI.out.mono ?_
  rintro e w1 ⟨hp, hb⟩
  have HB := Lib.hid hb
  clear hb
  cases o with
  | some n =>
    obtain rfl := hp
    have HF := Lib.hid (PuOut.yes (T := 179) (K := fun _ => True) (o := some n) rfl)
    go_wp2
    go_ret2
    exact ⟨HF.out, HB.out⟩
  | none =>
    obtain ⟨z, k, rfl, hk⟩ := hp
    have HF := Lib.hid (fun v => PuOut.no (T := 179) (K := fun _ => True) (o := none) z (k := v) rfl trivial)
    obtain ⟨⟨t1, p1, v1⟩, t2, p2, v2⟩ := HV.out.below HB.out
    rcases hk with rfl | rfl
    · have CT := Lib.hid (fun fn => Tryz.strconv_toError_range fn s 16 24 _ w1 (by omega) v2 (.inr ⟨_, _, rfl⟩))
      clear v1 v2
      go_wp2_with fail
      refine (CT.out _).mono ?_
      rintro e w2 ⟨N, rfl, _, _, hb2⟩
      have HB2 := Lib.hid (HB.out.trans (hb2.mono HB.out.size))
      clear hb2
      go_wp2
      go_ret2
      exact ⟨HF.out _, HB2.out⟩
    · have CT := Lib.hid (fun fn => Tryz.strconv_toError_syntax fn s 16 24 _ w1 (by omega) v1 (.inr ⟨_, _, rfl⟩))
      clear v1 v2
      go_wp2_with fail
      refine (CT.out _).mono ?_
      rintro e w2 ⟨N, rfl, _, _, hb2⟩
      have HB2 := Lib.hid (HB.out.trans (hb2.mono HB.out.size))
      clear hb2
      go_wp2
      go_ret2
      exact ⟨HF.out _, HB2.out⟩

set_option maxRecDepth 100000 in
set_option maxHeartbeats 2000000 in
theorem pu8_any (s : ByteArray) (w : World) (hs : s.size ≤ 140737488351232) (hV : SVar w) :
    Calls Tryz.prog 117 #[.string s, .int .i64 16, .int .i64 8] w fun e w' => PuOut 179 (fun _ => True) (puV 255 s.data.toList) e ∧ Below w.heap.size w w' := by
  have CI := Lib.hid (ipu8_any s w (by omega))
  have HV := Lib.hid hV
  obtain ⟨o, ho⟩ : ∃ o, puV 255 s.data.toList = o := ⟨_, rfl⟩
  rw [ho] at CI ⊢
  clear hV ho
  go_enter Tryz.func117, Tryz.ntmps117
  go_wp2_with fail
  refine CI.out.mono ?_
  rintro e w1 ⟨hp, hb⟩
  have HB := Lib.hid hb
  clear hb
  cases o with
  | some n =>
    obtain rfl := hp
    have HF := Lib.hid (PuOut.yes (T := 179) (K := fun _ => True) (o := some n) rfl)
    go_wp2
    go_ret2
    exact ⟨HF.out, HB.out⟩
  | none =>
    obtain ⟨z, k, rfl, hk⟩ := hp
    have HF := Lib.hid (fun v => PuOut.no (T := 179) (K := fun _ => True) (o := none) z (k := v) rfl trivial)
    obtain ⟨⟨t1, p1, v1⟩, t2, p2, v2⟩ := HV.out.below HB.out
    rcases hk with rfl | rfl
    · have CT := Lib.hid (fun fn => Tryz.strconv_toError_range fn s 16 8 _ w1 (by omega) v2 (.inr ⟨_, _, rfl⟩))
      clear v1 v2
      go_wp2_with fail
      refine (CT.out _).mono ?_
      rintro e w2 ⟨N, rfl, _, _, hb2⟩
      have HB2 := Lib.hid (HB.out.trans (hb2.mono HB.out.size))
      clear hb2
      go_wp2
      go_ret2
      exact ⟨HF.out _, HB2.out⟩
    · have CT := Lib.hid (fun fn => Tryz.strconv_toError_syntax fn s 16 8 _ w1 (by omega) v1 (.inr ⟨_, _, rfl⟩))
      clear v1 v2
      go_wp2_with fail
      refine (CT.out _).mono ?_
      rintro e w2 ⟨N, rfl, _, _, hb2⟩
      have HB2 := Lib.hid (HB.out.trans (hb2.mono HB.out.size))
      clear hb2
      go_wp2
      go_ret2
      exact ⟨HF.out _, HB2.out⟩


theorem conv1u (W : World) (x : Nat) (hx : x < 256) :
    (convert 51 9 (.slice (some ⟨W.heap.size, 0, none⟩) 1 1)).run Tryz.prog (W.alloc (.cells #[.int .u8 (x : Nat)] 5)) = .ok (.string ⟨#[UInt8.ofNat x]⟩) (W.alloc (.cells #[.int .u8 (x : Nat)] 5)) := by
  have := run_convert_bytes_back (P := Tryz.prog) (W.alloc (.cells #[.int .u8 (x : Nat)] 5)) 51 9 5 ⟨W.heap.size, 0, none⟩ 1 [UInt8.ofNat x] Tryz.underlying51 Tryz.underlying5 Tryz.underlying9 (by
    intro j hj
    simp at hj
    subst hj
    rw [Addr.add_lit, Lib.cell_of_heap (World.alloc_heap_new W _)]
    simp; omega)
  simpa using this
/-- What an escape that tells a byte stands for. -/
def illV (l : List UInt8) : Option (List UInt8 × Nat) := if l.length < 4 then none else match puV 255 ((l.drop 2).take 2) with | some n => if n < 128 then none else some ([UInt8.ofNat n], 4) | none => none
def escOut (o : Option (List UInt8 × Nat)) (e : Ending) : Prop := match o with
  | some (t, k) => e = .returned (.tuple #[.string ⟨t.toArray⟩, .int .i64 (k : Nat)])
  | none => e = .returned (.tuple #[.string ⟨#[]⟩, .int .i64 0])

set_option maxRecDepth 100000 in
theorem illFormed_any (s : ByteArray) (w : World) (hs : s.size ≤ 140737488351232) (hV : SVar w) :
    Calls Tryz.prog 104 #[.string s] w fun e w' => escOut (illV s.data.toList) e ∧ Below w.heap.size w w' := by
  have hl : s.data.toList.length = s.size := by simp
  by_cases h4 : s.size < 4
  · have HF : Hid (escOut (illV s.data.toList) (.returned (.tuple #[.string ⟨#[]⟩, .int .i64 0]))) := Lib.hid (by unfold illV; rw [if_pos (by omega)]; rfl)
    clear hV hl
    go_enter Tryz.func104, Tryz.ntmps104
    go_wp2
    go_ret2
    exact ⟨HF.out, Below.refl _ _⟩
  · have hx : (s.extract 2 4).data.toList = (s.data.toList.drop 2).take 2 := by simp [ByteArray.data_extract, Array.toList_extract, List.extract_eq_take_drop]
    have hz : (s.extract 2 4).size ≤ 140737488351232 := by rw [ByteArray.size_extract]; omega
    have CP := Lib.hid (pu8_any (s.extract 2 4) w hz hV)
    rw [hx] at CP
    have HI : Hid (illV s.data.toList = match puV 255 ((s.data.toList.drop 2).take 2) with | some n => if n < 128 then none else some ([UInt8.ofNat n], 4) | none => none) := Lib.hid (by unfold illV; rw [if_neg (by omega)])
    obtain ⟨o, ho⟩ : ∃ o, puV 255 ((s.data.toList.drop 2).take 2) = o := ⟨_, rfl⟩
    have hbd : ∀ n, o = some n → n ≤ 255 := fun n e => puV_bd (ho.trans e)
    rw [ho] at CP HI
    obtain ⟨Z, hZ⟩ : ∃ Z, illV s.data.toList = Z := ⟨_, rfl⟩
    rw [hZ] at HI ⊢
    clear hV hl hx hz ho hZ
    go_enter Tryz.func104, Tryz.ntmps104
    go_wp2_with fail
    refine CP.out.mono ?_
    rintro e w1 ⟨hp, hb⟩
    have HB := Lib.hid hb
    clear hb
    cases o with
    | none =>
      obtain ⟨z, k, rfl, _⟩ := hp
      have HF : Hid (escOut Z (.returned (.tuple #[.string ⟨#[]⟩, .int .i64 0]))) := Lib.hid (by rw [HI.out]; rfl)
      clear HI hbd
      go_wp2
      go_ret2
      exact ⟨HF.out, HB.out⟩
    | some n =>
      obtain rfl := hp
      have hn := hbd n rfl
      by_cases h128 : n < 128
      · have HF : Hid (escOut Z (.returned (.tuple #[.string ⟨#[]⟩, .int .i64 0]))) := Lib.hid (by rw [HI.out]; simp only [h128, if_true]; rfl)
        clear HI hbd
        go_wp2
        go_ret2
        exact ⟨HF.out, HB.out⟩
      · have HF : Hid (escOut Z (.returned (.tuple #[.string ⟨#[UInt8.ofNat n]⟩, .int .i64 4]))) := Lib.hid (by rw [HI.out]; simp only [h128, if_false]; rfl)
        clear HI hbd
        have HC := conv1u w1 n (by omega)
        go_wp2
        go_ret2
        exact ⟨HF.out, HB.out.alloc HB.out.size _⟩

set_option maxRecDepth 100000 in
theorem cutB2_any (s : ByteArray) (w : World) (hs : s.size ≤ 140737488351232) (K : Bool) (hK : s.data.toList.contains 125 = K) :
    Calls Tryz.prog 116 #[.string s, .string ⟨#[125]⟩] w fun e w' => ∃ (X : ByteArray), e = .returned (.tuple #[.string ⟨(upB s.data.toList).toArray⟩, .string X, .bool K]) ∧ Below w.heap.size w w' := by
  have hln : s.data.toList.length = s.size := (Lib.size_eq s).symm
  have hsz1 : (⟨#[125]⟩ : ByteArray).size = 1 := rfl
  have C : Hid (Calls Tryz.prog 123 #[.string s, .string ⟨#[125]⟩] w fun e w' => ∃ (X : ByteArray), e = .returned (.tuple #[.string ⟨(upB s.data.toList).toArray⟩, .string X, .bool K]) ∧ Below w.heap.size w w') := Lib.hid (by
    rcases upB_ix s.data.toList with ⟨h1, h2⟩ | ⟨o, h1, h2, h3⟩
    · have CI := Lib.hid (Tryz.stringslite_Index_one s 125 w)
      have hK1 : K = false := by rw [← hK]; have := Lib.indexByte_none h1; rw [Bool.eq_false_iff]; intro hc; rw [List.contains_iff_mem] at hc; obtain ⟨k, hk, he⟩ := List.mem_iff_getElem.1 hc; exact this k (by rw [List.getElem?_eq_getElem hk, he])
      subst hK1
      rw [h1] at CI
      rw [h2]
      have e : (⟨s.data.toList.toArray⟩ : ByteArray) = s := by cases s; simp
      rw [e]
      clear h1 h2 e hln hsz1 hK
      go_enter Tryz.func123, Tryz.ntmps123
      go_wp2_with fail
      refine CI.out.mono ?_
      rintro e w' ⟨rfl, rfl⟩
      go_wp2
      go_ret3
      exact ⟨_, rfl, Below.refl _ _⟩
    · have CI := Lib.hid (Tryz.stringslite_Index_one s 125 w)
      have hK1 : K = true := by rw [← hK, List.contains_iff_mem]; exact List.mem_of_getElem? (Lib.indexByte_some h1).1
      subst hK1
      rw [h1] at CI
      rw [h3, ← Lib.Pa.extract_upto]
      have c1 : (0 : Int) ≤ o := by omega
      have c2 : (o : Int) ≤ s.size := by omega
      have c3 : (0 : Int) ≤ (o : Int) + 1 := by omega
      have c4 : (o : Int) + 1 ≤ s.size := by omega
      clear h1 h2 h3 hln hK
      go_enter Tryz.func123, Tryz.ntmps123
      go_wp2_with fail
      refine CI.out.mono ?_
      rintro e w' ⟨rfl, rfl⟩
      go_wp2
      go_region
      all_goals
        go_wp2
        go_ret3
        exact ⟨_, rfl, below_drewN (Below.refl _ _) 1⟩)
  clear hln hsz1 hs hK
  go_enter Tryz.func116, Tryz.ntmps116
  go_wp2_with fail
  refine C.out.mono ?_
  rintro e w' ⟨X, rfl, hb⟩
  have HB := Lib.hid hb
  clear hb
  go_wp2
  go_ret3
  exact ⟨X, rfl, HB.out⟩

def opn (l : List UInt8) : Bool := [92, 117, 123].isPrefixOf l
def rst (l : List UInt8) : List UInt8 := if opn l then l.drop 3 else l
/-- What an escape that tells a character's number stands for. -/
def chrO (op K : Bool) (m : Nat) : Option Nat → Option (List UInt8 × Nat)
  | none => none
  | some n => if op && K && decide (m ≤ 6) && Lib.validRune (n : Nat) then some ((Utf8.encode (n : Nat)).data.toList, 4 + m) else none
def chrV (l : List UInt8) : Option (List UInt8 × Nat) := chrO (opn l) ((rst l).contains 125) (upB (rst l)).length (puV 16777215 (upB (rst l)))

set_option maxRecDepth 100000 in
theorem character_any (s : ByteArray) (w : World) (hs : s.size ≤ 140737488351232) (hV : SVar w) :
    Calls Tryz.prog 103 #[.string s] w fun e w' => escOut (chrV s.data.toList) e ∧ Below w.heap.size w w' := by
  obtain ⟨l, hl⟩ : ∃ l, s.data.toList = l := ⟨_, rfl⟩
  have hln : l.length = s.size := by rw [← hl]; exact (Lib.size_eq s).symm
  obtain ⟨op, hop⟩ : ∃ op, opn l = op := ⟨_, rfl⟩
  obtain ⟨R, hR⟩ : ∃ R : ByteArray, R = ⟨(rst l).toArray⟩ := ⟨_, rfl⟩
  have hRd : R.data.toList = rst l := by rw [hR]
  have hRl : (rst l).length ≤ l.length := by unfold rst; split <;> simp
  have hRz : R.size ≤ 140737488351232 := by rw [Lib.size_eq, hRd]; omega
  have C1 : Hid (∀ V, Calls Tryz.prog 115 #[.string s, .string ⟨#[92, 117, 123]⟩] V fun e w' => e = .returned (.tuple #[.string R, .bool op]) ∧ V = w') := Lib.hid fun V => by
    refine (Tryz.strings_CutPrefix s ⟨#[92, 117, 123]⟩ V).mono ?_
    rintro e w' ⟨rfl, rfl⟩
    rw [hl, hR, ← hop]
    exact ⟨rfl, rfl⟩
  obtain ⟨K, hK⟩ : ∃ K, (rst l).contains 125 = K := ⟨_, rfl⟩
  have C2 := Lib.hid (fun V => cutB2_any R V hRz K (by rw [hRd]; exact hK))
  obtain ⟨D, hD⟩ : ∃ D : ByteArray, D = ⟨(upB R.data.toList).toArray⟩ := ⟨_, rfl⟩
  have hDd : D.data.toList = upB (rst l) := by rw [hD, hRd]
  rw [← hD] at C2
  have hDl := upB_len (rst l)
  have hDz : D.size = (upB (rst l)).length := by rw [Lib.size_eq, hDd]
  have C3 := Lib.hid (fun V (hb : Below w.heap.size w V) => pu24_any D V (by omega) (hV.below hb))
  rw [hDd] at C3
  obtain ⟨o, ho⟩ : ∃ o, puV 16777215 (upB (rst l)) = o := ⟨_, rfl⟩
  have hbd : ∀ n, o = some n → n ≤ 16777215 := fun n e => puV_bd (ho.trans e)
  have HV : Hid (chrV l = chrO op K D.size o) := Lib.hid (by unfold chrV; rw [ho, hop, hK, hDz])
  rw [ho] at C3
  obtain ⟨Z, hZ⟩ : ∃ Z, chrV l = Z := ⟨_, rfl⟩
  rw [hl, hZ]
  rw [hZ] at HV
  have HDZ : D.size ≤ 140737488351232 := by omega
  clear hZ ho hDz hDl hDd hD hK hRz hRl hRd hR hop hln hl hV hs
  have HN : Hid (Z = none → escOut Z (.returned (.tuple #[.string ⟨#[]⟩, .int .i64 0]))) := Lib.hid (by rintro rfl; rfl)
  go_enter Tryz.func103, Tryz.ntmps103
  go_wp2_with fail
  refine (C1.out _).mono ?_
  rintro e w' ⟨rfl, rfl⟩
  go_wp2_with fail
  refine (C2.out _).mono ?_
  rintro e w1 ⟨X, rfl, hb⟩
  have HB := Lib.hid hb
  clear hb
  go_wp2_with fail
  refine (C3.out _ HB.out).mono ?_
  rintro e w2 ⟨hp, hb⟩
  have HB2 := Lib.hid (HB.out.trans (hb.mono HB.out.size))
  clear hb
  cases o with
  | none =>
    obtain ⟨z, k, rfl, _⟩ := hp
    have HF := Lib.hid (HN.out HV.out)
    clear HV hbd HN
    cases op <;> cases K
    all_goals
      go_wp2
      go_ret2
      exact ⟨HF.out, HB2.out⟩
  | some n =>
    obtain rfl := hp
    have hn := hbd n rfl
    clear hbd
    have CV := Lib.hid (fun V => Tryz.utf8_ValidRune (n : Nat) V)
    have CE := Lib.hid (fun V => utfEncode_any (n : Nat) V)
    obtain ⟨vd, hvd⟩ : ∃ vd, Lib.validRune (n : Nat) = vd := ⟨_, rfl⟩
    have HVD := Lib.hid hvd
    rw [hvd] at CV
    clear hvd
    by_cases h6 : D.size ≤ 6
    · have h6' : ¬ ((6 : Int) < D.size) := by omega
      cases op
      · have HF := Lib.hid (HN.out (by rw [HV.out]; simp [chrO]))
        clear HV HN
        go_wp2
        go_ret2
        exact ⟨HF.out, HB2.out⟩
      · cases K
        · have HF := Lib.hid (HN.out (by rw [HV.out]; simp [chrO]))
          clear HV HN
          go_wp2
          go_ret2
          exact ⟨HF.out, HB2.out⟩
        · cases vd
          · have HF := Lib.hid (HN.out (by rw [HV.out]; simp [chrO, HVD.out]))
            clear HV HN
            go_wp2_with (go_at_call 112; refine (CV.out _).mono ?_; rintro e w' ⟨rfl, rfl⟩)
            go_ret2
            exact ⟨HF.out, HB2.out⟩
          · obtain ⟨E, hE⟩ : ∃ E, Utf8.encode (n : Nat) = E := ⟨_, rfl⟩
            have HF : Hid (escOut Z (.returned (.tuple #[.string E, .int .i64 (4 + (D.size : Nat) : Int)]))) := Lib.hid (by rw [HV.out]; simp [chrO, HVD.out, h6, escOut, hE])
            rw [hE] at CE
            have HW : IntKind.i64.wrap (4 + (D.size : Int)) = 4 + D.size := IntWalk.i64_in _ (by omega)
            clear HV HN hE HVD h6'
            go_wp2_with (go_at_call 112; refine (CV.out _).mono ?_; rintro e w' ⟨rfl, rfl⟩)
            go_wp2_with fail
            refine (CE.out _).mono ?_
            rintro e w' ⟨rfl, rfl⟩
            go_wp2
            go_ret2
            exact ⟨HF.out, HB2.out⟩
    · have h6' : (6 : Int) < D.size := by omega
      have HF := Lib.hid (HN.out (by rw [HV.out]; simp [chrO, h6]))
      clear HV HN
      cases op <;> cases K
      all_goals
        go_wp2
        go_ret2
        exact ⟨HF.out, HB2.out⟩
end Go.Proofs.YtlfdpdlhppgakaaGreatDoor
/- Scan's escapes: unescaped. -/
namespace Go.Proofs.YtlfdpdlhppgakaaGreatDoor
open Go Go.RowKit Go.Kt Go.Kt.Rg Go.Shelf
attribute [local go_sem] Oper.semAt_some

/-- What the escape with which a text begins stands for, and how many bytes it has. -/
def unescV (s : ByteArray) : Option (List UInt8 × Nat) :=
  if unitW s 1 = 0 then none else if (decP s 1).1 = 117 then chrV s.data.toList else if (decP s 1).1 = 120 then illV s.data.toList else some ((s.extract 1 (1 + unitW s 1)).data.toList, 1 + unitW s 1)

set_option maxRecDepth 100000 in
theorem unescaped_any (s : ByteArray) (w : World) (hs : s.size ≤ 140737488351232) (h1 : 1 ≤ s.size) (hE : SEnv w) :
    Calls Tryz.prog 88 #[.string s] w fun e w' => escOut (unescV s) e ∧ Below w.heap.size w w' := by
  obtain ⟨r, hr⟩ := decP_W s 1
  obtain ⟨b1, b2, b3⟩ := unitW_bd s 1 h1
  have C := Lib.hid (utfDecode_any s ((1 : Nat) : Int) w hE.tabs (by omega))
  have hr' : decP s ((1 : Nat) : Int) = (r, ((unitW s 1 : Nat) : Int)) := hr
  rw [hr'] at C
  have CH := Lib.hid (fun V (hb : Below w.heap.size w V) => character_any s V hs (hE.sv.below hb))
  have CI := Lib.hid (fun V (hb : Below w.heap.size w V) => illFormed_any s V hs (hE.sv.below hb))
  have HU : Hid (unescV s = if unitW s 1 = 0 then none else if r = 117 then chrV s.data.toList else if r = 120 then illV s.data.toList else some ((s.extract 1 (1 + unitW s 1)).data.toList, 1 + unitW s 1)) := Lib.hid (by unfold unescV; rw [show (decP s 1).1 = r from congrArg Prod.fst hr])
  obtain ⟨Z, hZ⟩ : ∃ Z, unescV s = Z := ⟨_, rfl⟩
  rw [hZ] at HU ⊢
  generalize chrV s.data.toList = zc at *
  generalize illV s.data.toList = zi at *
  generalize unitW s 1 = n at *
  have HW : IntKind.i64.wrap (1 + (n : Nat) : Int) = 1 + (n : Nat) := IntWalk.i64_in _ (by omega)
  clear hZ hr hr' hE b3
  go_enter Tryz.func88, Tryz.ntmps88
  go_wp2_with fail
  refine C.out.mono ?_
  rintro e w1 ⟨rfl, hb⟩
  have HB := Lib.hid hb
  clear hb
  by_cases h0 : n = 0
  · have HF : Hid (escOut Z (.returned (.tuple #[.string ⟨#[]⟩, .int .i64 0]))) := Lib.hid (by rw [HU.out, if_pos h0]; rfl)
    subst h0
    clear HU
    go_wp2
    go_ret2
    exact ⟨HF.out, HB.out⟩
  · have n0 : (((n : Nat) : Int) == 0) = false := by simp; omega
    by_cases hu : r = 117
    · have HF : Hid (Z = zc) := Lib.hid (by rw [HU.out, if_neg h0, if_pos hu])
      subst hu
      clear HU h0
      go_wp2_with fail
      refine (CH.out _ HB.out).mono ?_
      rintro e w2 ⟨hp, hb⟩
      rw [← HF.out] at hp
      have HB2 := Lib.hid (HB.out.trans (hb.mono HB.out.size))
      clear hb
      cases Z with
      | none =>
        obtain rfl := hp
        go_wp2
        go_ret2
        exact ⟨rfl, HB2.out⟩
      | some z =>
        obtain ⟨t, k⟩ := z
        obtain rfl := hp
        go_wp2
        go_ret2
        exact ⟨rfl, HB2.out⟩
    · have u0 : (r == 117) = false := by simp; omega
      by_cases hx : r = 120
      · have HF : Hid (Z = zi) := Lib.hid (by rw [HU.out, if_neg h0, if_neg hu, if_pos hx])
        subst hx
        clear HU h0
        go_wp2_with fail
        refine (CI.out _ HB.out).mono ?_
        rintro e w2 ⟨hp, hb⟩
        rw [← HF.out] at hp
        have HB2 := Lib.hid (HB.out.trans (hb.mono HB.out.size))
        clear hb
        cases Z with
        | none =>
          obtain rfl := hp
          go_wp2
          go_ret2
          exact ⟨rfl, HB2.out⟩
        | some z =>
          obtain ⟨t, k⟩ := z
          obtain rfl := hp
          go_wp2
          go_ret2
          exact ⟨rfl, HB2.out⟩
      · have x0 : (r == 120) = false := by simp; omega
        have HF : Hid (escOut Z (.returned (.tuple #[.string (s.extract 1 (1 + n)), .int .i64 (1 + (n : Nat) : Int)]))) := Lib.hid (by
          rw [HU.out, if_neg h0, if_neg hu, if_neg hx]
          have e : (⟨(s.extract 1 (1 + n)).data.toList.toArray⟩ : ByteArray) = s.extract 1 (1 + n) := by cases s.extract 1 (1 + n); simp
          show _ = Ending.returned (.tuple #[.string ⟨(s.extract 1 (1 + n)).data.toList.toArray⟩, .int .i64 ((1 + n : Nat) : Int)])
          rw [e, Int.natCast_add]
          rfl)
        have c1 : (1 : Int) ≤ 1 + (n : Nat) := by omega
        have c2 : (1 : Int) + (n : Nat) ≤ s.size := by omega
        have c3 : ((1 : Int) + (n : Nat)).toNat = 1 + n := by omega
        clear HU h0 hu hx
        go_wp2
        go_ret2
        exact ⟨HF.out, HB.out⟩
end Go.Proofs.YtlfdpdlhppgakaaGreatDoor
/- The scanner's escape. -/
namespace Go.Proofs.YtlfdpdlhppgakaaGreatDoor
open Go Go.RowKit Go.Kt Go.Kt.Rg Go.Shelf
attribute [local go_sem] Oper.semAt_some

theorem unesc_bd {s : ByteArray} {t : List UInt8} {k : Nat} (h1 : 1 ≤ s.size) (h : unescV s = some (t, k)) : 1 ≤ k ∧ k ≤ s.size + 4 ∧ t.length ≤ 4 := by
  obtain ⟨b1, b2, b3⟩ := unitW_bd s 1 h1
  have hl : s.data.toList.length = s.size := (Lib.size_eq s).symm
  unfold unescV at h
  split at h
  · cases h
  · split at h
    · unfold chrV at h
      have hu := upB_len (rst s.data.toList)
      have hr : (rst s.data.toList).length ≤ s.data.toList.length := by unfold rst; split <;> simp
      cases ho : puV 16777215 (upB (rst s.data.toList)) with
      | none => rw [ho] at h; cases h
      | some n =>
        rw [ho] at h
        unfold chrO at h
        simp only at h
        split at h
        · injection h with h
          injection h with h2 h3
          have := encode_size ((n : Nat) : Int)
          have e := Lib.size_eq (Utf8.encode ((n : Nat) : Int))
          subst h2; subst h3
          omega
        · cases h
    · split at h
      · unfold illV at h
        split at h
        · cases h
        · split at h
          · split at h
            · cases h
            · injection h with h
              injection h with h2 h3
              subst h2; subst h3
              simp <;> omega
          · cases h
      · injection h with h
        injection h with h2 h3
        have e := Lib.size_eq (s.extract 1 (1 + unitW s 1))
        rw [ByteArray.size_extract] at e
        subst h2; subst h3
        omega

theorem set_8 {W : World} {g : Nat} {s : ByteArray} {st l1 c1 i1 l2 c2 i2 l3 c3 i3 bh : Int} {tv kv u : Value} {T : TypeId} (h : W.heap[g]? = some (.cells (scC s st l1 c1 i1 l2 c2 i2 tv l3 c3 i3 bh kv) T (0, 0))) :
    (W.setCell ⟨g, 8, none⟩ u).heap[g]? = some (.cells (scC s st l1 c1 i1 l2 c2 i2 u l3 c3 i3 bh kv) T (0, 0)) := by
  have hlt := (Array.getElem?_eq_some_iff.1 h).1
  have h' : W.heap[g] = .cells (scC s st l1 c1 i1 l2 c2 i2 tv l3 c3 i3 bh kv) T (0, 0) := by rw [Array.getElem?_eq_getElem hlt] at h; exact Option.some.inj h
  simp [World.setCell, hlt, Array.getElem_modify, h']
theorem set_1 {W : World} {g : Nat} {s : ByteArray} {st z l1 c1 i1 l2 c2 i2 l3 c3 i3 bh : Int} {tv kv : Value} {T : TypeId} (h : W.heap[g]? = some (.cells (scC s st l1 c1 i1 l2 c2 i2 tv l3 c3 i3 bh kv) T (0, 0))) :
    (W.setCell ⟨g, 1, none⟩ (.int .i64 z)).heap[g]? = some (.cells (scC s z l1 c1 i1 l2 c2 i2 tv l3 c3 i3 bh kv) T (0, 0)) := by
  have hlt := (Array.getElem?_eq_some_iff.1 h).1
  have h' : W.heap[g] = .cells (scC s st l1 c1 i1 l2 c2 i2 tv l3 c3 i3 bh kv) T (0, 0) := by rw [Array.getElem?_eq_getElem hlt] at h; exact Option.some.inj h
  simp [World.setCell, hlt, Array.getElem_modify, h']
theorem set_12 {W : World} {g : Nat} {s : ByteArray} {st z l1 c1 i1 l2 c2 i2 l3 c3 i3 bh : Int} {tv kv : Value} {T : TypeId} (h : W.heap[g]? = some (.cells (scC s st l1 c1 i1 l2 c2 i2 tv l3 c3 i3 bh kv) T (0, 0))) :
    (W.setCell ⟨g, 12, none⟩ (.int .i64 z)).heap[g]? = some (.cells (scC s st l1 c1 i1 l2 c2 i2 tv l3 c3 i3 z kv) T (0, 0)) := by
  have hlt := (Array.getElem?_eq_some_iff.1 h).1
  have h' : W.heap[g] = .cells (scC s st l1 c1 i1 l2 c2 i2 tv l3 c3 i3 bh kv) T (0, 0) := by rw [Array.getElem?_eq_getElem hlt] at h; exact Option.some.inj h
  simp [World.setCell, hlt, Array.getElem_modify, h']

/-- What escape answers, and leaves. -/
def EscOut (s : ByteArray) (l1 c1 i : Nat) (l2 c2 i2 l3 c3 i3 : Int) (tv kv : Value) (m g : Nat) (xs : List Value) (w : World) (o : Option (List UInt8 × Nat)) (e : Ending) (w' : World) : Prop := match o with
  | none => e = .returned (fltV 9 (l1 : Nat) (c1 : Nat)) ∧ Below w.heap.size w w'
  | some (t, k) => e = .returned .nilIface ∧ ∃ tv', w'.heap[g]? = some (.cells (scC s 7 (l1 : Nat) (c1 : Nat) (i : Nat) l2 c2 i2 tv' l3 c3 i3 ((i + k : Nat) : Int) kv) 53 (0, 0)) ∧
      OwnS (fun b => (tv.ownBlock = some b ∨ w.heap.size ≤ b) ∧ b ≠ g) 5 1 tv' (m + t.length) (xs ++ u8V t) w' ∧ Keep (fun b => b = g ∨ tv.ownBlock = some b) w w'

set_option maxHeartbeats 4000000 in
set_option maxRecDepth 100000 in
theorem escape_raw (s : ByteArray) (st l2 c2 i2 l3 c3 i3 bh : Int) (l1 c1 i : Nat) (tv kv : Value) (g : Nat) (w : World) (m : Nat) (xs : List Value) (hg : w.heap[g]? = some (.cells (scC s st (l1 : Nat) (c1 : Nat) (i : Nat) l2 c2 i2 tv l3 c3 i3 bh kv) 53 (0, 0)))
    (hown : OwnS (fun b => b ≠ g) 5 1 tv m xs w) (hm : m ≤ 8388608) (hi : i < s.size) (hs : s.size ≤ 1048576) (hE : SEnv w) :
    Calls Tryz.prog 72 #[.pointer (some ⟨g, 0, none⟩)] w fun e w' => EscOut s l1 c1 i l2 c2 i2 l3 c3 i3 tv kv m g xs w (unescV (s.extract i s.size)) e w' := by
  have hgl : g < w.heap.size := (Array.getElem?_eq_some_iff.1 hg).1
  have htg : tv.ownBlock ≠ some g := fun h => hown.2 g h rfl
  have c0 : w.cell? ⟨g, 0, none⟩ = some (.string s) := by rw [Lib.cell_of_heap hg]; rfl
  have c4 : w.cell? ⟨g, 4, none⟩ = some (.int .i64 (i : Nat)) := by rw [Lib.cell_of_heap hg]; rfl
  have hz : (s.extract i s.size).size = s.size - i := by rw [ByteArray.size_extract]; omega
  have CU := Lib.hid (unescaped_any (s.extract i s.size) w.drew (by omega) (by omega) (hE.below (Below.refl _ w).drew))
  have HBD := Lib.hid (fun (t : List UInt8) (k : Nat) (h : unescV (s.extract i s.size) = some (t, k)) => unesc_bd (s := s.extract i s.size) (by omega) h)
  obtain ⟨o, ho⟩ : ∃ o, unescV (s.extract i s.size) = o := ⟨_, rfl⟩
  rw [ho] at CU HBD ⊢
  have HZ := Lib.hid hz
  have HG := Lib.hid hg
  have HO := Lib.hid hown
  have HTG := Lib.hid htg
  have hil : (i : Int) ≤ s.size := by omega
  clear hz ho hE hg hown htg
  go_enter Tryz.func72, Tryz.ntmps72
  go_wp2
  cases o with
  | none =>
    go_region_with (first
      | (go_at_call 88; refine CU.out.mono ?_; rintro e w1 ⟨rfl, hb⟩
         have hg1 : w1.heap[g]? = some (.cells (scC s st (l1 : Nat) (c1 : Nat) (i : Nat) l2 c2 i2 tv l3 c3 i3 bh kv) 53 (0, 0)) := (hb.block g hgl).trans HG.out
         have k2 : w1.cell? ⟨g, 2, none⟩ = some (.int .i64 (l1 : Nat)) := by rw [Lib.cell_of_heap hg1]; rfl
         have k3 : w1.cell? ⟨g, 3, none⟩ = some (.int .i64 (c1 : Nat)) := by rw [Lib.cell_of_heap hg1]; rfl
         have k4 : w1.cell? ⟨g, 4, none⟩ = some (.int .i64 (i : Nat)) := by rw [Lib.cell_of_heap hg1]; rfl
         have HB := Lib.hid (((Below.refl _ w).drew).trans hb)
         have HG1 := Lib.hid hg1
         clear hb c0 c4 hg1))
    all_goals
      have CF := Lib.hid (fun V => plFault_any (l1, c1, i) 9 V)
      unfold plV at CF
      go_wp2_with fail
      refine (CF.out _).mono ?_
      rintro e w2 ⟨rfl, hb⟩
      have HB2 := Lib.hid (HB.out.trans (hb.mono HB.out.size))
      clear hb
      go_wp2
      go_ret
      exact ⟨rfl, HB2.out⟩
  | some z =>
    obtain ⟨t, k⟩ := z
    obtain ⟨bk1, bk2, bt⟩ := HBD.out t k rfl
    have hz := HZ.out
    have HW : IntKind.i64.wrap ((i : Nat) + (k : Nat) : Int) = ((i + k : Nat) : Int) := by rw [Int.natCast_add]; exact IntWalk.i64_in _ (by omega)
    have hk0 : (((k : Nat) : Int) == 0) = false := by simp; omega
    obtain ⟨tb, htb⟩ : ∃ tb : ByteArray, tb = ⟨t.toArray⟩ := ⟨_, rfl⟩
    have htz : tb.size = t.length := by rw [htb]; exact size_mk t
    have HTC : Hid (Lib.strCells tb = u8V t) := Lib.hid (by rw [htb]; rfl)
    have CU2 : Hid (Calls Tryz.prog 88 #[.string (s.extract i s.size)] w.drew fun e w' => e = .returned (.tuple #[.string tb, .int .i64 (k : Nat)]) ∧ Below w.drew.heap.size w.drew w') := Lib.hid (by rw [htb]; exact CU.out)
    have HTZ := Lib.hid htz
    have hlm : m + tb.size ≤ 140737488355328 := by omega
    clear htb htz bk2 bt hz CU HBD
    go_region_with (first
      | (go_at_call 88; refine CU2.out.mono ?_; rintro e w1 ⟨rfl, hb⟩
         have hg1 : w1.heap[g]? = some (.cells (scC s st (l1 : Nat) (c1 : Nat) (i : Nat) l2 c2 i2 tv l3 c3 i3 bh kv) 53 (0, 0)) := (hb.block g hgl).trans HG.out
         have k8 : w1.cell? ⟨g, 8, none⟩ = some tv := by rw [Lib.cell_of_heap hg1]; rfl
         have HB := Lib.hid (((Below.refl _ w).drew).trans hb)
         have HG1 := Lib.hid hg1
         clear hb c0 c4 hg1))
    all_goals
      have ho1 : OwnS (fun b => b ≠ g) 5 1 tv m xs w1 := HO.out.keep (X := fun _ => False) (Keep.of_all HB.out) (fun _ h => h.elim)
      obtain ⟨tv', w2, hrun, ho2, hk2⟩ := append_st (P := Tryz.prog) w1 51 9 5 Tryz.underlying51 Tryz.underlying9 tinfo5 ho1 tb hlm
      have hg2 : w2.heap[g]? = some (.cells (scC s st (l1 : Nat) (c1 : Nat) (i : Nat) l2 c2 i2 tv l3 c3 i3 bh kv) 53 (0, 0)) := hk2.heap HG1.out HTG.out
      have HRun := Lib.hid hrun
      have HO2 := Lib.hid ho2
      have HK2 := Lib.hid hk2
      have HG2 := Lib.hid hg2
      obtain ⟨ao, ln, cp, rfl⟩ : ∃ ao ln cp, tv' = .slice ao ln cp := by
        rcases ho2.shape with ⟨h, _⟩ | ⟨g', cap, h, _⟩
        · exact ⟨_, _, _, h⟩
        · exact ⟨_, _, _, h⟩
      have q1 : w2.cell? ⟨g, 1, none⟩ = some (.int .i64 st) := by rw [Lib.cell_of_heap hg2]; rfl
      have f1 : w2.frozen? ⟨g, 1, none⟩ = false := by simp [World.frozen?, hg2]
      have q4 : w2.cell? ⟨g, 4, none⟩ = some (.int .i64 (i : Nat)) := by rw [Lib.cell_of_heap hg2]; rfl
      have q12 : w2.cell? ⟨g, 12, none⟩ = some (.int .i64 bh) := by rw [Lib.cell_of_heap hg2]; rfl
      have f12 : w2.frozen? ⟨g, 12, none⟩ = false := by simp [World.frozen?, hg2]
      have q8 : w2.cell? ⟨g, 8, none⟩ = some tv := by rw [Lib.cell_of_heap hg2]; rfl
      have f8 : w2.frozen? ⟨g, 8, none⟩ = false := by simp [World.frozen?, hg2]
      clear ho1 hrun ho2 hk2 hg2
      go_wp2_with (at_builtin; refine wpList_append_eq rfl rfl rfl rfl HRun.out ?_)
      go_ret
      refine ⟨rfl, .slice ao ln cp, ?_, ?_, ?_⟩
      · have h1 := set_12 (z := (i : Int) + (k : Int)) (set_1 (z := 7) (set_8 (u := .slice ao ln cp) HG2.out))
        rw [Int.natCast_add]
        exact h1
      · have hk3 : Keep (fun b => b = g) w2 (((w2.setCell ⟨g, 8, none⟩ (.slice ao ln cp)).setCell ⟨g, 1, none⟩ (.int .i64 7)).setCell ⟨g, 12, none⟩ (.int .i64 ((i : Int) + (k : Int)))) :=
          Keep.setCell (X := fun b => b = g) (Keep.setCell (X := fun b => b = g) (Keep.setCell (X := fun b => b = g) (Keep.refl _ _) (p := ⟨g, 8, none⟩) rfl _) (p := ⟨g, 1, none⟩) rfl _) (p := ⟨g, 12, none⟩) rfl _
        have hle := HB.out.size
        have o1 : OwnS (fun b => (tv.ownBlock = some b ∨ w.heap.size ≤ b) ∧ b ≠ g) 5 1 (.slice ao ln cp) (m + tb.size) (xs ++ Lib.strCells tb) w2 := HO2.out.weaken (by
          rintro b (h | h)
          · exact ⟨.inl h, fun e => HTG.out (e ▸ h)⟩
          · exact ⟨.inr (by omega), by omega⟩)
        rw [HTC.out, HTZ.out] at o1
        exact o1.keep hk3 (fun b hb hy => hy.2 hb)
      · refine Keep.setCell (Keep.setCell (Keep.setCell ?_ (p := ⟨g, 8, none⟩) (.inl rfl) _) (p := ⟨g, 1, none⟩) (.inl rfl) _) (p := ⟨g, 12, none⟩) (.inl rfl) _
        exact (Keep.of_all HB.out).trans (HK2.out.weaken fun _ _ h => .inr h)
end Go.Proofs.YtlfdpdlhppgakaaGreatDoor
/- Scan's tooMany, and its end. -/
namespace Go.Proofs.YtlfdpdlhppgakaaGreatDoor
open Go Go.RowKit Go.Kt Go.Shelf
attribute [local go_sem] Oper.semAt_some

def nlN (s : ByteArray) : Nat := Lib.countByte (Lib.trimSuffix s.data.toList [10]) 10
/-- The fault of a file that has too many bytes or lines. -/
def tmV (s : ByteArray) : Value := if 1048576 < s.size then fltV 5 0 0 else if 65536 ≤ nlN s then fltV 5 65537 1 else .nilIface

set_option maxRecDepth 100000 in
theorem tooMany_any (s : ByteArray) (w : World) (hs : s.size ≤ 140737488351232) :
    Calls Tryz.prog 25 #[.string s] w fun e w' => e = .returned (tmV s) ∧ Below w.heap.size w w' := by
  obtain ⟨T, hT⟩ : ∃ T : ByteArray, T = ⟨(Lib.trimSuffix s.data.toList [10]).toArray⟩ := ⟨_, rfl⟩
  have CT := Lib.hid (fun V => Tryz.strings_TrimSuffix s ⟨#[10]⟩ V (by omega))
  have CT2 : Hid (∀ V, Calls Tryz.prog 46 #[.string s, .string ⟨#[10]⟩] V fun e w' => e = .returned (.string T) ∧ w' = V) := Lib.hid fun V => by rw [hT]; exact CT.out V
  have hTd : T.data.toList = Lib.trimSuffix s.data.toList [10] := by rw [hT]
  have CC : Hid (∀ V, Calls Tryz.prog 45 #[.string T, .string ⟨#[10]⟩] V fun e w' => e = .returned (.int .i64 (nlN s : Nat)) ∧ w' = V) := Lib.hid fun V => by
    have := Tryz.strings_Count_one T 10 V
    rw [hTd] at this
    exact this
  have HV : Hid (tmV s = if 1048576 < s.size then fltV 5 0 0 else if 65536 ≤ nlN s then fltV 5 65537 1 else .nilIface) := Lib.hid rfl
  generalize nlN s = n at *
  generalize tmV s = Z at *
  clear hT CT hTd
  by_cases h1 : 1048576 < s.size
  · have hz : Z = fltV 5 0 0 := by rw [HV.out, if_pos h1]
    subst hz
    have h1' : (1048576 : Int) < s.size := by omega
    clear HV h1
    go_enter Tryz.func25, Tryz.ntmps25
    go_wp2
    go_ret
    exact ⟨rfl, Below.refl _ _⟩
  · have h1' : ¬ (1048576 : Int) < s.size := by omega
    by_cases h2 : 65536 ≤ n
    · have hz : Z = fltV 5 65537 1 := by rw [HV.out, if_neg h1, if_pos h2]
      subst hz
      have h2' : (65536 : Int) ≤ n := by omega
      clear HV h1 h2
      go_enter Tryz.func25, Tryz.ntmps25
      go_wp2_with (first | (go_at_call 46; refine (CT2.out _).mono ?_; rintro e w' ⟨rfl, rfl⟩) | (go_at_call 45; refine (CC.out _).mono ?_; rintro e w' ⟨rfl, rfl⟩))
      go_ret
      exact ⟨rfl, Below.refl _ _⟩
    · have hz : Z = .nilIface := by rw [HV.out, if_neg h1, if_neg h2]
      subst hz
      obtain ⟨z, hzz⟩ : ∃ z : Int, ((n : Nat) : Int) = z := ⟨_, rfl⟩
      have h2' : z < 65536 := by omega
      rw [hzz] at CC
      clear hzz
      clear HV h1 h2
      go_enter Tryz.func25, Tryz.ntmps25
      go_wp2_with (first | (go_at_call 46; refine (CT2.out _).mono ?_; rintro e w' ⟨rfl, rfl⟩) | (go_at_call 45; refine (CC.out _).mono ?_; rintro e w' ⟨rfl, rfl⟩))
      go_ret
      exact ⟨rfl, Below.refl _ _⟩

set_option maxRecDepth 100000 in
theorem end_bad (s : ByteArray) (l1 c1 i1 bh : Int) (st l2 c2 i2 l3 c3 i3 : Nat) (tv kv : Value) (g : Nat) (w : World) (hg : w.heap[g]? = some (.cells (scC s (st : Nat) l1 c1 i1 (l2 : Nat) (c2 : Nat) (i2 : Nat) tv (l3 : Nat) (c3 : Nat) (i3 : Nat) bh kv) 53 (0, 0))) (h : st = 3 ∨ st = 5) :
    Calls Tryz.prog 28 #[.pointer (some ⟨g, 0, none⟩)] w fun e w' => e = .returned (.tuple #[.slice none 0 0, if st = 3 then fltV 25 (l2 : Nat) (c2 : Nat) else fltV 10 (l3 : Nat) (c3 : Nat)]) ∧ Below w.heap.size w w' := by
  have k1 : w.cell? ⟨g, 1, none⟩ = some (.int .i64 (st : Nat)) := by rw [Lib.cell_of_heap hg]; rfl
  rcases h with rfl | rfl
  · have k5 : w.cell? ⟨g, 5, none⟩ = some (.int .i64 (l2 : Nat)) := by rw [Lib.cell_of_heap hg]; rfl
    have k6 : w.cell? ⟨g, 6, none⟩ = some (.int .i64 (c2 : Nat)) := by rw [Lib.cell_of_heap hg]; rfl
    have k7 : w.cell? ⟨g, 7, none⟩ = some (.int .i64 (i2 : Nat)) := by rw [Lib.cell_of_heap hg]; rfl
    have CF := Lib.hid (fun V => plFault_any (l2, c2, i2) 25 V)
    unfold plV at CF
    clear hg
    go_enter Tryz.func28, Tryz.ntmps28
    go_wp2_with fail
    refine (CF.out _).mono ?_
    rintro e w2 ⟨rfl, hb⟩
    have HB := Lib.hid hb
    clear hb
    go_wp2
    go_ret2
    exact ⟨rfl, HB.out⟩
  · have k9 : w.cell? ⟨g, 9, none⟩ = some (.int .i64 (l3 : Nat)) := by rw [Lib.cell_of_heap hg]; rfl
    have k10 : w.cell? ⟨g, 10, none⟩ = some (.int .i64 (c3 : Nat)) := by rw [Lib.cell_of_heap hg]; rfl
    have k11 : w.cell? ⟨g, 11, none⟩ = some (.int .i64 (i3 : Nat)) := by rw [Lib.cell_of_heap hg]; rfl
    have CF := Lib.hid (fun V => plFault_any (l3, c3, i3) 10 V)
    unfold plV at CF
    clear hg
    go_enter Tryz.func28, Tryz.ntmps28
    go_wp2_with fail
    refine (CF.out _).mono ?_
    rintro e w2 ⟨rfl, hb⟩
    have HB := Lib.hid hb
    clear hb
    go_wp2
    go_ret2
    exact ⟨rfl, HB.out⟩

set_option maxRecDepth 100000 in
theorem end_good (s : ByteArray) (l1 c1 i1 l2 c2 i2 l3 c3 i3 bh : Int) (st : Nat) (tv kv : Value) (g : Nat) (w : World) (n : Nat) (xs : List Value) (hg : w.heap[g]? = some (.cells (scC s (st : Nat) l1 c1 i1 l2 c2 i2 tv l3 c3 i3 bh kv) 53 (0, 0)))
    (hown : OwnS (fun b => b ≠ g) 39 5 kv n xs w) (hn : n ≤ 2097152) (h3 : st ≠ 3) (h5 : st ≠ 5) :
    Calls Tryz.prog 28 #[.pointer (some ⟨g, 0, none⟩)] w fun e w' => ∃ g2 cap, e = .returned (.tuple #[.slice (some ⟨g2, 0, none⟩) (n + 1) cap, .nilIface]) ∧
      OwnS (fun b => (kv.ownBlock = some b ∨ w.heap.size ≤ b) ∧ b ≠ g) 39 5 (.slice (some ⟨g2, 0, none⟩) (n + 1) cap) (n + 1) (xs ++ [.int .i64 0, .string ⟨#[]⟩, .int .i64 l2, .int .i64 c2, .int .i64 i2]) w' ∧ Keep (fun b => b = g ∨ kv.ownBlock = some b) w w' := by
  have k1 : w.cell? ⟨g, 1, none⟩ = some (.int .i64 (st : Nat)) := by rw [Lib.cell_of_heap hg]; rfl
  have CA := Lib.hid (add_raw s (st : Nat) l1 c1 i1 l2 c2 i2 l3 c3 i3 bh tv kv g w 0 ⟨#[]⟩ n xs hg hown hn (by decide))
  have n3 : (((st : Nat) : Int) == 3) = false := by simp; omega
  have n5 : (((st : Nat) : Int) == 5) = false := by simp; omega
  clear hg hown h3 h5
  go_enter Tryz.func28, Tryz.ntmps28
  go_wp2_with fail
  refine CA.out.mono ?_
  rintro e w2 ⟨rfl, kv', hg2, ho, hk⟩
  obtain ⟨g2, cap, rfl⟩ : ∃ g2 cap, kv' = .slice (some ⟨g2, 0, none⟩) (n + 1) cap := by
    rcases ho.shape with ⟨_, h⟩ | ⟨g', cap, h, _⟩
    · omega
    · exact ⟨_, _, h⟩
  have q13 : w2.cell? ⟨g, 13, none⟩ = some (.slice (some ⟨g2, 0, none⟩) (n + 1) cap) := by rw [Lib.cell_of_heap hg2]; rfl
  have HF := Lib.hid (And.intro ho hk)
  clear hg2 ho hk k1
  go_wp2
  go_ret2
  exact ⟨g2, cap, rfl, HF.out.1, HF.out.2⟩
end Go.Proofs.YtlfdpdlhppgakaaGreatDoor
/- strings.Join, strings.FieldsFunc laid over this translation; scan.evened. -/
namespace Go.Proofs
open Go.Shelf
def Tryz.lays156_ren : Go.Shelf.Ren := ⟨fun | 156 => 75 | 165 => 90 | 166 => 33 | 169 => 35 | 240 => 59 | 241 => 105 | 276 => 82 | 277 => 119 | n => n, fun | 31 => 99 | 9 => 9 | 3 => 3 | 4 => 4 | 0 => 0 | 20 => 20 | 72 => 64 | 76 => 67 | 70 => 62 | 37 => 51 | 75 => 28 | 127 => 98 | 164 => 110 | 5 => 5 | 80 => 70 | n => n, fun | n => n⟩
theorem Tryz.lays156 : Go.Proofs.Lays.n156 Tryz.prog Tryz.lays156_ren := {
  mixed := by kernel_rfl
  f156 := Tryz.func75.trans (congrArg some (by kernel_rfl))
  f165 := Tryz.func90.trans (congrArg some (by kernel_rfl))
  f166 := Tryz.func33.trans (congrArg some (by kernel_rfl))
  f169 := Tryz.func35.trans (congrArg some (by kernel_rfl))
  f240 := Tryz.func59.trans (congrArg some (by kernel_rfl))
  f241 := Tryz.func105.trans (congrArg some (by kernel_rfl))
  f276 := Tryz.func82.trans (congrArg some (by kernel_rfl))
  f277 := Tryz.func119.trans (congrArg some (by kernel_rfl))
  t0 := Tryz.underlying0
  a0 := Tryz.isAgg0
  z0 := Tryz.sizeOf0
  v0 := Tryz.zeroValue0
  t3 := Tryz.underlying3
  a3 := Tryz.isAgg3
  z3 := Tryz.sizeOf3
  v3 := Tryz.zeroValue3
  t4 := Tryz.underlying4
  a4 := Tryz.isAgg4
  z4 := Tryz.sizeOf4
  v4 := Tryz.zeroValue4
  t9 := Tryz.underlying9
  a9 := Tryz.isAgg9
  z9 := Tryz.sizeOf9
  v9 := Tryz.zeroValue9
  t20 := Tryz.underlying20
  a20 := Tryz.isAgg20
  z20 := Tryz.sizeOf20
  v20 := Tryz.zeroValue20
  t31 := Tryz.underlying99
  a31 := Tryz.isAgg99
  z31 := Tryz.sizeOf99
  v31 := Tryz.zeroValue99
  t37 := Tryz.underlying51
  a37 := Tryz.isAgg51
  z37 := Tryz.sizeOf51
  v37 := Tryz.zeroValue51
  t70 := Tryz.underlying62
  a70 := Tryz.isAgg62
  z70 := Tryz.sizeOf62
  v70 := Tryz.zeroValue62
  t72 := Tryz.underlying64
  a72 := Tryz.isAgg64
  z72 := Tryz.sizeOf64
  v72 := Tryz.zeroValue64
  t75 := Tryz.underlying28
  a75 := Tryz.isAgg28
  z75 := Tryz.sizeOf28
  v75 := Tryz.zeroValue28
  t76 := Tryz.underlying67
  a76 := Tryz.isAgg67
  z76 := Tryz.sizeOf67
  v76 := Tryz.zeroValue67
  t127 := Tryz.underlying98
  a127 := Tryz.isAgg98
  z127 := Tryz.sizeOf98
  v127 := Tryz.zeroValue98
  t164 := Tryz.underlying110
  a164 := Tryz.isAgg110
  z164 := Tryz.sizeOf110
  v164 := Tryz.zeroValue110 }
theorem Tryz.Builder_Extra_156 : Builder.Extra Tryz.prog Tryz.lays156_ren := {
  sizeBuilder := by kernel_rfl
  liesBuilder := by kernel_rfl
  t5 := Tryz.underlying5
  a5 := Tryz.isAgg5
  z5 := Tryz.sizeOf5
  v5 := Tryz.zeroValue5
  infoByte := by kernel_rfl
  cellsByte := by kernel_rfl
  sizeByte := by kernel_rfl
  neB5 := by decide }
open Go.RowKit in
/-- No element: the empty string; the world is as it was. (Whatever the slice's address and capacity: a nil slice too.) (LAID: no walk: one application.) -/
theorem Tryz.strings_Join_none (a : Option Addr) (c : Nat) (sep : ByteArray) (w : World) :
    Calls Tryz.prog 75 #[.slice a 0 c, .string sep] w fun e w' => e = .returned (.string ⟨#[]⟩) ∧ w' = w := Any.strings_Join_none Tryz.lays156 Tryz.Builder_Extra_156 a c sep w
open Go.RowKit in
/-- strings.Join: "Join concatenates the elements of its first argument to create a single string. The separator string sep is placed between elements in the resulting string.": HOWEVER MANY ELEMENTS. Below the heap's end the world is as it was. (LAID: no walk: one application.) -/
theorem Tryz.strings_Join (bk o c : Nat) (xs : List ByteArray) (sep : ByteArray) (w : World) (hcells : ∀ (j : Nat) x, xs[j]? = some x → w.cell? ⟨bk, o + j, none⟩ = some (.string x)) (hbk : bk < w.heap.size) (hN : xs.length ≤ 140737488355328) (hcap : xs.length ≤ c) (hlen : (Lib.join (xs.map (·.data.toList)) sep.data.toList).length ≤ 140737488355328) :
    Calls Tryz.prog 75 #[.slice (some ⟨bk, o, none⟩) xs.length c, .string sep] w fun e w' => e = .returned (.string ⟨(Lib.join (xs.map (·.data.toList)) sep.data.toList).toArray⟩) ∧ Below w.heap.size w w' := Any.strings_Join Tryz.lays156 Tryz.Builder_Extra_156 bk o c xs sep w hcells hbk hN hcap hlen
def Tryz.lays229_ren : Go.Shelf.Ren := ⟨fun | 229 => 76 | n => n, fun | 9 => 9 | 40 => 87 | 31 => 99 | 152 => 137 | 3 => 3 | 0 => 0 | 4 => 4 | 21 => 21 | 154 => 139 | n => n, fun | n => n⟩
theorem Tryz.lays229 : Go.Proofs.Lays.n229 Tryz.prog Tryz.lays229_ren := {
  mixed := by kernel_rfl
  f229 := Tryz.func76.trans (congrArg some (by kernel_rfl))
  t0 := Tryz.underlying0
  a0 := Tryz.isAgg0
  z0 := Tryz.sizeOf0
  v0 := Tryz.zeroValue0
  t3 := Tryz.underlying3
  a3 := Tryz.isAgg3
  z3 := Tryz.sizeOf3
  v3 := Tryz.zeroValue3
  t4 := Tryz.underlying4
  a4 := Tryz.isAgg4
  z4 := Tryz.sizeOf4
  v4 := Tryz.zeroValue4
  t9 := Tryz.underlying9
  a9 := Tryz.isAgg9
  z9 := Tryz.sizeOf9
  v9 := Tryz.zeroValue9
  t21 := Tryz.underlying21
  a21 := Tryz.isAgg21
  z21 := Tryz.sizeOf21
  v21 := Tryz.zeroValue21
  t31 := Tryz.underlying99
  a31 := Tryz.isAgg99
  z31 := Tryz.sizeOf99
  v31 := Tryz.zeroValue99
  t40 := Tryz.underlying87
  a40 := Tryz.isAgg87
  z40 := Tryz.sizeOf87
  v40 := Tryz.zeroValue87
  t152 := Tryz.underlying137
  a152 := Tryz.isAgg137
  z152 := Tryz.sizeOf137
  v152 := Tryz.zeroValue137
  t154 := Tryz.underlying139
  a154 := Tryz.isAgg139
  z154 := Tryz.sizeOf139
  v154 := Tryz.zeroValue139 }
open Go.RowKit Go.Lib in
theorem Tryz.strings_FieldsFunc_runes (g : Nat) (lb : Array Value) (eg : ∀ args w, (callFunc g args).run Tryz.prog w = .ok (.enter g args) w) (p : Nat → Bool) (s : ByteArray) (w : World) (hs : s.size ≤ 4294967296) (hp : PredAtRunes Tryz.prog g lb p w) :
    Calls Tryz.prog 76 #[.string s, .func (.func g) #[] lb] w fun e w' => ∃ A, e = .returned (.slice (some ⟨A, 0, none⟩) (Lib.goFieldsP p s).length (Lib.goFieldsP p s).length) ∧ w.heap.size ≤ A ∧
      w'.ownsRow w.heap.size 9 1 (.slice (some ⟨A, 0, none⟩) (Lib.goFieldsP p s).length (Lib.goFieldsP p s).length) (Lib.goFieldsP p s).length ((Lib.goFieldsP p s).map Value.string) ∧ Below w.heap.size w w' := Any.strings_FieldsFunc_runes Tryz.lays229 g lb eg p s w hs hp (by kernel_rfl) (by kernel_rfl)
end Go.Proofs
namespace Go.Proofs.YtlfdpdlhppgakaaGreatDoor
open Go Go.RowKit Go.Kt Go.Shelf
attribute [local go_sem] Oper.semAt_some

def blkN (n : Nat) : Bool := isBlk (n : Nat)
/-- What stands in an option, evened. -/
def evnV (s : ByteArray) : List UInt8 := Lib.join ((Lib.goFieldsP blkN s).map (·.data.toList)) [32]

theorem spans_len (p : Nat → Bool) (s : ByteArray) : ∀ f pos st acc, (Lib.spansFromP p s f pos st acc).1.length ≤ acc.length + f := by
  intro f
  induction f with
  | zero => intro pos st acc; simp [Lib.spansFromP]
  | succ f ih =>
    intro pos st acc
    unfold Lib.spansFromP
    split
    · split
      · cases st with
        | some a => have := ih (pos + (Utf8.decode s pos).2) none (acc ++ [(a, pos)]); simp at this ⊢; omega
        | none => have := ih (pos + (Utf8.decode s pos).2) none acc; simp at this ⊢; omega
      · cases st with
        | some a => have := ih (pos + (Utf8.decode s pos).2) (some a) acc; simp at this ⊢; omega
        | none => have := ih (pos + (Utf8.decode s pos).2) (some pos) acc; simp at this ⊢; omega
    · simp
theorem fields_len (p : Nat → Bool) (s : ByteArray) : (Lib.goFieldsP p s).length ≤ s.size + 1 := by
  unfold Lib.goFieldsP Lib.spansOfP Lib.closeSpans
  have := spans_len p s s.size 0 none []
  rw [List.length_map]
  split <;> simp at * <;> omega
theorem fields_sz (p : Nat → Bool) (s x : ByteArray) (h : x ∈ Lib.goFieldsP p s) : x.size ≤ s.size := by
  unfold Lib.goFieldsP at h
  obtain ⟨q, _, rfl⟩ := List.mem_map.1 h
  rw [ByteArray.size_extract]; omega
theorem lens_bd (M : Nat) : ∀ l : List (List UInt8), (∀ x ∈ l, x.length ≤ M) → Lib.lens l ≤ l.length * M
  | [], _ => by simp [Lib.lens]
  | x :: r, h => by
    have := lens_bd M r (fun y hy => h y (by simp [hy]))
    have h2 := h x (by simp)
    simp only [Lib.lens, List.map_cons, List.sum_cons, List.length_cons] at this ⊢
    rw [Nat.add_mul]; omega
theorem evn_len (s : ByteArray) (hs : s.size ≤ 1048576) : (evnV s).length ≤ 140737488351232 := by
  unfold evnV
  have h1 := fields_len blkN s
  have h2 : ∀ x ∈ (Lib.goFieldsP blkN s).map (·.data.toList), x.length ≤ s.size := by
    intro x hx
    obtain ⟨y, hy, rfl⟩ := List.mem_map.1 hx
    rw [← Lib.size_eq]
    exact fields_sz blkN s y hy
  have h3 := lens_bd s.size _ h2
  rw [List.length_map] at h3
  have h4 : (Lib.goFieldsP blkN s).length * s.size ≤ 1048577 * 1048576 := Nat.mul_le_mul (by omega) hs
  cases hc : (Lib.goFieldsP blkN s).map (·.data.toList) with
  | nil => rw [Lib.join_nil]; simp
  | cons x r =>
    rw [hc] at h3
    rw [Lib.join_length]
    have : r.length ≤ s.size := by
      have := congrArg List.length hc
      simp at this
      omega
    simp only [List.length_cons, List.length_nil]
    omega

theorem blk_at (w : World) : PredAtRunes Tryz.prog 49 #[] blkN w := fun W x _ _ => by
  unfold FnGives
  exact (isBlank_any (x : Nat) W).mono fun e w' ⟨h1, h2⟩ => ⟨h1, 0, h2.symm⟩

set_option maxRecDepth 100000 in
theorem evened_any (s : ByteArray) (w : World) (hs : s.size ≤ 1048576) :
    Calls Tryz.prog 53 #[.string s] w fun e w' => e = .returned (.string ⟨(evnV s).toArray⟩) ∧ Below w.heap.size w w' := by
  have CF := Lib.hid (Tryz.strings_FieldsFunc_runes 49 #[] (fun args w => enters_of Tryz.func49 (by kernel_rfl) rfl args w) blkN s w (by omega) (blk_at w))
  have hl := fields_len blkN s
  have CJ := Lib.hid (fun (A : Nat) (V : World) (h1 : ∀ (j : Nat) x, (Lib.goFieldsP blkN s)[j]? = some x → V.cell? ⟨A, 0 + j, none⟩ = some (.string x)) (h2 : A < V.heap.size) => Tryz.strings_Join A 0 (Lib.goFieldsP blkN s).length (Lib.goFieldsP blkN s) ⟨#[32]⟩ V h1 h2 (by omega) (Nat.le_refl _) (Nat.le_trans (evn_len s hs) (by decide)))
  have HE : Hid ((Lib.join ((Lib.goFieldsP blkN s).map (·.data.toList)) [32]) = evnV s) := Lib.hid rfl
  obtain ⟨L, hL⟩ : ∃ L, Lib.goFieldsP blkN s = L := ⟨_, rfl⟩
  have HL := Lib.hid hL
  generalize evnV s = Z at *
  rw [hL] at CF CJ
  clear hL hl
  go_enter Tryz.func53, Tryz.ntmps53
  go_wp2_with fail
  refine CF.out.mono ?_
  rintro e w1 ⟨A, rfl, hA, hown, hb⟩
  have HC : Hid (∀ (j : Nat) x, L[j]? = some x → w1.cell? ⟨A, 0 + j, none⟩ = some (.string x)) := Lib.hid fun j x hx => by
    have := hown.cells (g := A) rfl j (.string x) (by simp [hx])
    rwa [Addr.add_lit] at this
  have HA : Hid (A < w1.heap.size) := Lib.hid (hown.lt A rfl).2
  have HB := Lib.hid hb
  clear hb hown hA
  go_wp2_with fail
  refine (CJ.out A w1 HC.out HA.out).mono ?_
  rintro e w2 ⟨rfl, hb⟩
  have HB2 := Lib.hid (HB.out.trans (hb.mono HB.out.size))
  clear hb
  go_wp2
  go_ret
  refine ⟨?_, HB2.out⟩
  rw [← HE.out, HL.out]
  rfl
end Go.Proofs.YtlfdpdlhppgakaaGreatDoor
/- Scan's Quote: escaped. -/
namespace Go.Proofs.YtlfdpdlhppgakaaGreatDoor
open Go Go.RowKit Go.Kt Go.Shelf
attribute [local go_sem] Oper.semAt_some

/-- A unit, whose number is r, as it stands in a file. -/
def escV (u : List UInt8) (r : Int) : List UInt8 :=
  if r = 65533 ∧ u.length = 1 then [92, 120] ++ hexL (u.getD 0 0).toNat else if r ≤ 32 ∨ r = 127 then [92, 117, 123] ++ hexL r.toNat ++ [125] else if isSgs r = true then [92] ++ u else u

set_option maxRecDepth 100000 in
theorem escaped_any (t : ByteArray) (r : Int) (w : World) (hT : BTab w) (hr : 0 ≤ r ∧ r ≤ 2147483647) (ht : t.size ≤ 4) :
    Calls Tryz.prog 34 #[.string t, .int .i32 r] w fun e w' => e = .returned (.string ⟨(escV t.data.toList r).toArray⟩) ∧ Below w.heap.size w w' := by
  have hln : t.data.toList.length = t.size := (Lib.size_eq t).symm
  obtain ⟨Z, hZ⟩ : ∃ Z : ByteArray, Z = ⟨(escV t.data.toList r).toArray⟩ := ⟨_, rfl⟩
  rw [← hZ]
  by_cases h1 : r = 65533 ∧ t.size = 1
  · obtain ⟨hr1, ht1⟩ := h1
    have hb := bAt_hi t 0
    obtain ⟨u, hu⟩ : ∃ u : Nat, bAt t 0 = u := ⟨(t.data.toList.getD 0 0).toNat, rfl⟩
    have C := Lib.hid (rformat_any u w hT (by show u < 16777216; omega))
    have HI : ∀ w, (Instr.index 9 (.string t) (.int .i64 0)).run Tryz.prog w = .ok (.int .u8 (u : Nat)) w := fun w => by
      have := run_bAt t 0 (by omega) w
      rw [hu] at this
      exact this
    have hl := hexF_len 8 u
    have HP : Hid ((⟨#[92, 120]⟩ : ByteArray) ++ ⟨(hexL u).toArray⟩ = Z) := Lib.hid (by
      rw [hZ]
      have : escV t.data.toList r = [92, 120] ++ hexL u := by
        unfold escV
        rw [if_pos ⟨hr1, by omega⟩]
        have : (t.data.toList.getD 0 0).toNat = u := by unfold bAt at hu; omega
        rw [this]
      rw [this]; exact bytes_add [92, 120] _)
    have hsz : (⟨(hexL u).toArray⟩ : ByteArray).size ≤ 9 := by show (hexL u).toArray.size ≤ 9; simpa [hexL] using hl
    generalize (⟨(hexL u).toArray⟩ : ByteArray) = L at *
    have hwr : RowKit.wrap64 ((u : Nat) : Int) = (u : Nat) := by unfold RowKit.wrap64; omega
    have ht1' : (((t.size : Nat) : Int) == 1) = true := by simp [ht1]
    subst hr1
    clear hZ hT hln hl ht1 hu hb
    go_enter Tryz.func34, Tryz.ntmps34
    go_wp2_with fail
    refine C.out.mono ?_
    rintro e w' ⟨rfl, hb⟩
    have HB := Lib.hid hb
    clear hb
    go_wp2
    go_ret
    exact ⟨by rw [← HP.out]; rfl, HB.out⟩
  · have hno : ∀ l : List UInt8, l.length = t.size → escV l r = if r ≤ 32 ∨ r = 127 then [92, 117, 123] ++ hexL r.toNat ++ [125] else if isSgs r = true then [92] ++ l else l := fun l e => by
      unfold escV
      rw [if_neg (by rw [e]; exact h1)]
    have hz := hno _ hln
    have HS := Lib.hid (fun w => isSigns_any r hr.1 w)
    by_cases h2 : r = 65533
    · subst h2
      have ht1 : (((t.size : Nat) : Int) == 1) = false := by simp; intro h; exact h1 ⟨rfl, by omega⟩
      have hZ2 : Z = t := by
        rw [hZ, hz, if_neg (by omega), if_neg (by decide)]
      have s0 : isSgs 65533 = false := by decide
      rw [s0] at HS
      rw [hZ2]
      clear hZ hT hln hno hz h1 hZ2 Z s0
      go_enter Tryz.func34, Tryz.ntmps34
      go_wp2_with fail
      refine (HS.out _).mono ?_
      rintro e w' ⟨rfl, hb⟩
      have HB := Lib.hid hb
      clear hb
      go_wp2
      go_ret
      exact ⟨rfl, HB.out⟩
    · have r0 : (r == 65533) = false := by simpa using h2
      by_cases h3 : r ≤ 32 ∨ r = 127
      · obtain ⟨u, rfl⟩ := Int.eq_ofNat_of_zero_le hr.1
        have C := Lib.hid (rformat_any u w hT (by show u < 16777216; omega))
        have hl := hexF_len 8 u
        have HP : Hid ((⟨#[92, 117, 123]⟩ : ByteArray) ++ ⟨(hexL u).toArray⟩ ++ ⟨#[125]⟩ = Z) := Lib.hid (by
          rw [hZ, hz, if_pos h3, bytes_add [92, 117, 123] (hexL u)]; exact bytes_add _ [125])
        have hsz : (⟨(hexL u).toArray⟩ : ByteArray).size ≤ 9 := by show (hexL u).toArray.size ≤ 9; simpa [hexL] using hl
        generalize (⟨(hexL u).toArray⟩ : ByteArray) = L at *
        have hsz2 : ((⟨#[92, 117, 123]⟩ : ByteArray) ++ L).size ≤ 12 := by rw [ByteArray.size_append]; show 3 + L.size ≤ 12; omega
        have hwr : RowKit.wrap64 ((u : Nat) : Int) = (u : Nat) := by unfold RowKit.wrap64; omega
        have h32 : (u : Int) ≤ 32 ∨ (u : Int) = 127 := by omega
        obtain ⟨z, hzz⟩ : ∃ z : Int, ((u : Nat) : Int) = z := ⟨_, rfl⟩
        rw [hzz] at C r0 hwr h32
        rw [hzz]
        clear hZ hT hln hno hz h1 h2 h3 hl hzz HS hr
        rcases h32 with h32 | h32
        · go_enter Tryz.func34, Tryz.ntmps34
          go_wp2_with fail
          refine C.out.mono ?_
          rintro e w' ⟨rfl, hb⟩
          have HB := Lib.hid hb
          clear hb
          go_wp2
          go_ret
          exact ⟨by rw [← HP.out]; rfl, HB.out⟩
        · subst h32
          go_enter Tryz.func34, Tryz.ntmps34
          go_wp2_with fail
          refine C.out.mono ?_
          rintro e w' ⟨rfl, hb⟩
          have HB := Lib.hid hb
          clear hb
          go_wp2
          go_ret
          exact ⟨by rw [← HP.out]; rfl, HB.out⟩
      · have r1 : ¬ r ≤ 32 := fun h => h3 (.inl h)
        have r1' : 32 < r := by omega
        have r2 : (r == 127) = false := by simp; exact fun h => h3 (.inr h)
        obtain ⟨sg, hsg⟩ : ∃ sg, isSgs r = sg := ⟨_, rfl⟩
        have hZ2 : Z = if sg = true then ⟨#[92]⟩ ++ t else t := by
          rw [hZ, hz, if_neg h3, hsg]
          split
          · rw [← bytes_add]
          · rfl
        rw [hsg] at HS
        clear hZ hT hln hno hz h1 h2 h3 hsg hr r1
        cases sg with
        | true =>
          have HZ : Hid ((⟨#[92]⟩ : ByteArray) ++ t = Z) := Lib.hid (by rw [hZ2]; rfl)
          clear hZ2
          go_enter Tryz.func34, Tryz.ntmps34
          go_wp2_with fail
          refine (HS.out _).mono ?_
          rintro e w' ⟨rfl, hb⟩
          have HB := Lib.hid hb
          clear hb
          go_wp2
          go_ret
          exact ⟨by rw [← HZ.out]; rfl, HB.out⟩
        | false =>
          have HZ : Hid (t = Z) := Lib.hid (by rw [hZ2]; rfl)
          clear hZ2
          go_enter Tryz.func34, Tryz.ntmps34
          go_wp2_with fail
          refine (HS.out _).mono ?_
          rintro e w' ⟨rfl, hb⟩
          have HB := Lib.hid hb
          clear hb
          go_wp2
          go_ret
          exact ⟨by rw [← HZ.out]; rfl, HB.out⟩
end Go.Proofs.YtlfdpdlhppgakaaGreatDoor
/- points.Places: the n-th of a kind. -/
namespace Go.Proofs.YtlfdpdlhppgakaaGreatDoor
open Go Go.RowKit Go.Kt Go.Shelf Go.Kt.Bits

theorem BTab.below {w w' : World} {n : Nat} (h : BTab w) (hn : 6 < n) (hb : Below n w w') : BTab w' := fun k hk => (hb.cell (p := ⟨6, k, none⟩) hn).trans (h k hk)

theorem and_step (m : Nat) (h0 : m ≠ 0) (hm : m < 2 ^ 64) : bits .and .u64 (m : Int) (IntKind.u64.wrap ((m : Int) - 1)) = ((m &&& (m - 1) : Nat) : Int) := by
  rw [show (m : Int) - 1 = ((m - 1 : Nat) : Int) by omega, u64_wrap _ (by omega)]
  exact bits_and m _ hm (by omega)

/-- What the n-th of a kind is called with, and what it answers. -/
def NthOut (s : ByteArray) (k N : Nat) (w : World) (e : Ending) (w' : World) : Prop := ∃ x : Nat, IsNth (isK s k) N x ∧ x < s.size ∧ e = .returned (.int .i64 (x : Nat)) ∧ Below w.heap.size w w'

end Go.Proofs.YtlfdpdlhppgakaaGreatDoor
/- Scan's Quote. -/
namespace Go.Proofs.YtlfdpdlhppgakaaGreatDoor
open Go Go.RowKit Go.Kt Go.Kt.Rg Go.Shelf
attribute [local go_sem] Oper.semAt_some

def quoU (s : ByteArray) (i : Nat) : List UInt8 := escV (s.extract i (i + unitW s i)).data.toList (decP s (i : Nat)).1
def quoF (s : ByteArray) : Nat → Nat → List UInt8
  | 0, _ => []
  | f + 1, i => if i < s.size then quoU s i ++ quoF s f (i + unitW s i) else []
/-- A text as it stands in a file. -/
def quoV (s : ByteArray) : List UInt8 := if s.size = 0 then [39, 39] else quoF s s.size 0
theorem escV_len (u : List UInt8) (r : Int) (hu : u.length ≤ 4) : (escV u r).length ≤ 13 := by
  unfold escV
  have h1 := hexF_len 8 (u.getD 0 0).toNat
  have h2 := hexF_len 8 r.toNat
  split
  · simp only [List.length_append, List.length_cons, List.length_nil, hexL]; omega
  · split
    · simp only [List.length_append, List.length_cons, List.length_nil, hexL]; omega
    · split
      · simp only [List.length_append, List.length_cons, List.length_nil]; omega
      · omega

set_option maxRecDepth 100000 in
set_option maxHeartbeats 2000000 in
theorem quote_any (s : ByteArray) (w : World) (hE : SEnv w) (hB : BTab w) (hbt : 6 < w.heap.size) (hs : s.size ≤ 8796093022208) :
    Calls Tryz.prog 17 #[.string s] w fun e w' => e = .returned (.string ⟨(quoV s).toArray⟩) ∧ Below w.heap.size w w' := by
  by_cases h0 : s.size = 0
  · have hs0 : s = ⟨#[]⟩ := by
      apply ByteArray.ext
      exact Array.eq_empty_of_size_eq_zero h0
    subst hs0
    clear hE hB hbt hs h0
    go_enter Tryz.func17, Tryz.ntmps17
    go_wp2
    go_ret
    exact ⟨rfl, Below.refl _ _⟩
  · obtain ⟨R, hR⟩ : ∃ R, quoF s s.size 0 = R := ⟨_, rfl⟩
    have hQ : quoV s = R := by unfold quoV; rw [if_neg h0, hR]
    rw [hQ]
    have HR := Lib.hid hR
    have HE := Lib.hid hE
    have HB := Lib.hid hB
    have hne : s.toList.isEmpty = false := by
      rw [ByteArray.toList_eq, List.isEmpty_eq_false_iff]
      intro h
      apply h0
      rw [Lib.size_eq, h]; rfl
    clear hE hB hR hQ
    go_enter Tryz.func17, Tryz.ntmps17
    go_wp2
    go_loopw [] (fun wr => ∃ (pos f : Nat) (acc : List UInt8), acc ++ quoF s f pos = R ∧ s.size ≤ pos + f ∧ pos ≤ s.size ∧ acc.length ≤ 13 * pos ∧ Below w.heap.size w wr ∧ wr.heap[w.heap.size + 1]? = some (.stringIter s pos) ∧ Bld w.heap.size (fun b => w.heap.size + 2 ≤ b) acc wr)
      (fun wr => s.size - iterPos wr (w.heap.size + 1))
    case atStart =>
      have b0 : (w.alloc (.cells #[.pointer none, .slice none 0 0] 64 (0, 0))).heap[w.heap.size]? = some (.cells #[.pointer none, .slice none 0 0] 64 (0, 0)) := World.alloc_heap_new w _
      exact ⟨0, s.size, [], by simpa using HR.out, by omega, by omega, by simp, ((Below.refl _ w).alloc (Nat.le_refl _) _).alloc (by simp) _, alloc_at (by simp), ⟨_, _, .inl rfl, alloc_old b0, ⟨rfl, .inl ⟨rfl, rfl⟩⟩, by simp [Value.ownBlock], by simp [Value.ownBlock]⟩⟩
    case round =>
      obtain ⟨pos, f, acc, hp, hf, hps, hal, hb, hit, hbl⟩ := hrel
      have hlt : w.heap.size + 1 < wr.heap.size := (Array.getElem?_eq_some_iff.1 hit).1
      by_cases hpos : pos < s.size
      · obtain ⟨u1, u2, u3⟩ := unitW_bd s pos (by omega)
        have u3 := u3 hpos
        obtain ⟨f', rfl⟩ : ∃ f', f = f' + 1 := ⟨f - 1, by omega⟩
        have hun : quoF s (f' + 1) pos = quoU s pos ++ quoF s f' (pos + unitW s pos) := by rw [quoF, if_pos hpos]
        rw [hun] at hp
        have hdW : (Utf8.decode s pos).2 = unitW s pos := by unfold unitW; rw [if_pos hpos]
        have hdr : (decP s (pos : Nat)).1 = ((Utf8.decode s pos).1 : Int) := by rw [decP_in s pos hpos]
        have hdP : decP s (pos : Nat) = (((Utf8.decode s pos).1 : Int), ((unitW s pos : Nat) : Int)) := by rw [decP_in s pos hpos, hdW]
        have hrb : (Utf8.decode s pos).1 ≤ 2147483647 := decode_le s pos
        obtain ⟨W1, hW1⟩ : ∃ W1, wr.putObj (w.heap.size + 1) (.stringIter s (pos + unitW s pos)) = W1 := ⟨_, rfl⟩
        have hb1 : Below w.heap.size w W1 := by rw [← hW1]; exact hb.trans (below_putObj (by omega) _)
        have hit1 : W1.heap[w.heap.size + 1]? = some (.stringIter s (pos + unitW s pos)) := by rw [← hW1]; exact World.putObj_heap_same hlt
        have hk1 : Keep (fun b => b = w.heap.size + 1) wr W1 := by rw [← hW1]; exact Keep.putObj (X := fun b => b = w.heap.size + 1) (Keep.refl _ wr) (.inl rfl) _
        have hbl1 : Bld w.heap.size (fun b => w.heap.size + 2 ≤ b) acc W1 := hbl.keep hk1 (by omega) (fun b h1 h2 => by omega)
        have st1 := St.start hbl1
        have hnx : ∀ ty, (Instr.next (.pointer (some ⟨w.heap.size + 1, 0, none⟩)) true ty).run Tryz.prog wr = .ok (.tuple #[.bool true, .int .i64 pos, .int .i32 (Utf8.decode s pos).1]) W1 := fun ty => by
          rw [← hW1, ← hdW]; exact run_next_str wr (w.heap.size + 1) s pos ty hit hpos
        have hE1 := HE.out.below hb1
        have CD := Lib.hid (utfDecode_any s (pos : Nat) W1 hE1.tabs (by omega))
        rw [hdP] at CD
        have CE := Lib.hid (fun V (h : Below w.heap.size w V) => escaped_any (s.extract pos (pos + unitW s pos)) ((Utf8.decode s pos).1 : Nat) V (HB.out.below hbt h) ⟨by omega, by omega⟩ (by rw [ByteArray.size_extract]; omega))
        have HQU : Hid (escV (s.extract pos (pos + unitW s pos)).data.toList ((Utf8.decode s pos).1 : Nat) = quoU s pos) := Lib.hid (by unfold quoU; rw [hdr])
        rw [HQU.out] at CE
        have hql : (quoU s pos).length ≤ 13 := by rw [← HQU.out]; exact escV_len _ _ (by rw [← Lib.size_eq, ByteArray.size_extract]; omega)
        generalize quoU s pos = Q at *
        generalize (Utf8.decode s pos).1 = r at *
        generalize unitW s pos = v at *
        have HS1 := Lib.hid st1
        have HD := Lib.hid (And.intro hp (And.intro hal (And.intro hit (And.intro hit1 (And.intro hb1 (And.intro hf hql))))))
        have d1 : (pos : Int) ≤ pos + v := by omega
        have d2 : (pos : Int) + v ≤ s.size := by omega
        clear hp hal hit hit1 hb1 hf hql hun hdW hdr hdP hrb hW1 hk1 hbl1 hbl st1 hE1 HQU hb hlt
        have d3 : ((pos : Int) + (v : Int)).toNat = pos + v := by omega
        go_wp2_with fail
        refine CD.out.mono ?_
        rintro e w2 ⟨rfl, hb⟩
        have HS2 := Lib.hid (HS1.out.below hb)
        have HB2 := Lib.hid (HD.out.2.2.2.2.1.trans (hb.mono HD.out.2.2.2.2.1.size))
        clear hb
        go_wp2_with fail
        refine (CE.out _ HB2.out).mono ?_
        rintro e w3 ⟨rfl, hb⟩
        have HS3 := Lib.hid (HS2.out.below hb)
        have HB3 := Lib.hid (HB2.out.trans (hb.mono HB2.out.size))
        clear hb
        have CW := Lib.hid (HS3.out.ws Q (by have := HD.out; omega))
        go_wp2_with fail
        refine CW.out.mono ?_
        rintro e w4 ⟨rfl, hst⟩
        have HS4 := Lib.hid hst
        clear hst
        go_wp2
        go_roundw
        case rel =>
          obtain ⟨hp, hal, hit, hit1, hb1, hf, hql⟩ := HD.out
          have hz1 := hb1.size
          have hlt1 : w.heap.size + 1 < W1.heap.size := (Array.getElem?_eq_some_iff.1 hit1).1
          refine ⟨pos + v, f', acc ++ Q, by rw [List.append_assoc]; exact hp, by omega, by omega, by rw [List.length_append]; omega, ?_, ?_, ?_⟩
          · exact hb1.trans (HS4.out.2.below hz1 (by rintro b (h | h) <;> omega))
          · exact HS4.out.2.heap hit1 (by rintro (h | h) <;> omega)
          · exact HS4.out.1.weaken (by rintro b (h | h) <;> omega)
        case measure =>
          obtain ⟨hp, hal, hit, hit1, hb1, hf, hql⟩ := HD.out
          have h4 : w4.heap[w.heap.size + 1]? = some (.stringIter s (pos + v)) := HS4.out.2.heap hit1 (by rintro (h | h) <;> omega)
          rw [iterPos_eq h4, iterPos_eq hit]; omega
      · have hnx : ∀ ty, (Instr.next (.pointer (some ⟨w.heap.size + 1, 0, none⟩)) true ty).run Tryz.prog wr = .ok (.tuple #[.bool false]) wr := fun ty => run_next_str_end wr (w.heap.size + 1) s pos ty hit hpos
        have hqe : quoF s f pos = [] := by
          cases f with
          | zero => rfl
          | succ f => rw [quoF, if_neg hpos]
        have hRa : acc = R := by rw [← hp, hqe, List.append_nil]
        subst hRa
        have CS := Lib.hid (string_x w.heap.size _ acc wr hbl w.heap.size hb.size (Nat.le_refl _) (fun g h => by omega))
        have HB1 := Lib.hid hb
        clear hp hqe hbl hb hit hlt
        go_wp2_with fail
        refine CS.out.mono ?_
        rintro e w5 ⟨rfl, hb5, _⟩
        have HB5 := Lib.hid (HB1.out.trans hb5)
        clear hb5
        go_wp2
        go_ret
        exact ⟨rfl, HB5.out⟩
end Go.Proofs.YtlfdpdlhppgakaaGreatDoor
/- A file with a line end behind it: its units are the same. -/
namespace Go.Proofs.YtlfdpdlhppgakaaGreatDoor
open Go Go.RowKit Go.Kt Go.Shelf Go.Lib

abbrev nlB : ByteArray := ⟨#[10]⟩
theorem nl_size (s : ByteArray) : (s ++ nlB).size = s.size + 1 := by rw [ByteArray.size_append]; rfl
theorem nl_list (s : ByteArray) : (s ++ nlB).data.toList = s.data.toList ++ [10] := by simp [ByteArray.data_append]
theorem nl_B (s : ByteArray) (k : Nat) (h : k < s.size) : B (s ++ nlB) k = B s k := by
  unfold B
  rw [nl_list, List.getD_eq_getElem?_getD, List.getD_eq_getElem?_getD, List.getElem?_append_left (by simpa using h)]
theorem nl_at (s : ByteArray) : B (s ++ nlB) s.size = 10 := by
  unfold B
  rw [nl_list, List.getD_eq_getElem?_getD, List.getElem?_append_right (by simp)]
  simp
theorem decode_nl (s : ByteArray) (i : Nat) (hi : i < s.size) : Utf8.decode (s ++ nlB) i = Utf8.decode s i := by
  rw [decode_B, decode_B, nl_size, nl_B s i hi]
  generalize B s i = b0
  by_cases h1 : i + 1 < s.size
  · rw [nl_B s _ h1]
    generalize B s (i + 1) = b1
    by_cases h2 : i + 2 < s.size
    · rw [nl_B s _ h2]
      generalize B s (i + 2) = b2
      by_cases h3 : i + 3 < s.size
      · rw [nl_B s _ h3]
        generalize B s (i + 3) = b3
        unfold decodeN
        simp only [show 1 < s.size + 1 - i by omega, show 1 < s.size - i by omega, show 2 < s.size + 1 - i by omega, show 2 < s.size - i by omega, show 3 < s.size + 1 - i by omega, show 3 < s.size - i by omega]
      · have e : i + 3 = s.size := by omega
        rw [e, nl_at, B_out s s.size (Nat.le_refl _)]
        unfold decodeN
        simp only [show 1 < s.size + 1 - i by omega, show 1 < s.size - i by omega, show 2 < s.size + 1 - i by omega, show 2 < s.size - i by omega, show ¬ 3 < s.size - i by omega, show ¬ (10 / 64 = 2) by decide, and_false, if_false]
    · have e : i + 2 = s.size := by omega
      rw [e, nl_at, B_out s s.size (Nat.le_refl _)]
      unfold decodeN
      simp only [show 1 < s.size + 1 - i by omega, show 1 < s.size - i by omega, show ¬ 2 < s.size - i by omega, show ¬ (10 / 64 = 2) by decide, and_false, false_and, if_false]
  · have e : i + 1 = s.size := by omega
    rw [e, nl_at, B_out s s.size (Nat.le_refl _)]
    unfold decodeN
    simp only [show ¬ 1 < s.size - i by omega, show ¬ (10 / 64 = 2) by decide, and_false, false_and, if_false]
theorem decode_end (s : ByteArray) : Utf8.decode (s ++ nlB) s.size = (10, 1) := by
  rw [decode_B, nl_at, nl_size]
  unfold decodeN
  rw [if_pos (by decide)]
end Go.Proofs.YtlfdpdlhppgakaaGreatDoor
/- The scanner's step and its run, in plain words. -/
namespace Go.Proofs.YtlfdpdlhppgakaaGreatDoor
open Go Go.RowKit Go.Kt Go.Shelf Go.Lib

/-- What comes of a unit that is given to a text: taken; not its own; a fault. -/
inductive PR where
  | took (c : Sc)
  | left (c : Sc)
  | bad (no : Nat) (p : Pl)
def unitL (s : ByteArray) (i : Nat) : List UInt8 := (s.extract i (i + unitW s i)).data.toList
def plainS (s : ByteArray) (c : Sc) (r : Int) : PR :=
  if r = 39 then .took { c with st := 5, quote := c.here }
  else if r = 92 then match unescV (s.extract c.here.2.2 s.size) with
    | none => .bad 9 c.here
    | some (t, k) => .took { c with st := 7, text := c.text ++ t, behind := c.here.2.2 + k }
  else if isBlk r = true then .left { c with st := 4 }
  else if isSgs r = true then .left { c with st := 4 }
  else .took { c with st := 4, text := c.text ++ unitL s c.here.2.2 }
def quotedS (s : ByteArray) (c : Sc) (r : Int) : PR :=
  if r = 39 then .took { c with st := 6 } else .took { c with text := c.text ++ unitL s c.here.2.2 }
def closingS (s : ByteArray) (c : Sc) (r : Int) : PR :=
  if r = 39 then .took { c with st := 5, text := c.text ++ [39] } else plainS s c r
def escapeS (s : ByteArray) (c : Sc) (r : Int) : PR :=
  if c.behind ≤ c.here.2.2 then plainS s c r else .took c
def pieceS (s : ByteArray) (c : Sc) (r : Int) : PR :=
  if c.st = 5 then quotedS s c r else if c.st = 6 then closingS s c r else if c.st = 7 then escapeS s c r else plainS s c r

/-- What comes of a unit: the scanner goes on; a fault. -/
inductive TR where
  | ok (c : Sc)
  | bad (no : Nat) (p : Pl)
def PR.out : PR → TR
  | .took c => .ok c
  | .left c => .ok c
  | .bad no p => .bad no p
def addT (c : Sc) (kind : Nat) (t : List UInt8) : Sc := { c with toks := c.toks ++ [⟨kind, t, c.from⟩] }
def encL (r : Int) : List UInt8 := (Utf8.encode r).data.toList
def sinceL (s : ByteArray) (c : Sc) : List UInt8 := (s.extract c.from.2.2 c.here.2.2).data.toList
def betweenS (s : ByteArray) (c : Sc) (r : Int) : TR :=
  if isBlk r = true then .ok { c with st := 0, «from» := c.here }
  else if r = 35 then .ok { c with st := 1, «from» := c.here }
  else if isSgn (encL r) = true then .ok { c with st := 2, «from» := c.here }
  else if r = 91 then .ok { c with st := 3, «from» := c.here }
  else if r = 93 then .bad 25 c.here
  else if r = 42 then .bad 4 c.here
  else (plainS s { c with st := 4, «from» := c.here, text := [] } r).out
def remarkS (s : ByteArray) (c : Sc) (r : Int) : TR :=
  if r = 10 then betweenS s { c with st := 1 } r else .ok { c with st := 1 }
def signS (s : ByteArray) (c : Sc) (r : Int) : TR :=
  if isSgn (sinceL s c ++ encL r) = true then .ok { c with st := 2 } else betweenS s (addT { c with st := 2 } 2 (sinceL s c)) r
def optionS (s : ByteArray) (c : Sc) (r : Int) : TR :=
  if r = 93 then .ok { addT { c with st := 3 } 3 (evnV (s.extract (c.from.2.2 + 1) c.here.2.2)) with st := 0 } else .ok { c with st := 3 }
def textS (s : ByteArray) (c : Sc) (r : Int) : TR := match pieceS s c r with
  | .took c => .ok c
  | .bad no p => .bad no p
  | .left c => betweenS s (addT c 1 c.text) r
def tokenS (s : ByteArray) (c : Sc) (r : Int) : TR :=
  if c.st = 0 then betweenS s c r else if c.st = 1 then remarkS s c r else if c.st = 2 then signS s c r else if c.st = 3 then optionS s c r else textS s c r

/-- The scanner's run over the units of s and a line end behind it, from byte i on. -/
def runS (s : ByteArray) : Nat → Nat → Sc → TR
  | 0, _, c => .ok c
  | f + 1, i, c => if i < s.size + 1 then
      match tokenS s { c with here := plNext s c.here i } ((Utf8.decode (s ++ nlB) i).1 : Nat) with
      | .ok c' => runS s f (i + (Utf8.decode (s ++ nlB) i).2) c'
      | .bad no p => .bad no p
    else .ok c
def c0S : Sc := ⟨0, (1, 0, 0), (0, 0, 0), [], (0, 0, 0), 0, []⟩
/-- What Scan answers. -/
inductive SR where
  | ok (l : List Tk)
  | bad (no line col : Nat)
def endS (c : Sc) : SR := if c.st = 3 then .bad 25 c.from.1 c.from.2.1 else if c.st = 5 then .bad 10 c.quote.1 c.quote.2.1 else .ok (c.toks ++ [⟨0, [], c.from⟩])
def scanS (s : ByteArray) : SR :=
  if 1048576 < s.size then .bad 5 0 0 else if 65536 ≤ nlN s then .bad 5 65537 1
  else match runS s (s.size + 1) 0 c0S with
    | .ok c => endS c
    | .bad no p => .bad no p.1 p.2.1

/-- What holds of a scanner between two units: k units were taken at most. -/
structure ScOk (s : ByteArray) (c : Sc) : Prop where
  f1 : c.from.2.2 ≤ c.here.2.2
  h1 : c.here.2.2 ≤ s.size
  opt : c.st = 3 → c.from.2.2 < c.here.2.2
  st : c.st ≤ 7
end Go.Proofs.YtlfdpdlhppgakaaGreatDoor
/- A SCOPE WHOSE JUMPS ARE WALKED ONE BY ONE: no invariant, no measure: at a goto the walk goes on at the label's rest with the very frame that the jump had; so many jumps at most. -/
namespace Go
/-- The post of a scope's code: at a goto the label's rest is walked, n jumps at most. -/
def Exit.far (P : Program) (c : Code) (Q : Exit → Act → World → Prop) : Nat → Exit → Act → World → Prop
  | 0, .goto _, _, _ => False
  | n + 1, .goto l, a, w => ∃ rest, findLabel c l = some rest ∧ rest.wp P (Exit.far P c Q n) a w
  | _, e, a, w => Q e a w
section
variable {P : Program} {a : Act} {w : World} {Q : Exit → Act → World → Prop}
theorem Exit.far_of {c : Code} {e : Exit} (he : ∀ l, e ≠ .goto l) (h : Q e a w) : ∀ n, Exit.far P c Q n e a w := by
  intro n
  cases n <;> cases e <;> first | exact h | exact absurd rfl (he _)
theorem Exit.far_out {c : Code} {e : Exit} (he : ∀ l, e ≠ .goto l) : ∀ {n}, Exit.far P c Q n e a w → Q e a w := by
  intro n h
  cases n <;> cases e <;> first | exact h | exact absurd rfl (he _)
theorem far_arrives {c : Code} {b : Frame} {k : List Item} {cs : List Frame} : ∀ (n : Nat) (X : Machine) (e : Exit) (a : Act) (w : World), Exit.far P c Q n e a w → Arrives P X b (.inScope c :: k) cs e a w → ∃ e' a' w', Q e' a' w' ∧ Arrives P X b k cs e' a' w' := by
  intro n
  induction n with
  | zero =>
    intro X e a w hq harr
    cases e with
    | normal => exact ⟨.normal, a, w, hq, Steps.trans harr (.one step_inScope)⟩
    | exit id => exact ⟨.exit id, a, w, hq, fun k' hk => harr k' (by simp [exitTo, hk])⟩
    | goto l => exact hq.elim
    | ret => exact ⟨_, a, w, hq, harr⟩
    | panic ch => exact ⟨_, a, w, hq, harr⟩
    | outgrown => exact ⟨_, a, w, hq, harr⟩
  | succ n ih =>
    intro X e a w hq harr
    cases e with
    | normal => exact ⟨.normal, a, w, hq, Steps.trans harr (.one step_inScope)⟩
    | exit id => exact ⟨.exit id, a, w, hq, fun k' hk => harr k' (by simp [exitTo, hk])⟩
    | goto l =>
      obtain ⟨rest, hf, hw⟩ := hq
      have hg : gotoIn l (.inScope c :: k) = some (.code rest :: .inScope c :: k) := by simp [gotoIn, hf]
      obtain ⟨e₃, a₃, w₃, hq₃, harr₃⟩ := hw b (.inScope c :: k) cs
      obtain ⟨e₂, a₂, w₂, hq₂, harr₂⟩ := ih _ e₃ a₃ w₃ hq₃ harr₃
      exact ⟨e₂, a₂, w₂, hq₂, .of_steps (harr _ hg) harr₂⟩
    | ret => exact ⟨_, a, w, hq, harr⟩
    | panic ch => exact ⟨_, a, w, hq, harr⟩
    | outgrown => exact ⟨_, a, w, hq, harr⟩
/-- A scope, walked with its jumps: the post stands behind a name (F). -/
theorem wp_scope_far {c : Code} (N : Nat)
    (h : ∀ F : Nat → Exit → Act → World → Prop, (∀ n e a w, (∀ l, e ≠ .goto l) → Q e a w → F n e a w) → RowKit.Hid (∀ n l rest a w, findLabel c l = some rest → rest.wp P (F n) a w → F (n + 1) (.goto l) a w) → c.wp P (F N) a w) : (Code.scope c).wp P Q a w := by
  intro b k cs
  obtain ⟨e, a₁, w₁, hq, harr⟩ := h (Exit.far P c Q) (fun n e a w he hQ => Exit.far_of he hQ n) (Go.Lib.hid fun n l rest a w hf hw => ⟨rest, hf, hw⟩) b (.inScope c :: k) cs
  obtain ⟨e₂, a₂, w₂, hq₂, harr₂⟩ := far_arrives N _ e a₁ w₁ hq harr
  exact ⟨e₂, a₂, w₂, hq₂, .of_steps (.one step_scope) harr₂⟩
end
end Go
/- What is the same of any program: 'x.f = append(x.f, ..)' behind a pointer, in a drawn region (K12): block g holds the cells CS v, v the slice at the field; operation ia is the append, js the store, ib an element's block. -/
namespace Go.Kt
open Go Go.RowKit

section
variable {P : Program}
theorem wp_append_run {o : Oper} {a : Act} {w w' : World} {v y v' : Value} {K : Act → World → Prop} {Q : Exit → Act → World → Prop} {s x : Operand} {t u : TypeId}
    (ho : o.op = .call { callee := .builtin .append, args := #[s, x], argTypes := #[t, u] }) (hs : a.eval s = v) (hx : a.eval x = y) (hr : (Builtin.append_ #[t, u] o.type #[v, y]).run P w = .ok v' w') (h : K (a.put o.dst v') w') : o.wp P a w K Q := by
  unfold Oper.wp execOp
  simp only [ho, resolve, invoke, builtin, Sem.run_bind, Sem.run_pure, Result.andThen_ok, List.map_toArray, List.map_cons, List.map_nil, hs, hx, hr]
  exact h
end

/-- What is fixed of such a region. -/
structure FldR where
  g : Nat
  w : World
  kv : Value
  E : TypeId
  sz : Nat
  n : Nat
  m : Nat
  xs : List Value
  ys : List Value
  T : TypeId
  CS : Value → Array Value
  bs : Array Value
  ia : Nat
  js : Nat
  ib : Nat
  val : Nat → Option Value
variable {F : FldR}
def FldR.Row (F : FldR) (v : Value) (W : World) : Prop :=
  ∃ ao ln cp, v = .slice ao ln cp ∧ OwnS (fun b => (F.kv.ownBlock = some b ∨ F.w.heap.size ≤ b) ∧ b ≠ F.g) F.E F.sz v F.m F.ys W
theorem FldR.Row.keep {v : Value} {A B : World} {X : Nat → Prop} (h : F.Row v A) (hk : Keep X A B) (hX : ∀ b, X b → b = F.g) : F.Row v B := by
  obtain ⟨ao, ln, cp, e, ho⟩ := h
  exact ⟨ao, ln, cp, e, ho.keep hk (fun b hb hy => hy.2 (hX b hb))⟩
theorem FldR.Row.store {v u : Value} {A : World} {k : Nat} (h : F.Row v A) : F.Row v (A.setCell ⟨F.g, k, none⟩ u) :=
  h.keep (X := fun b => b = F.g) (Keep.setCell (X := fun b => b = F.g) (Keep.refl _ A) (p := ⟨F.g, k, none⟩) rfl u) (fun _ h => h)
theorem FldR.row_of {v' : Value} {ln : Nat} {W Y : World} (hz : F.w.heap.size ≤ W.heap.size) (hg : F.g < F.w.heap.size) (hkg : F.kv.ownBlock ≠ some F.g) (ho : OwnS (fun b => F.kv.ownBlock = some b ∨ W.heap.size ≤ b) F.E F.sz v' ln F.ys Y) (hm : ln = F.m) : F.Row v' Y := by
  subst hm
  have hY : OwnS (fun b => (F.kv.ownBlock = some b ∨ F.w.heap.size ≤ b) ∧ b ≠ F.g) F.E F.sz v' F.m F.ys Y := ho.weaken (by
    rintro b (h | h)
    · exact ⟨.inl h, fun e => hkg (e ▸ h)⟩
    · exact ⟨.inr (by omega), by omega⟩)
  rcases ho.shape with ⟨h, _⟩ | ⟨g', cap, h, _⟩
  · exact ⟨_, _, _, h, hY⟩
  · exact ⟨_, _, _, h, hY⟩
def FldR.S (F : FldR) (D : Nat → Bool) (X : World) : Prop :=
  (D F.js = false → X.heap[F.g]? = some (.cells (F.CS F.kv) F.T (0, 0))) ∧ (D F.ia = false → OwnS (fun b => b ≠ F.g) F.E F.sz F.kv F.n F.xs X) ∧ Keep (fun b => b = F.g ∨ F.kv.ownBlock = some b) F.w X
theorem orb_l {a b : Bool} (h : (a || b) = false) : a = false := by cases a <;> simp_all
variable {D : Nat → Bool} {X Y W : World} {i : Nat} {v u : Value}
theorem FldR.S.more (h : F.S D X) : F.S (fun j => D j || j == i) X := ⟨fun e => h.1 (orb_l e), fun e => h.2.1 (orb_l e), h.2.2⟩
theorem FldR.S.below (h : F.S D X) (hb : Below X.heap.size X Y) : F.S D Y :=
  ⟨fun e => (hb.block F.g (Array.getElem?_eq_some_iff.1 (h.1 e)).1).trans (h.1 e), fun e => (h.2.1 e).keep (X := fun _ => False) (Keep.of_all hb) (fun _ h => h.elim), h.2.2.then (hb.mono h.2.2.size)⟩
theorem FldR.S.app (h : F.S D X) (hkg : F.kv.ownBlock ≠ some F.g) (hj : D F.js = false) (hk : Keep (fun b => F.kv.ownBlock = some b) X Y) : F.S (fun j => D j || j == F.ia) Y :=
  ⟨fun _ => hk.heap (h.1 hj) hkg, fun e => by simp at e, h.2.2.trans (hk.weaken fun _ _ h => Or.inr h)⟩
theorem FldR.S.store {k : Nat} (h : F.S D X) : F.S (fun j => D j || j == F.js) (X.setCell ⟨F.g, k, none⟩ u) :=
  ⟨fun e => by simp at e, fun e => (h.2.1 (orb_l e)).keep (X := fun b => b = F.g) (Keep.setCell (X := fun b => b = F.g) (Keep.refl _ X) (p := ⟨F.g, k, none⟩) rfl u) (fun _ h1 h2 => h2 h1), h.2.2.setCell (Or.inl rfl) u⟩
def FldR.P (F : FldR) (i : Nat) (v : Value) (W : World) : Prop :=
  (∀ u, F.val i = some u → v = u) ∧ (i = F.ib → ∃ b, v = .slice (some ⟨b, 0, none⟩) 1 1 ∧ W.heap[b]? = some (.cells F.bs F.E (0, 0)) ∧ F.w.heap.size ≤ b) ∧ (i = F.ia → F.Row v W) ∧ (i = F.js → ∃ u, F.Row u W ∧ W.heap[F.g]? = some (.cells (F.CS u) F.T (0, 0)))
theorem FldR.P.is (h : F.P i v W) (e : F.val i = some u) : v = u := h.1 u e
theorem FldR.P.mk (e : F.val i = some v) (hi : i ≠ F.ib ∧ i ≠ F.ia ∧ i ≠ F.js) : F.P i v W :=
  ⟨fun u h => by rw [e] at h; exact Option.some.inj h, fun h => absurd h hi.1, fun h => absurd h hi.2.1, fun h => absurd h hi.2.2⟩
theorem FldR.P.bs (e : F.val F.ib = none) (hi : F.ib ≠ F.ia ∧ F.ib ≠ F.js) (h : ∃ b, v = .slice (some ⟨b, 0, none⟩) 1 1 ∧ W.heap[b]? = some (.cells F.bs F.E (0, 0)) ∧ F.w.heap.size ≤ b) : F.P F.ib v W :=
  ⟨fun u h => (by rw [e] at h; cases h), fun _ => h, fun h => absurd h hi.1, fun h => absurd h hi.2⟩
theorem FldR.P.row (e : F.val F.ia = none) (hi : F.ia ≠ F.ib ∧ F.ia ≠ F.js) (h : F.Row v W) : F.P F.ia v W :=
  ⟨fun u h => (by rw [e] at h; cases h), fun h => absurd h hi.1, fun _ => h, fun h => absurd h hi.2⟩
theorem FldR.P.last (e : F.val F.js = none) (hi : F.js ≠ F.ib ∧ F.js ≠ F.ia) (h : ∃ u, F.Row u W ∧ W.heap[F.g]? = some (.cells (F.CS u) F.T (0, 0))) : F.P F.js v W :=
  ⟨fun u h => (by rw [e] at h; cases h), fun h => absurd h hi.1, fun h => absurd h hi.2, fun _ => h⟩
theorem FldR.P.below (h : F.P i v W) (hb : Below W.heap.size W Y) : F.P i v Y := by
  have hk : Keep (fun _ => False) W Y := Keep.of_all hb
  refine ⟨h.1, fun e => ?_, fun e => (h.2.2.1 e).keep hk (fun _ h => h.elim), fun e => ?_⟩
  · obtain ⟨b, h1, h2, h3⟩ := h.2.1 e
    exact ⟨b, h1, hk.heap h2 (fun h => h), h3⟩
  · obtain ⟨u, h1, h2⟩ := h.2.2.2 e
    exact ⟨u, h1.keep hk (fun _ h => h.elim), hk.heap h2 (fun h => h)⟩
theorem FldR.P.app (h : F.P i v W) (hkv : ∀ b, F.kv.ownBlock = some b → b < F.w.heap.size) (hk : Keep (fun b => F.kv.ownBlock = some b) W Y) (ha : i ≠ F.ia) (hs : i ≠ F.js) : F.P i v Y := by
  refine ⟨h.1, fun e => ?_, fun e => absurd e ha, fun e => absurd e hs⟩
  obtain ⟨b, h1, h2, h3⟩ := h.2.1 e
  exact ⟨b, h1, hk.heap h2 (fun h => by have := hkv b h; omega), h3⟩
theorem FldR.P.store {k : Nat} (h : F.P i v W) (hgl : F.g < F.w.heap.size) (hs : i ≠ F.js) : F.P i v (W.setCell ⟨F.g, k, none⟩ u) := by
  have hk : Keep (fun b => b = F.g) W (W.setCell ⟨F.g, k, none⟩ u) := Keep.setCell (X := fun b => b = F.g) (Keep.refl _ W) (p := ⟨F.g, k, none⟩) rfl u
  refine ⟨h.1, fun e => ?_, fun e => (h.2.2.1 e).store, fun e => absurd e hs⟩
  obtain ⟨b, h1, h2, h3⟩ := h.2.1 e
  exact ⟨b, h1, hk.heap h2 (fun h => by omega), h3⟩
end Go.Kt
/- The scanner in memory, packed and unpacked: helpers for piece and token. -/
namespace Go.Proofs.YtlfdpdlhppgakaaGreatDoor
open Go Go.RowKit Go.Kt Go.Shelf Go.Lib

/-- All but the scanner's block and what is new (from D on). -/
abbrev KeepG (D g : Nat) (A B : World) : Prop := Keep (fun b => b = g ∨ D ≤ b) A B
theorem toG {D g : Nat} {A B : World} (h : Below A.heap.size A B) : KeepG D g A B := Keep.of_all h

section
variable {D g : Nat} {w w' : World} {tv kv v' : Value} {n m n' m' : Nat} {xs ys xs' ys' : List Value} {T1 T2 : TypeId} {z1 z2 : Nat}
/-- The text's row is another one now. -/
theorem own_text (hD : D ≤ w.heap.size) (hot : OwnS (fun b => D ≤ b ∧ b ≠ g) T1 z1 tv n xs w) (hok : OwnS (fun b => D ≤ b ∧ b ≠ g ∧ tv.ownBlock ≠ some b) T2 z2 kv m ys w)
    (hk : Keep (fun b => b = g ∨ tv.ownBlock = some b) w w') (ho : OwnS (fun b => (tv.ownBlock = some b ∨ w.heap.size ≤ b) ∧ b ≠ g) T1 z1 v' n' xs' w') :
    OwnS (fun b => D ≤ b ∧ b ≠ g) T1 z1 v' n' xs' w' ∧ OwnS (fun b => D ≤ b ∧ b ≠ g ∧ v'.ownBlock ≠ some b) T2 z2 kv m ys w' := by
  refine ⟨ho.weaken ?_, ?_⟩
  · rintro b ⟨h | h, h2⟩
    · exact ⟨(hot.2 b h).1, h2⟩
    · exact ⟨by omega, h2⟩
  · have h1 : OwnS (fun b => D ≤ b ∧ b ≠ g ∧ tv.ownBlock ≠ some b) T2 z2 kv m ys w' := hok.keep hk (fun b hx hb => by
      rcases hx with h | h
      · exact hb.2.1 h
      · exact hb.2.2 h)
    refine ⟨h1.1, fun b hb => ?_⟩
    obtain ⟨q1, q2, q3⟩ := h1.2 b hb
    refine ⟨q1, q2, fun e => ?_⟩
    obtain ⟨h | h, _⟩ := ho.2 b e
    · exact q3 h
    · have := (hok.1.lt b hb).2; omega
/-- The tokens' row is another one now. -/
theorem own_toks (hD : D ≤ w.heap.size) (hot : OwnS (fun b => D ≤ b ∧ b ≠ g) T1 z1 tv n xs w) (hok : OwnS (fun b => D ≤ b ∧ b ≠ g ∧ tv.ownBlock ≠ some b) T2 z2 kv m ys w)
    (hk : Keep (fun b => b = g ∨ kv.ownBlock = some b) w w') (ho : OwnS (fun b => (kv.ownBlock = some b ∨ w.heap.size ≤ b) ∧ b ≠ g) T2 z2 v' m' ys' w') :
    OwnS (fun b => D ≤ b ∧ b ≠ g) T1 z1 tv n xs w' ∧ OwnS (fun b => D ≤ b ∧ b ≠ g ∧ tv.ownBlock ≠ some b) T2 z2 v' m' ys' w' := by
  refine ⟨?_, ?_⟩
  · exact hot.keepX hk (fun b hx hb => by
      rcases hx with h | h
      · exact (hot.2 b hb).2 h
      · exact (hok.2 b h).2.2 hb)
  · refine ⟨ho.1, fun b hb => ?_⟩
    obtain ⟨h | h, h2⟩ := ho.2 b hb
    · exact hok.2 b h
    · refine ⟨by omega, h2, fun e => ?_⟩
      have := (hot.1.lt b e).2; omega
end

section
variable {W : World} {g : Nat} {s : ByteArray} {st l1 c1 i1 l2 c2 i2 l3 c3 i3 bh : Int} {tv kv : Value} {T : TypeId}
theorem set_q {a b c : Int} (h : W.heap[g]? = some (.cells (scC s st l1 c1 i1 l2 c2 i2 tv l3 c3 i3 bh kv) T (0, 0))) :
    (((W.setCell ⟨g, 9, none⟩ (.int .i64 a)).setCell ⟨g, 10, none⟩ (.int .i64 b)).setCell ⟨g, 11, none⟩ (.int .i64 c)).heap[g]? = some (.cells (scC s st l1 c1 i1 l2 c2 i2 tv a b c bh kv) T (0, 0)) := by
  have hlt := (Array.getElem?_eq_some_iff.1 h).1
  have h' : W.heap[g] = .cells (scC s st l1 c1 i1 l2 c2 i2 tv l3 c3 i3 bh kv) T (0, 0) := by rw [Array.getElem?_eq_getElem hlt] at h; exact Option.some.inj h
  simp [World.setCell, hlt, Array.getElem_modify, h']
theorem set_f {a b c : Int} (h : W.heap[g]? = some (.cells (scC s st l1 c1 i1 l2 c2 i2 tv l3 c3 i3 bh kv) T (0, 0))) :
    (((W.setCell ⟨g, 5, none⟩ (.int .i64 a)).setCell ⟨g, 6, none⟩ (.int .i64 b)).setCell ⟨g, 7, none⟩ (.int .i64 c)).heap[g]? = some (.cells (scC s st l1 c1 i1 a b c tv l3 c3 i3 bh kv) T (0, 0)) := by
  have hlt := (Array.getElem?_eq_some_iff.1 h).1
  have h' : W.heap[g] = .cells (scC s st l1 c1 i1 l2 c2 i2 tv l3 c3 i3 bh kv) T (0, 0) := by rw [Array.getElem?_eq_getElem hlt] at h; exact Option.some.inj h
  simp [World.setCell, hlt, Array.getElem_modify, h']
theorem set_h {a b c : Int} (h : W.heap[g]? = some (.cells (scC s st l1 c1 i1 l2 c2 i2 tv l3 c3 i3 bh kv) T (0, 0))) :
    (((W.setCell ⟨g, 2, none⟩ (.int .i64 a)).setCell ⟨g, 3, none⟩ (.int .i64 b)).setCell ⟨g, 4, none⟩ (.int .i64 c)).heap[g]? = some (.cells (scC s st a b c l2 c2 i2 tv l3 c3 i3 bh kv) T (0, 0)) := by
  have hlt := (Array.getElem?_eq_some_iff.1 h).1
  have h' : W.heap[g] = .cells (scC s st l1 c1 i1 l2 c2 i2 tv l3 c3 i3 bh kv) T (0, 0) := by rw [Array.getElem?_eq_getElem hlt] at h; exact Option.some.inj h
  simp [World.setCell, hlt, Array.getElem_modify, h']
/-- What is the same of all worlds whose scanner's block alone differs. -/
theorem keep_set {A B : World} {k : Nat} {u : Value} (h : Keep (fun b => b = g) A B) : Keep (fun b => b = g) A (B.setCell ⟨g, k, none⟩ u) := Keep.setCell (X := fun b => b = g) h (p := ⟨g, k, none⟩) rfl u
end
/-- The rows of a scanner. -/
def Rows (D g : Nat) (tv kv : Value) (x : List UInt8) (l : List Tk) (w : World) : Prop :=
  OwnS (fun b => D ≤ b ∧ b ≠ g) 5 1 tv x.length (u8V x) w ∧ OwnS (fun b => D ≤ b ∧ b ≠ g ∧ tv.ownBlock ≠ some b) 39 5 kv l.length (tksC l) w
section
variable {D g : Nat} {w W : World} {tv kv v' : Value} {x x' : List UInt8} {l l' : List Tk}
theorem Rows.keepg (h : Rows D g tv kv x l w) (hk : Keep (fun b => b = g) w W) : Rows D g tv kv x l W :=
  ⟨h.1.keep hk (fun _ e hb => hb.2 e), h.2.keep hk (fun _ e hb => hb.2.1 e)⟩
theorem Rows.below (h : Rows D g tv kv x l w) (hb : Below w.heap.size w W) : Rows D g tv kv x l W :=
  ⟨h.1.keep (X := fun _ => False) (Keep.of_all hb) (fun _ h => h.elim), h.2.keep (X := fun _ => False) (Keep.of_all hb) (fun _ h => h.elim)⟩
theorem Rows.text (h : Rows D g tv kv x l w) (hD : D ≤ w.heap.size) (hk : Keep (fun b => b = g ∨ tv.ownBlock = some b) w W)
    (ho : OwnS (fun b => (tv.ownBlock = some b ∨ w.heap.size ≤ b) ∧ b ≠ g) 5 1 v' x'.length (u8V x') W) : Rows D g v' kv x' l W := own_text hD h.1 h.2 hk ho
theorem Rows.toks (h : Rows D g tv kv x l w) (hD : D ≤ w.heap.size) (hk : Keep (fun b => b = g ∨ kv.ownBlock = some b) w W)
    (ho : OwnS (fun b => (kv.ownBlock = some b ∨ w.heap.size ≤ b) ∧ b ≠ g) 39 5 v' l'.length (tksC l') W) : Rows D g tv v' x l' W := own_toks hD h.1 h.2 hk ho
theorem Rows.nil (h : Rows D g tv kv x l w) : Rows D g (.slice .none 0 0) kv [] l w := ⟨own_nil _ _ _ _, h.2.1, fun b hb => ⟨(h.2.2 b hb).1, (h.2.2 b hb).2.1, by simp [Value.ownBlock]⟩⟩
theorem Rows.belowg (_hD : D ≤ w.heap.size) (_hg : True) (hk : Keep (fun b => b = g) w W) : KeepG D g w W := hk.weaken fun _ _ e => .inl e
theorem Rows.belowt (h : Rows D g tv kv x l w) (_hD : D ≤ w.heap.size) (_hg : True) (hk : Keep (fun b => b = g ∨ tv.ownBlock = some b) w W) : KeepG D g w W :=
  hk.weaken fun b _ e => by rcases e with e | e; exact .inl e; exact .inr (h.1.2 b e).1
theorem Rows.belowk (h : Rows D g tv kv x l w) (_hD : D ≤ w.heap.size) (_hg : True) (hk : Keep (fun b => b = g ∨ kv.ownBlock = some b) w W) : KeepG D g w W :=
  hk.weaken fun b _ e => by rcases e with e | e; exact .inl e; exact .inr (h.2.2 b e).1
theorem ScAt.of {s : ByteArray} {c : Sc} (hg : w.heap[g]? = some (.cells (scA s c tv kv) 53 (0, 0))) (hD : True) (h : Rows D g tv kv c.text c.toks w) : ScAt D g s c w := ⟨tv, kv, hg, hD, h⟩
end

/-- What piece answers, and leaves. -/
def PieceOut (D g : Nat) (s : ByteArray) (w : World) (o : PR) (e : Ending) (w' : World) : Prop := KeepG D g w w' ∧ match o with
  | .took c => e = .returned (.tuple #[.bool true, .nilIface]) ∧ ScAt D g s c w'
  | .left c => e = .returned (.tuple #[.bool false, .nilIface]) ∧ ScAt D g s c w'
  | .bad no p => e = .returned (.tuple #[.bool true, fltV no (p.1 : Nat) (p.2.1 : Nat)])
end Go.Proofs.YtlfdpdlhppgakaaGreatDoor
