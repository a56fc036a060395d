/- What is the same of any program: a drawn region in which calls make memory, and which stores once, behind all else (K12). -/
import Derived.Test.YthhepebkfokddaaGreatDoorGz6
namespace Go.Kt
open Go Go.RowKit

/-- What is fixed of such a region: the world ahead, its size, the block that is stored into, the store's row, what each operation leaves, what holds behind the store. -/
structure StoB where
  w : World
  H : Nat
  gp : Nat
  js : Nat
  P : Nat → Value → World → Prop
  Fin : World → Prop
variable {F : StoB} {D : Nat → Bool} {X Y W : World} {i : Nat} {v u : Value}
def StoB.S (F : StoB) (D : Nat → Bool) (X : World) : Prop := D F.js = false → Below F.H F.w X
def StoB.p (F : StoB) (i : Nat) (v : Value) (W : World) : Prop := (i ≠ F.js → ∃ W', Below F.H F.w W' ∧ F.P i v W' ∧ Keep (fun b => b = F.gp) W' W) ∧ (i = F.js → F.Fin W)
/-- What is fixed is sound. -/
structure StoB.Ok (F : StoB) : Prop where
  H : F.H = F.w.heap.size
  g : F.gp < F.H
  P : ∀ i v A B, Below A.heap.size A B → F.P i v A → F.P i v B
theorem StoB.get (h : F.p i v X) (hO : F.Ok) (hX : F.S D X) (hD : D F.js = false) (hi : i ≠ F.js) : F.P i v X := by
  obtain ⟨W', h1, h2, h3⟩ := h.1 hi
  have hb := hX hD
  refine hO.P i v W' X ⟨h3.os, h3.tape, h3.output, h3.size, fun x hx => ?_⟩ h2
  by_cases e : x = F.gp
  · subst e
    exact (hb.block F.gp hO.g).trans (h1.block F.gp hO.g).symm
  · exact h3.same x hx e
theorem StoB.go (hO : F.Ok) (hX : F.S D X) (hD : D F.js = false) (hi : i ≠ F.js) (hb : Below X.heap.size X Y) (hv : F.P i v Y) :
    F.S (fun j => D j || j == i) Y ∧ (∀ j u, D j = true → F.p j u X → F.p j u Y) ∧ F.p i v Y := by
  have h0 := hX hD
  have hs : F.H ≤ X.heap.size := by rw [hO.H]; exact h0.size
  have h1 : Below F.H F.w Y := h0.trans (hb.mono hs)
  refine ⟨fun _ => h1, fun j u hj h => ⟨fun hne => ?_, fun e => by rw [e, hD] at hj; cases hj⟩, fun _ => ⟨Y, h1, hv, Keep.refl _ _⟩, fun e => absurd e hi⟩
  obtain ⟨W', a1, a2, a3⟩ := h.1 hne
  exact ⟨W', a1, a2, a3.trans (Keep.of_all hb)⟩
theorem StoB.stay (hO : F.Ok) (hX : F.S D X) (hD : D F.js = false) (hi : i ≠ F.js) (hv : F.P i v X) :
    F.S (fun j => D j || j == i) X ∧ (∀ j u, D j = true → F.p j u X → F.p j u X) ∧ F.p i v X := StoB.go hO hX hD hi (Below.refl _ _) hv
theorem StoB.last (hD : D F.js = false) (hk : Keep (fun b => b = F.gp) X Y) (hv : F.Fin Y) :
    F.S (fun j => D j || j == F.js) Y ∧ (∀ j u, D j = true → F.p j u X → F.p j u Y) ∧ F.p F.js v Y := by
  refine ⟨fun e => by simp at e, fun j u hj h => ⟨fun hne => ?_, fun e => by rw [e, hD] at hj; cases hj⟩, fun h => absurd rfl h, fun _ => hv⟩
  obtain ⟨W', a1, a2, a3⟩ := h.1 hne
  exact ⟨W', a1, a2, a3.trans hk⟩

section
variable {P : Program} {ops : Array Oper} {Q : Exit → Act → World → Prop}
/-- Operation j waits for operation i, maybe by way of others. -/
def reachB (ops : Array Oper) : Nat → Nat → Nat → Bool
  | 0, _, _ => false
  | n + 1, j, i => awaits .any ops j i || (List.range ops.size).any fun k => awaits .any ops j k && reachB ops n k i
/-- What is done waits for nothing that is not. -/
def ClosedD (ops : Array Oper) (D : Nat → Bool) : Prop := ∀ j i, D j = true → awaits .any ops j i = true → D i = true
theorem ClosedD.reach (h : ClosedD ops D) : ∀ (n j i : Nat), reachB ops n j i = true → D j = true → D i = true
  | 0, _, _, hr, _ => by cases hr
  | n + 1, j, i, hr, hj => by
    unfold reachB at hr
    rw [Bool.or_eq_true] at hr
    rcases hr with hr | hr
    · exact h j i hj hr
    · obtain ⟨k, _, hk⟩ := List.any_eq_true.1 hr
      rw [Bool.and_eq_true] at hk
      exact ClosedD.reach h n k i hk.2 (h j k hj hk.1)
/-- One operation of such a region. -/
def BStep (P : Program) (ops : Array Oper) (Q : Exit → Act → World → Prop) (F : StoB) (a0 : Act) (i : Nat) (o : Oper) : Prop :=
  ∀ a X, Below F.H F.w X → Like ops a0 a → (∀ j k, j ≠ F.js → waitsB .any o j = true → slotB ops j k = true → F.P j (a.tmps.getD k undef) X) →
    Region.wanted o (yielded ops a.tmps) = true ∧ o.wp P a X (fun a' w' => ∃ v, a' = a.put o.dst v ∧ ((i ≠ F.js ∧ Below X.heap.size X w' ∧ F.P i v w') ∨ (i = F.js ∧ Keep (fun b => b = F.gp) X w' ∧ F.Fin w'))) Q
def BSteps (P : Program) (ops : Array Oper) (Q : Exit → Act → World → Prop) (F : StoB) (a0 : Act) : Nat → List Oper → Prop
  | _, [] => True
  | i, o :: r => BStep P ops Q F a0 i o ∧ BSteps P ops Q F a0 (i + 1) r
theorem BSteps.cons {F : StoB} {a0 : Act} {i : Nat} {o : Oper} {r : List Oper} (h : BStep P ops Q F a0 i o) (hr : BSteps P ops Q F a0 (i + 1) r) : BSteps P ops Q F a0 i (o :: r) := ⟨h, hr⟩
theorem BSteps.nil {F : StoB} {a0 : Act} {i : Nat} : BSteps P ops Q F a0 i [] := trivial
theorem BSteps.done {F : StoB} {a0 : Act} (hO : F.Ok) (hr : ∀ i, i < ops.size → i ≠ F.js → reachB ops ops.size F.js i = true) : ∀ (l : List Oper) (i : Nat), (∀ j o, l[j]? = some o → ops[i + j]? = some o) → BSteps P ops Q F a0 i l →
    DSteps P .any ops Q (fun D X => ClosedD ops D ∧ F.S D X) F.p a0 i l
  | [], _, _, _ => trivial
  | o :: r, i, hl, hs => by
    refine ⟨?_, BSteps.done hO hr r (i + 1) (fun j x hx => by rw [show i + 1 + j = i + (j + 1) by omega]; exact hl (j + 1) x (by simpa using hx)) hs.2⟩
    intro D a X hDi hDa hDw hS hL hd
    have hio : ops[i]? = some o := by have := hl 0 o rfl; simpa using this
    have hD : D F.js = false := by
      by_cases e : i = F.js
      · rw [← e]; exact hDi
      · cases h : D F.js with
        | false => rfl
        | true =>
          have := hS.1.reach _ _ _ (hr i (Array.getElem?_eq_some_iff.1 hio).1 e) h
          rw [hDi] at this; cases this
    obtain ⟨h1, h2⟩ := hs.1 a X (hS.2 hD) hL (fun j k hj hw hk => StoB.get (hd j k hw hk) hO hS.2 hD hj)
    refine ⟨h1, Oper.wp_mono ?_ h2⟩
    rintro a' w' ⟨v, e, hv⟩
    have hcl : ClosedD ops (fun j => D j || j == i) := fun j x hj hx => by
      rw [Bool.or_eq_true] at hj
      rcases hj with hj | hj
      · show (D x || x == i) = true
        rw [hS.1 j x hj hx]; rfl
      · have e2 : j = i := by simpa using hj
        subst e2
        unfold awaits at hx
        rw [hio] at hx
        show (D x || x == j) = true
        rw [hDw x hx]; rfl
    rcases hv with ⟨hi, hb, hv⟩ | ⟨hi, hk, hv⟩
    · obtain ⟨g1, g2, g3⟩ := StoB.go hO hS.2 hD hi hb hv
      exact ⟨v, e, ⟨hcl, g1⟩, g2, g3⟩
    · subst hi
      obtain ⟨g1, g2, g3⟩ := StoB.last (v := v) hD hk hv
      exact ⟨v, e, ⟨hcl, g1⟩, g2, g3⟩
/-- A drawn region in which calls make memory, and which stores once, behind all else. -/
theorem wp_region_stob {id : Nat} {a0 : Act} {w0 : World} (F : StoB) (hm : P.follows .mixedOrders = true) (hap : apartB ops a0.tmps.size = true) (hfw : forwardB .any ops = true)
    (hO : F.Ok) (hr : ((List.range ops.size).all fun i => i == F.js || reachB ops ops.size F.js i) = true) (hjs : F.js < ops.size) (h0 : Below F.H F.w w0.drew) (hs : BSteps P ops Q F a0 0 ops.toList)
    (hd : ∀ a w, Like ops a0 a → F.Fin w → Q .normal a w) : (Code.region id ops true).wp P Q a0 w0 := by
  refine wp_region_done (fun D X => ClosedD ops D ∧ F.S D X) F.p hm hap hfw ⟨fun _ _ h => (by cases h), fun _ => h0⟩
    (BSteps.done hO (fun i hi hne => by
      have := List.all_eq_true.1 hr i (List.mem_range.2 hi)
      rw [Bool.or_eq_true] at this
      rcases this with h | h
      · exact absurd (by simpa using h) hne
      · exact h) ops.toList 0 (fun j o h => by simpa using h) hs) (fun D a w hAll hS hL hP hE => ?_)
  obtain ⟨v, hv⟩ := hE F.js hjs
  exact hd a w hL (hv.2 rfl)
end
end Go.Kt
