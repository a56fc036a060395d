/- props: the document's full decompositions, its flags of what ends, its least pair: mathematics. -/
import Derived.Test.YthhepebkfokddaaGreatDoorGy22
namespace Go.Proofs.YthhepebkfokddaaGreatDoor
open Go Go.RowKit Go.Kt Go.Kt.Rg Go.Maps

def xdcpV (l : List Ln3) (r : Int) : List Nat := if sylP r then partsP (r - 44032).toNat else (ofL l r).getD []
def fullD (dl : List Ln3) : Nat → Nat → Option Nat
  | 0, _ => none
  | f + 1, r => if xdcpV dl (r : Int) = [] then some 1 else sumO (fullD dl f) (xdcpV dl (r : Int))
variable {X : XdS} {S : RdS} {k : Nat}
theorem sumO_ones {g : Nat → Option Nat} : ∀ {l : List Nat}, (∀ y ∈ l, g y = some 1) → sumO g l = some l.length
  | [], _ => rfl
  | y :: t, h => by
    rw [sumO, h y List.mem_cons_self, sumO_ones (fun z hz => h z (List.mem_cons_of_mem _ hz)), List.length_cons, Nat.add_comm]
theorem parts_jam {n : Nat} (hn : n < 11172) : ∀ y ∈ partsP n, hanP (y : Int) = true ∧ sylP (y : Int) = false := by
  intro y hy
  have h : jamP (y : Int) = true := by
    rw [jam_iff]
    unfold partsP at hy
    simp only [List.mem_append, List.mem_cons, List.not_mem_nil, or_false] at hy
    rcases hy with (rfl | rfl) | hy
    · simp; omega
    · simp; omega
    · split at hy
      · cases hy
      · rename_i h0
        rw [List.mem_singleton] at hy
        subst hy
        simp; omega
  refine ⟨by rw [han_two, h, Bool.or_true], ?_⟩
  rw [jam_iff] at h
  rw [syl_iff]
  simp at h ⊢
  omega
theorem syl_rng {x : Nat} (h : sylP (x : Int) = true) : 44032 ≤ x ∧ x - 44032 < 11172 := by
  rw [syl_iff] at h
  simp at h
  omega
theorem XRel.of_none (h : XRel X S) (hS : RdOk k S) {x : Nat} (hx : hanP (x : Int) = true) : (ofL X.dl (x : Int)).getD [] = [] := by
  rw [h.dcp, atZ_nat]
  cases hd : S.ds x with
  | none => rfl
  | some l =>
    have := (hS.ds x l hd).1.2
    rw [hx] at this; cases this
theorem XRel.full (h : XRel X S) (hS : RdOk k S) : ∀ (f x n : Nat), fullN S.ds f x = some n → fullD X.dl (f + 1) x = some n
  | 0, x, n, e => by cases e
  | f + 1, x, n, e => by
    rw [fullN] at e
    rw [fullD]
    cases hs : sylP (x : Int) with
    | true =>
      rw [if_pos hs] at e
      obtain ⟨h1, h2⟩ := syl_rng hs
      have hx : xdcpV X.dl (x : Int) = partsP (x - 44032) := by
        unfold xdcpV
        rw [if_pos hs, show ((x : Int) - 44032).toNat = x - 44032 by omega]
      rw [hx, if_neg (by unfold partsP; simp), sumO_ones (fun y hy => ?_)]
      · exact e
      · rw [fullD, if_pos]
        unfold xdcpV
        obtain ⟨q1, q2⟩ := parts_jam h2 y hy
        rw [if_neg (by rw [q2]; decide)]
        exact h.of_none hS q1
    | false =>
      rw [if_neg (by rw [hs]; decide)] at e
      have hx : xdcpV X.dl (x : Int) = (S.ds x).getD [] := by
        unfold xdcpV
        rw [if_neg (by rw [hs]; decide), h.dcp, atZ_nat]
      rw [hx]
      cases hd : S.ds x with
      | none => rw [hd] at e; rw [if_pos (by rfl)]; exact e
      | some l =>
        rw [hd] at e
        have hl := (hS.ds x l hd).2.1.1
        simp only [Option.getD_some]
        rw [if_neg (fun e2 => by rw [e2] at hl; simp at hl)]
        exact sumO_mono (fun y a ha => h.full hS f y a ha) e

/-! ### Flags of what ends -/
def OkZ (dl : List Ln3) (kn : List Bool) (z : Nat) : Prop := ∀ (m : Nat) (x : Ln3), dl[m]? = some x → x.1 = z → kn[m]? = some true
def SoundK (ds : DsT) (dl : List Ln3) (kn : List Bool) : Prop := kn.length = dl.length ∧ ∀ (i : Nat) (y : Ln3), dl[i]? = some y → kn[i]? = some true → ∃ n, EndA ds y.1 n
theorem soundK0 (ds : DsT) (dl : List Ln3) : SoundK ds dl (List.replicate dl.length false) := ⟨by simp, fun i y hy h => by
  rw [List.getElem?_replicate] at h
  split at h <;> cases h⟩
theorem XRel.ends (h : XRel X S) (hS : RdOk k S) {kn : List Bool} (hk : SoundK S.ds X.dl kn) {i : Nat} {y : Ln3} (hy : X.dl[i]? = some y) (ha : ∀ z ∈ y.2.1, OkZ X.dl kn z) : ∃ n, EndA S.ds y.1 n := by
  have hd := (h.at (List.mem_of_getElem? hy)).1
  have key : ∀ (l : List Nat), (∀ z ∈ l, OkZ X.dl kn z) → ∃ n, EndS S.ds l n := by
    intro l
    induction l with
    | nil => intro _; exact ⟨0, ends_nil _⟩
    | cons z t ih =>
      intro hz
      obtain ⟨b, hb⟩ := ih (fun u hu => hz u (List.mem_cons_of_mem _ hu))
      obtain ⟨a, ha⟩ : ∃ a, EndA S.ds z a := by
        cases hs : sylP (z : Int) with
        | true => exact ⟨_, EndA.syl hs⟩
        | false =>
          cases hdz : S.ds z with
          | none => exact ⟨1, EndA.ofN hs hdz⟩
          | some l =>
            obtain ⟨u, hu, rfl⟩ := (h.mem z).1 (by rw [hdz]; rfl)
            obtain ⟨m, hm⟩ := List.getElem?_of_mem hu
            exact hk.2 m u hm (hz u.1 List.mem_cons_self m u hm rfl)
      exact ⟨a + b, EndS.cons ha hb⟩
  obtain ⟨n, hn⟩ := key y.2.1 ha
  have hs : sylP (y.1 : Int) = false := by
    have := (hS.ds _ _ hd).1.2
    rw [han_two, Bool.or_eq_false_iff] at this
    exact this.1
  exact ⟨n, EndA.ofL hs hd hn⟩
theorem XRel.known (h : XRel X S) (hS : RdOk k S) {kn : List Bool} (hk : SoundK S.ds X.dl kn) (hc : ∀ (i : Nat) (y : Ln3), X.dl[i]? = some y → (∀ z ∈ y.2.1, OkZ X.dl kn z) → kn[i]? = some true) {i : Nat} {y : Ln3} (hy : X.dl[i]? = some y) :
    (kn[i]? = some true ∧ ∃ n, EndA S.ds y.1 n) ∨ (kn[i]? = some false ∧ NoEnd S.ds y.1) := by
  have key : ∀ (f : Nat) (i : Nat) (y : Ln3) (n : Nat), X.dl[i]? = some y → fullN S.ds f y.1 = some n → kn[i]? = some true := by
    intro f
    induction f with
    | zero => intro i y n _ e; cases e
    | succ f ih =>
      intro i y n hy e
      have hd := (h.at (List.mem_of_getElem? hy)).1
      have hs : sylP (y.1 : Int) = false := by
        have := (hS.ds _ _ hd).1.2
        rw [han_two, Bool.or_eq_false_iff] at this
        exact this.1
      rw [fullN, if_neg (by rw [hs]; decide), hd] at e
      refine hc i y hy fun z hz m x hx ex => ?_
      obtain ⟨a, ha⟩ := sumO_some e z hz
      exact ih m x a hx (by rw [ex]; exact ha)
  have hl : i < kn.length := by rw [hk.1]; exact (List.getElem?_eq_some_iff.1 hy).1
  cases hb : kn[i]'hl with
  | true =>
    have hb' : kn[i]? = some true := by rw [List.getElem?_eq_getElem hl, hb]
    exact .inl ⟨hb', hk.2 i y hy hb'⟩
  | false =>
    have hb' : kn[i]? = some false := by rw [List.getElem?_eq_getElem hl, hb]
    refine .inr ⟨hb', ?_⟩
    rcases end_or S.ds y.1 with h1 | ⟨n, f, h1⟩
    · exact h1
    · have := key f i y n hy h1
      rw [hb'] at this; cases this

/-! ### The least pair -/
def LeastI (l : List Ln3) (a b : Int) : Option Nat → Prop
  | none => ∀ y ∈ l, toZ y.2.1 ≠ [a, b]
  | some x => (∃ y ∈ l, y.1 = x ∧ toZ y.2.1 = [a, b]) ∧ ∀ z ∈ l, toZ z.2.1 = [a, b] → x ≤ z.1
end Go.Proofs.YthhepebkfokddaaGreatDoor
