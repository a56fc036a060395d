/- The document's answer for props: end: which full decompositions come to an end. -/
import Derived.Test.YthhepebkfokddaaGreatDoorZh
namespace Go.Proofs.YthhepebkfokddaaGreatDoor
open Go Go.RowKit Go.Kt Go.Kt.Rg Go.Maps

def encBo (kn : List Bool) : List Value := kn.map .bool
theorem encBo_at {kn : List Bool} {i : Nat} {b : Bool} (h : kn[i]? = some b) : (encBo kn)[i]? = some (.bool b) := by simp [encBo, h]
theorem encBo_set (kn : List Bool) (i : Nat) (b : Bool) : (encBo kn).set i (.bool b) = encBo (kn.set i b) := by simp [encBo]
def BoO (gb n : Nat) (kn : List Bool) (W : World) : Prop := kn.length = n ∧ OwnS (fun b => b = gb) 4 1 (.slice (some ⟨gb, 0, none⟩) n n) n (encBo kn) W
theorem BoO.cell {gb n : Nat} {kn : List Bool} {W : World} (h : BoO gb n kn W) {i : Nat} {b : Bool} (hb : kn[i]? = some b) : W.cell? ⟨gb, i, none⟩ = some (.bool b) := OwnS.at0 h.2 (encBo_at hb)
theorem BoO.drewN {gb n : Nat} {kn : List Bool} {W : World} (h : BoO gb n kn W) (q : Nat) : BoO gb n kn (W.drewN q) := ⟨h.1, h.2.keep (X := fun _ => False) (Keep.of_all (below_drewN (Below.refl _ W) q)) (fun _ h => h.elim)⟩
theorem BoO.set {gb n : Nat} {kn : List Bool} {W : World} (h : BoO gb n kn W) (i : Nat) (b : Bool) : BoO gb n (kn.set i b) (W.setCell ⟨gb, i, none⟩ (.bool b)) := by
  refine ⟨by rw [List.length_set]; exact h.1, ?_⟩
  rw [← encBo_set]
  exact ⟨(h.2.1.stored i (.bool b)).1, h.2.2⟩
theorem BoO.fz {gb n : Nat} {kn : List Bool} {W : World} (h : BoO gb n kn W) (i : Nat) : W.frozen? ⟨gb, i, none⟩ = false := h.2.1.frozenAt i
def fF : Option Value → Bool
  | some (.bool false) => true
  | _ => false
def cntF (gb n : Nat) (W : World) : Nat := (List.range n).countP fun i => fF (W.cell? ⟨gb, i, none⟩)
def cntL (kn : List Bool) : Nat := (List.range kn.length).countP fun i => kn[i]? == some false
theorem BoO.cnt {gb n : Nat} {kn : List Bool} {W : World} (h : BoO gb n kn W) : cntF gb n W = cntL kn := by
  unfold cntF cntL
  rw [h.1]
  refine List.countP_congr fun i hi => ?_
  have hi2 : i < kn.length := by rw [h.1]; exact List.mem_range.1 hi
  have hb := List.getElem?_eq_getElem hi2
  rw [h.cell hb, hb]
  cases kn[i] <;> simp [fF]
theorem cntL_set {kn : List Bool} {i : Nat} (h : kn[i]? = some false) : cntL (kn.set i true) + 1 ≤ cntL kn := by
  unfold cntL
  rw [List.length_set]
  obtain ⟨hi, hv⟩ := List.getElem?_eq_some_iff.1 h
  have h1 : ∀ j, j ≠ i → (kn.set i true)[j]? = kn[j]? := fun j hj => List.getElem?_set_ne (fun e => hj e.symm)
  have h2 : (kn.set i true)[i]? = some true := by rw [List.getElem?_set_self hi]
  have e1 : (List.range kn.length).countP (fun j => kn[j]? == some false) = ((List.range kn.length).countP fun j => (kn.set i true)[j]? == some false) + (List.range kn.length).countP fun j => j == i := by
    have : ∀ l : List Nat, l.countP (fun j => kn[j]? == some false) = (l.countP fun j => (kn.set i true)[j]? == some false) + l.countP fun j => j == i := by
      intro l
      induction l with
      | nil => rfl
      | cons a t ih =>
        rw [List.countP_cons, List.countP_cons, List.countP_cons, ih]
        by_cases e : a = i
        · subst e
          rw [h2, h]
          simp; omega
        · rw [h1 a e]
          have : (a == i) = false := by simpa using e
          rw [this]
          simp; omega
    exact this _
  have e2 : (List.range kn.length).countP (fun j => j == i) = 1 := by
    rw [← List.count_eq_countP, List.count_range]
    simp [hi]
  omega
theorem cntL_same {kn : List Bool} {i : Nat} {b : Bool} (h : kn[i]? = some b) : kn.set i b = kn := by
  apply List.ext_getElem?
  intro j
  by_cases e : j = i
  · subst e
    obtain ⟨hi, _⟩ := List.getElem?_eq_some_iff.1 h
    rw [List.getElem?_set_self hi, h]
  · rw [List.getElem?_set_ne (fun x => e x.symm)]
def EndI (ds : DsT) (dl : List Ln3) (kn0 : List Bool) (i : Nat) (more : Bool) (kn : List Bool) : Prop :=
  SoundK ds dl kn ∧ cntL kn ≤ cntL kn0 ∧ (more = true → cntL kn < cntL kn0) ∧ (more = false → kn = kn0 ∧ ∀ (j : Nat) (y : Ln3), j < i → dl[j]? = some y → (∀ z ∈ y.2.1, OkZ dl kn z) → kn[j]? = some true)
theorem EndI.start {ds : DsT} {dl : List Ln3} {kn0 : List Bool} (h : SoundK ds dl kn0) : EndI ds dl kn0 0 false kn0 := ⟨h, Nat.le_refl _, (fun h => by cases h), fun _ => ⟨rfl, fun j y hj => by omega⟩⟩
theorem EndI.yes {X : XdS} {S : RdS} {k i : Nat} {more : Bool} {kn0 kn : List Bool} {y : Ln3} {b : Bool} (hX : XRel X S) (hS : RdOk k S) (h : EndI S.ds X.dl kn0 i more kn) (hy : X.dl[i]? = some y) (hb : kn[i]? = some b) (ha : ∀ z ∈ y.2.1, OkZ X.dl kn z) :
    EndI S.ds X.dl kn0 (i + 1) (more || !b) (kn.set i true) := by
  obtain ⟨h1, h2, h3, h4⟩ := h
  cases b with
  | true =>
    rw [cntL_same hb]
    refine ⟨h1, h2, fun e => h3 (by simpa using e), fun e => ?_⟩
    obtain ⟨q1, q2⟩ := h4 (by simpa using e)
    refine ⟨q1, fun j u hj hu hz => ?_⟩
    by_cases e2 : j = i
    · subst e2; exact hb
    · exact q2 j u (by omega) hu hz
  | false =>
    have hc := cntL_set hb
    refine ⟨⟨by rw [List.length_set]; exact h1.1, fun j u hu hk => ?_⟩, by omega, fun _ => by omega, fun e => by simp at e⟩
    by_cases e2 : j = i
    · subst e2
      rw [hy] at hu
      cases hu
      exact hX.ends hS h1 hy ha
    · rw [List.getElem?_set_ne (fun x => e2 x.symm)] at hk
      exact h1.2 j u hu hk
theorem EndI.no {ds : DsT} {dl : List Ln3} {i : Nat} {more b : Bool} {kn0 kn : List Bool} {y : Ln3} (h : EndI ds dl kn0 i more kn) (hy : dl[i]? = some y) (hb : kn[i]? = some b) (ha : ¬ ∀ z ∈ y.2.1, OkZ dl kn z) :
    EndI ds dl kn0 (i + 1) more (kn.set i b) := by
  rw [cntL_same hb]
  obtain ⟨h1, h2, h3, h4⟩ := h
  refine ⟨h1, h2, h3, fun e => ?_⟩
  obtain ⟨q1, q2⟩ := h4 e
  refine ⟨q1, fun j u hj hu hz => ?_⟩
  by_cases e2 : j = i
  · subst e2
    rw [hy] at hu
    cases hu
    exact absurd hz ha
  · exact q2 j u (by omega) hu hz
def AllI (dl : List Ln3) (kn : List Bool) (l : List Nat) (k : Nat) (A : Bool) : Prop := A = true ↔ ∀ z ∈ l.take k, OkZ dl kn z
def AllM (dl : List Ln3) (kn : List Bool) (l : List Nat) (k m z : Nat) (A : Bool) : Prop := A = true ↔ (∀ z ∈ l.take k, OkZ dl kn z) ∧ ∀ (j : Nat) (x : Ln3), j < m → dl[j]? = some x → x.1 = z → kn[j]? = some true
theorem AllI.enter {dl : List Ln3} {kn : List Bool} {l : List Nat} {k : Nat} {A : Bool} (h : AllI dl kn l k A) (z : Nat) : AllM dl kn l k 0 z A := by
  unfold AllM
  unfold AllI at h
  rw [h]
  exact ⟨fun h => ⟨h, fun j x hj => by omega⟩, fun h => h.1⟩
theorem AllM.leave {dl : List Ln3} {kn : List Bool} {l : List Nat} {k z : Nat} {A : Bool} (h : AllM dl kn l k dl.length z A) (hz : l[k]? = some z) : AllI dl kn l (k + 1) A := by
  unfold AllI
  unfold AllM at h
  rw [h, List.take_add_one, hz]
  constructor
  · rintro ⟨h1, h2⟩ u hu
    rcases List.mem_append.1 hu with hu | hu
    · exact h1 u hu
    · have : u = z := by simpa using hu
      subst this
      exact fun m x hx e => h2 m x (List.getElem?_eq_some_iff.1 hx).1 hx e
  · intro h1
    refine ⟨fun u hu => h1 u (List.mem_append_left _ hu), fun j x _ hx e => h1 z (List.mem_append_right _ (by simp)) j x hx e⟩
theorem AllM.off {dl : List Ln3} {kn : List Bool} {l : List Nat} {k m z : Nat} (h : AllM dl kn l k m z false) : AllM dl kn l k (m + 1) z false := by
  unfold AllM at h ⊢
  constructor
  · intro e; cases e
  · rintro ⟨h1, h2⟩
    exact h.2 ⟨h1, fun j x hj => h2 j x (by omega)⟩
theorem AllM.other {dl : List Ln3} {kn : List Bool} {l : List Nat} {k m z : Nat} {x : Ln3} (h : AllM dl kn l k m z true) (hx : dl[m]? = some x) (hne : x.1 ≠ z) : AllM dl kn l k (m + 1) z true := by
  unfold AllM at h ⊢
  obtain ⟨h1, h2⟩ := h.1 rfl
  refine ⟨fun _ => ⟨h1, fun j u hj hu e => ?_⟩, fun _ => rfl⟩
  by_cases ej : j = m
  · subst ej
    rw [hx] at hu; cases hu
    exact absurd e hne
  · exact h2 j u (by omega) hu e
theorem AllM.same {dl : List Ln3} {kn : List Bool} {l : List Nat} {k m z : Nat} {x : Ln3} {b : Bool} (h : AllM dl kn l k m z true) (hx : dl[m]? = some x) (he : x.1 = z) (hb : kn[m]? = some b) : AllM dl kn l k (m + 1) z b := by
  unfold AllM at h ⊢
  obtain ⟨h1, h2⟩ := h.1 rfl
  constructor
  · intro e
    subst e
    refine ⟨h1, fun j u hj hu e => ?_⟩
    by_cases ej : j = m
    · subst ej; exact hb
    · exact h2 j u (by omega) hu e
  · rintro ⟨_, h4⟩
    have := h4 m x (by omega) hx he
    rw [hb] at this
    exact Option.some.inj this
end Go.Proofs.YthhepebkfokddaaGreatDoor
