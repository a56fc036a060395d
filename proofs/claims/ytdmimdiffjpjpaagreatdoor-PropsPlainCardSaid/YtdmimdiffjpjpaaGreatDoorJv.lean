/- props: the length of a full decomposition. -/
import Derived.Test.YtdmimdiffjpjpaaGreatDoorJu
import Derived.Test.YtdmimdiffjpjpaaGreatDoorJl
import Derived.Maps.Own
namespace Go.Proofs.YtdmimdiffjpjpaaGreatDoor
open Go Go.RowKit Go.Kt Go.Kt.Rg Go.Maps

abbrev LeT := Nat → Option Int
/-- The sum over a list; g: the length of one; behind it x's is known. -/
def lenL (g : LeT → Nat → Int × LeT) (x : Nat) : List Nat → Int → LeT → Int × LeT
  | [], sum, le => (sum, updN le x sum)
  | y :: t, sum, le => if (g le y).1 = -1 then (-1, (g le y).2) else lenL g x t (min (sum + (g le y).1) 9) (g le y).2
/-- How many points x's full decomposition has (9 for all that have more than 8, -1 for none), and what is known then. -/
def lenF (ds : Nat → Option (List Nat)) : Nat → LeT → Nat → Int × LeT
  | 0, le, _ => (0, le)
  | f + 1, le, x => if sylP x then (((partsP (x - 44032)).length : Nat), le) else
    match ds x with
    | none => (1, le)
    | some own => match le x with
      | some n => (n, le)
      | none => lenL (lenF ds f) x own 0 (updN le x (-1))
def LeOk (le : LeT) : Prop := ∀ y v, le y = some v → -1 ≤ v ∧ v ≤ 9
theorem LeOk.upd {le : LeT} (h : LeOk le) {x : Nat} {v : Int} (h1 : -1 ≤ v) (h9 : v ≤ 9) : LeOk (updN le x v) := fun y u hu => by
  unfold updN at hu
  by_cases e : y = x
  · rw [if_pos e] at hu; cases hu; exact ⟨h1, h9⟩
  · rw [if_neg e] at hu; exact h y u hu
/-- What is known stays known. -/
def LeLe (le le' : LeT) : Prop := ∀ y, (le y).isSome = true → (le' y).isSome = true
theorem LeLe.upd (le : LeT) (x : Nat) (v : Int) : LeLe le (updN le x v) := fun y h => by
  unfold updN
  by_cases e : y = x
  · rw [if_pos e]; rfl
  · rw [if_neg e]; exact h
theorem lenL_ok {g : LeT → Nat → Int × LeT} (hg : ∀ le y, LeOk le → (-1 ≤ (g le y).1 ∧ (g le y).1 ≤ 9) ∧ LeOk (g le y).2 ∧ LeLe le (g le y).2) (x : Nat) : ∀ (l : List Nat) (sum : Int) (le : LeT), 0 ≤ sum → sum ≤ 9 → LeOk le →
    (-1 ≤ (lenL g x l sum le).1 ∧ (lenL g x l sum le).1 ≤ 9) ∧ LeOk (lenL g x l sum le).2 ∧ LeLe le (lenL g x l sum le).2
  | [], sum, le, h0, h9, hl => ⟨⟨by simp [lenL]; omega, by simp [lenL]; omega⟩, LeOk.upd hl (by omega) h9, LeLe.upd _ _ _⟩
  | y :: t, sum, le, h0, h9, hl => by
    obtain ⟨h1, h2, h3⟩ := hg le y hl
    rw [lenL]
    by_cases e : (g le y).1 = -1
    · rw [if_pos e]
      exact ⟨⟨by simp, by simp⟩, h2, h3⟩
    · rw [if_neg e]
      have h4 := lenL_ok hg x t (min (sum + (g le y).1) 9) (g le y).2 (by omega) (by omega) h2
      exact ⟨h4.1, h4.2.1, fun z hz => h4.2.2 z (h3 z hz)⟩
theorem lenF_ok (ds : Nat → Option (List Nat)) : ∀ (f : Nat) (le : LeT) (x : Nat), LeOk le → (-1 ≤ (lenF ds f le x).1 ∧ (lenF ds f le x).1 ≤ 9) ∧ LeOk (lenF ds f le x).2 ∧ LeLe le (lenF ds f le x).2
  | 0, le, x, h => ⟨⟨by simp [lenF], by simp [lenF]⟩, h, fun _ h => h⟩
  | f + 1, le, x, h => by
    rw [lenF]
    split
    · refine ⟨⟨by omega, ?_⟩, h, fun _ h => h⟩
      have : (partsP (x - 44032)).length ≤ 3 := by unfold partsP; split <;> simp
      omega
    · split
      · exact ⟨⟨by omega, by omega⟩, h, fun _ h => h⟩
      · split
        · rename_i n hn
          exact ⟨h x n hn, h, fun _ h => h⟩
        · rename_i own hown _ hnone
          have := lenL_ok (fun le y h => lenF_ok ds f le y h) x own 0 (updN le x (-1)) (by omega) (by omega) (h.upd (x := x) (v := -1) (by omega) (by omega))
          exact ⟨this.1, this.2.1, fun y hy => this.2.2 y (LeLe.upd _ _ _ y hy)⟩
/-- How many of L's points are not known yet. -/
def unk (L : List Nat) (le : LeT) : Nat := (L.filter fun x => (le x).isNone).length
theorem unk_mono (L : List Nat) {le le' : LeT} (h : LeLe le le') : unk L le' ≤ unk L le := by
  unfold unk
  rw [← List.countP_eq_length_filter, ← List.countP_eq_length_filter]
  refine List.countP_mono_left fun x _ hx => ?_
  cases hl : le x with
  | none => rfl
  | some v =>
    have := h x (by rw [hl]; rfl)
    rw [Option.isNone_iff_eq_none] at hx
    rw [hx] at this
    cases this
theorem unk_upd (L : List Nat) {le : LeT} {x : Nat} (hx : x ∈ L) (h : le x = none) (v : Int) : unk L (updN le x v) + 1 ≤ unk L le := by
  induction L with
  | nil => cases hx
  | cons y t ih =>
    by_cases e : y = x
    · subst e
      have h1 := unk_mono t (LeLe.upd le y v)
      unfold unk at h1 ⊢
      rw [List.filter_cons_of_neg (by simp [updN]), List.filter_cons_of_pos (by rw [h]; rfl)]
      simp only [List.length_cons]
      omega
    · have h2 := ih (by rcases List.mem_cons.1 hx with h | h; exact absurd h.symm e; exact h)
      have e2 : updN le x v y = le y := if_neg e
      unfold unk at h2 ⊢
      simp only [List.filter_cons, e2]
      split
      · simp only [List.length_cons]; omega
      · exact h2

section
variable {B0 : Nat} {ρ : Nat → Nat} {R : RdB} {line n m m' : Nat} {S : RdS} {cv kv : Value} {w w' : World}
/-- Lengths that are known now. -/
theorem RdW.newe (h : RdW B0 ρ R line n m S cv kv w) {le' : LeT} (hk : Keep (fun b => b = R.bn) w w') (hf : MapG Tryz.prog 21 R.bn m' (ptF (leV le')) w') : RdW B0 ρ R line n m' { S with le := le' } cv kv w' := by
  have H := h
  have hX : ∀ b, b = R.bn → ρ b = 7 := fun b e => by rw [e]; exact h.e.1
  exact {
    hr := H.hr, hB := Nat.le_trans h.hB hk.size, g := H.g, cell := hk.heap H.cell (fun e => by have := hX _ e; have := H.g; omega)
    c := H.c.keep hk (fun b hb h3 => by have := hX b hb; omega)
    k := H.k.keep hk (fun b hb h3 => by have := hX b hb; omega)
    f := H.f.keep hk (fun b hb => by have := hX b hb; omega)
    d := H.d.keep hk (fun b hb => by have := hX b hb; omega)
    e := ⟨H.e.1, hf⟩
    l := ⟨H.l.1, H.l.2.keep hk (fun hb => by have := hX _ hb; have := H.l.1; omega)⟩
    s := ⟨H.s.1, H.s.2.keep hk (fun hb => by have := hX _ hb; have := H.s.1; omega)⟩ }
end
/-- What length answers. -/
def LenOut (B0 : Nat) (ρ : Nat → Nat) (R : RdB) (line n m : Nat) (L : List Nat) (S : RdS) (cv kv : Value) (r : Int × LeT) (w : World) (e : Ending) (w' : World) : Prop :=
  e = .returned (.int .i64 r.1) ∧ (∃ m', RdW B0 ρ R line n m' { S with le := r.2 } cv kv w' ∧ m' + 2 * unk L r.2 ≤ m + 2 * unk L S.le) ∧ Keep (fun b => b = R.bn) w w'
end Go.Proofs.YtdmimdiffjpjpaaGreatDoor
