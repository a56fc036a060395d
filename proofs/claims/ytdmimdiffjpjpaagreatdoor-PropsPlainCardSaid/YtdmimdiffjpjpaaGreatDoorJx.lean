/- props: what is wrong with a full decomposition. -/
import Derived.Test.YtdmimdiffjpjpaaGreatDoorJw
namespace Go.Proofs.YtdmimdiffjpjpaaGreatDoor
open Go Go.RowKit Go.Kt Go.Kt.Rg Go.Maps

/-- The error's number of a length. -/
def endN (k : Int) : Nat := if k = -1 then 14 else if 8 < k then 5 else 0
/-- What ended answers. -/
def EndOut (B0 : Nat) (ρ : Nat → Nat) (R : RdB) (line n m : Nat) (L : List Nat) (S : RdS) (cv kv : Value) (r : Int × LeT) (w : World) (e : Ending) (w' : World) : Prop :=
  e = .returned (.int .i64 (endN r.1 : Nat)) ∧ (∃ m', RdW B0 ρ R line n m' { S with le := r.2 } cv kv w' ∧ m' + 2 * unk L r.2 ≤ m + 2 * unk L S.le) ∧ Keep (fun b => b = R.bn) w w'

set_option maxRecDepth 100000 in
theorem pended {B0 : Nat} {R : RdB} {line n : Nat} (L : List Nat) (f : Nat) (w : World) (ρ : Nat → Nat) (m : Nat) (S : RdS) (cv kv : Value) (x : Nat) (hR : RdW B0 ρ R line n m S cv kv w) (hL : ∀ y, (S.ds y).isSome = true → y ∈ L) (hds : ∀ y l, S.ds y = some l → l.length ≤ 9 ∧ ∀ z ∈ l, z ≤ 1114111)
    (hle : LeOk S.le) (hu : unk L S.le < f) (hx : x ≤ 1114111) (hm : m + 2 * unk L S.le ≤ 1099511627776) :
    Calls Tryz.prog 27 #[.pointer (some ⟨R.g, 0, none⟩), .int .i32 (x : Nat)] w fun e w' => EndOut B0 ρ R line n m L S cv kv (lenF S.ds f S.le x) w e w' := by
  have CL := Lib.hid (plen L f w ρ m S cv kv x hR hL hds hle hu hx hm)
  have hok := (lenF_ok S.ds f S.le x hle).1
  obtain ⟨r, hr⟩ : ∃ r, lenF S.ds f S.le x = r := ⟨_, rfl⟩
  rw [hr] at CL hok ⊢
  clear hR hL hds hle hu hx hm hr
  obtain ⟨r1, r2⟩ := r
  simp only at hok
  go_enter Tryz.func27, Tryz.ntmps27
  go_wp2_with fail
  refine CL.out.mono ?_
  rintro e w1 hO
  obtain ⟨rfl, hO2, hO3⟩ := hO
  have HO := Lib.hid (And.intro hO2 hO3)
  clear hO2 hO3 CL
  by_cases h1 : r1 = -1
  · subst h1
    have HX : Hid (endN (-1) = 14) := Lib.hid rfl
    go_wp2
    go_ret
    unfold EndOut
    simp only
    rw [HX.out]
    exact ⟨rfl, HO.out⟩
  · have b1 : (r1 == -1) = false := beq_eq_false_iff_ne.2 h1
    by_cases h8 : 8 < r1
    · have HX : Hid (endN r1 = 5) := Lib.hid (by unfold endN; rw [if_neg h1, if_pos h8])
      go_wp2
      go_ret
      unfold EndOut
      simp only
      rw [HX.out]
      exact ⟨rfl, HO.out⟩
    · have HX : Hid (endN r1 = 0) := Lib.hid (by unfold endN; rw [if_neg h1, if_neg h8])
      have h9 : r1 ≤ 8 := by omega
      clear h8
      go_wp2
      go_ret
      unfold EndOut
      simp only
      rw [HX.out]
      exact ⟨rfl, HO.out⟩
end Go.Proofs.YtdmimdiffjpjpaaGreatDoor
