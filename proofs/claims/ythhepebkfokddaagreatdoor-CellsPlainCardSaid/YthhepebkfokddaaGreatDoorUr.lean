/- props: Decomp, Fold; slices.Clone of points. -/
import Derived.Test.YthhepebkfokddaaGreatDoorGz17
import Derived.Test.YthhepebkfokddaaGreatDoorGz16
namespace Go.Proofs.YthhepebkfokddaaGreatDoor
open Go Go.RowKit Go.Kt Go.Kt.Rg Go.Maps

/-- Points as numbers. -/
def toZ (l : List Nat) : List Int := l.map fun x : Nat => (x : Int)
theorem toZ_len (l : List Nat) : (toZ l).length = l.length := by simp [toZ]
/-- Numbers' cells. -/
def encZ (l : List Int) : List Value := l.map fun x => .int .i32 x
theorem encN_z (l : List Nat) : encN l = encZ (toZ l) := by simp [encN, encZ, toZ]
/-- A row of numbers in memory of its own, behind H. -/
def NewZ (H : Nat) (l : List Int) (e : Ending) (w' : World) : Prop :=
  ∃ ao cp, e = .returned (.slice ao l.length cp) ∧ OwnS (fun b => H ≤ b) 21 1 (.slice ao l.length cp) l.length (encZ l) w'

theorem nil_eq (W : World) : (binOp BinOp.eql 62 (.slice none 0 0) (.slice none 0 0)).run Tryz.prog W = .ok (.bool true) W := by kernel_rfl
theorem nil_ne (a : Addr) (n c : Nat) (W : World) : (binOp BinOp.eql 62 (.slice (some a) n c) (.slice none 0 0)).run Tryz.prog W = .ok (.bool false) W := by
  kernel_rfl
/-- A point's own decomposition. -/
def dcpV (S : RdS) (r : Int) : List Nat := if sylP r then partsP (r - 44032).toNat else (atZ S.ds r).getD []
/-- What a point is folded to. -/
def fldV (S : RdS) (r : Int) : List Int := match atZ S.fs r with
  | some l => toZ l
  | none => [r]
set_option maxRecDepth 100000 in
theorem DecM.look1 {ρ : Nat → Nat} {k B n : Nat} {d : Nat → Option (List Nat)} {w : World} (h : DecM ρ k B n d w) {r : Int} (hr : I32 r) :
    ∃ v, (Instr.lookup 54 (.map (some B)) (.int .i32 r) false).run Tryz.prog w = .ok v w ∧ (Instr.lookup 54 (.map (some B)) (.int .i32 r) true).run Tryz.prog w = .ok (.tuple #[v, .bool (atZ d r).isSome]) w ∧
      ((atZ d r = none ∧ v = .slice none 0 0) ∨ ∃ l, atZ d r = some l ∧ PtV ρ v l w) := by
  obtain ⟨_, vs, h1, h2, h3⟩ := h
  have hkey : keyOf Tryz.prog 21 (.int .i32 r) = some (.int .i32 r) := keyOf_int_mk Tryz.underlying21 hr.wf
  have hl1 := h1.look1 (int_keyed Tryz.underlying21) Tryz.underlying54 (z := .slice none 0 0) rfl hkey
  have hl2 := h1.look (int_keyed Tryz.underlying21) Tryz.underlying54 (z := .slice none 0 0) rfl hkey
  rw [ptF_atZ] at hl1 hl2
  have hs : (atZ vs r).isSome = (atZ d r).isSome := by
    unfold atZ
    split
    · exact h2 _
    · rfl
  rw [hs] at hl2
  refine ⟨_, hl1, hl2, ?_⟩
  cases hv : atZ vs r with
  | none =>
    rw [hv] at hs
    refine .inl ⟨?_, rfl⟩
    cases hd : atZ d r with
    | none => rfl
    | some l => rw [hd] at hs; cases hs
  | some v =>
    rw [hv] at hs
    cases hd : atZ d r with
    | none => rw [hd] at hs; cases hs
    | some l =>
      refine .inr ⟨l, rfl, ?_⟩
      unfold atZ at hv hd
      by_cases h0 : 0 ≤ r
      · rw [if_pos h0] at hv hd
        exact h3 _ _ _ hv hd
      · rw [if_neg h0] at hv; cases hv

end Go.Proofs.YthhepebkfokddaaGreatDoor
