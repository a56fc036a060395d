/- A row's argument that is a slice of spans, opened; the walk in the row's order of arguments. -/
import Derived.Test.YtmcmdijfdhlnaaaDoorWe
import Derived.Test.YtmcmdijfdhlnaaaDoorNt
import Derived.Deep.SlicePairs
import Derived.ChangeArms
import Derived.Carry
namespace Go.Proofs.YtmcmdijfdhlnaaaDoor
open Go.ChangeShapes Go.WideShapes Go.ChangeAt Go.RowKit Go.Kt Go.Deep
set_option maxRecDepth 100000

theorem cells_span : Tryd.prog.cellsOf 40 = 2 := by kernel_rfl
theorem cells_i32 : Tryd.prog.cellsOf 21 = 1 := by kernel_rfl
theorem open_spans {H : Type} {enc : TypeId × Value → H} {W : World} {base : Nat} {spare : Nat → Bool} {held : Bool} {fuel : Nat} {ad : Option Addr} {len cap : Nat} {cs : List Value} {x : DataW H × List MemPlace}
    (h : DataW.trod enc Tryd.prog W base spare held fuel 22 cs = some x) (hcs : cs = [.slice ad len cap]) :
    ∃ l : List (Int × Int), SpA W (.slice ad len cap) l ∧ Runy l ∧ l.length ≤ 9223372036854775807 ∧ l.length = len := by
  subst hcs
  rcases open_slice_pairs Tryd.underlying22 Tryd.underlying40 cells_span rfl rfl cells_i32 cells_i32 h with ⟨hcs, hx⟩ | ⟨a, len', cap', m, n, V0, V1, D0, D1, P0, P1, hcs, _, hl, hm, hmm, hx, hi⟩
  · simp at hcs
    obtain ⟨rfl, rfl, rfl⟩ := hcs
    exact ⟨[], ⟨none, 0, rfl, .inl rfl⟩, by intro x hx; simp at hx, by simp, rfl⟩
  · simp at hcs
    obtain ⟨rfl, rfl, rfl⟩ := hcs
    have hlm : len ≤ m := by rw [hmm]; split <;> omega
    have each : ∀ i, i < m → W.cell? (a.add (i * 2)) = some (.int .i32 (RowKit.intOf (V0 i))) ∧ W.cell? (a.add (i * 2 + 1)) = some (.int .i32 (RowKit.intOf (V1 i))) ∧ (-2147483648 ≤ RowKit.intOf (V0 i) ∧ RowKit.intOf (V0 i) ≤ 2147483647) ∧ (-2147483648 ≤ RowKit.intOf (V1 i) ∧ RowKit.intOf (V1 i) ≤ 2147483647) := by
      intro i him
      obtain ⟨h0, h1, t0, t1⟩ := hi i him
      obtain ⟨z0, e0, _, w0⟩ := DataW.trod_int Tryd.underlying21 t0
      obtain ⟨z1, e1, _, w1⟩ := DataW.trod_int Tryd.underlying21 t1
      have e0 : V0 i = .int .i32 z0 := by simpa using e0
      have e1 : V1 i = .int .i32 z1 := by simpa using e1
      rw [e0] at h0 ⊢
      rw [e1] at h1 ⊢
      exact ⟨h0, h1, by simpa [RowKit.intOf, Lit.wf, IntKind.min, IntKind.max, IntKind.signed, IntKind.bits] using w0, by simpa [RowKit.intOf, Lit.wf, IntKind.min, IntKind.max, IntKind.signed, IntKind.bits] using w1⟩
    have hll : ((List.range len).map fun i => (RowKit.intOf (V0 i), RowKit.intOf (V1 i))).length = len := by simp
    refine ⟨(List.range len).map fun i => (RowKit.intOf (V0 i), RowKit.intOf (V1 i)), ⟨some a, cap, by rw [hll], .inr ⟨a, rfl, fun i x hx => ?_⟩⟩, fun x hx => ?_, by rw [hll]; unfold maxLen at hm; omega, hll⟩
    · have hil : i < len := by have := (List.getElem?_eq_some_iff.1 hx).1; rw [hll] at this; exact this
      simp [hil] at hx
      subst hx
      exact ⟨(each i (by omega)).1, (each i (by omega)).2.1⟩
    · obtain ⟨i, hi2, rfl⟩ := List.mem_map.1 hx
      exact (each i (by have := List.mem_range.1 hi2; omega)).2.2
end Go.Proofs.YtmcmdijfdhlnaaaDoor
