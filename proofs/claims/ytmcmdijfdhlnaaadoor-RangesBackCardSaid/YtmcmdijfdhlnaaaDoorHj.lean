/- What RangesBack looks at: mathematics. -/
import Derived.Test.YtmcmdijfdhlnaaaDoorHh
import Derived.Test.YtmcmdijfdhlnaaaDoorU3
namespace Go.Proofs.YtmcmdijfdhlnaaaDoor
open Go Go.RowKit Go.Kt Go.Kt.Rg

theorem pnt_has {R : List Run} {n : Int} (h0 : 0 ≤ n) (h1 : n < allN) (h : inS R n) : hasB R (pntI n) = true := by
  unfold hasB
  rw [num_pnt h0 h1, Bool.true_and, memB_iff]
  exact h
theorem runsIn9 {R : List Run} {x : Run} (hx : x ∈ R) {n : Int} (h1 : x.1 ≤ n) (h2 : n < x.2) : inS R n := ⟨x, hx, h1, h2⟩
theorem has_lo {R : List Run} (hc : Canon R) {x : Run} (hx : x ∈ R) : hasB R (pntI x.1) = true := by
  have := canon_mem hc x hx
  exact pnt_has (by omega) (by omega) (runsIn9 hx (Int.le_refl _) this.2.1)
theorem has_hi {R : List Run} (hc : Canon R) {x : Run} (hx : x ∈ R) : hasB R (pntI (x.2 - 1)) = true := by
  have := canon_mem hc x hx
  exact pnt_has (by omega) (by omega) (runsIn9 hx (by omega) (by omega))
theorem has_pts {R : List Run} (hc : Canon R) {r : Int} (hr : r ∈ ptsL R) : hasB R r = true := by
  obtain ⟨x, hx, h⟩ := List.mem_flatMap.1 hr
  obtain ⟨i, hi, rfl⟩ := List.mem_map.1 h
  have := canon_mem hc x hx
  have := List.mem_range.1 hi
  exact pnt_has (by omega) (by omega) (runsIn9 hx (by omega) (by omega))
theorem pts_bd {R : List Run} (hc : Canon R) {r : Int} (hr : r ∈ ptsL R) : 0 ≤ r ∧ r ≤ 1114367 := by
  obtain ⟨x, hx, h⟩ := List.mem_flatMap.1 hr
  obtain ⟨i, hi, rfl⟩ := List.mem_map.1 h
  have := canon_mem hc x hx
  exact pntI_bd (by omega)
theorem pnt_mono {a b : Int} (h0 : 0 ≤ a) (h : a ≤ b) (h1 : b < 1112192) : pntI a ≤ pntI b := by
  unfold pntI
  repeat' split
  all_goals omega
theorem pnt_far {a b : Int} (h0 : 0 ≤ a) (h : a < b) (h1 : b < 1112192) : pntI a < pntI b := by
  unfold pntI
  repeat' split
  all_goals omega
theorem span_up {x : Run} (h0 : 0 ≤ x.1) (h : x.1 < x.2) (h1 : x.2 ≤ 1112192) : pntI x.1 ≤ pntI (x.2 - 1) := pnt_mono h0 (by omega) (by omega)
theorem spans_apart {x y : Run} (h0 : 0 < x.2) (h : x.2 < y.1) (h1 : y.1 < 1112192) : pntI (x.2 - 1) + 1 < pntI y.1 := by
  have a := pnt_far (a := x.2 - 1) (b := x.2) (by omega) (by omega) (by omega)
  have b := pnt_far (a := x.2) (b := y.1) (by omega) h h1
  omega
theorem spans_get {R : List Run} {i : Nat} {x : Run} (h : R[i]? = some x) : (spansL R)[i]? = some (pntI x.1, pntI (x.2 - 1)) := by
  unfold spansL
  rw [List.getElem?_map, h]; rfl
theorem spans_nums {R : List Run} (hc : Canon R) : numsR (spansL R) = R := by
  unfold numsR spansL
  rw [List.map_map]
  conv => rhs; rw [← List.map_id R]
  refine List.map_congr_left fun x hx => ?_
  have := canon_mem hc x hx
  show ((numB (pntI x.1)).1, (numB (pntI (x.2 - 1))).1 + 1) = x
  rw [num_pnt (by omega) (by omega), num_pnt (by omega) (by omega)]
  obtain ⟨a, b⟩ := x
  simp
theorem spans_good {R : List Run} (hc : Canon R) : ∀ x ∈ spansL R, badR x = 0 := by
  intro y hy
  obtain ⟨x, hx, rfl⟩ := List.mem_map.1 hy
  have := canon_mem hc x hx
  unfold badR spanP
  rw [num_pnt (by omega) (by omega), num_pnt (by omega) (by omega)]
  simp only
  rw [if_neg (by simp), if_neg (by omega)]
theorem spans_run {R : List Run} (hc : Canon R) : ∀ x ∈ spansL R, (-2147483648 ≤ x.1 ∧ x.1 ≤ 2147483647) ∧ (-2147483648 ≤ x.2 ∧ x.2 ≤ 2147483647) := by
  intro y hy
  obtain ⟨x, hx, rfl⟩ := List.mem_map.1 hy
  have := canon_mem hc x hx
  have a := pntI_bd (n := x.1) (by omega)
  have b := pntI_bd (n := x.2 - 1) (by omega)
  unfold spanP
  simp only
  omega
end Go.Proofs.YtmcmdijfdhlnaaaDoor
