/- The document's Join, Both, Less, Not. -/
import Derived.Test.YtjbkpcdpdifpnaaGreatDoorYa
namespace Go.Proofs.YtjbkpcdpdifpnaaGreatDoor
open Go Go.RowKit Go.Kt Go.Kt.Rg

theorem slr_set {V : World} {v u : Value} {l : List Run} {g : Nat} {ao : Option Addr} {n c : Nat} (h : SlR V v l) (hg : V.cell? ⟨g, 0, none⟩ = some (.slice ao n c)) : SlR (V.setCell ⟨g, 0, none⟩ u) v l := by
  obtain ⟨ax, cap, rfl, h⟩ := h
  rcases h with h | ⟨k, rfl, h⟩
  · exact ⟨_, _, rfl, .inl h⟩
  · refine ⟨_, _, rfl, .inr ⟨k, rfl, fun i x hx => ?_⟩⟩
    have hne : k ≠ g := by
      intro e
      subst e
      obtain ⟨y, hy⟩ : ∃ y, l[0]? = some y := by
        cases l with
        | nil => simp at hx
        | cons y t => exact ⟨y, rfl⟩
      have h0 := (h 0 y hy).1
      rw [Nat.zero_mul, hg] at h0
      cases h0
    have hk : Keep (fun b => b = g) V (V.setCell ⟨g, 0, none⟩ u) := Keep.setCell (X := fun b => b = g) (Keep.refl _ _) (p := ⟨g, 0, none⟩) rfl _
    exact ⟨hk.cell (h i x hx).1 hne, hk.cell (h i x hx).2 hne⟩
set_option maxRecDepth 100000 in
theorem xjoin_any (a b : List Run) (va vb : Value) (w : World) (ha : SlR w va (a.map dnR)) (hb : SlR w vb (b.map dnR)) (hca : Canon a) (hcb : Canon b) :
    Calls Tryz.prog 32 #[.agg #[va], .agg #[vb]] w fun e w' => ∃ v, e = .returned (.agg #[v]) ∧ SlR w' v ((madeL 0 a b).map dnR) ∧ Below w.heap.size w w' := by
  obtain ⟨W3, hW3⟩ : ∃ W : World, ((w.alloc (.cells #[va] 44)).alloc (.cells #[vb] 44)).alloc (.cells #[.slice none 0 0] 44) = W := ⟨_, rfl⟩
  have hM : MW w va vb W3 := by rw [← hW3]; exact MW.start w va vb
  have CM := Lib.hid (made_loops a b va vb 0 W3 (ha.below hM.2.2.2.1) (hb.below hM.2.2.2.1) hca hcb (by decide))
  obtain ⟨aa, capa, rfl, _⟩ := slr_at ha
  obtain ⟨ab, capb, rfl, _⟩ := slr_at hb
  have HM := Lib.hid hM
  have HW := Lib.hid hW3
  have k0 := hM.ca
  have k1 := hM.cb
  clear ha hb hca hcb hM hW3
  obtain ⟨la, hla⟩ : ∃ n, a.length = n := ⟨_, rfl⟩
  obtain ⟨lb, hlb⟩ : ∃ n, b.length = n := ⟨_, rfl⟩
  rw [hla] at CM HM HW k0 ⊢
  rw [hlb] at CM HM HW k1 ⊢
  clear hla hlb
  go_enter Tryz.func32, Tryz.ntmps32
  go_wp2_with fail
  rw [HW.out]
  go_wp2_with fail
  refine CM.out.mono ?_
  rintro e V ⟨v, rfl, hv, hbV⟩
  obtain ⟨av, cv, rfl, _⟩ := slr_at hv
  have hMV := HM.out.next hbV
  have k2 : V.cell? ⟨w.heap.size + 2, 0, none⟩ = some (.slice none 0 0) := by rw [Lib.cell_of_heap hMV.2.2.1]; rfl
  have f2 : V.frozen? ⟨w.heap.size + 2, 0, none⟩ = false := Lib.frozen_of_heap hMV.2.2.1 _
  have HV := Lib.hid (And.intro hMV (slr_set (u := .slice av (madeL 0 a b).length cv) hv k2))
  obtain ⟨lv, hlv⟩ : ∃ n, (madeL 0 a b).length = n := ⟨_, rfl⟩
  rw [hlv] at HV ⊢
  clear hv hMV hlv hbV k0 k1
  go_wp2_with fail
  (try simp only [Exit.inBlock, Exit.then])
  refine bodyPost_ret (results_cell_row rfl _ _ (w.heap.size + 1 + 1) 44 #[.slice av lv cv] (0, 0) _ rfl (one_cell HV.out.1.2.2.1) Tryz.underlying44 rfl (by kernel_rfl)) rfl ?_
  exact ⟨_, rfl, HV.out.2, HV.out.1.2.2.2.1.setCell (by show w.heap.size ≤ w.heap.size + 1 + 1; omega) _⟩
set_option maxRecDepth 100000 in
theorem xboth_any (a b : List Run) (va vb : Value) (w : World) (ha : SlR w va (a.map dnR)) (hb : SlR w vb (b.map dnR)) (hca : Canon a) (hcb : Canon b) :
    Calls Tryz.prog 34 #[.agg #[va], .agg #[vb]] w fun e w' => ∃ v, e = .returned (.agg #[v]) ∧ SlR w' v ((madeL 1 a b).map dnR) ∧ Below w.heap.size w w' := by
  obtain ⟨W3, hW3⟩ : ∃ W : World, ((w.alloc (.cells #[va] 44)).alloc (.cells #[vb] 44)).alloc (.cells #[.slice none 0 0] 44) = W := ⟨_, rfl⟩
  have hM : MW w va vb W3 := by rw [← hW3]; exact MW.start w va vb
  have CM := Lib.hid (made_loops a b va vb 1 W3 (ha.below hM.2.2.2.1) (hb.below hM.2.2.2.1) hca hcb (by decide))
  obtain ⟨aa, capa, rfl, _⟩ := slr_at ha
  obtain ⟨ab, capb, rfl, _⟩ := slr_at hb
  have HM := Lib.hid hM
  have HW := Lib.hid hW3
  have k0 := hM.ca
  have k1 := hM.cb
  clear ha hb hca hcb hM hW3
  obtain ⟨la, hla⟩ : ∃ n, a.length = n := ⟨_, rfl⟩
  obtain ⟨lb, hlb⟩ : ∃ n, b.length = n := ⟨_, rfl⟩
  rw [hla] at CM HM HW k0 ⊢
  rw [hlb] at CM HM HW k1 ⊢
  clear hla hlb
  go_enter Tryz.func34, Tryz.ntmps34
  go_wp2_with fail
  rw [HW.out]
  go_wp2_with fail
  refine CM.out.mono ?_
  rintro e V ⟨v, rfl, hv, hbV⟩
  obtain ⟨av, cv, rfl, _⟩ := slr_at hv
  have hMV := HM.out.next hbV
  have k2 : V.cell? ⟨w.heap.size + 2, 0, none⟩ = some (.slice none 0 0) := by rw [Lib.cell_of_heap hMV.2.2.1]; rfl
  have f2 : V.frozen? ⟨w.heap.size + 2, 0, none⟩ = false := Lib.frozen_of_heap hMV.2.2.1 _
  have HV := Lib.hid (And.intro hMV (slr_set (u := .slice av (madeL 1 a b).length cv) hv k2))
  obtain ⟨lv, hlv⟩ : ∃ n, (madeL 1 a b).length = n := ⟨_, rfl⟩
  rw [hlv] at HV ⊢
  clear hv hMV hlv hbV k0 k1
  go_wp2_with fail
  (try simp only [Exit.inBlock, Exit.then])
  refine bodyPost_ret (results_cell_row rfl _ _ (w.heap.size + 1 + 1) 44 #[.slice av lv cv] (0, 0) _ rfl (one_cell HV.out.1.2.2.1) Tryz.underlying44 rfl (by kernel_rfl)) rfl ?_
  exact ⟨_, rfl, HV.out.2, HV.out.1.2.2.2.1.setCell (by show w.heap.size ≤ w.heap.size + 1 + 1; omega) _⟩
set_option maxRecDepth 100000 in
theorem xless_any (a b : List Run) (va vb : Value) (w : World) (ha : SlR w va (a.map dnR)) (hb : SlR w vb (b.map dnR)) (hca : Canon a) (hcb : Canon b) :
    Calls Tryz.prog 36 #[.agg #[va], .agg #[vb]] w fun e w' => ∃ v, e = .returned (.agg #[v]) ∧ SlR w' v ((madeL 2 a b).map dnR) ∧ Below w.heap.size w w' := by
  obtain ⟨W3, hW3⟩ : ∃ W : World, ((w.alloc (.cells #[va] 44)).alloc (.cells #[vb] 44)).alloc (.cells #[.slice none 0 0] 44) = W := ⟨_, rfl⟩
  have hM : MW w va vb W3 := by rw [← hW3]; exact MW.start w va vb
  have CM := Lib.hid (made_loops a b va vb 2 W3 (ha.below hM.2.2.2.1) (hb.below hM.2.2.2.1) hca hcb (by decide))
  obtain ⟨aa, capa, rfl, _⟩ := slr_at ha
  obtain ⟨ab, capb, rfl, _⟩ := slr_at hb
  have HM := Lib.hid hM
  have HW := Lib.hid hW3
  have k0 := hM.ca
  have k1 := hM.cb
  clear ha hb hca hcb hM hW3
  obtain ⟨la, hla⟩ : ∃ n, a.length = n := ⟨_, rfl⟩
  obtain ⟨lb, hlb⟩ : ∃ n, b.length = n := ⟨_, rfl⟩
  rw [hla] at CM HM HW k0 ⊢
  rw [hlb] at CM HM HW k1 ⊢
  clear hla hlb
  go_enter Tryz.func36, Tryz.ntmps36
  go_wp2_with fail
  rw [HW.out]
  go_wp2_with fail
  refine CM.out.mono ?_
  rintro e V ⟨v, rfl, hv, hbV⟩
  obtain ⟨av, cv, rfl, _⟩ := slr_at hv
  have hMV := HM.out.next hbV
  have k2 : V.cell? ⟨w.heap.size + 2, 0, none⟩ = some (.slice none 0 0) := by rw [Lib.cell_of_heap hMV.2.2.1]; rfl
  have f2 : V.frozen? ⟨w.heap.size + 2, 0, none⟩ = false := Lib.frozen_of_heap hMV.2.2.1 _
  have HV := Lib.hid (And.intro hMV (slr_set (u := .slice av (madeL 2 a b).length cv) hv k2))
  obtain ⟨lv, hlv⟩ : ∃ n, (madeL 2 a b).length = n := ⟨_, rfl⟩
  rw [hlv] at HV ⊢
  clear hv hMV hlv hbV k0 k1
  go_wp2_with fail
  (try simp only [Exit.inBlock, Exit.then])
  refine bodyPost_ret (results_cell_row rfl _ _ (w.heap.size + 1 + 1) 44 #[.slice av lv cv] (0, 0) _ rfl (one_cell HV.out.1.2.2.1) Tryz.underlying44 rfl (by kernel_rfl)) rfl ?_
  exact ⟨_, rfl, HV.out.2, HV.out.1.2.2.2.1.setCell (by show w.heap.size ≤ w.heap.size + 1 + 1; omega) _⟩
set_option maxRecDepth 100000 in
theorem xnot_any (a : List Run) (va : Value) (w : World) (ha : SlR w va (a.map dnR)) (hca : Canon a) :
    Calls Tryz.prog 38 #[.agg #[va]] w fun e w' => ∃ v, e = .returned (.agg #[v]) ∧ SlR w' v ((madeL 3 a a).map dnR) ∧ Below w.heap.size w w' := by
  obtain ⟨W3, hW3⟩ : ∃ W : World, (w.alloc (.cells #[va] 44)).alloc (.cells #[.slice none 0 0] 44) = W := ⟨_, rfl⟩
  have hB : Below w.heap.size w W3 := by rw [← hW3]; exact ((Below.refl _ _).alloc (Nat.le_refl _) _).alloc (by simp) _
  have h0 : W3.heap[w.heap.size]? = some (.cells #[va] 44 (0, 0)) := by rw [← hW3]; exact alloc_old (alloc_at rfl)
  have h1 : W3.heap[w.heap.size + 1]? = some (.cells #[.slice none 0 0] 44 (0, 0)) := by rw [← hW3]; exact alloc_at (by simp)
  have CM := Lib.hid (made_loops a a va va 3 W3 (ha.below hB) (ha.below hB) hca hca (by decide))
  obtain ⟨aa, capa, rfl, _⟩ := slr_at ha
  have HM := Lib.hid (And.intro hB h1)
  have HW := Lib.hid hW3
  have k0 := cell_one h0
  clear ha hca hB hW3 h0 h1
  obtain ⟨la, hla⟩ : ∃ n, a.length = n := ⟨_, rfl⟩
  rw [hla] at CM HW k0 ⊢
  clear hla
  go_enter Tryz.func38, Tryz.ntmps38
  go_wp2_with fail
  rw [HW.out]
  go_wp2_with fail
  refine CM.out.mono ?_
  rintro e V ⟨v, rfl, hv, hbV⟩
  obtain ⟨av, cv, rfl, _⟩ := slr_at hv
  have hb1 : Below w.heap.size w V := HM.out.1.trans (hbV.mono HM.out.1.size)
  have h1 : V.heap[w.heap.size + 1]? = some (.cells #[.slice none 0 0] 44 (0, 0)) := (hbV.block _ (Array.getElem?_eq_some_iff.1 HM.out.2).1).trans HM.out.2
  have k2 : V.cell? ⟨w.heap.size + 1, 0, none⟩ = some (.slice none 0 0) := by rw [Lib.cell_of_heap h1]; rfl
  have f2 : V.frozen? ⟨w.heap.size + 1, 0, none⟩ = false := Lib.frozen_of_heap h1 _
  have HV := Lib.hid (And.intro h1 (And.intro hb1 (slr_set (u := .slice av (madeL 3 a a).length cv) hv k2)))
  obtain ⟨lv, hlv⟩ : ∃ n, (madeL 3 a a).length = n := ⟨_, rfl⟩
  rw [hlv] at HV ⊢
  clear hv h1 hb1 hlv hbV k0
  go_wp2_with fail
  (try simp only [Exit.inBlock, Exit.then])
  refine bodyPost_ret (results_cell_row rfl _ _ (w.heap.size + 1) 44 #[.slice av lv cv] (0, 0) _ rfl (one_cell HV.out.1) Tryz.underlying44 rfl (by kernel_rfl)) rfl ?_
  exact ⟨_, rfl, HV.out.2.2, HV.out.2.1.setCell (by show w.heap.size ≤ w.heap.size + 1; omega) _⟩
end Go.Proofs.YtjbkpcdpdifpnaaGreatDoor
