/- props: all lines' properties: the walk. WRITTEN by wip/tools/gen_uo.py. -/
import Derived.Test.YtcfhblbmpbfoaaaGreatDoorUqx
import Derived.Test.YtcfhblbmpbfoaaaGreatDoorUrx
import Derived.Test.YtcfhblbmpbfoaaaGreatDoorGv17
import Derived.Test.YtcfhblbmpbfoaaaGreatDoorGv11
import Derived.Test.YtcfhblbmpbfoaaaGreatDoorGv12
import Derived.RegionTactic
namespace Go.Proofs.YtcfhblbmpbfoaaaGreatDoor
open Go Go.RowKit Go.Kt Go.Kt.Rg Go.Maps

theorem slw_alloc (X : World) (l : List (Nat × Nat × Int)) (n : Nat) (hn : l.length = n) : SlW (X.alloc (.cells (rwE l).toArray 160)) (.slice (some ⟨X.heap.size, 0, none⟩) n n) l := by
  subst hn
  refine ⟨_, _, rfl, .inr ⟨X.heap.size, rfl, fun i r hr => ?_⟩⟩
  have hx := World.alloc_heap_new X (.cells (rwE l).toArray 160)
  obtain ⟨e1, e2, e3⟩ := rwE_get l i r hr
  refine ⟨?_, ?_, ?_⟩ <;> rw [Lib.cell_of_heap hx]
  · simpa using e1
  · simpa using e2
  · simpa using e3
theorem build3 {l1 l2 l3 : List (Nat × Nat × Int)} (X : World) (v1 v2 v3 : Value) (h1 : SlW X v1 l1) (h2 : SlW X v2 l2) (h3 : SlW X v3 l3) :
    ∃ W, (Instr.buildSlice 204 3 #[(0, v1), (1, v2), (2, v3)]).run Tryz.prog X = .ok (.slice (some ⟨X.heap.size, 0, none⟩) 3 3) W ∧ Below X.heap.size X W ∧ W.cell? ⟨X.heap.size, 0, none⟩ = some v1 ∧ W.cell? ⟨X.heap.size, 1, none⟩ = some v2 ∧ W.cell? ⟨X.heap.size, 2, none⟩ = some v3 := by
  obtain ⟨a1, n1, rfl, _⟩ := h1
  obtain ⟨a2, n2, rfl, _⟩ := h2
  obtain ⟨a3, n3, rfl, _⟩ := h3
  generalize l1.length = m1
  generalize l2.length = m2
  generalize l3.length = m3
  have hx := World.alloc_heap_new X (.cells #[.slice a1 m1 n1, .slice a2 m2 n2, .slice a3 m3 n3] 88)
  refine ⟨X.alloc (.cells #[.slice a1 m1 n1, .slice a2 m2 n2, .slice a3 m3 n3] 88), by go_simp, (Below.refl _ _).alloc (Nat.le_refl _) _, ?_, ?_, ?_⟩ <;> rw [Lib.cell_of_heap hx] <;> rfl
theorem runok_all {rows : List Rw3} (L : List (Nat × Int)) (V : Int → Int) (hr : ∀ r : Nat, runVal L r = (lastV rows r).getD 0) (hV : V = fun r => if r < 0 then 0 else (lastV rows r.toNat).getD 0 := by rfl) : ∀ r : Int, runVal L r = V r := by
  intro r
  subst hV
  by_cases h : r < 0
  · simp only [if_pos h]; exact runVal_neg L r h
  · simp only [if_neg h]
    rw [← hr, Int.toNat_of_nonneg (by omega)]
theorem RunV.store {X Y : World} {v : Value} {L : List (Nat × Int)} {gp : Nat} (h : RunV X v L) (hg : ∀ x : Int, X.cell? ⟨gp, 0, none⟩ ≠ some (.int .i32 x)) (hk : Keep (fun b => b = gp) X Y) : RunV Y v L := by
  obtain ⟨ao, cp, rfl, h⟩ := h
  refine ⟨ao, cp, rfl, ?_⟩
  rcases h with h | ⟨g, e, h⟩
  · exact .inl h
  · refine .inr ⟨g, e, fun i r hr => ?_⟩
    have hne : ¬ g = gp := fun e => by
      have hi := (List.getElem?_eq_some_iff.1 hr).1
      have h0 := (h 0 _ (List.getElem?_eq_getElem (show 0 < L.length by omega))).1
      rw [e, Nat.zero_mul] at h0
      exact hg _ h0
    exact ⟨hk.cell (h i r hr).1 hne, hk.cell (h i r hr).2 hne⟩
theorem cell0_slice {X : World} {gp : Nat} {a : Option Addr} {n c : Nat} {v1 v2 v3 v4 : Value} {T : TypeId} (h : X.heap[gp]? = some (.cells #[.slice a n c, v1, v2, v3, v4] T (0, 0))) : ∀ x : Int, X.cell? ⟨gp, 0, none⟩ ≠ some (.int .i32 x) := fun x e => by
  rw [Lib.cell_of_heap h] at e
  simp at e
theorem cell0_slice2 {X : World} {gp : Nat} {v v1 v2 v3 v4 : Value} {T : TypeId} (hv : ∃ a n c, v = .slice a n c) (h : X.heap[gp]? = some (.cells #[v, v1, v2, v3, v4] T (0, 0))) : ∀ x : Int, X.cell? ⟨gp, 0, none⟩ ≠ some (.int .i32 x) := fun x e => by
  obtain ⟨a, n, c, rfl⟩ := hv
  rw [Lib.cell_of_heap h] at e
  simp at e
theorem RunV.shape {X : World} {v : Value} {L : List (Nat × Int)} (h : RunV X v L) : ∃ a n c, v = .slice a n c := by
  obtain ⟨ao, cp, rfl, _⟩ := h
  exact ⟨_, _, _, rfl⟩
theorem MdM.cell {b n : Nat} {md : MdT} {w : World} (h : MdM b n md w) : ∀ x : Int, w.cell? ⟨b, 0, none⟩ ≠ some (.int .i32 x) := fun x e => by
  obtain ⟨f, ⟨D, ⟨es, clock, h1, _⟩, _⟩, _⟩ := h
  simp [World.cell?, h1] at e
theorem mdOf_snoc (S : RdS) {L : List Nat} {i x : Nat} (h : L[i]? = some x) : mdOf S (L.take (i + 1)) = mdStep S (mdOf S (L.take i)) x := by
  rw [List.take_add_one, h]
  unfold mdOf
  rw [List.foldl_append]
  rfl
theorem pt_two {ρ : Nat → Nat} {v : Value} {a b : Nat} {w : World} (h : PtV ρ v [a, b] w) : ∃ g off cap, v = .slice (some ⟨g, off, none⟩) 2 cap ∧ 2 ≤ cap ∧ w.cell? ⟨g, off, none⟩ = some (.int .i32 (a : Nat)) ∧ w.cell? ⟨g, off + 1, none⟩ = some (.int .i32 (b : Nat)) := by
  obtain ⟨g, off, cap, rfl, h1, _, _, _, hc⟩ := h
  exact ⟨g, off, cap, rfl, h1, hc 0 a rfl, hc 1 b rfl⟩

set_option maxRecDepth 100000 in
set_option maxHeartbeats 4000000 in
theorem pprops {B0 : Nat} {ρ : Nat → Nat} {R : RdB} {line n m k : Nat} {S : RdS} {cv kv : Value} (w : World) (hR : RdW B0 ρ R line n m S cv kv w) (hok : RdOk k S) (hk : k ≤ 65536) (hn : n ≤ 1000000) :
    Calls Tryz.prog 59 #[.pointer (some ⟨R.g, 0, none⟩)] w fun e w' => ∃ g L, e = .returned (.pointer (some ⟨g, 0, none⟩)) ∧ L.Pairwise (· < ·) ∧ (∀ x, x ∈ L ↔ (S.ds x).isSome = true) ∧ PrW g S (mdOf S L) w' ∧ Below w.heap.size w w' := by
  obtain ⟨ρ, hro, hR⟩ : ∃ ρ' : Nat → Nat, (∀ b, w.heap.size ≤ b → ρ' b = 9) ∧ RdW B0 ρ' R line n m S cv kv w := ⟨moreR w ρ 9, fun b hb => moreR_new b hb, hR.role_more 9⟩
  have HRO9 := Lib.hid hro
  clear hro
  have c4 : w.cell? ⟨R.g, 4, none⟩ = some (.map (some R.bd)) := by rw [Lib.cell_of_heap hR.cell]; rfl
  have c5 : w.cell? ⟨R.g, 5, none⟩ = some (.map (some R.bf)) := by rw [Lib.cell_of_heap hR.cell]; rfl
  have hm1 : ∀ W : World, (Instr.makeMap 121 none).run Tryz.prog W = .ok (.map (some W.heap.size)) (W.alloc (.map #[] 0)) := fun W => run_makeMap _ _
  have d4 : (w.alloc (.map #[] 0)).cell? ⟨R.g, 4, none⟩ = some (.map (some R.bd)) := (((Below.refl w.heap.size w).alloc (Nat.le_refl _) _).cell hR.gl).trans c4
  have d5 : (w.alloc (.map #[] 0)).cell? ⟨R.g, 5, none⟩ = some (.map (some R.bf)) := (((Below.refl w.heap.size w).alloc (Nat.le_refl _) _).cell hR.gl).trans c5
  have HR := Lib.hid hR
  have HRO := Lib.hid (show S.cs.length ≤ 65536 ∧ S.ks.length ≤ 65536 ∧ True from ⟨Nat.le_trans hok.cs.1 hk, Nat.le_trans hok.ks.1 hk, trivial⟩)
  have RWc : Hid ((S.cs ++ hanR ++ noR).length ≤ 1000000 ∧ ∀ r ∈ S.cs ++ hanR ++ noR, r.1 ≤ r.2.1 ∧ r.2.1 ≤ 1114111) := Lib.hid ⟨by have := HRO.out.1; simp [hanR, noR]; omega, fun r hr => by
    simp only [List.mem_append] at hr
    rcases hr with (hr | hr) | hr
    · exact hok.cs.2 r hr
    · revert r; decide
    · revert r; decide⟩
  have RWk : Hid ((sylR ++ S.ks ++ noR).length ≤ 1000000 ∧ ∀ r ∈ sylR ++ S.ks ++ noR, r.1 ≤ r.2.1 ∧ r.2.1 ≤ 1114111) := Lib.hid ⟨by have := HRO.out.2.1; simp [sylR, noR]; omega, fun r hr => by
    simp only [List.mem_append] at hr
    rcases hr with (hr | hr) | hr
    · revert r; decide
    · exact hok.ks.2 r hr
    · revert r; decide⟩
  have HOK0 := Lib.hid (And.intro hok (And.intro hk hn))
  clear hR hok hk hn
  go_enter Tryz.func59, Tryz.ntmps59
  go_wp2
  go_region
  clear c4 c5 d4 d5 hm1
  obtain ⟨bm, hbm⟩ : ∃ bm, w.heap.size = bm := ⟨_, rfl⟩
  obtain ⟨gp, hgp⟩ : ∃ gp, w.heap.size + 1 = gp := ⟨_, rfl⟩
  rw [hgp, hbm]
  obtain ⟨W1, hW1⟩ : ∃ W1, ((w.alloc (.map #[] 0)).alloc (.cells #[.slice none 0 0, .slice none 0 0, .map (some R.bd), .map (some R.bf), .map (some bm)] 123)).drew = W1 := ⟨_, rfl⟩
  rw [hW1]
  have hz1 : W1.heap.size = bm + 2 := by rw [← hW1]; show ((w.alloc (.map #[] 0)).alloc _).heap.size = _; rw [World.size_alloc, World.size_alloc, hbm]
  have hg1 : W1.heap[gp]? = some (.cells #[.slice none 0 0, .slice none 0 0, .map (some R.bd), .map (some R.bf), .map (some bm)] 123 (0, 0)) := by
    rw [← hW1, ← hgp, ← World.size_alloc w (.map #[] 0)]
    exact World.alloc_heap_new _ _
  have hb1 : Below bm w W1 := by rw [← hW1]; exact below_drewN (((Below.refl _ w).alloc (by omega) _).alloc (by rw [World.size_alloc]; omega) _) 1
  have hmd1 : MdM bm 0 (fun _ _ => none) W1 := by
    refine ⟨fun _ => none, ?_, fun _ _ _ _ => rfl⟩
    have h9 := MapG.made w Tryz.prog 163
    rw [hbm] at h9
    rw [← hW1]
    exact h9.keep ((Keep.refl (fun _ => False) _).alloc _ |>.drew) (fun h => h)
  have hgpz : gp < W1.heap.size := by omega
  have HG1 := Lib.hid hg1
  have HMD1 := Lib.hid (And.intro hmd1 (And.intro hz1 (And.intro hb1 (And.intro hbm hgp))))
  have hRgl := HR.out.gl
  have FAc : Hid (∀ X : World, (Instr.fieldAt 92 (.pointer (some ⟨R.g, 0, none⟩)) 2).run Tryz.prog X = .ok (.pointer (some ⟨R.g, 2, none⟩)) X) := Lib.hid fun X => by go_simp
  have FAk : Hid (∀ X : World, (Instr.fieldAt 92 (.pointer (some ⟨R.g, 0, none⟩)) 3).run Tryz.prog X = .ok (.pointer (some ⟨R.g, 3, none⟩)) X) := Lib.hid fun X => by go_simp
  have FGc : Hid (∀ X : World, (Instr.fieldAt 123 (.pointer (some ⟨gp, 0, none⟩)) 0).run Tryz.prog X = .ok (.pointer (some ⟨gp, 0, none⟩)) X) := Lib.hid fun X => by go_simp
  have FGk : Hid (∀ X : World, (Instr.fieldAt 123 (.pointer (some ⟨gp, 0, none⟩)) 1).run Tryz.prog X = .ok (.pointer (some ⟨gp, 1, none⟩)) X) := Lib.hid fun X => by go_simp
  have LDc : Hid (∀ X : World, Below W1.heap.size W1 X → (Instr.loadAt 88 (.pointer (some ⟨R.g, 2, none⟩))).run Tryz.prog X = .ok cv X) := Lib.hid fun X hb => by
    have c : X.cell? ⟨R.g, 2, none⟩ = some cv := ((hb1.trans (hb.mono (by omega))).cell (by show R.g < bm; omega)).trans (by rw [Lib.cell_of_heap HR.out.cell]; rfl)
    go_simp
  have OWNc : Hid (∀ X : World, Below W1.heap.size W1 X → SlW X cv S.cs) := Lib.hid fun X hb => (own_slw HR.out.c).below (by rw [hbm]; exact hb1.trans (hb.mono (by omega)))
  have STc : Hid (∀ (X : World) (v9 : Value) (L : List (Nat × Int)), X.heap[gp]? = some (.cells #[.slice none 0 0, .slice none 0 0, .map (some R.bd), .map (some R.bf), .map (some bm)] 123 (0, 0)) → RunV X v9 L →
      (Instr.storeAt 120 (.pointer (some ⟨gp, 0, none⟩)) v9).run Tryz.prog X = .ok () (X.setCell ⟨gp, 0, none⟩ v9) ∧ Keep (fun b => b = gp) X (X.setCell ⟨gp, 0, none⟩ v9) ∧ (X.setCell ⟨gp, 0, none⟩ v9).heap[gp]? = some (.cells #[v9, .slice none 0 0, .map (some R.bd), .map (some R.bf), .map (some bm)] 123 (0, 0))) := Lib.hid fun X v9 L h hV => by
    obtain ⟨a, n9, c, rfl⟩ := hV.shape
    have q : X.cell? ⟨gp, 0, none⟩ = some (.slice none 0 0) := by rw [Lib.cell_of_heap h]; rfl
    have q2 : X.frozen? ⟨gp, 0, none⟩ = false := Lib.frozen_of_heap h _
    refine ⟨by go_simp, Keep.setCell (X := fun b => b = gp) (p := ⟨gp, 0, none⟩) (Keep.refl _ _) rfl _, ?_⟩
    have := heap_setCell_same X gp 0 _ _ (.slice a n9 c) h
    simpa using this
  clear hW1 hg1 hmd1 hb1 hbm
  go_wp2_with fail
  obtain ⟨FF, hFF⟩ : ∃ FF : StoB, FF = ⟨W1, W1.heap.size, gp, 12, fun i v W => match i with | 0 => v = .pointer (some ⟨gp, 0, none⟩) | 1 => v = .pointer (some ⟨R.g, 0, none⟩) | 2 => v = .pointer (some ⟨R.g, 0, none⟩) | 3 => v = .pointer (some ⟨R.g, 2, none⟩) | 4 => v = cv | 5 => SlW W v hanR | 6 => SlW W v noR | 7 => ∃ h u1 u2 u3, v = .slice (some ⟨h, 0, none⟩) 3 3 ∧ W.cell? ⟨h, 0, none⟩ = some u1 ∧ W.cell? ⟨h, 1, none⟩ = some u2 ∧ W.cell? ⟨h, 2, none⟩ = some u3 ∧ SlW W u1 S.cs ∧ SlW W u2 hanR ∧ SlW W u3 noR | 8 => OwnS (fun _ => True) 160 3 v (S.cs ++ hanR ++ noR).length (rwE (S.cs ++ hanR ++ noR)) W | 9 => ∃ L, RunV W v L ∧ RunOk L (clsV S) | 10 => v = .pointer (some ⟨gp, 0, none⟩) | 11 => v = .pointer (some ⟨gp, 0, none⟩) | _ => True, fun W => ∃ v1 L, RunV W v1 L ∧ RunOk L (clsV S) ∧ W.heap[gp]? = some (.cells #[v1, .slice none 0 0, .map (some R.bd), .map (some R.bf), .map (some bm)] 123 (0, 0)) ∧ Keep (fun b => b = gp) W1 W⟩ := ⟨_, rfl⟩
  have HOK : StoB.Ok FF := by
    rw [hFF]
    refine ⟨rfl, by show gp < W1.heap.size; omega, fun i v A B hb => ?_⟩
    match i with
    | 0 => exact fun h => h
    | 1 => exact fun h => h
    | 2 => exact fun h => h
    | 3 => exact fun h => h
    | 4 => exact fun h => h
    | 5 => exact fun h => h.below hb
    | 6 => exact fun h => h.below hb
    | 7 => exact fun ⟨h, u1, u2, u3, e, c0, c1, c2, s0, s1, s2⟩ => ⟨h, u1, u2, u3, e, (hb.cell (lt_of_cell c0)).trans c0, (hb.cell (lt_of_cell c1)).trans c1, (hb.cell (lt_of_cell c2)).trans c2, s0.below hb, s1.below hb, s2.below hb⟩
    | 8 => exact fun h => h.keep (X := fun _ => False) (Keep.of_all hb) (fun _ h => h.elim)
    | 9 => exact fun ⟨L, h1, h2⟩ => ⟨L, h1.below hb, h2⟩
    | 10 => exact fun h => h
    | 11 => exact fun h => h
    | _ + 12 => exact fun _ => trivial
  have H0 : Below FF.H FF.w W1.drew := by rw [hFF]; exact below_drewN (Below.refl _ _) 1
  refine wp_region_stob FF (by kernel_rfl) (by kernel_rfl) (by kernel_rfl) HOK (by rw [hFF]; kernel_rfl) (by rw [hFF]; show (12 : Nat) < 13; decide) H0 ?hsc ?hdc
  case hsc =>
    refine BSteps.cons ?_ (BSteps.cons ?_ (BSteps.cons ?_ (BSteps.cons ?_ (BSteps.cons ?_ (BSteps.cons ?_ (BSteps.cons ?_ (BSteps.cons ?_ (BSteps.cons ?_ (BSteps.cons ?_ (BSteps.cons ?_ (BSteps.cons ?_ (BSteps.cons ?_ (BSteps.nil)))))))))))))
    · intro a X9 hXB hL hd
      rw [hFF] at hXB
      refine ⟨rfl, ?_⟩
      have e0 : a.eval (.tmp 3) = .pointer (some ⟨gp, 0, none⟩) := hL.far 3 (by kernel_rfl)
      exact wp_value (exec_move rfl e0) ⟨_, rfl, .inl ⟨by rw [hFF]; show (0 : Nat) ≠ 12; decide, Below.refl _ _, by rw [hFF]; exact rfl⟩⟩
    · intro a X9 hXB hL hd
      rw [hFF] at hXB
      refine ⟨rfl, ?_⟩
      have e0 : a.eval (.tmp 0) = .pointer (some ⟨R.g, 0, none⟩) := hL.far 0 (by kernel_rfl)
      exact wp_value (exec_move rfl e0) ⟨_, rfl, .inl ⟨by rw [hFF]; show (1 : Nat) ≠ 12; decide, Below.refl _ _, by rw [hFF]; exact rfl⟩⟩
    · intro a X9 hXB hL hd
      have q0 := hd 1 21 (by rw [hFF]; show (1 : Nat) ≠ 12; decide) (by kernel_rfl) (by kernel_rfl)
      rw [hFF] at hXB q0
      refine ⟨rfl, ?_⟩
      have e0 : a.eval (.tmp 21) = .pointer (some ⟨R.g, 0, none⟩) := q0
      exact wp_value (exec_nilCheck rfl e0) ⟨_, rfl, .inl ⟨by rw [hFF]; show (2 : Nat) ≠ 12; decide, Below.refl _ _, by rw [hFF]; exact rfl⟩⟩
    · intro a X9 hXB hL hd
      have q0 := hd 2 22 (by rw [hFF]; show (2 : Nat) ≠ 12; decide) (by kernel_rfl) (by kernel_rfl)
      rw [hFF] at hXB q0
      refine ⟨rfl, ?_⟩
      have e0 : a.eval (.tmp 22) = .pointer (some ⟨R.g, 0, none⟩) := q0
      exact wp_value (exec_fieldAddr rfl e0 (FAc.out X9)) ⟨_, rfl, .inl ⟨by rw [hFF]; show (3 : Nat) ≠ 12; decide, Below.refl _ _, by rw [hFF]; exact rfl⟩⟩
    · intro a X9 hXB hL hd
      have q0 := hd 3 23 (by rw [hFF]; show (3 : Nat) ≠ 12; decide) (by kernel_rfl) (by kernel_rfl)
      rw [hFF] at hXB q0
      refine ⟨rfl, ?_⟩
      have e0 : a.eval (.tmp 23) = .pointer (some ⟨R.g, 2, none⟩) := q0
      exact wp_value (exec_load rfl e0 (LDc.out X9 hXB)) ⟨_, rfl, .inl ⟨by rw [hFF]; show (4 : Nat) ≠ 12; decide, Below.refl _ _, by rw [hFF]; exact rfl⟩⟩
    · intro a X9 hXB hL hd
      rw [hFF] at hXB
      refine ⟨rfl, ?_⟩
      refine wp_enter (exec_call (vs := #[]) rfl (by simp only [List.map_toArray, List.map_nil]) Tryz.func107 rfl rfl) ?_
      refine (phanR X9).mono ?_
      rintro e w' ⟨rfl, hw'⟩
      exact ⟨_, rfl, _, rfl, .inl ⟨by rw [hFF]; show (5 : Nat) ≠ 12; decide, (by rw [← hw']; exact (Below.refl _ _).alloc (Nat.le_refl _) _), by rw [hFF]; exact (by rw [← hw']; exact slw_alloc X9 hanR 4 rfl)⟩⟩
    · intro a X9 hXB hL hd
      rw [hFF] at hXB
      refine ⟨rfl, ?_⟩
      refine wp_enter (exec_call (vs := #[]) rfl (by simp only [List.map_toArray, List.map_nil]) Tryz.func108 rfl rfl) ?_
      refine (pnoR X9).mono ?_
      rintro e w' ⟨rfl, hw'⟩
      exact ⟨_, rfl, _, rfl, .inl ⟨by rw [hFF]; show (6 : Nat) ≠ 12; decide, (by rw [← hw']; exact (Below.refl _ _).alloc (Nat.le_refl _) _), by rw [hFF]; exact (by rw [← hw']; exact slw_alloc X9 noR 1 rfl)⟩⟩
    · intro a X9 hXB hL hd
      have q0 := hd 4 24 (by rw [hFF]; show (4 : Nat) ≠ 12; decide) (by kernel_rfl) (by kernel_rfl)
      have q1 := hd 5 25 (by rw [hFF]; show (5 : Nat) ≠ 12; decide) (by kernel_rfl) (by kernel_rfl)
      have q2 := hd 6 26 (by rw [hFF]; show (6 : Nat) ≠ 12; decide) (by kernel_rfl) (by kernel_rfl)
      rw [hFF] at hXB q0 q1 q2
      refine ⟨rfl, ?_⟩
      have s0 : SlW X9 cv S.cs := OWNc.out X9 hXB
      have p0 : a.eval (.tmp 24) = cv := q0
      have s1 : SlW X9 (a.eval (.tmp 25)) hanR := q1
      have s2 : SlW X9 (a.eval (.tmp 26)) noR := q2
      obtain ⟨v0, hv0⟩ : ∃ v0, cv = v0 := ⟨_, rfl⟩
      rw [hv0] at s0 p0
      obtain ⟨v1, hv1⟩ : ∃ v1, a.eval (.tmp 25) = v1 := ⟨_, rfl⟩
      rw [hv1] at s1
      obtain ⟨v2, hv2⟩ : ∃ v2, a.eval (.tmp 26) = v2 := ⟨_, rfl⟩
      rw [hv2] at s2
      obtain ⟨W', hr, hb, c0, c1, c2⟩ := build3 X9 v0 v1 v2 s0 s1 s2
      refine wp_value (exec_buildSlice rfl (ps := #[(0, v0), (1, v1), (2, v2)]) (by simp only [List.map_toArray, List.map_cons, List.map_nil, p0, hv1, hv2]) hr) ?_
      exact ⟨_, rfl, .inl ⟨by rw [hFF]; show (7 : Nat) ≠ 12; decide, hb, by rw [hFF]; exact ⟨_, v0, v1, v2, rfl, c0, c1, c2, s0.below hb, s1.below hb, s2.below hb⟩⟩⟩
    · intro a X9 hXB hL hd
      have q0 := hd 7 27 (by rw [hFF]; show (7 : Nat) ≠ 12; decide) (by kernel_rfl) (by kernel_rfl)
      rw [hFF] at hXB q0
      refine ⟨rfl, ?_⟩
      obtain ⟨h9, u1, u2, u3, e9, c0, c1, c2, s0, s1, s2⟩ := q0
      have e0 : a.eval (.tmp 27) = .slice (some ⟨h9, 0, none⟩) 3 3 := e9
      refine wp_enter (exec_call (vs := #[.slice (some ⟨h9, 0, none⟩) 3 3]) rfl (by simp only [List.map_toArray, List.map_cons, List.map_nil, e0]) Tryz.func106 rfl rfl) ?_
      refine (pconcat_any _ _ _ u1 u2 u3 h9 X9 c0 c1 c2 s0 s1 s2 (by have := HRO.out.1; omega) (by decide) (by decide)).mono ?_
      rintro e w' ⟨v9, rfl, ho, hb⟩
      exact ⟨_, rfl, _, rfl, .inl ⟨by rw [hFF]; show (8 : Nat) ≠ 12; decide, hb, by rw [hFF]; exact ho.weaken (fun _ _ => trivial)⟩⟩
    · intro a X9 hXB hL hd
      have q0 := hd 8 28 (by rw [hFF]; show (8 : Nat) ≠ 12; decide) (by kernel_rfl) (by kernel_rfl)
      rw [hFF] at hXB q0
      refine ⟨rfl, ?_⟩
      have hne : S.cs ++ hanR ++ noR ≠ [] := by simp [noR]
      have q1 : OwnS (fun _ => True) 160 3 (a.eval (.tmp 28)) (S.cs ++ hanR ++ noR).length (rwE (S.cs ++ hanR ++ noR)) X9 := q0
      obtain ⟨v9, hv9⟩ : ∃ v9, a.eval (.tmp 28) = v9 := ⟨_, rfl⟩
      rw [hv9] at q1
      refine wp_enter (exec_call (vs := #[v9]) rfl (by simp only [List.map_toArray, List.map_cons, List.map_nil, hv9]) Tryz.func105 rfl rfl) ?_
      refine (prunsOf (S.cs ++ hanR ++ noR) v9 X9 (SlW.rows q1 hne) hne RWc.out.1 RWc.out.2).mono ?_
      rintro e w' ⟨v8, L, rfl, hV, hp, hl, hr, hb⟩
      exact ⟨_, rfl, _, rfl, .inl ⟨by rw [hFF]; show (9 : Nat) ≠ 12; decide, hb, by rw [hFF]; exact ⟨L, hV, hp, hl, runok_all L _ hr⟩⟩⟩
    · intro a X9 hXB hL hd
      have q0 := hd 0 20 (by rw [hFF]; show (0 : Nat) ≠ 12; decide) (by kernel_rfl) (by kernel_rfl)
      rw [hFF] at hXB q0
      refine ⟨rfl, ?_⟩
      have e0 : a.eval (.tmp 20) = .pointer (some ⟨gp, 0, none⟩) := q0
      exact wp_value (exec_nilCheck rfl e0) ⟨_, rfl, .inl ⟨by rw [hFF]; show (10 : Nat) ≠ 12; decide, Below.refl _ _, by rw [hFF]; exact rfl⟩⟩
    · intro a X9 hXB hL hd
      have q0 := hd 10 30 (by rw [hFF]; show (10 : Nat) ≠ 12; decide) (by kernel_rfl) (by kernel_rfl)
      rw [hFF] at hXB q0
      refine ⟨rfl, ?_⟩
      have e0 : a.eval (.tmp 30) = .pointer (some ⟨gp, 0, none⟩) := q0
      exact wp_value (exec_fieldAddr rfl e0 (FGc.out X9)) ⟨_, rfl, .inl ⟨by rw [hFF]; show (11 : Nat) ≠ 12; decide, Below.refl _ _, by rw [hFF]; exact rfl⟩⟩
    · intro a X9 hXB hL hd
      have q0 := hd 9 29 (by rw [hFF]; show (9 : Nat) ≠ 12; decide) (by kernel_rfl) (by kernel_rfl)
      have q1 := hd 11 31 (by rw [hFF]; show (11 : Nat) ≠ 12; decide) (by kernel_rfl) (by kernel_rfl)
      rw [hFF] at hXB q0 q1
      refine ⟨rfl, ?_⟩
      obtain ⟨L, hV, hRO⟩ := q0
      have e0 : a.eval (.tmp 31) = .pointer (some ⟨gp, 0, none⟩) := q1
      have hV : RunV X9 (a.eval (.tmp 29)) L := hV
      obtain ⟨v9, hv9⟩ : ∃ v9, a.eval (.tmp 29) = v9 := ⟨_, rfl⟩
      rw [hv9] at hV
      have hgX : X9.heap[gp]? = _ := (hXB.block gp (by show gp < W1.heap.size; omega)).trans HG1.out
      have hgi := cell0_slice hgX
      obtain ⟨hr9, hk9, hx9⟩ := STc.out X9 v9 L hgX hV
      refine wp_skipped (exec_store rfl e0 hv9 hr9) ⟨undef, rfl, ?_⟩
      exact .inr ⟨by subst hFF; rfl, by rw [hFF]; exact hk9, by rw [hFF]; exact ⟨v9, L, hV.store hgi hk9, hRO, hx9, (Keep.of_all hXB).trans hk9⟩⟩
  intro a X9 hL hfin
  rw [hFF] at hfin
  obtain ⟨f, ha, hf⟩ := hL.out [20, 21, 22, 23, 24, 25, 26, 27, 28, 29, 30, 31] rfl
  clear hf hL H0 HOK hFF
  simp only [List.foldl_cons, List.foldl_nil, List.setIfInBounds_toArray, List.set_cons_zero, List.set_cons_succ] at ha
  subst ha
  obtain ⟨v1, cL, hc1, hc2, hc3, hc4⟩ := hfin
  obtain ⟨W2, hW2⟩ : ∃ W2, X9 = W2 := ⟨_, rfl⟩
  rw [hW2] at hc1 hc3 hc4 ⊢
  have hs2 := hc4.size
  have hgpz2 : gp < W2.heap.size := by omega
  have HV1 := Lib.hid hc1.shape
  have HG2 := Lib.hid hc3
  have HC2 := Lib.hid (And.intro hc1 (And.intro hc2 hc4))
  have LDk : Hid (∀ X : World, Below W2.heap.size W2 X → (Instr.loadAt 88 (.pointer (some ⟨R.g, 3, none⟩))).run Tryz.prog X = .ok kv X) := Lib.hid fun X hb => by
    have c : X.cell? ⟨R.g, 3, none⟩ = some kv := (hb.cell (by show R.g < W2.heap.size; have := HMD1.out.2.2.2.1; have := HMD1.out.2.1; omega)).trans (hc4.cell ((HMD1.out.2.2.1.cell (by show R.g < bm; have := HMD1.out.2.2.2.1; omega)).trans (by rw [Lib.cell_of_heap HR.out.cell]; rfl)) (by show ¬ R.g = gp; have := HMD1.out.2.2.2.1; have := HMD1.out.2.2.2.2; omega))
    go_simp
  have OWNk : Hid (∀ X : World, Below W2.heap.size W2 X → SlW X kv S.ks) := Lib.hid fun X hb => by
    have h1 := HR.out.k.keep (X := fun _ => False) (Keep.of_all (by rw [HMD1.out.2.2.2.1]; exact HMD1.out.2.2.1)) (fun _ h => h.elim)
    have h2 := h1.keepX hc4 (fun b hb hy => by
      have h9 := (HR.out.k.1.lt b hy).2
      have := HMD1.out.2.2.2.1; have := HMD1.out.2.2.2.2; omega)
    exact (own_slw h2).below hb
  have STk : Hid (∀ (X : World) (v9 : Value) (L : List (Nat × Int)), X.heap[gp]? = some (.cells #[v1, .slice none 0 0, .map (some R.bd), .map (some R.bf), .map (some bm)] 123 (0, 0)) → RunV X v9 L →
      (Instr.storeAt 120 (.pointer (some ⟨gp, 1, none⟩)) v9).run Tryz.prog X = .ok () (X.setCell ⟨gp, 1, none⟩ v9) ∧ Keep (fun b => b = gp) X (X.setCell ⟨gp, 1, none⟩ v9) ∧ (X.setCell ⟨gp, 1, none⟩ v9).heap[gp]? = some (.cells #[v1, v9, .map (some R.bd), .map (some R.bf), .map (some bm)] 123 (0, 0))) := Lib.hid fun X v9 L h hV => by
    obtain ⟨a, n9, c, rfl⟩ := hV.shape
    have q : X.cell? ⟨gp, 1, none⟩ = some (.slice none 0 0) := by rw [Lib.cell_of_heap h]; rfl
    have q2 : X.frozen? ⟨gp, 1, none⟩ = false := Lib.frozen_of_heap h _
    refine ⟨by go_simp, Keep.setCell (X := fun b => b = gp) (p := ⟨gp, 1, none⟩) (Keep.refl _ _) rfl _, ?_⟩
    have := heap_setCell_same X gp 1 _ _ (.slice a n9 c) h
    simpa using this
  clear hc1 hc2 hc3 hc4 hW2 hs2 STc LDc OWNc FAc FGc
  generalize f 20 = f20
  go_wp2_with fail
  obtain ⟨FF, hFF⟩ : ∃ FF : StoB, FF = ⟨W2, W2.heap.size, gp, 12, fun i v W => match i with | 0 => v = .pointer (some ⟨gp, 0, none⟩) | 1 => SlW W v sylR | 2 => v = .pointer (some ⟨R.g, 0, none⟩) | 3 => v = .pointer (some ⟨R.g, 0, none⟩) | 4 => v = .pointer (some ⟨R.g, 3, none⟩) | 5 => v = kv | 6 => SlW W v noR | 7 => ∃ h u1 u2 u3, v = .slice (some ⟨h, 0, none⟩) 3 3 ∧ W.cell? ⟨h, 0, none⟩ = some u1 ∧ W.cell? ⟨h, 1, none⟩ = some u2 ∧ W.cell? ⟨h, 2, none⟩ = some u3 ∧ SlW W u1 sylR ∧ SlW W u2 S.ks ∧ SlW W u3 noR | 8 => OwnS (fun _ => True) 160 3 v (sylR ++ S.ks ++ noR).length (rwE (sylR ++ S.ks ++ noR)) W | 9 => ∃ L, RunV W v L ∧ RunOk L (kndV S) | 10 => v = .pointer (some ⟨gp, 0, none⟩) | 11 => v = .pointer (some ⟨gp, 1, none⟩) | _ => True, fun W => ∃ v2 L, RunV W v2 L ∧ RunOk L (kndV S) ∧ W.heap[gp]? = some (.cells #[v1, v2, .map (some R.bd), .map (some R.bf), .map (some bm)] 123 (0, 0)) ∧ Keep (fun b => b = gp) W2 W⟩ := ⟨_, rfl⟩
  have HOK : StoB.Ok FF := by
    rw [hFF]
    refine ⟨rfl, by show gp < W2.heap.size; omega, fun i v A B hb => ?_⟩
    match i with
    | 0 => exact fun h => h
    | 1 => exact fun h => h.below hb
    | 2 => exact fun h => h
    | 3 => exact fun h => h
    | 4 => exact fun h => h
    | 5 => exact fun h => h
    | 6 => exact fun h => h.below hb
    | 7 => exact fun ⟨h, u1, u2, u3, e, c0, c1, c2, s0, s1, s2⟩ => ⟨h, u1, u2, u3, e, (hb.cell (lt_of_cell c0)).trans c0, (hb.cell (lt_of_cell c1)).trans c1, (hb.cell (lt_of_cell c2)).trans c2, s0.below hb, s1.below hb, s2.below hb⟩
    | 8 => exact fun h => h.keep (X := fun _ => False) (Keep.of_all hb) (fun _ h => h.elim)
    | 9 => exact fun ⟨L, h1, h2⟩ => ⟨L, h1.below hb, h2⟩
    | 10 => exact fun h => h
    | 11 => exact fun h => h
    | _ + 12 => exact fun _ => trivial
  have H0 : Below FF.H FF.w W2.drew := by rw [hFF]; exact below_drewN (Below.refl _ _) 1
  refine wp_region_stob FF (by kernel_rfl) (by kernel_rfl) (by kernel_rfl) HOK (by rw [hFF]; kernel_rfl) (by rw [hFF]; show (12 : Nat) < 13; decide) H0 ?hsk ?hdk
  case hsk =>
    refine BSteps.cons ?_ (BSteps.cons ?_ (BSteps.cons ?_ (BSteps.cons ?_ (BSteps.cons ?_ (BSteps.cons ?_ (BSteps.cons ?_ (BSteps.cons ?_ (BSteps.cons ?_ (BSteps.cons ?_ (BSteps.cons ?_ (BSteps.cons ?_ (BSteps.cons ?_ (BSteps.nil)))))))))))))
    · intro a X9 hXB hL hd
      rw [hFF] at hXB
      refine ⟨rfl, ?_⟩
      have e0 : a.eval (.tmp 3) = .pointer (some ⟨gp, 0, none⟩) := hL.far 3 (by kernel_rfl)
      exact wp_value (exec_move rfl e0) ⟨_, rfl, .inl ⟨by rw [hFF]; show (0 : Nat) ≠ 12; decide, Below.refl _ _, by rw [hFF]; exact rfl⟩⟩
    · intro a X9 hXB hL hd
      rw [hFF] at hXB
      refine ⟨rfl, ?_⟩
      refine wp_enter (exec_call (vs := #[]) rfl (by simp only [List.map_toArray, List.map_nil]) Tryz.func109 rfl rfl) ?_
      refine (psylR X9).mono ?_
      rintro e w' ⟨rfl, hw'⟩
      exact ⟨_, rfl, _, rfl, .inl ⟨by rw [hFF]; show (1 : Nat) ≠ 12; decide, (by rw [← hw']; exact (Below.refl _ _).alloc (Nat.le_refl _) _), by rw [hFF]; exact (by rw [← hw']; exact slw_alloc X9 sylR 1 rfl)⟩⟩
    · intro a X9 hXB hL hd
      rw [hFF] at hXB
      refine ⟨rfl, ?_⟩
      have e0 : a.eval (.tmp 0) = .pointer (some ⟨R.g, 0, none⟩) := hL.far 0 (by kernel_rfl)
      exact wp_value (exec_move rfl e0) ⟨_, rfl, .inl ⟨by rw [hFF]; show (2 : Nat) ≠ 12; decide, Below.refl _ _, by rw [hFF]; exact rfl⟩⟩
    · intro a X9 hXB hL hd
      have q0 := hd 2 34 (by rw [hFF]; show (2 : Nat) ≠ 12; decide) (by kernel_rfl) (by kernel_rfl)
      rw [hFF] at hXB q0
      refine ⟨rfl, ?_⟩
      have e0 : a.eval (.tmp 34) = .pointer (some ⟨R.g, 0, none⟩) := q0
      exact wp_value (exec_nilCheck rfl e0) ⟨_, rfl, .inl ⟨by rw [hFF]; show (3 : Nat) ≠ 12; decide, Below.refl _ _, by rw [hFF]; exact rfl⟩⟩
    · intro a X9 hXB hL hd
      have q0 := hd 3 35 (by rw [hFF]; show (3 : Nat) ≠ 12; decide) (by kernel_rfl) (by kernel_rfl)
      rw [hFF] at hXB q0
      refine ⟨rfl, ?_⟩
      have e0 : a.eval (.tmp 35) = .pointer (some ⟨R.g, 0, none⟩) := q0
      exact wp_value (exec_fieldAddr rfl e0 (FAk.out X9)) ⟨_, rfl, .inl ⟨by rw [hFF]; show (4 : Nat) ≠ 12; decide, Below.refl _ _, by rw [hFF]; exact rfl⟩⟩
    · intro a X9 hXB hL hd
      have q0 := hd 4 36 (by rw [hFF]; show (4 : Nat) ≠ 12; decide) (by kernel_rfl) (by kernel_rfl)
      rw [hFF] at hXB q0
      refine ⟨rfl, ?_⟩
      have e0 : a.eval (.tmp 36) = .pointer (some ⟨R.g, 3, none⟩) := q0
      exact wp_value (exec_load rfl e0 (LDk.out X9 hXB)) ⟨_, rfl, .inl ⟨by rw [hFF]; show (5 : Nat) ≠ 12; decide, Below.refl _ _, by rw [hFF]; exact rfl⟩⟩
    · intro a X9 hXB hL hd
      rw [hFF] at hXB
      refine ⟨rfl, ?_⟩
      refine wp_enter (exec_call (vs := #[]) rfl (by simp only [List.map_toArray, List.map_nil]) Tryz.func108 rfl rfl) ?_
      refine (pnoR X9).mono ?_
      rintro e w' ⟨rfl, hw'⟩
      exact ⟨_, rfl, _, rfl, .inl ⟨by rw [hFF]; show (6 : Nat) ≠ 12; decide, (by rw [← hw']; exact (Below.refl _ _).alloc (Nat.le_refl _) _), by rw [hFF]; exact (by rw [← hw']; exact slw_alloc X9 noR 1 rfl)⟩⟩
    · intro a X9 hXB hL hd
      have q0 := hd 1 33 (by rw [hFF]; show (1 : Nat) ≠ 12; decide) (by kernel_rfl) (by kernel_rfl)
      have q1 := hd 5 37 (by rw [hFF]; show (5 : Nat) ≠ 12; decide) (by kernel_rfl) (by kernel_rfl)
      have q2 := hd 6 38 (by rw [hFF]; show (6 : Nat) ≠ 12; decide) (by kernel_rfl) (by kernel_rfl)
      rw [hFF] at hXB q0 q1 q2
      refine ⟨rfl, ?_⟩
      have s0 : SlW X9 (a.eval (.tmp 33)) sylR := q0
      have s1 : SlW X9 kv S.ks := OWNk.out X9 hXB
      have p1 : a.eval (.tmp 37) = kv := q1
      have s2 : SlW X9 (a.eval (.tmp 38)) noR := q2
      obtain ⟨v0, hv0⟩ : ∃ v0, a.eval (.tmp 33) = v0 := ⟨_, rfl⟩
      rw [hv0] at s0
      obtain ⟨v1, hv1⟩ : ∃ v1, kv = v1 := ⟨_, rfl⟩
      rw [hv1] at s1 p1
      obtain ⟨v2, hv2⟩ : ∃ v2, a.eval (.tmp 38) = v2 := ⟨_, rfl⟩
      rw [hv2] at s2
      obtain ⟨W', hr, hb, c0, c1, c2⟩ := build3 X9 v0 v1 v2 s0 s1 s2
      refine wp_value (exec_buildSlice rfl (ps := #[(0, v0), (1, v1), (2, v2)]) (by simp only [List.map_toArray, List.map_cons, List.map_nil, hv0, p1, hv2]) hr) ?_
      exact ⟨_, rfl, .inl ⟨by rw [hFF]; show (7 : Nat) ≠ 12; decide, hb, by rw [hFF]; exact ⟨_, v0, v1, v2, rfl, c0, c1, c2, s0.below hb, s1.below hb, s2.below hb⟩⟩⟩
    · intro a X9 hXB hL hd
      have q0 := hd 7 39 (by rw [hFF]; show (7 : Nat) ≠ 12; decide) (by kernel_rfl) (by kernel_rfl)
      rw [hFF] at hXB q0
      refine ⟨rfl, ?_⟩
      obtain ⟨h9, u1, u2, u3, e9, c0, c1, c2, s0, s1, s2⟩ := q0
      have e0 : a.eval (.tmp 39) = .slice (some ⟨h9, 0, none⟩) 3 3 := e9
      refine wp_enter (exec_call (vs := #[.slice (some ⟨h9, 0, none⟩) 3 3]) rfl (by simp only [List.map_toArray, List.map_cons, List.map_nil, e0]) Tryz.func106 rfl rfl) ?_
      refine (pconcat_any _ _ _ u1 u2 u3 h9 X9 c0 c1 c2 s0 s1 s2 (by decide) (by have := HRO.out.2.1; omega) (by decide)).mono ?_
      rintro e w' ⟨v9, rfl, ho, hb⟩
      exact ⟨_, rfl, _, rfl, .inl ⟨by rw [hFF]; show (8 : Nat) ≠ 12; decide, hb, by rw [hFF]; exact ho.weaken (fun _ _ => trivial)⟩⟩
    · intro a X9 hXB hL hd
      have q0 := hd 8 40 (by rw [hFF]; show (8 : Nat) ≠ 12; decide) (by kernel_rfl) (by kernel_rfl)
      rw [hFF] at hXB q0
      refine ⟨rfl, ?_⟩
      have hne : sylR ++ S.ks ++ noR ≠ [] := by simp [noR]
      have q1 : OwnS (fun _ => True) 160 3 (a.eval (.tmp 40)) (sylR ++ S.ks ++ noR).length (rwE (sylR ++ S.ks ++ noR)) X9 := q0
      obtain ⟨v9, hv9⟩ : ∃ v9, a.eval (.tmp 40) = v9 := ⟨_, rfl⟩
      rw [hv9] at q1
      refine wp_enter (exec_call (vs := #[v9]) rfl (by simp only [List.map_toArray, List.map_cons, List.map_nil, hv9]) Tryz.func105 rfl rfl) ?_
      refine (prunsOf (sylR ++ S.ks ++ noR) v9 X9 (SlW.rows q1 hne) hne RWk.out.1 RWk.out.2).mono ?_
      rintro e w' ⟨v8, L, rfl, hV, hp, hl, hr, hb⟩
      exact ⟨_, rfl, _, rfl, .inl ⟨by rw [hFF]; show (9 : Nat) ≠ 12; decide, hb, by rw [hFF]; exact ⟨L, hV, hp, hl, runok_all L _ hr⟩⟩⟩
    · intro a X9 hXB hL hd
      have q0 := hd 0 32 (by rw [hFF]; show (0 : Nat) ≠ 12; decide) (by kernel_rfl) (by kernel_rfl)
      rw [hFF] at hXB q0
      refine ⟨rfl, ?_⟩
      have e0 : a.eval (.tmp 32) = .pointer (some ⟨gp, 0, none⟩) := q0
      exact wp_value (exec_nilCheck rfl e0) ⟨_, rfl, .inl ⟨by rw [hFF]; show (10 : Nat) ≠ 12; decide, Below.refl _ _, by rw [hFF]; exact rfl⟩⟩
    · intro a X9 hXB hL hd
      have q0 := hd 10 42 (by rw [hFF]; show (10 : Nat) ≠ 12; decide) (by kernel_rfl) (by kernel_rfl)
      rw [hFF] at hXB q0
      refine ⟨rfl, ?_⟩
      have e0 : a.eval (.tmp 42) = .pointer (some ⟨gp, 0, none⟩) := q0
      exact wp_value (exec_fieldAddr rfl e0 (FGk.out X9)) ⟨_, rfl, .inl ⟨by rw [hFF]; show (11 : Nat) ≠ 12; decide, Below.refl _ _, by rw [hFF]; exact rfl⟩⟩
    · intro a X9 hXB hL hd
      have q0 := hd 9 41 (by rw [hFF]; show (9 : Nat) ≠ 12; decide) (by kernel_rfl) (by kernel_rfl)
      have q1 := hd 11 43 (by rw [hFF]; show (11 : Nat) ≠ 12; decide) (by kernel_rfl) (by kernel_rfl)
      rw [hFF] at hXB q0 q1
      refine ⟨rfl, ?_⟩
      obtain ⟨L, hV, hRO⟩ := q0
      have e0 : a.eval (.tmp 43) = .pointer (some ⟨gp, 1, none⟩) := q1
      have hV : RunV X9 (a.eval (.tmp 41)) L := hV
      obtain ⟨v9, hv9⟩ : ∃ v9, a.eval (.tmp 41) = v9 := ⟨_, rfl⟩
      rw [hv9] at hV
      have hgX : X9.heap[gp]? = _ := (hXB.block gp (by show gp < W2.heap.size; omega)).trans HG2.out
      have hgi := cell0_slice2 HV1.out hgX
      obtain ⟨hr9, hk9, hx9⟩ := STk.out X9 v9 L hgX hV
      refine wp_skipped (exec_store rfl e0 hv9 hr9) ⟨undef, rfl, ?_⟩
      exact .inr ⟨by subst hFF; rfl, by rw [hFF]; exact hk9, by rw [hFF]; exact ⟨v9, L, hV.store hgi hk9, hRO, hx9, (Keep.of_all hXB).trans hk9⟩⟩
  intro a X9 hL hfin
  rw [hFF] at hfin
  obtain ⟨f, ha, hf⟩ := hL.out [32, 33, 34, 35, 36, 37, 38, 39, 40, 41, 42, 43] rfl
  clear hf hL H0 HOK hFF
  simp only [List.foldl_cons, List.foldl_nil, List.setIfInBounds_toArray, List.set_cons_zero, List.set_cons_succ] at ha
  subst ha
  obtain ⟨v2, kL, hd1, hd2, hd3, hd4⟩ := hfin
  obtain ⟨W3, hW3⟩ : ∃ W3, X9 = W3 := ⟨_, rfl⟩
  rw [hW3] at hd1 hd3 hd4 ⊢
  have hs3 := hd4.size
  have hgb : gp = bm + 1 := by have := HMD1.out.2.2.2.1; have := HMD1.out.2.2.2.2; omega
  have hb12 : Below bm w W2 := HMD1.out.2.2.1.trans (HC2.out.2.2.below (by have := HMD1.out.2.1; omega) (fun b hb => by subst hb; omega))
  have hb13 : Below bm w W3 := hb12.trans (hd4.below (by omega) (fun b hb => by subst hb; omega))
  have hrv3 : RunV W3 v1 cL := HC2.out.1.store (cell0_slice2 HV1.out HG2.out) hd4
  have hmd3 : MdM bm 0 (fun _ _ => none) W3 := (HMD1.out.1.keep HC2.out.2.2 (fun e => by omega)).keep hd4 (fun e => by omega)
  have hR3 : RdW B0 ρ R line n m S cv kv W3 := HR.out.below (by rw [HMD1.out.2.2.2.1]; exact hb13)
  have CDE := Lib.hid (pdecomposed W3 hR3 (fun x hx => by
    obtain ⟨l, hl⟩ := Option.isSome_iff_exists.1 hx
    have := valid_le (HOK0.out.1.ds x l hl).1.1
    omega))
  have HW3 := Lib.hid (And.intro hb13 (And.intro hrv3 (And.intro hmd3 (And.intro hd1 (And.intro hd2 (And.intro hd3 hgb))))))
  clear hb12 hb13 hrv3 hmd3 hR3 hd1 hd2 hd3 hd4 hW3 hgpz hgpz2 hs3 hgb
  go_wp2_with fail
  refine CDE.out.mono ?_
  rintro e W4 ⟨L, v, hp, hm, rfl, hRs, hb4⟩
  obtain ⟨ao, cp, rfl, hcl⟩ : ∃ ao cp, v = .slice ao L.length cp ∧ ∀ i x, L[i]? = some x → ∃ g, ao = some ⟨g, 0, none⟩ ∧ W4.cell? ⟨g, i, none⟩ = some (.int .i32 (x : Nat)) := by
    rcases hRs with ⟨rfl, rfl⟩ | ⟨g, cp, rfl, _, _, _, h5⟩
    · exact ⟨none, 0, rfl, fun i x h => by cases h⟩
    · exact ⟨_, cp, rfl, fun i x h => ⟨g, rfl, h5 i x h⟩⟩
  obtain ⟨N, hN⟩ : ∃ N, L.length = N := ⟨_, rfl⟩
  have hNl : N ≤ 1114112 := by
    rw [← hN]
    refine nodup_le 1114112 L (hp.imp (fun h => Nat.ne_of_lt h)) (fun x hx => ?_)
    obtain ⟨l, hl⟩ := Option.isSome_iff_exists.1 ((hm x).1 hx)
    have := valid_le (HOK0.out.1.ds x l hl).1.1
    omega
  have hs34 := hb4.size
  have hbl : bm < W3.heap.size := HW3.out.2.2.1.lt
  have HP4 : Hid (∀ (X : World) (md : MdT) (N' : Nat), Keep (fun b => b = bm) W4 X → n ≤ N' → MdM bm N' md X → PrI ⟨v1, v2, cL, kL, R.bd, R.bf, bm, N', ρ⟩ gp S md X) := Lib.hid fun X md N' hk hn' hmd => by
    obtain ⟨hb13, hrv3, hmd3, hd1, hd2, hd3, hgb⟩ := HW3.out
    have hmd4 := (hmd3.keep (X := fun _ => False) (Keep.of_all hb4) (fun h => h)).cell
    have hbw : Below w.heap.size w W4 := by
      have h9 := hb13.size
      have h8 := HMD1.out.2.2.2.1
      rw [h8]
      exact hb13.trans (hb4.mono (by omega))
    have hR4 := HR.out.below hbw
    have h99 : ∀ b, b = bm → ρ b ≠ 4 ∧ ρ b ≠ 0 := fun b hb => by subst hb; rw [HRO9.out b (by have := HMD1.out.2.2.2.1; omega)]; decide
    have h98 : ∀ b, b = bm → ρ b ≠ 5 ∧ ρ b ≠ 0 := fun b hb => by subst hb; rw [HRO9.out b (by have := HMD1.out.2.2.2.1; omega)]; decide
    exact {
      cell := hk.heap ((hb4.block gp (Array.getElem?_eq_some_iff.1 hd3).1).trans hd3) (by omega)
      c := (hrv3.below hb4).store hmd4 hk
      k := (hd1.below hb4).store hmd4 hk
      cp := HC2.out.2.1
      kp := hd2
      d := (hR4.d.keep hk h99).mono hn'
      f := (hR4.f.keep hk h98).mono hn'
      m := hmd }
  have HL := Lib.hid (And.intro hp (And.intro hm (And.intro hcl (And.intro hN hb4))))
  rw [hN]
  clear hp hm hRs hcl hb4 hN hs34
  go_wp2_with fail
  go_loopw [47] (fun x wr => ∃ i : Nat, x = .int .i64 i ∧ i ≤ N ∧ MdM bm (n + i) (mdOf S (L.take i)) wr ∧ Keep (fun b => b = bm) W4 wr) (fun x _ => N - (RowKit.intOf x).toNat)
  case atStart => exact ⟨0, rfl, by omega, (HW3.out.2.2.1.keep (X := fun _ => False) (Keep.of_all HL.out.2.2.2.2) (fun h => h)).mono (by omega), Keep.refl _ _⟩
  case round =>
    obtain ⟨i, rfl, hi, hmd, hk⟩ := hrel
    have hsz := hk.size
    by_cases hlt : i < N
    · have hlt' : (i : Int) < (N : Int) := by omega
      obtain ⟨x, hx⟩ : ∃ x, L[i]? = some x := ⟨_, List.getElem?_eq_getElem (by rw [HL.out.2.2.2.1]; exact hlt)⟩
      obtain ⟨gl, rfl, hcx⟩ := HL.out.2.2.1 i x hx
      obtain ⟨l, hl⟩ := Option.isSome_iff_exists.1 ((HL.out.2.1 x).1 (List.mem_of_getElem? hx))
      have hPI := HP4.out wr _ (n + i) hk (by omega) hmd
      have hxv := valid_le (HOK0.out.1.ds x l hl).1.1
      have hx32 : I32 (x : Int) := ⟨by omega, by omega⟩
      have hgl : ¬ gl = bm := fun e => by
        have h4 := (HW3.out.2.2.1.keep (X := fun _ => False) (Keep.of_all HL.out.2.2.2.2) (fun h => h))
        rw [e] at hcx
        obtain ⟨f, ⟨D, ⟨es, clock, h1, _⟩, _⟩, _⟩ := h4
        simp [World.cell?, h1] at hcx
      have hcx2 := hk.cell hcx hgl
      have c2 : wr.cell? ⟨gp, 2, none⟩ = some (.map (some R.bd)) := by rw [Lib.cell_of_heap hPI.cell]; rfl
      obtain ⟨vo, hlo, _, hvo⟩ := hPI.d.look1 hx32
      rw [atZ_nat, hl] at hvo
      have hpt : PtV ρ vo l wr := by
        rcases hvo with ⟨h1, _⟩ | ⟨l', h1, h2⟩
        · cases h1
        · cases h1; exact h2
      have hk1 : IntKind.i64.wrap ((i : Int) + 1) = ((i + 1 : Nat) : Int) := by rw [IntWalk.i64_in _ (by omega)]; omega
      have hlo' : (Instr.lookup 89 (.map (some R.bd)) (.int .i32 (x : Nat)) false).run Tryz.prog wr = .ok vo wr := hlo
      have HX := Lib.hid (And.intro hx (And.intro hl (And.intro hmd (And.intro hk hPI))))
      clear hx hl hmd hk hPI hlo hvo hcx hx32
      by_cases hl2 : l.length = 2
      · obtain ⟨pa, pb, rfl⟩ : ∃ a b, l = [a, b] := by
          match l, hl2 with
          | [a, b], _ => exact ⟨a, b, rfl⟩
        obtain ⟨go, off, cap, rfl, hcap, co0, co1⟩ := pt_two hpt
        have hav := (HOK0.out.1.ds x [pa, pb] HX.out.2.1).2.2
        have ha32 : I32 (pa : Int) := ⟨by omega, by have := valid_le (hav pa (by simp)); omega⟩
        have hb32 : I32 (pb : Int) := ⟨by omega, by have := valid_le (hav pb (by simp)); omega⟩
        have CC := Lib.hid (pclsP wr ⟨_, HX.out.2.2.2.2⟩ (pa : Int))
        have HA := Lib.hid (And.intro ha32 hb32)
        obtain ⟨cs, hcs⟩ : ∃ cs, clsV S (pa : Int) = cs := ⟨_, rfl⟩
        have HCS := Lib.hid hcs
        rw [hcs] at CC
        clear hpt hav hl2 hcs ha32 hb32
        go_wp2_with fail
        refine CC.out.mono ?_
        rintro e w5 ⟨rfl, hb5⟩
        by_cases hc0 : cs = 0
        · subst hc0
          have hc5 := hb5
          obtain ⟨hx, hl, hmd, hk, hPI⟩ := HX.out
          have hmd5 := hmd.keep (X := fun _ => False) (Keep.of_all hb5) (fun h => h)
          have hk5 : Keep (fun b => b = bm) W4 w5 := hk.trans (Keep.of_all hb5)
          have d4 : w5.cell? ⟨gp, 4, none⟩ = some (.map (some bm)) := (hb5.cell (Array.getElem?_eq_some_iff.1 hPI.cell).1).trans (by rw [Lib.cell_of_heap hPI.cell]; rfl)
          have e0 := (hb5.cell (lt_of_cell co0)).trans co0
          have e1 := (hb5.cell (lt_of_cell co1)).trans co1
          have hlk : ∀ q : Nat, (Instr.lookup 121 (.map (some bm)) (.agg #[.int .i32 (pa : Nat), .int .i32 (pb : Nat)]) true).run Tryz.prog (w5.drewN q) = .ok (.tuple #[.int .i32 (((mdOf S (L.take i) pa pb).getD 0 : Nat) : Int), .bool (mdOf S (L.take i) pa pb).isSome]) (w5.drewN q) := fun q =>
            (hmd5.keep (X := fun _ => False) (Keep.of_all (below_drewN (Below.refl _ _) q)) (fun h => h)).look HA.out.1 HA.out.2
          obtain ⟨mg, hmg⟩ : ∃ mg, (mdOf S (L.take i) pa pb).getD 0 = mg := ⟨_, rfl⟩
          obtain ⟨ms, hms⟩ : ∃ ms, (mdOf S (L.take i) pa pb).isSome = ms := ⟨_, rfl⟩
          rw [hmg, hms] at hlk
          have H5 := Lib.hid (And.intro hmd5 (And.intro hk5 hms))
          clear hx hl hmd hk hPI hmd5 hk5 hb5 hc5 hmg hms
          cases ms with
          | true =>
            go_wp2_with fail
            go_quiet (fail)
            go_wp2
            go_roundw
            case rel =>
              refine ⟨i + 1, by go_num, by omega, ?_, H5.out.2.1.trans (Keep.of_all (below_drewN (Below.refl _ _) _))⟩
              rw [mdOf_snoc S HX.out.1, mdStep, HX.out.2.1]
              simp only [HCS.out, ne_eq, not_true_eq_false, if_false, H5.out.2.2, if_true]
              exact (H5.out.1.mono (by omega)).keep (X := fun _ => False) (Keep.of_all (below_drewN (Below.refl _ _) _)) (fun h => h)
            case measure => simp [RowKit.intOf]; omega
          | false =>
            go_wp2_with fail
            go_quiet (fail)
            go_wp2_with fail
            obtain ⟨W6, hW6⟩ : ∃ W6, w5.drewN nq = W6 := ⟨_, rfl⟩
            rw [hW6]
            have hb56 : Below w5.heap.size w5 W6 := by rw [← hW6]; exact below_drewN (Below.refl _ _) _
            have d4' := (hb56.cell (lt_of_cell d4)).trans d4
            have e0' := (hb56.cell (lt_of_cell e0)).trans e0
            have e1' := (hb56.cell (lt_of_cell e1)).trans e1
            have hmd6 := H5.out.1.keep (X := fun _ => False) (Keep.of_all hb56) (fun h => h)
            have hbm6 := hmd6.lt
            have hnle : n ≤ 1000000 := HOK0.out.2.2
            have FGm : Hid (∀ X : World, (Instr.fieldAt 123 (.pointer (some ⟨gp, 0, none⟩)) 4).run Tryz.prog X = .ok (.pointer (some ⟨gp, 4, none⟩)) X) := Lib.hid fun X => by go_simp
            have LD4 : Hid (∀ X : World, Below W6.heap.size W6 X → (Instr.loadAt 121 (.pointer (some ⟨gp, 4, none⟩))).run Tryz.prog X = .ok (.map (some bm)) X) := Lib.hid fun X hb => by
              have c := (hb.cell (lt_of_cell d4')).trans d4'
              go_simp
            have LDa : Hid (∀ X : World, Below W6.heap.size W6 X → (Instr.loadAt 21 (.pointer (some ⟨go, off, none⟩))).run Tryz.prog X = .ok (.int .i32 (pa : Nat)) X) := Lib.hid fun X hb => by
              have c := (hb.cell (lt_of_cell e0')).trans e0'
              go_simp
            have LDb : Hid (∀ X : World, Below W6.heap.size W6 X → (Instr.loadAt 21 (.pointer (some ⟨go, off + 1, none⟩))).run Tryz.prog X = .ok (.int .i32 (pb : Nat)) X) := Lib.hid fun X hb => by
              have c := (hb.cell (lt_of_cell e1')).trans e1'
              go_simp
            have IX0 : Hid (∀ X : World, (Instr.indexAt 22 (.slice (some ⟨go, off, none⟩) 2 cap) (.int .i64 0)).run Tryz.prog X = .ok (.pointer (some ⟨go, off, none⟩)) X) := Lib.hid fun X => by go_simp
            have IX1 : Hid (∀ X : World, (Instr.indexAt 22 (.slice (some ⟨go, off, none⟩) 2 cap) (.int .i64 1)).run Tryz.prog X = .ok (.pointer (some ⟨go, off + 1, none⟩)) X) := Lib.hid fun X => by go_simp
            have BDm : Hid (∀ X : World, (Instr.build 163 #[(0, .int .i32 (pa : Nat)), (1, .int .i32 (pb : Nat))]).run Tryz.prog X = .ok (.agg #[.int .i32 (pa : Nat), .int .i32 (pb : Nat)]) X) := Lib.hid fun X => by go_simp
            have MUm : Hid (∀ X : World, Below W6.heap.size W6 X → ∃ Y, (Instr.mapUpdate 121 (.map (some bm)) (.agg #[.int .i32 (pa : Nat), .int .i32 (pb : Nat)]) (.int .i32 (x : Nat))).run Tryz.prog X = .ok () Y ∧ MdM bm (n + i + 1) (updP (mdOf S (L.take i)) pa pb x) Y ∧ Keep (fun b => b = bm) X Y) := Lib.hid fun X hb =>
              (hmd6.keep (X := fun _ => False) (Keep.of_all hb) (fun h => h)).put (by unfold maxLen; omega) HA.out.1 HA.out.2 x
            have H6 := Lib.hid hb56
            clear hW6 hb56 d4' e0' e1' hmd6 d4 e0 e1 hlk co0 co1
            obtain ⟨i9, hi9⟩ : ∃ i9, i = i9 := ⟨_, rfl⟩
            rw [hi9] at MUm
            obtain ⟨FF, hFF⟩ : ∃ FF : StoB, FF = ⟨W6, W6.heap.size, bm, 12, fun i v W => match i with | 0 => v = .pointer (some ⟨gp, 0, none⟩) | 1 => v = .pointer (some ⟨gp, 0, none⟩) | 2 => v = .pointer (some ⟨gp, 4, none⟩) | 3 => v = .map (some bm) | 4 => v = .slice (some ⟨go, off, none⟩) 2 cap | 5 => v = .pointer (some ⟨go, off, none⟩) | 6 => v = .int .i32 (pa : Nat) | 7 => v = .slice (some ⟨go, off, none⟩) 2 cap | 8 => v = .pointer (some ⟨go, off + 1, none⟩) | 9 => v = .int .i32 (pb : Nat) | 10 => v = .agg #[.int .i32 (pa : Nat), .int .i32 (pb : Nat)] | 11 => v = .int .i32 (x : Nat) | _ => True, fun W => MdM bm (n + i9 + 1) (updP (mdOf S (L.take i9)) pa pb x) W ∧ Keep (fun b => b = bm) W6 W⟩ := ⟨_, rfl⟩
            have HOK : StoB.Ok FF := by
              rw [hFF]
              refine ⟨rfl, by show bm < W6.heap.size; omega, fun i v A B hb => ?_⟩
              match i with
              | 0 => exact fun h => h
              | 1 => exact fun h => h
              | 2 => exact fun h => h
              | 3 => exact fun h => h
              | 4 => exact fun h => h
              | 5 => exact fun h => h
              | 6 => exact fun h => h
              | 7 => exact fun h => h
              | 8 => exact fun h => h
              | 9 => exact fun h => h
              | 10 => exact fun h => h
              | 11 => exact fun h => h
              | _ + 12 => exact fun _ => trivial
            have H0 : Below FF.H FF.w W6.drew := by rw [hFF]; exact below_drewN (Below.refl _ _) 1
            refine wp_region_stob FF (by kernel_rfl) (by kernel_rfl) (by kernel_rfl) HOK (by rw [hFF]; kernel_rfl) (by rw [hFF]; show (12 : Nat) < 13; decide) H0 ?hsm ?hdm
            case hsm =>
              refine BSteps.cons ?_ (BSteps.cons ?_ (BSteps.cons ?_ (BSteps.cons ?_ (BSteps.cons ?_ (BSteps.cons ?_ (BSteps.cons ?_ (BSteps.cons ?_ (BSteps.cons ?_ (BSteps.cons ?_ (BSteps.cons ?_ (BSteps.cons ?_ (BSteps.cons ?_ (BSteps.nil)))))))))))))
              · intro a X9 hXB hL hd
                rw [hFF] at hXB
                refine ⟨rfl, ?_⟩
                have e0 : a.eval (.tmp 3) = .pointer (some ⟨gp, 0, none⟩) := hL.far 3 (by kernel_rfl)
                exact wp_value (exec_move rfl e0) ⟨_, rfl, .inl ⟨by rw [hFF]; show (0 : Nat) ≠ 12; decide, Below.refl _ _, by rw [hFF]; exact rfl⟩⟩
              · intro a X9 hXB hL hd
                have q0 := hd 0 85 (by rw [hFF]; show (0 : Nat) ≠ 12; decide) (by kernel_rfl) (by kernel_rfl)
                rw [hFF] at hXB q0
                refine ⟨rfl, ?_⟩
                have e0 : a.eval (.tmp 85) = .pointer (some ⟨gp, 0, none⟩) := q0
                exact wp_value (exec_nilCheck rfl e0) ⟨_, rfl, .inl ⟨by rw [hFF]; show (1 : Nat) ≠ 12; decide, Below.refl _ _, by rw [hFF]; exact rfl⟩⟩
              · intro a X9 hXB hL hd
                have q0 := hd 1 86 (by rw [hFF]; show (1 : Nat) ≠ 12; decide) (by kernel_rfl) (by kernel_rfl)
                rw [hFF] at hXB q0
                refine ⟨rfl, ?_⟩
                have e0 : a.eval (.tmp 86) = .pointer (some ⟨gp, 0, none⟩) := q0
                exact wp_value (exec_fieldAddr rfl e0 (FGm.out X9)) ⟨_, rfl, .inl ⟨by rw [hFF]; show (2 : Nat) ≠ 12; decide, Below.refl _ _, by rw [hFF]; exact rfl⟩⟩
              · intro a X9 hXB hL hd
                have q0 := hd 2 87 (by rw [hFF]; show (2 : Nat) ≠ 12; decide) (by kernel_rfl) (by kernel_rfl)
                rw [hFF] at hXB q0
                refine ⟨rfl, ?_⟩
                have e0 : a.eval (.tmp 87) = .pointer (some ⟨gp, 4, none⟩) := q0
                exact wp_value (exec_load rfl e0 (LD4.out X9 hXB)) ⟨_, rfl, .inl ⟨by rw [hFF]; show (3 : Nat) ≠ 12; decide, Below.refl _ _, by rw [hFF]; exact rfl⟩⟩
              · intro a X9 hXB hL hd
                rw [hFF] at hXB
                refine ⟨rfl, ?_⟩
                have e0 : a.eval (.tmp 6) = .slice (some ⟨go, off, none⟩) 2 cap := hL.far 6 (by kernel_rfl)
                exact wp_value (exec_move rfl e0) ⟨_, rfl, .inl ⟨by rw [hFF]; show (4 : Nat) ≠ 12; decide, Below.refl _ _, by rw [hFF]; exact rfl⟩⟩
              · intro a X9 hXB hL hd
                have q0 := hd 4 89 (by rw [hFF]; show (4 : Nat) ≠ 12; decide) (by kernel_rfl) (by kernel_rfl)
                rw [hFF] at hXB q0
                refine ⟨rfl, ?_⟩
                have e0 : a.eval (.tmp 89) = .slice (some ⟨go, off, none⟩) 2 cap := q0
                exact wp_value (exec_indexAddr rfl e0 rfl (IX0.out X9)) ⟨_, rfl, .inl ⟨by rw [hFF]; show (5 : Nat) ≠ 12; decide, Below.refl _ _, by rw [hFF]; exact rfl⟩⟩
              · intro a X9 hXB hL hd
                have q0 := hd 5 90 (by rw [hFF]; show (5 : Nat) ≠ 12; decide) (by kernel_rfl) (by kernel_rfl)
                rw [hFF] at hXB q0
                refine ⟨rfl, ?_⟩
                have e0 : a.eval (.tmp 90) = .pointer (some ⟨go, off, none⟩) := q0
                exact wp_value (exec_load rfl e0 (LDa.out X9 hXB)) ⟨_, rfl, .inl ⟨by rw [hFF]; show (6 : Nat) ≠ 12; decide, Below.refl _ _, by rw [hFF]; exact rfl⟩⟩
              · intro a X9 hXB hL hd
                rw [hFF] at hXB
                refine ⟨rfl, ?_⟩
                have e0 : a.eval (.tmp 6) = .slice (some ⟨go, off, none⟩) 2 cap := hL.far 6 (by kernel_rfl)
                exact wp_value (exec_move rfl e0) ⟨_, rfl, .inl ⟨by rw [hFF]; show (7 : Nat) ≠ 12; decide, Below.refl _ _, by rw [hFF]; exact rfl⟩⟩
              · intro a X9 hXB hL hd
                have q0 := hd 7 92 (by rw [hFF]; show (7 : Nat) ≠ 12; decide) (by kernel_rfl) (by kernel_rfl)
                rw [hFF] at hXB q0
                refine ⟨rfl, ?_⟩
                have e0 : a.eval (.tmp 92) = .slice (some ⟨go, off, none⟩) 2 cap := q0
                exact wp_value (exec_indexAddr rfl e0 rfl (IX1.out X9)) ⟨_, rfl, .inl ⟨by rw [hFF]; show (8 : Nat) ≠ 12; decide, Below.refl _ _, by rw [hFF]; exact rfl⟩⟩
              · intro a X9 hXB hL hd
                have q0 := hd 8 93 (by rw [hFF]; show (8 : Nat) ≠ 12; decide) (by kernel_rfl) (by kernel_rfl)
                rw [hFF] at hXB q0
                refine ⟨rfl, ?_⟩
                have e0 : a.eval (.tmp 93) = .pointer (some ⟨go, off + 1, none⟩) := q0
                exact wp_value (exec_load rfl e0 (LDb.out X9 hXB)) ⟨_, rfl, .inl ⟨by rw [hFF]; show (9 : Nat) ≠ 12; decide, Below.refl _ _, by rw [hFF]; exact rfl⟩⟩
              · intro a X9 hXB hL hd
                have q0 := hd 6 91 (by rw [hFF]; show (6 : Nat) ≠ 12; decide) (by kernel_rfl) (by kernel_rfl)
                have q1 := hd 9 94 (by rw [hFF]; show (9 : Nat) ≠ 12; decide) (by kernel_rfl) (by kernel_rfl)
                rw [hFF] at hXB q0 q1
                refine ⟨rfl, ?_⟩
                have e0 : a.eval (.tmp 91) = .int .i32 (pa : Nat) := q0
                have e1 : a.eval (.tmp 94) = .int .i32 (pb : Nat) := q1
                exact wp_value (exec_build rfl (ps := #[(0, .int .i32 (pa : Nat)), (1, .int .i32 (pb : Nat))]) (by simp only [List.map_toArray, List.map_cons, List.map_nil, e0, e1]) (BDm.out X9)) ⟨_, rfl, .inl ⟨by rw [hFF]; show (10 : Nat) ≠ 12; decide, Below.refl _ _, by rw [hFF]; exact rfl⟩⟩
              · intro a X9 hXB hL hd
                rw [hFF] at hXB
                refine ⟨rfl, ?_⟩
                have e0 : a.eval (.tmp 5) = .int .i32 (x : Nat) := hL.far 5 (by kernel_rfl)
                exact wp_value (exec_move rfl e0) ⟨_, rfl, .inl ⟨by rw [hFF]; show (11 : Nat) ≠ 12; decide, Below.refl _ _, by rw [hFF]; exact rfl⟩⟩
              · intro a X9 hXB hL hd
                have q0 := hd 3 88 (by rw [hFF]; show (3 : Nat) ≠ 12; decide) (by kernel_rfl) (by kernel_rfl)
                have q1 := hd 10 95 (by rw [hFF]; show (10 : Nat) ≠ 12; decide) (by kernel_rfl) (by kernel_rfl)
                have q2 := hd 11 96 (by rw [hFF]; show (11 : Nat) ≠ 12; decide) (by kernel_rfl) (by kernel_rfl)
                rw [hFF] at hXB q0 q1 q2
                refine ⟨rfl, ?_⟩
                have e0 : a.eval (.tmp 88) = .map (some bm) := q0
                have e1 : a.eval (.tmp 95) = .agg #[.int .i32 (pa : Nat), .int .i32 (pb : Nat)] := q1
                have e2 : a.eval (.tmp 96) = .int .i32 (x : Nat) := q2
                obtain ⟨Y, hr9, hm9, hk9⟩ := MUm.out X9 hXB
                refine wp_skipped (exec_mapUpdate rfl e0 e1 e2 hr9) ⟨undef, rfl, ?_⟩
                exact .inr ⟨by subst hFF; rfl, by rw [hFF]; exact hk9, by rw [hFF]; exact ⟨hm9, (Keep.of_all hXB).trans hk9⟩⟩
            intro a X9 hL hfin
            rw [hFF] at hfin
            obtain ⟨f, ha, hf⟩ := hL.out [85, 86, 87, 88, 89, 90, 91, 92, 93, 94, 95, 96] rfl
            clear hf hL H0 HOK hFF
            simp only [List.foldl_cons, List.foldl_nil, List.setIfInBounds_toArray, List.set_cons_zero, List.set_cons_succ] at ha
            subst ha
            rw [← hi9] at hfin
            obtain ⟨hmd7, hk7⟩ := hfin
            have H7 := Lib.hid (And.intro hmd7 hk7)
            clear hmd7 hk7 hi9
            go_wp2
            go_roundw
            case rel =>
              refine ⟨i + 1, by go_num, by omega, ?_, (H5.out.2.1.trans (Keep.of_all H6.out)).trans H7.out.2⟩
              rw [mdOf_snoc S HX.out.1, mdStep, HX.out.2.1]
              simp only [HCS.out, ne_eq, not_true_eq_false, if_false, H5.out.2.2, Bool.false_eq_true]
              exact H7.out.1
            case measure => simp [RowKit.intOf]; omega
        · have hq : (!(cs == 0)) = true := by simp [hc0]
          have H5 := Lib.hid hb5
          clear hb5
          go_wp2
          go_roundw
          case rel =>
            obtain ⟨hx, hl, hmd, hk, hPI⟩ := HX.out
            refine ⟨i + 1, by go_num, by omega, ?_, hk.trans (Keep.of_all H5.out)⟩
            rw [mdOf_snoc S hx, mdStep, hl]
            simp only [HCS.out, ne_eq, hc0, not_false_eq_true, if_true]
            exact (hmd.mono (by omega)).keep (X := fun _ => False) (Keep.of_all H5.out) (fun h => h)
          case measure => simp [RowKit.intOf]; omega
      · obtain ⟨go, off, cap, rfl, _⟩ := hpt
        have hmdS : mdStep S (mdOf S (L.take i)) x = mdOf S (L.take i) := by
          rw [mdStep, HX.out.2.1]
          split
          · rename_i h9; cases h9; exact absurd rfl hl2
          · rfl
        have HMS := Lib.hid hmdS
        obtain ⟨nl, hnl⟩ : ∃ nl, l.length = nl := ⟨_, rfl⟩
        rw [hnl] at hl2 hlo'
        have hq : (!((nl : Int) == 2)) = true := by simp; omega
        clear hmdS hnl
        go_wp2
        go_roundw
        case rel =>
          obtain ⟨hx, hl, hmd, hk, hPI⟩ := HX.out
          refine ⟨i + 1, by go_num, by omega, ?_, hk⟩
          rw [mdOf_snoc S hx, HMS.out]
          exact hmd.mono (by omega)
        case measure => simp [RowKit.intOf]; omega
    · have hiN : i = N := by omega
      subst hiN
      have HX := Lib.hid (And.intro hmd hk)
      clear hmd hk
      go_wp2
      go_ret
      obtain ⟨hmd, hk⟩ := HX.out
      obtain ⟨hp, hm, _, hN, hb4⟩ := HL.out
      have ht : L.take i = L := by rw [← hN]; exact List.take_length
      rw [ht] at hmd
      have hbw : Below bm w wr := HW3.out.1.trans ((hb4.mono (by omega)).trans (hk.below (by have := hb4.size; omega) (fun b hb => by omega)))
      exact ⟨gp, L, rfl, hp, hm, ⟨_, HP4.out wr _ (n + i) hk (by omega) hmd⟩, by rw [HMD1.out.2.2.2.1]; exact hbw⟩
end Go.Proofs.YtcfhblbmpbfoaaaGreatDoor
