/- props: newReader. WRITTEN by wip/tools/gen_jn.py. -/
import Derived.Test.YtdmimdiffjpjpaaGreatDoorGz5
namespace Go.Proofs.YtdmimdiffjpjpaaGreatDoor
open Go Go.RowKit Go.Kt Go.Kt.Rg Go.Maps

/-- No line came. -/
def rd0 : RdS := ⟨[], [], fun _ => none, fun _ => none, fun _ => none, fun _ => none⟩
theorem MapG.alloc {P : Program} {k : TypeId} {b n : Nat} {f : Lit → Option Value} {w : World} (h : MapG P k b n f w) (o : Obj) : MapG P k b n f (w.alloc o) := MapG.keep h ((Keep.refl (fun _ => False) w).alloc o) (fun h => h)
theorem ptF_none {vs : Nat → Option Value} (h : ∀ x, vs x = none) (kl : Lit) : none = ptF vs kl := by
  unfold ptF
  split
  · split
    · rw [h]
    · rfl
  · rfl
theorem says_put (g : Nat) (kl : Lit) (hk : WideAt.IsKeyLit kl) : putF (putF (putF (putF (fun _ => none) (.string [99, 108, 97, 115, 115]) (saysV g 52)) (.string [107, 105, 110, 100]) (saysV g 53)) (.string [102, 111, 108, 100]) (saysV g 54)) (.string [100, 101, 99, 111, 109, 112]) (saysV g 55) kl = saysF g kl := by
  by_cases e4 : kl = .string [100, 101, 99, 111, 109, 112]
  · subst e4; rw [putF_same _ _ hk]; rfl
  rw [putF_other _ e4]
  by_cases e3 : kl = .string [102, 111, 108, 100]
  · subst e3; rw [putF_same _ _ hk]; rfl
  rw [putF_other _ e3]
  by_cases e2 : kl = .string [107, 105, 110, 100]
  · subst e2; rw [putF_same _ _ hk]; rfl
  rw [putF_other _ e2]
  by_cases e1 : kl = .string [99, 108, 97, 115, 115]
  · subst e1; rw [putF_same _ _ hk]; rfl
  rw [putF_other _ e1]
  unfold saysF
  split
  · rename_i b
    rw [if_neg (fun h => e1 (by rw [h])), if_neg (fun h => e2 (by rw [h])), if_neg (fun h => e3 (by rw [h])), if_neg (fun h => e4 (by rw [h]))]
  · rfl
/-- The roles of a new reader's blocks. -/
def newRole (H : Nat) : Nat → Nat := fun b => if b = H then 4 else if b = H + 1 then 5 else if b = H + 1 + 1 then 6 else if b = H + 1 + 1 + 1 then 7 else if b = H + 1 + 1 + 1 + 1 then 1 else if b = H + 1 + 1 + 1 + 1 + 1 then 8 else 0
theorem newRole_le (H b : Nat) (h : newRole H b ≠ 0) : H ≤ b := by
  unfold newRole at h
  refine Nat.le_of_not_lt fun hb => h ?_
  rw [if_neg (by omega), if_neg (by omega), if_neg (by omega), if_neg (by omega), if_neg (by omega), if_neg (by omega)]

theorem newRole0 (H : Nat) : newRole H (H) = 4 := by unfold newRole; rw [if_pos rfl]
theorem newRole1 (H : Nat) : newRole H (H + 1) = 5 := by unfold newRole; rw [if_neg (by omega), if_pos rfl]
theorem newRole2 (H : Nat) : newRole H (H + 1 + 1) = 6 := by unfold newRole; rw [if_neg (by omega), if_neg (by omega), if_pos rfl]
theorem newRole3 (H : Nat) : newRole H (H + 1 + 1 + 1) = 7 := by unfold newRole; rw [if_neg (by omega), if_neg (by omega), if_neg (by omega), if_pos rfl]
theorem newRole4 (H : Nat) : newRole H (H + 1 + 1 + 1 + 1) = 1 := by unfold newRole; rw [if_neg (by omega), if_neg (by omega), if_neg (by omega), if_neg (by omega), if_pos rfl]
theorem newRole5 (H : Nat) : newRole H (H + 1 + 1 + 1 + 1 + 1) = 8 := by unfold newRole; rw [if_neg (by omega), if_neg (by omega), if_neg (by omega), if_neg (by omega), if_neg (by omega), if_pos rfl]
set_option maxRecDepth 100000 in
set_option maxHeartbeats 4000000 in
theorem pnewR (w : World) : Calls Tryz.prog 21 #[] w fun e w' => ∃ R : RdB, e = .returned (.pointer (some ⟨R.g, 0, none⟩)) ∧ Below w.heap.size w w' ∧ ∃ ρ, RdW w.heap.size ρ R 0 0 0 rd0 (.slice none 0 0) (.slice none 0 0) w' := by
  have hm1 : ∀ W : World, (Instr.makeMap 56 none).run Tryz.prog W = .ok (.map (some W.heap.size)) (W.alloc (.map #[] 0)) := fun W => run_makeMap _ _
  have hm2 : ∀ W : World, (Instr.makeMap 57 none).run Tryz.prog W = .ok (.map (some W.heap.size)) (W.alloc (.map #[] 0)) := fun W => run_makeMap _ _
  have hm3 : ∀ W : World, (Instr.makeMap 54 none).run Tryz.prog W = .ok (.map (some W.heap.size)) (W.alloc (.map #[] 0)) := fun W => run_makeMap _ _
  go_enter Tryz.func21, Tryz.ntmps21
  go_wp2_with fail
  clear hm1 hm2 hm3
  obtain ⟨H, hH⟩ : ∃ H, w.heap.size = H := ⟨_, rfl⟩
  rw [hH]
  have k1 : ∀ (W : World) (o : Obj), (W.alloc o).heap.size = W.heap.size + 1 := fun W o => Array.size_push _
  obtain ⟨W0, hW0⟩ : ∃ W0, ((((((w.alloc (.map #[] 0)).alloc (.map #[] 0)).alloc (.map #[] 0)).alloc (.map #[] 0)).alloc (.cells #[.map none, .int .i64 0, .slice none 0 0, .slice none 0 0, .map (some H), .map (some (H + 1)), .map (some (H + 1 + 1)), .map (some (H + 1 + 1 + 1))] 59)).alloc (.map #[] 0)) = W0 := ⟨_, rfl⟩
  rw [hW0]
  have hM0 : MapG Tryz.prog 9 (H + 1 + 1 + 1 + 1 + 1) 0 (fun _ => none) W0 := by
    have := MapG.made (((((w.alloc (.map #[] 0)).alloc (.map #[] 0)).alloc (.map #[] 0)).alloc (.map #[] 0)).alloc (.cells #[.map none, .int .i64 0, .slice none 0 0, .slice none 0 0, .map (some H), .map (some (H + 1)), .map (some (H + 1 + 1)), .map (some (H + 1 + 1 + 1))] 59)) Tryz.prog 9
    rw [hW0] at this
    simp only [k1, hH] at this
    exact this
  obtain ⟨w1, hr1, hM1, hK1⟩ := hM0.put (string_keyed Tryz.underlying9) Tryz.underlying54 (by decide) (val := saysV (H + 1 + 1 + 1 + 1) 52) (key := .string ⟨#[99, 108, 97, 115, 115]⟩) (kl := .string [99, 108, 97, 115, 115]) (Go.WideMaps.keyOf_string_mk (P := Tryz.prog) Tryz.underlying9 (s := ⟨#[99, 108, 97, 115, 115]⟩) (by decide))
  unfold saysV at hr1
  rw [hr1]
  clear hr1
  go_wp2_with fail
  obtain ⟨w2, hr2, hM2, hK2⟩ := hM1.put (string_keyed Tryz.underlying9) Tryz.underlying54 (by decide) (val := saysV (H + 1 + 1 + 1 + 1) 53) (key := .string ⟨#[107, 105, 110, 100]⟩) (kl := .string [107, 105, 110, 100]) (Go.WideMaps.keyOf_string_mk (P := Tryz.prog) Tryz.underlying9 (s := ⟨#[107, 105, 110, 100]⟩) (by decide))
  unfold saysV at hr2
  rw [hr2]
  clear hr2
  go_wp2_with fail
  obtain ⟨w3, hr3, hM3, hK3⟩ := hM2.put (string_keyed Tryz.underlying9) Tryz.underlying54 (by decide) (val := saysV (H + 1 + 1 + 1 + 1) 54) (key := .string ⟨#[102, 111, 108, 100]⟩) (kl := .string [102, 111, 108, 100]) (Go.WideMaps.keyOf_string_mk (P := Tryz.prog) Tryz.underlying9 (s := ⟨#[102, 111, 108, 100]⟩) (by decide))
  unfold saysV at hr3
  rw [hr3]
  clear hr3
  go_wp2_with fail
  obtain ⟨w4, hr4, hM4, hK4⟩ := hM3.put (string_keyed Tryz.underlying9) Tryz.underlying54 (by decide) (val := saysV (H + 1 + 1 + 1 + 1) 55) (key := .string ⟨#[100, 101, 99, 111, 109, 112]⟩) (kl := .string [100, 101, 99, 111, 109, 112]) (Go.WideMaps.keyOf_string_mk (P := Tryz.prog) Tryz.underlying9 (s := ⟨#[100, 101, 99, 111, 109, 112]⟩) (by decide))
  unfold saysV at hr4
  rw [hr4]
  clear hr4
  have hcell : W0.heap[H + 1 + 1 + 1 + 1]? = some (.cells #[.map none, .int .i64 0, .slice none 0 0, .slice none 0 0, .map (some H), .map (some (H + 1)), .map (some (H + 1 + 1)), .map (some (H + 1 + 1 + 1))] 59 (0, 0)) := by
    rw [← hW0, heap_alloc_if, if_neg (by simp only [k1, hH]; omega), heap_alloc_if, if_pos (by simp only [k1, hH])]
  have g1 : Hid (MapG Tryz.prog 21 H 0 (fun _ => none) W0) := Lib.hid (by
    have := MapG.made w Tryz.prog 21
    rw [hH] at this
    rw [← hW0]
    exact MapG.alloc (MapG.alloc (MapG.alloc (MapG.alloc (MapG.alloc this _) _) _) _) _)
  have g2 : Hid (MapG Tryz.prog 21 (H + 1) 0 (fun _ => none) W0) := Lib.hid (by
    have := MapG.made (w.alloc (.map #[] 0)) Tryz.prog 21
    simp only [k1, hH] at this
    rw [← hW0]
    exact MapG.alloc (MapG.alloc (MapG.alloc (MapG.alloc this _) _) _) _)
  have g3 : Hid (MapG Tryz.prog 21 (H + 1 + 1) 0 (fun _ => none) W0) := Lib.hid (by
    have := MapG.made ((w.alloc (.map #[] 0)).alloc (.map #[] 0)) Tryz.prog 21
    simp only [k1, hH] at this
    rw [← hW0]
    exact MapG.alloc (MapG.alloc (MapG.alloc this _) _) _)
  have g4 : Hid (MapG Tryz.prog 21 (H + 1 + 1 + 1) 0 (fun _ => none) W0) := Lib.hid (by
    have := MapG.made (((w.alloc (.map #[] 0)).alloc (.map #[] 0)).alloc (.map #[] 0)) Tryz.prog 21
    simp only [k1, hH] at this
    rw [← hW0]
    exact MapG.alloc (MapG.alloc this _) _)
  have hBW : Below H w W0 := by
    rw [← hW0, ← hH]
    exact ((((((Below.refl _ w).alloc (Nat.le_refl _) _).alloc (by simp) _).alloc (by simp; omega) _).alloc (by simp; omega) _).alloc (by simp; omega) _).alloc (by simp; omega) _
  have hKK := ((hK1.trans hK2).trans hK3).trans hK4
  have HKK := Lib.hid hKK
  have HBW := Lib.hid hBW
  have HM4 := Lib.hid (MapG.congr hM4 (says_put _))
  have hz : W0.heap.size = H + 1 + 1 + 1 + 1 + 1 + 1 := by rw [← hW0]; simp only [k1, hH]
  have HZ := Lib.hid hz
  have hcell4 := hKK.heap hcell (by omega)
  have HC4 := Lib.hid hcell4
  have c0 : w4.cell? ⟨H + 1 + 1 + 1 + 1, 0, none⟩ = some (.map none) := by rw [Lib.cell_of_heap hcell4]; rfl
  have f0 : w4.frozen? ⟨H + 1 + 1 + 1 + 1, 0, none⟩ = false := Lib.frozen_of_heap hcell4 _
  clear hM0 hM1 hM2 hM3 hM4 hK1 hK2 hK3 hK4 hKK hBW hcell hcell4 hW0 k1 hz
  go_wp2
  go_ret
  rw [hH]
  have hset := heap_setCell_same w4 (H + 1 + 1 + 1 + 1) 0 _ _ (.map (some (H + 1 + 1 + 1 + 1 + 1))) HC4.out
  obtain ⟨W5, hW5⟩ : ∃ W5, w4.setCell ⟨H + 1 + 1 + 1 + 1, 0, none⟩ (.map (some (H + 1 + 1 + 1 + 1 + 1))) = W5 := ⟨_, rfl⟩
  have hK5 : Keep (fun b => b = H + 1 + 1 + 1 + 1) w4 W5 := by
    rw [← hW5]
    exact Keep.setCell (X := fun b => b = H + 1 + 1 + 1 + 1) (Keep.refl _ w4) (p := ⟨H + 1 + 1 + 1 + 1, 0, none⟩) rfl _
  rw [hW5] at hset ⊢
  have hz4 := HKK.out.size
  rw [HZ.out] at hz4
  have hK : Keep (fun b => b = H + 1 + 1 + 1 + 1 + 1 ∨ b = H + 1 + 1 + 1 + 1) W0 W5 := (HKK.out.weaken (fun _ _ h => Or.inl h)).trans (hK5.weaken (fun _ _ h => Or.inr h))
  refine ⟨⟨H + 1 + 1 + 1 + 1, H + 1 + 1 + 1 + 1 + 1, H, H + 1, H + 1 + 1, H + 1 + 1 + 1⟩, rfl, HBW.out.trans (hK.below (by rw [HZ.out]; omega) (fun b hb => by omega)), newRole H, ?_⟩
  have gm : ∀ (b k : Nat) (f : Lit → Option Value), MapG Tryz.prog k b 0 (fun _ => none) W0 → b < H + 1 + 1 + 1 + 1 → (∀ kl, none = f kl) → MapG Tryz.prog k b 0 f W5 := fun b k f h h2 h3 => MapG.congr (MapG.keep h hK (by omega)) (fun kl _ => h3 kl)
  exact {
    hr := newRole_le H, hB := by have := hK5.size; omega, g := newRole4 H, cell := by simpa [cellsR] using hset
    c := own_nil _ _ _ _
    k := own_nil _ _ _ _
    d := ⟨newRole0 H, fun _ => none, gm (H) _ _ g1.out (by omega) (ptF_none (fun _ => rfl)), fun _ => rfl, fun _ _ _ h => by cases h⟩
    f := ⟨newRole1 H, fun _ => none, gm (H + 1) _ _ g2.out (by omega) (ptF_none (fun _ => rfl)), fun _ => rfl, fun _ _ _ h => by cases h⟩
    l := ⟨newRole2 H, gm (H + 1 + 1) _ _ g3.out (by omega) (ptF_none (fun _ => rfl))⟩
    e := ⟨newRole3 H, gm (H + 1 + 1 + 1) _ _ g4.out (by omega) (ptF_none (fun _ => rfl))⟩
    s := ⟨newRole5 H, MapG.keep HM4.out hK5 (show ¬ H + 1 + 1 + 1 + 1 + 1 = H + 1 + 1 + 1 + 1 by omega)⟩ }
end Go.Proofs.YtdmimdiffjpjpaaGreatDoor
