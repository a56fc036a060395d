/- The law's own: works. -/
import Derived.Test.YtjbkpcdpdifpnaaGreatDoorNt
namespace Go.Proofs.YtjbkpcdpdifpnaaGreatDoor
open Go Go.RowKit Go.Kt Go.Kt.Rg

abbrev wkL : List (Int × Int) := [(97, 55295), (57344, 57345), (1114367, 1114367)]
abbrev wkR : List Run := [(97, 55298), (1112191, 1112192)]
theorem wk_nums : numsR wkL = [(97, 55296), (55296, 55298), (1112191, 1112192)] := by decide
theorem wk_canon : canonOf (numsR wkL) = wkR := by
  rw [wk_nums]
  refine (melt_any (m := [(97, 55296), (55296, 55298), (1112191, 1112192)]) ?_ (List.Perm.refl _) ?_).symm.trans (by decide)
  · intro x hx; simp at hx; unfold allN; rcases hx with rfl | rfl | rfl <;> simp
  · simp [Rises]
theorem wk_bad : ∀ x ∈ wkL, badR x = 0 := by decide
theorem wk_c : Canon wkR := by simp [Canon, CanonFrom, allN]
theorem wk_cnt : cntL wkR = 55202 := by decide
theorem wk_print : (⟨(91 :: printL (spansL wkR) ++ [93]).toArray⟩ : ByteArray) = ⟨#[91, 92, 117, 123, 54, 49, 125, 45, 92, 117, 123, 101, 48, 48, 49, 125, 92, 120, 102, 102, 93]⟩ := by kernel_rfl
theorem wk_has1 : hasB wkR 98 = true := by
  have e : numB 98 = (98, true) := by decide
  unfold hasB
  rw [e, Bool.true_and, memB_iff]
  exact ⟨_, .head _, by unfold inR; omega⟩
theorem wk_has2 : hasB wkR 55296 = false := by
  have e : numB 55296 = (0, false) := by decide
  unfold hasB
  rw [e, Bool.false_and]

set_option maxRecDepth 100000 in
set_option maxHeartbeats 2000000 in
theorem rworks_any (w : World) (hE : REnv w) :
    Calls Tryz.prog 11 #[] w fun e w' => e = .returned (.bool true) ∧ Below w.heap.size w w' := by
  have C0 : Hid (∀ W, w.alloc (.cells #[.int .i32 97, .int .i32 55295, .int .i32 57344, .int .i32 57345, .int .i32 1114367, .int .i32 1114367] 27) = W → Calls Tryz.prog 15 #[.slice (some ⟨w.heap.size, 0, none⟩) 3 3] W fun e w' => ∃ b, e = .returned (.tuple #[ptrV b, .nilIface]) ∧ SetAt wkR b w' ∧ Below w.heap.size w w') := Lib.hid fun W hW => by
    have hal : Below w.heap.size w W := by rw [← hW]; exact (Below.refl _ _).alloc (Nat.le_refl _) _
    have hh : W.heap[w.heap.size]? = some (.cells #[.int .i32 97, .int .i32 55295, .int .i32 57344, .int .i32 57345, .int .i32 1114367, .int .i32 1114367] 27 (0, 0)) := by rw [← hW]; exact alloc_at rfl
    have hsp : SpG W (.slice (some ⟨w.heap.size, 0, none⟩) 3 3) wkL := ⟨_, 3, rfl, .inr ⟨w.heap.size, 0, rfl, fun i y hy => by
      match i with
      | 0 => simp at hy; subst hy; exact ⟨by rw [Lib.cell_of_heap hh]; rfl, by rw [Lib.cell_of_heap hh]; rfl⟩
      | 1 => simp at hy; subst hy; exact ⟨by rw [Lib.cell_of_heap hh]; rfl, by rw [Lib.cell_of_heap hh]; rfl⟩
      | 2 => simp at hy; subst hy; exact ⟨by rw [Lib.cell_of_heap hh]; rfl, by rw [Lib.cell_of_heap hh]; rfl⟩
      | i + 3 => simp at hy⟩⟩
    refine (rof_any wkL _ W hsp (hE.1.next hal) (by simp) (by intro x hx; simp at hx; rcases hx with rfl | rfl | rfl <;> simp)).mono ?_
    rintro e w' ⟨hh, hb⟩
    rcases hh with ⟨k, y, hy, hbad, _, _⟩ | ⟨_, b, he, hs⟩
    · exact absurd (wk_bad y (List.mem_of_getElem? hy)) hbad
    · rw [wk_canon] at hs
      exact ⟨b, he, hs, hal.trans (hb.mono hal.size)⟩
  have CP : Hid (∀ V b, SetAt wkR b V → Below w.heap.size w V → Calls Tryz.prog 25 #[ptrV b] V fun e w' => e = .returned (.string ⟨#[91, 92, 117, 123, 54, 49, 125, 45, 92, 117, 123, 101, 48, 48, 49, 125, 92, 120, 102, 102, 93]⟩) ∧ SetAt wkR b w' ∧ Below w.heap.size w w') := Lib.hid fun V b hs hb => by
    have hE2 := hE.below hb
    refine (rPrint_any wkR b V hs wk_c hE2.1 hE2.2.1 hE2.2.2).mono ?_
    rintro e w' ⟨he, hb2⟩
    rw [wk_print] at he
    exact ⟨he, hs.below hb2, hb.trans (hb2.mono hb.size)⟩
  have CC : Hid (∀ V b, SetAt wkR b V → Below w.heap.size w V → Calls Tryz.prog 29 #[ptrV b] V fun e w' => e = .returned (.int .i64 55202) ∧ SetAt wkR b w' ∧ Below w.heap.size w w') := Lib.hid fun V b hs hb => by
    refine (rcount_any wkR b V hs wk_c).mono ?_
    rintro e w' ⟨he, hb2⟩
    rw [wk_cnt] at he
    exact ⟨he, hs.below hb2, hb.trans (hb2.mono hb.size)⟩
  have CH : Hid (∀ V b r t, SetAt wkR b V → Below w.heap.size w V → hasB wkR r = t → (-2147483648 ≤ r ∧ r ≤ 2147483647) → Calls Tryz.prog 27 #[ptrV b, .int .i32 r] V fun e w' => e = .returned (.bool t) ∧ SetAt wkR b w' ∧ Below w.heap.size w w') := Lib.hid fun V b r t hs hb ht hr => by
    refine (rhas_any wkR b r V hs wk_c (hE.1.next hb) hr).mono ?_
    rintro e w' ⟨he, hb2⟩
    rw [ht] at he
    exact ⟨he, hs.below hb2, hb.trans (hb2.mono hb.size)⟩
  clear hE
  go_enter Tryz.func11, Tryz.ntmps11
  go_wp2_with fail
  refine (C0.out _ rfl).mono ?_
  rintro e w1 ⟨b, rfl, hs, hb⟩
  have C1 := Lib.hid (CP.out w1 b hs hb)
  clear hs hb
  go_wp2_with fail
  refine C1.out.mono ?_
  rintro e w2 ⟨rfl, hs, hb⟩
  have C2 := Lib.hid (CC.out w2 b hs hb)
  clear hs hb
  go_wp2_with fail
  refine C2.out.mono ?_
  rintro e w3 ⟨rfl, hs, hb⟩
  have C3 := Lib.hid (CH.out w3 b 98 true hs hb wk_has1 (by decide))
  clear hs hb
  go_wp2_with fail
  refine C3.out.mono ?_
  rintro e w4 ⟨rfl, hs, hb⟩
  have C4 := Lib.hid (CH.out w4 b 55296 false hs hb wk_has2 (by decide))
  clear hs hb
  go_wp2_with fail
  refine C4.out.mono ?_
  rintro e w5 ⟨rfl, hs, hb⟩
  have HF := Lib.hid hb
  clear hs hb
  go_wp2
  go_ret
  exact ⟨rfl, HF.out⟩
end Go.Proofs.YtjbkpcdpdifpnaaGreatDoor
