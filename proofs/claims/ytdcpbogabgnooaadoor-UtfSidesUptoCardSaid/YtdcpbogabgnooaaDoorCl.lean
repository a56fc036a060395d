/- The walk of UtfEncodes. -/
import Derived.Test.YtdcpbogabgnooaaDoorCk
import Derived.Deep.RegionHeld3
namespace Go.Proofs.YtdcpbogabgnooaaDoor
open Go Go.RowKit Go.Kt Go.Shelf

theorem bl_step {A W W' : World} (h : Below A.heap.size A W) (hb : Below W.heap.size W W') : Below A.heap.size A W' := h.trans (hb.mono h.size)
theorem bl_drew {A W : World} (h : Below A.heap.size A W) : Below A.heap.size A W.drew := h.drew
set_option maxRecDepth 100000 in
set_option maxHeartbeats 2000000 in
theorem encodes_walk (r : Int) (v : Value) (l : List Int) (w : World) (hT : Lib.Utf8Tabs 0 1 w) (h2 : 2 ≤ w.heap.size) (hr : -2147483648 ≤ r ∧ r ≤ 2147483647) (h : Slg .i32 w v l) (hw : ∀ x ∈ l, -2147483648 ≤ x ∧ x ≤ 2147483647) (hl : l.length ≤ 35184372087808) :
    Calls Tryd.prog 6 #[.int .i32 r, v] w fun e w' => e = .returned (.bool true) ∧ Below w.heap.size w w' := by
  have HT := Lib.hid hT; clear hT
  have H := Lib.hid h
  have HW := Lib.hid hw
  obtain ⟨av, cv, rfl, _⟩ := h
  clear hw
  go_enter Tryd.func6, Tryd.ntmps6
  go_wp2_with fail
  refine (lentRunes_any _ l w H.out hl).mono ?_
  rintro e w1 ⟨g, cap, rfl, hc1, hc2, hown1, hb1⟩
  have HC := Lib.hid (And.intro hc1 hc2)
  have HO1 := Lib.hid hown1
  have hz1 := hb1.size
  clear hc1 hc2 hown1
  go_wp2_with fail
  refine (refText_any _ l w1 (H.out.below hb1) HW.out hl).mono ?_
  rintro e w2 ⟨rfl, hb2'⟩
  have hb2 := hb1.trans (hb2'.mono hz1)
  have hz2 := hb2.size
  have hS : Hid (∀ W, Below w2.heap.size w2 W → Sl .i32 W (.slice (some ⟨g, 0, none⟩) (l.length + 16) cap) (l ++ marks 16) ∧ Sl .i32 W (.slice (some ⟨g, 0, none⟩) l.length cap) l ∧ Slg .i32 W (.slice av l.length cv) l ∧ Lib.Utf8Tabs 0 1 W ∧ Below w.heap.size w W ∧ 2 ≤ W.heap.size) := Lib.hid (fun W hb => by
    have h0 : Sl .i32 w1 (.slice (some ⟨g, 0, none⟩) (l.length + 16) cap) (l ++ marks 16) := sl_of_own HO1.out (by simp [marks_len])
    have h1 := (h0.below hb2').below hb
    refine ⟨h1, ?_, H.out.below (hb2.trans (hb.mono hz2)), tabs_below HT.out h2 (hb2.trans (hb.mono hz2)), hb2.trans (hb.mono hz2), by have := hb.size; omega⟩
    obtain ⟨ao, cp, e, h1⟩ := h1
    injection e with e1 e2 e3
    subst e1; subst e3
    refine ⟨_, _, rfl, ?_⟩
    rcases h1 with h | ⟨g', off, e, h⟩
    · have := congrArg List.length h; simp [marks_len] at this
    · refine .inr ⟨g', off, e, fun i x hx => h i x ?_⟩
      rw [List.getElem?_append_left (List.getElem?_eq_some_iff.1 hx).1]
      exact hx)
  clear hb1 hb2' hz1 HO1 H HW
  generalize hE : Utf8.encode r = E
  generalize hTx : runesBytes l = T
  go_wp2_with fail
  have c32 := Lib.hid (fun W => utfEncode_any r W)
  have c33 := Lib.hid (fun W => refEncode_any r W hr)
  have cT := Lib.hid (fun W hb => utfTextg_any _ l W (hS.out W hb).2.1.toG)
  have cV := Lib.hid (fun W hb => textg_run _ l W (hS.out W hb).2.2.1)
  rw [hE] at c32 c33
  rw [hTx] at cT cV
  have cV' := cV.out
  clear cV
  go_region_held3 (fun w' => Below w2.heap.size w2 w') (first | assumption | exact bl_drew (Below.refl _ _) | exact bl_drew (by assumption) | exact bl_step (by assumption) (by assumption)) (first
    | (go_at_call 32; refine (c32.out _).mono ?_; rintro e w' ⟨rfl, rfl⟩)
    | (go_at_call 33; refine (c33.out _).mono ?_; rintro e w' ⟨rfl, hb⟩)
    | (go_at_call 34; refine (cT.out _ (by assumption)).mono ?_; rintro e w' ⟨rfl, rfl⟩)
    | (rw [cV' _ (by assumption)]))
  all_goals
    go_wp2_with (first
      | (go_at_call 35; refine (keptRunes_any _ _ _ l _ (hS.out _ (by assumption)).1 (hS.out _ (by assumption)).2.2.1 hl HC.out.1 HC.out.2).mono ?_; rintro e w' ⟨rfl, rfl⟩)
      | (go_at_call 15; refine (works_any _ (hS.out _ (by assumption)).2.2.2.1 (hS.out _ (by assumption)).2.2.2.2.2).mono ?_; rintro e w' ⟨rfl, hbw⟩))
    go_ret
    exact ⟨rfl, bl_step (hS.out _ (by assumption)).2.2.2.2.1 (by assumption)⟩
end Go.Proofs.YtdcpbogabgnooaaDoor
