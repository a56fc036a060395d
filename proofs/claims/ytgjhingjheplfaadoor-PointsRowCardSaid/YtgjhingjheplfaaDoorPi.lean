/- The walks of PointsNext, PointsText, PointsBack. -/
import Derived.Test.YtgjhingjheplfaaDoorPg
import Derived.Test.YtgjhingjheplfaaDoorPh
namespace Go.Proofs.YtgjhingjheplfaaDoor
open Go Go.RowKit Go.Kt Go.Shelf

theorem pnext_walk (s : ByteArray) (a : Int) (w : World) (hE : Env w) (hs : s.size ≤ 140737488351232) :
    Calls Tryd.prog 8 #[.string s, .int .i64 a] w fun e w' => e = .returned (.bool true) ∧ Below w.heap.size w w' := by
  have C1 := Lib.hid (refNext_any s a w (by omega))
  have C2 := Lib.hid (ptsNext_any s a w hE.tabs (by omega))
  have HE := Lib.hid hE
  clear hE
  generalize ptP s a = R at *
  obtain ⟨r, v⟩ := R
  have e1 : (r == r) = true := by simp
  have e2 : (v == v) = true := by simp
  go_enter Tryd.func8, Tryd.ntmps8
  go_wp2_with fail
  refine C1.out.mono ?_
  rintro e w' ⟨rfl, rfl⟩
  go_wp2_with fail
  refine C2.out.mono ?_
  rintro e w1 ⟨rfl, hb1⟩
  go_wp2_with fail
  refine (works2_any _ (HE.out.below HE.out.lt hb1)).mono ?_
  rintro e w2 ⟨rfl, hb2⟩
  go_wp2
  go_ret
  exact ⟨rfl, hb1.trans (hb2.mono hb1.size)⟩

theorem byte_eq {a b : ByteArray} (h : a = b) : (a.toList == b.toList) = true := by rw [h]; simp

set_option maxRecDepth 100000 in
theorem pback_walk (s : ByteArray) (w : World) (hE : Env w) (hs : s.size ≤ 1048576) :
    Calls Tryd.prog 11 #[.string s] w fun e w' => e = .returned (.bool true) ∧ Below w.heap.size w w' := by
  have hul := units_len s
  have C1 := Lib.hid (ptsOf_any s w hE.tabs (by have := hE.lt; omega) (by omega) (by omega))
  have HE := Lib.hid hE
  clear hE
  go_enter Tryd.func11, Tryd.ntmps11
  go_wp2_with fail
  refine C1.out.mono ?_
  rintro e w1 ⟨ao, cap, rfl, hown, hb1⟩
  have hS : Slg .i32 w1 (.slice ao (pts s).length cap) (pts s) := (sl_of_own hown rfl).toG
  have C2 := Lib.hid (ptsText_any _ (pts s) (pts s).length w1 hS (pts_bd s) (by rw [pts_len]; omega) (firstBad_all (pts_points s)))
  have hp : (pts s).length ≤ 1048576 := by rw [pts_len]; omega
  have HP := Lib.hid (textP_pts s)
  have HB := Lib.hid hb1
  clear hS hown hb1
  go_wp2_with fail
  refine C2.out.mono ?_
  rintro e w2 ⟨(⟨_, rfl⟩ | ⟨h, _⟩), hb2⟩
  · rw [HP.out]
    have e1 : (⟨s.data.toList.toArray⟩ : ByteArray) = s := by cases s; simp
    rw [e1]
    have e2 : (s.toList == s.toList) = true := by simp
    have hb : Below w.heap.size w w2 := HB.out.trans (hb2.mono HB.out.size)
    have C3 := Lib.hid (works2_any w2 (HE.out.below HE.out.lt hb))
    have HB2 := Lib.hid hb
    clear hb hb2
    go_wp2_with fail
    refine C3.out.mono ?_
    rintro e w3 ⟨rfl, hb3⟩
    go_wp2
    go_ret
    exact ⟨rfl, HB2.out.trans (hb3.mono HB2.out.size)⟩
  · omega

set_option maxRecDepth 100000 in
set_option maxHeartbeats 1000000 in
theorem ptext_walk (v : Value) (l : List Int) (w : World) (hE : Env w) (h : Slg .i32 w v l) (hw : ∀ x ∈ l, -2147483648 ≤ x ∧ x ≤ 2147483647) (hl : l.length ≤ 35184372087808) :
    Calls Tryd.prog 7 #[v] w fun e w' => e = .returned (.bool true) ∧ Below w.heap.size w w' := by
  obtain ⟨K, hK⟩ := firstBad_ex l
  have C1 := Lib.hid (refTextP_any v l K w h hw hl hK)
  have HE := Lib.hid hE
  have H := Lib.hid h
  have HW := Lib.hid hw
  have HK := Lib.hid hK
  have hKl := hK.le
  obtain ⟨av, cv, rfl, _⟩ := h
  clear hE hw hK
  go_enter Tryd.func7, Tryd.ntmps7
  go_wp2_with fail
  refine C1.out.mono ?_
  have main : ∀ (q : Int) (sq : ByteArray) (w1 : World), Below w.heap.size w w1 → True := fun _ _ _ _ => trivial
  rintro e w1 ⟨he, hb1⟩
  have hz1 := hb1.size
  have C2 := Lib.hid (lentRunes_any _ l w1 (H.out.below hb1) hl)
  rcases he with ⟨hKe, rfl⟩ | ⟨hKl2, rfl⟩
  all_goals
    go_wp2_with fail
    refine C2.out.mono ?_
    rintro e w2 ⟨g, cap, rfl, hc1, hc2, hown2, hb2⟩
    have hb02 := hb1.trans (hb2.mono hz1)
    have hz2 := hb02.size
    have hS0 : Sl .i32 w2 (.slice (some ⟨g, 0, none⟩) (l.length + 16) cap) (l ++ marks 16) := sl_of_own hown2 (by simp [marks_len])
    have hS1 : Sl .i32 w2 (.slice (some ⟨g, 0, none⟩) l.length cap) l := by
      obtain ⟨ao, cp, e, h1⟩ := hS0
      injection e with e1 e2 e3
      subst e1; subst e3
      refine ⟨_, _, rfl, ?_⟩
      rcases h1 with h | ⟨g', off, e, h⟩
      · have := congrArg List.length h; simp [marks_len] at this
      · refine .inr ⟨g', off, e, fun i x hx => h i x ?_⟩
        rw [List.getElem?_append_left (List.getElem?_eq_some_iff.1 hx).1]
        exact hx
    have C3 := Lib.hid (ptsText_any _ l K w2 hS1.toG HW.out hl HK.out)
    have HS0 := Lib.hid hS0
    have HB02 := Lib.hid hb02
    clear hS0 hS1 hown2 hb2 hb02
    go_wp2_with fail
    refine C3.out.mono ?_
    rintro e w3 ⟨he3, hb3⟩
    have hb03 := HB02.out.trans (hb3.mono hz2)
    have C4 := Lib.hid (keptRunes_any g cap _ l w3 (HS0.out.below hb3) (H.out.below hb03) hl hc1 hc2)
    have HE3 := Lib.hid (HE.out.below HE.out.lt hb03)
    have HB03 := Lib.hid hb03
    clear hb3 hb03
    rcases he3 with ⟨hKe3, rfl⟩ | ⟨hKl3, rfl⟩
    all_goals first | (exfalso; omega) | skip
    all_goals
      go_wp2_with fail
      refine C4.out.mono ?_
      rintro e w4 ⟨rfl, rfl⟩
  · have e1 : (ByteArray.toList ⟨(textP l).toArray⟩ == ByteArray.toList ⟨(textP l).toArray⟩) = true := by simp
    go_wp2_with fail
    refine (works2_any _ HE3.out).mono ?_
    rintro e w5 ⟨rfl, hb5⟩
    go_wp2
    go_ret
    exact ⟨rfl, HB03.out.trans (hb5.mono HB03.out.size)⟩
  · have C5 := Lib.hid (at_fault 8 0 K w3 (by omega) (by omega) HE3.out.err)
    go_wp2_with fail
    refine C5.out.mono ?_
    rintro e w5 ⟨rfl, hb5⟩
    have hb05 := HB03.out.trans (hb5.mono HB03.out.size)
    have C6 := Lib.hid (works2_any w5 (HE.out.below HE.out.lt hb05))
    have HB05 := Lib.hid hb05
    clear hb05 hb5
    go_wp2_with fail
    refine C6.out.mono ?_
    rintro e w6 ⟨rfl, hb6⟩
    go_wp2
    go_ret
    exact ⟨rfl, HB05.out.trans (hb6.mono HB05.out.size)⟩
theorem pnext_c (s : ByteArray) (a : Int) (w : World) (hE : Env w) (hs : s.size ≤ 140737488351232) (_ : -9223372036854775808 ≤ a ∧ a ≤ 9223372036854775807) :
    Calls Tryd.prog 8 #[.string s, .int .i64 a] w fun e w' => e = .returned (.bool true) ∧ Below w.heap.size w w' := pnext_walk s a w hE hs
theorem pback_c (s : ByteArray) (w : World) (hE : Env w) (_ : s.size ≤ 140737488351232) (hB : s.size + 1 + 0 ≤ 1048576) :
    Calls Tryd.prog 11 #[.string s] w fun e w' => e = .returned (.bool true) ∧ Below w.heap.size w w' := pback_walk s w hE (by omega)
end Go.Proofs.YtgjhingjheplfaaDoor
