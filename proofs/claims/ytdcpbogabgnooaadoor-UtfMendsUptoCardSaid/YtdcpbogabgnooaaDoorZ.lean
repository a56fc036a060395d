/- The walk of UtfMends. -/
import Derived.Test.YtdcpbogabgnooaaDoorY
import Derived.Test.YtdcpbogabgnooaaDoorU
namespace Go.Proofs.YtdcpbogabgnooaaDoor
open Go Go.RowKit Go.Kt Go.Shelf

theorem mends_c (s by' : ByteArray) (w : World) (hT : Lib.Utf8Tabs 0 1 w) (h2 : 2 ≤ w.heap.size) (_ : s.size ≤ 140737488351232) (_ : by'.size ≤ 140737488351232)
    (hB : s.size + 1 + (by'.size + 1 + 0) ≤ 1048576) : Calls Tryd.prog 9 #[.string s, .string by'] w fun e w' => e = .returned (.bool true) ∧ Below w.heap.size w w' := by
  have hM : s.size + s.size * by'.size ≤ 140737488355328 := by
    have : s.size * by'.size ≤ 1048576 * 1048576 := Nat.mul_le_mul (by omega) (by omega)
    omega
  have HT := Lib.hid hT; clear hT
  have c1 := Lib.hid fun whole w h h2 => utfMend_any s by' whole w h h2 (by omega) hM
  have c2 := Lib.hid fun whole w => refMend_any s by' whole w (by omega) hM
  generalize mendL s by' = R at *
  clear hM
  go_enter Tryd.func9, Tryd.ntmps9
  go_wp2_with fail
  · go_ret
    exact ⟨rfl, Below.refl _ _⟩
  all_goals
    refine (c1.out _ _ HT.out h2).mono ?_
    rintro e w1 ⟨rfl, hb1⟩
    have hz1 := hb1.size
    go_wp2_with fail
    refine (c2.out _ _).mono ?_
    rintro e w2 ⟨rfl, hb2'⟩
    have hb2 := hb1.trans (hb2'.mono hz1)
    have hz2 := hb2.size
    clear hb2' hb1
    go_wp2_with fail
    refine (c1.out _ _ (tabs_below HT.out h2 hb2) (by omega)).mono ?_
    rintro e w3 ⟨rfl, hb3'⟩
    have hb3 := hb2.trans (hb3'.mono hz2)
    have hz3 := hb3.size
    clear hb3' hb2
    go_wp2_with fail
    refine (c2.out _ _).mono ?_
    rintro e w4 ⟨rfl, hb4'⟩
    have hb4 := hb3.trans (hb4'.mono hz3)
    have hz4 := hb4.size
    clear hb4' hb3
    go_wp2_with fail
    refine (works_any _ (tabs_below HT.out h2 hb4) (by omega)).mono ?_
    rintro e w5 ⟨rfl, hb5'⟩
    have hb5 := hb4.trans (hb5'.mono hz4)
    go_wp2_with fail
    go_ret
    exact ⟨rfl, hb5⟩
end Go.Proofs.YtdcpbogabgnooaaDoor
