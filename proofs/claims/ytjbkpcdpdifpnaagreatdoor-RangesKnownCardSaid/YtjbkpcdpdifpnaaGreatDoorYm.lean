/- The walk of RangesKnown. -/
import Derived.Test.YtjbkpcdpdifpnaaGreatDoorYk
import Derived.Test.YtjbkpcdpdifpnaaGreatDoorYl
namespace Go.Proofs.YtjbkpcdpdifpnaaGreatDoor
open Go Go.RowKit Go.Kt Go.Kt.Rg

theorem rknown_c (w : World) (hP : PEnv w) (hF : FEnv w) : Calls Tryz.prog 3 #[] w fun e w' => e = .returned (.bool true) ∧ Below w.heap.size w w' := by
  have C1 := Lib.hid (kspans_any w hF hP)
  have C2 := Lib.hid (fun X (hX : Below w.heap.size w X) => ktexts_any X (hF.below hX) (hP.below hX))
  clear hP hF
  go_enter Tryz.func3, Tryz.ntmps3
  go_wp2_with fail
  refine C1.out.mono ?_
  rintro e w1 ⟨rfl, hb1⟩
  have C3 := Lib.hid (C2.out w1 hb1)
  have HB1 := Lib.hid hb1
  clear hb1
  go_wp2_with fail
  refine C3.out.mono ?_
  rintro e w2 ⟨rfl, hb2⟩
  have HB2 := Lib.hid (HB1.out.trans (hb2.mono HB1.out.size))
  clear hb2
  go_wp2_with fail
  go_ret
  exact ⟨rfl, HB2.out⟩
end Go.Proofs.YtjbkpcdpdifpnaaGreatDoor
