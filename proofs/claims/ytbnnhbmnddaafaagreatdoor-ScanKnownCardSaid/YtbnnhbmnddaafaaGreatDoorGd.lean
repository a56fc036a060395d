/- The walk of ScanKnown. -/
import Derived.Test.YtbnnhbmnddaafaaGreatDoorGb
import Derived.Test.YtbnnhbmnddaafaaGreatDoorGc
import Derived.Test.YtbnnhbmnddaafaaGreatDoorGe
namespace Go.Proofs.YtbnnhbmnddaafaaGreatDoor
open Go Go.RowKit Go.Kt Go.Shelf Go.Lib

theorem scanKnown_c (w : World) (hE : KEnv w) : Calls Tryz.prog 3 #[] w fun e w' => e = .returned (.bool true) ∧ Below w.heap.size w w' := by
  have C1 := Lib.hid (kshown_any w hE)
  have C2 := Lib.hid (fun X (hX : Below w.heap.size w X) => krefused_any X (hE.below hX))
  have C3 := Lib.hid (fun X (hX : Below w.heap.size w X) => kedged_any X (hE.below hX))
  clear hE
  go_enter Tryz.func3, Tryz.ntmps3
  go_wp2_with fail
  refine C1.out.mono ?_
  rintro e w1 ⟨rfl, hb1⟩
  have D2 := Lib.hid (C2.out w1 hb1)
  have HB1 := Lib.hid hb1
  clear hb1
  go_wp2_with fail
  refine D2.out.mono ?_
  rintro e w2 ⟨rfl, hb2⟩
  have HB2 := Lib.hid (HB1.out.trans (hb2.mono HB1.out.size))
  have D3 := Lib.hid (C3.out w2 HB2.out)
  clear hb2
  go_wp2_with fail
  refine D3.out.mono ?_
  rintro e w3 ⟨rfl, hb3⟩
  have HB3 := Lib.hid (HB2.out.trans (hb3.mono HB2.out.size))
  clear hb3
  go_wp2_with fail
  go_ret
  exact ⟨rfl, HB3.out⟩
end Go.Proofs.YtbnnhbmnddaafaaGreatDoor
