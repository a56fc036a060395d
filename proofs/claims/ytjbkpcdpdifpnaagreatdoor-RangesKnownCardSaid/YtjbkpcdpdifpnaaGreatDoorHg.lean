/- The walk of RangesForms. -/
import Derived.Test.YtjbkpcdpdifpnaaGreatDoorHf
import Derived.Test.YtjbkpcdpdifpnaaGreatDoorNu
namespace Go.Proofs.YtjbkpcdpdifpnaaGreatDoor
open Go Go.RowKit Go.Kt Go.Kt.Rg

set_option maxRecDepth 100000 in
set_option maxHeartbeats 4000000 in
theorem rforms_c (s : ByteArray) (w : World) (hE : PEnv w) (hs : s.size ≤ 140737488351232) :
    Calls Tryz.prog 13 #[.string s] w fun e w' => e = .returned (.bool true) ∧ Below w.heap.size w w' := by
  have CW := Lib.hid (fun V (hb : Below w.heap.size w V) => rworks_any V (hE.1.below hb))
  by_cases hbig : 16384 < s.size
  · have h1 : (16384 : Int) < s.size := by omega
    clear hE hbig hs
    go_enter Tryz.func13, Tryz.ntmps13
    go_wp2_with fail
    go_ret
    exact ⟨rfl, Below.refl _ _⟩
  · have h1 : ¬ (16384 : Int) < s.size := by omega
    have CP := Lib.hid (rparse_any s w (by omega) hE)
    cases hp : prL s.data.toList with
    | error a =>
      obtain ⟨no, q⟩ := a
      have C1 : Hid (Calls Tryz.prog 24 #[.string s] w fun e w' => e = .returned (.tuple #[.pointer none, faultV no (q : Nat)]) ∧ Below w.heap.size w w') := Lib.hid (by
        refine CP.out.mono ?_
        rintro e w' ⟨h, hb⟩
        unfold PrOut at h; rw [hp] at h
        exact ⟨h, hb⟩)
      clear hE hbig CP hp hs
      go_enter Tryz.func13, Tryz.ntmps13
      go_wp2_with fail
      refine C1.out.mono ?_
      rintro e w1 ⟨rfl, hb⟩
      have HB := Lib.hid hb
      clear hb
      go_wp2_with fail
      refine (CW.out _ HB.out).mono ?_
      rintro e w2 ⟨rfl, hb2⟩
      have HB2 := Lib.hid (HB.out.trans (hb2.mono HB.out.size))
      clear hb2
      go_wp2
      go_ret
      exact ⟨rfl, HB2.out⟩
    | ok R =>
      have hR := prL_sound hp
      have hes : (⟨(91 :: printL (spansL R) ++ [93]).toArray⟩ : ByteArray) = s := by rw [← hR.2]
      have C1 : Hid (Calls Tryz.prog 24 #[.string s] w fun e w' => ∃ b, e = .returned (.tuple #[ptrV b, .nilIface]) ∧ SetAt R b w' ∧ Below w.heap.size w w') := Lib.hid (by
        refine CP.out.mono ?_
        rintro e w' ⟨h, hb⟩
        unfold PrOut at h; rw [hp] at h
        obtain ⟨b, he, hs⟩ := h
        exact ⟨b, he, hs, hb⟩)
      have C2 : Hid (∀ b V, SetAt R b V → Below w.heap.size w V → Calls Tryz.prog 25 #[ptrV b] V fun e w' => e = .returned (.string s) ∧ Below w.heap.size w w') := Lib.hid fun b V hs hb => by
        have hE2 := hE.1.below hb
        refine (rPrint_any R b V hs hR.1 hE2.1 hE2.2.1 hE2.2.2).mono ?_
        rintro e w' ⟨he, hb2⟩
        rw [hes] at he
        exact ⟨he, hb.trans (hb2.mono hb.size)⟩
      clear hE hbig CP hp hR hes hs
      go_enter Tryz.func13, Tryz.ntmps13
      go_wp2_with fail
      refine C1.out.mono ?_
      rintro e w1 ⟨b, rfl, hst, hb⟩
      have C3 := Lib.hid (C2.out b w1 hst hb)
      clear hst hb
      go_wp2_with fail
      refine C3.out.mono ?_
      rintro e w2 ⟨rfl, hb2⟩
      have HB2 := Lib.hid hb2
      clear hb2
      go_wp2_with fail
      refine (CW.out _ HB2.out).mono ?_
      rintro e w3 ⟨rfl, hb3⟩
      have HB3 := Lib.hid (HB2.out.trans (hb3.mono HB2.out.size))
      clear hb3
      go_wp2
      go_ret
      exact ⟨rfl, HB3.out⟩
end Go.Proofs.YtjbkpcdpdifpnaaGreatDoor
