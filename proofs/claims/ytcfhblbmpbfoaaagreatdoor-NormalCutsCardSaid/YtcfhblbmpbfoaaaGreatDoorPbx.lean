/- The unit at a place: the document's Next, and points.Next. -/
import Derived.Test.YtcfhblbmpbfoaaaGreatDoorGv18
namespace Go.Proofs.YtcfhblbmpbfoaaaGreatDoor
open Go Go.RowKit Go.Lib

theorem ptsNext_any (s : ByteArray) (a : Int) (w : World) (hT : Lib.Utf8Tabs 3 4 w) (hs : s.size ≤ 4611686018427387904) :
    Calls Tryz.prog 63 #[.string s, .int .i64 a] w fun e w' => e = .returned (.tuple #[.int .i32 (ptP s a).1, .int .i64 (ptP s a).2]) ∧ Below w.heap.size w w' := by
  have C := utfDecode_any s a w hT hs
  by_cases hin : 0 ≤ a ∧ a < s.size
  · obtain ⟨i, rfl⟩ := Int.eq_ofNat_of_zero_le hin.1
    have hi : i < s.size := by omega
    rw [decP_in s i hi] at C
    rw [ptP_in s i hi]
    have i0 := run_bAt s i hi
    have l0 := bAt_lo s i; have u0 := bAt_hi s i
    have hw := ptU_wide s i hi
    rw [ptU_wide_eq] at hw
    by_cases hd : Utf8.decode s i = (65533, 1)
    · have e : ptU s i = (1114112 + B s i, 1) := by unfold ptU; rw [if_pos hd]
      have eb : (((1114112 + B s i : Nat)) : Int) = 1114112 + bAt s i := by rw [bAt_B]; omega
      rw [hd] at C
      rw [e, eb]
      have CC := Lib.hid C
      generalize bAt s i = x0 at *
      clear C hd e eb hw hin hT
      go_enter Tryz.func63, Tryz.ntmps63
      go_wp2_with fail
      refine CC.out.mono ?_
      rintro e w1 ⟨rfl, hb⟩
      go_wp2
      go_ret2
      exact ⟨rfl, hb⟩
    · have e : ptU s i = Utf8.decode s i := by unfold ptU; rw [if_neg hd]
      rw [e]
      generalize Utf8.decode s i = d at *
      obtain ⟨r, v⟩ := d
      simp only at C hw
      have CC := Lib.hid C
      have hv0 : ((v : Int) == 0) = false := by simp; omega
      by_cases h1 : v = 1
      · have hr : r ≠ 65533 := fun h => hd (by rw [h, h1])
        have hr0 : ((r : Int) == 65533) = false := by simp; omega
        subst h1
        clear C hd e hw hin hT hr hv0
        go_enter Tryz.func63, Tryz.ntmps63
        go_wp2_with fail
        refine CC.out.mono ?_
        rintro e w1 ⟨rfl, hb⟩
        go_wp2
        go_ret2
        exact ⟨rfl, hb⟩
      · have hv1 : ((v : Int) == 1) = false := by simp; omega
        clear C hd e hw hin hT h1
        go_enter Tryz.func63, Tryz.ntmps63
        go_wp2_with fail
        refine CC.out.mono ?_
        rintro e w1 ⟨rfl, hb⟩
        go_wp2
        go_ret2
        exact ⟨rfl, hb⟩
  · rw [decP_out s a (by omega)] at C
    rw [ptP_out s a (by omega)]
    have CC := Lib.hid C
    clear C hin hT
    go_enter Tryz.func63, Tryz.ntmps63
    go_wp2_with fail
    refine CC.out.mono ?_
    rintro e w1 ⟨rfl, hb⟩
    go_wp2
    go_ret2
    exact ⟨rfl, hb⟩
end Go.Proofs.YtcfhblbmpbfoaaaGreatDoor
