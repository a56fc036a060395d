/- glossarykit.Pick. -/
import Derived.Test.YtbnnhbmnddaafaaGreatDoorGz2
namespace Go.Proofs.YtbnnhbmnddaafaaGreatDoor
open Go Go.RowKit Go.Kt Go.Shelf

theorem pick_any (k : Int) (n : Nat) (w : World) (_hk : -9223372036854775808 ≤ k ∧ k ≤ 9223372036854775807) (hn : 1 ≤ n) (hn2 : n ≤ 9223372036854775807) :
    Calls Tryz.prog 34 #[.int .i64 k, .int .i64 n] w fun e w' => ∃ m : Nat, m < n ∧ e = .returned (.int .i64 m) ∧ w = w' := by
  have h1 : decide ((n : Int) < 1) = false := by simp; omega
  have hz : ((n : Int) == 0) = false := by simp; omega
  go_enter Tryz.func34, Tryz.ntmps34
  go_wp2
  · have t1 : k.tmod n < n := Int.tmod_lt_of_pos _ (by omega)
    have t2 : -(n : Int) < k.tmod n := Int.lt_tmod_of_pos _ (by omega)
    go_ret
    obtain ⟨m, hm⟩ := Int.eq_ofNat_of_zero_le (show 0 ≤ k.tmod n + n by omega)
    have e1 : wrap64 (k.tmod n + n) = (m : Int) := by rw [hm]; unfold wrap64; omega
    rw [e1]
    exact ⟨m, by omega, rfl, rfl⟩
  · have t1 : k.tmod n < n := Int.tmod_lt_of_pos _ (by omega)
    have t3 : 0 ≤ k.tmod n := by assumption
    go_ret
    obtain ⟨m, hm⟩ := Int.eq_ofNat_of_zero_le t3
    rw [hm]
    exact ⟨m, by omega, rfl, rfl⟩
end Go.Proofs.YtbnnhbmnddaafaaGreatDoor
