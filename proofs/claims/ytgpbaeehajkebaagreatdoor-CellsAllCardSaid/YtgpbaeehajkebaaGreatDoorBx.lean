import Derived.Test.YtgpbaeehajkebaaGreatDoorGv1
import Derived.Test.YtgpbaeehajkebaaGreatDoorGv3
import Derived.Handy
namespace Go.Proofs.YtgpbaeehajkebaaGreatDoor
open Go Go.RowKit
def wideI (s : ByteArray) (i : Nat) : Int := if (begunI s i).1 != (begunI s i).2 then 0 else (begunI s i).2
theorem wide_any (s : ByteArray) (i : Nat) (w : World) (hi : i < s.size) (hs : s.size ≤ 4611686018427387904) :
 Calls Tryz.prog 112 #[.string s, .int .i64 i] w fun e w' => e = .returned (.int .i64 (wideI s i)) ∧ w = w' := by
 have HW : Hid (wideI s i = if (begunI s i).1 != (begunI s i).2 then 0 else (begunI s i).2) := Lib.hid rfl
 generalize wideI s i = R at HW ⊢
 have hB := begun_any s i
 generalize begunI s i = r at *
 obtain ⟨k, n⟩ := r
 simp only at HW hB
 have HB := Lib.hid hB; clear hB
 cases hd : (k != n)
 all_goals
  rw [hd] at HW
  go_enter Tryz.func112, Tryz.ntmps112
  go_wp2_with (go_at_call 135; refine (HB.out _ hi hs).mono ?_; rintro e w' ⟨rfl, rfl⟩)
  go_ret
  rw [HW.out]; exact ⟨rfl, rfl⟩
def numI (t : ByteArray) : Int :=
 if t.size = 1 then bAt t 0 else if t.size = 2 then bAt t 0 % 32 * 64 + bAt t 1 % 64
 else if t.size = 3 then (bAt t 0 % 16 * 64 + bAt t 1 % 64) * 64 + bAt t 2 % 64
 else ((bAt t 0 % 8 * 64 + bAt t 1 % 64) * 64 + bAt t 2 % 64) * 64 + bAt t 3 % 64
set_option maxRecDepth 100000 in
theorem number_any (t : ByteArray) (w : World) (h1 : 1 ≤ t.size) (h4 : t.size ≤ 4) :
 Calls Tryz.prog 113 #[.string t] w fun e w' => e = .returned (.int .i32 (numI t)) ∧ w = w' := by
 have HR : Hid (numI t = if t.size = 1 then bAt t 0 else if t.size = 2 then bAt t 0 % 32 * 64 + bAt t 1 % 64
 else if t.size = 3 then (bAt t 0 % 16 * 64 + bAt t 1 % 64) * 64 + bAt t 2 % 64
 else ((bAt t 0 % 8 * 64 + bAt t 1 % 64) * 64 + bAt t 2 % 64) * 64 + bAt t 3 % 64) := Lib.hid rfl
 generalize numI t = R at HR ⊢
 have b0 := bAt_lo t 0; have c0 := bAt_hi t 0
 have b1 := bAt_lo t 1; have c1 := bAt_hi t 1
 have b2 := bAt_lo t 2; have c2 := bAt_hi t 2
 have b3 := bAt_lo t 3; have c3 := bAt_hi t 3
 have i0 : ∀ w, (Instr.index 9 (.string t) (.int .i64 0)).run Tryz.prog w = .ok (.int .u8 (bAt t 0)) w := fun w => run_bAt t 0 (by omega) w
 have i1 : 1 < t.size → ∀ w, (Instr.index 9 (.string t) (.int .i64 1)).run Tryz.prog w = .ok (.int .u8 (bAt t 1)) w := fun h w => run_bAt t 1 h w
 have i2 : 2 < t.size → ∀ w, (Instr.index 9 (.string t) (.int .i64 2)).run Tryz.prog w = .ok (.int .u8 (bAt t 2)) w := fun h w => run_bAt t 2 h w
 have i3 : 3 < t.size → ∀ w, (Instr.index 9 (.string t) (.int .i64 3)).run Tryz.prog w = .ok (.int .u8 (bAt t 3)) w := fun h w => run_bAt t 3 h w
 generalize bAt t 0 = x0 at *
 generalize bAt t 1 = x1 at *
 generalize bAt t 2 = x2 at *
 generalize bAt t 3 = x3 at *
 rcases (by omega : t.size = 1 ∨ t.size = 2 ∨ t.size = 3 ∨ t.size = 4) with h | h | h | h
 ·simp only [h] at HR
  clear i1 i2 i3
  go_enter Tryz.func113, Tryz.ntmps113
  go_wp2
  go_rounds 2
  all_goals go_ret
  all_goals (rw [HR.out]; exact ⟨by simp, rfl⟩)
 ·simp only [h] at HR
  replace i1 := i1 (by omega)
  clear i2 i3
  go_enter Tryz.func113, Tryz.ntmps113
  go_wp2
  go_rounds 3
  all_goals go_ret
  all_goals (rw [HR.out]; exact ⟨by simp, rfl⟩)
 ·simp only [h] at HR
  replace i1 := i1 (by omega)
  replace i2 := i2 (by omega)
  clear i3
  go_enter Tryz.func113, Tryz.ntmps113
  go_wp2
  go_rounds 4
  all_goals go_ret
  all_goals (rw [HR.out]; exact ⟨by simp, rfl⟩)
 ·simp only [h] at HR
  replace i1 := i1 (by omega)
  replace i2 := i2 (by omega)
  replace i3 := i3 (by omega)
  go_enter Tryz.func113, Tryz.ntmps113
  go_wp2
  go_rounds 5
  all_goals go_ret
  all_goals (rw [HR.out]; exact ⟨by simp, rfl⟩)
end Go.Proofs.YtgpbaeehajkebaaGreatDoor
