/- Parts of the proof of what the last text says. -/
import Derived.Test.YtlfdpdlhppgakaaGreatDoorQs2
import Derived.Test.YtlfdpdlhppgakaaGreatDoorQs1
import Derived.IntWalk
import Derived.Laws.Rows
import Derived.RegionTactic
import Derived.BigRegion
import Derived.Stop.RegionWithIn
import Derived.Deep.RegionWith
import Derived.Lib.FrozenHead2
import Derived.Shelf.LaysM
import Derived.Shelf.LaysC
import Derived.Shelf.Small.Wraps
import Derived.Shelf.Strconv.ToError
import Derived.Shelf.Strconv.ToErrorRange
import Derived.Shelf.Strconv.Lower
import Derived.Shelf.Strings.Search2
import Derived.Shelf.Strings.Prefix
import Derived.Test.YtlfdpdlhppgakaaGreatDoorProg
import Derived.Lib.AtoiErrMem
import Derived.Laws.Strings3
import Derived.Laws.Closers25
import Derived.Laws.Closers25b
import Derived.BigCall
import Derived.BigGuard
import Derived.Lib.PathFns
import Derived.ChangeAlike
import Derived.Deep.QuietTactic
import Derived.BigQuiet
import Derived.WalkLawsBesides
import Derived.OrdersHeld
import Derived.WalkKit
/- The unit at a place: the document's Next, and points.Next. -/
namespace Go.Proofs.YtlfdpdlhppgakaaGreatDoor
open Go Go.RowKit Go.Lib

theorem long_any (c : Int) (w : World) (h0 : 0 ≤ c) (h1 : c < 256) :
    Calls Tryz.prog 65 #[.int .i64 c] w fun e w' => e = .returned (.tuple #[.int .i64 (longI c).1, .int .i64 (longI c).2]) ∧ w = w' := by
  have HR : Hid (longI c = if c < 128 then (1, c) else if 192 ≤ c ∧ c < 224 then (2, c - 192) else if 224 ≤ c ∧ c < 240 then (3, c - 224) else if 240 ≤ c ∧ c < 248 then (4, c - 240) else (0, 0)) := Lib.hid rfl
  generalize longI c = R at HR ⊢
  go_enter Tryz.func65, Tryz.ntmps65
  go_wp2
  all_goals go_ret2
  all_goals
    rw [HR.out]
    first
    | (rw [if_pos (by omega)]; exact ⟨rfl, rfl⟩)
    | (rw [if_neg (by omega), if_pos (by omega)]; exact ⟨rfl, rfl⟩)
    | (rw [if_neg (by omega), if_neg (by omega), if_pos (by omega)]; exact ⟨rfl, rfl⟩)
    | (rw [if_neg (by omega), if_neg (by omega), if_neg (by omega), if_pos (by omega)]; exact ⟨rfl, rfl⟩)
    | (rw [if_neg (by omega), if_neg (by omega), if_neg (by omega), if_neg (by omega)]; exact ⟨rfl, rfl⟩)

theorem least_any (n : Int) (w : World) :
    Calls Tryz.prog 66 #[.int .i64 n] w fun e w' => e = .returned (.int .i64 (leastI n)) ∧ w = w' := by
  have HR : Hid (leastI n = if n = 1 then 0 else if n = 2 then 128 else if n = 3 then 2048 else 65536) := Lib.hid rfl
  generalize leastI n = R at HR ⊢
  by_cases h1 : n = 1
  · subst h1
    go_enter Tryz.func66, Tryz.ntmps66
    go_wp2
    go_ret
    rw [HR.out]; exact ⟨rfl, rfl⟩
  by_cases h2 : n = 2
  · subst h2
    go_enter Tryz.func66, Tryz.ntmps66
    go_wp2
    go_ret
    rw [HR.out]; exact ⟨rfl, rfl⟩
  by_cases h3 : n = 3
  · subst h3
    go_enter Tryz.func66, Tryz.ntmps66
    go_wp2
    go_ret
    rw [HR.out]; exact ⟨rfl, rfl⟩
  · have e1 : (n == 1) = false := by simpa using h1
    have e2 : (n == 2) = false := by simpa using h2
    have e3 : (n == 3) = false := by simpa using h3
    rw [if_neg h1, if_neg h2, if_neg h3] at HR
    clear h1 h2 h3
    go_enter Tryz.func66, Tryz.ntmps66
    go_wp2
    go_ret
    rw [HR.out]; exact ⟨rfl, rfl⟩

theorem char_any (c : Int) (w : World) :
    Calls Tryz.prog 67 #[.int .i64 c] w fun e w' => e = .returned (.bool (charB c)) ∧ w = w' := by
  obtain ⟨R, hR⟩ : ∃ R, charB c = R := ⟨_, rfl⟩
  have HR := Lib.hid hR
  rw [hR]; clear hR
  go_enter Tryz.func67, Tryz.ntmps67
  go_wp2
  all_goals go_ret
  all_goals
    refine ⟨congrArg (fun b => Ending.returned (Value.bool b)) ?_, rfl⟩
    rw [← HR.out, Bool.eq_iff_iff, charB_iff]
    simp
    try omega

set_option maxRecDepth 100000 in
set_option maxHeartbeats 4000000 in
theorem refNext_1 (s : ByteArray) (i : Nat) (w : World) (x0 x1 x2 x3 : Int) (R : Nat × Nat) (hi : i < s.size) (hs : s.size ≤ 4611686018427387904)
    (i0 : ∀ w, (Instr.index 9 (.string s) (.int .i64 (i : Int))).run Tryz.prog w = .ok (.int .u8 x0) w)
    (l0 : 0 ≤ x0) (u0 : x0 < 256) (a : x0 < 128)
    (TF : Hid (∀ a b : Int, nextN ((s.size : Int) - i) x0 x1 x2 x3 = (a, b) → (R.1 : Int) = a ∧ (R.2 : Int) = b)) :
    Calls Tryz.prog 44 #[.string s, .int .i64 i] w fun e w' => e = .returned (.tuple #[.int .i32 R.1, .int .i64 R.2]) ∧ w = w' := by
  have cL : Hid (∀ w, Calls Tryz.prog 65 #[.int .i64 x0] w fun e w' => e = .returned (.tuple #[.int .i64 ((1, x0) : Int × Int).1, .int .i64 ((1, x0) : Int × Int).2]) ∧ w = w') := Lib.hid (fun w => by have := long_any x0 w l0 u0; rw [show longI x0 = (1, x0) by unfold longI; rw [if_pos a]] at this; exact this)
  have cM : Hid (∀ w, Calls Tryz.prog 66 #[.int .i64 1] w fun e w' => e = .returned (.int .i64 0) ∧ w = w') := Lib.hid (fun w => least_any 1 w)
  have HF : Hid ((R.1 : Int) = x0 ∧ (R.2 : Int) = 1) := Lib.hid (TF.out _ _ (by unfold nextN; rw [if_pos a]))
  go_enter Tryz.func44, Tryz.ntmps44
  go_wp2_with (first | (go_at_call 65; refine (cL.out _).mono ?_; rintro e w' ⟨rfl, rfl⟩) | (go_at_call 66; refine (cM.out _).mono ?_; rintro e w' ⟨rfl, rfl⟩))
  go_rounds 1
  all_goals (try go_wp2_with (first | (go_at_call 65; refine (cL.out _).mono ?_; rintro e w' ⟨rfl, rfl⟩) | (go_at_call 66; refine (cM.out _).mono ?_; rintro e w' ⟨rfl, rfl⟩)))
  all_goals go_ret2
  all_goals first | (rw [HF.out.1, HF.out.2]; exact ⟨rfl, rfl⟩) | (exfalso; simp only [Bool.not_eq_false', Bool.not_eq_true', decide_eq_true_eq, decide_eq_false_iff_not] at *; omega)

set_option maxRecDepth 100000 in
set_option maxHeartbeats 4000000 in
theorem refNext_0 (s : ByteArray) (i : Nat) (w : World) (x0 x1 x2 x3 : Int) (R : Nat × Nat) (hi : i < s.size) (_hs : s.size ≤ 4611686018427387904)
    (i0 : ∀ w, (Instr.index 9 (.string s) (.int .i64 (i : Int))).run Tryz.prog w = .ok (.int .u8 x0) w)
    (l0 : 0 ≤ x0) (u0 : x0 < 256) (a : 128 ≤ x0) (b2 : ¬ (192 ≤ x0 ∧ x0 < 224)) (b3 : ¬ (224 ≤ x0 ∧ x0 < 240)) (b4 : ¬ (240 ≤ x0 ∧ x0 < 248))
    (TF : Hid (∀ a b : Int, nextN ((s.size : Int) - i) x0 x1 x2 x3 = (a, b) → (R.1 : Int) = a ∧ (R.2 : Int) = b)) :
    Calls Tryz.prog 44 #[.string s, .int .i64 i] w fun e w' => e = .returned (.tuple #[.int .i32 R.1, .int .i64 R.2]) ∧ w = w' := by
  have cL : Hid (∀ w, Calls Tryz.prog 65 #[.int .i64 x0] w fun e w' => e = .returned (.tuple #[.int .i64 ((0, 0) : Int × Int).1, .int .i64 ((0, 0) : Int × Int).2]) ∧ w = w') := Lib.hid (fun w => by have := long_any x0 w l0 u0; rw [show longI x0 = (0, 0) by unfold longI; rw [if_neg (by omega), if_neg (by omega), if_neg (by omega), if_neg (by omega)]] at this; exact this)
  have cM : Hid (∀ w, Calls Tryz.prog 66 #[.int .i64 0] w fun e w' => e = .returned (.int .i64 65536) ∧ w = w') := Lib.hid (fun w => least_any 0 w)
  have HF : Hid ((R.1 : Int) = 1114112 + x0 ∧ (R.2 : Int) = 1) := Lib.hid (TF.out _ _ (by unfold nextN; rw [if_neg (by omega), if_neg (by omega), if_neg (by omega), if_neg (by omega)]))
  clear b2 b3 b4
  go_enter Tryz.func44, Tryz.ntmps44
  go_wp2_with (first | (go_at_call 65; refine (cL.out _).mono ?_; rintro e w' ⟨rfl, rfl⟩) | (go_at_call 66; refine (cM.out _).mono ?_; rintro e w' ⟨rfl, rfl⟩))
  go_rounds 1
  all_goals (try go_wp2_with (first | (go_at_call 65; refine (cL.out _).mono ?_; rintro e w' ⟨rfl, rfl⟩) | (go_at_call 66; refine (cM.out _).mono ?_; rintro e w' ⟨rfl, rfl⟩)))
  all_goals go_ret2
  all_goals first | (rw [HF.out.1, HF.out.2]; exact ⟨rfl, rfl⟩) | (exfalso; simp only [Bool.not_eq_false', Bool.not_eq_true', decide_eq_true_eq, decide_eq_false_iff_not] at *; omega)

set_option maxRecDepth 100000 in
set_option maxHeartbeats 4000000 in
theorem refNext_2 (s : ByteArray) (i : Nat) (w : World) (x0 x1 x2 x3 : Int) (R : Nat × Nat) (hi : i < s.size) (hs : s.size ≤ 4611686018427387904)
    (i0 : ∀ w, (Instr.index 9 (.string s) (.int .i64 (i : Int))).run Tryz.prog w = .ok (.int .u8 x0) w)
    (i1 : i + 1 < s.size → ∀ w, (Instr.index 9 (.string s) (.int .i64 ((i : Int) + 1))).run Tryz.prog w = .ok (.int .u8 x1) w)
    (l0 : 0 ≤ x0) (u0 : x0 < 256) (hx0 : 192 ≤ x0) (hx1 : x0 < 224) (l1 : 0 ≤ x1) (u1 : x1 < 256)
    (TF : Hid (∀ a b : Int, nextN ((s.size : Int) - i) x0 x1 x2 x3 = (a, b) → (R.1 : Int) = a ∧ (R.2 : Int) = b)) :
    Calls Tryz.prog 44 #[.string s, .int .i64 i] w fun e w' => e = .returned (.tuple #[.int .i32 R.1, .int .i64 R.2]) ∧ w = w' := by
  have cL : Hid (∀ w, Calls Tryz.prog 65 #[.int .i64 x0] w fun e w' => e = .returned (.tuple #[.int .i64 ((2, x0 - 192) : Int × Int).1, .int .i64 ((2, x0 - 192) : Int × Int).2]) ∧ w = w') := Lib.hid (fun w => by have := long_any x0 w l0 u0; rw [show longI x0 = (2, x0 - 192) by unfold longI; rw [if_neg (by omega), if_pos (by omega)]] at this; exact this)
  have cM : Hid (∀ w, Calls Tryz.prog 66 #[.int .i64 2] w fun e w' => e = .returned (.int .i64 128) ∧ w = w') := Lib.hid (fun w => least_any 2 w)
  by_cases hs2 : i + 2 ≤ s.size
  · have hs3 : (i : Int) + 2 ≤ s.size := by omega
    replace i1 := i1 (by omega)
    by_cases g1a : x1 < 128
    · have HF : Hid ((R.1 : Int) = 1114112 + x0 ∧ (R.2 : Int) = 1) := Lib.hid (TF.out _ _ (by unfold nextN; rw [if_neg (by omega), if_pos (by omega), if_neg (by omega)]))
      go_enter Tryz.func44, Tryz.ntmps44
      go_wp2_with (first | (go_at_call 65; refine (cL.out _).mono ?_; rintro e w' ⟨rfl, rfl⟩) | (go_at_call 66; refine (cM.out _).mono ?_; rintro e w' ⟨rfl, rfl⟩))
      go_rounds 2
      all_goals (try go_wp2_with (first | (go_at_call 65; refine (cL.out _).mono ?_; rintro e w' ⟨rfl, rfl⟩) | (go_at_call 66; refine (cM.out _).mono ?_; rintro e w' ⟨rfl, rfl⟩)))
      all_goals go_ret2
      all_goals first | (rw [HF.out.1, HF.out.2]; exact ⟨rfl, rfl⟩) | (exfalso; simp only [Bool.not_eq_false', decide_eq_true_eq] at *; omega)
    replace g1a : 128 ≤ x1 := by omega
    by_cases g1b : 192 ≤ x1
    · have HF : Hid ((R.1 : Int) = 1114112 + x0 ∧ (R.2 : Int) = 1) := Lib.hid (TF.out _ _ (by unfold nextN; rw [if_neg (by omega), if_pos (by omega), if_neg (by omega)]))
      go_enter Tryz.func44, Tryz.ntmps44
      go_wp2_with (first | (go_at_call 65; refine (cL.out _).mono ?_; rintro e w' ⟨rfl, rfl⟩) | (go_at_call 66; refine (cM.out _).mono ?_; rintro e w' ⟨rfl, rfl⟩))
      go_rounds 2
      all_goals (try go_wp2_with (first | (go_at_call 65; refine (cL.out _).mono ?_; rintro e w' ⟨rfl, rfl⟩) | (go_at_call 66; refine (cM.out _).mono ?_; rintro e w' ⟨rfl, rfl⟩)))
      all_goals go_ret2
      all_goals first | (rw [HF.out.1, HF.out.2]; exact ⟨rfl, rfl⟩) | (exfalso; simp only [Bool.not_eq_false', decide_eq_true_eq] at *; omega)
    replace g1b : x1 < 192 := by omega
    by_cases gl : (x0 - 192) * 64 + x1 - 128 < 128
    · have HF : Hid ((R.1 : Int) = 1114112 + x0 ∧ (R.2 : Int) = 1) := Lib.hid (TF.out _ _ (by unfold nextN; rw [if_neg (by omega), if_pos (by omega), if_neg (by omega)]))
      go_enter Tryz.func44, Tryz.ntmps44
      go_wp2_with (first | (go_at_call 65; refine (cL.out _).mono ?_; rintro e w' ⟨rfl, rfl⟩) | (go_at_call 66; refine (cM.out _).mono ?_; rintro e w' ⟨rfl, rfl⟩))
      go_rounds 2
      all_goals (try go_wp2_with (first | (go_at_call 65; refine (cL.out _).mono ?_; rintro e w' ⟨rfl, rfl⟩) | (go_at_call 66; refine (cM.out _).mono ?_; rintro e w' ⟨rfl, rfl⟩)))
      all_goals go_ret2
      all_goals first | (rw [HF.out.1, HF.out.2]; exact ⟨rfl, rfl⟩) | (exfalso; simp only [Bool.not_eq_false', Bool.not_eq_true', decide_eq_true_eq, decide_eq_false_iff_not] at *; omega)
    replace gl : 128 ≤ (x0 - 192) * 64 + x1 - 128 := by omega
    have gm : (x0 - 192) * 64 + x1 - 128 < 55296 := by omega
    have HF : Hid ((R.1 : Int) = (x0 - 192) * 64 + x1 - 128 ∧ (R.2 : Int) = 2) := Lib.hid (TF.out _ _ (by unfold nextN; rw [if_neg (by omega), if_pos (by omega), if_pos ⟨by omega, ⟨g1a, g1b⟩, by omega⟩]))
    go_enter Tryz.func44, Tryz.ntmps44
    go_wp2_with (first | (go_at_call 65; refine (cL.out _).mono ?_; rintro e w' ⟨rfl, rfl⟩) | (go_at_call 66; refine (cM.out _).mono ?_; rintro e w' ⟨rfl, rfl⟩))
    go_rounds 2
    all_goals (try go_wp2_with (first | (go_at_call 65; refine (cL.out _).mono ?_; rintro e w' ⟨rfl, rfl⟩) | (go_at_call 66; refine (cM.out _).mono ?_; rintro e w' ⟨rfl, rfl⟩)))
    all_goals go_ret2
    all_goals first | (rw [HF.out.1, HF.out.2]; exact ⟨rfl, rfl⟩) | (exfalso; simp only [Bool.not_eq_false', decide_eq_true_eq] at *; omega)
  · have HF : Hid ((R.1 : Int) = 1114112 + x0 ∧ (R.2 : Int) = 1) := Lib.hid (TF.out _ _ (by unfold nextN; rw [if_neg (by omega), if_pos (by omega), if_neg (by omega)]))
    have hs3 : (s.size : Int) < i + 2 := by omega
    clear i1 hs2
    go_enter Tryz.func44, Tryz.ntmps44
    go_wp2_with (first | (go_at_call 65; refine (cL.out _).mono ?_; rintro e w' ⟨rfl, rfl⟩) | (go_at_call 66; refine (cM.out _).mono ?_; rintro e w' ⟨rfl, rfl⟩))
    go_rounds 1
    all_goals (try go_wp2_with (first | (go_at_call 65; refine (cL.out _).mono ?_; rintro e w' ⟨rfl, rfl⟩) | (go_at_call 66; refine (cM.out _).mono ?_; rintro e w' ⟨rfl, rfl⟩)))
    all_goals go_ret2
    all_goals first | (rw [HF.out.1, HF.out.2]; exact ⟨rfl, rfl⟩) | (exfalso; simp only [Bool.not_eq_false', decide_eq_true_eq] at *; omega)

set_option maxRecDepth 100000 in
set_option maxHeartbeats 4000000 in
theorem refNext_3 (s : ByteArray) (i : Nat) (w : World) (x0 x1 x2 x3 : Int) (R : Nat × Nat) (hi : i < s.size) (hs : s.size ≤ 4611686018427387904)
    (i0 : ∀ w, (Instr.index 9 (.string s) (.int .i64 (i : Int))).run Tryz.prog w = .ok (.int .u8 x0) w)
    (i1 : i + 1 < s.size → ∀ w, (Instr.index 9 (.string s) (.int .i64 ((i : Int) + 1))).run Tryz.prog w = .ok (.int .u8 x1) w)
    (i2 : i + 2 < s.size → ∀ w, (Instr.index 9 (.string s) (.int .i64 ((i : Int) + 2))).run Tryz.prog w = .ok (.int .u8 x2) w)
    (l0 : 0 ≤ x0) (u0 : x0 < 256) (hx0 : 224 ≤ x0) (hx1 : x0 < 240) (l1 : 0 ≤ x1) (u1 : x1 < 256) (l2 : 0 ≤ x2) (u2 : x2 < 256)
    (TF : Hid (∀ a b : Int, nextN ((s.size : Int) - i) x0 x1 x2 x3 = (a, b) → (R.1 : Int) = a ∧ (R.2 : Int) = b)) :
    Calls Tryz.prog 44 #[.string s, .int .i64 i] w fun e w' => e = .returned (.tuple #[.int .i32 R.1, .int .i64 R.2]) ∧ w = w' := by
  have cL : Hid (∀ w, Calls Tryz.prog 65 #[.int .i64 x0] w fun e w' => e = .returned (.tuple #[.int .i64 ((3, x0 - 224) : Int × Int).1, .int .i64 ((3, x0 - 224) : Int × Int).2]) ∧ w = w') := Lib.hid (fun w => by have := long_any x0 w l0 u0; rw [show longI x0 = (3, x0 - 224) by unfold longI; rw [if_neg (by omega), if_neg (by omega), if_pos (by omega)]] at this; exact this)
  have cM : Hid (∀ w, Calls Tryz.prog 66 #[.int .i64 3] w fun e w' => e = .returned (.int .i64 2048) ∧ w = w') := Lib.hid (fun w => least_any 3 w)
  by_cases hs2 : i + 3 ≤ s.size
  · have hs3 : (i : Int) + 3 ≤ s.size := by omega
    replace i1 := i1 (by omega)
    by_cases g1a : x1 < 128
    · have HF : Hid ((R.1 : Int) = 1114112 + x0 ∧ (R.2 : Int) = 1) := Lib.hid (TF.out _ _ (by unfold nextN; rw [if_neg (by omega), if_neg (by omega), if_pos (by omega), if_neg (by omega)]))
      clear i2
      go_enter Tryz.func44, Tryz.ntmps44
      go_wp2_with (first | (go_at_call 65; refine (cL.out _).mono ?_; rintro e w' ⟨rfl, rfl⟩) | (go_at_call 66; refine (cM.out _).mono ?_; rintro e w' ⟨rfl, rfl⟩))
      go_rounds 2
      all_goals (try go_wp2_with (first | (go_at_call 65; refine (cL.out _).mono ?_; rintro e w' ⟨rfl, rfl⟩) | (go_at_call 66; refine (cM.out _).mono ?_; rintro e w' ⟨rfl, rfl⟩)))
      all_goals go_ret2
      all_goals first | (rw [HF.out.1, HF.out.2]; exact ⟨rfl, rfl⟩) | (exfalso; simp only [Bool.not_eq_false', Bool.not_eq_true', decide_eq_true_eq, decide_eq_false_iff_not] at *; omega)
    replace g1a : 128 ≤ x1 := by omega
    by_cases g1b : 192 ≤ x1
    · have HF : Hid ((R.1 : Int) = 1114112 + x0 ∧ (R.2 : Int) = 1) := Lib.hid (TF.out _ _ (by unfold nextN; rw [if_neg (by omega), if_neg (by omega), if_pos (by omega), if_neg (by omega)]))
      clear i2
      go_enter Tryz.func44, Tryz.ntmps44
      go_wp2_with (first | (go_at_call 65; refine (cL.out _).mono ?_; rintro e w' ⟨rfl, rfl⟩) | (go_at_call 66; refine (cM.out _).mono ?_; rintro e w' ⟨rfl, rfl⟩))
      go_rounds 2
      all_goals (try go_wp2_with (first | (go_at_call 65; refine (cL.out _).mono ?_; rintro e w' ⟨rfl, rfl⟩) | (go_at_call 66; refine (cM.out _).mono ?_; rintro e w' ⟨rfl, rfl⟩)))
      all_goals go_ret2
      all_goals first | (rw [HF.out.1, HF.out.2]; exact ⟨rfl, rfl⟩) | (exfalso; simp only [Bool.not_eq_false', Bool.not_eq_true', decide_eq_true_eq, decide_eq_false_iff_not] at *; omega)
    replace g1b : x1 < 192 := by omega
    replace i2 := i2 (by omega)
    by_cases g2a : x2 < 128
    · have HF : Hid ((R.1 : Int) = 1114112 + x0 ∧ (R.2 : Int) = 1) := Lib.hid (TF.out _ _ (by unfold nextN; rw [if_neg (by omega), if_neg (by omega), if_pos (by omega), if_neg (by omega)]))
      go_enter Tryz.func44, Tryz.ntmps44
      go_wp2_with (first | (go_at_call 65; refine (cL.out _).mono ?_; rintro e w' ⟨rfl, rfl⟩) | (go_at_call 66; refine (cM.out _).mono ?_; rintro e w' ⟨rfl, rfl⟩))
      go_rounds 3
      all_goals (try go_wp2_with (first | (go_at_call 65; refine (cL.out _).mono ?_; rintro e w' ⟨rfl, rfl⟩) | (go_at_call 66; refine (cM.out _).mono ?_; rintro e w' ⟨rfl, rfl⟩)))
      all_goals go_ret2
      all_goals first | (rw [HF.out.1, HF.out.2]; exact ⟨rfl, rfl⟩) | (exfalso; simp only [Bool.not_eq_false', Bool.not_eq_true', decide_eq_true_eq, decide_eq_false_iff_not] at *; omega)
    replace g2a : 128 ≤ x2 := by omega
    by_cases g2b : 192 ≤ x2
    · have HF : Hid ((R.1 : Int) = 1114112 + x0 ∧ (R.2 : Int) = 1) := Lib.hid (TF.out _ _ (by unfold nextN; rw [if_neg (by omega), if_neg (by omega), if_pos (by omega), if_neg (by omega)]))
      go_enter Tryz.func44, Tryz.ntmps44
      go_wp2_with (first | (go_at_call 65; refine (cL.out _).mono ?_; rintro e w' ⟨rfl, rfl⟩) | (go_at_call 66; refine (cM.out _).mono ?_; rintro e w' ⟨rfl, rfl⟩))
      go_rounds 3
      all_goals (try go_wp2_with (first | (go_at_call 65; refine (cL.out _).mono ?_; rintro e w' ⟨rfl, rfl⟩) | (go_at_call 66; refine (cM.out _).mono ?_; rintro e w' ⟨rfl, rfl⟩)))
      all_goals go_ret2
      all_goals first | (rw [HF.out.1, HF.out.2]; exact ⟨rfl, rfl⟩) | (exfalso; simp only [Bool.not_eq_false', Bool.not_eq_true', decide_eq_true_eq, decide_eq_false_iff_not] at *; omega)
    replace g2b : x2 < 192 := by omega
    by_cases gl : ((x0 - 224) * 64 + x1 - 128) * 64 + x2 - 128 < 2048
    · have HF : Hid ((R.1 : Int) = 1114112 + x0 ∧ (R.2 : Int) = 1) := Lib.hid (TF.out _ _ (by unfold nextN; rw [if_neg (by omega), if_neg (by omega), if_pos (by omega), if_neg (by omega)]))
      go_enter Tryz.func44, Tryz.ntmps44
      go_wp2_with (first | (go_at_call 65; refine (cL.out _).mono ?_; rintro e w' ⟨rfl, rfl⟩) | (go_at_call 66; refine (cM.out _).mono ?_; rintro e w' ⟨rfl, rfl⟩))
      go_rounds 3
      all_goals (try go_wp2_with (first | (go_at_call 65; refine (cL.out _).mono ?_; rintro e w' ⟨rfl, rfl⟩) | (go_at_call 66; refine (cM.out _).mono ?_; rintro e w' ⟨rfl, rfl⟩)))
      all_goals go_ret2
      all_goals first | (rw [HF.out.1, HF.out.2]; exact ⟨rfl, rfl⟩) | (exfalso; simp only [Bool.not_eq_false', Bool.not_eq_true', decide_eq_true_eq, decide_eq_false_iff_not] at *; omega)
    replace gl : 2048 ≤ ((x0 - 224) * 64 + x1 - 128) * 64 + x2 - 128 := by omega
    have gt : ((x0 - 224) * 64 + x1 - 128) * 64 + x2 - 128 ≤ 1114111 := by omega
    by_cases gm : ((x0 - 224) * 64 + x1 - 128) * 64 + x2 - 128 < 55296
    · have HF : Hid ((R.1 : Int) = ((x0 - 224) * 64 + x1 - 128) * 64 + x2 - 128 ∧ (R.2 : Int) = 3) := Lib.hid (TF.out _ _ (by unfold nextN; rw [if_neg (by omega), if_neg (by omega), if_pos (by omega), if_pos ⟨by omega, ⟨g1a, g1b⟩, ⟨g2a, g2b⟩, by omega, (charB_iff _).2 (by omega)⟩]))
      go_enter Tryz.func44, Tryz.ntmps44
      go_wp2_with (first | (go_at_call 65; refine (cL.out _).mono ?_; rintro e w' ⟨rfl, rfl⟩) | (go_at_call 66; refine (cM.out _).mono ?_; rintro e w' ⟨rfl, rfl⟩))
      go_rounds 3
      all_goals (try go_wp2_with (first | (go_at_call 65; refine (cL.out _).mono ?_; rintro e w' ⟨rfl, rfl⟩) | (go_at_call 66; refine (cM.out _).mono ?_; rintro e w' ⟨rfl, rfl⟩)))
      all_goals go_ret2
      all_goals first | (rw [HF.out.1, HF.out.2]; exact ⟨rfl, rfl⟩) | (exfalso; simp only [Bool.not_eq_false', Bool.not_eq_true', decide_eq_true_eq, decide_eq_false_iff_not] at *; omega)
    replace gm : 55296 ≤ ((x0 - 224) * 64 + x1 - 128) * 64 + x2 - 128 := by omega
    by_cases gh : ((x0 - 224) * 64 + x1 - 128) * 64 + x2 - 128 ≤ 57343
    · have HF : Hid ((R.1 : Int) = 1114112 + x0 ∧ (R.2 : Int) = 1) := Lib.hid (TF.out _ _ (by unfold nextN; rw [if_neg (by omega), if_neg (by omega), if_pos (by omega), if_neg (by rw [charB_iff]; omega)]))
      go_enter Tryz.func44, Tryz.ntmps44
      go_wp2_with (first | (go_at_call 65; refine (cL.out _).mono ?_; rintro e w' ⟨rfl, rfl⟩) | (go_at_call 66; refine (cM.out _).mono ?_; rintro e w' ⟨rfl, rfl⟩))
      go_rounds 3
      all_goals (try go_wp2_with (first | (go_at_call 65; refine (cL.out _).mono ?_; rintro e w' ⟨rfl, rfl⟩) | (go_at_call 66; refine (cM.out _).mono ?_; rintro e w' ⟨rfl, rfl⟩)))
      all_goals go_ret2
      all_goals first | (rw [HF.out.1, HF.out.2]; exact ⟨rfl, rfl⟩) | (exfalso; simp only [Bool.not_eq_false', decide_eq_true_eq] at *; omega)
    replace gh : 57343 < ((x0 - 224) * 64 + x1 - 128) * 64 + x2 - 128 := by omega
    have HF : Hid ((R.1 : Int) = ((x0 - 224) * 64 + x1 - 128) * 64 + x2 - 128 ∧ (R.2 : Int) = 3) := Lib.hid (TF.out _ _ (by unfold nextN; rw [if_neg (by omega), if_neg (by omega), if_pos (by omega), if_pos ⟨by omega, ⟨g1a, g1b⟩, ⟨g2a, g2b⟩, by omega, (charB_iff _).2 (by omega)⟩]))
    go_enter Tryz.func44, Tryz.ntmps44
    go_wp2_with (first | (go_at_call 65; refine (cL.out _).mono ?_; rintro e w' ⟨rfl, rfl⟩) | (go_at_call 66; refine (cM.out _).mono ?_; rintro e w' ⟨rfl, rfl⟩))
    go_rounds 3
    all_goals (try go_wp2_with (first | (go_at_call 65; refine (cL.out _).mono ?_; rintro e w' ⟨rfl, rfl⟩) | (go_at_call 66; refine (cM.out _).mono ?_; rintro e w' ⟨rfl, rfl⟩)))
    all_goals go_ret2
    all_goals first | (rw [HF.out.1, HF.out.2]; exact ⟨rfl, rfl⟩) | (exfalso; simp only [Bool.not_eq_false', Bool.not_eq_true', decide_eq_true_eq, decide_eq_false_iff_not] at *; omega)
  · have HF : Hid ((R.1 : Int) = 1114112 + x0 ∧ (R.2 : Int) = 1) := Lib.hid (TF.out _ _ (by unfold nextN; rw [if_neg (by omega), if_neg (by omega), if_pos (by omega), if_neg (by omega)]))
    have hs3 : (s.size : Int) < i + 3 := by omega
    clear i1 i2 hs2
    go_enter Tryz.func44, Tryz.ntmps44
    go_wp2_with (first | (go_at_call 65; refine (cL.out _).mono ?_; rintro e w' ⟨rfl, rfl⟩) | (go_at_call 66; refine (cM.out _).mono ?_; rintro e w' ⟨rfl, rfl⟩))
    go_rounds 1
    all_goals (try go_wp2_with (first | (go_at_call 65; refine (cL.out _).mono ?_; rintro e w' ⟨rfl, rfl⟩) | (go_at_call 66; refine (cM.out _).mono ?_; rintro e w' ⟨rfl, rfl⟩)))
    all_goals go_ret2
    all_goals first | (rw [HF.out.1, HF.out.2]; exact ⟨rfl, rfl⟩) | (exfalso; simp only [Bool.not_eq_false', Bool.not_eq_true', decide_eq_true_eq, decide_eq_false_iff_not] at *; omega)

set_option maxRecDepth 100000 in
set_option maxHeartbeats 4000000 in
theorem refNext_4 (s : ByteArray) (i : Nat) (w : World) (x0 x1 x2 x3 : Int) (R : Nat × Nat) (hi : i < s.size) (hs : s.size ≤ 4611686018427387904)
    (i0 : ∀ w, (Instr.index 9 (.string s) (.int .i64 (i : Int))).run Tryz.prog w = .ok (.int .u8 x0) w)
    (i1 : i + 1 < s.size → ∀ w, (Instr.index 9 (.string s) (.int .i64 ((i : Int) + 1))).run Tryz.prog w = .ok (.int .u8 x1) w)
    (i2 : i + 2 < s.size → ∀ w, (Instr.index 9 (.string s) (.int .i64 ((i : Int) + 2))).run Tryz.prog w = .ok (.int .u8 x2) w)
    (i3 : i + 3 < s.size → ∀ w, (Instr.index 9 (.string s) (.int .i64 ((i : Int) + 3))).run Tryz.prog w = .ok (.int .u8 x3) w)
    (l0 : 0 ≤ x0) (u0 : x0 < 256) (hx0 : 240 ≤ x0) (hx1 : x0 < 248) (l1 : 0 ≤ x1) (u1 : x1 < 256) (l2 : 0 ≤ x2) (u2 : x2 < 256) (l3 : 0 ≤ x3) (u3 : x3 < 256)
    (TF : Hid (∀ a b : Int, nextN ((s.size : Int) - i) x0 x1 x2 x3 = (a, b) → (R.1 : Int) = a ∧ (R.2 : Int) = b)) :
    Calls Tryz.prog 44 #[.string s, .int .i64 i] w fun e w' => e = .returned (.tuple #[.int .i32 R.1, .int .i64 R.2]) ∧ w = w' := by
  have cL : Hid (∀ w, Calls Tryz.prog 65 #[.int .i64 x0] w fun e w' => e = .returned (.tuple #[.int .i64 ((4, x0 - 240) : Int × Int).1, .int .i64 ((4, x0 - 240) : Int × Int).2]) ∧ w = w') := Lib.hid (fun w => by have := long_any x0 w l0 u0; rw [show longI x0 = (4, x0 - 240) by unfold longI; rw [if_neg (by omega), if_neg (by omega), if_neg (by omega), if_pos (by omega)]] at this; exact this)
  have cM : Hid (∀ w, Calls Tryz.prog 66 #[.int .i64 4] w fun e w' => e = .returned (.int .i64 65536) ∧ w = w') := Lib.hid (fun w => least_any 4 w)
  by_cases hs2 : i + 4 ≤ s.size
  · have hs3 : (i : Int) + 4 ≤ s.size := by omega
    replace i1 := i1 (by omega)
    by_cases g1a : x1 < 128
    · have HF : Hid ((R.1 : Int) = 1114112 + x0 ∧ (R.2 : Int) = 1) := Lib.hid (TF.out _ _ (by unfold nextN; rw [if_neg (by omega), if_neg (by omega), if_neg (by omega), if_pos (by omega), if_neg (by omega)]))
      clear i2 i3
      go_enter Tryz.func44, Tryz.ntmps44
      go_wp2_with (first | (go_at_call 65; refine (cL.out _).mono ?_; rintro e w' ⟨rfl, rfl⟩) | (go_at_call 66; refine (cM.out _).mono ?_; rintro e w' ⟨rfl, rfl⟩))
      go_rounds 2
      all_goals (try go_wp2_with (first | (go_at_call 65; refine (cL.out _).mono ?_; rintro e w' ⟨rfl, rfl⟩) | (go_at_call 66; refine (cM.out _).mono ?_; rintro e w' ⟨rfl, rfl⟩)))
      all_goals go_ret2
      all_goals first | (rw [HF.out.1, HF.out.2]; exact ⟨rfl, rfl⟩) | (exfalso; simp only [Bool.not_eq_false', Bool.not_eq_true', decide_eq_true_eq, decide_eq_false_iff_not] at *; omega)
    replace g1a : 128 ≤ x1 := by omega
    by_cases g1b : 192 ≤ x1
    · have HF : Hid ((R.1 : Int) = 1114112 + x0 ∧ (R.2 : Int) = 1) := Lib.hid (TF.out _ _ (by unfold nextN; rw [if_neg (by omega), if_neg (by omega), if_neg (by omega), if_pos (by omega), if_neg (by omega)]))
      clear i2 i3
      go_enter Tryz.func44, Tryz.ntmps44
      go_wp2_with (first | (go_at_call 65; refine (cL.out _).mono ?_; rintro e w' ⟨rfl, rfl⟩) | (go_at_call 66; refine (cM.out _).mono ?_; rintro e w' ⟨rfl, rfl⟩))
      go_rounds 2
      all_goals (try go_wp2_with (first | (go_at_call 65; refine (cL.out _).mono ?_; rintro e w' ⟨rfl, rfl⟩) | (go_at_call 66; refine (cM.out _).mono ?_; rintro e w' ⟨rfl, rfl⟩)))
      all_goals go_ret2
      all_goals first | (rw [HF.out.1, HF.out.2]; exact ⟨rfl, rfl⟩) | (exfalso; simp only [Bool.not_eq_false', Bool.not_eq_true', decide_eq_true_eq, decide_eq_false_iff_not] at *; omega)
    replace g1b : x1 < 192 := by omega
    replace i2 := i2 (by omega)
    by_cases g2a : x2 < 128
    · have HF : Hid ((R.1 : Int) = 1114112 + x0 ∧ (R.2 : Int) = 1) := Lib.hid (TF.out _ _ (by unfold nextN; rw [if_neg (by omega), if_neg (by omega), if_neg (by omega), if_pos (by omega), if_neg (by omega)]))
      clear i3
      go_enter Tryz.func44, Tryz.ntmps44
      go_wp2_with (first | (go_at_call 65; refine (cL.out _).mono ?_; rintro e w' ⟨rfl, rfl⟩) | (go_at_call 66; refine (cM.out _).mono ?_; rintro e w' ⟨rfl, rfl⟩))
      go_rounds 3
      all_goals (try go_wp2_with (first | (go_at_call 65; refine (cL.out _).mono ?_; rintro e w' ⟨rfl, rfl⟩) | (go_at_call 66; refine (cM.out _).mono ?_; rintro e w' ⟨rfl, rfl⟩)))
      all_goals go_ret2
      all_goals first | (rw [HF.out.1, HF.out.2]; exact ⟨rfl, rfl⟩) | (exfalso; simp only [Bool.not_eq_false', Bool.not_eq_true', decide_eq_true_eq, decide_eq_false_iff_not] at *; omega)
    replace g2a : 128 ≤ x2 := by omega
    by_cases g2b : 192 ≤ x2
    · have HF : Hid ((R.1 : Int) = 1114112 + x0 ∧ (R.2 : Int) = 1) := Lib.hid (TF.out _ _ (by unfold nextN; rw [if_neg (by omega), if_neg (by omega), if_neg (by omega), if_pos (by omega), if_neg (by omega)]))
      clear i3
      go_enter Tryz.func44, Tryz.ntmps44
      go_wp2_with (first | (go_at_call 65; refine (cL.out _).mono ?_; rintro e w' ⟨rfl, rfl⟩) | (go_at_call 66; refine (cM.out _).mono ?_; rintro e w' ⟨rfl, rfl⟩))
      go_rounds 3
      all_goals (try go_wp2_with (first | (go_at_call 65; refine (cL.out _).mono ?_; rintro e w' ⟨rfl, rfl⟩) | (go_at_call 66; refine (cM.out _).mono ?_; rintro e w' ⟨rfl, rfl⟩)))
      all_goals go_ret2
      all_goals first | (rw [HF.out.1, HF.out.2]; exact ⟨rfl, rfl⟩) | (exfalso; simp only [Bool.not_eq_false', Bool.not_eq_true', decide_eq_true_eq, decide_eq_false_iff_not] at *; omega)
    replace g2b : x2 < 192 := by omega
    replace i3 := i3 (by omega)
    by_cases g3a : x3 < 128
    · have HF : Hid ((R.1 : Int) = 1114112 + x0 ∧ (R.2 : Int) = 1) := Lib.hid (TF.out _ _ (by unfold nextN; rw [if_neg (by omega), if_neg (by omega), if_neg (by omega), if_pos (by omega), if_neg (by omega)]))
      go_enter Tryz.func44, Tryz.ntmps44
      go_wp2_with (first | (go_at_call 65; refine (cL.out _).mono ?_; rintro e w' ⟨rfl, rfl⟩) | (go_at_call 66; refine (cM.out _).mono ?_; rintro e w' ⟨rfl, rfl⟩))
      go_rounds 4
      all_goals (try go_wp2_with (first | (go_at_call 65; refine (cL.out _).mono ?_; rintro e w' ⟨rfl, rfl⟩) | (go_at_call 66; refine (cM.out _).mono ?_; rintro e w' ⟨rfl, rfl⟩)))
      all_goals go_ret2
      all_goals first | (rw [HF.out.1, HF.out.2]; exact ⟨rfl, rfl⟩) | (exfalso; simp only [Bool.not_eq_false', Bool.not_eq_true', decide_eq_true_eq, decide_eq_false_iff_not] at *; omega)
    replace g3a : 128 ≤ x3 := by omega
    by_cases g3b : 192 ≤ x3
    · have HF : Hid ((R.1 : Int) = 1114112 + x0 ∧ (R.2 : Int) = 1) := Lib.hid (TF.out _ _ (by unfold nextN; rw [if_neg (by omega), if_neg (by omega), if_neg (by omega), if_pos (by omega), if_neg (by omega)]))
      go_enter Tryz.func44, Tryz.ntmps44
      go_wp2_with (first | (go_at_call 65; refine (cL.out _).mono ?_; rintro e w' ⟨rfl, rfl⟩) | (go_at_call 66; refine (cM.out _).mono ?_; rintro e w' ⟨rfl, rfl⟩))
      go_rounds 4
      all_goals (try go_wp2_with (first | (go_at_call 65; refine (cL.out _).mono ?_; rintro e w' ⟨rfl, rfl⟩) | (go_at_call 66; refine (cM.out _).mono ?_; rintro e w' ⟨rfl, rfl⟩)))
      all_goals go_ret2
      all_goals first | (rw [HF.out.1, HF.out.2]; exact ⟨rfl, rfl⟩) | (exfalso; simp only [Bool.not_eq_false', Bool.not_eq_true', decide_eq_true_eq, decide_eq_false_iff_not] at *; omega)
    replace g3b : x3 < 192 := by omega
    by_cases gl : (((x0 - 240) * 64 + x1 - 128) * 64 + x2 - 128) * 64 + x3 - 128 < 65536
    · have HF : Hid ((R.1 : Int) = 1114112 + x0 ∧ (R.2 : Int) = 1) := Lib.hid (TF.out _ _ (by unfold nextN; rw [if_neg (by omega), if_neg (by omega), if_neg (by omega), if_pos (by omega), if_neg (by omega)]))
      go_enter Tryz.func44, Tryz.ntmps44
      go_wp2_with (first | (go_at_call 65; refine (cL.out _).mono ?_; rintro e w' ⟨rfl, rfl⟩) | (go_at_call 66; refine (cM.out _).mono ?_; rintro e w' ⟨rfl, rfl⟩))
      go_rounds 4
      all_goals (try go_wp2_with (first | (go_at_call 65; refine (cL.out _).mono ?_; rintro e w' ⟨rfl, rfl⟩) | (go_at_call 66; refine (cM.out _).mono ?_; rintro e w' ⟨rfl, rfl⟩)))
      all_goals go_ret2
      all_goals first | (rw [HF.out.1, HF.out.2]; exact ⟨rfl, rfl⟩) | (exfalso; simp only [Bool.not_eq_false', Bool.not_eq_true', decide_eq_true_eq, decide_eq_false_iff_not] at *; omega)
    replace gl : 65536 ≤ (((x0 - 240) * 64 + x1 - 128) * 64 + x2 - 128) * 64 + x3 - 128 := by omega
    have gm : 55296 ≤ (((x0 - 240) * 64 + x1 - 128) * 64 + x2 - 128) * 64 + x3 - 128 := by omega
    have gh : 57343 < (((x0 - 240) * 64 + x1 - 128) * 64 + x2 - 128) * 64 + x3 - 128 := by omega
    by_cases gt : (((x0 - 240) * 64 + x1 - 128) * 64 + x2 - 128) * 64 + x3 - 128 ≤ 1114111
    · have HF : Hid ((R.1 : Int) = (((x0 - 240) * 64 + x1 - 128) * 64 + x2 - 128) * 64 + x3 - 128 ∧ (R.2 : Int) = 4) := Lib.hid (TF.out _ _ (by unfold nextN; rw [if_neg (by omega), if_neg (by omega), if_neg (by omega), if_pos (by omega), if_pos ⟨by omega, ⟨g1a, g1b⟩, ⟨g2a, g2b⟩, ⟨g3a, g3b⟩, by omega, (charB_iff _).2 (by omega)⟩]))
      go_enter Tryz.func44, Tryz.ntmps44
      go_wp2_with (first | (go_at_call 65; refine (cL.out _).mono ?_; rintro e w' ⟨rfl, rfl⟩) | (go_at_call 66; refine (cM.out _).mono ?_; rintro e w' ⟨rfl, rfl⟩))
      go_rounds 4
      all_goals (try go_wp2_with (first | (go_at_call 65; refine (cL.out _).mono ?_; rintro e w' ⟨rfl, rfl⟩) | (go_at_call 66; refine (cM.out _).mono ?_; rintro e w' ⟨rfl, rfl⟩)))
      all_goals go_ret2
      all_goals first | (rw [HF.out.1, HF.out.2]; exact ⟨rfl, rfl⟩) | (exfalso; simp only [Bool.not_eq_false', Bool.not_eq_true', decide_eq_true_eq, decide_eq_false_iff_not] at *; omega)
    replace gt : 1114111 < (((x0 - 240) * 64 + x1 - 128) * 64 + x2 - 128) * 64 + x3 - 128 := by omega
    have HF : Hid ((R.1 : Int) = 1114112 + x0 ∧ (R.2 : Int) = 1) := Lib.hid (TF.out _ _ (by unfold nextN; rw [if_neg (by omega), if_neg (by omega), if_neg (by omega), if_pos (by omega), if_neg (by rw [charB_iff]; omega)]))
    go_enter Tryz.func44, Tryz.ntmps44
    go_wp2_with (first | (go_at_call 65; refine (cL.out _).mono ?_; rintro e w' ⟨rfl, rfl⟩) | (go_at_call 66; refine (cM.out _).mono ?_; rintro e w' ⟨rfl, rfl⟩))
    go_rounds 4
    all_goals (try go_wp2_with (first | (go_at_call 65; refine (cL.out _).mono ?_; rintro e w' ⟨rfl, rfl⟩) | (go_at_call 66; refine (cM.out _).mono ?_; rintro e w' ⟨rfl, rfl⟩)))
    all_goals go_ret2
    all_goals first | (rw [HF.out.1, HF.out.2]; exact ⟨rfl, rfl⟩) | (exfalso; simp only [Bool.not_eq_false', decide_eq_true_eq] at *; omega)
  · have HF : Hid ((R.1 : Int) = 1114112 + x0 ∧ (R.2 : Int) = 1) := Lib.hid (TF.out _ _ (by unfold nextN; rw [if_neg (by omega), if_neg (by omega), if_neg (by omega), if_pos (by omega), if_neg (by omega)]))
    have hs3 : (s.size : Int) < i + 4 := by omega
    clear i1 i2 i3 hs2
    go_enter Tryz.func44, Tryz.ntmps44
    go_wp2_with (first | (go_at_call 65; refine (cL.out _).mono ?_; rintro e w' ⟨rfl, rfl⟩) | (go_at_call 66; refine (cM.out _).mono ?_; rintro e w' ⟨rfl, rfl⟩))
    go_rounds 1
    all_goals (try go_wp2_with (first | (go_at_call 65; refine (cL.out _).mono ?_; rintro e w' ⟨rfl, rfl⟩) | (go_at_call 66; refine (cM.out _).mono ?_; rintro e w' ⟨rfl, rfl⟩)))
    all_goals go_ret2
    all_goals first | (rw [HF.out.1, HF.out.2]; exact ⟨rfl, rfl⟩) | (exfalso; simp only [Bool.not_eq_false', Bool.not_eq_true', decide_eq_true_eq, decide_eq_false_iff_not] at *; omega)

theorem refNext_in (s : ByteArray) (i : Nat) (w : World) (hi : i < s.size) (hs : s.size ≤ 4611686018427387904) :
    Calls Tryz.prog 44 #[.string s, .int .i64 i] w fun e w' => e = .returned (.tuple #[.int .i32 (ptU s i).1, .int .i64 (ptU s i).2]) ∧ w = w' := by
  have HR := nextN_at s i hi
  have hN : ((s.size - i : Nat) : Int) = (s.size : Int) - i := by omega
  rw [hN] at HR
  simp only [← bAt_B] at HR
  have TF : Hid (∀ a b : Int, nextN ((s.size : Int) - i) (bAt s i) (bAt s (i + 1)) (bAt s (i + 2)) (bAt s (i + 3)) = (a, b) → ((ptU s i).1 : Int) = a ∧ ((ptU s i).2 : Int) = b) := Lib.hid fun a b h => by
    rw [h] at HR
    injection HR with h1 h2
    exact ⟨h1.symm, h2.symm⟩
  have i0 := run_bAt s i hi
  have i1 : i + 1 < s.size → ∀ w, (Instr.index 9 (.string s) (.int .i64 ((i : Int) + 1))).run Tryz.prog w = .ok (.int .u8 (bAt s (i + 1))) w := fun h w => run_bAt' s i 1 h w
  have i2 : i + 2 < s.size → ∀ w, (Instr.index 9 (.string s) (.int .i64 ((i : Int) + 2))).run Tryz.prog w = .ok (.int .u8 (bAt s (i + 2))) w := fun h w => run_bAt' s i 2 h w
  have i3 : i + 3 < s.size → ∀ w, (Instr.index 9 (.string s) (.int .i64 ((i : Int) + 3))).run Tryz.prog w = .ok (.int .u8 (bAt s (i + 3))) w := fun h w => run_bAt' s i 3 h w
  have l0 := bAt_lo s i; have u0 := bAt_hi s i
  by_cases a : bAt s i < 128
  · exact refNext_1 s i w _ _ _ _ _ hi hs i0 l0 u0 a TF
  by_cases b2 : 192 ≤ bAt s i ∧ bAt s i < 224
  · exact refNext_2 s i w _ _ _ _ _ hi hs i0 i1 l0 u0 b2.1 b2.2 (bAt_lo _ _) (bAt_hi _ _) TF
  by_cases b3 : 224 ≤ bAt s i ∧ bAt s i < 240
  · exact refNext_3 s i w _ _ _ _ _ hi hs i0 i1 i2 l0 u0 b3.1 b3.2 (bAt_lo _ _) (bAt_hi _ _) (bAt_lo _ _) (bAt_hi _ _) TF
  by_cases b4 : 240 ≤ bAt s i ∧ bAt s i < 248
  · exact refNext_4 s i w _ _ _ _ _ hi hs i0 i1 i2 i3 l0 u0 b4.1 b4.2 (bAt_lo _ _) (bAt_hi _ _) (bAt_lo _ _) (bAt_hi _ _) (bAt_lo _ _) (bAt_hi _ _) TF
  · exact refNext_0 s i w _ _ _ _ _ hi hs i0 l0 u0 (by omega) b2 b3 b4 TF

theorem refNext_any (s : ByteArray) (a : Int) (w : World) (hs : s.size ≤ 4611686018427387904) :
    Calls Tryz.prog 44 #[.string s, .int .i64 a] w fun e w' => e = .returned (.tuple #[.int .i32 (ptP s a).1, .int .i64 (ptP s a).2]) ∧ w = w' := by
  by_cases hin : 0 ≤ a ∧ a < s.size
  · obtain ⟨i, rfl⟩ := Int.eq_ofNat_of_zero_le hin.1
    rw [ptP_in s i (by omega)]
    exact refNext_in s i w (by omega) hs
  · rw [ptP_out s a (by omega)]
    by_cases h0 : a < 0
    · go_enter Tryz.func44, Tryz.ntmps44
      go_wp2
      go_ret2
      exact ⟨rfl, rfl⟩
    · have h1 : (s.size : Int) ≤ a := by omega
      go_enter Tryz.func44, Tryz.ntmps44
      go_wp2
      go_ret2
      exact ⟨rfl, rfl⟩

end Go.Proofs.YtlfdpdlhppgakaaGreatDoor
/- Lists that were handed in; the kit's lent and kept lists of numbers; the document's text of numbers. -/
namespace Go.Proofs.YtlfdpdlhppgakaaGreatDoor
open Go Go.RowKit Go.Kt Go.Shelf

/-- v is read as the numbers l, wherever it begins. -/
def Slg (k : IntKind) (W : World) (v : Value) (l : List Int) : Prop :=
  ∃ ao cap, v = .slice ao l.length cap ∧ (l = [] ∨ ∃ a : Addr, ao = some a ∧ ∀ i x, l[i]? = some x → W.cell? (a.add i) = some (.int k x))
theorem add_block (a : Addr) (i : Nat) : (a.add i).block = a.block := by unfold Addr.add; split <;> rfl
theorem Slg.below {k : IntKind} {A B : World} {v : Value} {l : List Int} (h : Slg k A v l) (hb : Below A.heap.size A B) : Slg k B v l := by
  obtain ⟨ao, cap, rfl, h⟩ := h
  refine ⟨ao, cap, rfl, ?_⟩
  rcases h with h | ⟨a, rfl, h⟩
  · exact .inl h
  · exact .inr ⟨a, rfl, fun i x hx => (hb.cell (lt_of_cell (h i x hx))).trans (h i x hx)⟩
theorem Slg.below' {k : IntKind} {n : Nat} {w A B : World} {v : Value} {l : List Int} (h : Slg k w v l) (hn : w.heap.size = n) (hA : Below n w A) (hB : Below n A B) : Slg k B v l :=
  h.below (by rw [hn]; exact hA.trans hB)
theorem Sl.toG {k : IntKind} {W : World} {v : Value} {l : List Int} (h : Sl k W v l) : Slg k W v l := by
  obtain ⟨ao, cap, rfl, h⟩ := h
  refine ⟨ao, cap, rfl, ?_⟩
  rcases h with h | ⟨g, off, rfl, h⟩
  · exact .inl h
  · exact .inr ⟨_, rfl, fun i x hx => by rw [Addr.add_lit]; exact h i x hx⟩

theorem textg_run (v : Value) (l : List Int) (w : World) (h : Slg .i32 w v l) : (convert 71 9 v).run Tryz.prog w = .ok (.string (runesBytes l)) w := by
  obtain ⟨ao, cap, rfl, h⟩ := h
  rcases h with rfl | ⟨a, rfl, h⟩
  · cases ao with
    | none => exact run_convert_runes_nil w 71 9 21 _ _ Tryz.underlying71 Tryz.underlying21 Tryz.underlying9
    | some a => exact run_convert_runes w 71 9 21 a 0 cap [] (Nat.le_refl _) Tryz.underlying71 Tryz.underlying21 Tryz.underlying9 (fun j hj => by simp at hj)
  · have := run_convert_runes w 71 9 21 a l.length cap l (Nat.le_refl _) Tryz.underlying71 Tryz.underlying21 Tryz.underlying9 (fun j hj =>
      h j _ (by rw [List.getD_eq_getElem?_getD, List.getElem?_eq_getElem hj]; rfl))
    rwa [List.take_length] at this
/-- The marks that the kit lays behind a lent list. -/
def marks (n : Nat) : List Int := (List.range n).map fun i : Nat => (-91000 - i : Int)
theorem marks_succ (n : Nat) : marks (n + 1) = marks n ++ [-91000 - (n : Int)] := by simp [marks, List.range_succ]
theorem marks_len (n : Nat) : (marks n).length = n := by simp [marks]
abbrev i32s (l : List Int) : List Value := l.map fun x => .int .i32 x

end Go.Proofs.YtlfdpdlhppgakaaGreatDoor
/- How many units; are all numbers characters; a list handed in held against one read. -/
namespace Go.Proofs.YtlfdpdlhppgakaaGreatDoor
open Go Go.RowKit Go.Kt Go.Shelf

def CharsOut (l : List Int) (w : World) (e : Ending) (w' : World) : Prop := e = .returned (.bool (l.all Utf8.valid)) ∧ Drawn w w'
end Go.Proofs.YtlfdpdlhppgakaaGreatDoor
/- The points of a text: the document's Of, and points.Of. -/
namespace Go.Proofs.YtlfdpdlhppgakaaGreatDoor
open Go Go.RowKit Go.Kt Go.Shelf
attribute [local go_sem] Oper.semAt_some

/-- The points of units. -/
def ptL (s : ByteArray) (l : List (Nat × Nat)) : List Int := l.map fun p => ((ptU s p.1).1 : Int)
def pts (s : ByteArray) : List Int := ptL s (units s)
theorem ptL_snoc (s : ByteArray) (l : List (Nat × Nat)) (p : Nat × Nat) : ptL s (l ++ [p]) = ptL s l ++ [((ptU s p.1).1 : Int)] := by simp [ptL]
theorem ptL_len (s : ByteArray) (l : List (Nat × Nat)) : (ptL s l).length = l.length := by simp [ptL]
theorem pts_len (s : ByteArray) : (pts s).length = (units s).length := ptL_len _ _

/-- What a call that makes a list of numbers answers. -/
def Made (B : Nat) (l : List Int) (w : World) (e : Ending) (w' : World) : Prop :=
  ∃ ao cap, e = .returned (.slice ao l.length cap) ∧ OwnS (fun b => B ≤ b) 21 1 (.slice ao l.length cap) l.length (i32s l) w' ∧ Below B w w'

set_option maxRecDepth 100000 in
theorem refOf_any (s : ByteArray) (w : World) (hs : s.size ≤ 4611686018427387904) (hu : (units s).length ≤ 35184372087808) :
    Calls Tryz.prog 36 #[.string s] w (Made w.heap.size (pts s) w) := by
  obtain ⟨R, hR⟩ : ∃ R, units s = R := ⟨_, rfl⟩
  have hRl : R.length ≤ 35184372087808 := by rw [← hR]; exact hu
  have HR := Lib.hid hR
  clear hR hu
  go_enter Tryz.func36, Tryz.ntmps36
  go_wp2
  go_loopw [3, 4] (fun o v wr => ∃ (pos f : Nat) (pre : List (Nat × Nat)) (ao : Option Addr) (cp k : Nat), k = pre.length ∧ v = .int .i64 pos ∧ o = .slice ao k cp ∧ pre ++ unitsF s f pos = R ∧ s.size ≤ pos + f ∧ pos ≤ s.size ∧
      OwnS (fun b => w.heap.size ≤ b) 21 1 (.slice ao k cp) k (i32s (ptL s pre)) wr ∧ Below w.heap.size w wr)
    (fun _ v _ => s.size - (RowKit.intOf v).toNat)
  case atStart => exact ⟨0, s.size, [], none, 0, 0, rfl, rfl, rfl, by rw [← HR.out]; rfl, by omega, by omega, own_nil _ _ _ _, Below.refl _ _⟩
  case round =>
    obtain ⟨pos, f, pre, ao, cp, k, hkl, rfl, rfl, hp, hf, hpl, hown, hb⟩ := hrel
    by_cases hpos : pos < s.size
    · obtain ⟨d1, d2, d3⟩ := dec_width s pos hpos
      obtain ⟨f', rfl⟩ : ∃ f', f = f' + 1 := ⟨f - 1, by omega⟩
      have hun : unitsF s (f' + 1) pos = (pos, (Utf8.decode s pos).1) :: unitsF s f' (pos + (Utf8.decode s pos).2) := by rw [unitsF, if_pos hpos]
      rw [hun] at hp
      rw [← ptU_wide_eq] at hp d1 d2 d3
      have C := refNext_in s pos wr hpos (by omega)
      have hkl2 : k < R.length := by rw [← hp]; simp; omega
      obtain ⟨pr, hpr⟩ : ∃ pr, (pos, (Utf8.decode s pos).1) = pr := ⟨_, rfl⟩
      have hp1 : pos = pr.1 := by rw [← hpr]
      rw [hpr] at hp
      have hsn := ptL_snoc s pre pr
      rw [← hp1] at hsn
      generalize ptU s pos = d at *
      obtain ⟨r, wd⟩ := d
      simp only at d1 d2 d3 C hp hsn
      obtain ⟨g, cap, w2, hrun, hown2, hk2, hg2, hz2⟩ := append_x (P := Tryz.prog) wr 71 21 Tryz.underlying71 tinfo21 rfl (by omega) hown [.int .i32 r] rfl
        (by intro u hu; simp at hu; subst hu; rfl) (by unfold maxLen; omega) (by omega)
      have HG : Hid (OwnS (fun b => w.heap.size ≤ b) 21 1 (.slice (some ⟨g, 0, none⟩) (k + 1) cap) (k + 1) (i32s (ptL s (pre ++ [pr]))) w2 ∧ Below w.heap.size w w2) := Lib.hid (by
        have hge : w.heap.size ≤ g := by
          rcases hg2 with h | h
          · exact hown.2 g h
          · have := hb.size; omega
        refine ⟨?_, hb.trans (hk2.below hb.size fun b h => hown.2 b h)⟩
        have := hown2.weaken (Z := fun b => w.heap.size ≤ b) (fun b h => by subst h; exact hge)
        rw [hsn]
        simpa [i32s] using this)
      have HRun := Lib.hid hrun
      have HP := Lib.hid (And.intro hp hkl)
      have CC := Lib.hid C
      clear hrun hown2 hk2 hg2 hz2 hown hp hsn hkl hpr hp1 hun C
      go_wp2_with (first | (go_at_call 44; refine CC.out.mono ?_; rintro e w' ⟨rfl, rfl⟩) | (at_builtin; refine wpList_append_eq rfl rfl rfl rfl HRun.out ?_))
      go_roundw
      case rel => exact ⟨pos + wd, f', pre ++ [pr], some ⟨g, 0, none⟩, cap, k + 1, by rw [List.length_append, ← HP.out.2]; rfl, by go_num, rfl, by rw [List.append_assoc]; exact HP.out.1, by omega, by omega, HG.out.1, HG.out.2⟩
      case measure => simp [RowKit.intOf]; omega
    · have hun : unitsF s f pos = [] := by
        cases f with
        | zero => rfl
        | succ f => rw [unitsF, if_neg hpos]
      rw [hun, List.append_nil] at hp
      have HO : Hid (Made w.heap.size (pts s) w (.returned (.slice ao k cp)) wr) := Lib.hid ⟨ao, cp, by rw [pts_len, HR.out, ← hp, hkl], by
        have e1 : pts s = ptL s pre := by unfold pts; rw [HR.out, hp]
        rw [e1, ptL_len, ← hkl]
        exact hown, hb⟩
      clear hown hp hun hkl
      go_wp2
      go_ret
      exact HO.out

theorem mk_runes (W : World) (c : Nat) (hc : 4 * c ≤ 281474976710656) :
    ∃ w2, (Instr.makeSlice 71 (.int .i64 0) (.int .i64 (c : Int))).run Tryz.prog W = .ok (.slice (some ⟨W.heap.size, 0, none⟩) 0 c) w2 ∧
      OwnS (fun b => b = W.heap.size) 21 1 (.slice (some ⟨W.heap.size, 0, none⟩) 0 c) 0 [] w2 ∧ w2.heap.size = W.heap.size + 1 ∧ Below W.heap.size W w2 := by
  obtain ⟨i, hi, hz, hs1, hbb1⟩ := info_parts tinfo21
  have hb' : (i.bytes : Int) * (c : Int) ≤ 281474976710656 := by rw [hbb1]; omega
  have hr := run_make (P := Tryz.prog) W 71 21 i (.int .i32 0) Tryz.underlying71 hi hz .i64 .i64 0 c (Int.le_refl _) (by omega) hb' (by omega)
  simp only [Int.toNat_zero, Int.toNat_natCast] at hr
  have hm : c ≤ maxLen := by unfold maxLen; omega
  have hq := World.ownsRow_made (base := 0) W (madeCells (Value.int .i32 0).cells (c * i.size)) c (Nat.zero_le _) hm (size_madeCells _ _) (e := 21)
  rw [hs1] at hq hr
  exact ⟨_, hr, ⟨hq, fun g h => by cases h; rfl⟩, by simp, (Below.refl _ W).alloc (Nat.le_refl _) _⟩

end Go.Proofs.YtlfdpdlhppgakaaGreatDoor
/- The pieces that are ill-formed, held against a list. -/
namespace Go.Proofs.YtlfdpdlhppgakaaGreatDoor
open Go Go.RowKit Go.Kt Go.Shelf
attribute [local go_sem] Oper.semAt_some

theorem tinfo3 : (Tryz.prog.info? 3).map (fun i => (i.zero, i.size, i.bytes)) = some (some (.int .i64 0), 1, 8) := by kernel_rfl

/-- The numbers of a list of pieces. -/
def pieceInts (l : List (Nat × Nat)) : List Int := l.flatMap fun p => [(p.1 : Int), (p.2 : Int)]
theorem pieceInts_snoc (l : List (Nat × Nat)) (p : Nat × Nat) : pieceInts (l ++ [p]) = pieceInts l ++ [(p.1 : Int), (p.2 : Int)] := by simp [pieceInts]
theorem pieceInts_len (l : List (Nat × Nat)) : (pieceInts l).length = 2 * l.length := by
  induction l with
  | nil => rfl
  | cons p l ih => simp [pieceInts] at *; omega
abbrev intCells (l : List Int) : List Value := l.map fun x => .int .i64 x

end Go.Proofs.YtlfdpdlhppgakaaGreatDoor
/- The document's places, numbers, and whether a text is right. -/
namespace Go.Proofs.YtlfdpdlhppgakaaGreatDoor
open Go Go.RowKit Go.Kt Go.Shelf

def plI (l : List (Nat × Nat)) : List Int := l.map fun p => (p.1 : Int)
theorem plI_snoc (l : List (Nat × Nat)) (p : Nat × Nat) : plI (l ++ [p]) = plI l ++ [(p.1 : Int)] := by simp [plI]
theorem plI_len (l : List (Nat × Nat)) : (plI l).length = l.length := by simp [plI]

/-- What a call that makes a list of places answers. -/
def MadeI (B : Nat) (l : List Int) (w : World) (e : Ending) (w' : World) : Prop :=
  ∃ ao cap, e = .returned (.slice ao l.length cap) ∧ OwnS (fun b => B ≤ b) 3 1 (.slice ao l.length cap) l.length (intCells l) w' ∧ Below B w w'

end Go.Proofs.YtlfdpdlhppgakaaGreatDoor
/- UtfWalks' two helpers: forward, backward. -/
namespace Go.Proofs.YtlfdpdlhppgakaaGreatDoor
open Go Go.RowKit Go.Kt Go.Shelf
attribute [local go_sem] Oper.semAt_some

/-- The cell of element k of a list that is read. -/
theorem slg_cell {k : IntKind} {W : World} {ap : Option Addr} {n cp : Nat} {l : List Int} (h : Slg k W (.slice ap n cp) l) (i : Nat) (x : Int) (hx : l[i]? = some x) : ∃ A, ap = some A ∧ W.cell? (A.add i) = some (.int k x) := by
  obtain ⟨ax, cx, e, h⟩ := h
  injection e with e1 _ _
  subst e1
  rcases h with h | ⟨a, e, h⟩
  · rw [h] at hx; simp at hx
  · exact ⟨a, e, h i x hx⟩

end Go.Proofs.YtlfdpdlhppgakaaGreatDoor
/- points.Measure: the walk. -/
namespace Go.Proofs.YtlfdpdlhppgakaaGreatDoor
open Go Go.RowKit Go.Kt Go.Shelf Go.Kt.Bits
attribute [local go_sem] Oper.semAt_some

/-- The masks of n blocks lie in the memory's block g; sums lie there too. -/
def MInv (g n : Nat) (P : Nat → Nat → Bool) (W : World) : Prop :=
  (∀ i, i < n → ∀ k, k < 3 → ∃ m, W.cell? ⟨g, i * 6 + 3 + k, none⟩ = some (.int .u64 ((m : Nat) : Int)) ∧ MaskOf (P k) i m) ∧
  (∀ i, i < n → ∀ k, k < 3 → ∃ v, W.cell? ⟨g, i * 6 + k, none⟩ = some v) ∧ (∀ o, W.frozen? ⟨g, o, none⟩ = false)
theorem MInv.lt {g n : Nat} {P : Nat → Nat → Bool} {W : World} (h : MInv g n P W) (hn : 0 < n) : g < W.heap.size := by
  obtain ⟨m, h1, _⟩ := h.1 0 hn 0 (by omega)
  exact lt_of_cell h1
theorem MInv.keep {g n : Nat} {P : Nat → Nat → Bool} {X : Nat → Prop} {A B : World} (h : MInv g n P A) (hn : 0 < n) (hk : Keep X A B) (hX : ¬ X g) : MInv g n P B :=
  ⟨fun i hi k hk3 => by obtain ⟨m, h1, h2⟩ := h.1 i hi k hk3; exact ⟨m, hk.cell h1 hX, h2⟩, fun i hi k hk3 => by obtain ⟨v, h1⟩ := h.2.1 i hi k hk3; exact ⟨v, hk.cell h1 hX⟩,
    fun o => (hk.frozen (p := ⟨g, o, none⟩) (h.lt hn) hX).trans (h.2.2 o)⟩
theorem MInv.congr {g n : Nat} {P Q : Nat → Nat → Bool} {W : World} (h : MInv g n P W) (e : ∀ k, k < 3 → ∀ x, P k x = Q k x) : MInv g n Q W :=
  ⟨fun i hi k hk3 => by obtain ⟨m, h1, h2⟩ := h.1 i hi k hk3; exact ⟨m, h1, h2.congr (e k hk3)⟩, h.2⟩
def putK (P : Nat → Nat → Bool) (k0 x : Nat) (k y : Nat) : Bool := P k y || (decide (k = k0) && decide (x = y))
theorem MInv.put {g n k0 x m : Nat} {P : Nat → Nat → Bool} {W : World} (h : MInv g n P W) (_hx : x / 64 < n) (hk0 : k0 < 3) (hm : W.cell? ⟨g, x / 64 * 6 + 3 + k0, none⟩ = some (.int .u64 ((m : Nat) : Int))) (hmm : MaskOf (P k0) (x / 64) m) :
    MInv g n (putK P k0 x) (W.setCell ⟨g, x / 64 * 6 + 3 + k0, none⟩ (.int .u64 ((m ||| 2 ^ (x % 64) : Nat) : Int))).drew := by
  have oth : ∀ o, o ≠ x / 64 * 6 + 3 + k0 → (W.setCell ⟨g, x / 64 * 6 + 3 + k0, none⟩ (.int .u64 ((m ||| 2 ^ (x % 64) : Nat) : Int))).drew.cell? ⟨g, o, none⟩ = W.cell? ⟨g, o, none⟩ := fun o ho => by
    show (W.setCell _ _).cell? _ = _
    rw [World.cell?_setCell_other _ _ _ _ (by simp)]
  refine ⟨fun i hi k hk => ?_, fun i hi k hk => ?_, fun o => ?_⟩
  · by_cases e : i = x / 64 ∧ k = k0
    · obtain ⟨rfl, rfl⟩ := e
      refine ⟨_, World.cell?_setCell_same _ _ _ hm, (hmm.put x rfl).congr fun y => by simp [putK]⟩
    · obtain ⟨m', h1, h2⟩ := h.1 i hi k hk
      refine ⟨m', by rw [oth _ (by omega)]; exact h1, ?_⟩
      by_cases ek : k = k0
      · exact (h2.other x (fun ei => e ⟨ei.symm, ek⟩)).congr fun y => by simp [putK, ek]
      · exact h2.congr fun y => by simp [putK, ek]
  · obtain ⟨v, hv⟩ := h.2.1 i hi k hk
    exact ⟨v, by rw [oth _ (by omega)]; exact hv⟩
  · show (W.setCell _ _).frozen? _ = _
    rw [World.frozen?_setCell]; exact h.2.2 o

theorem pre_cnt {p : Nat → Nat → Bool} {M : Nat → Nat → Nat} {n k : Nat} (h : ∀ i, i < n → MaskOf (p k) i (M k i)) : ∀ j, j ≤ n → pre M k j = cnt (p k) (64 * j)
  | 0, _ => rfl
  | j + 1, hj => by rw [pre, pre_cnt h j (by omega), (h j (by omega)).all]

/-- A measured text: its Places lie in the memory's block b, its blocks in g. -/
def MeasAt (s : ByteArray) (b g c : Nat) (W : World) : Prop :=
  W.cell? ⟨b, 0, none⟩ = some (.int .i64 (s.size : Nat)) ∧ W.cell? ⟨b, 1, none⟩ = some (.slice (some ⟨g, 0, none⟩) (s.size / 64 + 1) c) ∧
    ∀ i, i < s.size / 64 + 1 → ∀ k, k < 3 → W.cell? ⟨g, i * 6 + k, none⟩ = some (.int .i64 (cnt (isK s k) (64 * i) : Nat)) ∧ ∃ m, W.cell? ⟨g, i * 6 + 3 + k, none⟩ = some (.int .u64 ((m : Nat) : Int)) ∧ MaskOf (isK s k) i m
def Meas (s : ByteArray) (b : Nat) (W : World) : Prop := ∃ g c, MeasAt s b g c W
theorem MeasAt.keep {s : ByteArray} {b g c : Nat} {X : Nat → Prop} {A B : World} (h : MeasAt s b g c A) (hk : Keep X A B) (hb : ¬ X b) (hg : ¬ X g) : MeasAt s b g c B :=
  ⟨hk.cell h.1 hb, hk.cell h.2.1 hb, fun i hi k hk3 => ⟨hk.cell (h.2.2 i hi k hk3).1 hg, by obtain ⟨m, e1, e2⟩ := (h.2.2 i hi k hk3).2; exact ⟨m, hk.cell e1 hg, e2⟩⟩⟩
theorem Meas.keep {s : ByteArray} {b : Nat} {A B : World} (h : Meas s b A) (hk : Below A.heap.size A B) : Meas s b B := by
  obtain ⟨g, c, h⟩ := h
  exact ⟨g, c, h.keep (X := fun _ => False) (.of_all hk) (fun h => h) (fun h => h)⟩

end Go.Proofs.YtlfdpdlhppgakaaGreatDoor
/- points.Measure: the walk. -/
namespace Go.Proofs.YtlfdpdlhppgakaaGreatDoor
open Go Go.RowKit Go.Kt Go.Shelf Go.Kt.Bits
attribute [local go_sem] Oper.semAt_some

theorem put_snoc (pre : List (Nat × Nat)) (x r : Nat) (a b : Bool) (ha : a = decide (65535 < r)) (hb : b = decide (r = 10)) : ∀ k, k < 3 → ∀ y,
    (if b then putK (if a then putK (putK (fun k => isP k pre) 0 x) 1 x else putK (fun k => isP k pre) 0 x) 2 x else if a then putK (putK (fun k => isP k pre) 0 x) 1 x else putK (fun k => isP k pre) 0 x) k y = isP k (pre ++ [(x, r)]) y := by
  intro k hk y
  rw [isP_snoc]
  subst ha; subst hb
  rcases (by omega : k = 0 ∨ k = 1 ∨ k = 2) with rfl | rfl | rfl
  · by_cases h1 : 65535 < r <;> by_cases h2 : r = 10 <;> simp [putK, kindB, h1, h2]
  · by_cases h1 : 65535 < r <;> by_cases h2 : r = 10 <;> simp [putK, kindB, h1, h2]
  · by_cases h1 : 65535 < r <;> by_cases h2 : r = 10 <;> simp [putK, kindB, h1, h2]

end Go.Proofs.YtlfdpdlhppgakaaGreatDoor
/- points.Places: count; the n-th of a kind. -/
namespace Go.Proofs.YtlfdpdlhppgakaaGreatDoor
open Go Go.RowKit Go.Kt Go.Shelf Go.Kt.Bits

theorem low_mask (m x : Nat) (hm : m < 2 ^ 64) : bits .and .u64 (m : Int) (IntKind.u64.wrap (IntKind.u64.wrap (2 ^ (x % 64)) - 1)) = ((m &&& (2 ^ (x % 64) - 1) : Nat) : Int) := by
  have hp : 0 < 2 ^ (x % 64) := Nat.pos_of_ne_zero (by simp)
  have hlt : 2 ^ (x % 64) < 2 ^ 64 := Nat.pow_lt_pow_right (by decide) (Nat.mod_lt _ (by decide))
  rw [show ((2 : Int) ^ (x % 64)) = ((2 ^ (x % 64) : Nat) : Int) by simp, u64_wrap _ hlt, show ((2 ^ (x % 64) : Nat) : Int) - 1 = ((2 ^ (x % 64) - 1 : Nat) : Int) by omega, u64_wrap _ (by omega)]
  exact bits_and m _ hm (by omega)

end Go.Proofs.YtlfdpdlhppgakaaGreatDoor
/- Sets in memory; common, Count, Has. -/
namespace Go.Proofs.YtlfdpdlhppgakaaGreatDoor
open Go Go.RowKit Go.Kt Go.Kt.Rg Go.Kt.Bits

/-- The cells of runs. -/
def encR (l : List Run) : List Value := l.flatMap fun x => [.int .i64 x.1, .int .i64 x.2]
/-- A slice of runs at the head of its block. -/
def SlR (W : World) (v : Value) (l : List Run) : Prop :=
  ∃ ao cap, v = .slice ao l.length cap ∧ (l = [] ∨ ∃ g, ao = some ⟨g, 0, none⟩ ∧ ∀ (i : Nat) (x : Run), l[i]? = some x → W.cell? ⟨g, i * 2, none⟩ = some (.int .i64 x.1) ∧ W.cell? ⟨g, i * 2 + 1, none⟩ = some (.int .i64 x.2))
theorem SlR.below {A B : World} {v : Value} {l : List Run} (h : SlR A v l) (hb : Below A.heap.size A B) : SlR B v l := by
  obtain ⟨ao, cap, rfl, h⟩ := h
  refine ⟨ao, cap, rfl, ?_⟩
  rcases h with h | ⟨g, rfl, h⟩
  · exact .inl h
  · exact .inr ⟨g, rfl, fun i x hx => ⟨(hb.cell (lt_of_cell (h i x hx).1)).trans (h i x hx).1, (hb.cell (lt_of_cell (h i x hx).2)).trans (h i x hx).2⟩⟩
/-- A set in memory: its Set lies in the block b. -/
def SetAt (l : List Run) (b : Nat) (W : World) : Prop := ∃ v, W.cell? ⟨b, 0, none⟩ = some v ∧ SlR W v l
theorem SetAt.below {A B : World} {b : Nat} {l : List Run} (h : SetAt l b A) (hb : Below A.heap.size A B) : SetAt l b B := by
  obtain ⟨v, h1, h2⟩ := h
  exact ⟨v, (hb.cell (lt_of_cell h1)).trans h1, h2.below hb⟩
abbrev ptrV (b : Nat) : Value := .pointer (some ⟨b, 0, none⟩)

theorem cnt_take (l : List Run) (k : Nat) (x : Run) (h : l[k]? = some x) : cntL (l.take (k + 1)) = cntL (l.take k) + (x.2 - x.1) := by
  induction l generalizing k with
  | nil => simp at h
  | cons y t ih =>
    cases k with
    | zero => simp at h; subst h; simp [cntL]
    | succ k =>
      simp at h
      have := ih k h
      simp only [List.take_succ_cons, cntL]
      omega
theorem CanonFrom.take : ∀ {l : List Run} {lo : Int} (k : Nat), CanonFrom lo l → CanonFrom lo (l.take k)
  | [], _, k, h => by simp; exact h
  | x :: t, lo, 0, _ => trivial
  | x :: t, lo, k + 1, h => ⟨h.1, h.2.1, h.2.2.1, CanonFrom.take k h.2.2.2⟩

end Go.Proofs.YtlfdpdlhppgakaaGreatDoor
/- Rows of runs that a call makes; Not. -/
namespace Go.Proofs.YtlfdpdlhppgakaaGreatDoor
open Go Go.RowKit Go.Kt Go.Kt.Rg

theorem encR_nil : encR [] = [] := rfl
theorem encR_snoc (l : List Run) (x : Run) : encR (l ++ [x]) = encR l ++ [.int .i64 x.1, .int .i64 x.2] := by simp [encR]
theorem encR_len (l : List Run) : (encR l).length = l.length * 2 := by
  induction l with
  | nil => rfl
  | cons x t ih => simp only [encR, List.flatMap_cons, List.length_append, List.length_cons, List.length_nil] at ih ⊢; omega
theorem encR_get : ∀ (l : List Run) (i : Nat) (x : Run), l[i]? = some x → (encR l)[i * 2]? = some (.int .i64 x.1) ∧ (encR l)[i * 2 + 1]? = some (.int .i64 x.2)
  | [], i, x, h => by simp at h
  | y :: t, 0, x, h => by
    obtain rfl := Option.some.inj h
    exact ⟨rfl, rfl⟩
  | y :: t, i + 1, x, h => by
    have := encR_get t i x (by simpa using h)
    show ([Value.int .i64 y.1, .int .i64 y.2] ++ encR t)[(i + 1) * 2]? = _ ∧ ([Value.int .i64 y.1, .int .i64 y.2] ++ encR t)[(i + 1) * 2 + 1]? = _
    rw [List.getElem?_append_right (by simp; omega), List.getElem?_append_right (by simp; omega)]
    simp only [List.length_cons, List.length_nil]
    rw [show (i + 1) * 2 - (0 + 1 + 1) = i * 2 by omega, show (i + 1) * 2 + 1 - (0 + 1 + 1) = i * 2 + 1 by omega]
    exact this
/-- A new set is handed back. -/
def MadeS (l : List Run) (w : World) (e : Ending) (w' : World) : Prop := ∃ b, e = .returned (ptrV b) ∧ SetAt l b w' ∧ Below w.heap.size w w'

/-- Where a row of one's own lies. -/
theorem own_ne {Y : Nat → Prop} {e : TypeId} {size n : Nat} {v : Value} {xs : List Value} {W : World} (h : OwnS Y e size v n xs W) {g : Nat} (hg : v.ownBlock = some g) : g < W.heap.size := by
  rcases h.shape with ⟨rfl, _⟩ | ⟨g', cap, rfl, _, hlt⟩
  · cases hg
  · cases hg; exact hlt
theorem bothL_len : ∀ (s t : List Run), (bothL s t).length ≤ s.length + t.length := by
  intro s t
  fun_induction bothL s t with
  | case1 t => simp
  | case2 a s => simp
  | case3 a s b t h ih => rw [List.length_append]; simp only [List.length_cons] at *; have : (oneR (commonR a b)).length ≤ 1 := by (unfold oneR; split <;> simp)
                          omega
  | case4 a s b t h ih => rw [List.length_append]; simp only [List.length_cons] at *; have : (oneR (commonR a b)).length ≤ 1 := by (unfold oneR; split <;> simp)
                          omega

end Go.Proofs.YtlfdpdlhppgakaaGreatDoor
/- Both and Less. -/
namespace Go.Proofs.YtlfdpdlhppgakaaGreatDoor
open Go Go.RowKit Go.Kt Go.Kt.Rg

/-- The element of a row that is read. -/
theorem SlR.at_ {W : World} {ao : Option Addr} {n cap : Nat} {l : List Run} (h : SlR W (.slice ao n cap) l) {i : Nat} {x : Run} (hx : l[i]? = some x) : ∃ g, ao = some ⟨g, 0, none⟩ ∧ W.cell? ⟨g, i * 2, none⟩ = some (.int .i64 x.1) ∧ W.cell? ⟨g, i * 2 + 1, none⟩ = some (.int .i64 x.2) := by
  obtain ⟨ax, cx, e, h⟩ := h
  injection e with e1 _ _
  subst e1
  rcases h with h | ⟨g, e, h⟩
  · subst h; simp at hx
  · exact ⟨g, e, h i x hx⟩
theorem SlR.len {W : World} {ao : Option Addr} {n cap : Nat} {l : List Run} (h : SlR W (.slice ao n cap) l) : l.length = n := by
  obtain ⟨ax, cx, e, h⟩ := h
  injection e with _ e2 _
  exact e2.symm
theorem one_zero (x : Run) (h : x = (0, 0)) : oneR x = [] := if_pos h
theorem one_some (x : Run) (h : x ≠ (0, 0)) : oneR x = [x] := if_neg h

end Go.Proofs.YtlfdpdlhppgakaaGreatDoor
/- The iterator of a set's spans. -/
namespace Go.Proofs.YtlfdpdlhppgakaaGreatDoor
open Go Go.RowKit Go.Kt Go.Kt.Rg

/-- The span of a run. -/
def spanP (x : Run) : Int × Int := (pntI x.1, pntI (x.2 - 1))
def spansL (l : List Run) : List (Int × Int) := l.map spanP
def encS (x : Int × Int) : Array Value := #[.agg #[.int .i32 x.1, .int .i32 x.2]]
end Go.Proofs.YtlfdpdlhppgakaaGreatDoor
/- slices.AppendSeq of spans; Spans. -/
namespace Go.Proofs.YtlfdpdlhppgakaaGreatDoor
open Go Go.RowKit Go.Kt Go.Kt.Rg
attribute [local go_sem] Oper.semAt_some

def encSp (l : List (Int × Int)) : List Value := l.flatMap fun x => [.int .i32 x.1, .int .i32 x.2]
theorem encSp_snoc (l : List (Int × Int)) (x : Int × Int) : encSp (l ++ [x]) = encSp l ++ [.int .i32 x.1, .int .i32 x.2] := by simp [encSp]

end Go.Proofs.YtlfdpdlhppgakaaGreatDoor
/- Spans of a set. -/
namespace Go.Proofs.YtlfdpdlhppgakaaGreatDoor
open Go Go.RowKit Go.Kt Go.Kt.Rg

/-- A set's row, in any later world. -/
theorem set_row {l : List Run} {b : Nat} {w : World} (h : SetAt l b w) :
    b < w.heap.size ∧ ∃ g, g < w.heap.size ∧ ∃ ao cap, ∀ V, Below w.heap.size w V → (V.cell? ⟨b, 0, none⟩ = some (.slice ao l.length cap) ∧ (l = [] ∨ ao = some ⟨g, 0, none⟩ ∧ ∀ (i : Nat) (x : Run), l[i]? = some x → V.cell? ⟨g, i * 2, none⟩ = some (.int .i64 x.1) ∧ V.cell? ⟨g, i * 2 + 1, none⟩ = some (.int .i64 x.2))) := by
  obtain ⟨v, h1, ao, cap, rfl, h2⟩ := h
  have hb := lt_of_cell h1
  refine ⟨hb, ?_⟩
  cases l with
  | nil => exact ⟨b, hb, ao, cap, fun V hV => ⟨(hV.cell hb).trans h1, .inl rfl⟩⟩
  | cons x t =>
    rcases h2 with h2 | ⟨g, rfl, h2⟩
    · cases h2
    · have hg := lt_of_cell (h2 0 x rfl).1
      refine ⟨g, hg, _, cap, fun V hV => ⟨(hV.cell hb).trans h1, .inr ⟨rfl, fun i y hy => ?_⟩⟩⟩
      have h3 := h2 i y hy
      have e1 : V.cell? ⟨g, i * 2, none⟩ = w.cell? ⟨g, i * 2, none⟩ := hV.cell hg
      have e2 : V.cell? ⟨g, i * 2 + 1, none⟩ = w.cell? ⟨g, i * 2 + 1, none⟩ := hV.cell hg
      exact ⟨e1.trans h3.1, e2.trans h3.2⟩

end Go.Proofs.YtlfdpdlhppgakaaGreatDoor
/- strconv.FormatInt to the base 16, and the one form of a point. -/
namespace Go.Proofs.YtlfdpdlhppgakaaGreatDoor
open Go Go.RowKit Go.Kt Go.Kt.Bits

/-- The digits. -/
def hexD (d : Nat) : UInt8 := if d < 10 then UInt8.ofNat (48 + d) else UInt8.ofNat (87 + d)
def hexF : Nat → Nat → List UInt8
  | 0, u => [hexD (u % 16)]
  | f + 1, u => if u < 16 then [hexD u] else hexF f (u / 16) ++ [hexD (u % 16)]
def hexL (u : Nat) : List UInt8 := hexF 8 u
theorem digit_ix : ∀ (d : Nat), d < 16 → ∀ w : World, (Instr.index 9 (.string ⟨#[48, 49, 50, 51, 52, 53, 54, 55, 56, 57, 97, 98, 99, 100, 101, 102, 103, 104, 105, 106, 107, 108, 109, 110, 111, 112, 113, 114, 115, 116, 117, 118, 119, 120, 121, 122]⟩) (.int .u64 (d : Nat))).run Tryz.prog w = .ok (.int .u8 ((hexD d).toNat : Nat)) w
  | 0, _ => fun _ => by kernel_rfl
  | 1, _ => fun _ => by kernel_rfl
  | 2, _ => fun _ => by kernel_rfl
  | 3, _ => fun _ => by kernel_rfl
  | 4, _ => fun _ => by kernel_rfl
  | 5, _ => fun _ => by kernel_rfl
  | 6, _ => fun _ => by kernel_rfl
  | 7, _ => fun _ => by kernel_rfl
  | 8, _ => fun _ => by kernel_rfl
  | 9, _ => fun _ => by kernel_rfl
  | 10, _ => fun _ => by kernel_rfl
  | 11, _ => fun _ => by kernel_rfl
  | 12, _ => fun _ => by kernel_rfl
  | 13, _ => fun _ => by kernel_rfl
  | 14, _ => fun _ => by kernel_rfl
  | 15, _ => fun _ => by kernel_rfl
  | d + 16, h => by omega
theorem and_15 (u : Nat) (hu : u < 2 ^ 64) : bits .and .u64 (u : Int) 15 = ((u % 16 : Nat) : Int) := by
  have := bits_and u 15 hu (by decide)
  rw [show (15 : Int) = ((15 : Nat) : Int) from rfl, this]
  have e : u &&& 15 = u % 16 := Nat.and_two_pow_sub_one_eq_mod u 4
  rw [e]

set_option maxRecDepth 100000 in
theorem rtz_16 (w : World) (hT : BTab w) : Calls Tryz.prog 110 #[.int .u64 16] w fun e w' => e = .returned (.int .i64 4) ∧ w = w' := by
  have C := Lib.hid (tz_any 16 4 0 w hT (Lib.hid (by decide)))
  go_enter Tryz.func110, Tryz.ntmps110
  go_wp2_with fail
  refine C.out.mono ?_
  rintro e w' ⟨rfl, h⟩
  go_wp2
  go_ret
  exact ⟨rfl, h⟩
theorem rpow2_16 (w : World) : Calls Tryz.prog 109 #[.int .i64 16] w fun e w' => e = .returned (.bool true) ∧ w = w' := by
  go_enter Tryz.func109, Tryz.ntmps109
  go_wp2
  go_ret
  exact ⟨by kernel_rfl, rfl⟩
set_option maxRecDepth 100000 in
set_option maxHeartbeats 2000000 in
theorem rbits_any (u : Nat) (w : World) (hT : BTab w) (hu : u < 16 ^ 6) :
    Calls Tryz.prog 96 #[.slice none 0 0, .int .u64 u, .int .i64 16, .bool false, .bool false] w fun e w' => e = .returned (.tuple #[.slice none 0 0, .string ⟨(hexL u).toArray⟩]) ∧ Below w.heap.size w w' := by
  have CT := Lib.hid (fun V (h : BTab V) => rtz_16 V h)
  have CP := Lib.hid rpow2_16
  have HT := Lib.hid hT
  clear hT
  go_enter Tryz.func96, Tryz.ntmps96
  go_wp2_with (go_at_call 109; refine (CP.out _).mono ?_; rintro e w1 ⟨rfl, rfl⟩)
  refine (CT.out _ (fun j hj => (((Below.refl w.heap.size w).alloc (Nat.le_refl _) _).cell (lt_of_cell (HT.out j hj))).trans (HT.out j hj))).mono ?_
  rintro e w1 ⟨rfl, rfl⟩
  obtain ⟨W, hW⟩ : ∃ W, w.alloc (.cells Tryz.zeroCells161 161) = W := ⟨_, rfl⟩
  have hb : Below w.heap.size w W := by rw [← hW]; exact (Below.refl _ _).alloc (Nat.le_refl _) _
  have hh : W.heap[w.heap.size]? = some (.cells Tryz.zeroCells161 161 (0, 0)) := by rw [← hW]; exact World.alloc_heap_new w _
  have hzs : (Tryz.zeroCells161).size = 65 := by kernel_rfl
  have HW := Lib.hid (And.intro hb (And.intro hh hzs))
  rw [hW]
  clear hW hb hh hzs
  go_wp2_with fail
  go_loopw [1, 13] (fun x i wr => ∃ (k v : Nat) (suf : List UInt8) (cs : Array Value), x = .int .u64 (v : Nat) ∧ i = .int .i64 (65 - (k : Int)) ∧ k ≤ 5 ∧ v < 16 ^ (6 - k) ∧ hexF (8 - k) v ++ suf = hexL u ∧ suf.length = k ∧ wr.heap[w.heap.size]? = some (.cells cs 161 (0, 0)) ∧ cs.size = 65 ∧
      (∀ j b, suf[j]? = some b → cs[65 - k + j]? = some (.int .u8 (b.toNat : Nat))) ∧ Below w.heap.size w wr) (fun x _ _ => (RowKit.intOf x).toNat)
  case atStart => exact ⟨0, u, [], _, rfl, rfl, by omega, hu, by simp [hexL], rfl, HW.out.2.1, HW.out.2.2, fun j b h => by simp at h, HW.out.1⟩
  case round =>
    obtain ⟨k, v, suf, cs, rfl, rfl, hk, hv, hhex, hsl, hcs, hsz, hcell, hb⟩ := hrel
    have hv6 : v < 16777216 := Nat.lt_of_lt_of_le hv (Nat.le_trans (Nat.pow_le_pow_right (by decide) (show 6 - k ≤ 6 by omega)) (by decide))
    have HI := Lib.hid (And.intro hv (And.intro hhex (And.intro hsl (And.intro hcs (And.intro hsz (And.intro hcell hb))))))
    have c0 : ∀ i, i < 65 → ∃ y, wr.cell? ⟨w.heap.size, i, none⟩ = some y := fun i hi => ⟨cs[i]'(by omega), by rw [Lib.cell_of_heap hcs]; exact Array.getElem?_eq_getElem _⟩
    obtain ⟨q, hq⟩ : ∃ q, k + 1 + q = 65 := ⟨65 - k - 1, by omega⟩
    obtain ⟨y, c1⟩ := c0 q (by omega)
    have f1 : wr.frozen? ⟨w.heap.size, q, none⟩ = false := Lib.frozen_of_heap hcs _
    have e64 : (65 : Int) - (k : Int) - 1 = (q : Int) := by omega
    have hq65 : (q : Int) < 65 := by omega
    have SET : Hid (∀ d : UInt8, (wr.setCell ⟨w.heap.size, q, none⟩ (.int .u8 (d.toNat : Nat))).heap[w.heap.size]? = some (.cells (cs.setIfInBounds q (.int .u8 (d.toNat : Nat))) 161 (0, 0)) ∧ (cs.setIfInBounds q (.int .u8 (d.toNat : Nat))).size = 65 ∧
        (∀ j b, (d :: suf)[j]? = some b → (cs.setIfInBounds q (.int .u8 (d.toNat : Nat)))[q + j]? = some (.int .u8 (b.toNat : Nat))) ∧ Below w.heap.size w (wr.setCell ⟨w.heap.size, q, none⟩ (.int .u8 (d.toNat : Nat)))) := Lib.hid fun d => by
      refine ⟨heap_setCell_same wr _ q cs _ _ hcs, by simpa using hsz, fun j b hj => ?_, hb.setCell (Nat.le_refl _) _⟩
      cases j with
      | zero =>
        simp at hj; subst hj
        rw [Nat.add_zero, Array.getElem?_setIfInBounds, if_pos rfl, if_pos (by omega)]
      | succ j =>
        rw [Array.getElem?_setIfInBounds, if_neg (by omega)]
        have := hcell j b (by simpa using hj)
        rw [show 65 - k + j = q + (j + 1) by omega] at this
        exact this
    clear hv hhex hsl hcs hsz hcell hb c0
    by_cases h16 : 16 ≤ v
    · have h16' : (16 : Int) ≤ (v : Int) := by omega
      have hk4 : k < 5 := by
        rcases Nat.lt_or_ge k 5 with h | h
        · exact h
        · have := HI.out.1; rw [show 6 - k = 1 by omega] at this; omega
      obtain ⟨r, hr⟩ : ∃ r, v % 16 = r := ⟨_, rfl⟩
      obtain ⟨z, hz⟩ : ∃ z, v / 16 = z := ⟨_, rfl⟩
      have hz' : (v : Int) / 16 = (z : Int) := by omega
      have d1 := and_15 v (by omega)
      rw [hr] at d1
      have d2 := digit_ix r (by omega)
      have HZ : Hid (z < 16 ^ (6 - (k + 1)) ∧ hexF (8 - (k + 1)) z ++ (hexD r :: suf) = hexL u) := Lib.hid (by
        refine ⟨?_, ?_⟩
        · have := HI.out.1
          rw [show 6 - k = 6 - (k + 1) + 1 by omega, Nat.pow_succ] at this
          rw [← hz]; omega
        · have := HI.out.2.1
          rw [show 8 - k = 8 - (k + 1) + 1 by omega, hexF, if_neg (by omega), hr, hz, List.append_assoc] at this
          exact this)
      have hzv : z < v := by omega
      clear hr hz
      go_wp2_with fail
      go_roundw
      case rel =>
        obtain ⟨s1, s2, s3, s4⟩ := SET.out (hexD r)
        exact ⟨k + 1, z, hexD r :: suf, _, rfl, by congr 1; omega, by omega, HZ.out.1, HZ.out.2, by simp [HI.out.2.2.1], s1, s2, fun j b hj => by rw [show 65 - (k + 1) + j = q + j by omega]; exact s3 j b hj, s4⟩
      case measure => simp [RowKit.intOf]; omega
    · have h16' : ¬ (16 : Int) ≤ (v : Int) := by omega
      have d2 := digit_ix v (by omega)
      obtain ⟨s1, s2, s3, s4⟩ := SET.out (hexD v)
      have hal : Tryz.prog.arrayLen 161 = 65 := by kernel_rfl
      have hsl : ∀ W : World, (Instr.sliceAt 161 (.pointer (some ⟨w.heap.size, 0, none⟩)) (some (.int .i64 (q : Nat))) none none).run Tryz.prog W = .ok (.slice (some ⟨w.heap.size, q, none⟩) (k + 1) (k + 1)) W := fun W => by
        rw [run_sliceAt_array_l W 161 ⟨w.heap.size, 0, none⟩ (by kernel_rfl) .i64 (q : Nat) (by omega) (by rw [hal]; omega), hal]
        have e1 : Tryz.prog.elem 161 = 5 := by kernel_rfl
        rw [e1, Tryz.sizeOf5]
        simp only [Result.andThen_ok, slicedAt, Int.toNat_natCast]
        rw [if_neg (by omega), show 65 - q = k + 1 by omega, Addr.add_lit]
        simp
      have hcv := run_convert_bytes_back (P := Tryz.prog) (wr.setCell ⟨w.heap.size, q, none⟩ (.int .u8 ((hexD v).toNat : Nat))) 51 9 5 ⟨w.heap.size, q, none⟩ (k + 1) (hexD v :: suf) Tryz.underlying51 Tryz.underlying5 Tryz.underlying9 (fun j hj => by
        rw [Addr.add_lit, Lib.cell_of_heap s1]
        have := s3 j _ (List.getElem?_eq_getElem hj)
        rw [this])
      rw [List.length_cons, HI.out.2.2.1] at hcv
      have HL : Hid ((hexD v :: suf) = hexL u) := Lib.hid (by
        have := HI.out.2.1
        rw [show 8 - k = (7 - k) + 1 by omega, hexF, if_pos (by omega)] at this
        exact this)
      rw [HL.out] at hcv
      have HS := Lib.hid s4
      clear s1 s2 s3 s4 hal
      go_wp2_with fail
      go_ret2
      exact ⟨rfl, HS.out⟩

set_option maxRecDepth 100000 in
theorem rformat_any (u : Nat) (w : World) (hT : BTab w) (hu : u < 16 ^ 6) :
    Calls Tryz.prog 60 #[.int .i64 u, .int .i64 16] w fun e w' => e = .returned (.string ⟨(hexL u).toArray⟩) ∧ Below w.heap.size w w' := by
  have C := Lib.hid (rbits_any u w hT hu)
  have hu2 : u < 16777216 := hu
  have C2 : Hid (Calls Tryz.prog 83 #[.int .i64 u, .int .i64 16] w fun e w' => e = .returned (.string ⟨(hexL u).toArray⟩) ∧ Below w.heap.size w w') := Lib.hid (by
    clear hT
    go_enter Tryz.func83, Tryz.ntmps83
    go_wp2_with fail
    refine C.out.mono ?_
    rintro e w' ⟨rfl, hb⟩
    go_wp2
    go_ret
    exact ⟨rfl, hb⟩)
  clear hT
  go_enter Tryz.func60, Tryz.ntmps60
  go_wp2_with fail
  refine C2.out.mono ?_
  rintro e w' ⟨rfl, hb⟩
  go_wp2
  go_ret
  exact ⟨rfl, hb⟩

/-- The one form of a point. -/
def printP (r : Int) : List UInt8 := if 1114111 < r then [92, 120] ++ hexL (r - 1114112).toNat else [92, 117, 123] ++ hexL r.toNat ++ [125]
theorem hexF_len : ∀ (f u : Nat), (hexF f u).length ≤ f + 1
  | 0, _ => by simp [hexF]
  | f + 1, u => by
    have := hexF_len f (u / 16)
    unfold hexF
    split
    · simp
    · rw [List.length_append]; simp; omega
theorem bytes_add (a b : List UInt8) : (⟨a.toArray⟩ : ByteArray) ++ ⟨b.toArray⟩ = ⟨(a ++ b).toArray⟩ := by
  apply ByteArray.ext
  simp
end Go.Proofs.YtlfdpdlhppgakaaGreatDoor
/- The document's text of numbers; the kit's look at a lent list. -/
namespace Go.Proofs.YtlfdpdlhppgakaaGreatDoor
open Go Go.RowKit Go.Kt Go.Shelf

theorem runesBytes_snoc (l : List Int) (x : Int) : runesBytes (l ++ [x]) = runesBytes l ++ Utf8.encode x := by simp [runesBytes]
theorem OwnB.below {Y : Nat → Prop} {v : Value} {l : List UInt8} {A B : World} (h : OwnB Y v l A) (hb : Below A.heap.size A B) : OwnB Y v l B :=
  ⟨ownsF_keep h.1 (X := fun _ => False) (.of_all hb) (fun _ _ h => h), h.2⟩
theorem encode_size (x : Int) : (Utf8.encode x).size ≤ 4 := by
  have := runesBytes_size_le [x]
  simpa [runesBytes] using this

end Go.Proofs.YtlfdpdlhppgakaaGreatDoor
/- What is the same of any program: one element more behind a row whose head may be frozen. -/
namespace Go.Kt
open Go Go.RowKit
variable {P : Program}

/-- 'append(v, x)' of one byte, the row's head frozen or not. -/
theorem append_b (W : World) (t e : TypeId) (ht : P.underlying t = some (.slice e)) (hinfo : (P.info? e).map (fun i => (i.zero, i.size, i.bytes)) = some (some (.int .u8 0), 1, 1))
    {v : Value} {n : Nat} {xs : List Value} (hown : W.ownsRowF 0 e 1 v n xs) (x : Value) (hx1 : x.oneCell' = true) (h63 : n + 1 ≤ 140737488355328) :
    ∃ g cap w', (∀ ty, (Builtin.append_ #[t, t] ty #[v, .slice (some ⟨W.heap.size, 0, none⟩) 1 1]).run P (W.alloc (.cells #[x] e)) = .ok (.slice (some ⟨g, 0, none⟩) (n + 1) cap) w') ∧ w'.ownsRowF 0 e 1 (.slice (some ⟨g, 0, none⟩) (n + 1) cap) (n + 1) (xs ++ [x]) ∧
      Keep (fun b => v.ownBlock = some b) W w' ∧ (v.ownBlock = some g ∨ W.heap.size < g) ∧ W.heap.size < w'.heap.size := by
  obtain ⟨i, hi, hz, hs1, hb1⟩ := info_parts hinfo
  have hc : ∀ j u, [x][j]? = some u → (W.alloc (.cells #[x] e)).cell? ((⟨W.heap.size, 0, none⟩ : Addr).add j) = some u := fun j u hj => by
    have hh := World.alloc_heap_new W (.cells #[x] e)
    rw [Addr.add_lit, Lib.cell_of_heap hh]
    simpa using hj
  have h1 : ∀ u ∈ [x], u.oneCell' = true := by intro u hu; simp at hu; subst hu; exact hx1
  have hm : n + 1 ≤ maxLen := by unfold maxLen; omega
  have hown' : (W.alloc (.cells #[x] e)).ownsRowF 0 e 1 v n xs := by
    refine ⟨hown.1, ?_⟩
    rcases hown.2 with h2 | ⟨g, cap, cur, fz, rfl, hb, hg, rest⟩
    · exact .inl h2
    · exact .inr ⟨g, cap, cur, fz, rfl, hb, ((Keep.refl (fun _ => False) W).alloc _).heap hg (fun h => h), rest⟩
  obtain ⟨v', w', hrun, r1, r2, r3⟩ := run_append_ownF (P := P) (W.alloc (.cells #[x] e)) 0 t 0 e i (.int .u8 0) 1 1 ht hi hz hs1 hb1 rfl (by omega) v n xs hown' ⟨W.heap.size, 0, none⟩ 1 1 [x] rfl hc h1 hm (by omega) (Nat.zero_le _)
  have hrun' : ∀ ty, (Builtin.append_ #[t, t] ty #[v, .slice (some ⟨W.heap.size, 0, none⟩) 1 1]).run P (W.alloc (.cells #[x] e)) = .ok v' w' := fun ty => hrun
  have hK : Keep (fun b => v.ownBlock = some b) W w' := ((Keep.refl _ W).alloc _).trans (keep_grown r2)
  have hsz' : W.heap.size < w'.heap.size := by have := r2.size; simp at this; omega
  rcases r1.2 with ⟨_, h⟩ | ⟨g, cap, cur, fz, rfl, hb, hg, rest⟩
  · omega
  refine ⟨g, cap, w', hrun', r1, hK, ?_, hsz'⟩
  rcases hown'.2 with ⟨hv, hn⟩ | ⟨g0, cap0, cur0, fz0, hv, hb0, hg0, hfz, hnc, hcm, hcs, _⟩
  · right
    obtain ⟨v2, w2, hrun2, q1, _⟩ := run_append_ownF (P := P) (W.alloc (.cells #[x] e)) (W.heap.size + 1) t 0 e i (.int .u8 0) 1 1 ht hi hz hs1 hb1 rfl (by omega) v n xs ⟨hown'.1, .inl ⟨hv, hn⟩⟩ ⟨W.heap.size, 0, none⟩ 1 1 [x] rfl hc h1 hm (by omega) (by simp)
    rw [hrun] at hrun2
    injection hrun2 with e1 e2
    subst e1; subst e2
    exact (q1.lt g rfl).1
  · subst hv
    by_cases hroom : n + 1 ≤ cap0
    · left
      have hr := run_append_roomF (P := P) (W.alloc (.cells #[x] e)) t 0 e i ht hi g0 n cap0 cur0 fz0 hg0 (by rw [hs1]; omega) ⟨W.heap.size, 0, none⟩ 1 1 [x] (by rw [hs1]; rfl) hc h1 hroom (by rw [hs1, hcs]; simp; omega)
      rw [hrun] at hr
      injection hr with e1 e2
      injection e1 with e1 _ _
      injection e1 with e1
      injection e1 with e1
      subst e1
      rfl
    · right
      have holds : ∀ j u, xs[j]? = some u → (W.alloc (.cells #[x] e)).cell? ((⟨g0, 0, none⟩ : Addr).add j) = some u := hown'.cells (g := g0) rfl
      have hr := run_append_grow (P := P) (W.alloc (.cells #[x] e)) t 0 e i (.int .u8 0) ht hi hz ⟨g0, 0, none⟩ n cap0 xs (by rw [hs1]; exact hown'.1) holds ⟨W.heap.size, 0, none⟩ 1 1 [x] (by rw [hs1]; rfl) hc (by omega) (by omega) (by rw [hb1]; exact growslice_fits (by omega) (by omega))
      rw [hrun] at hr
      injection hr with e1 e2
      injection e1 with e1 _ _
      injection e1 with e1
      injection e1 with e1
      subst e1
      simp
end Go.Kt
/- The text of points: the document's Bytes, Point. -/
namespace Go.Proofs.YtlfdpdlhppgakaaGreatDoor
open Go Go.RowKit Go.Kt Go.Shelf

def pointB (c : Int) : Bool := charB c || decide (1114240 ≤ c ∧ c ≤ 1114367)
theorem pointB_iff (c : Int) : pointB c = true ↔ ((0 ≤ c ∧ c < 55296) ∨ (57343 < c ∧ c ≤ 1114111)) ∨ (1114240 ≤ c ∧ c ≤ 1114367) := by
  unfold pointB; rw [Bool.or_eq_true, charB_iff]; simp
/-- A point's bytes. -/
def bytesP (c : Int) : List UInt8 := if 1114112 < c then [UInt8.ofNat (c - 1114112).toNat] else (encC c).data.toList
def textP (l : List Int) : List UInt8 := l.flatMap bytesP
theorem textP_snoc (l : List Int) (c : Int) : textP (l ++ [c]) = textP l ++ bytesP c := by simp [textP]
theorem bytesP_len (c : Int) : 1 ≤ (bytesP c).length ∧ (bytesP c).length ≤ 4 := by
  unfold bytesP encC
  repeat' split
  all_goals simp
theorem textP_len (l : List Int) : (textP l).length ≤ 4 * l.length := by
  induction l with
  | nil => simp [textP]
  | cons c l ih => have := bytesP_len c; simp [textP] at *; omega

/-- A new block of bytes. -/
def NewB (l : List UInt8) (w : World) (e : Ending) (w' : World) : Prop :=
  e = .returned (.slice (some ⟨w.heap.size, 0, none⟩) l.length l.length) ∧ w' = w.alloc (.cells (Lib.byteCells l).toArray 5)

theorem ofNat_toNat (x : Int) (h0 : 0 ≤ x) (h1 : x < 256) : (((UInt8.ofNat x.toNat).toNat : Nat) : Int) = x := by
  simp; omega

set_option maxRecDepth 100000 in
set_option maxHeartbeats 1000000 in
theorem refBytes_any (c : Int) (w : World) (hc : pointB c = true) :
    Calls Tryz.prog 38 #[.int .i32 c] w (NewB (bytesP c) w) := by
  have hb := (pointB_iff c).1 hc
  have h0 : 0 ≤ c := by omega
  have h1 : c ≤ 1114367 := by omega
  have fin : ∀ l : List UInt8, bytesP c = l → NewB (bytesP c) w (.returned (.slice (some ⟨w.heap.size, 0, none⟩) l.length l.length)) (w.alloc (.cells (Lib.byteCells l).toArray 5)) := fun l h => by rw [h]; exact ⟨rfl, rfl⟩
  have Fin := Lib.hid fin
  clear fin
  by_cases a0 : 1114112 < c
  · have HF := Lib.hid (Fin.out [UInt8.ofNat (c - 1114112).toNat] (by unfold bytesP; rw [if_pos a0]))
    have e1 := Lib.hid (ofNat_toNat (c - 1114112) (by omega) (by omega))
    have hlo : 1114240 ≤ c := by omega
    clear Fin hb hc
    go_enter Tryz.func38, Tryz.ntmps38
    go_wp2
    go_ret
    have := HF.out
    simp only [Lib.byteCells, List.map_cons, List.map_nil, e1.out, List.length_cons, List.length_nil] at this
    exact this
  have h2 : c ≤ 1114111 := by omega
  by_cases a1 : c < 128
  · have HF := Lib.hid (Fin.out [UInt8.ofNat (c).toNat] (by unfold bytesP encC; rw [if_neg a0, if_pos a1]))
    have e1 := Lib.hid (ofNat_toNat (c) (by omega) (by omega))
    clear Fin hb hc
    go_enter Tryz.func38, Tryz.ntmps38
    go_wp2
    go_ret
    have := HF.out
    simp only [Lib.byteCells, List.map_cons, List.map_nil, e1.out, List.length_cons, List.length_nil] at this
    exact this
  by_cases a2 : c < 2048
  · have HF := Lib.hid (Fin.out [UInt8.ofNat (192 + c / 64).toNat, UInt8.ofNat (128 + c % 64).toNat] (by unfold bytesP encC; rw [if_neg a0, if_neg a1, if_pos a2]))
    have e1 := Lib.hid (ofNat_toNat (192 + c / 64) (by omega) (by omega))
    have e2 := Lib.hid (ofNat_toNat (128 + c % 64) (by omega) (by omega))
    clear Fin hb hc
    go_enter Tryz.func38, Tryz.ntmps38
    go_wp2
    go_ret
    have := HF.out
    simp only [Lib.byteCells, List.map_cons, List.map_nil, e1.out, e2.out, List.length_cons, List.length_nil] at this
    exact this
  by_cases a3 : c < 65536
  · have HF := Lib.hid (Fin.out [UInt8.ofNat (224 + c / 4096).toNat, UInt8.ofNat (128 + c / 64 % 64).toNat, UInt8.ofNat (128 + c % 64).toNat] (by unfold bytesP encC; rw [if_neg a0, if_neg a1, if_neg a2, if_pos a3]))
    have e1 := Lib.hid (ofNat_toNat (224 + c / 4096) (by omega) (by omega))
    have e2 := Lib.hid (ofNat_toNat (128 + c / 64 % 64) (by omega) (by omega))
    have e3 := Lib.hid (ofNat_toNat (128 + c % 64) (by omega) (by omega))
    clear Fin hb hc
    go_enter Tryz.func38, Tryz.ntmps38
    go_wp2
    go_ret
    have := HF.out
    simp only [Lib.byteCells, List.map_cons, List.map_nil, e1.out, e2.out, e3.out, List.length_cons, List.length_nil] at this
    exact this
  · have HF := Lib.hid (Fin.out [UInt8.ofNat (240 + c / 262144).toNat, UInt8.ofNat (128 + c / 4096 % 64).toNat, UInt8.ofNat (128 + c / 64 % 64).toNat, UInt8.ofNat (128 + c % 64).toNat] (by unfold bytesP encC; rw [if_neg a0, if_neg a1, if_neg a2, if_neg a3]))
    have e1 := Lib.hid (ofNat_toNat (240 + c / 262144) (by omega) (by omega))
    have e2 := Lib.hid (ofNat_toNat (128 + c / 4096 % 64) (by omega) (by omega))
    have e3 := Lib.hid (ofNat_toNat (128 + c / 64 % 64) (by omega) (by omega))
    have e4 := Lib.hid (ofNat_toNat (128 + c % 64) (by omega) (by omega))
    clear Fin hb hc
    go_enter Tryz.func38, Tryz.ntmps38
    go_wp2
    go_ret
    have := HF.out
    simp only [Lib.byteCells, List.map_cons, List.map_nil, e1.out, e2.out, e3.out, e4.out, List.length_cons, List.length_nil] at this
    exact this
end Go.Proofs.YtlfdpdlhppgakaaGreatDoor
/- The text of points: the document's Text. -/
namespace Go.Proofs.YtlfdpdlhppgakaaGreatDoor
open Go Go.RowKit Go.Kt Go.Shelf

/-- K is the place of the first number that is no point, or the list's length. -/
structure FirstBad (l : List Int) (K : Nat) : Prop where
  le : K ≤ l.length
  good : ∀ i x, i < K → l[i]? = some x → pointB x = true
  bad : ∀ x, l[K]? = some x → pointB x = false
theorem firstBad_ex : ∀ l : List Int, ∃ K, FirstBad l K
  | [] => ⟨0, Nat.le_refl _, fun i x h _ => by omega, fun x h => by simp at h⟩
  | x :: l => by
    obtain ⟨K, h1, h2, h3⟩ := firstBad_ex l
    cases hx : pointB x
    · exact ⟨0, Nat.zero_le _, fun i x h _ => by omega, fun y h => by simp at h; rw [← h]; exact hx⟩
    · refine ⟨K + 1, by simp; omega, fun i y hi h => ?_, fun y h => h3 y (by simpa using h)⟩
      cases i with
      | zero => simp at h; rw [← h]; exact hx
      | succ i => exact h2 i y (by omega) (by simpa using h)
theorem firstBad_all {l : List Int} (h : ∀ x ∈ l, pointB x = true) : FirstBad l l.length :=
  ⟨Nat.le_refl _, fun i x _ hx => h x (List.mem_of_getElem? hx), fun x hx => by simp at hx⟩

def TextAns (l : List Int) (K : Nat) (w : World) (e : Ending) (w' : World) : Prop :=
  (K = l.length ∧ e = .returned (.tuple #[.string ⟨(textP l).toArray⟩, .int .i64 (-1)]) ∨ K < l.length ∧ e = .returned (.tuple #[.string ⟨#[]⟩, .int .i64 K])) ∧ Below w.heap.size w w'

theorem OwnB.weaken {Y Z : Nat → Prop} {v : Value} {l : List UInt8} {A : World} (h : OwnB Y v l A) (hY : ∀ b, Y b → Z b) : OwnB Z v l A := ⟨h.1, fun g hg => hY g (h.2 g hg)⟩
theorem OwnB.keep {Y X : Nat → Prop} {v : Value} {l : List UInt8} {A B : World} (h : OwnB Y v l A) (hk : Keep X A B) (hX : ∀ b, X b → ¬ Y b) : OwnB Y v l B :=
  ⟨ownsF_keep h.1 hk (fun g hg hx => hX g hx (h.2 g hg)), h.2⟩
theorem OwnB.lt {Y : Nat → Prop} {v : Value} {l : List UInt8} {A : World} (h : OwnB Y v l A) : OwnB (fun b => Y b ∧ b < A.heap.size) v l A := ⟨h.1, fun g hg => ⟨h.2 g hg, (h.1.lt g hg).2⟩⟩

end Go.Proofs.YtlfdpdlhppgakaaGreatDoor
/- The text of points: points.Text. -/
namespace Go.Proofs.YtlfdpdlhppgakaaGreatDoor
open Go Go.RowKit Go.Kt Go.Shelf

theorem valid_char (x : Int) : Lib.validRune x = charB x := by
  rw [Bool.eq_iff_iff, charB_iff]; simp [Lib.validRune]
theorem valid_char2 (x : Int) : Utf8.valid x = charB x := by
  rw [Bool.eq_iff_iff, charB_iff]; simp [Utf8.valid]; omega
theorem bytesP_char (x : Int) (h : charB x = true) : bytesP x = (Utf8.encode x).data.toList := by
  have := (charB_iff x).1 h
  unfold bytesP
  rw [if_neg (by omega), encode_C, valid_char2, h]
  rfl

/-- What points.Text answers. -/
def PTextAns (l : List Int) (K : Nat) (w : World) (e : Ending) (w' : World) : Prop :=
  (K = l.length ∧ e = .returned (.tuple #[.string ⟨(textP l).toArray⟩, .nilIface]) ∨ K < l.length ∧ e = .returned (.tuple #[.string ⟨#[]⟩, .iface 80 (fv 8 0 K)])) ∧ Below w.heap.size w w'

end Go.Proofs.YtlfdpdlhppgakaaGreatDoor
/- The print of a set. -/
namespace Go.Proofs.YtlfdpdlhppgakaaGreatDoor
open Go Go.RowKit Go.Kt Go.Kt.Rg
attribute [local go_sem] Oper.semAt_some

/-- The form of one span, of spans. -/
def printS (x : Int × Int) : List UInt8 := printP x.1 ++ (if x.2 = x.1 then [] else 45 :: printP x.2)
def printL (L : List (Int × Int)) : List UInt8 := L.flatMap printS
theorem printP_len (r : Int) : (printP r).length ≤ 13 := by
  have h := fun u => hexF_len 8 u
  unfold printP hexL
  split
  · have := h (r - 1114112).toNat; simp only [List.length_append, List.length_cons, List.length_nil]; omega
  · have := h r.toNat; simp only [List.length_append, List.length_cons, List.length_nil]; omega
theorem printS_len (x : Int × Int) : (printS x).length ≤ 27 := by
  have h1 := printP_len x.1
  have h2 := printP_len x.2
  unfold printS
  split <;> simp only [List.length_append, List.length_cons, List.length_nil] <;> omega
theorem printL_len (L : List (Int × Int)) : (printL L).length ≤ 27 * L.length := by
  induction L with
  | nil => simp [printL]
  | cons x t ih => have := printS_len x; simp only [printL, List.flatMap_cons, List.length_append, List.length_cons] at ih ⊢; omega
theorem printL_snoc (L : List (Int × Int)) (x : Int × Int) : printL (L ++ [x]) = printL L ++ printS x := by simp [printL]

/-- A builder at work, seen from the world A. -/
def St (n : Nat) (Yb : Nat → Prop) (A : World) (acc : List UInt8) (V : World) : Prop :=
  Bld n (fun x => Yb x ∨ A.heap.size ≤ x) acc V ∧ Keep (fun x => x = n ∨ Yb x) A V
theorem St.next {n : Nat} {Yb : Nat → Prop} {A V V' : World} {acc acc' : List UInt8} {Y' : Nat → Prop} (h : St n Yb A acc V) (hb : Bld n Y' acc' V') (hk : Keep (fun c => c = n ∨ (Yb c ∨ A.heap.size ≤ c)) V V') (hY : ∀ c, Y' c → (Yb c ∨ A.heap.size ≤ c) ∨ V.heap.size ≤ c) : St n Yb A acc' V' := by
  have hs := h.2.size
  obtain ⟨p, v, hp, hh, ho, hne, hy⟩ := hb
  refine ⟨⟨p, v, hp, hh, ho, hne, fun g hg => ?_⟩, h.2.plus hk fun b hb hx => ?_⟩
  · rcases hY g (hy g hg) with hx | hx
    · exact hx
    · exact .inr (by omega)
  · rcases hx with hx | hx | hx
    · exact .inl hx
    · exact .inr hx
    · omega
theorem St.ws {n : Nat} {Yb : Nat → Prop} {A V : World} {acc : List UInt8} (h : St n Yb A acc V) (s : List UInt8) (hlen : acc.length + s.length ≤ 140737488355328) :
    Calls Tryz.prog 33 #[.pointer (some ⟨n, 0, none⟩), .string ⟨s.toArray⟩] V fun e V' => e = .returned (.tuple #[.int .i64 s.length, .nilIface]) ∧ St n Yb A (acc ++ s) V' := by
  have hs : (⟨s.toArray⟩ : ByteArray).size = s.length := by simp [ByteArray.size]
  refine (writeString_x n _ acc ⟨s.toArray⟩ V h.1 (by omega)).mono ?_
  rintro e V' ⟨rfl, Y', hb, hk, hY⟩
  exact ⟨by rw [hs], h.next (by simpa using hb) hk hY⟩
theorem Bld.lt {b : Nat} {Y : Nat → Prop} {l : List UInt8} {W : World} (h : Bld b Y l W) : Bld b (fun x => Y x ∧ x < W.heap.size) l W := by
  obtain ⟨p, v, hp, hh, ho, hne, hy⟩ := h
  refine ⟨p, v, hp, hh, ho, hne, fun g hg => ⟨hy g hg, ?_⟩⟩
  rcases ho.2 with ⟨hv, _⟩ | ⟨g', cap, cur, fz, rfl, _, hg', _⟩
  · rw [hv] at hg; cases hg
  · cases hg; exact (Array.getElem?_eq_some_iff.1 hg').1
theorem Bld.weaken {b : Nat} {Y Y' : Nat → Prop} {l : List UInt8} {W : World} (h : Bld b Y l W) (hY : ∀ x, Y x → Y' x) : Bld b Y' l W := by
  obtain ⟨p, v, hp, hh, ho, hne, hy⟩ := h
  exact ⟨p, v, hp, hh, ho, hne, fun g hg => hY _ (hy g hg)⟩
theorem Bld.at {b : Nat} {l : List UInt8} {W : World} (h : ∃ Y, Bld b Y l W) : b < W.heap.size := by
  obtain ⟨Y, p, v, hp, hh, _⟩ := h
  exact (Array.getElem?_eq_some_iff.1 hh).1
theorem St.below {n : Nat} {Yb : Nat → Prop} {A V V' : World} {acc : List UInt8} (h : St n Yb A acc V) (hb : Below V.heap.size V V') : St n Yb A acc V' := by
  have hk : Keep (fun _ => False) V V' := .of_all hb
  exact ⟨h.1.keep hk (fun h => h) (fun _ _ h => h), h.2.plus hk (fun _ _ h => h.elim)⟩
theorem St.start {n : Nat} {Yb : Nat → Prop} {A : World} {acc : List UInt8} (h : Bld n Yb acc A) : St n Yb A acc A := by
  obtain ⟨p, v, hp, hh, ho, hne, hy⟩ := h
  exact ⟨⟨p, v, hp, hh, ho, hne, fun g hg => .inl (hy g hg)⟩, Keep.refl _ _⟩

end Go.Proofs.YtlfdpdlhppgakaaGreatDoor
/- Hexadecimal digits read, a point, a span, a set read: mathematics. -/
namespace Go.Proofs.YtlfdpdlhppgakaaGreatDoor
open Go Go.RowKit Go.Kt Go.Kt.Rg

/-- What a digit is worth, to whatever base. -/
def digV (c : Nat) : Option Nat := if 48 ≤ c ∧ c ≤ 57 then some (c - 48) else if 97 ≤ (c ||| 32) ∧ (c ||| 32) ≤ 122 then some ((c ||| 32) - 87) else none
def puF (mx : Nat) : Nat → List UInt8 → Option Nat
  | n, [] => some n
  | n, c :: t => match digV c.toNat with
    | none => none
    | some d => if 16 ≤ d then none else if mx < n * 16 + d then none else puF mx (n * 16 + d) t
def puV (mx : Nat) (l : List UInt8) : Option Nat := if l = [] then none else puF mx 0 l
theorem puF_append (mx : Nat) : ∀ (a b : List UInt8) (n : Nat), puF mx n (a ++ b) = (puF mx n a).bind fun m => puF mx m b
  | [], b, n => rfl
  | c :: t, b, n => by
    simp only [List.cons_append, puF]
    cases digV c.toNat with
    | none => rfl
    | some d =>
      simp only
      by_cases h1 : 16 ≤ d
      · simp [h1]
      · by_cases h2 : mx < n * 16 + d
        · simp [h1, h2]
        · simp only [h1, h2, if_false]
          exact puF_append mx t b _
theorem digV_hex : ∀ d, d < 16 → digV (hexD d).toNat = some d := by decide
theorem hexD_ne : ∀ d, d < 16 → hexD d ≠ 125 ∧ hexD d ≠ 45 := by decide
theorem puF_hexF (mx : Nat) : ∀ (f u : Nat), u < 16 ^ (f + 1) → u ≤ mx → puF mx 0 (hexF f u) = some u
  | 0, u, h, hm => by
    have hu : u < 16 := by simpa using h
    have := digV_hex u hu
    simp only [hexF, Nat.mod_eq_of_lt hu, puF, this]
    rw [if_neg (by omega), if_neg (by omega)]
    simp
  | f + 1, u, h, hm => by
    unfold hexF
    by_cases h16 : u < 16
    · have := digV_hex u h16
      rw [if_pos h16]
      simp only [puF, this]
      rw [if_neg (by omega), if_neg (by omega)]
      simp
    · have hd : u / 16 < 16 ^ (f + 1) := by
        have : u < 16 ^ (f + 1) * 16 := by rw [← Nat.pow_succ]; exact h
        omega
      have h2 := digV_hex (u % 16) (Nat.mod_lt _ (by decide))
      rw [if_neg h16, puF_append, puF_hexF mx f (u / 16) hd (by omega)]
      simp only [Option.bind_some, puF, h2]
      rw [if_neg (by omega), if_neg (by omega)]
      congr 1
      omega
theorem hexF_ne : ∀ (f u : Nat), hexF f u ≠ []
  | 0, u => by simp [hexF]
  | f + 1, u => by unfold hexF; split <;> simp
theorem puV_hex (mx u : Nat) (h : u < 68719476736) (hm : u ≤ mx) : puV mx (hexL u) = some u := by
  unfold puV hexL
  rw [if_neg (hexF_ne 8 u)]
  exact puF_hexF mx 8 u (by simpa using h) hm
theorem hexF_clean : ∀ (f u : Nat), ∀ c ∈ hexF f u, c ≠ 125 ∧ c ≠ 45
  | 0, u, c, h => by
    simp only [hexF, List.mem_singleton] at h
    subst h; exact hexD_ne _ (Nat.mod_lt _ (by decide))
  | f + 1, u, c, h => by
    unfold hexF at h
    split at h
    · simp only [List.mem_singleton] at h
      subst h; exact hexD_ne _ (by omega)
    · rcases List.mem_append.1 h with h | h
      · exact hexF_clean f _ c h
      · simp only [List.mem_singleton] at h
        subst h; exact hexD_ne _ (Nat.mod_lt _ (by decide))
theorem puF_bd (mx : Nat) : ∀ (l : List UInt8) (n m : Nat), n ≤ mx → puF mx n l = some m → m ≤ mx
  | [], n, m, h, e => by simp only [puF, Option.some.injEq] at e; omega
  | c :: t, n, m, h, e => by
    simp only [puF] at e
    cases hd : digV c.toNat with
    | none => rw [hd] at e; cases e
    | some d =>
      rw [hd] at e
      simp only at e
      by_cases h1 : 16 ≤ d
      · rw [if_pos h1] at e; cases e
      · rw [if_neg h1] at e
        by_cases h2 : mx < n * 16 + d
        · rw [if_pos h2] at e; cases e
        · rw [if_neg h2] at e
          exact puF_bd mx t _ m (by omega) e
theorem puV_bd {mx m : Nat} {l : List UInt8} (e : puV mx l = some m) : m ≤ mx := by
  unfold puV at e
  split at e
  · cases e
  · exact puF_bd mx l 0 m (Nat.zero_le _) e

/-- What stands ahead of the first }, or all. -/
def upB (l : List UInt8) : List UInt8 := l.takeWhile (· != 125)
theorem upB_at (a b : List UInt8) (h : ∀ c ∈ a, c ≠ 125) : upB (a ++ 125 :: b) = a := by
  induction a with
  | nil => simp [upB]
  | cons x t ih =>
    have hx := h x (.head _)
    simp only [upB, List.cons_append, List.takeWhile_cons] at ih ⊢
    rw [if_pos (by simpa using hx)]
    rw [ih fun c hc => h c (.tail _ hc)]
/-- The point that a text may begin with. -/
def sptD (l : List UInt8) : Int × List UInt8 :=
  if [92, 117, 123].isPrefixOf l then (0, upB (l.drop 3)) else if [92, 120].isPrefixOf l then (1114112, (l.drop 2).take 2) else (0, [])
def sptR (l : List UInt8) : Int := match puV 2097151 (sptD l).2 with | none => -1 | some n => (sptD l).1 + (n : Int)
theorem sptD_bd (l : List UInt8) : (sptD l).1 = 0 ∨ (sptD l).1 = 1114112 := by
  unfold sptD
  split
  · exact .inl rfl
  · split
    · exact .inr rfl
    · exact .inl rfl
theorem sptR_bd (l : List UInt8) : -1 ≤ sptR l ∧ sptR l ≤ 3211263 := by
  unfold sptR
  have hb := sptD_bd l
  cases h : puV 2097151 (sptD l).2 with
  | none => simp
  | some n =>
    have := puV_bd h
    simp only
    omega
theorem num_true {r : Int} (h : (numB r).2 = true) : pntI (numB r).1 = r ∧ 0 ≤ r ∧ r ≤ 1114367 ∧ (1114111 < r → 1114240 ≤ r) := by
  unfold numB at h ⊢
  by_cases c1 : r < 0
  · rw [if_pos c1] at h; cases h
  rw [if_neg c1] at h ⊢
  by_cases c2 : r ≤ 55295
  · rw [if_pos c2]; unfold pntI; simp only; exact ⟨by rw [if_pos (by omega)], by omega, by omega, by omega⟩
  rw [if_neg c2] at h ⊢
  by_cases c3 : r < 57344
  · rw [if_pos c3] at h; cases h
  rw [if_neg c3] at h ⊢
  by_cases c4 : r ≤ 1114111
  · rw [if_pos c4]; unfold pntI; simp only; exact ⟨by rw [if_neg (by omega), if_pos (by omega)]; omega, by omega, by omega, by omega⟩
  rw [if_neg c4] at h ⊢
  by_cases c5 : r < 1114240
  · rw [if_pos c5] at h; cases h
  rw [if_neg c5] at h ⊢
  by_cases c6 : r ≤ 1114367
  · rw [if_pos c6]; unfold pntI; simp only; exact ⟨by rw [if_neg (by omega), if_neg (by omega), if_pos (by omega)]; omega, by omega, by omega, by omega⟩
  rw [if_neg c6] at h; cases h
theorem hex_two : ∀ u, u < 256 → 16 ≤ u → (hexL u).length = 2 := by decide +kernel
theorem sptR_print {r : Int} (h : (numB r).2 = true) (rest : List UInt8) : sptR (printP r ++ rest) = r := by
  obtain ⟨_, h0, h1, h2⟩ := num_true h
  unfold printP
  split
  · rename_i hr
    obtain ⟨u, hu⟩ : ∃ u : Nat, r - 1114112 = u := ⟨(r - 1114112).toNat, by omega⟩
    have h2' := h2 hr
    have hl := hex_two u (by omega) (by omega)
    have e : sptD ([92, 120] ++ hexL u ++ rest) = (1114112, hexL u) := by
      unfold sptD
      rw [if_neg (by simp [List.isPrefixOf]), if_pos (by simp [List.isPrefixOf])]
      simp only [List.cons_append, List.nil_append, List.drop_succ_cons, List.drop_zero]
      rw [List.take_append_of_le_length (by omega), List.take_of_length_le (by omega)]
    rw [hu, Int.toNat_natCast]
    unfold sptR
    rw [e]
    simp only
    rw [puV_hex _ _ (by omega) (by omega)]
    simp only
    omega
  · rename_i hr
    obtain ⟨u, hu⟩ : ∃ u : Nat, r = u := ⟨r.toNat, by omega⟩
    subst hu
    have e : sptD ([92, 117, 123] ++ hexL u ++ [125] ++ rest) = (0, hexL u) := by
      unfold sptD
      rw [if_pos (by simp [List.isPrefixOf])]
      simp only [List.append_assoc, List.cons_append, List.nil_append, List.drop_succ_cons, List.drop_zero]
      show (0, upB (hexF 8 u ++ 125 :: rest)) = (0, hexF 8 u)
      rw [upB_at _ _ fun c hc => (hexF_clean 8 u c hc).1]
    rw [Int.toNat_natCast]
    unfold sptR
    rw [e]
    simp only
    rw [puV_hex _ _ (by omega) (by omega)]
    simp only
    omega

/-- The point at the head of a text: its number, and how many bytes it has. -/
def ptAt (l : List UInt8) : Option (Int × Nat) := if (numB (sptR l)).2 && (printP (sptR l)).isPrefixOf l then some ((numB (sptR l)).1, (printP (sptR l)).length) else none
theorem ptAt_print {n : Int} (h0 : 0 ≤ n) (h1 : n < allN) (rest : List UInt8) : ptAt (printP (pntI n) ++ rest) = some (n, (printP (pntI n)).length) := by
  have hn := num_pnt h0 h1
  have e := sptR_print (r := pntI n) (by rw [hn]) rest
  unfold ptAt
  rw [e, hn, if_pos]
  rw [Bool.true_and]
  exact List.isPrefixOf_iff_prefix.2 ⟨rest, rfl⟩
theorem ptAt_sound {l : List UInt8} {n : Int} {k : Nat} (h : ptAt l = some (n, k)) : 0 ≤ n ∧ n < allN ∧ k = (printP (pntI n)).length ∧ ∃ rest, l = printP (pntI n) ++ rest := by
  unfold ptAt at h
  split at h
  · rename_i hc
    rw [Bool.and_eq_true] at hc
    obtain ⟨t, ht⟩ := List.isPrefixOf_iff_prefix.1 hc.2
    have e := num_true hc.1
    have hb := numB_bd (sptR l)
    simp only [Option.some.injEq, Prod.mk.injEq] at h
    obtain ⟨rfl, rfl⟩ := h
    rw [e.1]
    exact ⟨hb.1, hb.2, rfl, t, ht.symm⟩
  · cases h
theorem printP_ne (r : Int) : printP r ≠ [] := by unfold printP; split <;> simp
theorem printP_pos (r : Int) : 0 < (printP r).length := by
  rcases Nat.eq_zero_or_pos (printP r).length with h | h
  · exact absurd (List.eq_nil_of_length_eq_zero h) (printP_ne r)
  · exact h

/-- The span at a byte: it, and the byte behind it; or the error's number, and its byte. -/
def spAt (s : List UInt8) (p : Nat) : Except (Int × Nat) (Run × Nat) :=
  match ptAt (s.drop p) with
  | none => .error (9, p)
  | some (lo, k) => if s[p + k]? = some 45 then match ptAt (s.drop (p + k + 1)) with
      | none => .error (9, p + k + 1)
      | some (hi, k2) => if hi ≤ lo then .error (4, p) else .ok ((lo, hi + 1), p + k + 1 + k2)
    else .ok ((lo, lo + 1), p + k)
/-- Does a run lie above all of a list's, without touching? -/
def aboveB (l : List Run) (x : Run) : Bool := match l.getLast? with | none => true | some y => decide (y.2 < x.1)
/-- A set read from a byte on, behind the runs that were read. -/
def prF : Nat → List UInt8 → Nat → List Run → Except (Int × Nat) (List Run)
  | 0, _, p, _ => .error (25, p)
  | f + 1, s, p, l =>
    if s.length ≤ p then .error (25, p)
    else if s[p]? = some 93 then (if p + 1 < s.length then .error (3, p + 1) else .ok l)
    else match spAt s p with
      | .error e => .error e
      | .ok (x, q) => if aboveB l x then prF f s q (l ++ [x]) else .error (4, p)
def prL (s : List UInt8) : Except (Int × Nat) (List Run) := if [91].isPrefixOf s then prF s.length s 1 [] else .error (25, 0)

theorem spAt_sound {s : List UInt8} {p q : Nat} {x : Run} (h : spAt s p = .ok (x, q)) : 0 ≤ x.1 ∧ x.1 < x.2 ∧ x.2 ≤ allN ∧ p < q ∧ q ≤ s.length ∧ s.take q = s.take p ++ printS (spanP x) ∧ p ≤ s.length := by
  unfold spAt at h
  have key : ∀ (p : Nat) (t r : List UInt8), s.drop p = t ++ r → t ≠ [] → p + t.length ≤ s.length ∧ s.take (p + t.length) = s.take p ++ t := by
    intro p t r e ht
    have hl : (s.drop p).length = t.length + r.length := by rw [e, List.length_append]
    rw [List.length_drop] at hl
    have : 0 < t.length := by
      cases t with
      | nil => exact absurd rfl ht
      | cons => simp
    refine ⟨by omega, ?_⟩
    rw [List.take_add, e, List.take_append_of_le_length (Nat.le_refl _), List.take_length]
  cases h1 : ptAt (s.drop p) with
  | none => rw [h1] at h; cases h
  | some a =>
    obtain ⟨lo, k⟩ := a
    obtain ⟨l0, l1, rfl, t1, e1⟩ := ptAt_sound h1
    obtain ⟨k1, k2⟩ := key p _ _ e1 (printP_ne _)
    have kp := printP_pos (pntI lo)
    rw [h1] at h
    simp only at h
    by_cases hc : s[p + (printP (pntI lo)).length]? = some 45
    · rw [if_pos hc] at h
      cases h2 : ptAt (s.drop (p + (printP (pntI lo)).length + 1)) with
      | none => rw [h2] at h; cases h
      | some b =>
        obtain ⟨hi, m⟩ := b
        obtain ⟨m0, m1, rfl, t2, e2⟩ := ptAt_sound h2
        obtain ⟨j1, j2⟩ := key _ _ _ e2 (printP_ne _)
        rw [h2] at h
        simp only at h
        by_cases hlo : hi ≤ lo
        · rw [if_pos hlo] at h; cases h
        · rw [if_neg hlo] at h
          simp only [Except.ok.injEq, Prod.mk.injEq] at h
          obtain ⟨rfl, rfl⟩ := h
          refine ⟨l0, by simp only; omega, by simp only; omega, by omega, j1, ?_, by omega⟩
          rw [j2, List.take_add_one, hc, k2]
          have hne : pntI hi ≠ pntI lo := by
            intro e
            have a1 := num_pnt l0 l1
            have a2 := num_pnt m0 m1
            rw [e, a1] at a2
            injection a2; omega
          simp only [printS, spanP, Int.add_sub_cancel]
          rw [if_neg hne]
          simp
    · rw [if_neg hc] at h
      simp only [Except.ok.injEq, Prod.mk.injEq] at h
      obtain ⟨rfl, rfl⟩ := h
      refine ⟨l0, by simp only; omega, by simp only; omega, by omega, k1, ?_, by omega⟩
      rw [k2]
      simp only [printS, spanP, Int.add_sub_cancel]
      simp
theorem spans_snoc (l : List Run) (x : Run) : printL (spansL (l ++ [x])) = printL (spansL l) ++ printS (spanP x) := by
  rw [spansL, List.map_append, List.map_singleton, printL_snoc]; rfl
theorem canon_snoc : ∀ {l : List Run} {lo : Int} {x : Run}, CanonFrom lo l → lo < x.1 → 0 ≤ x.1 → x.1 < x.2 → x.2 ≤ allN → aboveB l x = true → CanonFrom lo (l ++ [x])
  | [], lo, x, _, h1, _, h2, h3, _ => ⟨h1, h2, h3, trivial⟩
  | y :: t, lo, x, h, h1, h0, h2, h3, ha => by
    refine ⟨h.1, h.2.1, h.2.2.1, canon_snoc h.2.2.2 ?_ h0 h2 h3 ?_⟩
    · unfold aboveB at ha
      cases hl : (y :: t).getLast? with
      | none => simp at hl
      | some z =>
        rw [hl] at ha
        have hz : z ∈ y :: t := List.mem_of_getLast? hl
        simp only [decide_eq_true_eq] at ha
        rcases List.mem_cons.1 hz with rfl | hz
        · exact ha
        · have := canon_mem h.2.2.2 z hz; omega
    · unfold aboveB at ha ⊢
      cases t with
      | nil => simp
      | cons a b => rw [List.getLast?_cons_cons] at ha; exact ha
theorem prF_sound : ∀ (f : Nat) (s : List UInt8) (p : Nat) (l R : List Run), Canon l → s.take p = 91 :: printL (spansL l) → prF f s p l = .ok R → Canon R ∧ s = 91 :: printL (spansL R) ++ [93]
  | 0, s, p, l, R, _, _, h => by simp [prF] at h
  | f + 1, s, p, l, R, hl, ht, h => by
    unfold prF at h
    split at h
    · cases h
    · rename_i hp
      split at h
      · rename_i hc
        split at h
        · cases h
        · rename_i hq
          simp only [Except.ok.injEq] at h
          subst h
          refine ⟨hl, ?_⟩
          have e : s.take (p + 1) = s := List.take_of_length_le (by omega)
          rw [List.take_add_one, hc, ht] at e
          exact e.symm
      · cases hs : spAt s p with
        | error e => rw [hs] at h; cases h
        | ok a =>
          obtain ⟨x, q⟩ := a
          rw [hs] at h
          simp only at h
          have hx := spAt_sound hs
          by_cases ha : aboveB l x = true
          · rw [if_pos ha] at h
            exact prF_sound f s q (l ++ [x]) R (canon_snoc hl (by omega) hx.1 hx.2.1 hx.2.2.1 ha) (by rw [spans_snoc, hx.2.2.2.2.2.1, ht]; rfl) h
          · rw [if_neg ha] at h; cases h
theorem prL_sound {s : List UInt8} {R : List Run} (h : prL s = .ok R) : Canon R ∧ s = 91 :: printL (spansL R) ++ [93] := by
  unfold prL at h
  split at h
  · rename_i hp
    refine prF_sound _ s 1 [] R trivial ?_ h
    cases s with
    | nil => simp [List.isPrefixOf] at hp
    | cons c t => simp [List.isPrefixOf] at hp; subst hp; simp [spansL, printL]
  · cases h

theorem spAt_print (s : List UInt8) (p : Nat) (x : Run) (rest : List UInt8) (h0 : 0 ≤ x.1) (h1 : x.1 < x.2) (h2 : x.2 ≤ allN) (hs : s.drop p = printS (spanP x) ++ rest) (hr : rest.head? ≠ some 45) : spAt s p = .ok (x, p + (printS (spanP x)).length) := by
  obtain ⟨x1, x2⟩ := x
  simp only at h0 h1 h2
  unfold printS spanP at hs ⊢
  simp only at hs ⊢
  by_cases he : pntI (x2 - 1) = pntI x1
  · have e2 : x2 = x1 + 1 := by
      have a1 := num_pnt h0 (show x1 < allN by omega)
      have a2 := num_pnt (show 0 ≤ x2 - 1 by omega) (show x2 - 1 < allN by omega)
      rw [he, a1] at a2
      injection a2; omega
    rw [if_pos he, List.append_nil] at hs ⊢
    have hp := ptAt_print h0 (show x1 < allN by omega) rest
    rw [← hs] at hp
    unfold spAt
    rw [hp]
    simp only
    have hn : s[p + (printP (pntI x1)).length]? ≠ some 45 := by
      rw [← List.getElem?_drop, hs, List.getElem?_append_right (Nat.le_refl _), Nat.sub_self, ← List.head?_eq_getElem?]
      exact hr
    rw [if_neg hn, e2]
  · rw [if_neg he] at hs ⊢
    have hp := ptAt_print h0 (show x1 < allN by omega) (45 :: printP (pntI (x2 - 1)) ++ rest)
    rw [← List.append_assoc, ← hs] at hp
    unfold spAt
    rw [hp]
    simp only
    have hn : s[p + (printP (pntI x1)).length]? = some 45 := by
      rw [← List.getElem?_drop, hs, List.append_assoc, List.getElem?_append_right (Nat.le_refl _), Nat.sub_self]; rfl
    rw [if_pos hn]
    have hd : s.drop (p + (printP (pntI x1)).length + 1) = printP (pntI (x2 - 1)) ++ rest := by
      have e := congrArg (List.drop ((printP (pntI x1)).length + 1)) hs
      rw [List.drop_drop, List.append_assoc, List.drop_append] at e
      rw [show p + (printP (pntI x1)).length + 1 = p + ((printP (pntI x1)).length + 1) by omega, e]
      rw [List.drop_of_length_le (by omega), show (printP (pntI x1)).length + 1 - (printP (pntI x1)).length = 1 by omega]
      rfl
    have hq := ptAt_print (show 0 ≤ x2 - 1 by omega) (show x2 - 1 < allN by omega) rest
    rw [← hd] at hq
    rw [hq]
    simp only
    have hlt : ¬ x2 - 1 ≤ x1 := by
      intro h
      have : x2 - 1 = x1 := by omega
      rw [this] at he; exact he rfl
    rw [if_neg hlt]
    simp only [List.length_append, List.length_cons, Except.ok.injEq, Prod.mk.injEq, true_and]
    exact ⟨by omega, by omega⟩
theorem printS_head (x : Int × Int) (r : List UInt8) : (printS x ++ r).head? = some 92 := by
  unfold printS printP
  split <;> split <;> simp
theorem prF_back : ∀ (f : Nat) (s : List UInt8) (p : Nat) (l t : List Run), s.drop p = printL (spansL t) ++ [93] → Canon (l ++ t) → s.length < p + f → p ≤ s.length → prF f s p l = .ok (l ++ t)
  | 0, s, p, l, t, hd, _, hf, hp => by
    have := congrArg List.length hd
    rw [List.length_drop, List.length_append, List.length_singleton] at this
    omega
  | f + 1, s, p, l, [], hd, hc, hf, hp => by
    simp only [spansL, List.map_nil, printL, List.flatMap_nil, List.nil_append] at hd
    have hl := congrArg List.length hd
    rw [List.length_drop, List.length_singleton] at hl
    have h93 : s[p]? = some 93 := by rw [← Nat.add_zero p, ← List.getElem?_drop, hd]; rfl
    unfold prF
    rw [if_neg (by omega), if_pos h93, if_neg (by omega), List.append_nil]
  | f + 1, s, p, l, x :: t, hd, hc, hf, hp => by
    have hx := canon_mem hc x (by simp)
    have hd' : s.drop p = printS (spanP x) ++ (printL (spansL t) ++ [93]) := by
      rw [hd]; simp [spansL, printL, List.flatMap_cons]
    have hlen := congrArg List.length hd'
    rw [List.length_drop, List.length_append, List.length_append, List.length_singleton] at hlen
    have hc92 : s[p]? = some 92 := by
      rw [← Nat.add_zero p, ← List.getElem?_drop, hd', ← List.head?_eq_getElem?]; exact printS_head _ _
    have hhead : (printL (spansL t) ++ [93]).head? ≠ some 45 := by
      cases t with
      | nil => simp [spansL, printL]
      | cons y u =>
        have : printL (spansL (y :: u)) ++ [93] = printS (spanP y) ++ (printL (spansL u) ++ [93]) := by simp [spansL, printL, List.flatMap_cons]
        rw [this, printS_head]; simp
    have hsp := spAt_print s p x _ (by omega) hx.2.1 hx.2.2 hd' hhead
    have hab : aboveB l x = true := by
      unfold aboveB
      cases hg : l.getLast? with
      | none => rfl
      | some y =>
        have hpw := canon_pw hc
        rw [List.pairwise_append] at hpw
        simpa using hpw.2.2 y (List.mem_of_getLast? hg) x (.head _)
    have hpos : 0 < (printS (spanP x)).length := by unfold printS; rw [List.length_append]; have := printP_pos (spanP x).1; omega
    unfold prF
    rw [if_neg (by omega), if_neg (by rw [hc92]; decide), hsp]
    simp only
    rw [if_pos hab]
    have := prF_back f s (p + (printS (spanP x)).length) (l ++ [x]) t (by
      rw [← List.drop_drop, hd', List.drop_append_of_le_length (Nat.le_refl _), List.drop_length, List.nil_append]) (by rw [List.append_assoc]; exact hc) (by omega) (by omega)
    rw [this, List.append_assoc]; rfl
theorem prL_back {R : List Run} (h : Canon R) : prL (91 :: printL (spansL R) ++ [93]) = .ok R := by
  unfold prL
  rw [if_pos (by simp [List.isPrefixOf])]
  exact prF_back _ _ 1 [] R (by simp) h (by omega) (by simp)
end Go.Proofs.YtlfdpdlhppgakaaGreatDoor
/- The contracts of the library functions that stage 3's Parse calls (strings.CutPrefix, HasPrefix, strconv's errors, stringslite.Index), laid over this translation. -/
namespace Go.Proofs
open Go.Shelf
def Tryz.lays210_ren : Go.Shelf.Ren := ⟨fun | 210 => 122 | 206 => 126 | n => n, fun | 9 => 9 | 4 => 4 | 3 => 3 | n => n, fun | n => n⟩
theorem Tryz.lays210 : Go.Proofs.Lays.n210 Tryz.prog Tryz.lays210_ren := {
  mixed := by kernel_rfl
  f206 := Tryz.func126.trans (congrArg some (by kernel_rfl))
  f210 := Tryz.func122.trans (congrArg some (by kernel_rfl))
  t3 := Tryz.underlying3
  a3 := Tryz.isAgg3
  z3 := Tryz.sizeOf3
  v3 := Tryz.zeroValue3
  t4 := Tryz.underlying4
  a4 := Tryz.isAgg4
  z4 := Tryz.sizeOf4
  v4 := Tryz.zeroValue4
  t9 := Tryz.underlying9
  a9 := Tryz.isAgg9
  z9 := Tryz.sizeOf9
  v9 := Tryz.zeroValue9 }
open Go.RowKit in
theorem Tryz.stringslite_CutPrefix (s p : ByteArray) (w : World) :
    Calls Tryz.prog 122 #[.string s, .string p] w fun e w' => e = .returned (.tuple #[.string ⟨(Lib.trimPrefix s.data.toList p.data.toList).toArray⟩, .bool (Lib.hasPrefix s.data.toList p.data.toList)]) ∧ w' = w := Any.stringslite_CutPrefix Tryz.lays210 s p w
def Tryz.lays103_ren : Go.Shelf.Ren := ⟨fun | 103 => 115 | 210 => 122 | 206 => 126 | n => n, fun | 9 => 9 | 4 => 4 | 24 => 165 | 3 => 3 | n => n, fun | n => n⟩
theorem Tryz.lays103 : Go.Proofs.Lays.n103 Tryz.prog Tryz.lays103_ren := {
  mixed := by kernel_rfl
  f103 := Tryz.func115.trans (congrArg some (by kernel_rfl))
  f206 := Tryz.func126.trans (congrArg some (by kernel_rfl))
  f210 := Tryz.func122.trans (congrArg some (by kernel_rfl))
  t3 := Tryz.underlying3
  a3 := Tryz.isAgg3
  z3 := Tryz.sizeOf3
  v3 := Tryz.zeroValue3
  t4 := Tryz.underlying4
  a4 := Tryz.isAgg4
  z4 := Tryz.sizeOf4
  v4 := Tryz.zeroValue4
  t9 := Tryz.underlying9
  a9 := Tryz.isAgg9
  z9 := Tryz.sizeOf9
  v9 := Tryz.zeroValue9
  t24 := Tryz.underlying165
  a24 := Tryz.isAgg165
  z24 := Tryz.sizeOf165
  v24 := Tryz.zeroValue165 }
open Go.RowKit in
theorem Tryz.strings_CutPrefix (s p : ByteArray) (w : World) :
    Calls Tryz.prog 115 #[.string s, .string p] w fun e w' => e = .returned (.tuple #[.string ⟨(Lib.trimPrefix s.data.toList p.data.toList).toArray⟩, .bool (Lib.hasPrefix s.data.toList p.data.toList)]) ∧ w' = w := Any.strings_CutPrefix Tryz.lays103 s p w
def Tryz.laysC245_ren : Go.Shelf.Ren := ⟨fun | 245 => 125 | 279 => 129 | 280 => 130 | 281 => 131 | 282 => 132 | 316 => 89 | 171 => 134 | 205 => 133 | 243 => 135 | 246 => 83 | 283 => 93 | 284 => 94 | 285 => 95 | 286 => 96 | 129 => 107 | 317 => 106 | 318 => 108 | 319 => 109 | 320 => 110 | 337 => 120 | 338 => 121 | n => n, fun | 9 => 9 | 3 => 3 | 75 => 28 | 167 => 177 | 4 => 4 | 168 => 179 | 210 => 183 | 37 => 51 | 0 => 0 | 127 => 98 | 145 => 186 | 143 => 184 | 2 => 2 | 171 => 150 | 53 => 151 | 5 => 5 | 173 => 154 | 212 => 159 | 51 => 160 | 20 => 20 | 213 => 161 | 46 => 130 | 232 => 175 | 233 => 176 | 80 => 70 | n => n, fun | 15 => 7 | 16 => 8 | 17 => 4 | 18 => 5 | 19 => 6 | n => n⟩
theorem Tryz.laysC245 : Go.Proofs.LaysC.n245 Tryz.prog Tryz.laysC245_ren := {
  mixed := by kernel_rfl
  f129 := Tryz.func107.trans (congrArg some (by kernel_rfl))
  f171 := Tryz.func134.trans (congrArg some (by kernel_rfl))
  f205 := Tryz.func133.trans (congrArg some (by kernel_rfl))
  f243 := Tryz.func135.trans (congrArg some (by kernel_rfl))
  f245 := Tryz.func125.trans (congrArg some (by kernel_rfl))
  f246 := Tryz.func83.trans (congrArg some (by kernel_rfl))
  f279 := Tryz.func129.trans (congrArg some (by kernel_rfl))
  f280 := Tryz.func130.trans (congrArg some (by kernel_rfl))
  f281 := Tryz.func131.trans (congrArg some (by kernel_rfl))
  f282 := Tryz.func132.trans (congrArg some (by kernel_rfl))
  f283 := Tryz.func93.trans (congrArg some (by kernel_rfl))
  f284 := Tryz.func94.trans (congrArg some (by kernel_rfl))
  f285 := Tryz.func95.trans (congrArg some (by kernel_rfl))
  f286 := Tryz.func96.trans (congrArg some (by kernel_rfl))
  f316 := Tryz.func89.trans (congrArg some (by kernel_rfl))
  f317 := Tryz.func106.trans (congrArg some (by kernel_rfl))
  f318 := Tryz.func108.trans (congrArg some (by kernel_rfl))
  f319 := Tryz.func109.trans (congrArg some (by kernel_rfl))
  f320 := Tryz.func110.trans (congrArg some (by kernel_rfl))
  f337 := Tryz.func120.trans (congrArg some (by kernel_rfl))
  f338 := Tryz.func121.trans (congrArg some (by kernel_rfl))
  t0 := Tryz.underlying0
  a0 := Tryz.isAgg0
  z0 := Tryz.sizeOf0
  v0 := Tryz.zeroValue0
  t2 := Tryz.underlying2
  a2 := Tryz.isAgg2
  z2 := Tryz.sizeOf2
  v2 := Tryz.zeroValue2
  t3 := Tryz.underlying3
  a3 := Tryz.isAgg3
  z3 := Tryz.sizeOf3
  v3 := Tryz.zeroValue3
  t4 := Tryz.underlying4
  a4 := Tryz.isAgg4
  z4 := Tryz.sizeOf4
  v4 := Tryz.zeroValue4
  t5 := Tryz.underlying5
  a5 := Tryz.isAgg5
  z5 := Tryz.sizeOf5
  v5 := Tryz.zeroValue5
  t9 := Tryz.underlying9
  a9 := Tryz.isAgg9
  z9 := Tryz.sizeOf9
  v9 := Tryz.zeroValue9
  t20 := Tryz.underlying20
  a20 := Tryz.isAgg20
  z20 := Tryz.sizeOf20
  v20 := Tryz.zeroValue20
  t37 := Tryz.underlying51
  a37 := Tryz.isAgg51
  z37 := Tryz.sizeOf51
  v37 := Tryz.zeroValue51
  t46 := Tryz.underlying130
  a46 := Tryz.isAgg130
  z46 := Tryz.sizeOf130
  v46 := Tryz.zeroValue130
  t51 := Tryz.underlying160
  a51 := Tryz.isAgg160
  z51 := Tryz.sizeOf160
  v51 := Tryz.zeroValue160
  t53 := Tryz.underlying151
  a53 := Tryz.isAgg151
  z53 := Tryz.sizeOf151
  v53 := Tryz.zeroValue151
  t75 := Tryz.underlying28
  a75 := Tryz.isAgg28
  z75 := Tryz.sizeOf28
  v75 := Tryz.zeroValue28
  t127 := Tryz.underlying98
  a127 := Tryz.isAgg98
  z127 := Tryz.sizeOf98
  v127 := Tryz.zeroValue98
  t143 := Tryz.underlying184
  a143 := Tryz.isAgg184
  z143 := Tryz.sizeOf184
  v143 := Tryz.zeroValue184
  t145 := Tryz.underlying186
  a145 := Tryz.isAgg186
  z145 := Tryz.sizeOf186
  v145 := Tryz.zeroValue186
  t167 := Tryz.underlying177
  a167 := Tryz.isAgg177
  z167 := Tryz.sizeOf177
  v167 := Tryz.zeroValue177
  t168 := Tryz.underlying179
  a168 := Tryz.isAgg179
  z168 := Tryz.sizeOf179
  v168 := Tryz.zeroValue179
  t171 := Tryz.underlying150
  a171 := Tryz.isAgg150
  z171 := Tryz.sizeOf150
  v171 := Tryz.zeroValue150
  t173 := Tryz.underlying154
  a173 := Tryz.isAgg154
  z173 := Tryz.sizeOf154
  v173 := Tryz.zeroValue154
  t210 := Tryz.underlying183
  a210 := Tryz.isAgg183
  z210 := Tryz.sizeOf183
  v210 := Tryz.zeroValue183
  t212 := Tryz.underlying159
  a212 := Tryz.isAgg159
  z212 := Tryz.sizeOf159
  v212 := Tryz.zeroValue159
  t213 := Tryz.underlying161
  a213 := Tryz.isAgg161
  z213 := Tryz.sizeOf161
  t232 := Tryz.underlying175
  a232 := Tryz.isAgg175
  z232 := Tryz.sizeOf175
  v232 := Tryz.zeroValue175
  t233 := Tryz.underlying176
  a233 := Tryz.isAgg176
  z233 := Tryz.sizeOf176
  v233 := Tryz.zeroValue176
  g15 := by kernel_rfl
  g16 := by kernel_rfl
  g17 := by kernel_rfl
  g18 := by kernel_rfl
  g19 := by kernel_rfl
  t80 := Tryz.underlying70
  a80 := Tryz.isAgg70
  z80 := Tryz.sizeOf70
  v80 := Tryz.zeroValue70
  i0 := by kernel_rfl
  i2 := by kernel_rfl
  i3 := by kernel_rfl
  i4 := by kernel_rfl
  i5 := by kernel_rfl
  i9 := by kernel_rfl
  i20 := by kernel_rfl
  i37 := by kernel_rfl
  i46 := by kernel_rfl
  i51 := by kernel_rfl
  i53 := by kernel_rfl
  i75 := by kernel_rfl
  i80 := by kernel_rfl
  i127 := by kernel_rfl
  i143 := by kernel_rfl
  i145 := by kernel_rfl
  i167 := by kernel_rfl
  i168 := by kernel_rfl
  i171 := by kernel_rfl
  i173 := by kernel_rfl
  i210 := by kernel_rfl
  i212 := by kernel_rfl
  i232 := by kernel_rfl
  i233 := by kernel_rfl
  m15 := by kernel_rfl
  m16 := by kernel_rfl
  m17 := by kernel_rfl
  m18 := by kernel_rfl
  m19 := by kernel_rfl
  c0 := by kernel_rfl
  c2 := by kernel_rfl
  c3 := by kernel_rfl
  c4 := by kernel_rfl
  c5 := by kernel_rfl
  c9 := by kernel_rfl
  c20 := by kernel_rfl
  c37 := by kernel_rfl
  c46 := by kernel_rfl
  c51 := by kernel_rfl
  c53 := by kernel_rfl
  c75 := by kernel_rfl
  c80 := by kernel_rfl
  c127 := by kernel_rfl
  c143 := by kernel_rfl
  c145 := by kernel_rfl
  c167 := by kernel_rfl
  c168 := by kernel_rfl
  c171 := by kernel_rfl
  c173 := by kernel_rfl
  c210 := by kernel_rfl
  c212 := by kernel_rfl
  c213 := by kernel_rfl
  c232 := by kernel_rfl
  c233 := by kernel_rfl }
open Go.RowKit in
theorem Tryz.strconv_toError_syntax (fn s : ByteArray) (base bits : Int) (ev : Value) (w : World) (hlim : s.size ≤ 281474976710656) (hv : w.cell? ⟨7, 0, none⟩ = some ev) (hev : ev = .nilIface ∨ ∃ te pe, ev = .iface te pe) :
    Calls Tryz.prog 125 #[.string fn, .string s, .int .i64 base, .int .i64 bits, .iface 177 (.int .i64 2)] w fun e w' => ∃ N, e = .returned (.iface 179 (.pointer (some ⟨N, 0, none⟩))) ∧ w.heap.size ≤ N ∧ w'.heap[N]? = some (.cells #[.string fn, .string s, ev] 183 (0, 0)) ∧ Below w.heap.size w w' := Any.strconv_toError_syntax Tryz.laysC245 fn s base bits ev w hlim hv hev
def Tryz.lays321_ren : Go.Shelf.Ren := ⟨fun | 321 => 127 | n => n, fun | 5 => 5 | n => n, fun | n => n⟩
theorem Tryz.lays321 : Go.Proofs.Lays.n321 Tryz.prog Tryz.lays321_ren := {
  mixed := by kernel_rfl
  f321 := Tryz.func127.trans (congrArg some (by kernel_rfl))
  t5 := Tryz.underlying5
  a5 := Tryz.isAgg5
  z5 := Tryz.sizeOf5
  v5 := Tryz.zeroValue5 }
open Go.RowKit in
theorem Tryz.internal_strconv_lower (c : Int) (w : World) :
    Calls Tryz.prog 127 #[.int .u8 c] w fun e w' => e = .returned (.int .u8 (bits .or .u8 c 32)) ∧ w' = w := Any.internal_strconv_lower Tryz.lays321 c w
open Go.RowKit in
theorem Tryz.strconv_toError_range (fn s : ByteArray) (base bits : Int) (ev : Value) (w : World) (hlim : s.size ≤ 281474976710656) (hv : w.cell? ⟨8, 0, none⟩ = some ev) (hev : ev = .nilIface ∨ ∃ te pe, ev = .iface te pe) :
    Calls Tryz.prog 125 #[.string fn, .string s, .int .i64 base, .int .i64 bits, .iface 177 (.int .i64 1)] w fun e w' => ∃ N, e = .returned (.iface 179 (.pointer (some ⟨N, 0, none⟩))) ∧ w.heap.size ≤ N ∧ w'.heap[N]? = some (.cells #[.string fn, .string s, ev] 183 (0, 0)) ∧ Below w.heap.size w w' := Any.strconv_toError_range Tryz.laysC245 fn s base bits ev w hlim hv hev
def Tryz.lays219_ren : Go.Shelf.Ren := ⟨fun | 219 => 86 | 217 => 99 | 225 => 100 | 224 => 101 | 267 => 102 | 266 => 113 | 314 => 114 | n => n, fun | 9 => 9 | 3 => 3 | 4 => 4 | 5 => 5 | 46 => 130 | 146 => 163 | 51 => 160 | n => n, fun | 1 => 1 | n => n⟩
theorem Tryz.lays219 : Go.Proofs.Lays.n219 Tryz.prog Tryz.lays219_ren := {
  mixed := by kernel_rfl
  f217 := Tryz.func99.trans (congrArg some (by kernel_rfl))
  f219 := Tryz.func86.trans (congrArg some (by kernel_rfl))
  f224 := Tryz.func101.trans (congrArg some (by kernel_rfl))
  f225 := Tryz.func100.trans (congrArg some (by kernel_rfl))
  f266 := Tryz.func113.trans (congrArg some (by kernel_rfl))
  f267 := Tryz.func102.trans (congrArg some (by kernel_rfl))
  f314 := Tryz.func114.trans (congrArg some (by kernel_rfl))
  t3 := Tryz.underlying3
  a3 := Tryz.isAgg3
  z3 := Tryz.sizeOf3
  v3 := Tryz.zeroValue3
  t4 := Tryz.underlying4
  a4 := Tryz.isAgg4
  z4 := Tryz.sizeOf4
  v4 := Tryz.zeroValue4
  t5 := Tryz.underlying5
  a5 := Tryz.isAgg5
  z5 := Tryz.sizeOf5
  v5 := Tryz.zeroValue5
  t9 := Tryz.underlying9
  a9 := Tryz.isAgg9
  z9 := Tryz.sizeOf9
  v9 := Tryz.zeroValue9
  t46 := Tryz.underlying130
  a46 := Tryz.isAgg130
  z46 := Tryz.sizeOf130
  v46 := Tryz.zeroValue130
  t51 := Tryz.underlying160
  a51 := Tryz.isAgg160
  z51 := Tryz.sizeOf160
  v51 := Tryz.zeroValue160
  t146 := Tryz.underlying163
  a146 := Tryz.isAgg163
  z146 := Tryz.sizeOf163
  v146 := Tryz.zeroValue163
  g1 := by kernel_rfl }
open Go.RowKit Go.Lib in
theorem Tryz.stringslite_Index_one (s : ByteArray) (c : UInt8) (w : World) :
    Calls Tryz.prog 86 #[.string s, .string ⟨#[c]⟩] w fun e w' => e = .returned (.int .i64 (Lib.indexByte s.data.toList c)) ∧ w' = w := Any.stringslite_Index_one Tryz.lays219 s c w
def Tryz.lays206_ren : Go.Shelf.Ren := ⟨fun | 206 => 126 | n => n, fun | 9 => 9 | 4 => 4 | 3 => 3 | n => n, fun | n => n⟩
theorem Tryz.lays206 : Go.Proofs.Lays.n206 Tryz.prog Tryz.lays206_ren := {
  mixed := by kernel_rfl
  f206 := Tryz.func126.trans (congrArg some (by kernel_rfl))
  t3 := Tryz.underlying3
  a3 := Tryz.isAgg3
  z3 := Tryz.sizeOf3
  v3 := Tryz.zeroValue3
  t4 := Tryz.underlying4
  a4 := Tryz.isAgg4
  z4 := Tryz.sizeOf4
  v4 := Tryz.zeroValue4
  t9 := Tryz.underlying9
  a9 := Tryz.isAgg9
  z9 := Tryz.sizeOf9
  v9 := Tryz.zeroValue9 }
open Go.RowKit Go.Lib in
theorem Tryz.stringslite_HasPrefix (s p : ByteArray) (w : World) :
    Calls Tryz.prog 126 #[.string s, .string p] w fun e w' => e = .returned (.bool (Lib.hasPrefix s.data.toList p.data.toList)) ∧ w' = w := Any.stringslite_HasPrefix Tryz.lays206 s p w
end Go.Proofs
/- strconv.ParseUint to the base 16. -/
namespace Go.Proofs.YtlfdpdlhppgakaaGreatDoor
open Go Go.RowKit Go.Kt Go.Kt.Rg

theorem or_32 : ∀ c, c < 256 → bits .or .u8 ((c : Nat) : Int) 32 = ((c ||| 32 : Nat) : Int) := by decide +kernel
theorem or_ge : ∀ c, c < 256 → c ≤ c ||| 32 := by decide +kernel
theorem or_bd : ∀ c, c < 256 → c ||| 32 < 256 := by decide +kernel
theorem or_dig : ∀ c, c < 256 → 97 ≤ c ||| 32 → c ||| 32 ≤ 122 → 57 < c ∧ c ≠ 95 := by decide +kernel
/-- The answer of ParseUint, the inner one and the outer one. -/
def PuOut (T : TypeId) (K : Value → Prop) (o : Option Nat) (e : Ending) : Prop :=
  match o with
  | some n => e = .returned (.tuple #[.int .u64 (n : Nat), .nilIface])
  | none => ∃ (z : Int) (k : Value), e = .returned (.tuple #[.int .u64 z, .iface T k]) ∧ K k
theorem PuOut.yes {T : TypeId} {K : Value → Prop} {o : Option Nat} {n : Nat} (h : o = some n) : PuOut T K o (.returned (.tuple #[.int .u64 (n : Nat), .nilIface])) := by subst h; rfl
theorem PuOut.no {T : TypeId} {K : Value → Prop} {o : Option Nat} (z : Int) {k : Value} (h : o = none) (hk : K k) : PuOut T K o (.returned (.tuple #[.int .u64 z, .iface T k])) := by subst h; exact ⟨z, k, rfl, hk⟩
def PuErr (k : Value) : Prop := k = .int .i64 1 ∨ k = .int .i64 2
theorem puF_some {mx n d : Nat} {c : UInt8} {t : List UInt8} (h : digV c.toNat = some d) (h1 : d < 16) (h2 : n * 16 + d ≤ mx) : puF mx n (c :: t) = puF mx (n * 16 + d) t := by
  rw [puF, h]; simp only; rw [if_neg (by omega), if_neg (by omega)]
theorem puF_over {mx n d : Nat} {c : UInt8} {t : List UInt8} (h : digV c.toNat = some d) (h1 : d < 16) (h2 : mx < n * 16 + d) : puF mx n (c :: t) = none := by
  rw [puF, h]; simp only; rw [if_neg (by omega), if_pos h2]
theorem puF_big {mx n d : Nat} {c : UInt8} {t : List UInt8} (h : digV c.toNat = some d) (h1 : 16 ≤ d) : puF mx n (c :: t) = none := by
  rw [puF, h]; simp only; rw [if_pos h1]
theorem puF_bad {mx n : Nat} {c : UInt8} {t : List UInt8} (h : digV c.toNat = none) : puF mx n (c :: t) = none := by
  rw [puF, h]
theorem digV_dig {c : Nat} (h1 : 48 ≤ c) (h2 : c ≤ 57) : digV c = some (c - 48) := by unfold digV; rw [if_pos ⟨h1, h2⟩]
theorem digV_let {c : Nat} (h : 57 < c) (h1 : 97 ≤ c ||| 32) (h2 : c ||| 32 ≤ 122) : digV c = some ((c ||| 32) - 87) := by unfold digV; rw [if_neg (by omega), if_pos ⟨h1, h2⟩]
theorem digV_no {c : Nat} (h : ¬ (48 ≤ c ∧ c ≤ 57)) (h1 : ¬ (97 ≤ c ||| 32 ∧ c ||| 32 ≤ 122)) : digV c = none := by unfold digV; rw [if_neg h, if_neg h1]

end Go.Proofs.YtlfdpdlhppgakaaGreatDoor
/- strconv.ParseUint to the base 16, of 21 bits. -/
namespace Go.Proofs.YtlfdpdlhppgakaaGreatDoor
open Go Go.RowKit Go.Kt Go.Kt.Rg

set_option maxRecDepth 100000 in
set_option maxHeartbeats 8000000 in
theorem ipu21_any (s : ByteArray) (w : World) (hs : s.size ≤ 281474976710656) :
    Calls Tryz.prog 124 #[.string s, .int .i64 16, .int .i64 21] w fun e w' => PuOut 177 PuErr (puV 2097151 s.data.toList) e ∧ Below w.heap.size w w' := by
  obtain ⟨l, hl⟩ : ∃ l, s.data.toList = l := ⟨_, rfl⟩
  have hln : l.length = s.size := by rw [← hl]; exact (Lib.size_eq s).symm
  rw [hl]
  by_cases h0 : s.size = 0
  · have hn : l = [] := List.eq_nil_of_length_eq_zero (by omega)
    have hsn : s.toList = [] := by
      have : s.toList.length = 0 := by rw [ByteArray.toList_eq, hl, hn]; rfl
      exact List.eq_nil_of_length_eq_zero this
    have hsn2 : (!s.toList.isEmpty) = false := by rw [hsn]; rfl
    have HF : Hid (PuOut 177 PuErr (puV 2097151 l) (.returned (.tuple #[.int .u64 0, .iface 177 (.int .i64 2)])) ∧ Below w.heap.size w w) := Lib.hid ⟨.no 0 (by rw [hn]; rfl) (.inr rfl), Below.refl _ _⟩
    clear hn hl hln h0
    go_enter Tryz.func124, Tryz.ntmps124
    go_wp2
    go_ret2
    exact HF.out
  · have hemp : s.toList.isEmpty = false := by
      cases h : s.toList with
      | nil => rw [ByteArray.toList_eq, hl] at h; rw [h] at hln; exact absurd hln.symm h0
      | cons => rfl
    have hcv := Lib.run_convert_string_bytes (P := Tryz.prog) w 9 51 5 s (u := .string) Tryz.underlying9 Tryz.underlying51 Tryz.underlying5
    have hB : ∀ j, j < s.size → (Lib.bytesWorld w 5 s).cell? ⟨w.heap.size, j, none⟩ = some (.int .u8 (s.data.toList.getD j 0).toNat) := fun j hj => Lib.bytesWorld_cell w 5 s j hj
    have hBel : Below w.heap.size w (Lib.bytesWorld w 5 s) := Lib.bytesWorld_below w _ s
    obtain ⟨W1, hW1⟩ : ∃ W1, Lib.bytesWorld w 5 s = W1 := ⟨_, rfl⟩
    rw [hW1] at hcv hB hBel
    rw [hl] at hB
    have HB := Lib.hid hB
    have HBel := Lib.hid hBel
    obtain ⟨n, hn⟩ : ∃ n, s.size = n := ⟨_, rfl⟩
    rw [hn] at hs h0 hcv hln HB
    have HLN := Lib.hid hln
    have hV : Hid (puV 2097151 l = puF 2097151 0 l) := Lib.hid (by unfold puV; rw [if_neg]; intro e; rw [e] at hln; exact h0 hln.symm)
    clear hW1 hB hBel hl hln
    go_enter Tryz.func124, Tryz.ntmps124
    go_wp2
    go_loop [12, 13, 101] (fun vu vn vi => ∃ (k acc : Nat) (a : Int), vu = .bool false ∧ vn = .int .u64 a ∧ vi = .int .i64 k ∧ k ≤ n ∧ Hid (a = (acc : Int) ∧ acc ≤ 2097151 ∧ puF 2097151 acc (l.drop k) = puF 2097151 0 l)) (fun _ _ vi => n - (RowKit.intOf vi).toNat)
    case atStart => exact ⟨0, 0, 0, rfl, rfl, rfl, by omega, Lib.hid ⟨rfl, by omega, rfl⟩⟩
    case round =>
      obtain ⟨k, acc, a, rfl, rfl, rfl, hk, hh⟩ := hrel
      have a0 : 0 ≤ a := by have := hh.out.1; omega
      have a1 : a ≤ 2097151 := by have := hh.out; omega
      by_cases hkn : k < n
      · have hkn' : (k : Int) < n := by omega
        have hc := HB.out k hkn
        have hdrop : l.drop k = l[k]'(by rw [HLN.out]; exact hkn) :: l.drop (k + 1) := List.drop_eq_getElem_cons (by rw [HLN.out]; exact hkn)
        have hget : l.getD k 0 = l[k]'(by rw [HLN.out]; exact hkn) := by simp [List.getD, List.getElem?_eq_getElem (show k < l.length by rw [HLN.out]; exact hkn)]
        rw [hget] at hc
        generalize l[k]'(by rw [HLN.out]; exact hkn) = c at hc hdrop
        have HD := Lib.hid hdrop
        have hc256 : c.toNat < 256 := c.toNat_lt
        have q1 := or_32 c.toNat hc256
        have q2 := or_ge c.toNat hc256
        have q3 := or_bd c.toNat hc256
        have q4 := or_dig c.toNat hc256
        have e1 := @digV_dig c.toNat
        have e2 := @digV_let c.toNat
        have e3 := @digV_no c.toNat
        obtain ⟨L, hL⟩ : ∃ L, c.toNat ||| 32 = L := ⟨_, rfl⟩
        rw [hL] at q1 q2 q3 q4 e2 e3
        have FIN : ∀ d, digV c.toNat = some d → d < 16 → acc * 16 + d ≤ 2097151 → Hid (puF 2097151 (acc * 16 + d) (l.drop (k + 1)) = puF 2097151 0 l) := fun d h1 h2 h3 => Lib.hid (by rw [← hh.out.2.2, HD.out, puF_some h1 h2 h3])
        have OVR : ∀ d, digV c.toNat = some d → d < 16 → 2097151 < acc * 16 + d → Hid (puV 2097151 l = none) := fun d h1 h2 h3 => Lib.hid (by rw [hV.out, ← hh.out.2.2, HD.out, puF_over h1 h2 h3])
        have BIG : ∀ d, digV c.toNat = some d → 16 ≤ d → Hid (puV 2097151 l = none) := fun d h1 h2 => Lib.hid (by rw [hV.out, ← hh.out.2.2, HD.out, puF_big h1 h2])
        have BAD : digV c.toNat = none → Hid (puV 2097151 l = none) := fun h1 => Lib.hid (by rw [hV.out, ← hh.out.2.2, HD.out, puF_bad h1])
        have hacc := hh.out.1
        generalize c.toNat = cn at *
        clear hdrop hget hL
        by_cases hdig : 48 ≤ cn ∧ cn ≤ 57
        · obtain ⟨hd0, hd1⟩ := hdig
          have hdv := e1 hd0 hd1
          have i0 : (48 : Int) ≤ cn := by omega
          have i1 : (cn : Int) ≤ 57 := by omega
          by_cases hov : 2097151 < acc * 16 + (cn - 48)
          · have HF := OVR _ hdv (by omega) hov
            have iov : (2097151 : Int) < a * 16 + ((cn : Int) - 48) := by omega
            clear FIN OVR BIG BAD hdv e1 e2 e3 q1 q2 q3 q4 hacc hov hd0 hd1
            go_wp2
            go_ret2
            exact ⟨.no _ HF.out (.inl rfl), HBel.out⟩
          · have HF := FIN _ hdv (by omega) (by omega)
            have iov : a * 16 + ((cn : Int) - 48) ≤ 2097151 := by omega
            have HA : Hid (a * 16 + ((cn : Int) - 48) = ((acc * 16 + (cn - 48) : Nat) : Int) ∧ acc * 16 + (cn - 48) ≤ 2097151) := Lib.hid ⟨by omega, by omega⟩
            clear FIN OVR BIG BAD hdv e1 e2 e3 q1 q2 q3 q4 hacc hov hd0 hd1
            go_wp2
            go_round
            case rel => exact ⟨k + 1, acc * 16 + (cn - 48), a * 16 + ((cn : Int) - 48), rfl, rfl, by go_num, by omega, Lib.hid ⟨HA.out.1, HA.out.2, HF.out⟩⟩
            case measure => simp [RowKit.intOf]; omega
        · by_cases hlet : 97 ≤ L ∧ L ≤ 122
          · obtain ⟨hd0, hd1⟩ := hlet
            obtain ⟨g1, g2⟩ := q4 hd0 hd1
            have hdv := e2 g1 hd0 hd1
            have i0 : (97 : Int) ≤ L := by omega
            have i1 : (L : Int) ≤ 122 := by omega
            have i2 : (57 : Int) < cn := by omega
            have i3 : ((cn : Int) == 95) = false := by rw [beq_eq_false_iff_ne]; omega
            by_cases hbig : 102 < L
            · have HF := BIG _ hdv (by omega)
              have i4 : (102 : Int) < L := by omega
              clear FIN OVR BIG BAD hdv e1 e2 e3 q2 q3 q4 hacc hd0 hd1 g1 g2 hdig hbig
              go_wp2_with (go_at_call 127; refine (Tryz.internal_strconv_lower _ _).mono ?_; rintro e w' ⟨rfl, rfl⟩)
              go_ret2
              exact ⟨.no _ HF.out (.inr rfl), HBel.out⟩
            · have i4 : (L : Int) ≤ 102 := by omega
              by_cases hov : 2097151 < acc * 16 + (L - 87)
              · have HF := OVR _ hdv (by omega) hov
                have iov : (2097151 : Int) < a * 16 + ((L : Int) - 97 + 10) := by omega
                clear FIN OVR BIG BAD hdv e1 e2 e3 q2 q3 q4 hacc hov hd0 hd1 g1 g2 hdig hbig
                go_wp2_with (go_at_call 127; refine (Tryz.internal_strconv_lower _ _).mono ?_; rintro e w' ⟨rfl, rfl⟩)
                go_ret2
                exact ⟨.no _ HF.out (.inl rfl), HBel.out⟩
              · have HF := FIN _ hdv (by omega) (by omega)
                have iov : a * 16 + ((L : Int) - 97 + 10) ≤ 2097151 := by omega
                have HA : Hid (a * 16 + ((L : Int) - 97 + 10) = ((acc * 16 + (L - 87) : Nat) : Int) ∧ acc * 16 + (L - 87) ≤ 2097151) := Lib.hid ⟨by omega, by omega⟩
                clear FIN OVR BIG BAD hdv e1 e2 e3 q2 q3 q4 hacc hov hd0 hd1 g1 g2 hdig hbig
                go_wp2_with (go_at_call 127; refine (Tryz.internal_strconv_lower _ _).mono ?_; rintro e w' ⟨rfl, rfl⟩)
                go_round
                case rel => exact ⟨k + 1, acc * 16 + (L - 87), a * 16 + ((L : Int) - 97 + 10), rfl, rfl, by go_num, by omega, Lib.hid ⟨HA.out.1, HA.out.2, HF.out⟩⟩
                case measure => simp [RowKit.intOf]; omega
          · have HF := BAD (e3 hdig hlet)
            have u0 : (cn : Int) < 48 ∨ (57 : Int) < cn := by omega
            have u1 : (L : Int) < 97 ∨ (122 : Int) < L := by omega
            have hb0 : 0 ≤ (L : Int) := by omega
            have hb1 : (L : Int) < 256 := by omega
            clear FIN OVR BIG BAD e1 e2 e3 q2 q3 q4 hacc hdig hlet
            rcases u0 with u0 | u0
            all_goals rcases u1 with u1 | u1
            all_goals
              go_wp2_with (go_at_call 127; refine (Tryz.internal_strconv_lower _ _).mono ?_; rintro e w' ⟨rfl, rfl⟩)
            all_goals go_ret2
            all_goals exact ⟨.no _ HF.out (.inr rfl), HBel.out⟩
      · have hkn' : ¬ (k : Int) < n := by omega
        obtain rfl : k = n := by omega
        have HF : Hid (puV 2097151 l = some acc) := Lib.hid (by rw [hV.out, ← hh.out.2.2, List.drop_eq_nil_of_le (by rw [HLN.out]; exact Nat.le_refl _)]; rfl)
        have HA := hh.out.1
        subst HA
        go_wp2
        go_ret2
        exact ⟨.yes HF.out, HBel.out⟩
end Go.Proofs.YtlfdpdlhppgakaaGreatDoor
/- spelt, the point that a text may begin with. -/
namespace Go.Proofs.YtlfdpdlhppgakaaGreatDoor
open Go Go.RowKit Go.Kt Go.Kt.Rg

/-- strconv's two errors lie. -/
def SVar (w : World) : Prop := (∃ t p, w.cell? ⟨7, 0, none⟩ = some (.iface t p)) ∧ ∃ t p, w.cell? ⟨8, 0, none⟩ = some (.iface t p)
theorem SVar.below {A B : World} (h : SVar A) (hb : Below A.heap.size A B) : SVar B := by
  obtain ⟨⟨t, p, h1⟩, t2, p2, h2⟩ := h
  exact ⟨⟨t, p, (hb.cell (lt_of_cell h1)).trans h1⟩, t2, p2, (hb.cell (lt_of_cell h2)).trans h2⟩
theorem upB_ix : ∀ l : List UInt8, (Lib.indexByte l 125 = -1 ∧ upB l = l) ∨ ∃ o : Nat, Lib.indexByte l 125 = o ∧ o < l.length ∧ upB l = l.take o
  | [] => .inl ⟨rfl, rfl⟩
  | c :: t => by
    by_cases hc : c = 125
    · subst hc
      exact .inr ⟨0, by simp [Lib.indexByte], by simp, by simp [upB]⟩
    · have e : upB (c :: t) = c :: upB t := by simp [upB, hc]
      have hc' : (c == 125) = false := by simpa using hc
      rcases upB_ix t with ⟨h1, h2⟩ | ⟨o, h1, h2, h3⟩
      · exact .inl ⟨by simp [Lib.indexByte, hc', h1], by rw [e, h2]⟩
      · refine .inr ⟨o + 1, ?_, by simp; omega, by rw [e, h3]; rfl⟩
        unfold Lib.indexByte
        rw [hc', h1]
        have : ((o : Int) == -1) = false := by rw [beq_eq_false_iff_ne]; omega
        simp [this]

set_option maxRecDepth 100000 in
set_option maxHeartbeats 2000000 in
theorem cutB_any (s : ByteArray) (w : World) (hs : s.size ≤ 140737488351232) :
    Calls Tryz.prog 116 #[.string s, .string ⟨#[125]⟩] w fun e w' => ∃ (X : ByteArray) (b : Bool), e = .returned (.tuple #[.string ⟨(upB s.data.toList).toArray⟩, .string X, .bool b]) ∧ Below w.heap.size w w' := by
  have hln : s.data.toList.length = s.size := (Lib.size_eq s).symm
  have hsz1 : (⟨#[125]⟩ : ByteArray).size = 1 := rfl
  have C : Hid (Calls Tryz.prog 123 #[.string s, .string ⟨#[125]⟩] w fun e w' => ∃ (X : ByteArray) (b : Bool), e = .returned (.tuple #[.string ⟨(upB s.data.toList).toArray⟩, .string X, .bool b]) ∧ Below w.heap.size w w') := Lib.hid (by
    rcases upB_ix s.data.toList with ⟨h1, h2⟩ | ⟨o, h1, h2, h3⟩
    · have CI := Lib.hid (Tryz.stringslite_Index_one s 125 w)
      rw [h1] at CI
      rw [h2]
      have e : (⟨s.data.toList.toArray⟩ : ByteArray) = s := by cases s; simp
      rw [e]
      clear h1 h2 e hln hsz1
      go_enter Tryz.func123, Tryz.ntmps123
      go_wp2_with fail
      refine CI.out.mono ?_
      rintro e w' ⟨rfl, rfl⟩
      go_wp2
      go_ret3
      exact ⟨_, _, rfl, Below.refl _ _⟩
    · have CI := Lib.hid (Tryz.stringslite_Index_one s 125 w)
      rw [h1] at CI
      rw [h3, ← Lib.Pa.extract_upto]
      have c1 : (0 : Int) ≤ o := by omega
      have c2 : (o : Int) ≤ s.size := by omega
      have c3 : (0 : Int) ≤ (o : Int) + 1 := by omega
      have c4 : (o : Int) + 1 ≤ s.size := by omega
      clear h1 h2 h3 hln
      go_enter Tryz.func123, Tryz.ntmps123
      go_wp2_with fail
      refine CI.out.mono ?_
      rintro e w' ⟨rfl, rfl⟩
      go_wp2
      go_region
      all_goals
        go_wp2
        go_ret3
        exact ⟨_, _, rfl, below_drewN (Below.refl _ _) 1⟩)
  clear hln hsz1 hs
  go_enter Tryz.func116, Tryz.ntmps116
  go_wp2_with fail
  refine C.out.mono ?_
  rintro e w' ⟨X, b, rfl, hb⟩
  have HB := Lib.hid hb
  clear hb
  go_wp2
  go_ret3
  exact ⟨X, b, rfl, HB.out⟩

set_option maxRecDepth 100000 in
set_option maxHeartbeats 2000000 in
theorem pu21_any (s : ByteArray) (w : World) (hs : s.size ≤ 140737488351232) (hV : SVar w) :
    Calls Tryz.prog 117 #[.string s, .int .i64 16, .int .i64 21] w fun e w' => PuOut 179 (fun _ => True) (puV 2097151 s.data.toList) e ∧ Below w.heap.size w w' := by
  have CI := Lib.hid (ipu21_any s w (by omega))
  have HV := Lib.hid hV
  obtain ⟨o, ho⟩ : ∃ o, puV 2097151 s.data.toList = o := ⟨_, rfl⟩
  rw [ho] at CI ⊢
  clear hV ho
  go_enter Tryz.func117, Tryz.ntmps117
  go_wp2_with fail
  refine CI.out.mono ?_
  rintro e w1 ⟨hp, hb⟩
  have HB := Lib.hid hb
  clear hb
  cases o with
  | some n =>
    obtain rfl := hp
    have HF := Lib.hid (PuOut.yes (T := 179) (K := fun _ => True) (o := some n) rfl)
    go_wp2
    go_ret2
    exact ⟨HF.out, HB.out⟩
  | none =>
    obtain ⟨z, k, rfl, hk⟩ := hp
    have HF := Lib.hid (fun v => PuOut.no (T := 179) (K := fun _ => True) (o := none) z (k := v) rfl trivial)
    obtain ⟨⟨t1, p1, v1⟩, t2, p2, v2⟩ := HV.out.below HB.out
    rcases hk with rfl | rfl
    · have CT := Lib.hid (fun fn => Tryz.strconv_toError_range fn s 16 21 _ w1 (by omega) v2 (.inr ⟨_, _, rfl⟩))
      clear v1 v2
      go_wp2_with fail
      refine (CT.out _).mono ?_
      rintro e w2 ⟨N, rfl, _, _, hb2⟩
      have HB2 := Lib.hid (HB.out.trans (hb2.mono HB.out.size))
      clear hb2
      go_wp2
      go_ret2
      exact ⟨HF.out _, HB2.out⟩
    · have CT := Lib.hid (fun fn => Tryz.strconv_toError_syntax fn s 16 21 _ w1 (by omega) v1 (.inr ⟨_, _, rfl⟩))
      clear v1 v2
      go_wp2_with fail
      refine (CT.out _).mono ?_
      rintro e w2 ⟨N, rfl, _, _, hb2⟩
      have HB2 := Lib.hid (HB.out.trans (hb2.mono HB.out.size))
      clear hb2
      go_wp2
      go_ret2
      exact ⟨HF.out _, HB2.out⟩

theorem data_mk (l : List UInt8) : (⟨l.toArray⟩ : ByteArray).data.toList = l := rfl
theorem size_mk (l : List UInt8) : (⟨l.toArray⟩ : ByteArray).size = l.length := by show l.toArray.size = _; simp
theorem upB_len (l : List UInt8) : (upB l).length ≤ l.length := by unfold upB; exact (List.takeWhile_sublist _).length_le

end Go.Proofs.YtlfdpdlhppgakaaGreatDoor
/- The scanner in memory: since, unit, add. -/
namespace Go.Proofs.YtlfdpdlhppgakaaGreatDoor
open Go Go.RowKit Go.Kt Go.Shelf
attribute [local go_sem] Oper.semAt_some

/-- What lies at the variables that scan's functions read. -/
structure SEnv (w : World) : Prop where
  tabs : Lib.Utf8Tabs 2 3 w
  err : ErrT w
  sv : SVar w
theorem SEnv.below {A B : World} (h : SEnv A) (hb : Below A.heap.size A B) : SEnv B := by
  have h1 : 2 < A.heap.size := lt_of_cell (h.tabs.1 0 (by decide))
  have h2 : 3 < A.heap.size := lt_of_cell (h.tabs.2 0 (by decide)).1
  have h3 : 0 < A.heap.size := lt_of_cell h.err
  exact ⟨tabs_below h.tabs (by omega) hb, h.err.below h3 hb, h.sv.below hb⟩

structure Tk where
  kind : Nat
  text : List UInt8
  pl : Pl
structure Sc where
  st : Nat
  here : Pl
  «from» : Pl
  text : List UInt8
  quote : Pl
  behind : Nat
  toks : List Tk
def u8V (l : List UInt8) : List Value := l.map fun b => Value.int .u8 b.toNat
def tkC (t : Tk) : List Value := [.int .i64 (t.kind : Nat), .string ⟨t.text.toArray⟩, .int .i64 (t.pl.1 : Nat), .int .i64 (t.pl.2.1 : Nat), .int .i64 (t.pl.2.2 : Nat)]
def tksC (l : List Tk) : List Value := l.flatMap tkC
abbrev scC (s : ByteArray) (st l1 c1 i1 l2 c2 i2 : Int) (tv : Value) (l3 c3 i3 bh : Int) (kv : Value) : Array Value :=
  #[.string s, .int .i64 st, .int .i64 l1, .int .i64 c1, .int .i64 i1, .int .i64 l2, .int .i64 c2, .int .i64 i2, tv, .int .i64 l3, .int .i64 c3, .int .i64 i3, .int .i64 bh, kv]
abbrev scA (s : ByteArray) (c : Sc) (tv kv : Value) : Array Value :=
  scC s (c.st : Nat) (c.here.1 : Nat) (c.here.2.1 : Nat) (c.here.2.2 : Nat) (c.from.1 : Nat) (c.from.2.1 : Nat) (c.from.2.2 : Nat) tv (c.quote.1 : Nat) (c.quote.2.1 : Nat) (c.quote.2.2 : Nat) (c.behind : Nat) kv
/-- The scanner lies at block g; its text and its tokens lie in rows of their own. -/
def ScAt (D g : Nat) (s : ByteArray) (c : Sc) (w : World) : Prop :=
  ∃ tv kv, w.heap[g]? = some (.cells (scA s c tv kv) 53 (0, 0)) ∧ True ∧
    OwnS (fun b => D ≤ b ∧ b ≠ g) 5 1 tv c.text.length (u8V c.text) w ∧
    OwnS (fun b => D ≤ b ∧ b ≠ g ∧ tv.ownBlock ≠ some b) 39 5 kv c.toks.length (tksC c.toks) w
theorem ScAt.below {D g : Nat} {s : ByteArray} {c : Sc} {A B : World} (h : ScAt D g s c A) (hb : Below A.heap.size A B) : ScAt D g s c B := by
  obtain ⟨tv, kv, h1, h2, h3, h4⟩ := h
  have hk : Keep (fun _ => False) A B := ⟨hb.os, hb.tape, hb.output, hb.size, fun k hk _ => hb.block k hk⟩
  exact ⟨tv, kv, (hb.block g (Array.getElem?_eq_some_iff.1 h1).1).trans h1, h2, h3.keep hk (fun _ h => h.elim), h4.keep hk (fun _ h => h.elim)⟩

def unitW (s : ByteArray) (i : Nat) : Nat := if i < s.size then (Utf8.decode s i).2 else 0
theorem decP_W (s : ByteArray) (i : Nat) : ∃ r, decP s i = (r, ((unitW s i : Nat) : Int)) := by
  unfold unitW
  by_cases h : i < s.size
  · rw [if_pos h, decP_in s i h]; exact ⟨_, rfl⟩
  · rw [if_neg h, decP_out s i (by omega)]; exact ⟨_, rfl⟩
theorem unitW_bd (s : ByteArray) (i : Nat) (h : i ≤ s.size) : unitW s i ≤ 4 ∧ i + unitW s i ≤ s.size ∧ (i < s.size → 1 ≤ unitW s i) := by
  unfold unitW
  by_cases h1 : i < s.size
  · rw [if_pos h1]
    have := dec_width s i h1
    omega
  · rw [if_neg h1]; omega

set_option maxRecDepth 100000 in
theorem since_any (s : ByteArray) (st l1 c1 l2 c2 l3 c3 i3 bh : Int) (i1 i2 : Nat) (tv kv : Value) (g : Nat) (w : World) (hg : w.heap[g]? = some (.cells (scC s st l1 c1 i1 l2 c2 i2 tv l3 c3 i3 bh kv) 53 (0, 0))) (h1 : i2 ≤ i1) (h2 : i1 ≤ s.size) :
    Calls Tryz.prog 52 #[.pointer (some ⟨g, 0, none⟩)] w fun e w' => e = .returned (.string (s.extract i2 i1)) ∧ Below w.heap.size w w' := by
  have c0 : w.cell? ⟨g, 0, none⟩ = some (.string s) := by rw [Lib.cell_of_heap hg]; rfl
  have c4 : w.cell? ⟨g, 4, none⟩ = some (.int .i64 i1) := by rw [Lib.cell_of_heap hg]; rfl
  have c7 : w.cell? ⟨g, 7, none⟩ = some (.int .i64 i2) := by rw [Lib.cell_of_heap hg]; rfl
  clear hg
  go_enter Tryz.func52, Tryz.ntmps52
  go_wp2
  go_quiet (fail)
  go_wp2
  go_ret
  exact ⟨rfl, below_drewN (Below.refl _ _) _⟩

set_option maxRecDepth 100000 in
theorem sunit_any (s : ByteArray) (st l1 c1 l2 c2 i2 l3 c3 i3 bh : Int) (i : Nat) (tv kv : Value) (g : Nat) (w : World) (hg : w.heap[g]? = some (.cells (scC s st l1 c1 i l2 c2 i2 tv l3 c3 i3 bh kv) 53 (0, 0))) (h2 : i ≤ s.size) (hs : s.size ≤ 140737488351232) (hE : SEnv w) :
    Calls Tryz.prog 73 #[.pointer (some ⟨g, 0, none⟩)] w fun e w' => e = .returned (.string (s.extract i (i + unitW s i))) ∧ Below w.heap.size w w' := by
  have c0 : w.cell? ⟨g, 0, none⟩ = some (.string s) := by rw [Lib.cell_of_heap hg]; rfl
  have c4 : w.cell? ⟨g, 4, none⟩ = some (.int .i64 i) := by rw [Lib.cell_of_heap hg]; rfl
  have hgl : g < w.heap.size := (Array.getElem?_eq_some_iff.1 hg).1
  obtain ⟨r, hr⟩ := decP_W s i
  obtain ⟨b1, b2, b3⟩ := unitW_bd s i h2
  have C := Lib.hid (fun w h => utfDecode_any s i w h (by omega))
  rw [hr] at C
  generalize unitW s i = n at *
  have HE := Lib.hid hE
  have HS0 : (s.extract i s.size).extract 0 n = s.extract i (i + n) := by
    apply ByteArray.ext
    simp only [ByteArray.data_extract, Array.extract_extract]
    congr 1
    omega
  have HS : ∀ w, (Instr.slice 9 (.string (s.extract i s.size)) none (some (.int .i64 (n : Nat))) none).run Tryz.prog w = .ok (.string (s.extract i (i + n))) w := fun w => by
    rw [run_slice_string_h (ht := Tryz.underlying9) (h0 := by omega) (h2 := by rw [ByteArray.size_extract]; omega)]
    rw [Int.toNat_natCast, HS0]
  clear hg hr b3 hE HS0
  go_enter Tryz.func73, Tryz.ntmps73
  go_wp2
  go_region_with (first
    | (go_at_call 32; refine (C.out w.drew HE.out.tabs).mono ?_; rintro e w1 ⟨rfl, hb⟩
       have k0 := (hb.cell (p := ⟨g, 0, none⟩) hgl).trans c0
       have k4 := (hb.cell (p := ⟨g, 4, none⟩) hgl).trans c4
       have HB := Lib.hid (((Below.refl _ w).drew).trans hb)
       clear hb c0 c4))
  all_goals
    go_wp2_with fail
    go_quiet (fail)
    go_wp2
    go_ret
    exact ⟨rfl, below_drewN HB.out _⟩
end Go.Proofs.YtlfdpdlhppgakaaGreatDoor
/- What is the same of any program: a drawn region is gone through operation by operation, not order by order: each operation leaves in its slot what it is said to leave, whatever has come up ahead of it. -/
namespace Go.Kt
open Go

section
variable {P : Program} {ops : Array Oper} {Q : Exit → Act → World → Prop} {md : Region.Mode}

/-- No operation of the region has this slot. -/
def outside (ops : Array Oper) (k : Nat) : Bool := ops.all fun o => o.dst != some k
/-- All slots are different, and lie in the frame. -/
def apartB (ops : Array Oper) (n : Nat) : Bool :=
  (List.range ops.size).all fun i => match (ops.getD i default).dst with
    | none => true
    | some k => decide (k < n) && (List.range ops.size).all fun j => i == j || (ops.getD j default).dst != some k
/-- Operations wait for earlier ones alone. -/
def forwardB (md : Region.Mode) (ops : Array Oper) : Bool :=
  (List.range ops.size).all fun i => (ops.getD i default).after.all fun e => !Region.binds md e || decide (e.on < i)
/-- 'o' waits for operation number j. -/
def waitsB (md : Region.Mode) (o : Oper) (j : Nat) : Bool := o.after.any fun e => e.on == j && Region.binds md e
def slotB (ops : Array Oper) (j k : Nat) : Bool := match ops[j]? with | some o => o.dst == some k | none => false

/-- The frame at hand is the first one but for the region's slots. -/
structure Like (ops : Array Oper) (a0 a : Act) : Prop where
  defers : a.defers = a0.defers
  size : a.tmps.size = a0.tmps.size
  far : ∀ k, outside ops k = true → a.tmps.getD k undef = a0.tmps.getD k undef

/-- One operation: where those that it waits for have left what they are said to leave, it is wanted, and leaves what it is said to leave. -/
def SlotStep (P : Program) (md : Region.Mode) (ops : Array Oper) (Q : Exit → Act → World → Prop) (S : World → Prop) (R : World → World → Prop) (p : Nat → Value → World → Prop) (a0 : Act) (i : Nat) (o : Oper) : Prop :=
  ∀ a w, S w → Like ops a0 a → (∀ j k, waitsB md o j = true → slotB ops j k = true → p j (a.tmps.getD k undef) w) →
    Region.wanted o (yielded ops a.tmps) = true ∧ o.wp P a w (fun a' w' => ∃ v, a' = a.put o.dst v ∧ S w' ∧ R w w' ∧ p i v w') Q
def SlotSteps (P : Program) (md : Region.Mode) (ops : Array Oper) (Q : Exit → Act → World → Prop) (S : World → Prop) (R : World → World → Prop) (p : Nat → Value → World → Prop) (a0 : Act) : Nat → List Oper → Prop
  | _, [] => True
  | i, o :: r => SlotStep P md ops Q S R p a0 i o ∧ SlotSteps P md ops Q S R p a0 (i + 1) r
theorem SlotSteps.get {S : World → Prop} {R : World → World → Prop} {p : Nat → Value → World → Prop} {a0 : Act} : ∀ (l : List Oper) (i : Nat), SlotSteps P md ops Q S R p a0 i l → ∀ j o, l[j]? = some o → SlotStep P md ops Q S R p a0 (i + j) o
  | [], _, _, j, o, h => by simp at h
  | x :: r, i, hs, 0, o, h => by simp at h; subst h; exact hs.1
  | x :: r, i, hs, j + 1, o, h => by
    have := SlotSteps.get r (i + 1) hs.2 j o (by simpa using h)
    rw [show i + (j + 1) = i + 1 + j by omega]; exact this

def unlisted (listed : Array Bool) (n : Nat) : Nat := ((List.range n).filter fun i => !listed.getD i true).length
theorem filter_set_lt (listed : Array Bool) (i : Nat) (h : listed.getD i true = false) : ∀ (l : List Nat), i ∈ l →
    (l.filter fun j => !(listed.setIfInBounds i true).getD j true).length < (l.filter fun j => !listed.getD j true).length := by
  have hi : i < listed.size := by
    rcases Nat.lt_or_ge i listed.size with h' | h'
    · exact h'
    · simp [Array.getD, Nat.not_lt.2 h'] at h
  have hle : ∀ l : List Nat, (l.filter fun j => !(listed.setIfInBounds i true).getD j true).length ≤ (l.filter fun j => !listed.getD j true).length := by
    intro l
    induction l with
    | nil => simp
    | cons x r ih =>
      by_cases hx : x = i
      · subst hx
        have h1 : (listed.setIfInBounds x true).getD x true = true := by simp [Array.getD, hi]
        simp only [List.filter_cons, h1, h, Bool.not_true, Bool.not_false, if_true, Bool.false_eq_true, if_false, List.length_cons]
        omega
      · have h1 : (listed.setIfInBounds i true).getD x true = listed.getD x true := by
          simp only [Array.getD_eq_getD_getElem?, Array.getElem?_setIfInBounds, if_neg (Ne.symm hx)]
        simp only [List.filter_cons, h1]
        split
        · simp only [List.length_cons]; omega
        · exact ih
  intro l
  induction l with
  | nil => intro hm; cases hm
  | cons x r ih =>
    intro hm
    by_cases hx : x = i
    · subst hx
      have h1 : (listed.setIfInBounds x true).getD x true = true := by simp [Array.getD, hi]
      have := hle r
      simp only [List.filter_cons, h1, h, Bool.not_true, Bool.not_false, if_true, Bool.false_eq_true, if_false, List.length_cons]
      omega
    · have h1 : (listed.setIfInBounds i true).getD x true = listed.getD x true := by
        simp only [Array.getD_eq_getD_getElem?, Array.getElem?_setIfInBounds, if_neg (Ne.symm hx)]
      have hm' : i ∈ r := by
        rcases List.mem_cons.1 hm with h | h
        · exact absurd h.symm hx
        · exact h
      have := ih hm'
      simp only [List.filter_cons, h1]
      split
      · simp only [List.length_cons]; omega
      · exact this

theorem wpAny_inv (I : Array Bool → Act → World → Prop)
    (step : ∀ listed a w i, I listed a w → i ∈ Region.ready md ops listed → wpOp P ops Q i (I (listed.setIfInBounds i true)) a w)
    (done : ∀ listed a w, I listed a w → Region.ready md ops listed = [] → Q .normal a w) :
    ∀ fuel listed a w, unlisted listed ops.size ≤ fuel → I listed a w → wpAny P md ops Q fuel listed a w := by
  intro fuel
  induction fuel with
  | zero =>
    intro listed a w hf hI
    have hr : Region.ready md ops listed = [] := by
      rcases List.eq_nil_or_concat (Region.ready md ops listed) with h | ⟨l, i, h⟩
      · exact h
      · have hi : i ∈ Region.ready md ops listed := by rw [h]; simp
        obtain ⟨h1, o, ho, _⟩ := mem_ready.1 hi
        have hm : i ∈ (List.range ops.size).filter fun i => !listed.getD i true := by
          rw [List.mem_filter]
          exact ⟨List.mem_range.2 (Array.getElem?_eq_some_iff.1 ho).1, by rw [h1]; rfl⟩
        have := List.length_pos_of_mem hm
        unfold unlisted at hf
        omega
    exact ⟨hr, done _ _ _ hI hr⟩
  | succ fuel ih =>
    intro listed a w hf hI
    refine ⟨done _ _ _ hI, fun i hi => ?_⟩
    obtain ⟨h1, o, ho, _⟩ := mem_ready.1 hi
    have hlt := filter_set_lt listed i h1 (List.range ops.size) (List.mem_range.2 (Array.getElem?_eq_some_iff.1 ho).1)
    refine wpOp_mono (fun a' w' h' => ih _ a' w' ?_ h') (step listed a w i hI hi)
    unfold unlisted at hf ⊢
    omega

/-- A drawn region, operation by operation. S holds of each world that comes; R tells how a world goes over into the next; what a slot is said to hold stays so. -/
theorem wp_region_slots {id : Nat} {a0 : Act} {w0 : World} (S : World → Prop) (R : World → World → Prop) (p : Nat → Value → World → Prop) (hm : P.follows .mixedOrders = true) (hap : apartB ops a0.tmps.size = true) (hfw : forwardB .any ops = true)
    (hS : S w0.drew) (hp : ∀ i v w w', S w → S w' → R w w' → p i v w → p i v w') (hs : SlotSteps P .any ops Q S R p a0 0 ops.toList)
    (hd : ∀ a w, S w → Like ops a0 a → (∀ j k, slotB ops j k = true → p j (a.tmps.getD k undef) w) → (∀ j, j < ops.size → ∃ v, p j v w) → Q .normal a w) : (Code.region id ops true).wp P Q a0 w0 := by
  have hdst : ∀ (i : Nat) (o : Oper) (k : Nat), ops[i]? = some o → o.dst = some k → k < a0.tmps.size ∧ ∀ (j : Nat) (oj : Oper), ops[j]? = some oj → oj.dst = some k → i = j := by
    intro i o k ho hk
    have hi := (Array.getElem?_eq_some_iff.1 ho).1
    have h1 := List.all_eq_true.1 hap i (List.mem_range.2 hi)
    have h2 : ops.getD i default = o := by simp [Array.getD_eq_getD_getElem?, ho]
    rw [h2, hk] at h1
    simp only [Bool.and_eq_true, decide_eq_true_eq] at h1
    refine ⟨h1.1, fun j oj hj hjk => ?_⟩
    have hj' := (Array.getElem?_eq_some_iff.1 hj).1
    have h3 := List.all_eq_true.1 h1.2 j (List.mem_range.2 hj')
    have h4 : ops.getD j default = oj := by simp [Array.getD_eq_getD_getElem?, hj]
    rw [h4, hjk] at h3
    simpa using h3
  refine wp_region_any hm ?_
  refine wpAny_inv (fun listed a w => listed.size = ops.size ∧ S w ∧ Like ops a0 a ∧ (∀ j, listed.getD j false = true → ∃ v, p j v w) ∧ ∀ j k, listed.getD j false = true → slotB ops j k = true → p j (a.tmps.getD k undef) w) ?_ ?_ _ _ _ _ ?_ ⟨by simp, hS, ⟨rfl, rfl, fun _ _ => rfl⟩, ?_, ?_⟩
  · rintro listed a w i ⟨hz, hSw, hL, hE, hP⟩ hi
    obtain ⟨hjun, o, ho, hall⟩ := mem_ready.1 hi
    have hilt := (Array.getElem?_eq_some_iff.1 ho).1
    have hst := SlotSteps.get ops.toList 0 hs i o (by simpa using ho)
    rw [Nat.zero_add] at hst
    obtain ⟨hw, hx⟩ := hst a w hSw hL (fun j k hj hk => hP j k (by
      unfold waitsB at hj
      obtain ⟨e, he, h2⟩ := Array.any_eq_true'.1 hj
      simp only [Bool.and_eq_true, beq_iff_eq] at h2
      have := hall e he h2.2
      rw [h2.1] at this
      exact this) hk)
    unfold wpOp
    simp only [ho, hw, if_true]
    refine .inl (Oper.wp_mono ?_ hx)
    rintro a' w' ⟨v, rfl, hS', hR', hpv⟩
    refine ⟨by simpa using hz, hS', ⟨?_, ?_, fun k hk => ?_⟩, fun j hj => ?_, fun j k hj hk => ?_⟩
    · cases h : o.dst <;> exact hL.defers
    · cases h : o.dst
      · exact hL.size
      · simp only [Act.put, Array.size_setIfInBounds]; exact hL.size
    · cases h : o.dst with
      | none => exact hL.far k hk
      | some d =>
        have hne : d ≠ k := fun e => by
          subst e
          unfold outside at hk
          have := Array.all_eq_true.1 hk i hilt
          rw [(Array.getElem?_eq_some_iff.1 ho).2, h] at this
          simp at this
        simp only [Act.put, Array.getD_eq_getD_getElem?, Array.getElem?_setIfInBounds, if_neg hne]
        have := hL.far k hk
        simpa only [Array.getD_eq_getD_getElem?] using this
    · by_cases hji : j = i
      · subst hji; exact ⟨v, hpv⟩
      · have hjl : listed.getD j false = true := by
          simp only [Array.getD_eq_getD_getElem?, Array.getElem?_setIfInBounds, if_neg (Ne.symm hji)] at hj ⊢
          exact hj
        obtain ⟨u, hu⟩ := hE j hjl
        exact ⟨u, hp j _ w w' hSw hS' hR' hu⟩
    · obtain ⟨oj, hoj, hjk⟩ : ∃ oj, ops[j]? = some oj ∧ oj.dst = some k := by
        unfold slotB at hk
        cases h : ops[j]? with
        | none => rw [h] at hk; cases hk
        | some oj => rw [h] at hk; exact ⟨oj, rfl, by simpa using hk⟩
      by_cases hji : j = i
      · subst hji
        rw [hoj] at ho
        cases ho
        have hkz := (hdst j _ k hoj hjk).1
        rw [hjk]
        have : (a.put (some k) v).tmps.getD k undef = v := by
          have : k < a.tmps.size := by rw [hL.size]; exact hkz
          simp [Act.put, Array.getD_eq_getD_getElem?, this]
        rw [this]
        exact hpv
      · have hjl : listed.getD j false = true := by
          simp only [Array.getD_eq_getD_getElem?, Array.getElem?_setIfInBounds, if_neg (Ne.symm hji)] at hj ⊢
          exact hj
        have h1 := hp j _ w w' hSw hS' hR' (hP j k hjl hk)
        cases h : o.dst with
        | none => exact h1
        | some d =>
          have hne : d ≠ k := fun e => by
            subst e
            exact hji ((hdst i o d ho h).2 j oj hoj hjk).symm
          simp only [Act.put, Array.getD_eq_getD_getElem?, Array.getElem?_setIfInBounds, if_neg hne] at h1 ⊢
          exact h1
  · rintro listed a w ⟨hz, hSw, hL, hE, hP⟩ hr
    have hall : ∀ n j, j < n → j < ops.size → listed.getD j false = true := by
      intro n
      induction n with
      | zero => intro j h; omega
      | succ n ih =>
        intro j hjn hj
        cases hl : listed.getD j true with
        | true =>
          have : j < listed.size := by omega
          simpa [Array.getD_eq_getD_getElem?, this] using hl
        | false =>
          exfalso
          have hmem : j ∈ Region.ready .any ops listed := mem_ready.2 ⟨hl, ops[j], by simp [hj], fun e he hb => by
            have h1 := List.all_eq_true.1 hfw j (List.mem_range.2 hj)
            have h2 : ops.getD j default = ops[j] := by simp [Array.getD_eq_getD_getElem?, hj]
            rw [h2] at h1
            have h3 := Array.all_eq_true_iff_forall_mem.1 h1 e he
            rw [hb] at h3
            simp at h3
            exact ih e.on (by omega) (by omega)⟩
          rw [hr] at hmem
          cases hmem
    refine hd a w hSw hL (fun j k hk => hP j k (hall (j + 1) j (by omega) ?_) hk) (fun j hj => hE j (hall (j + 1) j (by omega) hj))
    unfold slotB at hk
    cases h : ops[j]? with
    | none => rw [h] at hk; cases hk
    | some oj => exact (Array.getElem?_eq_some_iff.1 h).1
  · unfold unlisted
    exact Nat.le_trans (List.length_filter_le _ _) (by simp)
  · intro j hj
    simp only [Array.getD_eq_getD_getElem?, Array.getElem?_replicate] at hj
    split at hj <;> simp at hj
  · intro j k hj
    simp only [Array.getD_eq_getD_getElem?, Array.getElem?_replicate] at hj
    split at hj <;> simp at hj
end
end Go.Kt
namespace Go.Kt
open Go
section
variable {P : Program} {ops : Array Oper} {Q : Exit → Act → World → Prop}
theorem SlotSteps.cons {S : World → Prop} {R : World → World → Prop} {p : Nat → Value → World → Prop} {a0 : Act} {md : Region.Mode} {i : Nat} {o : Oper} {r : List Oper}
    (h : SlotStep P md ops Q S R p a0 i o) (hr : SlotSteps P md ops Q S R p a0 (i + 1) r) : SlotSteps P md ops Q S R p a0 i (o :: r) := ⟨h, hr⟩
theorem SlotSteps.nil {S : World → Prop} {R : World → World → Prop} {p : Nat → Value → World → Prop} {a0 : Act} {md : Region.Mode} {i : Nat} : SlotSteps P md ops Q S R p a0 i [] := trivial
theorem wanted_true {o : Oper} {a : Act} {j : Nat} {b : Bool} (k : Nat) (hg : o.guard = some (j, b)) (hk : slotB ops j k = true) (h : a.tmps.getD k undef = .bool b) : Region.wanted o (yielded ops a.tmps) = true := by
  have h1 : a.tmps[k]? = some (.bool b) := by
    rw [Array.getD_eq_getD_getElem?] at h
    cases hx : a.tmps[k]? with
    | none => rw [hx] at h; cases h
    | some v => rw [hx] at h; simp at h; rw [h]
  unfold slotB at hk
  unfold Region.wanted yielded
  rw [hg]
  cases ho : ops[j]? with
  | none => rw [ho] at hk; cases hk
  | some oj =>
    rw [ho] at hk
    have : oj.dst = some k := by simpa using hk
    have h2 : (ops[j]?.bind fun x => x.dst).bind (fun x => a.tmps[x]?) = some (.bool b) := by rw [ho]; simp only [Option.bind_some, this, h1]
    simp only [h2]
    cases b <;> rfl
theorem wp_value {o : Oper} {a : Act} {w w' : World} {v : Value} {K : Act → World → Prop} (h : (execOp a.eval o).run P w = .ok (.value v) w') (hK : K (a.put o.dst v) w') : o.wp P a w K Q := by
  unfold Oper.wp; rw [h]; exact hK
theorem wp_enter {o : Oper} {a : Act} {w w' : World} {f : Nat} {args : Array Value} {K : Act → World → Prop} (h : (execOp a.eval o).run P w = .ok (.enter f args) w')
    (hK : Calls P f args w' fun e w'' => ∃ v, e = .returned v ∧ K (a.put o.dst v) w'') : o.wp P a w K Q := by
  unfold Oper.wp; rw [h]
  refine Calls.mono hK fun e w'' he => ?_
  obtain ⟨v, rfl, hv⟩ := he
  exact hv
theorem wp_skipped {o : Oper} {a : Act} {w w' : World} {K : Act → World → Prop} (h : (execOp a.eval o).run P w = .ok .skip w') (hK : K (a.put o.dst undef) w') : o.wp P a w K Q := by
  unfold Oper.wp; rw [h]; exact hK
theorem run_val {m : Sem Value} {w w' : World} {v : Value} (h : m.run P w = .ok v w') : (m >>= fun x => pure (Next.value x)).run P w = .ok (.value v) w' := by
  simp [h]
theorem exec_convert {o : Oper} {a : Act} {w w' : World} {src dst : TypeId} {x : Operand} {u v : Value} (ho : o.op = .convert src dst x) (hx : a.eval x = u) (h : (convert src dst u).run P w = .ok v w') : (execOp a.eval o).run P w = .ok (.value v) w' := by
  unfold execOp; rw [ho]; simp only [hx]; exact run_val h
end
end Go.Kt
namespace Go.Kt
open Go
section
variable {P : Program} {ops : Array Oper} {Q : Exit → Act → World → Prop} {o : Oper} {a : Act} {w w' : World}
theorem exec_load {t : TypeId} {x : Operand} {u v : Value} (ho : o.op = .load t x) (hx : a.eval x = u) (h : (Instr.loadAt t u).run P w = .ok v w') : (execOp a.eval o).run P w = .ok (.value v) w' := by
  unfold execOp; rw [ho]; simp only [hx]; exact run_val h
theorem exec_binop {op : BinOp} {t ty : TypeId} {x y : Operand} {u1 u2 v : Value} (ho : o.op = .binOp op t x y ty) (hx : a.eval x = u1) (hy : a.eval y = u2) (h : (do eqGuard op t x y u1 u2; binOp op t u1 u2 : Sem Value).run P w = .ok v w') : (execOp a.eval o).run P w = .ok (.value v) w' := by
  unfold execOp; rw [ho]; simp only [hx, hy]; exact run_val h
theorem exec_move {x : Operand} {u : Value} (ho : o.op = .move x) (hx : a.eval x = u) : (execOp a.eval o).run P w = .ok (.value u) w := by
  unfold execOp; rw [ho]; simp only [hx]; rfl
theorem exec_pick {c x y : Operand} {b : Bool} {u1 u2 : Value} (ho : o.op = .pick c x y) (hc : a.eval c = .bool b) (hx : a.eval x = u1) (hy : a.eval y = u2) : (execOp a.eval o).run P w = .ok (.value (if b then u1 else u2)) w := by
  unfold execOp; rw [ho]; simp only [hc, hx, hy]; rfl
theorem exec_store {t : TypeId} {x y : Operand} {u1 u2 : Value} (ho : o.op = .store t x y) (hx : a.eval x = u1) (hy : a.eval y = u2) (h : (Instr.storeAt t u1 u2).run P w = .ok () w') : (execOp a.eval o).run P w = .ok .skip w' := by
  unfold execOp; rw [ho]; simp only [hx, hy]; simp [h]
theorem exec_call {f : FuncId} {args : Array Operand} {ats : Array TypeId} {vs : Array Value} {fn : Func} (ho : o.op = .call ⟨.value (.func f), args, ats⟩) (hx : args.map a.eval = vs) (hf : P.funcs[f]? = some fn) (hn : (fn.name == "runtime.NumGoroutine") = false) (hb : fn.body.isNone = false) : (execOp a.eval o).run P w = .ok (.enter f vs) w := by
  unfold execOp; rw [ho]; simp only [resolve, hx, Act.eval, Deferred.ofValue, invoke, callFunc]
  have h1 : ¬ fn.name = "runtime.NumGoroutine" := fun h => by rw [h] at hn; exact absurd hn (by decide)
  have h2 : ¬ fn.body = none := fun h => by rw [h] at hb; cases hb
  simp [hf, h1, h2]
end
end Go.Kt
namespace Go.Kt
open Go
section
variable {P : Program} {ops : Array Oper} {o : Oper} {a : Act} {w w' : World}
/-- The region's slots. -/
def dsts (ops : Array Oper) : List Nat := ops.toList.filterMap (·.dst)
theorem foldl_set_size (f : Nat → Value) : ∀ (ks : List Nat) (t : Array Value), (ks.foldl (fun t k => t.setIfInBounds k (f k)) t).size = t.size
  | [], _ => rfl
  | k :: ks, t => by rw [List.foldl_cons, foldl_set_size f ks]; simp
theorem foldl_set_get (f : Nat → Value) : ∀ (ks : List Nat) (t : Array Value) (i : Nat), i < t.size → (ks.foldl (fun t k => t.setIfInBounds k (f k)) t).getD i undef = if i ∈ ks then f i else t.getD i undef
  | [], t, i, _ => by simp
  | k :: ks, t, i, h => by
    rw [List.foldl_cons, foldl_set_get f ks _ i (by simpa using h)]
    by_cases h1 : i ∈ ks
    · simp [h1]
    · by_cases h2 : k = i
      · subst h2
        simp [h1, Array.getD_eq_getD_getElem?, h]
      · simp [h1, Ne.symm h2, Array.getD_eq_getD_getElem?, h2]
/-- The frame at hand, written out: the first one with the region's slots anew. -/
theorem Like.out {a0 : Act} (h : Like ops a0 a) (ks : List Nat) (hk : dsts ops = ks) : ∃ f : Nat → Value, a = ⟨ks.foldl (fun t k => t.setIfInBounds k (f k)) a0.tmps, a0.defers⟩ ∧ ∀ k, f k = a.tmps.getD k undef := by
  refine ⟨fun k => a.tmps.getD k undef, ?_, fun _ => rfl⟩
  obtain ⟨t, d⟩ := a
  obtain ⟨h1, h2, h3⟩ := h
  simp only at h1 h2 h3 ⊢
  subst h1
  congr 1
  refine Array.ext (by rw [foldl_set_size]; exact h2) fun i hi hi' => ?_
  have hlt : i < a0.tmps.size := by rw [← h2]; exact hi
  have e1 : t[i] = t.getD i undef := by simp [Array.getD_eq_getD_getElem?, hi]
  have e2 : ∀ (x : Array Value) (hx : i < x.size), x[i] = x.getD i undef := fun x hx => by simp [Array.getD_eq_getD_getElem?, hx]
  rw [e1, e2 _ hi', foldl_set_get _ _ _ _ hlt]
  by_cases hno : i ∈ ks
  · rw [if_pos hno]
  · rw [if_neg hno]
    refine h3 i ?_
    unfold outside
    rw [Array.all_eq_true_iff_forall_mem]
    intro x hx
    have : x.dst ≠ some i := fun e => hno (by
      rw [← hk]
      exact List.mem_filterMap.2 ⟨x, by simpa using hx, e⟩)
    simpa using this
theorem exec_unop {op : UnOp} {t : TypeId} {x : Operand} {u v : Value} (ho : o.op = .unOp op t x) (hx : a.eval x = u) (h : (Op.unary op u).run P w = .ok v w') : (execOp a.eval o).run P w = .ok (.value v) w' := by
  unfold execOp; rw [ho]; simp only [hx]; exact run_val h
end
end Go.Kt
/- What is the same of any program: more single operations of a drawn region. -/
namespace Go.Kt
open Go
section
variable {P : Program} {o : Oper} {a : Act} {w w' : World}
theorem exec_indexAddr {t : TypeId} {x y : Operand} {u1 u2 v : Value} (ho : o.op = .indexAddr t x y) (hx : a.eval x = u1) (hy : a.eval y = u2) (h : (Instr.indexAt t u1 u2).run P w = .ok v w') : (execOp a.eval o).run P w = .ok (.value v) w' := by
  unfold execOp; rw [ho]; simp only [hx, hy]; exact run_val h
theorem exec_fieldAddr {t : TypeId} {x : Operand} {f : Nat} {u v : Value} (ho : o.op = .fieldAddr t x f) (hx : a.eval x = u) (h : (Instr.fieldAt t u f).run P w = .ok v w') : (execOp a.eval o).run P w = .ok (.value v) w' := by
  unfold execOp; rw [ho]; simp only [hx]; exact run_val h
theorem exec_buildSlice {t : TypeId} {n : Nat} {parts : Array (Nat × Operand)} {ps : Array (Nat × Value)} {v : Value} (ho : o.op = .buildSlice t n parts) (hp : parts.map (fun p => (p.1, a.eval p.2)) = ps) (h : (Instr.buildSlice t n ps).run P w = .ok v w') : (execOp a.eval o).run P w = .ok (.value v) w' := by
  unfold execOp; rw [ho]; simp only []; subst hp; exact run_val h
theorem exec_build {t : TypeId} {parts : Array (Nat × Operand)} {ps : Array (Nat × Value)} {v : Value} (ho : o.op = .build t parts) (hp : parts.map (fun p => (p.1, a.eval p.2)) = ps) (h : (Instr.build t ps).run P w = .ok v w') : (execOp a.eval o).run P w = .ok (.value v) w' := by
  unfold execOp; rw [ho]; simp only []; subst hp; exact run_val h
theorem exec_box {t : TypeId} {x : Operand} {u v : Value} (ho : o.op = .box t x) (hx : a.eval x = u) (h : (Instr.box t u).run P w = .ok v w') : (execOp a.eval o).run P w = .ok (.value v) w' := by
  unfold execOp; rw [ho]; simp only [hx]; exact run_val h
theorem exec_makeSlice {t : TypeId} {x y : Operand} {u1 u2 v : Value} (ho : o.op = .makeSlice t x y) (hx : a.eval x = u1) (hy : a.eval y = u2) (h : (Instr.makeSlice t u1 u2).run P w = .ok v w') : (execOp a.eval o).run P w = .ok (.value v) w' := by
  unfold execOp; rw [ho]; simp only [hx, hy]; exact run_val h
theorem exec_nilCheck {x : Operand} {p : Addr} (ho : o.op = .nilCheck x) (hx : a.eval x = .pointer (some p)) : (execOp a.eval o).run P w = .ok (.value (.pointer (some p))) w := by
  unfold execOp; rw [ho]; simp only [hx]; rfl
end
end Go.Kt
