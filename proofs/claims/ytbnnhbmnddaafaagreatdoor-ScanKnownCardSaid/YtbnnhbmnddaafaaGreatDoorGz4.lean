/- Parts of the proof of what the last text says. -/
import Derived.Test.YtbnnhbmnddaafaaGreatDoorGz3
import Derived.Test.YtbnnhbmnddaafaaGreatDoorGz1
import Derived.Test.YtbnnhbmnddaafaaGreatDoorGz2
import Derived.IntWalk
import Derived.Laws.Rows
import Derived.RegionTactic
import Derived.BigRegion
import Derived.Stop.RegionWithIn
import Derived.Deep.RegionWith
/- The unit at a place: the document's Next, and points.Next. -/
namespace Go.Proofs.YtbnnhbmnddaafaaGreatDoor
open Go Go.RowKit Go.Lib

theorem long_any (c : Int) (w : World) (h0 : 0 ≤ c) (h1 : c < 256) :
    Calls Tryz.prog 100 #[.int .i64 c] w fun e w' => e = .returned (.tuple #[.int .i64 (longI c).1, .int .i64 (longI c).2]) ∧ w = w' := by
  have HR : Hid (longI c = if c < 128 then (1, c) else if 192 ≤ c ∧ c < 224 then (2, c - 192) else if 224 ≤ c ∧ c < 240 then (3, c - 224) else if 240 ≤ c ∧ c < 248 then (4, c - 240) else (0, 0)) := Lib.hid rfl
  generalize longI c = R at HR ⊢
  go_enter Tryz.func100, Tryz.ntmps100
  go_wp2
  all_goals go_ret2
  all_goals
    rw [HR.out]
    first
    | (rw [if_pos (by omega)]; exact ⟨rfl, rfl⟩)
    | (rw [if_neg (by omega), if_pos (by omega)]; exact ⟨rfl, rfl⟩)
    | (rw [if_neg (by omega), if_neg (by omega), if_pos (by omega)]; exact ⟨rfl, rfl⟩)
    | (rw [if_neg (by omega), if_neg (by omega), if_neg (by omega), if_pos (by omega)]; exact ⟨rfl, rfl⟩)
    | (rw [if_neg (by omega), if_neg (by omega), if_neg (by omega), if_neg (by omega)]; exact ⟨rfl, rfl⟩)

theorem least_any (n : Int) (w : World) :
    Calls Tryz.prog 101 #[.int .i64 n] w fun e w' => e = .returned (.int .i64 (leastI n)) ∧ w = w' := by
  have HR : Hid (leastI n = if n = 1 then 0 else if n = 2 then 128 else if n = 3 then 2048 else 65536) := Lib.hid rfl
  generalize leastI n = R at HR ⊢
  by_cases h1 : n = 1
  · subst h1
    go_enter Tryz.func101, Tryz.ntmps101
    go_wp2
    go_ret
    rw [HR.out]; exact ⟨rfl, rfl⟩
  by_cases h2 : n = 2
  · subst h2
    go_enter Tryz.func101, Tryz.ntmps101
    go_wp2
    go_ret
    rw [HR.out]; exact ⟨rfl, rfl⟩
  by_cases h3 : n = 3
  · subst h3
    go_enter Tryz.func101, Tryz.ntmps101
    go_wp2
    go_ret
    rw [HR.out]; exact ⟨rfl, rfl⟩
  · have e1 : (n == 1) = false := by simpa using h1
    have e2 : (n == 2) = false := by simpa using h2
    have e3 : (n == 3) = false := by simpa using h3
    rw [if_neg h1, if_neg h2, if_neg h3] at HR
    clear h1 h2 h3
    go_enter Tryz.func101, Tryz.ntmps101
    go_wp2
    go_ret
    rw [HR.out]; exact ⟨rfl, rfl⟩

theorem char_any (c : Int) (w : World) :
    Calls Tryz.prog 102 #[.int .i64 c] w fun e w' => e = .returned (.bool (charB c)) ∧ w = w' := by
  obtain ⟨R, hR⟩ : ∃ R, charB c = R := ⟨_, rfl⟩
  have HR := Lib.hid hR
  rw [hR]; clear hR
  go_enter Tryz.func102, Tryz.ntmps102
  go_wp2
  all_goals go_ret
  all_goals
    refine ⟨congrArg (fun b => Ending.returned (Value.bool b)) ?_, rfl⟩
    rw [← HR.out, Bool.eq_iff_iff, charB_iff]
    simp
    try omega

set_option maxRecDepth 100000 in
set_option maxHeartbeats 4000000 in
theorem refNext_1 (s : ByteArray) (i : Nat) (w : World) (x0 x1 x2 x3 : Int) (R : Nat × Nat) (hi : i < s.size) (hs : s.size ≤ 4611686018427387904)
    (i0 : ∀ w, (Instr.index 9 (.string s) (.int .i64 (i : Int))).run Tryz.prog w = .ok (.int .u8 x0) w)
    (l0 : 0 ≤ x0) (u0 : x0 < 256) (a : x0 < 128)
    (TF : Hid (∀ a b : Int, nextN ((s.size : Int) - i) x0 x1 x2 x3 = (a, b) → (R.1 : Int) = a ∧ (R.2 : Int) = b)) :
    Calls Tryz.prog 83 #[.string s, .int .i64 i] w fun e w' => e = .returned (.tuple #[.int .i32 R.1, .int .i64 R.2]) ∧ w = w' := by
  have cL : Hid (∀ w, Calls Tryz.prog 100 #[.int .i64 x0] w fun e w' => e = .returned (.tuple #[.int .i64 ((1, x0) : Int × Int).1, .int .i64 ((1, x0) : Int × Int).2]) ∧ w = w') := Lib.hid (fun w => by have := long_any x0 w l0 u0; rw [show longI x0 = (1, x0) by unfold longI; rw [if_pos a]] at this; exact this)
  have cM : Hid (∀ w, Calls Tryz.prog 101 #[.int .i64 1] w fun e w' => e = .returned (.int .i64 0) ∧ w = w') := Lib.hid (fun w => least_any 1 w)
  have HF : Hid ((R.1 : Int) = x0 ∧ (R.2 : Int) = 1) := Lib.hid (TF.out _ _ (by unfold nextN; rw [if_pos a]))
  go_enter Tryz.func83, Tryz.ntmps83
  go_wp2_with (first | (go_at_call 100; refine (cL.out _).mono ?_; rintro e w' ⟨rfl, rfl⟩) | (go_at_call 101; refine (cM.out _).mono ?_; rintro e w' ⟨rfl, rfl⟩))
  go_rounds 1
  all_goals (try go_wp2_with (first | (go_at_call 100; refine (cL.out _).mono ?_; rintro e w' ⟨rfl, rfl⟩) | (go_at_call 101; refine (cM.out _).mono ?_; rintro e w' ⟨rfl, rfl⟩)))
  all_goals go_ret2
  all_goals first | (rw [HF.out.1, HF.out.2]; exact ⟨rfl, rfl⟩) | (exfalso; simp only [Bool.not_eq_false', Bool.not_eq_true', decide_eq_true_eq, decide_eq_false_iff_not] at *; omega)

set_option maxRecDepth 100000 in
set_option maxHeartbeats 4000000 in
theorem refNext_0 (s : ByteArray) (i : Nat) (w : World) (x0 x1 x2 x3 : Int) (R : Nat × Nat) (hi : i < s.size) (_hs : s.size ≤ 4611686018427387904)
    (i0 : ∀ w, (Instr.index 9 (.string s) (.int .i64 (i : Int))).run Tryz.prog w = .ok (.int .u8 x0) w)
    (l0 : 0 ≤ x0) (u0 : x0 < 256) (a : 128 ≤ x0) (b2 : ¬ (192 ≤ x0 ∧ x0 < 224)) (b3 : ¬ (224 ≤ x0 ∧ x0 < 240)) (b4 : ¬ (240 ≤ x0 ∧ x0 < 248))
    (TF : Hid (∀ a b : Int, nextN ((s.size : Int) - i) x0 x1 x2 x3 = (a, b) → (R.1 : Int) = a ∧ (R.2 : Int) = b)) :
    Calls Tryz.prog 83 #[.string s, .int .i64 i] w fun e w' => e = .returned (.tuple #[.int .i32 R.1, .int .i64 R.2]) ∧ w = w' := by
  have cL : Hid (∀ w, Calls Tryz.prog 100 #[.int .i64 x0] w fun e w' => e = .returned (.tuple #[.int .i64 ((0, 0) : Int × Int).1, .int .i64 ((0, 0) : Int × Int).2]) ∧ w = w') := Lib.hid (fun w => by have := long_any x0 w l0 u0; rw [show longI x0 = (0, 0) by unfold longI; rw [if_neg (by omega), if_neg (by omega), if_neg (by omega), if_neg (by omega)]] at this; exact this)
  have cM : Hid (∀ w, Calls Tryz.prog 101 #[.int .i64 0] w fun e w' => e = .returned (.int .i64 65536) ∧ w = w') := Lib.hid (fun w => least_any 0 w)
  have HF : Hid ((R.1 : Int) = 1114112 + x0 ∧ (R.2 : Int) = 1) := Lib.hid (TF.out _ _ (by unfold nextN; rw [if_neg (by omega), if_neg (by omega), if_neg (by omega), if_neg (by omega)]))
  clear b2 b3 b4
  go_enter Tryz.func83, Tryz.ntmps83
  go_wp2_with (first | (go_at_call 100; refine (cL.out _).mono ?_; rintro e w' ⟨rfl, rfl⟩) | (go_at_call 101; refine (cM.out _).mono ?_; rintro e w' ⟨rfl, rfl⟩))
  go_rounds 1
  all_goals (try go_wp2_with (first | (go_at_call 100; refine (cL.out _).mono ?_; rintro e w' ⟨rfl, rfl⟩) | (go_at_call 101; refine (cM.out _).mono ?_; rintro e w' ⟨rfl, rfl⟩)))
  all_goals go_ret2
  all_goals first | (rw [HF.out.1, HF.out.2]; exact ⟨rfl, rfl⟩) | (exfalso; simp only [Bool.not_eq_false', Bool.not_eq_true', decide_eq_true_eq, decide_eq_false_iff_not] at *; omega)

set_option maxRecDepth 100000 in
set_option maxHeartbeats 4000000 in
theorem refNext_2 (s : ByteArray) (i : Nat) (w : World) (x0 x1 x2 x3 : Int) (R : Nat × Nat) (hi : i < s.size) (hs : s.size ≤ 4611686018427387904)
    (i0 : ∀ w, (Instr.index 9 (.string s) (.int .i64 (i : Int))).run Tryz.prog w = .ok (.int .u8 x0) w)
    (i1 : i + 1 < s.size → ∀ w, (Instr.index 9 (.string s) (.int .i64 ((i : Int) + 1))).run Tryz.prog w = .ok (.int .u8 x1) w)
    (l0 : 0 ≤ x0) (u0 : x0 < 256) (hx0 : 192 ≤ x0) (hx1 : x0 < 224) (l1 : 0 ≤ x1) (u1 : x1 < 256)
    (TF : Hid (∀ a b : Int, nextN ((s.size : Int) - i) x0 x1 x2 x3 = (a, b) → (R.1 : Int) = a ∧ (R.2 : Int) = b)) :
    Calls Tryz.prog 83 #[.string s, .int .i64 i] w fun e w' => e = .returned (.tuple #[.int .i32 R.1, .int .i64 R.2]) ∧ w = w' := by
  have cL : Hid (∀ w, Calls Tryz.prog 100 #[.int .i64 x0] w fun e w' => e = .returned (.tuple #[.int .i64 ((2, x0 - 192) : Int × Int).1, .int .i64 ((2, x0 - 192) : Int × Int).2]) ∧ w = w') := Lib.hid (fun w => by have := long_any x0 w l0 u0; rw [show longI x0 = (2, x0 - 192) by unfold longI; rw [if_neg (by omega), if_pos (by omega)]] at this; exact this)
  have cM : Hid (∀ w, Calls Tryz.prog 101 #[.int .i64 2] w fun e w' => e = .returned (.int .i64 128) ∧ w = w') := Lib.hid (fun w => least_any 2 w)
  by_cases hs2 : i + 2 ≤ s.size
  · have hs3 : (i : Int) + 2 ≤ s.size := by omega
    replace i1 := i1 (by omega)
    by_cases g1a : x1 < 128
    · have HF : Hid ((R.1 : Int) = 1114112 + x0 ∧ (R.2 : Int) = 1) := Lib.hid (TF.out _ _ (by unfold nextN; rw [if_neg (by omega), if_pos (by omega), if_neg (by omega)]))
      go_enter Tryz.func83, Tryz.ntmps83
      go_wp2_with (first | (go_at_call 100; refine (cL.out _).mono ?_; rintro e w' ⟨rfl, rfl⟩) | (go_at_call 101; refine (cM.out _).mono ?_; rintro e w' ⟨rfl, rfl⟩))
      go_rounds 2
      all_goals (try go_wp2_with (first | (go_at_call 100; refine (cL.out _).mono ?_; rintro e w' ⟨rfl, rfl⟩) | (go_at_call 101; refine (cM.out _).mono ?_; rintro e w' ⟨rfl, rfl⟩)))
      all_goals go_ret2
      all_goals first | (rw [HF.out.1, HF.out.2]; exact ⟨rfl, rfl⟩) | (exfalso; simp only [Bool.not_eq_false', decide_eq_true_eq] at *; omega)
    replace g1a : 128 ≤ x1 := by omega
    by_cases g1b : 192 ≤ x1
    · have HF : Hid ((R.1 : Int) = 1114112 + x0 ∧ (R.2 : Int) = 1) := Lib.hid (TF.out _ _ (by unfold nextN; rw [if_neg (by omega), if_pos (by omega), if_neg (by omega)]))
      go_enter Tryz.func83, Tryz.ntmps83
      go_wp2_with (first | (go_at_call 100; refine (cL.out _).mono ?_; rintro e w' ⟨rfl, rfl⟩) | (go_at_call 101; refine (cM.out _).mono ?_; rintro e w' ⟨rfl, rfl⟩))
      go_rounds 2
      all_goals (try go_wp2_with (first | (go_at_call 100; refine (cL.out _).mono ?_; rintro e w' ⟨rfl, rfl⟩) | (go_at_call 101; refine (cM.out _).mono ?_; rintro e w' ⟨rfl, rfl⟩)))
      all_goals go_ret2
      all_goals first | (rw [HF.out.1, HF.out.2]; exact ⟨rfl, rfl⟩) | (exfalso; simp only [Bool.not_eq_false', decide_eq_true_eq] at *; omega)
    replace g1b : x1 < 192 := by omega
    by_cases gl : (x0 - 192) * 64 + x1 - 128 < 128
    · have HF : Hid ((R.1 : Int) = 1114112 + x0 ∧ (R.2 : Int) = 1) := Lib.hid (TF.out _ _ (by unfold nextN; rw [if_neg (by omega), if_pos (by omega), if_neg (by omega)]))
      go_enter Tryz.func83, Tryz.ntmps83
      go_wp2_with (first | (go_at_call 100; refine (cL.out _).mono ?_; rintro e w' ⟨rfl, rfl⟩) | (go_at_call 101; refine (cM.out _).mono ?_; rintro e w' ⟨rfl, rfl⟩))
      go_rounds 2
      all_goals (try go_wp2_with (first | (go_at_call 100; refine (cL.out _).mono ?_; rintro e w' ⟨rfl, rfl⟩) | (go_at_call 101; refine (cM.out _).mono ?_; rintro e w' ⟨rfl, rfl⟩)))
      all_goals go_ret2
      all_goals first | (rw [HF.out.1, HF.out.2]; exact ⟨rfl, rfl⟩) | (exfalso; simp only [Bool.not_eq_false', Bool.not_eq_true', decide_eq_true_eq, decide_eq_false_iff_not] at *; omega)
    replace gl : 128 ≤ (x0 - 192) * 64 + x1 - 128 := by omega
    have gm : (x0 - 192) * 64 + x1 - 128 < 55296 := by omega
    have HF : Hid ((R.1 : Int) = (x0 - 192) * 64 + x1 - 128 ∧ (R.2 : Int) = 2) := Lib.hid (TF.out _ _ (by unfold nextN; rw [if_neg (by omega), if_pos (by omega), if_pos ⟨by omega, ⟨g1a, g1b⟩, by omega⟩]))
    go_enter Tryz.func83, Tryz.ntmps83
    go_wp2_with (first | (go_at_call 100; refine (cL.out _).mono ?_; rintro e w' ⟨rfl, rfl⟩) | (go_at_call 101; refine (cM.out _).mono ?_; rintro e w' ⟨rfl, rfl⟩))
    go_rounds 2
    all_goals (try go_wp2_with (first | (go_at_call 100; refine (cL.out _).mono ?_; rintro e w' ⟨rfl, rfl⟩) | (go_at_call 101; refine (cM.out _).mono ?_; rintro e w' ⟨rfl, rfl⟩)))
    all_goals go_ret2
    all_goals first | (rw [HF.out.1, HF.out.2]; exact ⟨rfl, rfl⟩) | (exfalso; simp only [Bool.not_eq_false', decide_eq_true_eq] at *; omega)
  · have HF : Hid ((R.1 : Int) = 1114112 + x0 ∧ (R.2 : Int) = 1) := Lib.hid (TF.out _ _ (by unfold nextN; rw [if_neg (by omega), if_pos (by omega), if_neg (by omega)]))
    have hs3 : (s.size : Int) < i + 2 := by omega
    clear i1 hs2
    go_enter Tryz.func83, Tryz.ntmps83
    go_wp2_with (first | (go_at_call 100; refine (cL.out _).mono ?_; rintro e w' ⟨rfl, rfl⟩) | (go_at_call 101; refine (cM.out _).mono ?_; rintro e w' ⟨rfl, rfl⟩))
    go_rounds 1
    all_goals (try go_wp2_with (first | (go_at_call 100; refine (cL.out _).mono ?_; rintro e w' ⟨rfl, rfl⟩) | (go_at_call 101; refine (cM.out _).mono ?_; rintro e w' ⟨rfl, rfl⟩)))
    all_goals go_ret2
    all_goals first | (rw [HF.out.1, HF.out.2]; exact ⟨rfl, rfl⟩) | (exfalso; simp only [Bool.not_eq_false', decide_eq_true_eq] at *; omega)

set_option maxRecDepth 100000 in
set_option maxHeartbeats 4000000 in
theorem refNext_3 (s : ByteArray) (i : Nat) (w : World) (x0 x1 x2 x3 : Int) (R : Nat × Nat) (hi : i < s.size) (hs : s.size ≤ 4611686018427387904)
    (i0 : ∀ w, (Instr.index 9 (.string s) (.int .i64 (i : Int))).run Tryz.prog w = .ok (.int .u8 x0) w)
    (i1 : i + 1 < s.size → ∀ w, (Instr.index 9 (.string s) (.int .i64 ((i : Int) + 1))).run Tryz.prog w = .ok (.int .u8 x1) w)
    (i2 : i + 2 < s.size → ∀ w, (Instr.index 9 (.string s) (.int .i64 ((i : Int) + 2))).run Tryz.prog w = .ok (.int .u8 x2) w)
    (l0 : 0 ≤ x0) (u0 : x0 < 256) (hx0 : 224 ≤ x0) (hx1 : x0 < 240) (l1 : 0 ≤ x1) (u1 : x1 < 256) (l2 : 0 ≤ x2) (u2 : x2 < 256)
    (TF : Hid (∀ a b : Int, nextN ((s.size : Int) - i) x0 x1 x2 x3 = (a, b) → (R.1 : Int) = a ∧ (R.2 : Int) = b)) :
    Calls Tryz.prog 83 #[.string s, .int .i64 i] w fun e w' => e = .returned (.tuple #[.int .i32 R.1, .int .i64 R.2]) ∧ w = w' := by
  have cL : Hid (∀ w, Calls Tryz.prog 100 #[.int .i64 x0] w fun e w' => e = .returned (.tuple #[.int .i64 ((3, x0 - 224) : Int × Int).1, .int .i64 ((3, x0 - 224) : Int × Int).2]) ∧ w = w') := Lib.hid (fun w => by have := long_any x0 w l0 u0; rw [show longI x0 = (3, x0 - 224) by unfold longI; rw [if_neg (by omega), if_neg (by omega), if_pos (by omega)]] at this; exact this)
  have cM : Hid (∀ w, Calls Tryz.prog 101 #[.int .i64 3] w fun e w' => e = .returned (.int .i64 2048) ∧ w = w') := Lib.hid (fun w => least_any 3 w)
  by_cases hs2 : i + 3 ≤ s.size
  · have hs3 : (i : Int) + 3 ≤ s.size := by omega
    replace i1 := i1 (by omega)
    by_cases g1a : x1 < 128
    · have HF : Hid ((R.1 : Int) = 1114112 + x0 ∧ (R.2 : Int) = 1) := Lib.hid (TF.out _ _ (by unfold nextN; rw [if_neg (by omega), if_neg (by omega), if_pos (by omega), if_neg (by omega)]))
      clear i2
      go_enter Tryz.func83, Tryz.ntmps83
      go_wp2_with (first | (go_at_call 100; refine (cL.out _).mono ?_; rintro e w' ⟨rfl, rfl⟩) | (go_at_call 101; refine (cM.out _).mono ?_; rintro e w' ⟨rfl, rfl⟩))
      go_rounds 2
      all_goals (try go_wp2_with (first | (go_at_call 100; refine (cL.out _).mono ?_; rintro e w' ⟨rfl, rfl⟩) | (go_at_call 101; refine (cM.out _).mono ?_; rintro e w' ⟨rfl, rfl⟩)))
      all_goals go_ret2
      all_goals first | (rw [HF.out.1, HF.out.2]; exact ⟨rfl, rfl⟩) | (exfalso; simp only [Bool.not_eq_false', Bool.not_eq_true', decide_eq_true_eq, decide_eq_false_iff_not] at *; omega)
    replace g1a : 128 ≤ x1 := by omega
    by_cases g1b : 192 ≤ x1
    · have HF : Hid ((R.1 : Int) = 1114112 + x0 ∧ (R.2 : Int) = 1) := Lib.hid (TF.out _ _ (by unfold nextN; rw [if_neg (by omega), if_neg (by omega), if_pos (by omega), if_neg (by omega)]))
      clear i2
      go_enter Tryz.func83, Tryz.ntmps83
      go_wp2_with (first | (go_at_call 100; refine (cL.out _).mono ?_; rintro e w' ⟨rfl, rfl⟩) | (go_at_call 101; refine (cM.out _).mono ?_; rintro e w' ⟨rfl, rfl⟩))
      go_rounds 2
      all_goals (try go_wp2_with (first | (go_at_call 100; refine (cL.out _).mono ?_; rintro e w' ⟨rfl, rfl⟩) | (go_at_call 101; refine (cM.out _).mono ?_; rintro e w' ⟨rfl, rfl⟩)))
      all_goals go_ret2
      all_goals first | (rw [HF.out.1, HF.out.2]; exact ⟨rfl, rfl⟩) | (exfalso; simp only [Bool.not_eq_false', Bool.not_eq_true', decide_eq_true_eq, decide_eq_false_iff_not] at *; omega)
    replace g1b : x1 < 192 := by omega
    replace i2 := i2 (by omega)
    by_cases g2a : x2 < 128
    · have HF : Hid ((R.1 : Int) = 1114112 + x0 ∧ (R.2 : Int) = 1) := Lib.hid (TF.out _ _ (by unfold nextN; rw [if_neg (by omega), if_neg (by omega), if_pos (by omega), if_neg (by omega)]))
      go_enter Tryz.func83, Tryz.ntmps83
      go_wp2_with (first | (go_at_call 100; refine (cL.out _).mono ?_; rintro e w' ⟨rfl, rfl⟩) | (go_at_call 101; refine (cM.out _).mono ?_; rintro e w' ⟨rfl, rfl⟩))
      go_rounds 3
      all_goals (try go_wp2_with (first | (go_at_call 100; refine (cL.out _).mono ?_; rintro e w' ⟨rfl, rfl⟩) | (go_at_call 101; refine (cM.out _).mono ?_; rintro e w' ⟨rfl, rfl⟩)))
      all_goals go_ret2
      all_goals first | (rw [HF.out.1, HF.out.2]; exact ⟨rfl, rfl⟩) | (exfalso; simp only [Bool.not_eq_false', Bool.not_eq_true', decide_eq_true_eq, decide_eq_false_iff_not] at *; omega)
    replace g2a : 128 ≤ x2 := by omega
    by_cases g2b : 192 ≤ x2
    · have HF : Hid ((R.1 : Int) = 1114112 + x0 ∧ (R.2 : Int) = 1) := Lib.hid (TF.out _ _ (by unfold nextN; rw [if_neg (by omega), if_neg (by omega), if_pos (by omega), if_neg (by omega)]))
      go_enter Tryz.func83, Tryz.ntmps83
      go_wp2_with (first | (go_at_call 100; refine (cL.out _).mono ?_; rintro e w' ⟨rfl, rfl⟩) | (go_at_call 101; refine (cM.out _).mono ?_; rintro e w' ⟨rfl, rfl⟩))
      go_rounds 3
      all_goals (try go_wp2_with (first | (go_at_call 100; refine (cL.out _).mono ?_; rintro e w' ⟨rfl, rfl⟩) | (go_at_call 101; refine (cM.out _).mono ?_; rintro e w' ⟨rfl, rfl⟩)))
      all_goals go_ret2
      all_goals first | (rw [HF.out.1, HF.out.2]; exact ⟨rfl, rfl⟩) | (exfalso; simp only [Bool.not_eq_false', Bool.not_eq_true', decide_eq_true_eq, decide_eq_false_iff_not] at *; omega)
    replace g2b : x2 < 192 := by omega
    by_cases gl : ((x0 - 224) * 64 + x1 - 128) * 64 + x2 - 128 < 2048
    · have HF : Hid ((R.1 : Int) = 1114112 + x0 ∧ (R.2 : Int) = 1) := Lib.hid (TF.out _ _ (by unfold nextN; rw [if_neg (by omega), if_neg (by omega), if_pos (by omega), if_neg (by omega)]))
      go_enter Tryz.func83, Tryz.ntmps83
      go_wp2_with (first | (go_at_call 100; refine (cL.out _).mono ?_; rintro e w' ⟨rfl, rfl⟩) | (go_at_call 101; refine (cM.out _).mono ?_; rintro e w' ⟨rfl, rfl⟩))
      go_rounds 3
      all_goals (try go_wp2_with (first | (go_at_call 100; refine (cL.out _).mono ?_; rintro e w' ⟨rfl, rfl⟩) | (go_at_call 101; refine (cM.out _).mono ?_; rintro e w' ⟨rfl, rfl⟩)))
      all_goals go_ret2
      all_goals first | (rw [HF.out.1, HF.out.2]; exact ⟨rfl, rfl⟩) | (exfalso; simp only [Bool.not_eq_false', Bool.not_eq_true', decide_eq_true_eq, decide_eq_false_iff_not] at *; omega)
    replace gl : 2048 ≤ ((x0 - 224) * 64 + x1 - 128) * 64 + x2 - 128 := by omega
    have gt : ((x0 - 224) * 64 + x1 - 128) * 64 + x2 - 128 ≤ 1114111 := by omega
    by_cases gm : ((x0 - 224) * 64 + x1 - 128) * 64 + x2 - 128 < 55296
    · have HF : Hid ((R.1 : Int) = ((x0 - 224) * 64 + x1 - 128) * 64 + x2 - 128 ∧ (R.2 : Int) = 3) := Lib.hid (TF.out _ _ (by unfold nextN; rw [if_neg (by omega), if_neg (by omega), if_pos (by omega), if_pos ⟨by omega, ⟨g1a, g1b⟩, ⟨g2a, g2b⟩, by omega, (charB_iff _).2 (by omega)⟩]))
      go_enter Tryz.func83, Tryz.ntmps83
      go_wp2_with (first | (go_at_call 100; refine (cL.out _).mono ?_; rintro e w' ⟨rfl, rfl⟩) | (go_at_call 101; refine (cM.out _).mono ?_; rintro e w' ⟨rfl, rfl⟩))
      go_rounds 3
      all_goals (try go_wp2_with (first | (go_at_call 100; refine (cL.out _).mono ?_; rintro e w' ⟨rfl, rfl⟩) | (go_at_call 101; refine (cM.out _).mono ?_; rintro e w' ⟨rfl, rfl⟩)))
      all_goals go_ret2
      all_goals first | (rw [HF.out.1, HF.out.2]; exact ⟨rfl, rfl⟩) | (exfalso; simp only [Bool.not_eq_false', Bool.not_eq_true', decide_eq_true_eq, decide_eq_false_iff_not] at *; omega)
    replace gm : 55296 ≤ ((x0 - 224) * 64 + x1 - 128) * 64 + x2 - 128 := by omega
    by_cases gh : ((x0 - 224) * 64 + x1 - 128) * 64 + x2 - 128 ≤ 57343
    · have HF : Hid ((R.1 : Int) = 1114112 + x0 ∧ (R.2 : Int) = 1) := Lib.hid (TF.out _ _ (by unfold nextN; rw [if_neg (by omega), if_neg (by omega), if_pos (by omega), if_neg (by rw [charB_iff]; omega)]))
      go_enter Tryz.func83, Tryz.ntmps83
      go_wp2_with (first | (go_at_call 100; refine (cL.out _).mono ?_; rintro e w' ⟨rfl, rfl⟩) | (go_at_call 101; refine (cM.out _).mono ?_; rintro e w' ⟨rfl, rfl⟩))
      go_rounds 3
      all_goals (try go_wp2_with (first | (go_at_call 100; refine (cL.out _).mono ?_; rintro e w' ⟨rfl, rfl⟩) | (go_at_call 101; refine (cM.out _).mono ?_; rintro e w' ⟨rfl, rfl⟩)))
      all_goals go_ret2
      all_goals first | (rw [HF.out.1, HF.out.2]; exact ⟨rfl, rfl⟩) | (exfalso; simp only [Bool.not_eq_false', decide_eq_true_eq] at *; omega)
    replace gh : 57343 < ((x0 - 224) * 64 + x1 - 128) * 64 + x2 - 128 := by omega
    have HF : Hid ((R.1 : Int) = ((x0 - 224) * 64 + x1 - 128) * 64 + x2 - 128 ∧ (R.2 : Int) = 3) := Lib.hid (TF.out _ _ (by unfold nextN; rw [if_neg (by omega), if_neg (by omega), if_pos (by omega), if_pos ⟨by omega, ⟨g1a, g1b⟩, ⟨g2a, g2b⟩, by omega, (charB_iff _).2 (by omega)⟩]))
    go_enter Tryz.func83, Tryz.ntmps83
    go_wp2_with (first | (go_at_call 100; refine (cL.out _).mono ?_; rintro e w' ⟨rfl, rfl⟩) | (go_at_call 101; refine (cM.out _).mono ?_; rintro e w' ⟨rfl, rfl⟩))
    go_rounds 3
    all_goals (try go_wp2_with (first | (go_at_call 100; refine (cL.out _).mono ?_; rintro e w' ⟨rfl, rfl⟩) | (go_at_call 101; refine (cM.out _).mono ?_; rintro e w' ⟨rfl, rfl⟩)))
    all_goals go_ret2
    all_goals first | (rw [HF.out.1, HF.out.2]; exact ⟨rfl, rfl⟩) | (exfalso; simp only [Bool.not_eq_false', Bool.not_eq_true', decide_eq_true_eq, decide_eq_false_iff_not] at *; omega)
  · have HF : Hid ((R.1 : Int) = 1114112 + x0 ∧ (R.2 : Int) = 1) := Lib.hid (TF.out _ _ (by unfold nextN; rw [if_neg (by omega), if_neg (by omega), if_pos (by omega), if_neg (by omega)]))
    have hs3 : (s.size : Int) < i + 3 := by omega
    clear i1 i2 hs2
    go_enter Tryz.func83, Tryz.ntmps83
    go_wp2_with (first | (go_at_call 100; refine (cL.out _).mono ?_; rintro e w' ⟨rfl, rfl⟩) | (go_at_call 101; refine (cM.out _).mono ?_; rintro e w' ⟨rfl, rfl⟩))
    go_rounds 1
    all_goals (try go_wp2_with (first | (go_at_call 100; refine (cL.out _).mono ?_; rintro e w' ⟨rfl, rfl⟩) | (go_at_call 101; refine (cM.out _).mono ?_; rintro e w' ⟨rfl, rfl⟩)))
    all_goals go_ret2
    all_goals first | (rw [HF.out.1, HF.out.2]; exact ⟨rfl, rfl⟩) | (exfalso; simp only [Bool.not_eq_false', Bool.not_eq_true', decide_eq_true_eq, decide_eq_false_iff_not] at *; omega)

set_option maxRecDepth 100000 in
set_option maxHeartbeats 4000000 in
theorem refNext_4 (s : ByteArray) (i : Nat) (w : World) (x0 x1 x2 x3 : Int) (R : Nat × Nat) (hi : i < s.size) (hs : s.size ≤ 4611686018427387904)
    (i0 : ∀ w, (Instr.index 9 (.string s) (.int .i64 (i : Int))).run Tryz.prog w = .ok (.int .u8 x0) w)
    (i1 : i + 1 < s.size → ∀ w, (Instr.index 9 (.string s) (.int .i64 ((i : Int) + 1))).run Tryz.prog w = .ok (.int .u8 x1) w)
    (i2 : i + 2 < s.size → ∀ w, (Instr.index 9 (.string s) (.int .i64 ((i : Int) + 2))).run Tryz.prog w = .ok (.int .u8 x2) w)
    (i3 : i + 3 < s.size → ∀ w, (Instr.index 9 (.string s) (.int .i64 ((i : Int) + 3))).run Tryz.prog w = .ok (.int .u8 x3) w)
    (l0 : 0 ≤ x0) (u0 : x0 < 256) (hx0 : 240 ≤ x0) (hx1 : x0 < 248) (l1 : 0 ≤ x1) (u1 : x1 < 256) (l2 : 0 ≤ x2) (u2 : x2 < 256) (l3 : 0 ≤ x3) (u3 : x3 < 256)
    (TF : Hid (∀ a b : Int, nextN ((s.size : Int) - i) x0 x1 x2 x3 = (a, b) → (R.1 : Int) = a ∧ (R.2 : Int) = b)) :
    Calls Tryz.prog 83 #[.string s, .int .i64 i] w fun e w' => e = .returned (.tuple #[.int .i32 R.1, .int .i64 R.2]) ∧ w = w' := by
  have cL : Hid (∀ w, Calls Tryz.prog 100 #[.int .i64 x0] w fun e w' => e = .returned (.tuple #[.int .i64 ((4, x0 - 240) : Int × Int).1, .int .i64 ((4, x0 - 240) : Int × Int).2]) ∧ w = w') := Lib.hid (fun w => by have := long_any x0 w l0 u0; rw [show longI x0 = (4, x0 - 240) by unfold longI; rw [if_neg (by omega), if_neg (by omega), if_neg (by omega), if_pos (by omega)]] at this; exact this)
  have cM : Hid (∀ w, Calls Tryz.prog 101 #[.int .i64 4] w fun e w' => e = .returned (.int .i64 65536) ∧ w = w') := Lib.hid (fun w => least_any 4 w)
  by_cases hs2 : i + 4 ≤ s.size
  · have hs3 : (i : Int) + 4 ≤ s.size := by omega
    replace i1 := i1 (by omega)
    by_cases g1a : x1 < 128
    · have HF : Hid ((R.1 : Int) = 1114112 + x0 ∧ (R.2 : Int) = 1) := Lib.hid (TF.out _ _ (by unfold nextN; rw [if_neg (by omega), if_neg (by omega), if_neg (by omega), if_pos (by omega), if_neg (by omega)]))
      clear i2 i3
      go_enter Tryz.func83, Tryz.ntmps83
      go_wp2_with (first | (go_at_call 100; refine (cL.out _).mono ?_; rintro e w' ⟨rfl, rfl⟩) | (go_at_call 101; refine (cM.out _).mono ?_; rintro e w' ⟨rfl, rfl⟩))
      go_rounds 2
      all_goals (try go_wp2_with (first | (go_at_call 100; refine (cL.out _).mono ?_; rintro e w' ⟨rfl, rfl⟩) | (go_at_call 101; refine (cM.out _).mono ?_; rintro e w' ⟨rfl, rfl⟩)))
      all_goals go_ret2
      all_goals first | (rw [HF.out.1, HF.out.2]; exact ⟨rfl, rfl⟩) | (exfalso; simp only [Bool.not_eq_false', Bool.not_eq_true', decide_eq_true_eq, decide_eq_false_iff_not] at *; omega)
    replace g1a : 128 ≤ x1 := by omega
    by_cases g1b : 192 ≤ x1
    · have HF : Hid ((R.1 : Int) = 1114112 + x0 ∧ (R.2 : Int) = 1) := Lib.hid (TF.out _ _ (by unfold nextN; rw [if_neg (by omega), if_neg (by omega), if_neg (by omega), if_pos (by omega), if_neg (by omega)]))
      clear i2 i3
      go_enter Tryz.func83, Tryz.ntmps83
      go_wp2_with (first | (go_at_call 100; refine (cL.out _).mono ?_; rintro e w' ⟨rfl, rfl⟩) | (go_at_call 101; refine (cM.out _).mono ?_; rintro e w' ⟨rfl, rfl⟩))
      go_rounds 2
      all_goals (try go_wp2_with (first | (go_at_call 100; refine (cL.out _).mono ?_; rintro e w' ⟨rfl, rfl⟩) | (go_at_call 101; refine (cM.out _).mono ?_; rintro e w' ⟨rfl, rfl⟩)))
      all_goals go_ret2
      all_goals first | (rw [HF.out.1, HF.out.2]; exact ⟨rfl, rfl⟩) | (exfalso; simp only [Bool.not_eq_false', Bool.not_eq_true', decide_eq_true_eq, decide_eq_false_iff_not] at *; omega)
    replace g1b : x1 < 192 := by omega
    replace i2 := i2 (by omega)
    by_cases g2a : x2 < 128
    · have HF : Hid ((R.1 : Int) = 1114112 + x0 ∧ (R.2 : Int) = 1) := Lib.hid (TF.out _ _ (by unfold nextN; rw [if_neg (by omega), if_neg (by omega), if_neg (by omega), if_pos (by omega), if_neg (by omega)]))
      clear i3
      go_enter Tryz.func83, Tryz.ntmps83
      go_wp2_with (first | (go_at_call 100; refine (cL.out _).mono ?_; rintro e w' ⟨rfl, rfl⟩) | (go_at_call 101; refine (cM.out _).mono ?_; rintro e w' ⟨rfl, rfl⟩))
      go_rounds 3
      all_goals (try go_wp2_with (first | (go_at_call 100; refine (cL.out _).mono ?_; rintro e w' ⟨rfl, rfl⟩) | (go_at_call 101; refine (cM.out _).mono ?_; rintro e w' ⟨rfl, rfl⟩)))
      all_goals go_ret2
      all_goals first | (rw [HF.out.1, HF.out.2]; exact ⟨rfl, rfl⟩) | (exfalso; simp only [Bool.not_eq_false', Bool.not_eq_true', decide_eq_true_eq, decide_eq_false_iff_not] at *; omega)
    replace g2a : 128 ≤ x2 := by omega
    by_cases g2b : 192 ≤ x2
    · have HF : Hid ((R.1 : Int) = 1114112 + x0 ∧ (R.2 : Int) = 1) := Lib.hid (TF.out _ _ (by unfold nextN; rw [if_neg (by omega), if_neg (by omega), if_neg (by omega), if_pos (by omega), if_neg (by omega)]))
      clear i3
      go_enter Tryz.func83, Tryz.ntmps83
      go_wp2_with (first | (go_at_call 100; refine (cL.out _).mono ?_; rintro e w' ⟨rfl, rfl⟩) | (go_at_call 101; refine (cM.out _).mono ?_; rintro e w' ⟨rfl, rfl⟩))
      go_rounds 3
      all_goals (try go_wp2_with (first | (go_at_call 100; refine (cL.out _).mono ?_; rintro e w' ⟨rfl, rfl⟩) | (go_at_call 101; refine (cM.out _).mono ?_; rintro e w' ⟨rfl, rfl⟩)))
      all_goals go_ret2
      all_goals first | (rw [HF.out.1, HF.out.2]; exact ⟨rfl, rfl⟩) | (exfalso; simp only [Bool.not_eq_false', Bool.not_eq_true', decide_eq_true_eq, decide_eq_false_iff_not] at *; omega)
    replace g2b : x2 < 192 := by omega
    replace i3 := i3 (by omega)
    by_cases g3a : x3 < 128
    · have HF : Hid ((R.1 : Int) = 1114112 + x0 ∧ (R.2 : Int) = 1) := Lib.hid (TF.out _ _ (by unfold nextN; rw [if_neg (by omega), if_neg (by omega), if_neg (by omega), if_pos (by omega), if_neg (by omega)]))
      go_enter Tryz.func83, Tryz.ntmps83
      go_wp2_with (first | (go_at_call 100; refine (cL.out _).mono ?_; rintro e w' ⟨rfl, rfl⟩) | (go_at_call 101; refine (cM.out _).mono ?_; rintro e w' ⟨rfl, rfl⟩))
      go_rounds 4
      all_goals (try go_wp2_with (first | (go_at_call 100; refine (cL.out _).mono ?_; rintro e w' ⟨rfl, rfl⟩) | (go_at_call 101; refine (cM.out _).mono ?_; rintro e w' ⟨rfl, rfl⟩)))
      all_goals go_ret2
      all_goals first | (rw [HF.out.1, HF.out.2]; exact ⟨rfl, rfl⟩) | (exfalso; simp only [Bool.not_eq_false', Bool.not_eq_true', decide_eq_true_eq, decide_eq_false_iff_not] at *; omega)
    replace g3a : 128 ≤ x3 := by omega
    by_cases g3b : 192 ≤ x3
    · have HF : Hid ((R.1 : Int) = 1114112 + x0 ∧ (R.2 : Int) = 1) := Lib.hid (TF.out _ _ (by unfold nextN; rw [if_neg (by omega), if_neg (by omega), if_neg (by omega), if_pos (by omega), if_neg (by omega)]))
      go_enter Tryz.func83, Tryz.ntmps83
      go_wp2_with (first | (go_at_call 100; refine (cL.out _).mono ?_; rintro e w' ⟨rfl, rfl⟩) | (go_at_call 101; refine (cM.out _).mono ?_; rintro e w' ⟨rfl, rfl⟩))
      go_rounds 4
      all_goals (try go_wp2_with (first | (go_at_call 100; refine (cL.out _).mono ?_; rintro e w' ⟨rfl, rfl⟩) | (go_at_call 101; refine (cM.out _).mono ?_; rintro e w' ⟨rfl, rfl⟩)))
      all_goals go_ret2
      all_goals first | (rw [HF.out.1, HF.out.2]; exact ⟨rfl, rfl⟩) | (exfalso; simp only [Bool.not_eq_false', Bool.not_eq_true', decide_eq_true_eq, decide_eq_false_iff_not] at *; omega)
    replace g3b : x3 < 192 := by omega
    by_cases gl : (((x0 - 240) * 64 + x1 - 128) * 64 + x2 - 128) * 64 + x3 - 128 < 65536
    · have HF : Hid ((R.1 : Int) = 1114112 + x0 ∧ (R.2 : Int) = 1) := Lib.hid (TF.out _ _ (by unfold nextN; rw [if_neg (by omega), if_neg (by omega), if_neg (by omega), if_pos (by omega), if_neg (by omega)]))
      go_enter Tryz.func83, Tryz.ntmps83
      go_wp2_with (first | (go_at_call 100; refine (cL.out _).mono ?_; rintro e w' ⟨rfl, rfl⟩) | (go_at_call 101; refine (cM.out _).mono ?_; rintro e w' ⟨rfl, rfl⟩))
      go_rounds 4
      all_goals (try go_wp2_with (first | (go_at_call 100; refine (cL.out _).mono ?_; rintro e w' ⟨rfl, rfl⟩) | (go_at_call 101; refine (cM.out _).mono ?_; rintro e w' ⟨rfl, rfl⟩)))
      all_goals go_ret2
      all_goals first | (rw [HF.out.1, HF.out.2]; exact ⟨rfl, rfl⟩) | (exfalso; simp only [Bool.not_eq_false', Bool.not_eq_true', decide_eq_true_eq, decide_eq_false_iff_not] at *; omega)
    replace gl : 65536 ≤ (((x0 - 240) * 64 + x1 - 128) * 64 + x2 - 128) * 64 + x3 - 128 := by omega
    have gm : 55296 ≤ (((x0 - 240) * 64 + x1 - 128) * 64 + x2 - 128) * 64 + x3 - 128 := by omega
    have gh : 57343 < (((x0 - 240) * 64 + x1 - 128) * 64 + x2 - 128) * 64 + x3 - 128 := by omega
    by_cases gt : (((x0 - 240) * 64 + x1 - 128) * 64 + x2 - 128) * 64 + x3 - 128 ≤ 1114111
    · have HF : Hid ((R.1 : Int) = (((x0 - 240) * 64 + x1 - 128) * 64 + x2 - 128) * 64 + x3 - 128 ∧ (R.2 : Int) = 4) := Lib.hid (TF.out _ _ (by unfold nextN; rw [if_neg (by omega), if_neg (by omega), if_neg (by omega), if_pos (by omega), if_pos ⟨by omega, ⟨g1a, g1b⟩, ⟨g2a, g2b⟩, ⟨g3a, g3b⟩, by omega, (charB_iff _).2 (by omega)⟩]))
      go_enter Tryz.func83, Tryz.ntmps83
      go_wp2_with (first | (go_at_call 100; refine (cL.out _).mono ?_; rintro e w' ⟨rfl, rfl⟩) | (go_at_call 101; refine (cM.out _).mono ?_; rintro e w' ⟨rfl, rfl⟩))
      go_rounds 4
      all_goals (try go_wp2_with (first | (go_at_call 100; refine (cL.out _).mono ?_; rintro e w' ⟨rfl, rfl⟩) | (go_at_call 101; refine (cM.out _).mono ?_; rintro e w' ⟨rfl, rfl⟩)))
      all_goals go_ret2
      all_goals first | (rw [HF.out.1, HF.out.2]; exact ⟨rfl, rfl⟩) | (exfalso; simp only [Bool.not_eq_false', Bool.not_eq_true', decide_eq_true_eq, decide_eq_false_iff_not] at *; omega)
    replace gt : 1114111 < (((x0 - 240) * 64 + x1 - 128) * 64 + x2 - 128) * 64 + x3 - 128 := by omega
    have HF : Hid ((R.1 : Int) = 1114112 + x0 ∧ (R.2 : Int) = 1) := Lib.hid (TF.out _ _ (by unfold nextN; rw [if_neg (by omega), if_neg (by omega), if_neg (by omega), if_pos (by omega), if_neg (by rw [charB_iff]; omega)]))
    go_enter Tryz.func83, Tryz.ntmps83
    go_wp2_with (first | (go_at_call 100; refine (cL.out _).mono ?_; rintro e w' ⟨rfl, rfl⟩) | (go_at_call 101; refine (cM.out _).mono ?_; rintro e w' ⟨rfl, rfl⟩))
    go_rounds 4
    all_goals (try go_wp2_with (first | (go_at_call 100; refine (cL.out _).mono ?_; rintro e w' ⟨rfl, rfl⟩) | (go_at_call 101; refine (cM.out _).mono ?_; rintro e w' ⟨rfl, rfl⟩)))
    all_goals go_ret2
    all_goals first | (rw [HF.out.1, HF.out.2]; exact ⟨rfl, rfl⟩) | (exfalso; simp only [Bool.not_eq_false', decide_eq_true_eq] at *; omega)
  · have HF : Hid ((R.1 : Int) = 1114112 + x0 ∧ (R.2 : Int) = 1) := Lib.hid (TF.out _ _ (by unfold nextN; rw [if_neg (by omega), if_neg (by omega), if_neg (by omega), if_pos (by omega), if_neg (by omega)]))
    have hs3 : (s.size : Int) < i + 4 := by omega
    clear i1 i2 i3 hs2
    go_enter Tryz.func83, Tryz.ntmps83
    go_wp2_with (first | (go_at_call 100; refine (cL.out _).mono ?_; rintro e w' ⟨rfl, rfl⟩) | (go_at_call 101; refine (cM.out _).mono ?_; rintro e w' ⟨rfl, rfl⟩))
    go_rounds 1
    all_goals (try go_wp2_with (first | (go_at_call 100; refine (cL.out _).mono ?_; rintro e w' ⟨rfl, rfl⟩) | (go_at_call 101; refine (cM.out _).mono ?_; rintro e w' ⟨rfl, rfl⟩)))
    all_goals go_ret2
    all_goals first | (rw [HF.out.1, HF.out.2]; exact ⟨rfl, rfl⟩) | (exfalso; simp only [Bool.not_eq_false', Bool.not_eq_true', decide_eq_true_eq, decide_eq_false_iff_not] at *; omega)

theorem refNext_in (s : ByteArray) (i : Nat) (w : World) (hi : i < s.size) (hs : s.size ≤ 4611686018427387904) :
    Calls Tryz.prog 83 #[.string s, .int .i64 i] w fun e w' => e = .returned (.tuple #[.int .i32 (ptU s i).1, .int .i64 (ptU s i).2]) ∧ w = w' := by
  have HR := nextN_at s i hi
  have hN : ((s.size - i : Nat) : Int) = (s.size : Int) - i := by omega
  rw [hN] at HR
  simp only [← bAt_B] at HR
  have TF : Hid (∀ a b : Int, nextN ((s.size : Int) - i) (bAt s i) (bAt s (i + 1)) (bAt s (i + 2)) (bAt s (i + 3)) = (a, b) → ((ptU s i).1 : Int) = a ∧ ((ptU s i).2 : Int) = b) := Lib.hid fun a b h => by
    rw [h] at HR
    injection HR with h1 h2
    exact ⟨h1.symm, h2.symm⟩
  have i0 := run_bAt s i hi
  have i1 : i + 1 < s.size → ∀ w, (Instr.index 9 (.string s) (.int .i64 ((i : Int) + 1))).run Tryz.prog w = .ok (.int .u8 (bAt s (i + 1))) w := fun h w => run_bAt' s i 1 h w
  have i2 : i + 2 < s.size → ∀ w, (Instr.index 9 (.string s) (.int .i64 ((i : Int) + 2))).run Tryz.prog w = .ok (.int .u8 (bAt s (i + 2))) w := fun h w => run_bAt' s i 2 h w
  have i3 : i + 3 < s.size → ∀ w, (Instr.index 9 (.string s) (.int .i64 ((i : Int) + 3))).run Tryz.prog w = .ok (.int .u8 (bAt s (i + 3))) w := fun h w => run_bAt' s i 3 h w
  have l0 := bAt_lo s i; have u0 := bAt_hi s i
  by_cases a : bAt s i < 128
  · exact refNext_1 s i w _ _ _ _ _ hi hs i0 l0 u0 a TF
  by_cases b2 : 192 ≤ bAt s i ∧ bAt s i < 224
  · exact refNext_2 s i w _ _ _ _ _ hi hs i0 i1 l0 u0 b2.1 b2.2 (bAt_lo _ _) (bAt_hi _ _) TF
  by_cases b3 : 224 ≤ bAt s i ∧ bAt s i < 240
  · exact refNext_3 s i w _ _ _ _ _ hi hs i0 i1 i2 l0 u0 b3.1 b3.2 (bAt_lo _ _) (bAt_hi _ _) (bAt_lo _ _) (bAt_hi _ _) TF
  by_cases b4 : 240 ≤ bAt s i ∧ bAt s i < 248
  · exact refNext_4 s i w _ _ _ _ _ hi hs i0 i1 i2 i3 l0 u0 b4.1 b4.2 (bAt_lo _ _) (bAt_hi _ _) (bAt_lo _ _) (bAt_hi _ _) (bAt_lo _ _) (bAt_hi _ _) TF
  · exact refNext_0 s i w _ _ _ _ _ hi hs i0 l0 u0 (by omega) b2 b3 b4 TF

theorem refNext_any (s : ByteArray) (a : Int) (w : World) (hs : s.size ≤ 4611686018427387904) :
    Calls Tryz.prog 83 #[.string s, .int .i64 a] w fun e w' => e = .returned (.tuple #[.int .i32 (ptP s a).1, .int .i64 (ptP s a).2]) ∧ w = w' := by
  by_cases hin : 0 ≤ a ∧ a < s.size
  · obtain ⟨i, rfl⟩ := Int.eq_ofNat_of_zero_le hin.1
    rw [ptP_in s i (by omega)]
    exact refNext_in s i w (by omega) hs
  · rw [ptP_out s a (by omega)]
    by_cases h0 : a < 0
    · go_enter Tryz.func83, Tryz.ntmps83
      go_wp2
      go_ret2
      exact ⟨rfl, rfl⟩
    · have h1 : (s.size : Int) ≤ a := by omega
      go_enter Tryz.func83, Tryz.ntmps83
      go_wp2
      go_ret2
      exact ⟨rfl, rfl⟩

end Go.Proofs.YtbnnhbmnddaafaaGreatDoor
/- Lists that were handed in; the kit's lent and kept lists of numbers; the document's text of numbers. -/
namespace Go.Proofs.YtbnnhbmnddaafaaGreatDoor
open Go Go.RowKit Go.Kt Go.Shelf

def Slg (k : IntKind) (W : World) (v : Value) (l : List Int) : Prop :=
  ∃ ao cap, v = .slice ao l.length cap ∧ (l = [] ∨ ∃ a : Addr, ao = some a ∧ ∀ i x, l[i]? = some x → W.cell? (a.add i) = some (.int k x))
theorem Slg.below {k : IntKind} {A B : World} {v : Value} {l : List Int} (h : Slg k A v l) (hb : Below A.heap.size A B) : Slg k B v l := by
  obtain ⟨ao, cap, rfl, h⟩ := h
  refine ⟨ao, cap, rfl, ?_⟩
  rcases h with h | ⟨a, rfl, h⟩
  · exact .inl h
  · exact .inr ⟨a, rfl, fun i x hx => (hb.cell (lt_of_cell (h i x hx))).trans (h i x hx)⟩
theorem Sl.toG {k : IntKind} {W : World} {v : Value} {l : List Int} (h : Sl k W v l) : Slg k W v l := by
  obtain ⟨ao, cap, rfl, h⟩ := h
  refine ⟨ao, cap, rfl, ?_⟩
  rcases h with h | ⟨g, off, rfl, h⟩
  · exact .inl h
  · exact .inr ⟨_, rfl, fun i x hx => by rw [Addr.add_lit]; exact h i x hx⟩

def marks (n : Nat) : List Int := (List.range n).map fun i : Nat => (-91000 - i : Int)
abbrev i32s (l : List Int) : List Value := l.map fun x => .int .i32 x

end Go.Proofs.YtbnnhbmnddaafaaGreatDoor
/- How many units; are all numbers characters; a list handed in held against one read. -/
namespace Go.Proofs.YtbnnhbmnddaafaaGreatDoor
open Go Go.RowKit Go.Kt Go.Shelf

def CharsOut (l : List Int) (w : World) (e : Ending) (w' : World) : Prop := e = .returned (.bool (l.all Utf8.valid)) ∧ Drawn w w'
end Go.Proofs.YtbnnhbmnddaafaaGreatDoor
/- The points of a text: the document's Of, and points.Of. -/
namespace Go.Proofs.YtbnnhbmnddaafaaGreatDoor
open Go Go.RowKit Go.Kt Go.Shelf
attribute [local go_sem] Oper.semAt_some

def ptL (s : ByteArray) (l : List (Nat × Nat)) : List Int := l.map fun p => ((ptU s p.1).1 : Int)
def pts (s : ByteArray) : List Int := ptL s (units s)
theorem ptL_snoc (s : ByteArray) (l : List (Nat × Nat)) (p : Nat × Nat) : ptL s (l ++ [p]) = ptL s l ++ [((ptU s p.1).1 : Int)] := by simp [ptL]
theorem ptL_len (s : ByteArray) (l : List (Nat × Nat)) : (ptL s l).length = l.length := by simp [ptL]
theorem pts_len (s : ByteArray) : (pts s).length = (units s).length := ptL_len _ _

def Made (B : Nat) (l : List Int) (w : World) (e : Ending) (w' : World) : Prop :=
  ∃ ao cap, e = .returned (.slice ao l.length cap) ∧ OwnS (fun b => B ≤ b) 21 1 (.slice ao l.length cap) l.length (i32s l) w' ∧ Below B w w'

set_option maxRecDepth 100000 in
theorem refOf_any (s : ByteArray) (w : World) (hs : s.size ≤ 4611686018427387904) (hu : (units s).length ≤ 35184372087808) :
    Calls Tryz.prog 56 #[.string s] w (Made w.heap.size (pts s) w) := by
  obtain ⟨R, hR⟩ : ∃ R, units s = R := ⟨_, rfl⟩
  have hRl : R.length ≤ 35184372087808 := by rw [← hR]; exact hu
  have HR := Lib.hid hR
  clear hR hu
  go_enter Tryz.func56, Tryz.ntmps56
  go_wp2
  go_loopw [3, 4] (fun o v wr => ∃ (pos f : Nat) (pre : List (Nat × Nat)) (ao : Option Addr) (cp k : Nat), k = pre.length ∧ v = .int .i64 pos ∧ o = .slice ao k cp ∧ pre ++ unitsF s f pos = R ∧ s.size ≤ pos + f ∧ pos ≤ s.size ∧
      OwnS (fun b => w.heap.size ≤ b) 21 1 (.slice ao k cp) k (i32s (ptL s pre)) wr ∧ Below w.heap.size w wr)
    (fun _ v _ => s.size - (RowKit.intOf v).toNat)
  case atStart => exact ⟨0, s.size, [], none, 0, 0, rfl, rfl, rfl, by rw [← HR.out]; rfl, by omega, by omega, own_nil _ _ _ _, Below.refl _ _⟩
  case round =>
    obtain ⟨pos, f, pre, ao, cp, k, hkl, rfl, rfl, hp, hf, hpl, hown, hb⟩ := hrel
    by_cases hpos : pos < s.size
    · obtain ⟨d1, d2, d3⟩ := dec_width s pos hpos
      obtain ⟨f', rfl⟩ : ∃ f', f = f' + 1 := ⟨f - 1, by omega⟩
      have hun : unitsF s (f' + 1) pos = (pos, (Utf8.decode s pos).1) :: unitsF s f' (pos + (Utf8.decode s pos).2) := by rw [unitsF, if_pos hpos]
      rw [hun] at hp
      rw [← ptU_wide_eq] at hp d1 d2 d3
      have C := refNext_in s pos wr hpos (by omega)
      have hkl2 : k < R.length := by rw [← hp]; simp; omega
      obtain ⟨pr, hpr⟩ : ∃ pr, (pos, (Utf8.decode s pos).1) = pr := ⟨_, rfl⟩
      have hp1 : pos = pr.1 := by rw [← hpr]
      rw [hpr] at hp
      have hsn := ptL_snoc s pre pr
      rw [← hp1] at hsn
      generalize ptU s pos = d at *
      obtain ⟨r, wd⟩ := d
      simp only at d1 d2 d3 C hp hsn
      obtain ⟨g, cap, w2, hrun, hown2, hk2, hg2, hz2⟩ := append_x (P := Tryz.prog) wr 90 21 Tryz.underlying90 tinfo21 rfl (by omega) hown [.int .i32 r] rfl
        (by intro u hu; simp at hu; subst hu; rfl) (by unfold maxLen; omega) (by omega)
      have HG : Hid (OwnS (fun b => w.heap.size ≤ b) 21 1 (.slice (some ⟨g, 0, none⟩) (k + 1) cap) (k + 1) (i32s (ptL s (pre ++ [pr]))) w2 ∧ Below w.heap.size w w2) := Lib.hid (by
        have hge : w.heap.size ≤ g := by
          rcases hg2 with h | h
          · exact hown.2 g h
          · have := hb.size; omega
        refine ⟨?_, hb.trans (hk2.below hb.size fun b h => hown.2 b h)⟩
        have := hown2.weaken (Z := fun b => w.heap.size ≤ b) (fun b h => by subst h; exact hge)
        rw [hsn]
        simpa [i32s] using this)
      have HRun := Lib.hid hrun
      have HP := Lib.hid (And.intro hp hkl)
      have CC := Lib.hid C
      clear hrun hown2 hk2 hg2 hz2 hown hp hsn hkl hpr hp1 hun C
      go_wp2_with (first | (go_at_call 83; refine CC.out.mono ?_; rintro e w' ⟨rfl, rfl⟩) | (at_builtin; refine wpList_append_eq rfl rfl rfl rfl HRun.out ?_))
      go_roundw
      case rel => exact ⟨pos + wd, f', pre ++ [pr], some ⟨g, 0, none⟩, cap, k + 1, by rw [List.length_append, ← HP.out.2]; rfl, by go_num, rfl, by rw [List.append_assoc]; exact HP.out.1, by omega, by omega, HG.out.1, HG.out.2⟩
      case measure => simp [RowKit.intOf]; omega
    · have hun : unitsF s f pos = [] := by
        cases f with
        | zero => rfl
        | succ f => rw [unitsF, if_neg hpos]
      rw [hun, List.append_nil] at hp
      have HO : Hid (Made w.heap.size (pts s) w (.returned (.slice ao k cp)) wr) := Lib.hid ⟨ao, cp, by rw [pts_len, HR.out, ← hp, hkl], by
        have e1 : pts s = ptL s pre := by unfold pts; rw [HR.out, hp]
        rw [e1, ptL_len, ← hkl]
        exact hown, hb⟩
      clear hown hp hun hkl
      go_wp2
      go_ret
      exact HO.out

end Go.Proofs.YtbnnhbmnddaafaaGreatDoor
/- The pieces that are ill-formed, held against a list. -/
namespace Go.Proofs.YtbnnhbmnddaafaaGreatDoor
open Go Go.RowKit Go.Kt Go.Shelf
attribute [local go_sem] Oper.semAt_some

def pieceInts (l : List (Nat × Nat)) : List Int := l.flatMap fun p => [(p.1 : Int), (p.2 : Int)]
abbrev intCells (l : List Int) : List Value := l.map fun x => .int .i64 x

end Go.Proofs.YtbnnhbmnddaafaaGreatDoor
/- The document's places, numbers, and whether a text is right. -/
namespace Go.Proofs.YtbnnhbmnddaafaaGreatDoor
open Go Go.RowKit Go.Kt Go.Shelf

def plI (l : List (Nat × Nat)) : List Int := l.map fun p => (p.1 : Int)
def MadeI (B : Nat) (l : List Int) (w : World) (e : Ending) (w' : World) : Prop :=
  ∃ ao cap, e = .returned (.slice ao l.length cap) ∧ OwnS (fun b => B ≤ b) 3 1 (.slice ao l.length cap) l.length (intCells l) w' ∧ Below B w w'

end Go.Proofs.YtbnnhbmnddaafaaGreatDoor
/- UtfWalks' two helpers: forward, backward. -/
namespace Go.Proofs.YtbnnhbmnddaafaaGreatDoor
open Go Go.RowKit Go.Kt Go.Shelf
attribute [local go_sem] Oper.semAt_some

end Go.Proofs.YtbnnhbmnddaafaaGreatDoor
/- points.Measure: the walk. -/
namespace Go.Proofs.YtbnnhbmnddaafaaGreatDoor
open Go Go.RowKit Go.Kt Go.Shelf Go.Kt.Bits
attribute [local go_sem] Oper.semAt_some

def MInv (g n : Nat) (P : Nat → Nat → Bool) (W : World) : Prop :=
  (∀ i, i < n → ∀ k, k < 3 → ∃ m, W.cell? ⟨g, i * 6 + 3 + k, none⟩ = some (.int .u64 ((m : Nat) : Int)) ∧ MaskOf (P k) i m) ∧
  (∀ i, i < n → ∀ k, k < 3 → ∃ v, W.cell? ⟨g, i * 6 + k, none⟩ = some v) ∧ (∀ o, W.frozen? ⟨g, o, none⟩ = false)
theorem MInv.lt {g n : Nat} {P : Nat → Nat → Bool} {W : World} (h : MInv g n P W) (hn : 0 < n) : g < W.heap.size := by
  obtain ⟨m, h1, _⟩ := h.1 0 hn 0 (by omega)
  exact lt_of_cell h1
theorem MInv.keep {g n : Nat} {P : Nat → Nat → Bool} {X : Nat → Prop} {A B : World} (h : MInv g n P A) (hn : 0 < n) (hk : Keep X A B) (hX : ¬ X g) : MInv g n P B :=
  ⟨fun i hi k hk3 => by obtain ⟨m, h1, h2⟩ := h.1 i hi k hk3; exact ⟨m, hk.cell h1 hX, h2⟩, fun i hi k hk3 => by obtain ⟨v, h1⟩ := h.2.1 i hi k hk3; exact ⟨v, hk.cell h1 hX⟩,
    fun o => (hk.frozen (p := ⟨g, o, none⟩) (h.lt hn) hX).trans (h.2.2 o)⟩
theorem MInv.congr {g n : Nat} {P Q : Nat → Nat → Bool} {W : World} (h : MInv g n P W) (e : ∀ k, k < 3 → ∀ x, P k x = Q k x) : MInv g n Q W :=
  ⟨fun i hi k hk3 => by obtain ⟨m, h1, h2⟩ := h.1 i hi k hk3; exact ⟨m, h1, h2.congr (e k hk3)⟩, h.2⟩
def putK (P : Nat → Nat → Bool) (k0 x : Nat) (k y : Nat) : Bool := P k y || (decide (k = k0) && decide (x = y))
theorem MInv.put {g n k0 x m : Nat} {P : Nat → Nat → Bool} {W : World} (h : MInv g n P W) (_hx : x / 64 < n) (hk0 : k0 < 3) (hm : W.cell? ⟨g, x / 64 * 6 + 3 + k0, none⟩ = some (.int .u64 ((m : Nat) : Int))) (hmm : MaskOf (P k0) (x / 64) m) :
    MInv g n (putK P k0 x) (W.setCell ⟨g, x / 64 * 6 + 3 + k0, none⟩ (.int .u64 ((m ||| 2 ^ (x % 64) : Nat) : Int))).drew := by
  have oth : ∀ o, o ≠ x / 64 * 6 + 3 + k0 → (W.setCell ⟨g, x / 64 * 6 + 3 + k0, none⟩ (.int .u64 ((m ||| 2 ^ (x % 64) : Nat) : Int))).drew.cell? ⟨g, o, none⟩ = W.cell? ⟨g, o, none⟩ := fun o ho => by
    show (W.setCell _ _).cell? _ = _
    rw [World.cell?_setCell_other _ _ _ _ (by simp)]
  refine ⟨fun i hi k hk => ?_, fun i hi k hk => ?_, fun o => ?_⟩
  · by_cases e : i = x / 64 ∧ k = k0
    · obtain ⟨rfl, rfl⟩ := e
      refine ⟨_, World.cell?_setCell_same _ _ _ hm, (hmm.put x rfl).congr fun y => by simp [putK]⟩
    · obtain ⟨m', h1, h2⟩ := h.1 i hi k hk
      refine ⟨m', by rw [oth _ (by omega)]; exact h1, ?_⟩
      by_cases ek : k = k0
      · exact (h2.other x (fun ei => e ⟨ei.symm, ek⟩)).congr fun y => by simp [putK, ek]
      · exact h2.congr fun y => by simp [putK, ek]
  · obtain ⟨v, hv⟩ := h.2.1 i hi k hk
    exact ⟨v, by rw [oth _ (by omega)]; exact hv⟩
  · show (W.setCell _ _).frozen? _ = _
    rw [World.frozen?_setCell]; exact h.2.2 o

def MeasAt (s : ByteArray) (b g c : Nat) (W : World) : Prop :=
  W.cell? ⟨b, 0, none⟩ = some (.int .i64 (s.size : Nat)) ∧ W.cell? ⟨b, 1, none⟩ = some (.slice (some ⟨g, 0, none⟩) (s.size / 64 + 1) c) ∧
    ∀ i, i < s.size / 64 + 1 → ∀ k, k < 3 → W.cell? ⟨g, i * 6 + k, none⟩ = some (.int .i64 (cnt (isK s k) (64 * i) : Nat)) ∧ ∃ m, W.cell? ⟨g, i * 6 + 3 + k, none⟩ = some (.int .u64 ((m : Nat) : Int)) ∧ MaskOf (isK s k) i m
def Meas (s : ByteArray) (b : Nat) (W : World) : Prop := ∃ g c, MeasAt s b g c W
theorem MeasAt.keep {s : ByteArray} {b g c : Nat} {X : Nat → Prop} {A B : World} (h : MeasAt s b g c A) (hk : Keep X A B) (hb : ¬ X b) (hg : ¬ X g) : MeasAt s b g c B :=
  ⟨hk.cell h.1 hb, hk.cell h.2.1 hb, fun i hi k hk3 => ⟨hk.cell (h.2.2 i hi k hk3).1 hg, by obtain ⟨m, e1, e2⟩ := (h.2.2 i hi k hk3).2; exact ⟨m, hk.cell e1 hg, e2⟩⟩⟩
theorem Meas.keep {s : ByteArray} {b : Nat} {A B : World} (h : Meas s b A) (hk : Below A.heap.size A B) : Meas s b B := by
  obtain ⟨g, c, h⟩ := h
  exact ⟨g, c, h.keep (X := fun _ => False) (.of_all hk) (fun h => h) (fun h => h)⟩

end Go.Proofs.YtbnnhbmnddaafaaGreatDoor
/- points.Measure: the walk. -/
namespace Go.Proofs.YtbnnhbmnddaafaaGreatDoor
open Go Go.RowKit Go.Kt Go.Shelf Go.Kt.Bits
attribute [local go_sem] Oper.semAt_some

end Go.Proofs.YtbnnhbmnddaafaaGreatDoor
/- points.Places: count; the n-th of a kind. -/
namespace Go.Proofs.YtbnnhbmnddaafaaGreatDoor
open Go Go.RowKit Go.Kt Go.Shelf Go.Kt.Bits

end Go.Proofs.YtbnnhbmnddaafaaGreatDoor
/- Sets in memory; common, Count, Has. -/
namespace Go.Proofs.YtbnnhbmnddaafaaGreatDoor
open Go Go.RowKit Go.Kt Go.Kt.Rg Go.Kt.Bits

def encR (l : List Run) : List Value := l.flatMap fun x => [.int .i64 x.1, .int .i64 x.2]
def SlR (W : World) (v : Value) (l : List Run) : Prop :=
  ∃ ao cap, v = .slice ao l.length cap ∧ (l = [] ∨ ∃ g, ao = some ⟨g, 0, none⟩ ∧ ∀ (i : Nat) (x : Run), l[i]? = some x → W.cell? ⟨g, i * 2, none⟩ = some (.int .i64 x.1) ∧ W.cell? ⟨g, i * 2 + 1, none⟩ = some (.int .i64 x.2))
theorem SlR.below {A B : World} {v : Value} {l : List Run} (h : SlR A v l) (hb : Below A.heap.size A B) : SlR B v l := by
  obtain ⟨ao, cap, rfl, h⟩ := h
  refine ⟨ao, cap, rfl, ?_⟩
  rcases h with h | ⟨g, rfl, h⟩
  · exact .inl h
  · exact .inr ⟨g, rfl, fun i x hx => ⟨(hb.cell (lt_of_cell (h i x hx).1)).trans (h i x hx).1, (hb.cell (lt_of_cell (h i x hx).2)).trans (h i x hx).2⟩⟩
def SetAt (l : List Run) (b : Nat) (W : World) : Prop := ∃ v, W.cell? ⟨b, 0, none⟩ = some v ∧ SlR W v l
theorem SetAt.below {A B : World} {b : Nat} {l : List Run} (h : SetAt l b A) (hb : Below A.heap.size A B) : SetAt l b B := by
  obtain ⟨v, h1, h2⟩ := h
  exact ⟨v, (hb.cell (lt_of_cell h1)).trans h1, h2.below hb⟩
abbrev ptrV (b : Nat) : Value := .pointer (some ⟨b, 0, none⟩)

theorem CanonFrom.take : ∀ {l : List Run} {lo : Int} (k : Nat), CanonFrom lo l → CanonFrom lo (l.take k)
  | [], _, k, h => by simp; exact h
  | x :: t, lo, 0, _ => trivial
  | x :: t, lo, k + 1, h => ⟨h.1, h.2.1, h.2.2.1, CanonFrom.take k h.2.2.2⟩

end Go.Proofs.YtbnnhbmnddaafaaGreatDoor
/- Rows of runs that a call makes; Not. -/
namespace Go.Proofs.YtbnnhbmnddaafaaGreatDoor
open Go Go.RowKit Go.Kt Go.Kt.Rg

def MadeS (l : List Run) (w : World) (e : Ending) (w' : World) : Prop := ∃ b, e = .returned (ptrV b) ∧ SetAt l b w' ∧ Below w.heap.size w w'

theorem own_ne {Y : Nat → Prop} {e : TypeId} {size n : Nat} {v : Value} {xs : List Value} {W : World} (h : OwnS Y e size v n xs W) {g : Nat} (hg : v.ownBlock = some g) : g < W.heap.size := by
  rcases h.shape with ⟨rfl, _⟩ | ⟨g', cap, rfl, _, hlt⟩
  · cases hg
  · cases hg; exact hlt
end Go.Proofs.YtbnnhbmnddaafaaGreatDoor
/- Both and Less. -/
namespace Go.Proofs.YtbnnhbmnddaafaaGreatDoor
open Go Go.RowKit Go.Kt Go.Kt.Rg

theorem SlR.at_ {W : World} {ao : Option Addr} {n cap : Nat} {l : List Run} (h : SlR W (.slice ao n cap) l) {i : Nat} {x : Run} (hx : l[i]? = some x) : ∃ g, ao = some ⟨g, 0, none⟩ ∧ W.cell? ⟨g, i * 2, none⟩ = some (.int .i64 x.1) ∧ W.cell? ⟨g, i * 2 + 1, none⟩ = some (.int .i64 x.2) := by
  obtain ⟨ax, cx, e, h⟩ := h
  injection e with e1 _ _
  subst e1
  rcases h with h | ⟨g, e, h⟩
  · subst h; simp at hx
  · exact ⟨g, e, h i x hx⟩
theorem SlR.len {W : World} {ao : Option Addr} {n cap : Nat} {l : List Run} (h : SlR W (.slice ao n cap) l) : l.length = n := by
  obtain ⟨ax, cx, e, h⟩ := h
  injection e with _ e2 _
  exact e2.symm
end Go.Proofs.YtbnnhbmnddaafaaGreatDoor
/- The iterator of a set's spans. -/
namespace Go.Proofs.YtbnnhbmnddaafaaGreatDoor
open Go Go.RowKit Go.Kt Go.Kt.Rg

def spanP (x : Run) : Int × Int := (pntI x.1, pntI (x.2 - 1))
def spansL (l : List Run) : List (Int × Int) := l.map spanP
def encS (x : Int × Int) : Array Value := #[.agg #[.int .i32 x.1, .int .i32 x.2]]
end Go.Proofs.YtbnnhbmnddaafaaGreatDoor
/- slices.AppendSeq of spans; Spans. -/
namespace Go.Proofs.YtbnnhbmnddaafaaGreatDoor
open Go Go.RowKit Go.Kt Go.Kt.Rg
attribute [local go_sem] Oper.semAt_some

def encSp (l : List (Int × Int)) : List Value := l.flatMap fun x => [.int .i32 x.1, .int .i32 x.2]
end Go.Proofs.YtbnnhbmnddaafaaGreatDoor
/- Spans of a set. -/
namespace Go.Proofs.YtbnnhbmnddaafaaGreatDoor
open Go Go.RowKit Go.Kt Go.Kt.Rg

end Go.Proofs.YtbnnhbmnddaafaaGreatDoor
