/- The unit at a place: the document's Next, and points.Next. -/
import Derived.Test.YtpddpglccjbpfaaDoorPa
import Derived.Test.YtpddpglccjbpfaaDoorC
namespace Go.Proofs.YtpddpglccjbpfaaDoor
open Go Go.RowKit Go.Lib

theorem long_any (c : Int) (w : World) (h0 : 0 ≤ c) (h1 : c < 256) :
    Calls Tryd.prog 96 #[.int .i64 c] w fun e w' => e = .returned (.tuple #[.int .i64 (longI c).1, .int .i64 (longI c).2]) ∧ w = w' := by
  have HR : Hid (longI c = if c < 128 then (1, c) else if 192 ≤ c ∧ c < 224 then (2, c - 192) else if 224 ≤ c ∧ c < 240 then (3, c - 224) else if 240 ≤ c ∧ c < 248 then (4, c - 240) else (0, 0)) := Lib.hid rfl
  generalize longI c = R at HR ⊢
  go_enter Tryd.func96, Tryd.ntmps96
  go_wp2
  all_goals go_ret2
  all_goals
    rw [HR.out]
    first
    | (rw [if_pos (by omega)]; exact ⟨rfl, rfl⟩)
    | (rw [if_neg (by omega), if_pos (by omega)]; exact ⟨rfl, rfl⟩)
    | (rw [if_neg (by omega), if_neg (by omega), if_pos (by omega)]; exact ⟨rfl, rfl⟩)
    | (rw [if_neg (by omega), if_neg (by omega), if_neg (by omega), if_pos (by omega)]; exact ⟨rfl, rfl⟩)
    | (rw [if_neg (by omega), if_neg (by omega), if_neg (by omega), if_neg (by omega)]; exact ⟨rfl, rfl⟩)

theorem least_any (n : Int) (w : World) :
    Calls Tryd.prog 97 #[.int .i64 n] w fun e w' => e = .returned (.int .i64 (leastI n)) ∧ w = w' := by
  have HR : Hid (leastI n = if n = 1 then 0 else if n = 2 then 128 else if n = 3 then 2048 else 65536) := Lib.hid rfl
  generalize leastI n = R at HR ⊢
  by_cases h1 : n = 1
  · subst h1
    go_enter Tryd.func97, Tryd.ntmps97
    go_wp2
    go_ret
    rw [HR.out]; exact ⟨rfl, rfl⟩
  by_cases h2 : n = 2
  · subst h2
    go_enter Tryd.func97, Tryd.ntmps97
    go_wp2
    go_ret
    rw [HR.out]; exact ⟨rfl, rfl⟩
  by_cases h3 : n = 3
  · subst h3
    go_enter Tryd.func97, Tryd.ntmps97
    go_wp2
    go_ret
    rw [HR.out]; exact ⟨rfl, rfl⟩
  · have e1 : (n == 1) = false := by simpa using h1
    have e2 : (n == 2) = false := by simpa using h2
    have e3 : (n == 3) = false := by simpa using h3
    rw [if_neg h1, if_neg h2, if_neg h3] at HR
    clear h1 h2 h3
    go_enter Tryd.func97, Tryd.ntmps97
    go_wp2
    go_ret
    rw [HR.out]; exact ⟨rfl, rfl⟩

theorem char_any (c : Int) (w : World) :
    Calls Tryd.prog 98 #[.int .i64 c] w fun e w' => e = .returned (.bool (charB c)) ∧ w = w' := by
  obtain ⟨R, hR⟩ : ∃ R, charB c = R := ⟨_, rfl⟩
  have HR := Lib.hid hR
  rw [hR]; clear hR
  go_enter Tryd.func98, Tryd.ntmps98
  go_wp2
  all_goals go_ret
  all_goals
    refine ⟨congrArg (fun b => Ending.returned (Value.bool b)) ?_, rfl⟩
    rw [← HR.out, Bool.eq_iff_iff, charB_iff]
    simp
    try omega

set_option maxRecDepth 100000 in
set_option maxHeartbeats 4000000 in
theorem refNext_1 (s : ByteArray) (i : Nat) (w : World) (x0 x1 x2 x3 : Int) (R : Nat × Nat) (hi : i < s.size) (hs : s.size ≤ 4611686018427387904)
    (i0 : ∀ w, (Instr.index 9 (.string s) (.int .i64 (i : Int))).run Tryd.prog w = .ok (.int .u8 x0) w)
    (l0 : 0 ≤ x0) (u0 : x0 < 256) (a : x0 < 128)
    (TF : Hid (∀ a b : Int, nextN ((s.size : Int) - i) x0 x1 x2 x3 = (a, b) → (R.1 : Int) = a ∧ (R.2 : Int) = b)) :
    Calls Tryd.prog 72 #[.string s, .int .i64 i] w fun e w' => e = .returned (.tuple #[.int .i32 R.1, .int .i64 R.2]) ∧ w = w' := by
  have cL : Hid (∀ w, Calls Tryd.prog 96 #[.int .i64 x0] w fun e w' => e = .returned (.tuple #[.int .i64 ((1, x0) : Int × Int).1, .int .i64 ((1, x0) : Int × Int).2]) ∧ w = w') := Lib.hid (fun w => by have := long_any x0 w l0 u0; rw [show longI x0 = (1, x0) by unfold longI; rw [if_pos a]] at this; exact this)
  have cM : Hid (∀ w, Calls Tryd.prog 97 #[.int .i64 1] w fun e w' => e = .returned (.int .i64 0) ∧ w = w') := Lib.hid (fun w => least_any 1 w)
  have HF : Hid ((R.1 : Int) = x0 ∧ (R.2 : Int) = 1) := Lib.hid (TF.out _ _ (by unfold nextN; rw [if_pos a]))
  go_enter Tryd.func72, Tryd.ntmps72
  go_wp2_with (first | (go_at_call 96; refine (cL.out _).mono ?_; rintro e w' ⟨rfl, rfl⟩) | (go_at_call 97; refine (cM.out _).mono ?_; rintro e w' ⟨rfl, rfl⟩))
  go_rounds 1
  all_goals (try go_wp2_with (first | (go_at_call 96; refine (cL.out _).mono ?_; rintro e w' ⟨rfl, rfl⟩) | (go_at_call 97; refine (cM.out _).mono ?_; rintro e w' ⟨rfl, rfl⟩)))
  all_goals go_ret2
  all_goals first | (rw [HF.out.1, HF.out.2]; exact ⟨rfl, rfl⟩) | (exfalso; simp only [Bool.not_eq_false', Bool.not_eq_true', decide_eq_true_eq, decide_eq_false_iff_not] at *; omega)

set_option maxRecDepth 100000 in
set_option maxHeartbeats 4000000 in
theorem refNext_0 (s : ByteArray) (i : Nat) (w : World) (x0 x1 x2 x3 : Int) (R : Nat × Nat) (hi : i < s.size) (_hs : s.size ≤ 4611686018427387904)
    (i0 : ∀ w, (Instr.index 9 (.string s) (.int .i64 (i : Int))).run Tryd.prog w = .ok (.int .u8 x0) w)
    (l0 : 0 ≤ x0) (u0 : x0 < 256) (a : 128 ≤ x0) (b2 : ¬ (192 ≤ x0 ∧ x0 < 224)) (b3 : ¬ (224 ≤ x0 ∧ x0 < 240)) (b4 : ¬ (240 ≤ x0 ∧ x0 < 248))
    (TF : Hid (∀ a b : Int, nextN ((s.size : Int) - i) x0 x1 x2 x3 = (a, b) → (R.1 : Int) = a ∧ (R.2 : Int) = b)) :
    Calls Tryd.prog 72 #[.string s, .int .i64 i] w fun e w' => e = .returned (.tuple #[.int .i32 R.1, .int .i64 R.2]) ∧ w = w' := by
  have cL : Hid (∀ w, Calls Tryd.prog 96 #[.int .i64 x0] w fun e w' => e = .returned (.tuple #[.int .i64 ((0, 0) : Int × Int).1, .int .i64 ((0, 0) : Int × Int).2]) ∧ w = w') := Lib.hid (fun w => by have := long_any x0 w l0 u0; rw [show longI x0 = (0, 0) by unfold longI; rw [if_neg (by omega), if_neg (by omega), if_neg (by omega), if_neg (by omega)]] at this; exact this)
  have cM : Hid (∀ w, Calls Tryd.prog 97 #[.int .i64 0] w fun e w' => e = .returned (.int .i64 65536) ∧ w = w') := Lib.hid (fun w => least_any 0 w)
  have HF : Hid ((R.1 : Int) = 1114112 + x0 ∧ (R.2 : Int) = 1) := Lib.hid (TF.out _ _ (by unfold nextN; rw [if_neg (by omega), if_neg (by omega), if_neg (by omega), if_neg (by omega)]))
  clear b2 b3 b4
  go_enter Tryd.func72, Tryd.ntmps72
  go_wp2_with (first | (go_at_call 96; refine (cL.out _).mono ?_; rintro e w' ⟨rfl, rfl⟩) | (go_at_call 97; refine (cM.out _).mono ?_; rintro e w' ⟨rfl, rfl⟩))
  go_rounds 1
  all_goals (try go_wp2_with (first | (go_at_call 96; refine (cL.out _).mono ?_; rintro e w' ⟨rfl, rfl⟩) | (go_at_call 97; refine (cM.out _).mono ?_; rintro e w' ⟨rfl, rfl⟩)))
  all_goals go_ret2
  all_goals first | (rw [HF.out.1, HF.out.2]; exact ⟨rfl, rfl⟩) | (exfalso; simp only [Bool.not_eq_false', Bool.not_eq_true', decide_eq_true_eq, decide_eq_false_iff_not] at *; omega)

set_option maxRecDepth 100000 in
set_option maxHeartbeats 4000000 in
theorem refNext_2 (s : ByteArray) (i : Nat) (w : World) (x0 x1 x2 x3 : Int) (R : Nat × Nat) (hi : i < s.size) (hs : s.size ≤ 4611686018427387904)
    (i0 : ∀ w, (Instr.index 9 (.string s) (.int .i64 (i : Int))).run Tryd.prog w = .ok (.int .u8 x0) w)
    (i1 : i + 1 < s.size → ∀ w, (Instr.index 9 (.string s) (.int .i64 ((i : Int) + 1))).run Tryd.prog w = .ok (.int .u8 x1) w)
    (l0 : 0 ≤ x0) (u0 : x0 < 256) (hx0 : 192 ≤ x0) (hx1 : x0 < 224) (l1 : 0 ≤ x1) (u1 : x1 < 256)
    (TF : Hid (∀ a b : Int, nextN ((s.size : Int) - i) x0 x1 x2 x3 = (a, b) → (R.1 : Int) = a ∧ (R.2 : Int) = b)) :
    Calls Tryd.prog 72 #[.string s, .int .i64 i] w fun e w' => e = .returned (.tuple #[.int .i32 R.1, .int .i64 R.2]) ∧ w = w' := by
  have cL : Hid (∀ w, Calls Tryd.prog 96 #[.int .i64 x0] w fun e w' => e = .returned (.tuple #[.int .i64 ((2, x0 - 192) : Int × Int).1, .int .i64 ((2, x0 - 192) : Int × Int).2]) ∧ w = w') := Lib.hid (fun w => by have := long_any x0 w l0 u0; rw [show longI x0 = (2, x0 - 192) by unfold longI; rw [if_neg (by omega), if_pos (by omega)]] at this; exact this)
  have cM : Hid (∀ w, Calls Tryd.prog 97 #[.int .i64 2] w fun e w' => e = .returned (.int .i64 128) ∧ w = w') := Lib.hid (fun w => least_any 2 w)
  by_cases hs2 : i + 2 ≤ s.size
  · have hs3 : (i : Int) + 2 ≤ s.size := by omega
    replace i1 := i1 (by omega)
    by_cases g1a : x1 < 128
    · have HF : Hid ((R.1 : Int) = 1114112 + x0 ∧ (R.2 : Int) = 1) := Lib.hid (TF.out _ _ (by unfold nextN; rw [if_neg (by omega), if_pos (by omega), if_neg (by omega)]))
      go_enter Tryd.func72, Tryd.ntmps72
      go_wp2_with (first | (go_at_call 96; refine (cL.out _).mono ?_; rintro e w' ⟨rfl, rfl⟩) | (go_at_call 97; refine (cM.out _).mono ?_; rintro e w' ⟨rfl, rfl⟩))
      go_rounds 2
      all_goals (try go_wp2_with (first | (go_at_call 96; refine (cL.out _).mono ?_; rintro e w' ⟨rfl, rfl⟩) | (go_at_call 97; refine (cM.out _).mono ?_; rintro e w' ⟨rfl, rfl⟩)))
      all_goals go_ret2
      all_goals first | (rw [HF.out.1, HF.out.2]; exact ⟨rfl, rfl⟩) | (exfalso; simp only [Bool.not_eq_false', decide_eq_true_eq] at *; omega)
    replace g1a : 128 ≤ x1 := by omega
    by_cases g1b : 192 ≤ x1
    · have HF : Hid ((R.1 : Int) = 1114112 + x0 ∧ (R.2 : Int) = 1) := Lib.hid (TF.out _ _ (by unfold nextN; rw [if_neg (by omega), if_pos (by omega), if_neg (by omega)]))
      go_enter Tryd.func72, Tryd.ntmps72
      go_wp2_with (first | (go_at_call 96; refine (cL.out _).mono ?_; rintro e w' ⟨rfl, rfl⟩) | (go_at_call 97; refine (cM.out _).mono ?_; rintro e w' ⟨rfl, rfl⟩))
      go_rounds 2
      all_goals (try go_wp2_with (first | (go_at_call 96; refine (cL.out _).mono ?_; rintro e w' ⟨rfl, rfl⟩) | (go_at_call 97; refine (cM.out _).mono ?_; rintro e w' ⟨rfl, rfl⟩)))
      all_goals go_ret2
      all_goals first | (rw [HF.out.1, HF.out.2]; exact ⟨rfl, rfl⟩) | (exfalso; simp only [Bool.not_eq_false', decide_eq_true_eq] at *; omega)
    replace g1b : x1 < 192 := by omega
    by_cases gl : (x0 - 192) * 64 + x1 - 128 < 128
    · have HF : Hid ((R.1 : Int) = 1114112 + x0 ∧ (R.2 : Int) = 1) := Lib.hid (TF.out _ _ (by unfold nextN; rw [if_neg (by omega), if_pos (by omega), if_neg (by omega)]))
      go_enter Tryd.func72, Tryd.ntmps72
      go_wp2_with (first | (go_at_call 96; refine (cL.out _).mono ?_; rintro e w' ⟨rfl, rfl⟩) | (go_at_call 97; refine (cM.out _).mono ?_; rintro e w' ⟨rfl, rfl⟩))
      go_rounds 2
      all_goals (try go_wp2_with (first | (go_at_call 96; refine (cL.out _).mono ?_; rintro e w' ⟨rfl, rfl⟩) | (go_at_call 97; refine (cM.out _).mono ?_; rintro e w' ⟨rfl, rfl⟩)))
      all_goals go_ret2
      all_goals first | (rw [HF.out.1, HF.out.2]; exact ⟨rfl, rfl⟩) | (exfalso; simp only [Bool.not_eq_false', Bool.not_eq_true', decide_eq_true_eq, decide_eq_false_iff_not] at *; omega)
    replace gl : 128 ≤ (x0 - 192) * 64 + x1 - 128 := by omega
    have gm : (x0 - 192) * 64 + x1 - 128 < 55296 := by omega
    have HF : Hid ((R.1 : Int) = (x0 - 192) * 64 + x1 - 128 ∧ (R.2 : Int) = 2) := Lib.hid (TF.out _ _ (by unfold nextN; rw [if_neg (by omega), if_pos (by omega), if_pos ⟨by omega, ⟨g1a, g1b⟩, by omega⟩]))
    go_enter Tryd.func72, Tryd.ntmps72
    go_wp2_with (first | (go_at_call 96; refine (cL.out _).mono ?_; rintro e w' ⟨rfl, rfl⟩) | (go_at_call 97; refine (cM.out _).mono ?_; rintro e w' ⟨rfl, rfl⟩))
    go_rounds 2
    all_goals (try go_wp2_with (first | (go_at_call 96; refine (cL.out _).mono ?_; rintro e w' ⟨rfl, rfl⟩) | (go_at_call 97; refine (cM.out _).mono ?_; rintro e w' ⟨rfl, rfl⟩)))
    all_goals go_ret2
    all_goals first | (rw [HF.out.1, HF.out.2]; exact ⟨rfl, rfl⟩) | (exfalso; simp only [Bool.not_eq_false', decide_eq_true_eq] at *; omega)
  · have HF : Hid ((R.1 : Int) = 1114112 + x0 ∧ (R.2 : Int) = 1) := Lib.hid (TF.out _ _ (by unfold nextN; rw [if_neg (by omega), if_pos (by omega), if_neg (by omega)]))
    have hs3 : (s.size : Int) < i + 2 := by omega
    clear i1 hs2
    go_enter Tryd.func72, Tryd.ntmps72
    go_wp2_with (first | (go_at_call 96; refine (cL.out _).mono ?_; rintro e w' ⟨rfl, rfl⟩) | (go_at_call 97; refine (cM.out _).mono ?_; rintro e w' ⟨rfl, rfl⟩))
    go_rounds 1
    all_goals (try go_wp2_with (first | (go_at_call 96; refine (cL.out _).mono ?_; rintro e w' ⟨rfl, rfl⟩) | (go_at_call 97; refine (cM.out _).mono ?_; rintro e w' ⟨rfl, rfl⟩)))
    all_goals go_ret2
    all_goals first | (rw [HF.out.1, HF.out.2]; exact ⟨rfl, rfl⟩) | (exfalso; simp only [Bool.not_eq_false', decide_eq_true_eq] at *; omega)

set_option maxRecDepth 100000 in
set_option maxHeartbeats 4000000 in
theorem refNext_3 (s : ByteArray) (i : Nat) (w : World) (x0 x1 x2 x3 : Int) (R : Nat × Nat) (hi : i < s.size) (hs : s.size ≤ 4611686018427387904)
    (i0 : ∀ w, (Instr.index 9 (.string s) (.int .i64 (i : Int))).run Tryd.prog w = .ok (.int .u8 x0) w)
    (i1 : i + 1 < s.size → ∀ w, (Instr.index 9 (.string s) (.int .i64 ((i : Int) + 1))).run Tryd.prog w = .ok (.int .u8 x1) w)
    (i2 : i + 2 < s.size → ∀ w, (Instr.index 9 (.string s) (.int .i64 ((i : Int) + 2))).run Tryd.prog w = .ok (.int .u8 x2) w)
    (l0 : 0 ≤ x0) (u0 : x0 < 256) (hx0 : 224 ≤ x0) (hx1 : x0 < 240) (l1 : 0 ≤ x1) (u1 : x1 < 256) (l2 : 0 ≤ x2) (u2 : x2 < 256)
    (TF : Hid (∀ a b : Int, nextN ((s.size : Int) - i) x0 x1 x2 x3 = (a, b) → (R.1 : Int) = a ∧ (R.2 : Int) = b)) :
    Calls Tryd.prog 72 #[.string s, .int .i64 i] w fun e w' => e = .returned (.tuple #[.int .i32 R.1, .int .i64 R.2]) ∧ w = w' := by
  have cL : Hid (∀ w, Calls Tryd.prog 96 #[.int .i64 x0] w fun e w' => e = .returned (.tuple #[.int .i64 ((3, x0 - 224) : Int × Int).1, .int .i64 ((3, x0 - 224) : Int × Int).2]) ∧ w = w') := Lib.hid (fun w => by have := long_any x0 w l0 u0; rw [show longI x0 = (3, x0 - 224) by unfold longI; rw [if_neg (by omega), if_neg (by omega), if_pos (by omega)]] at this; exact this)
  have cM : Hid (∀ w, Calls Tryd.prog 97 #[.int .i64 3] w fun e w' => e = .returned (.int .i64 2048) ∧ w = w') := Lib.hid (fun w => least_any 3 w)
  by_cases hs2 : i + 3 ≤ s.size
  · have hs3 : (i : Int) + 3 ≤ s.size := by omega
    replace i1 := i1 (by omega)
    by_cases g1a : x1 < 128
    · have HF : Hid ((R.1 : Int) = 1114112 + x0 ∧ (R.2 : Int) = 1) := Lib.hid (TF.out _ _ (by unfold nextN; rw [if_neg (by omega), if_neg (by omega), if_pos (by omega), if_neg (by omega)]))
      clear i2
      go_enter Tryd.func72, Tryd.ntmps72
      go_wp2_with (first | (go_at_call 96; refine (cL.out _).mono ?_; rintro e w' ⟨rfl, rfl⟩) | (go_at_call 97; refine (cM.out _).mono ?_; rintro e w' ⟨rfl, rfl⟩))
      go_rounds 2
      all_goals (try go_wp2_with (first | (go_at_call 96; refine (cL.out _).mono ?_; rintro e w' ⟨rfl, rfl⟩) | (go_at_call 97; refine (cM.out _).mono ?_; rintro e w' ⟨rfl, rfl⟩)))
      all_goals go_ret2
      all_goals first | (rw [HF.out.1, HF.out.2]; exact ⟨rfl, rfl⟩) | (exfalso; simp only [Bool.not_eq_false', Bool.not_eq_true', decide_eq_true_eq, decide_eq_false_iff_not] at *; omega)
    replace g1a : 128 ≤ x1 := by omega
    by_cases g1b : 192 ≤ x1
    · have HF : Hid ((R.1 : Int) = 1114112 + x0 ∧ (R.2 : Int) = 1) := Lib.hid (TF.out _ _ (by unfold nextN; rw [if_neg (by omega), if_neg (by omega), if_pos (by omega), if_neg (by omega)]))
      clear i2
      go_enter Tryd.func72, Tryd.ntmps72
      go_wp2_with (first | (go_at_call 96; refine (cL.out _).mono ?_; rintro e w' ⟨rfl, rfl⟩) | (go_at_call 97; refine (cM.out _).mono ?_; rintro e w' ⟨rfl, rfl⟩))
      go_rounds 2
      all_goals (try go_wp2_with (first | (go_at_call 96; refine (cL.out _).mono ?_; rintro e w' ⟨rfl, rfl⟩) | (go_at_call 97; refine (cM.out _).mono ?_; rintro e w' ⟨rfl, rfl⟩)))
      all_goals go_ret2
      all_goals first | (rw [HF.out.1, HF.out.2]; exact ⟨rfl, rfl⟩) | (exfalso; simp only [Bool.not_eq_false', Bool.not_eq_true', decide_eq_true_eq, decide_eq_false_iff_not] at *; omega)
    replace g1b : x1 < 192 := by omega
    replace i2 := i2 (by omega)
    by_cases g2a : x2 < 128
    · have HF : Hid ((R.1 : Int) = 1114112 + x0 ∧ (R.2 : Int) = 1) := Lib.hid (TF.out _ _ (by unfold nextN; rw [if_neg (by omega), if_neg (by omega), if_pos (by omega), if_neg (by omega)]))
      go_enter Tryd.func72, Tryd.ntmps72
      go_wp2_with (first | (go_at_call 96; refine (cL.out _).mono ?_; rintro e w' ⟨rfl, rfl⟩) | (go_at_call 97; refine (cM.out _).mono ?_; rintro e w' ⟨rfl, rfl⟩))
      go_rounds 3
      all_goals (try go_wp2_with (first | (go_at_call 96; refine (cL.out _).mono ?_; rintro e w' ⟨rfl, rfl⟩) | (go_at_call 97; refine (cM.out _).mono ?_; rintro e w' ⟨rfl, rfl⟩)))
      all_goals go_ret2
      all_goals first | (rw [HF.out.1, HF.out.2]; exact ⟨rfl, rfl⟩) | (exfalso; simp only [Bool.not_eq_false', Bool.not_eq_true', decide_eq_true_eq, decide_eq_false_iff_not] at *; omega)
    replace g2a : 128 ≤ x2 := by omega
    by_cases g2b : 192 ≤ x2
    · have HF : Hid ((R.1 : Int) = 1114112 + x0 ∧ (R.2 : Int) = 1) := Lib.hid (TF.out _ _ (by unfold nextN; rw [if_neg (by omega), if_neg (by omega), if_pos (by omega), if_neg (by omega)]))
      go_enter Tryd.func72, Tryd.ntmps72
      go_wp2_with (first | (go_at_call 96; refine (cL.out _).mono ?_; rintro e w' ⟨rfl, rfl⟩) | (go_at_call 97; refine (cM.out _).mono ?_; rintro e w' ⟨rfl, rfl⟩))
      go_rounds 3
      all_goals (try go_wp2_with (first | (go_at_call 96; refine (cL.out _).mono ?_; rintro e w' ⟨rfl, rfl⟩) | (go_at_call 97; refine (cM.out _).mono ?_; rintro e w' ⟨rfl, rfl⟩)))
      all_goals go_ret2
      all_goals first | (rw [HF.out.1, HF.out.2]; exact ⟨rfl, rfl⟩) | (exfalso; simp only [Bool.not_eq_false', Bool.not_eq_true', decide_eq_true_eq, decide_eq_false_iff_not] at *; omega)
    replace g2b : x2 < 192 := by omega
    by_cases gl : ((x0 - 224) * 64 + x1 - 128) * 64 + x2 - 128 < 2048
    · have HF : Hid ((R.1 : Int) = 1114112 + x0 ∧ (R.2 : Int) = 1) := Lib.hid (TF.out _ _ (by unfold nextN; rw [if_neg (by omega), if_neg (by omega), if_pos (by omega), if_neg (by omega)]))
      go_enter Tryd.func72, Tryd.ntmps72
      go_wp2_with (first | (go_at_call 96; refine (cL.out _).mono ?_; rintro e w' ⟨rfl, rfl⟩) | (go_at_call 97; refine (cM.out _).mono ?_; rintro e w' ⟨rfl, rfl⟩))
      go_rounds 3
      all_goals (try go_wp2_with (first | (go_at_call 96; refine (cL.out _).mono ?_; rintro e w' ⟨rfl, rfl⟩) | (go_at_call 97; refine (cM.out _).mono ?_; rintro e w' ⟨rfl, rfl⟩)))
      all_goals go_ret2
      all_goals first | (rw [HF.out.1, HF.out.2]; exact ⟨rfl, rfl⟩) | (exfalso; simp only [Bool.not_eq_false', Bool.not_eq_true', decide_eq_true_eq, decide_eq_false_iff_not] at *; omega)
    replace gl : 2048 ≤ ((x0 - 224) * 64 + x1 - 128) * 64 + x2 - 128 := by omega
    have gt : ((x0 - 224) * 64 + x1 - 128) * 64 + x2 - 128 ≤ 1114111 := by omega
    by_cases gm : ((x0 - 224) * 64 + x1 - 128) * 64 + x2 - 128 < 55296
    · have HF : Hid ((R.1 : Int) = ((x0 - 224) * 64 + x1 - 128) * 64 + x2 - 128 ∧ (R.2 : Int) = 3) := Lib.hid (TF.out _ _ (by unfold nextN; rw [if_neg (by omega), if_neg (by omega), if_pos (by omega), if_pos ⟨by omega, ⟨g1a, g1b⟩, ⟨g2a, g2b⟩, by omega, (charB_iff _).2 (by omega)⟩]))
      go_enter Tryd.func72, Tryd.ntmps72
      go_wp2_with (first | (go_at_call 96; refine (cL.out _).mono ?_; rintro e w' ⟨rfl, rfl⟩) | (go_at_call 97; refine (cM.out _).mono ?_; rintro e w' ⟨rfl, rfl⟩))
      go_rounds 3
      all_goals (try go_wp2_with (first | (go_at_call 96; refine (cL.out _).mono ?_; rintro e w' ⟨rfl, rfl⟩) | (go_at_call 97; refine (cM.out _).mono ?_; rintro e w' ⟨rfl, rfl⟩)))
      all_goals go_ret2
      all_goals first | (rw [HF.out.1, HF.out.2]; exact ⟨rfl, rfl⟩) | (exfalso; simp only [Bool.not_eq_false', Bool.not_eq_true', decide_eq_true_eq, decide_eq_false_iff_not] at *; omega)
    replace gm : 55296 ≤ ((x0 - 224) * 64 + x1 - 128) * 64 + x2 - 128 := by omega
    by_cases gh : ((x0 - 224) * 64 + x1 - 128) * 64 + x2 - 128 ≤ 57343
    · have HF : Hid ((R.1 : Int) = 1114112 + x0 ∧ (R.2 : Int) = 1) := Lib.hid (TF.out _ _ (by unfold nextN; rw [if_neg (by omega), if_neg (by omega), if_pos (by omega), if_neg (by rw [charB_iff]; omega)]))
      go_enter Tryd.func72, Tryd.ntmps72
      go_wp2_with (first | (go_at_call 96; refine (cL.out _).mono ?_; rintro e w' ⟨rfl, rfl⟩) | (go_at_call 97; refine (cM.out _).mono ?_; rintro e w' ⟨rfl, rfl⟩))
      go_rounds 3
      all_goals (try go_wp2_with (first | (go_at_call 96; refine (cL.out _).mono ?_; rintro e w' ⟨rfl, rfl⟩) | (go_at_call 97; refine (cM.out _).mono ?_; rintro e w' ⟨rfl, rfl⟩)))
      all_goals go_ret2
      all_goals first | (rw [HF.out.1, HF.out.2]; exact ⟨rfl, rfl⟩) | (exfalso; simp only [Bool.not_eq_false', decide_eq_true_eq] at *; omega)
    replace gh : 57343 < ((x0 - 224) * 64 + x1 - 128) * 64 + x2 - 128 := by omega
    have HF : Hid ((R.1 : Int) = ((x0 - 224) * 64 + x1 - 128) * 64 + x2 - 128 ∧ (R.2 : Int) = 3) := Lib.hid (TF.out _ _ (by unfold nextN; rw [if_neg (by omega), if_neg (by omega), if_pos (by omega), if_pos ⟨by omega, ⟨g1a, g1b⟩, ⟨g2a, g2b⟩, by omega, (charB_iff _).2 (by omega)⟩]))
    go_enter Tryd.func72, Tryd.ntmps72
    go_wp2_with (first | (go_at_call 96; refine (cL.out _).mono ?_; rintro e w' ⟨rfl, rfl⟩) | (go_at_call 97; refine (cM.out _).mono ?_; rintro e w' ⟨rfl, rfl⟩))
    go_rounds 3
    all_goals (try go_wp2_with (first | (go_at_call 96; refine (cL.out _).mono ?_; rintro e w' ⟨rfl, rfl⟩) | (go_at_call 97; refine (cM.out _).mono ?_; rintro e w' ⟨rfl, rfl⟩)))
    all_goals go_ret2
    all_goals first | (rw [HF.out.1, HF.out.2]; exact ⟨rfl, rfl⟩) | (exfalso; simp only [Bool.not_eq_false', Bool.not_eq_true', decide_eq_true_eq, decide_eq_false_iff_not] at *; omega)
  · have HF : Hid ((R.1 : Int) = 1114112 + x0 ∧ (R.2 : Int) = 1) := Lib.hid (TF.out _ _ (by unfold nextN; rw [if_neg (by omega), if_neg (by omega), if_pos (by omega), if_neg (by omega)]))
    have hs3 : (s.size : Int) < i + 3 := by omega
    clear i1 i2 hs2
    go_enter Tryd.func72, Tryd.ntmps72
    go_wp2_with (first | (go_at_call 96; refine (cL.out _).mono ?_; rintro e w' ⟨rfl, rfl⟩) | (go_at_call 97; refine (cM.out _).mono ?_; rintro e w' ⟨rfl, rfl⟩))
    go_rounds 1
    all_goals (try go_wp2_with (first | (go_at_call 96; refine (cL.out _).mono ?_; rintro e w' ⟨rfl, rfl⟩) | (go_at_call 97; refine (cM.out _).mono ?_; rintro e w' ⟨rfl, rfl⟩)))
    all_goals go_ret2
    all_goals first | (rw [HF.out.1, HF.out.2]; exact ⟨rfl, rfl⟩) | (exfalso; simp only [Bool.not_eq_false', Bool.not_eq_true', decide_eq_true_eq, decide_eq_false_iff_not] at *; omega)

set_option maxRecDepth 100000 in
set_option maxHeartbeats 4000000 in
theorem refNext_4 (s : ByteArray) (i : Nat) (w : World) (x0 x1 x2 x3 : Int) (R : Nat × Nat) (hi : i < s.size) (hs : s.size ≤ 4611686018427387904)
    (i0 : ∀ w, (Instr.index 9 (.string s) (.int .i64 (i : Int))).run Tryd.prog w = .ok (.int .u8 x0) w)
    (i1 : i + 1 < s.size → ∀ w, (Instr.index 9 (.string s) (.int .i64 ((i : Int) + 1))).run Tryd.prog w = .ok (.int .u8 x1) w)
    (i2 : i + 2 < s.size → ∀ w, (Instr.index 9 (.string s) (.int .i64 ((i : Int) + 2))).run Tryd.prog w = .ok (.int .u8 x2) w)
    (i3 : i + 3 < s.size → ∀ w, (Instr.index 9 (.string s) (.int .i64 ((i : Int) + 3))).run Tryd.prog w = .ok (.int .u8 x3) w)
    (l0 : 0 ≤ x0) (u0 : x0 < 256) (hx0 : 240 ≤ x0) (hx1 : x0 < 248) (l1 : 0 ≤ x1) (u1 : x1 < 256) (l2 : 0 ≤ x2) (u2 : x2 < 256) (l3 : 0 ≤ x3) (u3 : x3 < 256)
    (TF : Hid (∀ a b : Int, nextN ((s.size : Int) - i) x0 x1 x2 x3 = (a, b) → (R.1 : Int) = a ∧ (R.2 : Int) = b)) :
    Calls Tryd.prog 72 #[.string s, .int .i64 i] w fun e w' => e = .returned (.tuple #[.int .i32 R.1, .int .i64 R.2]) ∧ w = w' := by
  have cL : Hid (∀ w, Calls Tryd.prog 96 #[.int .i64 x0] w fun e w' => e = .returned (.tuple #[.int .i64 ((4, x0 - 240) : Int × Int).1, .int .i64 ((4, x0 - 240) : Int × Int).2]) ∧ w = w') := Lib.hid (fun w => by have := long_any x0 w l0 u0; rw [show longI x0 = (4, x0 - 240) by unfold longI; rw [if_neg (by omega), if_neg (by omega), if_neg (by omega), if_pos (by omega)]] at this; exact this)
  have cM : Hid (∀ w, Calls Tryd.prog 97 #[.int .i64 4] w fun e w' => e = .returned (.int .i64 65536) ∧ w = w') := Lib.hid (fun w => least_any 4 w)
  by_cases hs2 : i + 4 ≤ s.size
  · have hs3 : (i : Int) + 4 ≤ s.size := by omega
    replace i1 := i1 (by omega)
    by_cases g1a : x1 < 128
    · have HF : Hid ((R.1 : Int) = 1114112 + x0 ∧ (R.2 : Int) = 1) := Lib.hid (TF.out _ _ (by unfold nextN; rw [if_neg (by omega), if_neg (by omega), if_neg (by omega), if_pos (by omega), if_neg (by omega)]))
      clear i2 i3
      go_enter Tryd.func72, Tryd.ntmps72
      go_wp2_with (first | (go_at_call 96; refine (cL.out _).mono ?_; rintro e w' ⟨rfl, rfl⟩) | (go_at_call 97; refine (cM.out _).mono ?_; rintro e w' ⟨rfl, rfl⟩))
      go_rounds 2
      all_goals (try go_wp2_with (first | (go_at_call 96; refine (cL.out _).mono ?_; rintro e w' ⟨rfl, rfl⟩) | (go_at_call 97; refine (cM.out _).mono ?_; rintro e w' ⟨rfl, rfl⟩)))
      all_goals go_ret2
      all_goals first | (rw [HF.out.1, HF.out.2]; exact ⟨rfl, rfl⟩) | (exfalso; simp only [Bool.not_eq_false', Bool.not_eq_true', decide_eq_true_eq, decide_eq_false_iff_not] at *; omega)
    replace g1a : 128 ≤ x1 := by omega
    by_cases g1b : 192 ≤ x1
    · have HF : Hid ((R.1 : Int) = 1114112 + x0 ∧ (R.2 : Int) = 1) := Lib.hid (TF.out _ _ (by unfold nextN; rw [if_neg (by omega), if_neg (by omega), if_neg (by omega), if_pos (by omega), if_neg (by omega)]))
      clear i2 i3
      go_enter Tryd.func72, Tryd.ntmps72
      go_wp2_with (first | (go_at_call 96; refine (cL.out _).mono ?_; rintro e w' ⟨rfl, rfl⟩) | (go_at_call 97; refine (cM.out _).mono ?_; rintro e w' ⟨rfl, rfl⟩))
      go_rounds 2
      all_goals (try go_wp2_with (first | (go_at_call 96; refine (cL.out _).mono ?_; rintro e w' ⟨rfl, rfl⟩) | (go_at_call 97; refine (cM.out _).mono ?_; rintro e w' ⟨rfl, rfl⟩)))
      all_goals go_ret2
      all_goals first | (rw [HF.out.1, HF.out.2]; exact ⟨rfl, rfl⟩) | (exfalso; simp only [Bool.not_eq_false', Bool.not_eq_true', decide_eq_true_eq, decide_eq_false_iff_not] at *; omega)
    replace g1b : x1 < 192 := by omega
    replace i2 := i2 (by omega)
    by_cases g2a : x2 < 128
    · have HF : Hid ((R.1 : Int) = 1114112 + x0 ∧ (R.2 : Int) = 1) := Lib.hid (TF.out _ _ (by unfold nextN; rw [if_neg (by omega), if_neg (by omega), if_neg (by omega), if_pos (by omega), if_neg (by omega)]))
      clear i3
      go_enter Tryd.func72, Tryd.ntmps72
      go_wp2_with (first | (go_at_call 96; refine (cL.out _).mono ?_; rintro e w' ⟨rfl, rfl⟩) | (go_at_call 97; refine (cM.out _).mono ?_; rintro e w' ⟨rfl, rfl⟩))
      go_rounds 3
      all_goals (try go_wp2_with (first | (go_at_call 96; refine (cL.out _).mono ?_; rintro e w' ⟨rfl, rfl⟩) | (go_at_call 97; refine (cM.out _).mono ?_; rintro e w' ⟨rfl, rfl⟩)))
      all_goals go_ret2
      all_goals first | (rw [HF.out.1, HF.out.2]; exact ⟨rfl, rfl⟩) | (exfalso; simp only [Bool.not_eq_false', Bool.not_eq_true', decide_eq_true_eq, decide_eq_false_iff_not] at *; omega)
    replace g2a : 128 ≤ x2 := by omega
    by_cases g2b : 192 ≤ x2
    · have HF : Hid ((R.1 : Int) = 1114112 + x0 ∧ (R.2 : Int) = 1) := Lib.hid (TF.out _ _ (by unfold nextN; rw [if_neg (by omega), if_neg (by omega), if_neg (by omega), if_pos (by omega), if_neg (by omega)]))
      clear i3
      go_enter Tryd.func72, Tryd.ntmps72
      go_wp2_with (first | (go_at_call 96; refine (cL.out _).mono ?_; rintro e w' ⟨rfl, rfl⟩) | (go_at_call 97; refine (cM.out _).mono ?_; rintro e w' ⟨rfl, rfl⟩))
      go_rounds 3
      all_goals (try go_wp2_with (first | (go_at_call 96; refine (cL.out _).mono ?_; rintro e w' ⟨rfl, rfl⟩) | (go_at_call 97; refine (cM.out _).mono ?_; rintro e w' ⟨rfl, rfl⟩)))
      all_goals go_ret2
      all_goals first | (rw [HF.out.1, HF.out.2]; exact ⟨rfl, rfl⟩) | (exfalso; simp only [Bool.not_eq_false', Bool.not_eq_true', decide_eq_true_eq, decide_eq_false_iff_not] at *; omega)
    replace g2b : x2 < 192 := by omega
    replace i3 := i3 (by omega)
    by_cases g3a : x3 < 128
    · have HF : Hid ((R.1 : Int) = 1114112 + x0 ∧ (R.2 : Int) = 1) := Lib.hid (TF.out _ _ (by unfold nextN; rw [if_neg (by omega), if_neg (by omega), if_neg (by omega), if_pos (by omega), if_neg (by omega)]))
      go_enter Tryd.func72, Tryd.ntmps72
      go_wp2_with (first | (go_at_call 96; refine (cL.out _).mono ?_; rintro e w' ⟨rfl, rfl⟩) | (go_at_call 97; refine (cM.out _).mono ?_; rintro e w' ⟨rfl, rfl⟩))
      go_rounds 4
      all_goals (try go_wp2_with (first | (go_at_call 96; refine (cL.out _).mono ?_; rintro e w' ⟨rfl, rfl⟩) | (go_at_call 97; refine (cM.out _).mono ?_; rintro e w' ⟨rfl, rfl⟩)))
      all_goals go_ret2
      all_goals first | (rw [HF.out.1, HF.out.2]; exact ⟨rfl, rfl⟩) | (exfalso; simp only [Bool.not_eq_false', Bool.not_eq_true', decide_eq_true_eq, decide_eq_false_iff_not] at *; omega)
    replace g3a : 128 ≤ x3 := by omega
    by_cases g3b : 192 ≤ x3
    · have HF : Hid ((R.1 : Int) = 1114112 + x0 ∧ (R.2 : Int) = 1) := Lib.hid (TF.out _ _ (by unfold nextN; rw [if_neg (by omega), if_neg (by omega), if_neg (by omega), if_pos (by omega), if_neg (by omega)]))
      go_enter Tryd.func72, Tryd.ntmps72
      go_wp2_with (first | (go_at_call 96; refine (cL.out _).mono ?_; rintro e w' ⟨rfl, rfl⟩) | (go_at_call 97; refine (cM.out _).mono ?_; rintro e w' ⟨rfl, rfl⟩))
      go_rounds 4
      all_goals (try go_wp2_with (first | (go_at_call 96; refine (cL.out _).mono ?_; rintro e w' ⟨rfl, rfl⟩) | (go_at_call 97; refine (cM.out _).mono ?_; rintro e w' ⟨rfl, rfl⟩)))
      all_goals go_ret2
      all_goals first | (rw [HF.out.1, HF.out.2]; exact ⟨rfl, rfl⟩) | (exfalso; simp only [Bool.not_eq_false', Bool.not_eq_true', decide_eq_true_eq, decide_eq_false_iff_not] at *; omega)
    replace g3b : x3 < 192 := by omega
    by_cases gl : (((x0 - 240) * 64 + x1 - 128) * 64 + x2 - 128) * 64 + x3 - 128 < 65536
    · have HF : Hid ((R.1 : Int) = 1114112 + x0 ∧ (R.2 : Int) = 1) := Lib.hid (TF.out _ _ (by unfold nextN; rw [if_neg (by omega), if_neg (by omega), if_neg (by omega), if_pos (by omega), if_neg (by omega)]))
      go_enter Tryd.func72, Tryd.ntmps72
      go_wp2_with (first | (go_at_call 96; refine (cL.out _).mono ?_; rintro e w' ⟨rfl, rfl⟩) | (go_at_call 97; refine (cM.out _).mono ?_; rintro e w' ⟨rfl, rfl⟩))
      go_rounds 4
      all_goals (try go_wp2_with (first | (go_at_call 96; refine (cL.out _).mono ?_; rintro e w' ⟨rfl, rfl⟩) | (go_at_call 97; refine (cM.out _).mono ?_; rintro e w' ⟨rfl, rfl⟩)))
      all_goals go_ret2
      all_goals first | (rw [HF.out.1, HF.out.2]; exact ⟨rfl, rfl⟩) | (exfalso; simp only [Bool.not_eq_false', Bool.not_eq_true', decide_eq_true_eq, decide_eq_false_iff_not] at *; omega)
    replace gl : 65536 ≤ (((x0 - 240) * 64 + x1 - 128) * 64 + x2 - 128) * 64 + x3 - 128 := by omega
    have gm : 55296 ≤ (((x0 - 240) * 64 + x1 - 128) * 64 + x2 - 128) * 64 + x3 - 128 := by omega
    have gh : 57343 < (((x0 - 240) * 64 + x1 - 128) * 64 + x2 - 128) * 64 + x3 - 128 := by omega
    by_cases gt : (((x0 - 240) * 64 + x1 - 128) * 64 + x2 - 128) * 64 + x3 - 128 ≤ 1114111
    · have HF : Hid ((R.1 : Int) = (((x0 - 240) * 64 + x1 - 128) * 64 + x2 - 128) * 64 + x3 - 128 ∧ (R.2 : Int) = 4) := Lib.hid (TF.out _ _ (by unfold nextN; rw [if_neg (by omega), if_neg (by omega), if_neg (by omega), if_pos (by omega), if_pos ⟨by omega, ⟨g1a, g1b⟩, ⟨g2a, g2b⟩, ⟨g3a, g3b⟩, by omega, (charB_iff _).2 (by omega)⟩]))
      go_enter Tryd.func72, Tryd.ntmps72
      go_wp2_with (first | (go_at_call 96; refine (cL.out _).mono ?_; rintro e w' ⟨rfl, rfl⟩) | (go_at_call 97; refine (cM.out _).mono ?_; rintro e w' ⟨rfl, rfl⟩))
      go_rounds 4
      all_goals (try go_wp2_with (first | (go_at_call 96; refine (cL.out _).mono ?_; rintro e w' ⟨rfl, rfl⟩) | (go_at_call 97; refine (cM.out _).mono ?_; rintro e w' ⟨rfl, rfl⟩)))
      all_goals go_ret2
      all_goals first | (rw [HF.out.1, HF.out.2]; exact ⟨rfl, rfl⟩) | (exfalso; simp only [Bool.not_eq_false', Bool.not_eq_true', decide_eq_true_eq, decide_eq_false_iff_not] at *; omega)
    replace gt : 1114111 < (((x0 - 240) * 64 + x1 - 128) * 64 + x2 - 128) * 64 + x3 - 128 := by omega
    have HF : Hid ((R.1 : Int) = 1114112 + x0 ∧ (R.2 : Int) = 1) := Lib.hid (TF.out _ _ (by unfold nextN; rw [if_neg (by omega), if_neg (by omega), if_neg (by omega), if_pos (by omega), if_neg (by rw [charB_iff]; omega)]))
    go_enter Tryd.func72, Tryd.ntmps72
    go_wp2_with (first | (go_at_call 96; refine (cL.out _).mono ?_; rintro e w' ⟨rfl, rfl⟩) | (go_at_call 97; refine (cM.out _).mono ?_; rintro e w' ⟨rfl, rfl⟩))
    go_rounds 4
    all_goals (try go_wp2_with (first | (go_at_call 96; refine (cL.out _).mono ?_; rintro e w' ⟨rfl, rfl⟩) | (go_at_call 97; refine (cM.out _).mono ?_; rintro e w' ⟨rfl, rfl⟩)))
    all_goals go_ret2
    all_goals first | (rw [HF.out.1, HF.out.2]; exact ⟨rfl, rfl⟩) | (exfalso; simp only [Bool.not_eq_false', decide_eq_true_eq] at *; omega)
  · have HF : Hid ((R.1 : Int) = 1114112 + x0 ∧ (R.2 : Int) = 1) := Lib.hid (TF.out _ _ (by unfold nextN; rw [if_neg (by omega), if_neg (by omega), if_neg (by omega), if_pos (by omega), if_neg (by omega)]))
    have hs3 : (s.size : Int) < i + 4 := by omega
    clear i1 i2 i3 hs2
    go_enter Tryd.func72, Tryd.ntmps72
    go_wp2_with (first | (go_at_call 96; refine (cL.out _).mono ?_; rintro e w' ⟨rfl, rfl⟩) | (go_at_call 97; refine (cM.out _).mono ?_; rintro e w' ⟨rfl, rfl⟩))
    go_rounds 1
    all_goals (try go_wp2_with (first | (go_at_call 96; refine (cL.out _).mono ?_; rintro e w' ⟨rfl, rfl⟩) | (go_at_call 97; refine (cM.out _).mono ?_; rintro e w' ⟨rfl, rfl⟩)))
    all_goals go_ret2
    all_goals first | (rw [HF.out.1, HF.out.2]; exact ⟨rfl, rfl⟩) | (exfalso; simp only [Bool.not_eq_false', Bool.not_eq_true', decide_eq_true_eq, decide_eq_false_iff_not] at *; omega)

theorem refNext_in (s : ByteArray) (i : Nat) (w : World) (hi : i < s.size) (hs : s.size ≤ 4611686018427387904) :
    Calls Tryd.prog 72 #[.string s, .int .i64 i] w fun e w' => e = .returned (.tuple #[.int .i32 (ptU s i).1, .int .i64 (ptU s i).2]) ∧ w = w' := by
  have HR := nextN_at s i hi
  have hN : ((s.size - i : Nat) : Int) = (s.size : Int) - i := by omega
  rw [hN] at HR
  simp only [← bAt_B] at HR
  have TF : Hid (∀ a b : Int, nextN ((s.size : Int) - i) (bAt s i) (bAt s (i + 1)) (bAt s (i + 2)) (bAt s (i + 3)) = (a, b) → ((ptU s i).1 : Int) = a ∧ ((ptU s i).2 : Int) = b) := Lib.hid fun a b h => by
    rw [h] at HR
    injection HR with h1 h2
    exact ⟨h1.symm, h2.symm⟩
  have i0 := run_bAt s i hi
  have i1 : i + 1 < s.size → ∀ w, (Instr.index 9 (.string s) (.int .i64 ((i : Int) + 1))).run Tryd.prog w = .ok (.int .u8 (bAt s (i + 1))) w := fun h w => run_bAt' s i 1 h w
  have i2 : i + 2 < s.size → ∀ w, (Instr.index 9 (.string s) (.int .i64 ((i : Int) + 2))).run Tryd.prog w = .ok (.int .u8 (bAt s (i + 2))) w := fun h w => run_bAt' s i 2 h w
  have i3 : i + 3 < s.size → ∀ w, (Instr.index 9 (.string s) (.int .i64 ((i : Int) + 3))).run Tryd.prog w = .ok (.int .u8 (bAt s (i + 3))) w := fun h w => run_bAt' s i 3 h w
  have l0 := bAt_lo s i; have u0 := bAt_hi s i
  by_cases a : bAt s i < 128
  · exact refNext_1 s i w _ _ _ _ _ hi hs i0 l0 u0 a TF
  by_cases b2 : 192 ≤ bAt s i ∧ bAt s i < 224
  · exact refNext_2 s i w _ _ _ _ _ hi hs i0 i1 l0 u0 b2.1 b2.2 (bAt_lo _ _) (bAt_hi _ _) TF
  by_cases b3 : 224 ≤ bAt s i ∧ bAt s i < 240
  · exact refNext_3 s i w _ _ _ _ _ hi hs i0 i1 i2 l0 u0 b3.1 b3.2 (bAt_lo _ _) (bAt_hi _ _) (bAt_lo _ _) (bAt_hi _ _) TF
  by_cases b4 : 240 ≤ bAt s i ∧ bAt s i < 248
  · exact refNext_4 s i w _ _ _ _ _ hi hs i0 i1 i2 i3 l0 u0 b4.1 b4.2 (bAt_lo _ _) (bAt_hi _ _) (bAt_lo _ _) (bAt_hi _ _) (bAt_lo _ _) (bAt_hi _ _) TF
  · exact refNext_0 s i w _ _ _ _ _ hi hs i0 l0 u0 (by omega) b2 b3 b4 TF

theorem refNext_any (s : ByteArray) (a : Int) (w : World) (hs : s.size ≤ 4611686018427387904) :
    Calls Tryd.prog 72 #[.string s, .int .i64 a] w fun e w' => e = .returned (.tuple #[.int .i32 (ptP s a).1, .int .i64 (ptP s a).2]) ∧ w = w' := by
  by_cases hin : 0 ≤ a ∧ a < s.size
  · obtain ⟨i, rfl⟩ := Int.eq_ofNat_of_zero_le hin.1
    rw [ptP_in s i (by omega)]
    exact refNext_in s i w (by omega) hs
  · rw [ptP_out s a (by omega)]
    by_cases h0 : a < 0
    · go_enter Tryd.func72, Tryd.ntmps72
      go_wp2
      go_ret2
      exact ⟨rfl, rfl⟩
    · have h1 : (s.size : Int) ≤ a := by omega
      go_enter Tryd.func72, Tryd.ntmps72
      go_wp2
      go_ret2
      exact ⟨rfl, rfl⟩

/-- points.Next. -/
theorem ptsNext_any (s : ByteArray) (a : Int) (w : World) (hT : Lib.Utf8Tabs 5 6 w) (hs : s.size ≤ 4611686018427387904) :
    Calls Tryd.prog 58 #[.string s, .int .i64 a] w fun e w' => e = .returned (.tuple #[.int .i32 (ptP s a).1, .int .i64 (ptP s a).2]) ∧ Below w.heap.size w w' := by
  have C := utfDecode_any s a w hT hs
  by_cases hin : 0 ≤ a ∧ a < s.size
  · obtain ⟨i, rfl⟩ := Int.eq_ofNat_of_zero_le hin.1
    have hi : i < s.size := by omega
    rw [decP_in s i hi] at C
    rw [ptP_in s i hi]
    have i0 := run_bAt s i hi
    have l0 := bAt_lo s i; have u0 := bAt_hi s i
    have hw := ptU_wide s i hi
    rw [ptU_wide_eq] at hw
    by_cases hd : Utf8.decode s i = (65533, 1)
    · have e : ptU s i = (1114112 + B s i, 1) := by unfold ptU; rw [if_pos hd]
      have eb : (((1114112 + B s i : Nat)) : Int) = 1114112 + bAt s i := by rw [bAt_B]; omega
      rw [hd] at C
      rw [e, eb]
      have CC := Lib.hid C
      generalize bAt s i = x0 at *
      clear C hd e eb hw hin hT
      go_enter Tryd.func58, Tryd.ntmps58
      go_wp2_with fail
      refine CC.out.mono ?_
      rintro e w1 ⟨rfl, hb⟩
      go_wp2
      go_ret2
      exact ⟨rfl, hb⟩
    · have e : ptU s i = Utf8.decode s i := by unfold ptU; rw [if_neg hd]
      rw [e]
      generalize Utf8.decode s i = d at *
      obtain ⟨r, v⟩ := d
      simp only at C hw
      have CC := Lib.hid C
      have hv0 : ((v : Int) == 0) = false := by simp; omega
      by_cases h1 : v = 1
      · have hr : r ≠ 65533 := fun h => hd (by rw [h, h1])
        have hr0 : ((r : Int) == 65533) = false := by simp; omega
        subst h1
        clear C hd e hw hin hT hr hv0
        go_enter Tryd.func58, Tryd.ntmps58
        go_wp2_with fail
        refine CC.out.mono ?_
        rintro e w1 ⟨rfl, hb⟩
        go_wp2
        go_ret2
        exact ⟨rfl, hb⟩
      · have hv1 : ((v : Int) == 1) = false := by simp; omega
        clear C hd e hw hin hT h1
        go_enter Tryd.func58, Tryd.ntmps58
        go_wp2_with fail
        refine CC.out.mono ?_
        rintro e w1 ⟨rfl, hb⟩
        go_wp2
        go_ret2
        exact ⟨rfl, hb⟩
  · rw [decP_out s a (by omega)] at C
    rw [ptP_out s a (by omega)]
    have CC := Lib.hid C
    clear C hin hT
    go_enter Tryd.func58, Tryd.ntmps58
    go_wp2_with fail
    refine CC.out.mono ?_
    rintro e w1 ⟨rfl, hb⟩
    go_wp2
    go_ret2
    exact ⟨rfl, hb⟩
end Go.Proofs.YtpddpglccjbpfaaDoor
