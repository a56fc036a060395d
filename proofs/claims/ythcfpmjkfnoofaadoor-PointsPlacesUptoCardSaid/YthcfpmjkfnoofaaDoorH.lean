import Derived.Test.YthcfpmjkfnoofaaDoorG
import Derived.Deep.Draws
namespace Go.Proofs.YthcfpmjkfnoofaaDoor
open Go Go.RowKit Go.Lib

theorem below_drewN {B : Nat} {a w : World} (h : Below B a w) (n : Nat) : Below B a (w.drewN n) := ⟨h.os, h.tape, h.output, h.size, h.block⟩
/-- What the library's look at the beginning of a text comes to, by what the table says of the first byte. -/
def fullK (k lo hi : Nat) (n b1 b2 : Nat) : Bool :=
  if k ≤ n then true else if 1 < n ∧ (b1 < lo ∨ hi < b1) then true else if 2 < n ∧ (b2 < 128 ∨ 191 < b2) then true else false

theorem full_empty (s : ByteArray) (w : World) (h : s.size = 0) :
    Calls Tryd.prog 96 #[.string s] w fun e w' => e = .returned (.bool false) ∧ Below w.heap.size w w' := by
  have h1 : ((s.size : Int) == 0) = true := beq_iff_eq.2 (by omega)
  go_enter Tryd.func96, Tryd.ntmps96
  go_wp2
  go_ret
  exact ⟨rfl, Below.refl _ _⟩

theorem full_240 (s : ByteArray) (w : World) (h : 0 < s.size) (hs : s.size ≤ 4611686018427387904) (hc : w.cell? ⟨1, B s 0, none⟩ = some (.int .u8 240)) :
    Calls Tryd.prog 96 #[.string s] w fun e w' => e = .returned (.bool true) ∧ Below w.heap.size w w' := by
  have h1 : ((s.size : Int) == 0) = false := beq_eq_false_iff_ne.2 (by omega)
  have hi : ∀ w, (Instr.index 9 (.string s) (.int .i64 0)).run Tryd.prog w = .ok (.int .u8 (B s 0)) w := fun w => run_bAt s 0 h w
  have hB := B_lt s 0
  generalize B s 0 = b0 at *
  go_enter Tryd.func96, Tryd.ntmps96
  go_wp2
  go_ret
  exact ⟨rfl, Below.refl _ _⟩

theorem full_241 (s : ByteArray) (w : World) (h : 0 < s.size) (hs : s.size ≤ 4611686018427387904) (hc : w.cell? ⟨1, B s 0, none⟩ = some (.int .u8 241)) :
    Calls Tryd.prog 96 #[.string s] w fun e w' => e = .returned (.bool true) ∧ Below w.heap.size w w' := by
  have h1 : ((s.size : Int) == 0) = false := beq_eq_false_iff_ne.2 (by omega)
  have hi : ∀ w, (Instr.index 9 (.string s) (.int .i64 0)).run Tryd.prog w = .ok (.int .u8 (B s 0)) w := fun w => run_bAt s 0 h w
  have hB := B_lt s 0
  generalize B s 0 = b0 at *
  go_enter Tryd.func96, Tryd.ntmps96
  go_wp2
  go_ret
  exact ⟨rfl, Below.refl _ _⟩

set_option maxRecDepth 100000 in
theorem full_2 (s : ByteArray) (w : World) (h : 0 < s.size) (hs : s.size ≤ 4611686018427387904) (hc : w.cell? ⟨1, B s 0, none⟩ = some (.int .u8 2))
    (hlo : w.cell? ⟨2, 0, none⟩ = some (.int .u8 128)) (hhi : w.cell? ⟨2, 1, none⟩ = some (.int .u8 191)) :
    Calls Tryd.prog 96 #[.string s] w fun e w' => e = .returned (.bool (fullK 2 128 191 s.size (B s 1) (B s 2))) ∧ Below w.heap.size w w' := by
  have h1 : ((s.size : Int) == 0) = false := beq_eq_false_iff_ne.2 (by omega)
  have hi0 : ∀ w, (Instr.index 9 (.string s) (.int .i64 0)).run Tryd.prog w = .ok (.int .u8 (B s 0)) w := fun w => run_bAt s 0 h w
  have hB := B_lt s 0
  generalize B s 0 = b0 at *
  by_cases hk : 2 ≤ s.size
  · have H : Hid (fullK 2 128 191 s.size (B s 1) (B s 2) = true) := Lib.hid (by unfold fullK; rw [if_pos hk])
    go_enter Tryd.func96, Tryd.ntmps96
    go_wp2
    go_ret
    rw [H.out]; exact ⟨rfl, Below.refl _ _⟩
  by_cases hn1 : s.size = 1
  · have H : Hid (fullK 2 128 191 s.size (B s 1) (B s 2) = false) := Lib.hid (by unfold fullK; rw [if_neg hk, if_neg (by omega), if_neg (by omega)])
    generalize fullK 2 128 191 s.size (B s 1) (B s 2) = R at *
    go_enter Tryd.func96, Tryd.ntmps96
    go_wp2
    go_quiet (fail)
    go_wp2
    go_ret
    rw [H.out]; exact ⟨rfl, below_drewN ((Below.refl _ w).alloc (Nat.le_refl _) _) _⟩
  exfalso; omega

set_option maxRecDepth 100000 in
theorem full_19 (s : ByteArray) (w : World) (h : 0 < s.size) (hs : s.size ≤ 4611686018427387904) (hc : w.cell? ⟨1, B s 0, none⟩ = some (.int .u8 19))
    (hlo : w.cell? ⟨2, 2, none⟩ = some (.int .u8 160)) (hhi : w.cell? ⟨2, 3, none⟩ = some (.int .u8 191)) :
    Calls Tryd.prog 96 #[.string s] w fun e w' => e = .returned (.bool (fullK 3 160 191 s.size (B s 1) (B s 2))) ∧ Below w.heap.size w w' := by
  have h1 : ((s.size : Int) == 0) = false := beq_eq_false_iff_ne.2 (by omega)
  have hi0 : ∀ w, (Instr.index 9 (.string s) (.int .i64 0)).run Tryd.prog w = .ok (.int .u8 (B s 0)) w := fun w => run_bAt s 0 h w
  have hB := B_lt s 0
  generalize B s 0 = b0 at *
  by_cases hk : 3 ≤ s.size
  · have H : Hid (fullK 3 160 191 s.size (B s 1) (B s 2) = true) := Lib.hid (by unfold fullK; rw [if_pos hk])
    go_enter Tryd.func96, Tryd.ntmps96
    go_wp2
    go_ret
    rw [H.out]; exact ⟨rfl, Below.refl _ _⟩
  by_cases hn1 : s.size = 1
  · have H : Hid (fullK 3 160 191 s.size (B s 1) (B s 2) = false) := Lib.hid (by unfold fullK; rw [if_neg hk, if_neg (by omega), if_neg (by omega)])
    generalize fullK 3 160 191 s.size (B s 1) (B s 2) = R at *
    go_enter Tryd.func96, Tryd.ntmps96
    go_wp2
    go_quiet (fail)
    go_wp2
    go_ret
    rw [H.out]; exact ⟨rfl, below_drewN ((Below.refl _ w).alloc (Nat.le_refl _) _) _⟩
  by_cases hn2 : s.size = 2
  · have hi1 : ∀ w, (Instr.index 9 (.string s) (.int .i64 1)).run Tryd.prog w = .ok (.int .u8 (B s 1)) w := fun w => run_bAt s 1 (by omega) w
    by_cases ga : B s 1 < 160
    · have H : Hid (fullK 3 160 191 s.size (B s 1) (B s 2) = true) := Lib.hid (by unfold fullK; rw [if_neg hk, if_pos (by omega)])
      generalize fullK 3 160 191 s.size (B s 1) (B s 2) = R at *
      have g1 : decide ((B s 1 : Int) < 160) = true := by simp; omega
      go_enter Tryd.func96, Tryd.ntmps96
      go_wp2
      go_quiet (fail)
      go_wp2
      go_ret
      rw [H.out]; exact ⟨rfl, below_drewN ((Below.refl _ w).alloc (Nat.le_refl _) _) _⟩
    by_cases gb : 191 < B s 1
    · have H : Hid (fullK 3 160 191 s.size (B s 1) (B s 2) = true) := Lib.hid (by unfold fullK; rw [if_neg hk, if_pos (by omega)])
      generalize fullK 3 160 191 s.size (B s 1) (B s 2) = R at *
      have g1 : decide ((B s 1 : Int) < 160) = false := by simp; omega
      have g2 : decide ((191 : Int) < B s 1) = true := by simp; omega
      go_enter Tryd.func96, Tryd.ntmps96
      go_wp2
      go_quiet (fail)
      go_wp2
      go_ret
      rw [H.out]; exact ⟨rfl, below_drewN ((Below.refl _ w).alloc (Nat.le_refl _) _) _⟩
    have g1 : decide ((B s 1 : Int) < 160) = false := by simp; omega
    have g2 : decide ((191 : Int) < B s 1) = false := by simp; omega
    have H : Hid (fullK 3 160 191 s.size (B s 1) (B s 2) = false) := Lib.hid (by unfold fullK; rw [if_neg hk, if_neg (by omega), if_neg (by omega)])
    generalize fullK 3 160 191 s.size (B s 1) (B s 2) = R at *
    go_enter Tryd.func96, Tryd.ntmps96
    go_wp2
    go_quiet (fail)
    go_wp2
    go_ret
    rw [H.out]; exact ⟨rfl, below_drewN ((Below.refl _ w).alloc (Nat.le_refl _) _) _⟩
  exfalso; omega

set_option maxRecDepth 100000 in
theorem full_3 (s : ByteArray) (w : World) (h : 0 < s.size) (hs : s.size ≤ 4611686018427387904) (hc : w.cell? ⟨1, B s 0, none⟩ = some (.int .u8 3))
    (hlo : w.cell? ⟨2, 0, none⟩ = some (.int .u8 128)) (hhi : w.cell? ⟨2, 1, none⟩ = some (.int .u8 191)) :
    Calls Tryd.prog 96 #[.string s] w fun e w' => e = .returned (.bool (fullK 3 128 191 s.size (B s 1) (B s 2))) ∧ Below w.heap.size w w' := by
  have h1 : ((s.size : Int) == 0) = false := beq_eq_false_iff_ne.2 (by omega)
  have hi0 : ∀ w, (Instr.index 9 (.string s) (.int .i64 0)).run Tryd.prog w = .ok (.int .u8 (B s 0)) w := fun w => run_bAt s 0 h w
  have hB := B_lt s 0
  generalize B s 0 = b0 at *
  by_cases hk : 3 ≤ s.size
  · have H : Hid (fullK 3 128 191 s.size (B s 1) (B s 2) = true) := Lib.hid (by unfold fullK; rw [if_pos hk])
    go_enter Tryd.func96, Tryd.ntmps96
    go_wp2
    go_ret
    rw [H.out]; exact ⟨rfl, Below.refl _ _⟩
  by_cases hn1 : s.size = 1
  · have H : Hid (fullK 3 128 191 s.size (B s 1) (B s 2) = false) := Lib.hid (by unfold fullK; rw [if_neg hk, if_neg (by omega), if_neg (by omega)])
    generalize fullK 3 128 191 s.size (B s 1) (B s 2) = R at *
    go_enter Tryd.func96, Tryd.ntmps96
    go_wp2
    go_quiet (fail)
    go_wp2
    go_ret
    rw [H.out]; exact ⟨rfl, below_drewN ((Below.refl _ w).alloc (Nat.le_refl _) _) _⟩
  by_cases hn2 : s.size = 2
  · have hi1 : ∀ w, (Instr.index 9 (.string s) (.int .i64 1)).run Tryd.prog w = .ok (.int .u8 (B s 1)) w := fun w => run_bAt s 1 (by omega) w
    by_cases ga : B s 1 < 128
    · have H : Hid (fullK 3 128 191 s.size (B s 1) (B s 2) = true) := Lib.hid (by unfold fullK; rw [if_neg hk, if_pos (by omega)])
      generalize fullK 3 128 191 s.size (B s 1) (B s 2) = R at *
      have g1 : decide ((B s 1 : Int) < 128) = true := by simp; omega
      go_enter Tryd.func96, Tryd.ntmps96
      go_wp2
      go_quiet (fail)
      go_wp2
      go_ret
      rw [H.out]; exact ⟨rfl, below_drewN ((Below.refl _ w).alloc (Nat.le_refl _) _) _⟩
    by_cases gb : 191 < B s 1
    · have H : Hid (fullK 3 128 191 s.size (B s 1) (B s 2) = true) := Lib.hid (by unfold fullK; rw [if_neg hk, if_pos (by omega)])
      generalize fullK 3 128 191 s.size (B s 1) (B s 2) = R at *
      have g1 : decide ((B s 1 : Int) < 128) = false := by simp; omega
      have g2 : decide ((191 : Int) < B s 1) = true := by simp; omega
      go_enter Tryd.func96, Tryd.ntmps96
      go_wp2
      go_quiet (fail)
      go_wp2
      go_ret
      rw [H.out]; exact ⟨rfl, below_drewN ((Below.refl _ w).alloc (Nat.le_refl _) _) _⟩
    have g1 : decide ((B s 1 : Int) < 128) = false := by simp; omega
    have g2 : decide ((191 : Int) < B s 1) = false := by simp; omega
    have H : Hid (fullK 3 128 191 s.size (B s 1) (B s 2) = false) := Lib.hid (by unfold fullK; rw [if_neg hk, if_neg (by omega), if_neg (by omega)])
    generalize fullK 3 128 191 s.size (B s 1) (B s 2) = R at *
    go_enter Tryd.func96, Tryd.ntmps96
    go_wp2
    go_quiet (fail)
    go_wp2
    go_ret
    rw [H.out]; exact ⟨rfl, below_drewN ((Below.refl _ w).alloc (Nat.le_refl _) _) _⟩
  exfalso; omega

set_option maxRecDepth 100000 in
theorem full_35 (s : ByteArray) (w : World) (h : 0 < s.size) (hs : s.size ≤ 4611686018427387904) (hc : w.cell? ⟨1, B s 0, none⟩ = some (.int .u8 35))
    (hlo : w.cell? ⟨2, 4, none⟩ = some (.int .u8 128)) (hhi : w.cell? ⟨2, 5, none⟩ = some (.int .u8 159)) :
    Calls Tryd.prog 96 #[.string s] w fun e w' => e = .returned (.bool (fullK 3 128 159 s.size (B s 1) (B s 2))) ∧ Below w.heap.size w w' := by
  have h1 : ((s.size : Int) == 0) = false := beq_eq_false_iff_ne.2 (by omega)
  have hi0 : ∀ w, (Instr.index 9 (.string s) (.int .i64 0)).run Tryd.prog w = .ok (.int .u8 (B s 0)) w := fun w => run_bAt s 0 h w
  have hB := B_lt s 0
  generalize B s 0 = b0 at *
  by_cases hk : 3 ≤ s.size
  · have H : Hid (fullK 3 128 159 s.size (B s 1) (B s 2) = true) := Lib.hid (by unfold fullK; rw [if_pos hk])
    go_enter Tryd.func96, Tryd.ntmps96
    go_wp2
    go_ret
    rw [H.out]; exact ⟨rfl, Below.refl _ _⟩
  by_cases hn1 : s.size = 1
  · have H : Hid (fullK 3 128 159 s.size (B s 1) (B s 2) = false) := Lib.hid (by unfold fullK; rw [if_neg hk, if_neg (by omega), if_neg (by omega)])
    generalize fullK 3 128 159 s.size (B s 1) (B s 2) = R at *
    go_enter Tryd.func96, Tryd.ntmps96
    go_wp2
    go_quiet (fail)
    go_wp2
    go_ret
    rw [H.out]; exact ⟨rfl, below_drewN ((Below.refl _ w).alloc (Nat.le_refl _) _) _⟩
  by_cases hn2 : s.size = 2
  · have hi1 : ∀ w, (Instr.index 9 (.string s) (.int .i64 1)).run Tryd.prog w = .ok (.int .u8 (B s 1)) w := fun w => run_bAt s 1 (by omega) w
    by_cases ga : B s 1 < 128
    · have H : Hid (fullK 3 128 159 s.size (B s 1) (B s 2) = true) := Lib.hid (by unfold fullK; rw [if_neg hk, if_pos (by omega)])
      generalize fullK 3 128 159 s.size (B s 1) (B s 2) = R at *
      have g1 : decide ((B s 1 : Int) < 128) = true := by simp; omega
      go_enter Tryd.func96, Tryd.ntmps96
      go_wp2
      go_quiet (fail)
      go_wp2
      go_ret
      rw [H.out]; exact ⟨rfl, below_drewN ((Below.refl _ w).alloc (Nat.le_refl _) _) _⟩
    by_cases gb : 159 < B s 1
    · have H : Hid (fullK 3 128 159 s.size (B s 1) (B s 2) = true) := Lib.hid (by unfold fullK; rw [if_neg hk, if_pos (by omega)])
      generalize fullK 3 128 159 s.size (B s 1) (B s 2) = R at *
      have g1 : decide ((B s 1 : Int) < 128) = false := by simp; omega
      have g2 : decide ((159 : Int) < B s 1) = true := by simp; omega
      go_enter Tryd.func96, Tryd.ntmps96
      go_wp2
      go_quiet (fail)
      go_wp2
      go_ret
      rw [H.out]; exact ⟨rfl, below_drewN ((Below.refl _ w).alloc (Nat.le_refl _) _) _⟩
    have g1 : decide ((B s 1 : Int) < 128) = false := by simp; omega
    have g2 : decide ((159 : Int) < B s 1) = false := by simp; omega
    have H : Hid (fullK 3 128 159 s.size (B s 1) (B s 2) = false) := Lib.hid (by unfold fullK; rw [if_neg hk, if_neg (by omega), if_neg (by omega)])
    generalize fullK 3 128 159 s.size (B s 1) (B s 2) = R at *
    go_enter Tryd.func96, Tryd.ntmps96
    go_wp2
    go_quiet (fail)
    go_wp2
    go_ret
    rw [H.out]; exact ⟨rfl, below_drewN ((Below.refl _ w).alloc (Nat.le_refl _) _) _⟩
  exfalso; omega

set_option maxRecDepth 100000 in
theorem full_52 (s : ByteArray) (w : World) (h : 0 < s.size) (hs : s.size ≤ 4611686018427387904) (hc : w.cell? ⟨1, B s 0, none⟩ = some (.int .u8 52))
    (hlo : w.cell? ⟨2, 6, none⟩ = some (.int .u8 144)) (hhi : w.cell? ⟨2, 7, none⟩ = some (.int .u8 191)) :
    Calls Tryd.prog 96 #[.string s] w fun e w' => e = .returned (.bool (fullK 4 144 191 s.size (B s 1) (B s 2))) ∧ Below w.heap.size w w' := by
  have h1 : ((s.size : Int) == 0) = false := beq_eq_false_iff_ne.2 (by omega)
  have hi0 : ∀ w, (Instr.index 9 (.string s) (.int .i64 0)).run Tryd.prog w = .ok (.int .u8 (B s 0)) w := fun w => run_bAt s 0 h w
  have hB := B_lt s 0
  generalize B s 0 = b0 at *
  by_cases hk : 4 ≤ s.size
  · have H : Hid (fullK 4 144 191 s.size (B s 1) (B s 2) = true) := Lib.hid (by unfold fullK; rw [if_pos hk])
    go_enter Tryd.func96, Tryd.ntmps96
    go_wp2
    go_ret
    rw [H.out]; exact ⟨rfl, Below.refl _ _⟩
  by_cases hn1 : s.size = 1
  · have H : Hid (fullK 4 144 191 s.size (B s 1) (B s 2) = false) := Lib.hid (by unfold fullK; rw [if_neg hk, if_neg (by omega), if_neg (by omega)])
    generalize fullK 4 144 191 s.size (B s 1) (B s 2) = R at *
    go_enter Tryd.func96, Tryd.ntmps96
    go_wp2
    go_quiet (fail)
    go_wp2
    go_ret
    rw [H.out]; exact ⟨rfl, below_drewN ((Below.refl _ w).alloc (Nat.le_refl _) _) _⟩
  by_cases hn2 : s.size = 2
  · have hi1 : ∀ w, (Instr.index 9 (.string s) (.int .i64 1)).run Tryd.prog w = .ok (.int .u8 (B s 1)) w := fun w => run_bAt s 1 (by omega) w
    by_cases ga : B s 1 < 144
    · have H : Hid (fullK 4 144 191 s.size (B s 1) (B s 2) = true) := Lib.hid (by unfold fullK; rw [if_neg hk, if_pos (by omega)])
      generalize fullK 4 144 191 s.size (B s 1) (B s 2) = R at *
      have g1 : decide ((B s 1 : Int) < 144) = true := by simp; omega
      go_enter Tryd.func96, Tryd.ntmps96
      go_wp2
      go_quiet (fail)
      go_wp2
      go_ret
      rw [H.out]; exact ⟨rfl, below_drewN ((Below.refl _ w).alloc (Nat.le_refl _) _) _⟩
    by_cases gb : 191 < B s 1
    · have H : Hid (fullK 4 144 191 s.size (B s 1) (B s 2) = true) := Lib.hid (by unfold fullK; rw [if_neg hk, if_pos (by omega)])
      generalize fullK 4 144 191 s.size (B s 1) (B s 2) = R at *
      have g1 : decide ((B s 1 : Int) < 144) = false := by simp; omega
      have g2 : decide ((191 : Int) < B s 1) = true := by simp; omega
      go_enter Tryd.func96, Tryd.ntmps96
      go_wp2
      go_quiet (fail)
      go_wp2
      go_ret
      rw [H.out]; exact ⟨rfl, below_drewN ((Below.refl _ w).alloc (Nat.le_refl _) _) _⟩
    have g1 : decide ((B s 1 : Int) < 144) = false := by simp; omega
    have g2 : decide ((191 : Int) < B s 1) = false := by simp; omega
    have H : Hid (fullK 4 144 191 s.size (B s 1) (B s 2) = false) := Lib.hid (by unfold fullK; rw [if_neg hk, if_neg (by omega), if_neg (by omega)])
    generalize fullK 4 144 191 s.size (B s 1) (B s 2) = R at *
    go_enter Tryd.func96, Tryd.ntmps96
    go_wp2
    go_quiet (fail)
    go_wp2
    go_ret
    rw [H.out]; exact ⟨rfl, below_drewN ((Below.refl _ w).alloc (Nat.le_refl _) _) _⟩
  by_cases hn3 : s.size = 3
  · have hi1 : ∀ w, (Instr.index 9 (.string s) (.int .i64 1)).run Tryd.prog w = .ok (.int .u8 (B s 1)) w := fun w => run_bAt s 1 (by omega) w
    by_cases ga : B s 1 < 144
    · have H : Hid (fullK 4 144 191 s.size (B s 1) (B s 2) = true) := Lib.hid (by unfold fullK; rw [if_neg hk, if_pos (by omega)])
      generalize fullK 4 144 191 s.size (B s 1) (B s 2) = R at *
      have g1 : decide ((B s 1 : Int) < 144) = true := by simp; omega
      go_enter Tryd.func96, Tryd.ntmps96
      go_wp2
      go_quiet (fail)
      go_wp2
      go_ret
      rw [H.out]; exact ⟨rfl, below_drewN ((Below.refl _ w).alloc (Nat.le_refl _) _) _⟩
    by_cases gb : 191 < B s 1
    · have H : Hid (fullK 4 144 191 s.size (B s 1) (B s 2) = true) := Lib.hid (by unfold fullK; rw [if_neg hk, if_pos (by omega)])
      generalize fullK 4 144 191 s.size (B s 1) (B s 2) = R at *
      have g1 : decide ((B s 1 : Int) < 144) = false := by simp; omega
      have g2 : decide ((191 : Int) < B s 1) = true := by simp; omega
      go_enter Tryd.func96, Tryd.ntmps96
      go_wp2
      go_quiet (fail)
      go_wp2
      go_ret
      rw [H.out]; exact ⟨rfl, below_drewN ((Below.refl _ w).alloc (Nat.le_refl _) _) _⟩
    have g1 : decide ((B s 1 : Int) < 144) = false := by simp; omega
    have g2 : decide ((191 : Int) < B s 1) = false := by simp; omega
    by_cases gc0 : B s 2 < 128
    · have hi2 : ∀ w, (Instr.index 9 (.string s) (.int .i64 2)).run Tryd.prog w = .ok (.int .u8 (B s 2)) w := fun w => run_bAt s 2 (by omega) w
      have H : Hid (fullK 4 144 191 s.size (B s 1) (B s 2) = true) := Lib.hid (by unfold fullK; rw [if_neg hk, if_neg (by omega), if_pos (by omega)])
      generalize fullK 4 144 191 s.size (B s 1) (B s 2) = R at *
      have g3 : decide ((B s 2 : Int) < 128) = true := by simp; omega
      go_enter Tryd.func96, Tryd.ntmps96
      go_wp2
      go_quiet (fail)
      go_wp2
      go_ret
      rw [H.out]; exact ⟨rfl, below_drewN ((Below.refl _ w).alloc (Nat.le_refl _) _) _⟩
    by_cases gc1 : 191 < B s 2
    · have hi2 : ∀ w, (Instr.index 9 (.string s) (.int .i64 2)).run Tryd.prog w = .ok (.int .u8 (B s 2)) w := fun w => run_bAt s 2 (by omega) w
      have H : Hid (fullK 4 144 191 s.size (B s 1) (B s 2) = true) := Lib.hid (by unfold fullK; rw [if_neg hk, if_neg (by omega), if_pos (by omega)])
      generalize fullK 4 144 191 s.size (B s 1) (B s 2) = R at *
      have g3 : decide ((B s 2 : Int) < 128) = false := by simp; omega
      have g4 : decide ((191 : Int) < B s 2) = true := by simp; omega
      go_enter Tryd.func96, Tryd.ntmps96
      go_wp2
      go_quiet (fail)
      go_wp2
      go_ret
      rw [H.out]; exact ⟨rfl, below_drewN ((Below.refl _ w).alloc (Nat.le_refl _) _) _⟩
    · have hi2 : ∀ w, (Instr.index 9 (.string s) (.int .i64 2)).run Tryd.prog w = .ok (.int .u8 (B s 2)) w := fun w => run_bAt s 2 (by omega) w
      have H : Hid (fullK 4 144 191 s.size (B s 1) (B s 2) = false) := Lib.hid (by unfold fullK; rw [if_neg hk, if_neg (by omega), if_neg (by omega)])
      generalize fullK 4 144 191 s.size (B s 1) (B s 2) = R at *
      have g3 : decide ((B s 2 : Int) < 128) = false := by simp; omega
      have g4 : decide ((191 : Int) < B s 2) = false := by simp; omega
      go_enter Tryd.func96, Tryd.ntmps96
      go_wp2
      go_quiet (fail)
      go_wp2
      go_ret
      rw [H.out]; exact ⟨rfl, below_drewN ((Below.refl _ w).alloc (Nat.le_refl _) _) _⟩
  exfalso; omega

set_option maxRecDepth 100000 in
theorem full_4 (s : ByteArray) (w : World) (h : 0 < s.size) (hs : s.size ≤ 4611686018427387904) (hc : w.cell? ⟨1, B s 0, none⟩ = some (.int .u8 4))
    (hlo : w.cell? ⟨2, 0, none⟩ = some (.int .u8 128)) (hhi : w.cell? ⟨2, 1, none⟩ = some (.int .u8 191)) :
    Calls Tryd.prog 96 #[.string s] w fun e w' => e = .returned (.bool (fullK 4 128 191 s.size (B s 1) (B s 2))) ∧ Below w.heap.size w w' := by
  have h1 : ((s.size : Int) == 0) = false := beq_eq_false_iff_ne.2 (by omega)
  have hi0 : ∀ w, (Instr.index 9 (.string s) (.int .i64 0)).run Tryd.prog w = .ok (.int .u8 (B s 0)) w := fun w => run_bAt s 0 h w
  have hB := B_lt s 0
  generalize B s 0 = b0 at *
  by_cases hk : 4 ≤ s.size
  · have H : Hid (fullK 4 128 191 s.size (B s 1) (B s 2) = true) := Lib.hid (by unfold fullK; rw [if_pos hk])
    go_enter Tryd.func96, Tryd.ntmps96
    go_wp2
    go_ret
    rw [H.out]; exact ⟨rfl, Below.refl _ _⟩
  by_cases hn1 : s.size = 1
  · have H : Hid (fullK 4 128 191 s.size (B s 1) (B s 2) = false) := Lib.hid (by unfold fullK; rw [if_neg hk, if_neg (by omega), if_neg (by omega)])
    generalize fullK 4 128 191 s.size (B s 1) (B s 2) = R at *
    go_enter Tryd.func96, Tryd.ntmps96
    go_wp2
    go_quiet (fail)
    go_wp2
    go_ret
    rw [H.out]; exact ⟨rfl, below_drewN ((Below.refl _ w).alloc (Nat.le_refl _) _) _⟩
  by_cases hn2 : s.size = 2
  · have hi1 : ∀ w, (Instr.index 9 (.string s) (.int .i64 1)).run Tryd.prog w = .ok (.int .u8 (B s 1)) w := fun w => run_bAt s 1 (by omega) w
    by_cases ga : B s 1 < 128
    · have H : Hid (fullK 4 128 191 s.size (B s 1) (B s 2) = true) := Lib.hid (by unfold fullK; rw [if_neg hk, if_pos (by omega)])
      generalize fullK 4 128 191 s.size (B s 1) (B s 2) = R at *
      have g1 : decide ((B s 1 : Int) < 128) = true := by simp; omega
      go_enter Tryd.func96, Tryd.ntmps96
      go_wp2
      go_quiet (fail)
      go_wp2
      go_ret
      rw [H.out]; exact ⟨rfl, below_drewN ((Below.refl _ w).alloc (Nat.le_refl _) _) _⟩
    by_cases gb : 191 < B s 1
    · have H : Hid (fullK 4 128 191 s.size (B s 1) (B s 2) = true) := Lib.hid (by unfold fullK; rw [if_neg hk, if_pos (by omega)])
      generalize fullK 4 128 191 s.size (B s 1) (B s 2) = R at *
      have g1 : decide ((B s 1 : Int) < 128) = false := by simp; omega
      have g2 : decide ((191 : Int) < B s 1) = true := by simp; omega
      go_enter Tryd.func96, Tryd.ntmps96
      go_wp2
      go_quiet (fail)
      go_wp2
      go_ret
      rw [H.out]; exact ⟨rfl, below_drewN ((Below.refl _ w).alloc (Nat.le_refl _) _) _⟩
    have g1 : decide ((B s 1 : Int) < 128) = false := by simp; omega
    have g2 : decide ((191 : Int) < B s 1) = false := by simp; omega
    have H : Hid (fullK 4 128 191 s.size (B s 1) (B s 2) = false) := Lib.hid (by unfold fullK; rw [if_neg hk, if_neg (by omega), if_neg (by omega)])
    generalize fullK 4 128 191 s.size (B s 1) (B s 2) = R at *
    go_enter Tryd.func96, Tryd.ntmps96
    go_wp2
    go_quiet (fail)
    go_wp2
    go_ret
    rw [H.out]; exact ⟨rfl, below_drewN ((Below.refl _ w).alloc (Nat.le_refl _) _) _⟩
  by_cases hn3 : s.size = 3
  · have hi1 : ∀ w, (Instr.index 9 (.string s) (.int .i64 1)).run Tryd.prog w = .ok (.int .u8 (B s 1)) w := fun w => run_bAt s 1 (by omega) w
    by_cases ga : B s 1 < 128
    · have H : Hid (fullK 4 128 191 s.size (B s 1) (B s 2) = true) := Lib.hid (by unfold fullK; rw [if_neg hk, if_pos (by omega)])
      generalize fullK 4 128 191 s.size (B s 1) (B s 2) = R at *
      have g1 : decide ((B s 1 : Int) < 128) = true := by simp; omega
      go_enter Tryd.func96, Tryd.ntmps96
      go_wp2
      go_quiet (fail)
      go_wp2
      go_ret
      rw [H.out]; exact ⟨rfl, below_drewN ((Below.refl _ w).alloc (Nat.le_refl _) _) _⟩
    by_cases gb : 191 < B s 1
    · have H : Hid (fullK 4 128 191 s.size (B s 1) (B s 2) = true) := Lib.hid (by unfold fullK; rw [if_neg hk, if_pos (by omega)])
      generalize fullK 4 128 191 s.size (B s 1) (B s 2) = R at *
      have g1 : decide ((B s 1 : Int) < 128) = false := by simp; omega
      have g2 : decide ((191 : Int) < B s 1) = true := by simp; omega
      go_enter Tryd.func96, Tryd.ntmps96
      go_wp2
      go_quiet (fail)
      go_wp2
      go_ret
      rw [H.out]; exact ⟨rfl, below_drewN ((Below.refl _ w).alloc (Nat.le_refl _) _) _⟩
    have g1 : decide ((B s 1 : Int) < 128) = false := by simp; omega
    have g2 : decide ((191 : Int) < B s 1) = false := by simp; omega
    by_cases gc0 : B s 2 < 128
    · have hi2 : ∀ w, (Instr.index 9 (.string s) (.int .i64 2)).run Tryd.prog w = .ok (.int .u8 (B s 2)) w := fun w => run_bAt s 2 (by omega) w
      have H : Hid (fullK 4 128 191 s.size (B s 1) (B s 2) = true) := Lib.hid (by unfold fullK; rw [if_neg hk, if_neg (by omega), if_pos (by omega)])
      generalize fullK 4 128 191 s.size (B s 1) (B s 2) = R at *
      have g3 : decide ((B s 2 : Int) < 128) = true := by simp; omega
      go_enter Tryd.func96, Tryd.ntmps96
      go_wp2
      go_quiet (fail)
      go_wp2
      go_ret
      rw [H.out]; exact ⟨rfl, below_drewN ((Below.refl _ w).alloc (Nat.le_refl _) _) _⟩
    by_cases gc1 : 191 < B s 2
    · have hi2 : ∀ w, (Instr.index 9 (.string s) (.int .i64 2)).run Tryd.prog w = .ok (.int .u8 (B s 2)) w := fun w => run_bAt s 2 (by omega) w
      have H : Hid (fullK 4 128 191 s.size (B s 1) (B s 2) = true) := Lib.hid (by unfold fullK; rw [if_neg hk, if_neg (by omega), if_pos (by omega)])
      generalize fullK 4 128 191 s.size (B s 1) (B s 2) = R at *
      have g3 : decide ((B s 2 : Int) < 128) = false := by simp; omega
      have g4 : decide ((191 : Int) < B s 2) = true := by simp; omega
      go_enter Tryd.func96, Tryd.ntmps96
      go_wp2
      go_quiet (fail)
      go_wp2
      go_ret
      rw [H.out]; exact ⟨rfl, below_drewN ((Below.refl _ w).alloc (Nat.le_refl _) _) _⟩
    · have hi2 : ∀ w, (Instr.index 9 (.string s) (.int .i64 2)).run Tryd.prog w = .ok (.int .u8 (B s 2)) w := fun w => run_bAt s 2 (by omega) w
      have H : Hid (fullK 4 128 191 s.size (B s 1) (B s 2) = false) := Lib.hid (by unfold fullK; rw [if_neg hk, if_neg (by omega), if_neg (by omega)])
      generalize fullK 4 128 191 s.size (B s 1) (B s 2) = R at *
      have g3 : decide ((B s 2 : Int) < 128) = false := by simp; omega
      have g4 : decide ((191 : Int) < B s 2) = false := by simp; omega
      go_enter Tryd.func96, Tryd.ntmps96
      go_wp2
      go_quiet (fail)
      go_wp2
      go_ret
      rw [H.out]; exact ⟨rfl, below_drewN ((Below.refl _ w).alloc (Nat.le_refl _) _) _⟩
  exfalso; omega

set_option maxRecDepth 100000 in
theorem full_68 (s : ByteArray) (w : World) (h : 0 < s.size) (hs : s.size ≤ 4611686018427387904) (hc : w.cell? ⟨1, B s 0, none⟩ = some (.int .u8 68))
    (hlo : w.cell? ⟨2, 8, none⟩ = some (.int .u8 128)) (hhi : w.cell? ⟨2, 9, none⟩ = some (.int .u8 143)) :
    Calls Tryd.prog 96 #[.string s] w fun e w' => e = .returned (.bool (fullK 4 128 143 s.size (B s 1) (B s 2))) ∧ Below w.heap.size w w' := by
  have h1 : ((s.size : Int) == 0) = false := beq_eq_false_iff_ne.2 (by omega)
  have hi0 : ∀ w, (Instr.index 9 (.string s) (.int .i64 0)).run Tryd.prog w = .ok (.int .u8 (B s 0)) w := fun w => run_bAt s 0 h w
  have hB := B_lt s 0
  generalize B s 0 = b0 at *
  by_cases hk : 4 ≤ s.size
  · have H : Hid (fullK 4 128 143 s.size (B s 1) (B s 2) = true) := Lib.hid (by unfold fullK; rw [if_pos hk])
    go_enter Tryd.func96, Tryd.ntmps96
    go_wp2
    go_ret
    rw [H.out]; exact ⟨rfl, Below.refl _ _⟩
  by_cases hn1 : s.size = 1
  · have H : Hid (fullK 4 128 143 s.size (B s 1) (B s 2) = false) := Lib.hid (by unfold fullK; rw [if_neg hk, if_neg (by omega), if_neg (by omega)])
    generalize fullK 4 128 143 s.size (B s 1) (B s 2) = R at *
    go_enter Tryd.func96, Tryd.ntmps96
    go_wp2
    go_quiet (fail)
    go_wp2
    go_ret
    rw [H.out]; exact ⟨rfl, below_drewN ((Below.refl _ w).alloc (Nat.le_refl _) _) _⟩
  by_cases hn2 : s.size = 2
  · have hi1 : ∀ w, (Instr.index 9 (.string s) (.int .i64 1)).run Tryd.prog w = .ok (.int .u8 (B s 1)) w := fun w => run_bAt s 1 (by omega) w
    by_cases ga : B s 1 < 128
    · have H : Hid (fullK 4 128 143 s.size (B s 1) (B s 2) = true) := Lib.hid (by unfold fullK; rw [if_neg hk, if_pos (by omega)])
      generalize fullK 4 128 143 s.size (B s 1) (B s 2) = R at *
      have g1 : decide ((B s 1 : Int) < 128) = true := by simp; omega
      go_enter Tryd.func96, Tryd.ntmps96
      go_wp2
      go_quiet (fail)
      go_wp2
      go_ret
      rw [H.out]; exact ⟨rfl, below_drewN ((Below.refl _ w).alloc (Nat.le_refl _) _) _⟩
    by_cases gb : 143 < B s 1
    · have H : Hid (fullK 4 128 143 s.size (B s 1) (B s 2) = true) := Lib.hid (by unfold fullK; rw [if_neg hk, if_pos (by omega)])
      generalize fullK 4 128 143 s.size (B s 1) (B s 2) = R at *
      have g1 : decide ((B s 1 : Int) < 128) = false := by simp; omega
      have g2 : decide ((143 : Int) < B s 1) = true := by simp; omega
      go_enter Tryd.func96, Tryd.ntmps96
      go_wp2
      go_quiet (fail)
      go_wp2
      go_ret
      rw [H.out]; exact ⟨rfl, below_drewN ((Below.refl _ w).alloc (Nat.le_refl _) _) _⟩
    have g1 : decide ((B s 1 : Int) < 128) = false := by simp; omega
    have g2 : decide ((143 : Int) < B s 1) = false := by simp; omega
    have H : Hid (fullK 4 128 143 s.size (B s 1) (B s 2) = false) := Lib.hid (by unfold fullK; rw [if_neg hk, if_neg (by omega), if_neg (by omega)])
    generalize fullK 4 128 143 s.size (B s 1) (B s 2) = R at *
    go_enter Tryd.func96, Tryd.ntmps96
    go_wp2
    go_quiet (fail)
    go_wp2
    go_ret
    rw [H.out]; exact ⟨rfl, below_drewN ((Below.refl _ w).alloc (Nat.le_refl _) _) _⟩
  by_cases hn3 : s.size = 3
  · have hi1 : ∀ w, (Instr.index 9 (.string s) (.int .i64 1)).run Tryd.prog w = .ok (.int .u8 (B s 1)) w := fun w => run_bAt s 1 (by omega) w
    by_cases ga : B s 1 < 128
    · have H : Hid (fullK 4 128 143 s.size (B s 1) (B s 2) = true) := Lib.hid (by unfold fullK; rw [if_neg hk, if_pos (by omega)])
      generalize fullK 4 128 143 s.size (B s 1) (B s 2) = R at *
      have g1 : decide ((B s 1 : Int) < 128) = true := by simp; omega
      go_enter Tryd.func96, Tryd.ntmps96
      go_wp2
      go_quiet (fail)
      go_wp2
      go_ret
      rw [H.out]; exact ⟨rfl, below_drewN ((Below.refl _ w).alloc (Nat.le_refl _) _) _⟩
    by_cases gb : 143 < B s 1
    · have H : Hid (fullK 4 128 143 s.size (B s 1) (B s 2) = true) := Lib.hid (by unfold fullK; rw [if_neg hk, if_pos (by omega)])
      generalize fullK 4 128 143 s.size (B s 1) (B s 2) = R at *
      have g1 : decide ((B s 1 : Int) < 128) = false := by simp; omega
      have g2 : decide ((143 : Int) < B s 1) = true := by simp; omega
      go_enter Tryd.func96, Tryd.ntmps96
      go_wp2
      go_quiet (fail)
      go_wp2
      go_ret
      rw [H.out]; exact ⟨rfl, below_drewN ((Below.refl _ w).alloc (Nat.le_refl _) _) _⟩
    have g1 : decide ((B s 1 : Int) < 128) = false := by simp; omega
    have g2 : decide ((143 : Int) < B s 1) = false := by simp; omega
    by_cases gc0 : B s 2 < 128
    · have hi2 : ∀ w, (Instr.index 9 (.string s) (.int .i64 2)).run Tryd.prog w = .ok (.int .u8 (B s 2)) w := fun w => run_bAt s 2 (by omega) w
      have H : Hid (fullK 4 128 143 s.size (B s 1) (B s 2) = true) := Lib.hid (by unfold fullK; rw [if_neg hk, if_neg (by omega), if_pos (by omega)])
      generalize fullK 4 128 143 s.size (B s 1) (B s 2) = R at *
      have g3 : decide ((B s 2 : Int) < 128) = true := by simp; omega
      go_enter Tryd.func96, Tryd.ntmps96
      go_wp2
      go_quiet (fail)
      go_wp2
      go_ret
      rw [H.out]; exact ⟨rfl, below_drewN ((Below.refl _ w).alloc (Nat.le_refl _) _) _⟩
    by_cases gc1 : 191 < B s 2
    · have hi2 : ∀ w, (Instr.index 9 (.string s) (.int .i64 2)).run Tryd.prog w = .ok (.int .u8 (B s 2)) w := fun w => run_bAt s 2 (by omega) w
      have H : Hid (fullK 4 128 143 s.size (B s 1) (B s 2) = true) := Lib.hid (by unfold fullK; rw [if_neg hk, if_neg (by omega), if_pos (by omega)])
      generalize fullK 4 128 143 s.size (B s 1) (B s 2) = R at *
      have g3 : decide ((B s 2 : Int) < 128) = false := by simp; omega
      have g4 : decide ((191 : Int) < B s 2) = true := by simp; omega
      go_enter Tryd.func96, Tryd.ntmps96
      go_wp2
      go_quiet (fail)
      go_wp2
      go_ret
      rw [H.out]; exact ⟨rfl, below_drewN ((Below.refl _ w).alloc (Nat.le_refl _) _) _⟩
    · have hi2 : ∀ w, (Instr.index 9 (.string s) (.int .i64 2)).run Tryd.prog w = .ok (.int .u8 (B s 2)) w := fun w => run_bAt s 2 (by omega) w
      have H : Hid (fullK 4 128 143 s.size (B s 1) (B s 2) = false) := Lib.hid (by unfold fullK; rw [if_neg hk, if_neg (by omega), if_neg (by omega)])
      generalize fullK 4 128 143 s.size (B s 1) (B s 2) = R at *
      have g3 : decide ((B s 2 : Int) < 128) = false := by simp; omega
      have g4 : decide ((191 : Int) < B s 2) = false := by simp; omega
      go_enter Tryd.func96, Tryd.ntmps96
      go_wp2
      go_quiet (fail)
      go_wp2
      go_ret
      rw [H.out]; exact ⟨rfl, below_drewN ((Below.refl _ w).alloc (Nat.le_refl _) _) _⟩
  exfalso; omega
end Go.Proofs.YthcfpmjkfnoofaaDoor
