import Derived.Test.YthcfpmjkfnoofaaDoorProg
import Derived.WalkKit
import Derived.WalkLawsBesides
import Derived.WalkSpells
import Derived.Lib.Hide
import Derived.Deep.QuietTactic
import Derived.BigQuiet
namespace Go.Proofs.YthcfpmjkfnoofaaDoor
open Go Go.RowKit

def inB (c lo hi : Int) : Bool := decide (lo ≤ c) && decide (c ≤ hi)

theorem within_any (c lo hi : Int) (w : World) :
    Calls Tryd.prog 146 #[.int .u8 c, .int .u8 lo, .int .u8 hi] w fun e w' => e = .returned (.bool (inB c lo hi)) ∧ w = w' := by
  go_enter Tryd.func146, Tryd.ntmps146
  go_wp2
  all_goals go_ret
  all_goals (unfold inB; simp [*]; try omega)

def leadI (c : Int) : Int × Int × Int :=
  if c < 128 then (1, 0, 0) else if inB c 194 223 then (2, 128, 191) else if c == 224 then (3, 160, 191) else if c == 237 then (3, 128, 159)
  else if inB c 225 239 then (3, 128, 191) else if c == 240 then (4, 144, 191) else if c == 244 then (4, 128, 143) else if inB c 241 243 then (4, 128, 191) else (0, 0, 0)

theorem lead_any (c : Int) (w : World) :
    Calls Tryd.prog 145 #[.int .u8 c] w fun e w' => e = .returned (.tuple #[.int .i64 (leadI c).1, .int .u8 (leadI c).2.1, .int .u8 (leadI c).2.2]) ∧ w = w' := by
  go_enter Tryd.func145, Tryd.ntmps145
  go_wp2_with (go_at_call 146; refine (within_any _ _ _ _).mono ?_; rintro e w' ⟨rfl, rfl⟩)
  all_goals go_ret3
  · simp [leadI, *]
  all_goals (have hh : ¬ c < 128 := by omega)
  all_goals (simp only [leadI, *, if_true, if_false]; simp)

def bAt (s : ByteArray) (i : Nat) : Int := (s.data.toList.getD i 0).toNat
theorem bAt_lo (s : ByteArray) (i : Nat) : 0 ≤ bAt s i := by unfold bAt; omega
theorem bAt_hi (s : ByteArray) (i : Nat) : bAt s i < 256 := by unfold bAt; have := (s.data.toList.getD i 0).toNat_lt; omega
theorem bAt_eq (s : ByteArray) (i : Nat) (h : i < s.size) : bAt s i = (s[i]'h).toNat := by
  have h' : i < s.data.toList.length := by simpa using h
  unfold bAt
  rw [List.getD_eq_getElem?_getD, List.getElem?_eq_getElem h']; rfl
theorem run_bAt (s : ByteArray) (i : Nat) (h : i < s.size) (w : World) :
    (Instr.index 9 (.string s) (.int .i64 (i : Int))).run Tryd.prog w = .ok (.int .u8 (bAt s i)) w := by
  rw [run_index_string (h := Tryd.underlying9), dif_pos (by omega), bAt_eq s i h]; rfl
theorem run_bAt' (s : ByteArray) (i k : Nat) (h : i + k < s.size) (w : World) :
    (Instr.index 9 (.string s) (.int .i64 ((i : Int) + (k : Int)))).run Tryd.prog w = .ok (.int .u8 (bAt s (i + k))) w := by
  have := run_bAt s (i + k) h w
  simpa using this

def begunC (s : ByteArray) (i : Nat) (lo hi : Int) (k : Nat) : Bool := if k = 1 then inB (bAt s (i + k)) lo hi else inB (bAt s (i + k)) 128 191
def begunK (s : ByteArray) (i : Nat) (n lo hi : Int) : Nat → Nat → Nat
  | 0, k => k
  | f + 1, k => if (k : Int) < n ∧ i + k < s.size ∧ begunC s i lo hi k = true then begunK s i n lo hi f (k + 1) else k
def begunI (s : ByteArray) (i : Nat) : Int × Int :=
  if (leadI (bAt s i)).1 == 0 then (0, 0) else ((begunK s i (leadI (bAt s i)).1 (leadI (bAt s i)).2.1 (leadI (bAt s i)).2.2 4 1 : Nat), (leadI (bAt s i)).1)
theorem leadI_bd (c : Int) : 0 ≤ (leadI c).1 ∧ (leadI c).1 ≤ 4 := by
  unfold leadI; repeat' split
  all_goals simp

set_option maxRecDepth 100000 in
theorem begun_any (s : ByteArray) (i : Nat) (w : World) (hi : i < s.size) (hs : s.size ≤ 4611686018427387904) :
    Calls Tryd.prog 129 #[.string s, .int .i64 i] w fun e w' => e = .returned (.tuple #[.int .i64 (begunI s i).1, .int .i64 (begunI s i).2]) ∧ w = w' := by
  have h0 := run_bAt s i hi
  have HB : Hid (begunI s i = if (leadI (bAt s i)).1 == 0 then ((0 : Int), (0 : Int)) else (((begunK s i (leadI (bAt s i)).1 (leadI (bAt s i)).2.1 (leadI (bAt s i)).2.2 4 1 : Nat) : Int), (leadI (bAt s i)).1)) := Lib.hid rfl
  generalize begunI s i = R at HB ⊢
  obtain ⟨hn0, hn4⟩ := leadI_bd (bAt s i)
  have hL := lead_any (bAt s i)
  generalize leadI (bAt s i) = r at *
  obtain ⟨n, lo, hi⟩ := r
  simp only at hn0 hn4 HB hL
  by_cases hz : n = 0
  · subst hz
    have HL := Lib.hid hL; clear hL
    go_enter Tryd.func129, Tryd.ntmps129
    go_wp2_with (go_at_call 145; refine (HL.out _).mono ?_; rintro e w' ⟨rfl, rfl⟩)
    all_goals go_ret2
    all_goals (rw [HB.out]; simp)
  · have hz' : (n == 0) = false := by simpa using hz
    have HL := Lib.hid hL; clear hL
    rw [hz'] at HB
    go_enter Tryd.func129, Tryd.ntmps129
    go_wp2_with (go_at_call 145; refine (HL.out _).mono ?_; rintro e w' ⟨rfl, rfl⟩)
    clear h0 
    go_loop [9] (fun v => ∃ k : Nat, 1 ≤ k ∧ k ≤ 4 ∧ v = .int .i64 k ∧ begunK s i n lo hi (5 - k) k = begunK s i n lo hi 4 1) (fun v => 4 - (intOf v).toNat)
    case atStart => exact ⟨1, by omega, by omega, rfl, rfl⟩
    case round =>
      obtain ⟨k, hk1, hk4, rfl, hK⟩ := hrel
      have HK := Lib.hid hK; clear hK
      have fin : begunK s i n lo hi 4 1 = k → R = ((k : Int), n) := by intro h; rw [HB.out, h]; rfl
      have Fin := Lib.hid fin; clear fin
      have stp : begunK s i n lo hi (5 - k) k = if (k : Int) < n ∧ i + k < s.size ∧ begunC s i lo hi k = true then begunK s i n lo hi (4 - k) (k + 1) else k := by
        rw [show 5 - k = (4 - k) + 1 by omega]; rfl
      have Stp := Lib.hid stp; clear stp
      by_cases a : (k : Int) < n
      · by_cases b : i + k < s.size
        · by_cases c : k = 1
          · subst c
            have hb : ∀ w, (Instr.index 9 (.string s) (.int .i64 ((i : Int) + 1))).run Tryd.prog w = .ok (.int .u8 (bAt s (i + 1))) w := run_bAt' s i 1 b
            have dd : begunC s i lo hi 1 = inB (bAt s (i + 1)) lo hi := by simp [begunC]
            have DD := Lib.hid dd; clear dd
            cases d : inB (bAt s (i + 1)) lo hi
            all_goals (have D := Lib.hid d)
            all_goals go_wp2_with (go_at_call 146; refine (within_any _ _ _ _).mono ?_; rintro e w' ⟨rfl, rfl⟩)
            · go_ret2
              rw [Fin.out (by show begunK s i n lo hi (5 - 1) 1 = 1; rw [Stp.out, if_neg (by rw [DD.out, D.out]; simp)])]
              exact ⟨rfl, rfl⟩
            · go_round
              case rel => exact ⟨2, by omega, by omega, rfl, by show _ = begunK s i n lo hi (5 - 1) 1; rw [Stp.out, if_pos ⟨a, b, by rw [DD.out, D.out]⟩]⟩
              case measure => simp [intOf]
          · have c1 : ((k : Int) == 1) = false := by simp; omega
            have hb := run_bAt' s i k b
            have dd : begunC s i lo hi k = inB (bAt s (i + k)) 128 191 := by simp [begunC, c]
            have DD := Lib.hid dd; clear dd
            cases d : inB (bAt s (i + k)) 128 191
            all_goals (have D := Lib.hid d)
            all_goals go_wp2_with (go_at_call 146; refine (within_any _ _ _ _).mono ?_; rintro e w' ⟨rfl, rfl⟩)
            · go_ret2
              rw [Fin.out (by rw [← HK.out, Stp.out, if_neg (by rw [DD.out, D.out]; simp)])]
              exact ⟨rfl, rfl⟩
            · go_round
              case rel => exact ⟨k + 1, by omega, by omega, by go_num, by rw [← HK.out, Stp.out, if_pos ⟨a, b, by rw [DD.out, D.out]⟩, show 5 - (k + 1) = 4 - k by omega]⟩
              case measure => simp [intOf]; omega
        · go_wp2
          go_ret2
          rw [Fin.out (by rw [← HK.out, Stp.out, if_neg (by omega)])]
          exact ⟨rfl, rfl⟩
      · go_wp2
        go_ret2
        rw [Fin.out (by rw [← HK.out, Stp.out, if_neg (by omega)])]
        exact ⟨rfl, rfl⟩
end Go.Proofs.YthcfpmjkfnoofaaDoor
