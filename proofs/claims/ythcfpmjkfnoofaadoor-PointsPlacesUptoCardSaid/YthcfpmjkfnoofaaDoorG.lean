import Derived.Test.YthcfpmjkfnoofaaDoorF
namespace Go.Proofs.YthcfpmjkfnoofaaDoor
open Go Go.RowKit Go.Lib

theorem befP_in (s : ByteArray) (n : Nat) (h1 : 1 ≤ n) (h : n ≤ s.size) : befP s n = befK s n 5 1 := by
  unfold befP; rw [if_pos (by omega)]; simp
theorem befP_out (s : ByteArray) (a : Int) (h : a < 1 ∨ s.size < a) : befP s a = (65533, 0) := by
  unfold befP; rw [if_neg (by omega)]

theorem utfBefore_any (s : ByteArray) (a : Int) (w : World) (hT : Utf8Tabs 1 2 w) (hs : s.size ≤ 4611686018427387904) :
    Calls Tryd.prog 56 #[.string s, .int .i64 a] w fun e w' => e = .returned (.tuple #[.int .i32 (befP s a).1, .int .i64 (befP s a).2]) ∧ Below w.heap.size w w' := by
  have HT := Lib.hid hT; clear hT
  by_cases hin : 1 ≤ a ∧ a ≤ s.size
  · obtain ⟨n, rfl⟩ := Int.eq_ofNat_of_zero_le (by omega : 0 ≤ a)
    obtain ⟨hn1, hn2⟩ := hin
    have H := Lib.hid (befP_in s n (by omega) (by omega))
    generalize befP s n = R at H ⊢
    have HD : Hid (∀ w, Utf8Tabs 1 2 w → Calls Tryd.prog 99 #[.string (s.extract 0 n)] w fun e w' => e = .returned (.tuple #[.int .i32 R.1, .int .i64 R.2]) ∧ Below w.heap.size w w') := Lib.hid fun w hT => by
      have := Tryd.utf8_DecodeLastRuneInString (s.extract 0 n) w (by rw [size_pre s n (by omega)]; omega) hT
      have e := last_bef s n (by omega) (by omega)
      rw [H.out, ← e]; exact this
    clear H
    have t1 : decide ((n : Int) < 1) = false := by simp; omega
    have t2 : decide (s.size < n) = false := by simp; omega
    go_enter Tryd.func56, Tryd.ntmps56
    go_wp2_with (go_at_call 99; refine (HD.out _ HT.out).mono ?_; rintro e w' ⟨rfl, hb⟩)
    go_ret2
    exact ⟨rfl, hb⟩
  · have H := Lib.hid (befP_out s a (by omega))
    generalize befP s a = R at H ⊢
    by_cases h0 : a < 1
    · go_enter Tryd.func56, Tryd.ntmps56
      go_wp2
      go_ret2
      rw [H.out]; exact ⟨rfl, Below.refl _ _⟩
    · go_enter Tryd.func56, Tryd.ntmps56
      go_wp2
      go_ret2
      rw [H.out]; exact ⟨rfl, Below.refl _ _⟩

end Go.Proofs.YthcfpmjkfnoofaaDoor
