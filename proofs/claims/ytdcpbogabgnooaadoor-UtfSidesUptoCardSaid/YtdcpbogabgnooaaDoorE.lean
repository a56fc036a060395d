import Derived.Test.YtdcpbogabgnooaaDoorD
namespace Go.Proofs.YtdcpbogabgnooaaDoor
open Go Go.RowKit Go.Lib

theorem wide_anyI (s : ByteArray) (a : Int) (w : World) (h0 : 0 ≤ a) (h1 : a < s.size) (hs : s.size ≤ 4611686018427387904) :
    Calls Tryd.prog 49 #[.string s, .int .i64 a] w fun e w' => e = .returned (.int .i64 (wideI s a.toNat)) ∧ w = w' := by
  obtain ⟨i, rfl⟩ := Int.eq_ofNat_of_zero_le h0
  exact wide_any s i w (by omega) hs

def befK (s : ByteArray) (n : Nat) : Nat → Nat → Int × Int
  | 0, _ => (65533, 1)
  | f + 1, k => if k ≤ 4 ∧ k ≤ n then (if wideI s (n - k) = k then (((Utf8.decode s (n - k)).1 : Int), (k : Int)) else befK s n f (k + 1)) else (65533, 1)
def befP (s : ByteArray) (a : Int) : Int × Int := if 1 ≤ a ∧ a ≤ s.size then befK s a.toNat 5 1 else (65533, 0)

set_option maxRecDepth 100000 in
theorem refBefore_any (s : ByteArray) (a : Int) (w : World) (hs : s.size ≤ 4611686018427387904) :
    Calls Tryd.prog 47 #[.string s, .int .i64 a] w fun e w' => e = .returned (.tuple #[.int .i32 (befP s a).1, .int .i64 (befP s a).2]) ∧ w = w' := by
  by_cases hin : 1 ≤ a ∧ a ≤ s.size
  · obtain ⟨n, rfl⟩ := Int.eq_ofNat_of_zero_le (by omega : 0 ≤ a)
    have H : Hid (befP s n = befK s n 5 1) := Lib.hid (by unfold befP; rw [if_pos hin]; simp)
    generalize befP s n = R at H ⊢
    obtain ⟨hn1, hn2⟩ := hin
    have t1 : decide ((n : Int) < 1) = false := by simp; omega
    have t2 : decide (s.size < n) = false := by simp; omega
    go_enter Tryd.func47, Tryd.ntmps47
    go_wp2
    go_loop [6] (fun v => ∃ k : Nat, 1 ≤ k ∧ k ≤ 5 ∧ v = .int .i64 k ∧ befK s n (6 - k) k = befK s n 5 1) (fun v => 5 - (RowKit.intOf v).toNat)
    case atStart => exact ⟨1, by omega, by omega, rfl, rfl⟩
    case round =>
      obtain ⟨k, hk1, hk5, rfl, hK⟩ := hrel
      have HK := Lib.hid hK; clear hK
      by_cases a : k ≤ 4 ∧ k ≤ n
      · have stp : befK s n (6 - k) k = if wideI s (n - k) = k then (((Utf8.decode s (n - k)).1 : Int), (k : Int)) else befK s n (5 - k) (k + 1) := by
          rw [show 6 - k = (5 - k) + 1 by omega]; simp only [befK]; rw [if_pos a]
        have Stp := Lib.hid stp; clear stp
        obtain ⟨a1, a2⟩ := a
        have HW : Hid (∀ w, Calls Tryd.prog 49 #[.string s, .int .i64 ((n : Int) - k)] w fun e w' => e = .returned (.int .i64 (wideI s (n - k))) ∧ w = w') := Lib.hid fun w => by
          have := wide_anyI s ((n : Int) - k) w (by omega) (by omega) hs
          rw [show ((n : Int) - k).toNat = n - k by omega] at this; exact this
        by_cases c : wideI s (n - k) = k
        · rw [if_pos c] at Stp
          have hdec := unit_at s (n - k) (by omega)
          have HN : Hid (∀ w, Calls Tryd.prog 65 #[.string (s.extract (n - k) n)] w fun e w' => e = .returned (.int .i32 (Utf8.decode s (n - k)).1) ∧ w = w') := Lib.hid fun w => by
            rcases hdec with ⟨h1, _⟩ | ⟨v, h1, h4, hw, he, hd2, hd1⟩
            · omega
            · obtain rfl : v = k := by omega
              have := number_any (s.extract (n - v) (n - v + v)) w (by rw [ByteArray.size_extract]; omega) (by rw [ByteArray.size_extract]; omega)
              rw [numI_extract s (n - v) v h1 h4 hw, ← hd1, show n - v + v = n by omega] at this
              exact this
          have C := Lib.hid c
          clear hdec
          have ct : (wideI s (n - k) == k) = true := by simpa using C.out
          rw [C.out] at HW
          clear c ct
          go_wp2_with (first | (go_at_call 49; refine (HW.out _).mono ?_; rintro e w' ⟨rfl, rfl⟩) | (go_at_call 65; refine (HN.out _).mono ?_; rintro e w' ⟨rfl, rfl⟩))
          go_ret2
          have fin : R = (((Utf8.decode s (n - k)).1 : Int), (k : Int)) := by rw [H.out, ← HK.out, Stp.out]
          rw [fin]; exact ⟨rfl, rfl⟩
        · rw [if_neg c] at Stp
          have ct : (wideI s (n - k) == k) = false := by simpa using c
          generalize wideI s (n - k) = W at *
          clear c
          go_wp2_with (go_at_call 49; refine (HW.out _).mono ?_; rintro e w' ⟨rfl, rfl⟩)
          go_round
          case rel => exact ⟨k + 1, by omega, by omega, by go_num, by rw [← HK.out, Stp.out, show 6 - (k + 1) = 5 - k by omega]⟩
          case measure => simp [RowKit.intOf]; omega
      · have stp : befK s n (6 - k) k = (65533, 1) := by
          rcases Nat.lt_or_ge k 6 with h | h
          · rw [show 6 - k = (5 - k) + 1 by omega]; simp only [befK]; rw [if_neg a]
          · rw [show 6 - k = 0 by omega]; rfl
        have Stp := Lib.hid stp; clear stp
        have fin : R = (65533, 1) := by rw [H.out, ← HK.out, Stp.out]
        have Fin := Lib.hid fin; clear fin
        by_cases a4 : k ≤ 4
        · go_wp2
          go_ret2
          rw [Fin.out]; exact ⟨rfl, rfl⟩
        · go_wp2
          go_ret2
          rw [Fin.out]; exact ⟨rfl, rfl⟩
  · have H : Hid (befP s a = (65533, 0)) := Lib.hid (by unfold befP; rw [if_neg hin])
    generalize befP s a = R at H ⊢
    by_cases h1 : a < 1
    · go_enter Tryd.func47, Tryd.ntmps47
      go_wp2
      go_ret2
      rw [H.out]; exact ⟨rfl, rfl⟩
    · go_enter Tryd.func47, Tryd.ntmps47
      go_wp2
      go_ret2
      rw [H.out]; exact ⟨rfl, rfl⟩
end Go.Proofs.YtdcpbogabgnooaaDoor
