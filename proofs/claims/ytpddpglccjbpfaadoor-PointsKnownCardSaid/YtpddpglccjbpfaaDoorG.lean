import Derived.Test.YtpddpglccjbpfaaDoorF
namespace Go.Proofs.YtpddpglccjbpfaaDoor
open Go Go.RowKit Go.Lib

theorem befP_in (s : ByteArray) (n : Nat) (h1 : 1 ≤ n) (h : n ≤ s.size) : befP s n = befK s n 5 1 := by
  unfold befP; rw [if_pos (by omega)]; simp
theorem befP_out (s : ByteArray) (a : Int) (h : a < 1 ∨ s.size < a) : befP s a = (65533, 0) := by
  unfold befP; rw [if_neg (by omega)]

end Go.Proofs.YtpddpglccjbpfaaDoor
