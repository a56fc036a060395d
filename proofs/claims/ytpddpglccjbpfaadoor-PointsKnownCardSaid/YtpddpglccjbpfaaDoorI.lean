import Derived.Test.YtpddpglccjbpfaaDoorH
namespace Go.Proofs.YtpddpglccjbpfaaDoor
open Go Go.RowKit Go.Lib

/-- Is the first unit settled? -/
def fullB (s : ByteArray) : Bool := if s.size = 0 then false else (((begunI s 0).1 == (begunI s 0).2) || decide ((begunI s 0).1 < s.size))

theorem fullK_bgT (k lo hi n b1 b2 b3 : Nat) (hk2 : 2 ≤ k) (hk4 : k ≤ 4) (hn : 1 ≤ n) :
    fullK k lo hi n b1 b2 = ((bgT ((k : Int), (lo : Int), (hi : Int)) n b1 b2 b3 == (k : Int)) || decide (bgT ((k : Int), (lo : Int), (hi : Int)) n b1 b2 b3 < n)) := by
  unfold fullK bgT
  simp only [inB_iff]
  rcases (by omega : k = 2 ∨ k = 3 ∨ k = 4) with rfl | rfl | rfl
  all_goals
    repeat' split
    all_goals first | (simp; done) | (simp; omega) | (exfalso; omega)

theorem fullB_lead (s : ByteArray) (k lo hi : Nat) (h0 : 0 < s.size) (hl : leadI (B s 0) = ((k : Int), (lo : Int), (hi : Int))) (hk2 : 2 ≤ k) (hk4 : k ≤ 4) :
    fullB s = fullK k lo hi s.size (B s 1) (B s 2) := by
  rw [fullK_bgT k lo hi s.size (B s 1) (B s 2) (B s 3) hk2 hk4 (by omega)]
  unfold fullB
  rw [if_neg (by omega), begunI_eq, hl, if_neg (by simp; omega)]
  simp

end Go.Proofs.YtpddpglccjbpfaaDoor
