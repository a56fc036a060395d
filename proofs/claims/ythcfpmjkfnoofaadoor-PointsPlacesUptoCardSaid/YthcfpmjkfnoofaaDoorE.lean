import Derived.Test.YthcfpmjkfnoofaaDoorD
namespace Go.Proofs.YthcfpmjkfnoofaaDoor
open Go Go.RowKit Go.Lib

theorem wide_anyI (s : ByteArray) (a : Int) (w : World) (h0 : 0 ≤ a) (h1 : a < s.size) (hs : s.size ≤ 4611686018427387904) :
    Calls Tryd.prog 97 #[.string s, .int .i64 a] w fun e w' => e = .returned (.int .i64 (wideI s a.toNat)) ∧ w = w' := by
  obtain ⟨i, rfl⟩ := Int.eq_ofNat_of_zero_le h0
  exact wide_any s i w (by omega) hs

def befK (s : ByteArray) (n : Nat) : Nat → Nat → Int × Int
  | 0, _ => (65533, 1)
  | f + 1, k => if k ≤ 4 ∧ k ≤ n then (if wideI s (n - k) = k then (((Utf8.decode s (n - k)).1 : Int), (k : Int)) else befK s n f (k + 1)) else (65533, 1)
def befP (s : ByteArray) (a : Int) : Int × Int := if 1 ≤ a ∧ a ≤ s.size then befK s a.toNat 5 1 else (65533, 0)

end Go.Proofs.YthcfpmjkfnoofaaDoor
