import Derived.Test.YtpddpglccjbpfaaDoorO
import Derived.Test.YtpddpglccjbpfaaDoorQ
namespace Go.Proofs.YtpddpglccjbpfaaDoor
open Go Go.RowKit Go.Kt Go.Shelf
attribute [local go_sem] Oper.semAt_some

theorem utfAll_call (s : ByteArray) (w : World) :
    Calls Tryd.prog 57 #[.string s] w fun e w' => e = .returned (.func (.func 87) #[] #[.pointer (some ⟨w.heap.size, 0, none⟩)]) ∧ w.alloc (.cells #[.string s] 9) = w' := by
  go_enter Tryd.func57, Tryd.ntmps57
  go_wp2
  go_ret
  exact ⟨rfl, rfl⟩
/-! what Mend writes -/
def rep (l : List UInt8) : Nat → List UInt8
  | 0 => []
  | n + 1 => rep l n ++ l
theorem rep_len (l : List UInt8) (n : Nat) : (rep l n).length = n * l.length := by
  induction n with
  | zero => simp [rep]
  | succ n ih => simp [rep, ih, Nat.succ_mul]
def mendStep (s by' : ByteArray) (whole : Bool) (st : List UInt8 × Nat) (p : Nat × Nat) : List UInt8 × Nat :=
  (st.1 ++ (s.extract st.2 p.1).data.toList ++ rep by'.data.toList (if whole then 1 else p.2), p.1 + p.2)
def mendF (s by' : ByteArray) (whole : Bool) (l : List (Nat × Nat)) : List UInt8 × Nat := l.foldl (mendStep s by' whole) ([], 0)
def mendL (s by' : ByteArray) (whole : Bool) : List UInt8 :=
  (mendF s by' whole (bads s)).1 ++ (s.extract (mendF s by' whole (bads s)).2 s.size).data.toList
theorem mendF_snoc (s by' : ByteArray) (whole : Bool) (l : List (Nat × Nat)) (p : Nat × Nat) : mendF s by' whole (l ++ [p]) = mendStep s by' whole (mendF s by' whole l) p := by simp [mendF]

/-- Pieces lie one behind the other, within n bytes. -/
def Chain (n : Nat) : Nat → List (Nat × Nat) → Prop
  | _, [] => True
  | lo, (a, k) :: r => lo ≤ a ∧ 1 ≤ k ∧ a + k ≤ n ∧ Chain n (a + k) r
theorem Chain.mono {n : Nat} : ∀ {lo lo' : Nat} {l : List (Nat × Nat)}, lo' ≤ lo → Chain n lo l → Chain n lo' l
  | _, _, [], _, _ => trivial
  | _, _, (a, k) :: r, h, ⟨h1, h2, h3, h4⟩ => ⟨by omega, h2, h3, h4⟩
set_option maxRecDepth 10000 in
theorem badsF_chain (s : ByteArray) : ∀ f i, Chain s.size i (badsF s f i)
  | 0, _ => trivial
  | f + 1, i => by
    by_cases hi : i < s.size
    · have e1 : badsF s (f + 1) i = if wideI s i = 0 then (i, badK s i) :: badsF s f (i + badK s i) else badsF s f (i + (wideI s i).toNat) := by simp only [badsF]; rw [if_pos hi]
      rw [e1]
      by_cases hw : wideI s i = 0
      · rw [if_pos hw]
        have hb := badK_bd s i hi
        have ih := badsF_chain s f (i + badK s i)
        generalize badsF s f (i + badK s i) = r at *
        generalize badK s i = k at *
        exact ⟨Nat.le_refl _, hb.1, hb.2.1, ih⟩
      · rw [if_neg hw]
        exact (badsF_chain s f _).mono (Nat.le_add_right _ _)
    · rw [badsF, if_neg hi]
      trivial
theorem chain_end (s by' : ByteArray) (whole : Bool) : ∀ (pre rest : List (Nat × Nat)) (acc : List UInt8) (e : Nat), Chain s.size e (pre ++ rest) → e ≤ s.size → acc.length ≤ e + e * by'.size →
    (pre.foldl (mendStep s by' whole) (acc, e)).2 ≤ s.size ∧ Chain s.size (pre.foldl (mendStep s by' whole) (acc, e)).2 rest ∧
    (pre.foldl (mendStep s by' whole) (acc, e)).1.length ≤ (pre.foldl (mendStep s by' whole) (acc, e)).2 + (pre.foldl (mendStep s by' whole) (acc, e)).2 * by'.size
  | [], rest, acc, e, h, he, ha => ⟨he, h, ha⟩
  | (a, k) :: pre, rest, acc, e, ⟨h1, h2, h3, h4⟩, he, ha => by
    simp only [List.foldl_cons]
    refine chain_end s by' whole pre rest _ _ h4 h3 ?_
    have e1 : (s.extract e a).data.toList.length = a - e := by
      have : (s.extract e a).size = a - e := by rw [ByteArray.size_extract]; omega
      rw [Lib.size_eq] at this
      exact this
    simp only [List.length_append, rep_len, e1]
    have hb : by'.data.toList.length = by'.size := by simp
    rw [hb]
    have hc : (if whole = true then 1 else k) * by'.size ≤ k * by'.size := Nat.mul_le_mul_right _ (by split <;> omega)
    have hd : (a + k) * by'.size = a * by'.size + k * by'.size := Nat.add_mul _ _ _
    have he2 : e * by'.size ≤ a * by'.size := Nat.mul_le_mul_right _ h1
    omega
end Go.Proofs.YtpddpglccjbpfaaDoor
