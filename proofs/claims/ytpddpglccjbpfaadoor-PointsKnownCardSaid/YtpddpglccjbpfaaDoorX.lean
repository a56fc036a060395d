/- The document's lists of what is ill-formed, and its mended text. -/
import Derived.Test.YtpddpglccjbpfaaDoorS
import Derived.Laws.IdiomStrings
namespace Go.Proofs.YtpddpglccjbpfaaDoor
open Go Go.RowKit Go.Kt Go.Shelf

/-- The cells of a list of pieces. -/
def pieceCells (l : List (Nat × Nat)) : List Value := l.flatMap fun p => [.int .i64 p.1, .int .i64 p.2]
theorem pieceCells_snoc (l : List (Nat × Nat)) (p : Nat × Nat) : pieceCells (l ++ [p]) = pieceCells l ++ [.int .i64 p.1, .int .i64 p.2] := by simp [pieceCells]
theorem badsF_len (s : ByteArray) : ∀ f i, (badsF s f i).length ≤ f
  | 0, _ => by simp [badsF]
  | f + 1, i => by
    rw [badsF]
    split
    · split
      · have := badsF_len s f (i + badK s i)
        simp; omega
      · have := badsF_len s f (i + (wideI s i).toNat)
        omega
    · simp
theorem bads_len (s : ByteArray) : (bads s).length ≤ s.size := badsF_len s s.size 0

theorem begunI_bd (s : ByteArray) (i : Nat) (hi : i < s.size) : 0 ≤ (begunI s i).1 ∧ (begunI s i).1 ≤ 4 ∧ 0 ≤ (begunI s i).2 ∧ (begunI s i).2 ≤ 4 := by
  have hb := bgT_bd (leadI (B s i)) (s.size - i) (B s (i + 1)) (B s (i + 2)) (B s (i + 3)) (by omega)
  have hl := leadI_bd (B s i)
  rw [begunI_eq]
  split
  · simp
  · simp only; omega

/-- A slice of bytes of the call's own, that holds l. -/
def OwnB (Y : Nat → Prop) (v : Value) (l : List UInt8) (W : World) : Prop := W.ownsRowF 0 5 1 v l.length (Lib.byteCells l) ∧ ∀ g, v.ownBlock = some g → Y g
theorem OwnB.nil (Y : Nat → Prop) (W : World) : OwnB Y (.slice none 0 0) [] W := ⟨World.ownsRowF_nil W 0 5 1, fun _ h => by cases h⟩
theorem OwnB.slice {Y : Nat → Prop} {v : Value} {l : List UInt8} {W : World} (h : OwnB Y v l W) : ∃ ao cap, v = .slice ao l.length cap := by
  rcases h.1.2 with ⟨hv, hn⟩ | ⟨g, cap, cur, fz, hv, _⟩
  · exact ⟨none, 0, by rw [hv, hn]⟩
  · exact ⟨_, _, hv⟩
theorem OwnB.append {Y : Nat → Prop} {v : Value} {l : List UInt8} {W : World} (h : OwnB Y v l W) (n0 : Nat) (hn : n0 ≤ W.heap.size) (hY : ∀ g, Y g → n0 ≤ g) (s : ByteArray) (hl : l.length + s.size ≤ 140737488355328) :
    ∃ ao cap W', (∀ ty, (Builtin.append_ #[61, 9] ty #[v, .string s]).run Tryd.prog W = .ok (.slice ao (l.length + s.size) cap) W') ∧ OwnB (fun b => n0 ≤ b) (.slice ao (l.length + s.size) cap) (l ++ s.data.toList) W' ∧ Below n0 W W' := by
  obtain ⟨v', w', hrun, h1, hk, hf⟩ := append_str (P := Tryd.prog) W 61 9 5 Tryd.underlying61 Tryd.underlying9 tinfo5 h.1 s hl
  have e1 : (l ++ s.data.toList).length = l.length + s.size := by simp
  have hO : OwnB (fun b => n0 ≤ b) v' (l ++ s.data.toList) w' := ⟨by
    rw [e1, show Lib.byteCells (l ++ s.data.toList) = Lib.byteCells l ++ Lib.strCells s by simp [Lib.byteCells, Lib.strCells]]
    exact h1, fun g hg => by
      rcases hf g hg with q | q
      · exact hY g (h.2 g q)
      · omega⟩
  obtain ⟨ao, cap, rfl⟩ := hO.slice
  rw [e1] at hrun hO
  exact ⟨ao, cap, w', hrun, hO, hk.below hn fun b hb => hY b (h.2 b hb)⟩
theorem OwnB.text {Y : Nat → Prop} {v : Value} {l : List UInt8} {W : World} (h : OwnB Y v l W) : (convert 61 9 v).run Tryd.prog W = .ok (.string ⟨l.toArray⟩) W := by
  rcases h.1.2 with ⟨hv, hn⟩ | ⟨g, cap, cur, fz, hv, _⟩
  · have : l = [] := List.eq_nil_of_length_eq_zero hn
    subst this; subst hv
    simp [convert, Conv.bytesToString, run_underlying Tryd.underlying61, run_underlying Tryd.underlying9, run_underlying Tryd.underlying5]
    rfl
  · subst hv
    refine run_convert_bytes_back W 61 9 5 ⟨g, 0, none⟩ cap l Tryd.underlying61 Tryd.underlying5 Tryd.underlying9 fun j hj => ?_
    refine h.1.cells rfl j _ ?_
    simp [Lib.byteCells, hj]

theorem pieceCells_get (l : List (Nat × Nat)) : ∀ (i : Nat) (p : Nat × Nat), l[i]? = some p → (pieceCells l)[2 * i]? = some (.int .i64 p.1) ∧ (pieceCells l)[2 * i + 1]? = some (.int .i64 p.2) := by
  induction l with
  | nil => intro i p h; simp at h
  | cons q r ih =>
    intro i p h
    cases i with
    | zero => simp at h; subst h; simp [pieceCells]
    | succ i =>
      simp at h
      obtain ⟨h1, h2⟩ := ih i p h
      simp only [pieceCells] at h1 h2
      exact ⟨by simpa [pieceCells, Nat.mul_add] using h1, by simpa [pieceCells, Nat.mul_add] using h2⟩
end Go.Proofs.YtpddpglccjbpfaaDoor
