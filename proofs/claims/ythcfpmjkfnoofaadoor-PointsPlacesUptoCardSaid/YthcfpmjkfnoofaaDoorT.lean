import Derived.Test.YthcfpmjkfnoofaaDoorS
import Derived.Laws.IdiomStrings
namespace Go.Proofs.YthcfpmjkfnoofaaDoor
open Go Go.RowKit Go.Kt Go.Shelf

theorem runesFrom_eq (s : ByteArray) : ∀ f i (acc : Array Value), Conv.runesFrom s f i acc = acc ++ ((unitsF s f i).map fun p => Value.int .i32 p.2).toArray
  | 0, i, acc => by simp [Conv.runesFrom, unitsF]
  | f + 1, i, acc => by
    unfold Conv.runesFrom unitsF
    split
    · show Conv.runesFrom s f (i + (Utf8.decode s i).2) (acc.push (Value.int IntKind.i32 (Int.ofNat (Utf8.decode s i).1))) = _
      rw [runesFrom_eq s f]
      simp
    · simp
def runeCells (s : ByteArray) : List Value := (units s).map fun p => Value.int .i32 p.2
theorem runeCells_len (s : ByteArray) : (runeCells s).length = (units s).length := by simp [runeCells]
theorem runesFrom_units (s : ByteArray) : Conv.runesFrom s s.size 0 #[] = (runeCells s).toArray := by
  rw [runesFrom_eq]; simp [runeCells, units]
theorem unitsF_len (s : ByteArray) : ∀ f i, (unitsF s f i).length ≤ f
  | 0, i => by simp [unitsF]
  | f + 1, i => by
    unfold unitsF
    split
    · have := unitsF_len s f (i + (Utf8.decode s i).2)
      simp; omega
    · simp
theorem units_len (s : ByteArray) : (units s).length ≤ s.size := unitsF_len s s.size 0

theorem ownsRow_laid (w : World) (cs zs : List Value) (e : TypeId) (n : Nat) (hn : cs.length = n) (hm : n + zs.length ≤ maxLen) :
    OwnS (fun b => b = w.heap.size) e 1 (.slice (some ⟨w.heap.size, 0, none⟩) n (n + zs.length)) n cs (w.alloc (.cells (cs.toArray ++ zs.toArray) e)) := by
  refine ⟨⟨by omega, .inr ⟨w.heap.size, n + zs.length, _, rfl, Nat.zero_le _, World.alloc_heap_new w _, by omega, hm, by simp; omega, ?_⟩⟩, fun g h => by cases h; rfl⟩
  simp [← hn]

theorem utfRunes_any (s : ByteArray) (w : World) (h46 : s.size ≤ 70368744177664) :
    Calls Tryd.prog 49 #[.string s] w fun e w' => ∃ cap, e = .returned (.slice (some ⟨w.heap.size, 0, none⟩) (units s).length cap) ∧
      OwnS (fun b => b = w.heap.size) 21 1 (.slice (some ⟨w.heap.size, 0, none⟩) (units s).length cap) (units s).length (runeCells s) w' ∧ Below w.heap.size w w' ∧ w'.heap.size = w.heap.size + 1 := by
  have hr := run_runes_of_string (P := Tryd.prog) w 9 25 21 s Tryd.underlying9 Tryd.underlying25 Tryd.underlying21 (by rw [runesFrom_units]; simp [runeCells_len]; have := units_len s; omega)
  rw [runesFrom_units] at hr
  have hl : (runeCells s).toArray.size = (units s).length := by simp [runeCells_len]
  rw [hl] at hr
  have hge := grownCap_ge w (units s).length 0 21
  obtain ⟨W, hW⟩ : ∃ W, w.drew.alloc (.cells ((runeCells s).toArray ++ Array.replicate (grownCap w (units s).length 0 21 - (units s).length) (.int .i32 0)) 21) = W := ⟨_, rfl⟩
  have hown : OwnS (fun b => b = w.heap.size) 21 1 (.slice (some ⟨w.heap.size, 0, none⟩) (units s).length (grownCap w (units s).length 0 21)) (units s).length (runeCells s) W := by
    have := ownsRow_laid w.drew (runeCells s) (List.replicate (grownCap w (units s).length 0 21 - (units s).length) (.int .i32 0)) 21 (units s).length (runeCells_len s) (by
      have := grownCap_le_maxLen w (units s).length 0 21 (by unfold maxLen; have := units_len s; omega)
      simp; omega)
    rw [← hW]
    simpa [Nat.add_sub_cancel' hge] using this
  have hb : Below w.heap.size w W := by
    rw [← hW]; exact (Below.refl _ w).drew.alloc (Nat.le_refl _) _
  have hz : W.heap.size = w.heap.size + 1 := by rw [← hW]; simp
  rw [hW] at hr
  have H := Lib.hid (And.intro hown (And.intro hb hz))
  clear hown hb hz hW hge hl
  generalize grownCap w (units s).length 0 21 = cap at *
  generalize (units s).length = n at *
  go_enter Tryd.func49, Tryd.ntmps49
  go_wp2
  go_ret
  exact ⟨cap, rfl, H.out.1, H.out.2.1, H.out.2.2⟩
end Go.Proofs.YthcfpmjkfnoofaaDoor
