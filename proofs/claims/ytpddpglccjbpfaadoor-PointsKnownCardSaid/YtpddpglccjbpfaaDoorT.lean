import Derived.Test.YtpddpglccjbpfaaDoorS
import Derived.Laws.IdiomStrings
namespace Go.Proofs.YtpddpglccjbpfaaDoor
open Go Go.RowKit Go.Kt Go.Shelf

theorem runesFrom_eq (s : ByteArray) : ∀ f i (acc : Array Value), Conv.runesFrom s f i acc = acc ++ ((unitsF s f i).map fun p => Value.int .i32 p.2).toArray
  | 0, i, acc => by simp [Conv.runesFrom, unitsF]
  | f + 1, i, acc => by
    unfold Conv.runesFrom unitsF
    split
    · show Conv.runesFrom s f (i + (Utf8.decode s i).2) (acc.push (Value.int IntKind.i32 (Int.ofNat (Utf8.decode s i).1))) = _
      rw [runesFrom_eq s f]
      simp
    · simp
def runeCells (s : ByteArray) : List Value := (units s).map fun p => Value.int .i32 p.2
theorem runeCells_len (s : ByteArray) : (runeCells s).length = (units s).length := by simp [runeCells]
theorem runesFrom_units (s : ByteArray) : Conv.runesFrom s s.size 0 #[] = (runeCells s).toArray := by
  rw [runesFrom_eq]; simp [runeCells, units]
theorem unitsF_len (s : ByteArray) : ∀ f i, (unitsF s f i).length ≤ f
  | 0, i => by simp [unitsF]
  | f + 1, i => by
    unfold unitsF
    split
    · have := unitsF_len s f (i + (Utf8.decode s i).2)
      simp; omega
    · simp
theorem units_len (s : ByteArray) : (units s).length ≤ s.size := unitsF_len s s.size 0

theorem ownsRow_laid (w : World) (cs zs : List Value) (e : TypeId) (n : Nat) (hn : cs.length = n) (hm : n + zs.length ≤ maxLen) :
    OwnS (fun b => b = w.heap.size) e 1 (.slice (some ⟨w.heap.size, 0, none⟩) n (n + zs.length)) n cs (w.alloc (.cells (cs.toArray ++ zs.toArray) e)) := by
  refine ⟨⟨by omega, .inr ⟨w.heap.size, n + zs.length, _, rfl, Nat.zero_le _, World.alloc_heap_new w _, by omega, hm, by simp; omega, ?_⟩⟩, fun g h => by cases h; rfl⟩
  simp [← hn]

end Go.Proofs.YtpddpglccjbpfaaDoor
