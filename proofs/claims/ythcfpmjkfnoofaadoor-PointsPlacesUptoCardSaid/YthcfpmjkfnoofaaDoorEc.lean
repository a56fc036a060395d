/- errors.As of a fault, at a fault's variable: the walk. -/
import Derived.Test.YthcfpmjkfnoofaaDoorEb
namespace Go.Proofs.YthcfpmjkfnoofaaDoor
open Go Go.RowKit Go.Kt Go.Extern.Stop Go.Stop Go.Extern

def AsOut (g : Nat) (k l a : Int) (w : World) (e : Ending) (w' : World) : Prop :=
  e = .returned (.bool true) ∧ w'.heap[g]? = some (.cells #[.int .i64 k, .int .i64 l, .int .i64 a] 101 (0, 0)) ∧ Keep (fun b => b = g) w w'

set_option maxRecDepth 100000 in
set_option maxHeartbeats 4000000 in
theorem as_fault (k l a x y z : Int) (g : Nat) (w : World) (hE : w.cell? ⟨4, 0, none⟩ = some (.iface 204 (.agg #[tyH 55]))) (hg : w.heap[g]? = some (.cells #[.int .i64 x, .int .i64 y, .int .i64 z] 101 (0, 0))) :
    Calls Tryd.prog 132 #[.iface 101 (fv k l a), .iface 157 (.pointer (some ⟨g, 0, none⟩))] w (AsOut g k l a w) := by
  have h6 := @run_callFunc_extern Tryd.prog 148 _ xValueOf Tryd.func148 (by kernel_rfl) (by kernel_rfl) (by kernel_rfl) (by kernel_rfl)
  have h7 := @run_callFunc_extern Tryd.prog 149 _ xType Tryd.func149 (by kernel_rfl) (by kernel_rfl) (by kernel_rfl) (by kernel_rfl)
  have h8 := @run_callFunc_extern Tryd.prog 150 _ xIsNil Tryd.func150 (by kernel_rfl) (by kernel_rfl) (by kernel_rfl) (by kernel_rfl)
  have h27 := @run_callFunc_extern Tryd.prog 219 _ xKind Tryd.func219 (by kernel_rfl) (by kernel_rfl) (by kernel_rfl) (by kernel_rfl)
  have h37 := @run_callFunc_extern Tryd.prog 232 _ xElemT Tryd.func232 (by kernel_rfl) (by kernel_rfl) (by kernel_rfl) (by kernel_rfl)
  have h38 := @run_callFunc_extern Tryd.prog 233 _ xImplements Tryd.func233 (by kernel_rfl) (by kernel_rfl) (by kernel_rfl) (by kernel_rfl)
  have h10 := @run_callFunc_extern Tryd.prog 152 _ ReflectliteType.typeOf Tryd.func152 (by kernel_rfl) (by kernel_rfl) (by kernel_rfl) (by kernel_rfl)
  have h35 := @run_callFunc_extern Tryd.prog 230 _ xAssignable Tryd.func230 (by kernel_rfl) (by kernel_rfl) (by kernel_rfl) (by kernel_rfl)
  have h11 := @run_callFunc_extern Tryd.prog 171 _ xElemV Tryd.func171 (by kernel_rfl) (by kernel_rfl) (by kernel_rfl) (by kernel_rfl)
  have h12 := @run_callFunc_extern Tryd.prog 172 _ xSet Tryd.func172 (by kernel_rfl) (by kernel_rfl) (by kernel_rfl) (by kernel_rfl)
  have tO := asTypeOfF
  have mA := asMethodAssignable
  have aF := asAssignable
  have vF := asValueOfF
  have f6 := asValueOfP
  have f7 := asTypeP
  have mK := asMethodKind
  have mE := asMethodElem
  have mI := asMethodImplements
  have kP := asKindP
  have kF := asKindF
  have eT := asElemT
  have iF := asImplements
  have hlt : 4 < w.heap.size := lt_of_cell hE
  have hgl : g < w.heap.size := (Array.getElem?_eq_some_iff.1 hg).1
  have n8 := asIsNil ⟨w.heap.size, 0, none⟩ ⟨g, 0, none⟩ ((w.alloc (.cells #[.pointer (some ⟨g, 0, none⟩)] 157)).alloc (.cells #[tyH 157, .pointer (some ⟨w.heap.size, 0, none⟩), .int .u64 150] 172)) (by simp)
  have hg2 : ((w.alloc (.cells #[.pointer (some ⟨g, 0, none⟩)] 157)).alloc (.cells #[tyH 157, .pointer (some ⟨w.heap.size, 0, none⟩), .int .u64 150] 172)).cell? ⟨4, 0, none⟩ = some (.iface 204 (.agg #[tyH 55])) := by
    rw [World.cell?_alloc_lt _ _ ⟨4, 0, none⟩ (by simp; omega), World.cell?_alloc_lt _ _ ⟨4, 0, none⟩ hlt]; exact hE
  have el := asElemV ⟨w.heap.size, 0, none⟩ ⟨g, 0, none⟩ (((w.alloc (.cells #[.pointer (some ⟨g, 0, none⟩)] 157)).alloc (.cells #[tyH 157, .pointer (some ⟨w.heap.size, 0, none⟩), .int .u64 150] 172)).alloc (.cells #[tyH 157, .pointer (some ⟨w.heap.size, 0, none⟩), .int .u64 150] 172)) (by rw [World.cell?_alloc_lt _ _ ⟨w.heap.size, 0, none⟩ (by simp; omega)]; simp)
  have hg4 : ((((w.alloc (.cells #[.pointer (some ⟨g, 0, none⟩)] 157)).alloc (.cells #[tyH 157, .pointer (some ⟨w.heap.size, 0, none⟩), .int .u64 150] 172)).alloc (.cells #[tyH 157, .pointer (some ⟨w.heap.size, 0, none⟩), .int .u64 150] 172)).alloc (.cells #[.int .i64 k, .int .i64 l, .int .i64 a] 101)).heap[g]? = some (.cells #[.int .i64 x, .int .i64 y, .int .i64 z] 101 (0, 0)) :=
    alloc_old (alloc_old (alloc_old (alloc_old hg)))
  have hb4 : ((((w.alloc (.cells #[.pointer (some ⟨g, 0, none⟩)] 157)).alloc (.cells #[tyH 157, .pointer (some ⟨w.heap.size, 0, none⟩), .int .u64 150] 172)).alloc (.cells #[tyH 157, .pointer (some ⟨w.heap.size, 0, none⟩), .int .u64 150] 172)).alloc (.cells #[.int .i64 k, .int .i64 l, .int .i64 a] 101)).heap[w.heap.size + 1 + 1 + 1]? = some (.cells #[.int .i64 k, .int .i64 l, .int .i64 a] 101 (0, 0)) := by
    exact alloc_at (by simp)
  have st := asSet g (w.heap.size + 1 + 1 + 1) _ _ _ _ _ _ _ _ _ ((((w.alloc (.cells #[.pointer (some ⟨g, 0, none⟩)] 157)).alloc (.cells #[tyH 157, .pointer (some ⟨w.heap.size, 0, none⟩), .int .u64 150] 172)).alloc (.cells #[tyH 157, .pointer (some ⟨w.heap.size, 0, none⟩), .int .u64 150] 172)).alloc (.cells #[.int .i64 k, .int .i64 l, .int .i64 a] 101)) hb4 hg4 rfl rfl rfl
  have fin : AsOut g k l a w (.returned (.bool true)) (((((((w.alloc (.cells #[.pointer (some ⟨g, 0, none⟩)] 157)).alloc (.cells #[tyH 157, .pointer (some ⟨w.heap.size, 0, none⟩), .int .u64 150] 172)).alloc (.cells #[tyH 157, .pointer (some ⟨w.heap.size, 0, none⟩), .int .u64 150] 172)).alloc (.cells #[.int .i64 k, .int .i64 l, .int .i64 a] 101)).setCell ⟨g, 0, none⟩ (.int .i64 k)).setCell ⟨g, 1, none⟩ (.int .i64 l)).setCell ⟨g, 2, none⟩ (.int .i64 a)) := by
    refine ⟨rfl, ?_, ?_⟩
    · simp only [World.setCell, Array.getElem?_modify, hg4]
      simp
    · exact ((Keep.setCell (X := fun b => b = g) (Keep.alloc (Keep.alloc (Keep.alloc (Keep.alloc (Keep.refl _ _) _) _) _) _) (p := ⟨g, 0, none⟩) rfl _).setCell (p := ⟨g, 1, none⟩) rfl _).setCell (p := ⟨g, 2, none⟩) rfl _
  have Fin := Lib.hid fin
  clear fin hg4 hb4 hg
  go_enter Tryd.func132, Tryd.ntmps132
  go_wp2
  refine wp_loop_rounds 1 ?_
  rw [rounds_succ]
  go_wp2
  go_ret
  exact Fin.out
end Go.Proofs.YthcfpmjkfnoofaaDoor
