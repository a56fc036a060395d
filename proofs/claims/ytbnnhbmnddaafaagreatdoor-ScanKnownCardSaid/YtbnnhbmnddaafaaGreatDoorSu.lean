/- A token in memory: five cells, loaded and stored. -/
import Derived.Test.YtbnnhbmnddaafaaGreatDoorGz13
namespace Go.Proofs.YtbnnhbmnddaafaaGreatDoor
open Go Go.RowKit Go.Kt Go.Shelf Go.Lib

abbrev tkA (k : Int) (t : ByteArray) (l c i : Int) : Value := .agg #[.int .i64 k, .string t, .int .i64 l, .int .i64 c, .int .i64 i]
abbrev tkX (k : Int) (t : ByteArray) (l c i : Int) : Array Value := #[.int .i64 k, .string t, .int .i64 l, .int .i64 c, .int .i64 i]
def set5 (V : World) (n : Nat) (k : Int) (t : ByteArray) (l c i : Int) : World :=
  ((((V.setCell ⟨n, 0, none⟩ (.int .i64 k)).setCell ⟨n, 1, none⟩ (.string t)).setCell ⟨n, 2, none⟩ (.int .i64 l)).setCell ⟨n, 3, none⟩ (.int .i64 c)).setCell ⟨n, 4, none⟩ (.int .i64 i)
theorem setc_at {W : World} {n i : Nat} {cs : Array Value} {T : TypeId} {u : Value} (h : W.heap[n]? = some (.cells cs T (0, 0))) :
    (W.setCell ⟨n, i, none⟩ u).heap[n]? = some (.cells (cs.setIfInBounds i u) T (0, 0)) := by
  have hlt := (Array.getElem?_eq_some_iff.1 h).1
  have h' : W.heap[n] = .cells cs T (0, 0) := by rw [Array.getElem?_eq_getElem hlt] at h; exact Option.some.inj h
  simp [World.setCell, hlt, Array.getElem_modify, h']
theorem cell_at5 {W : World} {n i : Nat} {cs : Array Value} {T : TypeId} {u : Value} (h : W.heap[n]? = some (.cells cs T (0, 0))) (hu : cs[i]? = some u) : W.cell? ⟨n, i, none⟩ = some u := by rw [Lib.cell_of_heap h]; exact hu
theorem frozen_at5 {W : World} {n i : Nat} {cs : Array Value} {T : TypeId} (h : W.heap[n]? = some (.cells cs T (0, 0))) : W.frozen? ⟨n, i, none⟩ = false := by simp [World.frozen?, h]
theorem set5_at {V : World} {n : Nat} {a b c d e : Value} (k : Int) (t : ByteArray) (l c' i : Int) (h : V.heap[n]? = some (.cells #[a, b, c, d, e] 30 (0, 0))) : (set5 V n k t l c' i).heap[n]? = some (.cells (tkX k t l c' i) 30 (0, 0)) :=
  setc_at (setc_at (setc_at (setc_at (setc_at h))))
theorem set5_below {D : Nat} {V : World} {n : Nat} (hn : D ≤ n) (k : Int) (t : ByteArray) (l c i : Int) : Below D V (set5 V n k t l c i) := by
  unfold set5
  exact (((((Below.refl D V).setCell (p := ⟨n, 0, none⟩) hn _).setCell (p := ⟨n, 1, none⟩) hn _).setCell (p := ⟨n, 2, none⟩) hn _).setCell (p := ⟨n, 3, none⟩) hn _).setCell (p := ⟨n, 4, none⟩) hn _
set_option maxRecDepth 100000 in
theorem store_new (V : World) (n : Nat) (a b c d e : Value) (k : Int) (t : ByteArray) (l c' i : Int) (h : V.heap[n]? = some (.cells #[a, b, c, d, e] 30 (0, 0))) :
    (Instr.storeAt 30 (.pointer (some ⟨n, 0, none⟩)) (tkA k t l c' i)).run Tryz.prog V = .ok () (set5 V n k t l c' i) := by
  have h1 := setc_at (i := 0) (u := .int .i64 k) h
  have h2 := setc_at (i := 1) (u := .string t) h1
  have h3 := setc_at (i := 2) (u := .int .i64 l) h2
  have h4 := setc_at (i := 3) (u := .int .i64 c') h3
  have q0 := cell_at5 h (i := 0) rfl
  have q1 := cell_at5 h1 (i := 1) rfl
  have q2 := cell_at5 h2 (i := 2) rfl
  have q3 := cell_at5 h3 (i := 3) rfl
  have q4 := cell_at5 h4 (i := 4) rfl
  have f0 := frozen_at5 h (i := 0)
  have f1 := frozen_at5 h1 (i := 1)
  have f2 := frozen_at5 h2 (i := 2)
  have f3 := frozen_at5 h3 (i := 3)
  have f4 := frozen_at5 h4 (i := 4)
  unfold set5
  clear h h1 h2 h3 h4
  go_simp
theorem wpList_store_eq {P : Program} {ops : Array Oper} {rest : List Oper} {o : Oper} {a : Act} {Q : Exit → Act → World → Prop} {w w' : World} {p v : Value} (hgd : o.guard = none) {ty : TypeId} {x y : Operand}
    (ho : o.op = .store ty x y) (hd : o.dst = none) (hx : a.eval x = p) (hy : a.eval y = v) (hrun : (Instr.storeAt ty p v).run P w = .ok () w') (h : wpList P ops Q rest a w') : wpList P ops Q (o :: rest) a w := by
  refine wpList_plain hgd fun K hK => ?_
  refine wp_skipped (exec_store ho hx hy hrun) ?_
  rw [hd]
  exact hK _ _ h

theorem cells5 {V : World} {n : Nat} {k : Int} {t : ByteArray} {l c i : Int} {T : TypeId} (h : V.heap[n]? = some (.cells (tkX k t l c i) T (0, 0))) :
    V.cell? ⟨n, 0, none⟩ = some (.int .i64 k) ∧ V.cell? ⟨n, 1, none⟩ = some (.string t) ∧ V.cell? ⟨n, 2, none⟩ = some (.int .i64 l) ∧ V.cell? ⟨n, 3, none⟩ = some (.int .i64 c) ∧ V.cell? ⟨n, 4, none⟩ = some (.int .i64 i) :=
  ⟨cell_at5 h rfl, cell_at5 h rfl, cell_at5 h rfl, cell_at5 h rfl, cell_at5 h rfl⟩
theorem set_0 {V : World} {n : Nat} {k : Int} {t : ByteArray} {l c i : Int} {T : TypeId} (k2 : Int) (h : V.heap[n]? = some (.cells (tkX k t l c i) T (0, 0))) : (V.setCell ⟨n, 0, none⟩ (.int .i64 k2)).heap[n]? = some (.cells (tkX k2 t l c i) T (0, 0)) := setc_at h
theorem set_t {V : World} {n : Nat} {k : Int} {t : ByteArray} {l c i : Int} {T : TypeId} (t2 : ByteArray) (h : V.heap[n]? = some (.cells (tkX k t l c i) T (0, 0))) : (V.setCell ⟨n, 1, none⟩ (.string t2)).heap[n]? = some (.cells (tkX k t2 l c i) T (0, 0)) := setc_at h
theorem set5_block {V : World} {n m : Nat} (hnm : m < n) (_hm : m < V.heap.size) (k : Int) (t : ByteArray) (l c i : Int) : (set5 V n k t l c i).heap[m]? = V.heap[m]? := (set5_below (D := n) (V := V) (Nat.le_refl _) k t l c i).block m hnm
theorem setc_other {V : World} {n m i : Nat} {u : Value} (hnm : m ≠ n) : (V.setCell ⟨n, i, none⟩ u).heap[m]? = V.heap[m]? := by
  by_cases h : n < V.heap.size
  · simp [World.setCell, Array.getElem?_modify]
    intro h2
    exact absurd h2.symm hnm
  · simp [World.setCell, Array.getElem?_modify]
    intro h2
    exact absurd h2.symm hnm
end Go.Proofs.YtbnnhbmnddaafaaGreatDoor
