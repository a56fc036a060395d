/- Parts of the proof of what the last text says. -/
import Derived.Test.YtmpjlenfnlijfaaGreatDoorCm1
import Derived.Test.YtmpjlenfnlijfaaGreatDoorCm2
import Derived.Laws.OwnMore
import Derived.Laws.Rows
import Derived.RegionTactic
import Derived.BigRegion
import Derived.Stop.RegionWithIn
import Derived.Deep.RegionWith
import Derived.Shelf.SlGeneric
import Derived.Shelf.SlSortCmp.WholeK
import Derived.Shelf.SlicesG.Cmp
import Derived.Ground.SlsfProg
import Derived.Ground.SlgcProg
import Derived.Test.YtmpjlenfnlijfaaGreatDoorProg
import Derived.Shelf.SlSortCmp.NoneTotal
import Derived.OrdersHeld
import Derived.WalkKit
import Derived.Lib.AppendZeros
/- ranges.wide, number, point. -/
namespace Go.Proofs.YtmpjlenfnlijfaaGreatDoor
open Go Go.RowKit Go.Kt Go.Kt.Rg

/-- The table of layer 3 lies. -/
def PTab (w : World) : Prop :=
  w.cell? ⟨0, 0, none⟩ = some (.int .i32 0) ∧ w.cell? ⟨0, 1, none⟩ = some (.int .i32 55295) ∧ w.cell? ⟨0, 2, none⟩ = some (.int .i32 57344) ∧
  w.cell? ⟨0, 3, none⟩ = some (.int .i32 1114111) ∧ w.cell? ⟨0, 4, none⟩ = some (.int .i32 1114240) ∧ w.cell? ⟨0, 5, none⟩ = some (.int .i32 1114367)
theorem PTab.below {w w' : World} (h : PTab w) {n : Nat} (hn : 0 < n) (hb : Below n w w') : PTab w' :=
  ⟨(hb.cell hn).trans h.1, (hb.cell hn).trans h.2.1, (hb.cell hn).trans h.2.2.1, (hb.cell hn).trans h.2.2.2.1, (hb.cell hn).trans h.2.2.2.2.1, (hb.cell hn).trans h.2.2.2.2.2⟩
theorem PTab.lt {w : World} (h : PTab w) : 0 < w.heap.size := lt_of_cell h.1
theorem PTab.next {w w' : World} (h : PTab w) (hb : Below w.heap.size w w') : PTab w' := h.below h.lt hb

set_option maxRecDepth 100000 in
theorem rwide_any (lo hi : Int) (w : World) (h0 : 0 ≤ lo) (h1 : lo ≤ hi) (h2 : hi ≤ 1114367) :
    Calls Tryz.prog 77 #[.agg #[.int .i32 lo, .int .i32 hi]] w fun e w' => e = .returned (.int .i64 (hi - lo + 1)) ∧ Below w.heap.size w w' := by
  go_enter Tryz.func77, Tryz.ntmps77
  go_wp2
  go_ret
  exact ⟨rfl, (Below.refl _ _).alloc (Nat.le_refl _) _⟩

abbrev partsA : Value := .agg #[.int .i32 0, .int .i32 55295, .int .i32 57344, .int .i32 1114111, .int .i32 1114240, .int .i32 1114367]
theorem parts_ix0 : ∀ w : World, (Instr.index 137 (.agg #[.int .i32 0, .int .i32 55295, .int .i32 57344, .int .i32 1114111, .int .i32 1114240, .int .i32 1114367]) (.int .i64 0)).run Tryz.prog w = .ok (.agg #[.int .i32 0, .int .i32 55295]) w := fun _ => by kernel_rfl
theorem parts_ix1 : ∀ w : World, (Instr.index 137 (.agg #[.int .i32 0, .int .i32 55295, .int .i32 57344, .int .i32 1114111, .int .i32 1114240, .int .i32 1114367]) (.int .i64 1)).run Tryz.prog w = .ok (.agg #[.int .i32 57344, .int .i32 1114111]) w := fun _ => by kernel_rfl
theorem parts_ix2 : ∀ w : World, (Instr.index 137 (.agg #[.int .i32 0, .int .i32 55295, .int .i32 57344, .int .i32 1114111, .int .i32 1114240, .int .i32 1114367]) (.int .i64 2)).run Tryz.prog w = .ok (.agg #[.int .i32 1114240, .int .i32 1114367]) w := fun _ => by kernel_rfl

set_option maxRecDepth 100000 in
set_option maxHeartbeats 1000000 in
theorem rnumber_any (r : Int) (w : World) (hT : PTab w) (hr : -2147483648 ≤ r ∧ r ≤ 2147483647) :
    Calls Tryz.prog 28 #[.int .i32 r] w fun e w' => e = .returned (.tuple #[.int .i64 (numB r).1, .bool (numB r).2]) ∧ Below w.heap.size w w' := by
  obtain ⟨R, hR⟩ : ∃ R, numB r = R := ⟨_, rfl⟩
  rw [hR]
  have HR := Lib.hid hR
  obtain ⟨q0, q1, q2, q3, q4, q5⟩ := hT
  have i0 := parts_ix0
  have i1 := parts_ix1
  have i2 := parts_ix2
  have C1 := Lib.hid (fun W => rwide_any 0 55295 W (by omega) (by omega) (by omega))
  have C2 := Lib.hid (fun W => rwide_any 57344 1114111 W (by omega) (by omega) (by omega))
  have C3 := Lib.hid (fun W => rwide_any 1114240 1114367 W (by omega) (by omega) (by omega))
  clear hR
  go_enter Tryz.func28, Tryz.ntmps28
  go_wp2
  go_loopw [4, 8] (fun a x wr => ∃ k : Nat, x = .int .i64 k ∧ Below w.heap.size w wr ∧ ((k = 0 ∧ a = .int .i64 0) ∨ (k = 1 ∧ a = .int .i64 55296 ∧ 55295 < r) ∨ (k = 2 ∧ a = .int .i64 1112064 ∧ 1114111 < r) ∨ (k = 3 ∧ a = .int .i64 1112192 ∧ 1114367 < r))) (fun _ x _ => 3 - (RowKit.intOf x).toNat)
  case atStart => exact ⟨0, rfl, Below.refl _ _, .inl ⟨rfl, rfl⟩⟩
  case round =>
    obtain ⟨k, rfl, hb, hk⟩ := hrel
    have HB := Lib.hid hb
    clear hb
    have hz := HB.out.size
    have fin : ∀ (x : Int) (b : Bool) (W : World), Below w.heap.size wr W → (numB r = (x, b)) → Ending.returned (.tuple #[.int .i64 x, .bool b]) = Ending.returned (.tuple #[.int .i64 R.1, .bool R.2]) ∧ Below w.heap.size w W := fun x b W h e => by
      rw [HR.out] at e; subst e; exact ⟨rfl, HB.out.trans h⟩
    have FIN := Lib.hid fin
    have AL := Lib.hid (fun o => (Below.refl w.heap.size wr).alloc hz o)
    have hzo : ∀ o : Obj, w.heap.size ≤ (wr.alloc o).heap.size := fun o => by simp; omega
    have STEP := Lib.hid (fun (o : Obj) (W : World) (h : Below (wr.alloc o).heap.size (wr.alloc o) W) => HB.out.trans ((AL.out o).trans (h.mono (hzo o))))
    clear fin hz hzo
    rcases hk with ⟨rfl, rfl⟩ | ⟨rfl, rfl, hk⟩ | ⟨rfl, rfl, hk⟩ | ⟨rfl, rfl, hk⟩
    · by_cases h1 : r < 0
      · go_wp2
        go_ret2
        exact FIN.out 0 false _ (AL.out _) (by unfold numB; repeat' split
                                               all_goals first | omega | rfl)
      · by_cases h2 : r ≤ 55295
        · go_wp2
          go_ret2
          refine FIN.out _ true _ (AL.out _) ?_
          unfold numB
          repeat' split
          all_goals first | omega | (congr 1 <;> omega)
        · go_wp2_with fail
          refine (C1.out _).mono ?_
          rintro e w1 ⟨rfl, hb1⟩
          have HB1 := Lib.hid (STEP.out _ _ hb1)
          clear hb1
          go_wp2
          go_roundw
          case rel => exact ⟨1, by go_num, HB1.out, .inr (.inl ⟨rfl, by go_num, by omega⟩)⟩
          case measure => simp [RowKit.intOf]
    · by_cases h1 : r < 57344
      · go_wp2
        go_ret2
        exact FIN.out 0 false _ (AL.out _) (by unfold numB; repeat' split
                                               all_goals first | omega | rfl)
      · by_cases h2 : r ≤ 1114111
        · go_wp2
          go_ret2
          refine FIN.out _ true _ (AL.out _) ?_
          unfold numB
          repeat' split
          all_goals first | omega | (congr 1 <;> omega)
        · go_wp2_with fail
          refine (C2.out _).mono ?_
          rintro e w1 ⟨rfl, hb1⟩
          have HB1 := Lib.hid (STEP.out _ _ hb1)
          clear hb1
          go_wp2
          go_roundw
          case rel => exact ⟨2, by go_num, HB1.out, .inr (.inr (.inl ⟨rfl, by go_num, by omega⟩))⟩
          case measure => simp [RowKit.intOf]
    · by_cases h1 : r < 1114240
      · go_wp2
        go_ret2
        exact FIN.out 0 false _ (AL.out _) (by unfold numB; repeat' split
                                               all_goals first | omega | rfl)
      · by_cases h2 : r ≤ 1114367
        · go_wp2
          go_ret2
          refine FIN.out _ true _ (AL.out _) ?_
          unfold numB
          repeat' split
          all_goals first | omega | (congr 1 <;> omega)
        · go_wp2_with fail
          refine (C3.out _).mono ?_
          rintro e w1 ⟨rfl, hb1⟩
          have HB1 := Lib.hid (STEP.out _ _ hb1)
          clear hb1
          go_wp2
          go_roundw
          case rel => exact ⟨3, by go_num, HB1.out, .inr (.inr (.inr ⟨rfl, by go_num, by omega⟩))⟩
          case measure => simp [RowKit.intOf]
    · go_wp2
      go_ret2
      exact FIN.out 0 false _ (Below.refl _ _) (by unfold numB; repeat' split
                                                   all_goals first | omega | rfl)

set_option maxRecDepth 100000 in
set_option maxHeartbeats 1000000 in
theorem rpoint_any (n : Int) (w : World) (hT : PTab w) (hn : 0 ≤ n ∧ n < 1112192) :
    Calls Tryz.prog 94 #[.int .i64 n] w fun e w' => e = .returned (.int .i32 (pntI n)) ∧ Below w.heap.size w w' := by
  obtain ⟨R, hR⟩ : ∃ R, pntI n = R := ⟨_, rfl⟩
  rw [hR]
  have HR := Lib.hid hR
  obtain ⟨q0, q1, q2, q3, q4, q5⟩ := hT
  have i0 := parts_ix0
  have i1 := parts_ix1
  have i2 := parts_ix2
  have C1 := Lib.hid (fun W => rwide_any 0 55295 W (by omega) (by omega) (by omega))
  have C2 := Lib.hid (fun W => rwide_any 57344 1114111 W (by omega) (by omega) (by omega))
  have C3 := Lib.hid (fun W => rwide_any 1114240 1114367 W (by omega) (by omega) (by omega))
  clear hR
  go_enter Tryz.func94, Tryz.ntmps94
  go_wp2
  go_loopw [0, 6] (fun a x wr => ∃ k : Nat, x = .int .i64 k ∧ Below w.heap.size w wr ∧ ((k = 0 ∧ a = .int .i64 n) ∨ (k = 1 ∧ a = .int .i64 (n - 55296) ∧ 55296 ≤ n) ∨ (k = 2 ∧ a = .int .i64 (n - 1112064) ∧ 1112064 ≤ n))) (fun _ x _ => 3 - (RowKit.intOf x).toNat)
  case atStart => exact ⟨0, rfl, Below.refl _ _, .inl ⟨rfl, rfl⟩⟩
  case round =>
    obtain ⟨k, rfl, hb, hk⟩ := hrel
    have HB := Lib.hid hb
    clear hb
    have hz := HB.out.size
    have fin : ∀ (x : Int) (W : World), Below w.heap.size w W → pntI n = x → Ending.returned (.int .i32 x) = Ending.returned (.int .i32 R) ∧ Below w.heap.size w W := fun x W h e => by
      rw [HR.out] at e; subst e; exact ⟨rfl, h⟩
    have FIN := Lib.hid fin
    have AL := Lib.hid (fun o => (Below.refl w.heap.size wr).alloc hz o)
    have hzo : ∀ o : Obj, w.heap.size ≤ (wr.alloc o).heap.size := fun o => by simp; omega
    have STEP := Lib.hid (fun (o : Obj) (W : World) (h : Below (wr.alloc o).heap.size (wr.alloc o) W) => HB.out.trans ((AL.out o).trans (h.mono (hzo o))))
    clear fin hz hzo
    rcases hk with ⟨rfl, rfl⟩ | ⟨rfl, rfl, hk⟩ | ⟨rfl, rfl, hk⟩
    · go_wp2_with fail
      refine (C1.out _).mono ?_
      rintro e w1 ⟨rfl, hb1⟩
      have k1 := (hb1.cell (by simp)).trans (Lib.cell_of_heap (World.alloc_heap_new wr (.cells #[.int .i32 0, .int .i32 55295] 39)) 0)
      have k2 := (hb1.cell (by simp)).trans (Lib.cell_of_heap (World.alloc_heap_new wr (.cells #[.int .i32 0, .int .i32 55295] 39)) 1)
      have hb2 := STEP.out _ _ hb1
      simp at k1 k2
      have HB2 := Lib.hid hb2
      have hz2 := hb1.size
      clear hb1 hb2
      by_cases h1 : n < 55296
      · go_wp2
        go_ret
        refine FIN.out _ _ HB2.out ?_
        unfold pntI
        repeat' split
        all_goals omega
      · go_wp2_with fail
        refine (C1.out _).mono ?_
        rintro e w2 ⟨rfl, hb3⟩
        have HB3 := Lib.hid (HB2.out.trans (hb3.mono HB2.out.size))
        clear hb3 k1 k2
        go_wp2
        go_roundw
        case rel => exact ⟨1, by go_num, HB3.out, .inr (.inl ⟨rfl, by go_num, by omega⟩)⟩
        case measure => simp [RowKit.intOf]
    · go_wp2_with fail
      refine (C2.out _).mono ?_
      rintro e w1 ⟨rfl, hb1⟩
      have k1 := (hb1.cell (by simp)).trans (Lib.cell_of_heap (World.alloc_heap_new wr (.cells #[.int .i32 57344, .int .i32 1114111] 39)) 0)
      have k2 := (hb1.cell (by simp)).trans (Lib.cell_of_heap (World.alloc_heap_new wr (.cells #[.int .i32 57344, .int .i32 1114111] 39)) 1)
      have hb2 := STEP.out _ _ hb1
      simp at k1 k2
      have HB2 := Lib.hid hb2
      have hz2 := hb1.size
      clear hb1 hb2
      by_cases h1 : n < 1112064
      · go_wp2
        go_ret
        refine FIN.out _ _ HB2.out ?_
        unfold pntI
        repeat' split
        all_goals omega
      · go_wp2_with fail
        refine (C2.out _).mono ?_
        rintro e w2 ⟨rfl, hb3⟩
        have HB3 := Lib.hid (HB2.out.trans (hb3.mono HB2.out.size))
        clear hb3 k1 k2
        go_wp2
        go_roundw
        case rel => exact ⟨2, by go_num, HB3.out, .inr (.inr ⟨rfl, by go_num, by omega⟩)⟩
        case measure => simp [RowKit.intOf]
    · go_wp2_with fail
      refine (C3.out _).mono ?_
      rintro e w1 ⟨rfl, hb1⟩
      have k1 := (hb1.cell (by simp)).trans (Lib.cell_of_heap (World.alloc_heap_new wr (.cells #[.int .i32 1114240, .int .i32 1114367] 39)) 0)
      have k2 := (hb1.cell (by simp)).trans (Lib.cell_of_heap (World.alloc_heap_new wr (.cells #[.int .i32 1114240, .int .i32 1114367] 39)) 1)
      have hb2 := STEP.out _ _ hb1
      simp at k1 k2
      have HB2 := Lib.hid hb2
      have hz2 := hb1.size
      clear hb1 hb2
      by_cases h1 : n < 1112192
      · go_wp2
        go_ret
        refine FIN.out _ _ HB2.out ?_
        unfold pntI
        repeat' split
        all_goals omega
      · omega
end Go.Proofs.YtmpjlenfnlijfaaGreatDoor
/- What is the same of any program: more on rows of one's own, and on worlds that keep their blocks. -/
namespace Go.Kt
open Go Go.RowKit

theorem Keep.plus {X Z : Nat → Prop} {A B C : World} (h : Keep X A B) (k : Keep Z B C) (hz : ∀ b, b < A.heap.size → Z b → X b) : Keep X A C :=
  ⟨k.os.trans h.os, k.tape.trans h.tape, k.output.trans h.output, Nat.le_trans h.size k.size, fun b hb hX => (k.same b (Nat.lt_of_lt_of_le hb h.size) (fun e => hX (hz b hb e))).trans (h.same b hb hX)⟩

/-- One that owns its row: nil, or a row at its head. -/
theorem OwnS.shape {Y : Nat → Prop} {e : TypeId} {size n : Nat} {v : Value} {xs : List Value} {W : World} (h : OwnS Y e size v n xs W) :
    (v = .slice none 0 0 ∧ n = 0) ∨ ∃ g cap, v = .slice (some ⟨g, 0, none⟩) n cap ∧ Y g ∧ g < W.heap.size := by
  rcases h.1.2 with h1 | ⟨g, cap, cur, rfl, _, hg, _⟩
  · exact .inl h1
  · exact .inr ⟨g, cap, rfl, h.2 g rfl, (Array.getElem?_eq_some_iff.1 hg).1⟩
theorem OwnS.at0 {Y : Nat → Prop} {e : TypeId} {n g cap : Nat} {xs : List Value} {W : World} (h : OwnS Y e 1 (.slice (some ⟨g, 0, none⟩) n cap) n xs W) {i : Nat} {u : Value} (hi : xs[i]? = some u) : W.cell? ⟨g, i, none⟩ = some u := by
  have := h.1.cells (g := g) rfl i u hi
  rwa [Addr.add_lit, Nat.zero_add] at this
theorem OwnS.frozen {Y : Nat → Prop} {e : TypeId} {n g cap : Nat} {xs : List Value} {W : World} (h : OwnS Y e 1 (.slice (some ⟨g, 0, none⟩) n cap) n xs W) (i : Nat) : W.frozen? ⟨g, i, none⟩ = false := by
  rcases h.1.2 with ⟨h1, _⟩ | ⟨g', cap', cur, h1, _, hg, _⟩
  · cases h1
  · injection h1 with e1 _ _
    injection e1 with e1
    injection e1 with e1
    subst e1
    exact Lib.frozen_of_heap hg i

theorem OwnS.self {Y : Nat → Prop} {e : TypeId} {size n : Nat} {v : Value} {xs : List Value} {A : World} (h : OwnS Y e size v n xs A) : OwnS (fun b => v.ownBlock = some b) e size v n xs A := ⟨h.1, fun _ hg => hg⟩
theorem OwnS.keepX {X Y : Nat → Prop} {e : TypeId} {size n : Nat} {v : Value} {xs : List Value} {A B : World} (h : OwnS Y e size v n xs A) (hk : Keep X A B) (hX : ∀ b, X b → v.ownBlock ≠ some b) : OwnS Y e size v n xs B :=
  ⟨(h.self.keep hk (fun b hb hy => hX b hb hy)).1, h.2⟩

end Go.Kt
/- Sets in memory; common, Count, Has. -/
namespace Go.Proofs.YtmpjlenfnlijfaaGreatDoor
open Go Go.RowKit Go.Kt Go.Kt.Rg Go.Kt.Bits

/-- The cells of runs. -/
def encR (l : List Run) : List Value := l.flatMap fun x => [.int .i64 x.1, .int .i64 x.2]
/-- A slice of runs at the head of its block. -/
def SlR (W : World) (v : Value) (l : List Run) : Prop :=
  ∃ ao cap, v = .slice ao l.length cap ∧ (l = [] ∨ ∃ g, ao = some ⟨g, 0, none⟩ ∧ ∀ (i : Nat) (x : Run), l[i]? = some x → W.cell? ⟨g, i * 2, none⟩ = some (.int .i64 x.1) ∧ W.cell? ⟨g, i * 2 + 1, none⟩ = some (.int .i64 x.2))
theorem SlR.below {A B : World} {v : Value} {l : List Run} (h : SlR A v l) (hb : Below A.heap.size A B) : SlR B v l := by
  obtain ⟨ao, cap, rfl, h⟩ := h
  refine ⟨ao, cap, rfl, ?_⟩
  rcases h with h | ⟨g, rfl, h⟩
  · exact .inl h
  · exact .inr ⟨g, rfl, fun i x hx => ⟨(hb.cell (lt_of_cell (h i x hx).1)).trans (h i x hx).1, (hb.cell (lt_of_cell (h i x hx).2)).trans (h i x hx).2⟩⟩
/-- A set in memory: its Set lies in the block b. -/
def SetAt (l : List Run) (b : Nat) (W : World) : Prop := ∃ v, W.cell? ⟨b, 0, none⟩ = some v ∧ SlR W v l
theorem SetAt.below {A B : World} {b : Nat} {l : List Run} (h : SetAt l b A) (hb : Below A.heap.size A B) : SetAt l b B := by
  obtain ⟨v, h1, h2⟩ := h
  exact ⟨v, (hb.cell (lt_of_cell h1)).trans h1, h2.below hb⟩
abbrev ptrV (b : Nat) : Value := .pointer (some ⟨b, 0, none⟩)

set_option maxRecDepth 100000 in
theorem rcommon_any (a b : Run) (w : World) (ha : 0 ≤ a.1 ∧ a.1 < a.2 ∧ a.2 ≤ allN) (hb : 0 ≤ b.1 ∧ b.1 < b.2 ∧ b.2 ≤ allN) :
    Calls Tryz.prog 72 #[.agg #[.int .i64 a.1, .int .i64 a.2], .agg #[.int .i64 b.1, .int .i64 b.2]] w fun e w' => e = .returned (.agg #[.int .i64 (commonR a b).1, .int .i64 (commonR a b).2]) ∧ Below w.heap.size w w' := by
  obtain ⟨R, hR⟩ : ∃ R, commonR a b = R := ⟨_, rfl⟩
  rw [hR]
  have HR := Lib.hid hR
  clear hR
  obtain ⟨a1, a2⟩ := a
  obtain ⟨b1, b2⟩ := b
  simp only at ha hb ⊢
  go_enter Tryz.func72, Tryz.ntmps72
  go_wp2
  · rename_i hlt
    (try simp only [Exit.inBlock, Exit.then])
    refine bodyPost_ret (results_cell_row rfl _ _ (w.heap.size + 1 + 1) 85 _ (0, 0) _ rfl (alloc_old (alloc_at (by simp))) Tryz.underlying85 rfl (by kernel_rfl)) rfl ?_
    refine ⟨?_, ((((Below.refl _ _).alloc (Nat.le_refl _) _).alloc (by simp) _).alloc (by simp; omega) _).alloc (by simp; omega) _⟩
    have := HR.out
    unfold commonR at this
    rw [if_pos (by simp only; omega)] at this
    subst this; rfl
  · rename_i hlt
    (try simp only [Exit.inBlock, Exit.then])
    refine bodyPost_ret (results_cell_row rfl _ _ (w.heap.size + 1 + 1) 85 _ (0, 0) _ rfl (alloc_old (alloc_at (by simp))) Tryz.underlying85 rfl (by kernel_rfl)) rfl ?_
    refine ⟨?_, ((((Below.refl _ _).alloc (Nat.le_refl _) _).alloc (by simp) _).alloc (by simp; omega) _).alloc (by simp; omega) _⟩
    have := HR.out
    unfold commonR at this
    rw [if_neg (by simp only; omega)] at this
    subst this; rfl

theorem cnt_take (l : List Run) (k : Nat) (x : Run) (h : l[k]? = some x) : cntL (l.take (k + 1)) = cntL (l.take k) + (x.2 - x.1) := by
  induction l generalizing k with
  | nil => simp at h
  | cons y t ih =>
    cases k with
    | zero => simp at h; subst h; simp [cntL]
    | succ k =>
      simp at h
      have := ih k h
      simp only [List.take_succ_cons, cntL]
      omega
theorem CanonFrom.take : ∀ {l : List Run} {lo : Int} (k : Nat), CanonFrom lo l → CanonFrom lo (l.take k)
  | [], _, k, h => by simp; exact h
  | x :: t, lo, 0, _ => trivial
  | x :: t, lo, k + 1, h => ⟨h.1, h.2.1, h.2.2.1, CanonFrom.take k h.2.2.2⟩

set_option maxRecDepth 100000 in
theorem rcount_any (l : List Run) (b : Nat) (w : World) (h : SetAt l b w) (hc : Canon l) :
    Calls Tryz.prog 34 #[ptrV b] w fun e w' => e = .returned (.int .i64 (cntL l)) ∧ Below w.heap.size w w' := by
  obtain ⟨v, h1, ao, cap, rfl, h2⟩ := h
  have hlen := canon_len hc (Int.le_refl _)
  have hl : l.length ≤ 1112192 := by unfold allN at hlen; omega
  have H2 := Lib.hid h2
  have HC := Lib.hid hc
  clear h2 hc hlen
  go_enter Tryz.func34, Tryz.ntmps34
  go_wp2
  obtain ⟨n, hn⟩ : ∃ n, l.length = n := ⟨_, rfl⟩
  have HN := Lib.hid hn
  rw [hn] at hl ⊢
  clear hn
  go_loopw [3, 11] (fun a x wr => ∃ k : Nat, x = .int .i64 k ∧ k ≤ n ∧ a = .int .i64 (cntL (l.take k)) ∧ Below w.heap.size w wr) (fun _ x _ => n - (RowKit.intOf x).toNat)
  case atStart => exact ⟨0, rfl, by omega, rfl, Below.refl _ _⟩
  case round =>
    obtain ⟨k, rfl, hk, rfl, hb⟩ := hrel
    have HB := Lib.hid hb
    clear hb
    by_cases hlt : k < n
    · have hlt' : (k : Int) < n := by omega
      obtain ⟨x, hx⟩ : ∃ x, l[k]? = some x := ⟨_, List.getElem?_eq_getElem (by rw [HN.out]; exact hlt)⟩
      obtain ⟨g, rfl, r1, r2⟩ : ∃ g, ao = some ⟨g, 0, none⟩ ∧ wr.cell? ⟨g, k * 2, none⟩ = some (.int .i64 x.1) ∧ wr.cell? ⟨g, k * 2 + 1, none⟩ = some (.int .i64 x.2) := by
        rcases H2.out with h | ⟨g, e, h⟩
        · subst h; simp at hx
        · exact ⟨g, e, (HB.out.cell (lt_of_cell (h k x hx).1)).trans (h k x hx).1, (HB.out.cell (lt_of_cell (h k x hx).2)).trans (h k x hx).2⟩
      have hf := Canon.fit HC.out x (List.mem_of_getElem? hx)
      have hcb := cnt_bd (CanonFrom.take k HC.out) (Int.le_refl _) (by decide)
      have hcs := Lib.hid (cnt_take l k x hx)
      unfold allN at hf hcb
      obtain ⟨x1, x2⟩ := x
      simp only at hf hcs r1 r2
      clear hx
      generalize cntL (l.take k) = A at *
      go_wp2
      go_roundw
      case rel => exact ⟨k + 1, by go_num, by omega, by rw [hcs.out], HB.out.trans ((Below.refl _ _).alloc HB.out.size _)⟩
      case measure => simp [RowKit.intOf]; omega
    · have hlt' : ¬ (k : Int) < n := by omega
      obtain rfl : k = n := by omega
      have e : l.take k = l := by rw [← HN.out, List.take_length]
      rw [e]
      go_wp2
      go_ret
      exact ⟨rfl, HB.out⟩

set_option maxRecDepth 100000 in
theorem rhasc_any (l : List Run) (b pb nb i : Nat) (n : Int) (W : World) (h : SetAt l b W) (hl : l.length ≤ 9223372036854775807) (hi : i < l.length)
    (c1 : W.cell? ⟨pb, 0, none⟩ = some (ptrV b)) (c2 : W.cell? ⟨nb, 0, none⟩ = some (.int .i64 n)) :
    Calls Tryz.prog 88 #[.int .i64 i, .pointer (some ⟨pb, 0, none⟩), .pointer (some ⟨nb, 0, none⟩)] W fun e w' => e = .returned (.bool (behB l n i)) ∧ ∃ q, w' = W.drewN q := by
  obtain ⟨v, h1, ao, cap, rfl, h2⟩ := h
  obtain ⟨x, hx⟩ : ∃ x, l[i]? = some x := ⟨_, List.getElem?_eq_getElem hi⟩
  obtain ⟨g, rfl, r1, r2⟩ : ∃ g, ao = some ⟨g, 0, none⟩ ∧ W.cell? ⟨g, i * 2, none⟩ = some (.int .i64 x.1) ∧ W.cell? ⟨g, i * 2 + 1, none⟩ = some (.int .i64 x.2) := by
    rcases h2 with h | ⟨g, e, h⟩
    · subst h; simp at hx
    · exact ⟨g, e, (h i x hx).1, (h i x hx).2⟩
  rw [beh_some hx]
  have hi' : (i : Int) < (l.length : Nat) := by omega
  generalize l.length = N at *
  clear hx h2
  go_enter Tryz.func88, Tryz.ntmps88
  go_wp2
  go_quiet (fail)
  go_wp2
  go_ret
  exact ⟨by simp, _, rfl⟩

set_option maxRecDepth 100000 in
set_option maxHeartbeats 1000000 in
theorem rhas_any (l : List Run) (b : Nat) (r : Int) (w : World) (h : SetAt l b w) (hc : Canon l) (hT : PTab w) (hr : -2147483648 ≤ r ∧ r ≤ 2147483647) :
    Calls Tryz.prog 35 #[ptrV b, .int .i32 r] w fun e w' => e = .returned (.bool (hasB l r)) ∧ Below w.heap.size w w' := by
  have hlen := canon_len hc (Int.le_refl _)
  have hl : l.length ≤ 1112192 := by unfold allN at hlen; omega
  have H := Lib.hid h
  have HC := Lib.hid hc
  have CN := Lib.hid (fun W (hT : PTab W) => rnumber_any r W hT hr)
  have HT := Lib.hid hT
  have hnb := numB_bd r
  have HP := Lib.hid (show hasB l r = ((numB r).2 && memB l (numB r).1) from rfl)
  generalize numB r = R at *
  obtain ⟨n, pt⟩ := R
  simp only at hnb HP CN
  clear h hc hT hlen
  go_enter Tryz.func35, Tryz.ntmps35
  go_wp2_with fail
  refine (CN.out _ (HT.out.next ((Below.refl _ _).alloc (Nat.le_refl _) _))).mono ?_
  rintro e w1 ⟨rfl, hb1⟩
  have hb2 : Below w.heap.size w w1 := ((Below.refl _ _).alloc (Nat.le_refl _) _).trans (hb1.mono (by simp))
  have hz1 : w.heap.size < w1.heap.size := by have := hb1.size; simp at this; omega
  have p0 : w1.cell? ⟨w.heap.size, 0, none⟩ = some (ptrV b) := by
    have := (hb1.cell (by simp)).trans (Lib.cell_of_heap (World.alloc_heap_new w (.cells #[ptrV b] 25)) 0)
    simpa using this
  have hS := H.out.below hb2
  have hS0 := Lib.hid hS
  obtain ⟨v, h1, ao, cap, rfl, h2⟩ := hS
  have H2 := Lib.hid h2
  have hltb := lt_of_cell h1
  obtain ⟨m, hm⟩ : ∃ m, w.heap.size = m := ⟨_, rfl⟩
  have HM := Lib.hid hm
  rw [hm] at hb2 hz1 p0 ⊢
  have HB2 := Lib.hid hb2
  clear hb1 hb2 h2 hm
  obtain ⟨V, hV⟩ : ∃ V, w1.alloc (.cells #[.int .i64 n] 3) = V := ⟨_, rfl⟩
  have hbV : Below w1.heap.size w1 V := by rw [← hV]; exact (Below.refl _ _).alloc (Nat.le_refl _) _
  have v1 := (hbV.cell hz1).trans p0
  have v2 : V.cell? ⟨w1.heap.size, 0, none⟩ = some (.int .i64 n) := by rw [← hV, Lib.cell_of_heap (World.alloc_heap_new w1 _)]; rfl
  have v3 := (hbV.cell hltb).trans h1
  have hSV := Lib.hid (hS0.out.below hbV)
  have hbmV := HB2.out.trans (hbV.mono (Nat.le_of_lt hz1))
  have HBV := Lib.hid hbmV
  have HV := Lib.hid hV
  clear hbV hbmV hV
  have SC : Hid (Calls Tryz.prog 87 #[.int .i64 (l.length : Nat), .func (.func 88) #[] #[.pointer (some ⟨m, 0, none⟩), .pointer (some ⟨w1.heap.size, 0, none⟩)]] V fun e w' => e = .returned (.int .i64 (cnt (fun i => !behB l n i) l.length : Nat)) ∧ ∃ k, w' = V.drewN k) :=
    Lib.hid (search_any 88 #[.pointer (some ⟨m, 0, none⟩), .pointer (some ⟨w1.heap.size, 0, none⟩)] l.length (behB l n) V (enters_of Tryz.func88 (by kernel_rfl) rfl) (by omega)
      (fun k i hi => rhasc_any l b m w1.heap.size i n (V.drewN k) (hSV.out.below (below_drewN (Below.refl _ _) _)) (by omega) hi v1 v2) (beh_mono n HC.out))
  have CF := Lib.hid (count_front (behB l n) (beh_mono n HC.out) l.length)
  have hjl := cnt_le (fun i => !behB l n i) l.length
  have HA := Lib.hid (fun j h1 h2 => has_at HC.out n j h1 h2)
  have RC : Hid (∀ (i : Nat) (x : Run), l[i]? = some x → ∃ g, ao = some ⟨g, 0, none⟩ ∧ V.cell? ⟨g, i * 2, none⟩ = some (.int .i64 x.1)) := Lib.hid fun i x hx => by
    obtain ⟨v, h1, ao', cap', rfl, h2⟩ := hSV.out
    obtain e := Option.some.inj (v3.symm.trans h1)
    injection e with e1 _ _
    subst e1
    rcases h2 with h | ⟨g, e, h⟩
    · subst h; simp at hx
    · exact ⟨g, e, (h i x hx).1⟩
  generalize cnt (fun i => !behB l n i) l.length = j at *
  have V1 := Lib.hid (And.intro v1 (And.intro v2 v3))
  clear v1 v2 v3
  go_wp2_with fail
  rw [HV.out]
  refine SC.out.mono ?_
  rintro e w2 ⟨rfl, k, rfl⟩
  obtain ⟨v1, v2, v3⟩ := V1.out
  have HAJ : Hid (inS l n ↔ ∃ x, l[j]? = some x ∧ x.1 ≤ n) := Lib.hid (HA.out j CF.out.1 CF.out.2)
  have fin : ∀ (t : Bool) (W : World), Below w.heap.size V W → t = (pt && memB l n) → Ending.returned (.bool t) = Ending.returned (.bool (hasB l r)) ∧ Below w.heap.size w W := fun t W hb e => by
    have := HBV.out
    rw [← HM.out] at this
    rw [HP.out, e]; exact ⟨rfl, this.trans hb⟩
  have FIN := Lib.hid fin
  clear fin
  have mem0 : Hid (¬ (∃ x, l[j]? = some x ∧ x.1 ≤ n) → memB l n = false) := Lib.hid fun h => by rw [Bool.eq_false_iff]; intro h'; exact h (HAJ.out.1 ((memB_iff _ _).1 h'))
  have mem1 : Hid ((∃ x, l[j]? = some x ∧ x.1 ≤ n) → memB l n = true) := Lib.hid fun h => (memB_iff _ _).2 (HAJ.out.2 h)
  cases pt with
  | false =>
    go_wp2_with fail
    go_quiet (fail)
    go_wp2
    go_ret
    exact FIN.out _ _ (below_drewN (below_drewN (Below.refl _ _) _) _) rfl
  | true =>
    by_cases hj : j < l.length
    · obtain ⟨x, hx⟩ : ∃ x, l[j]? = some x := ⟨_, List.getElem?_eq_getElem hj⟩
      obtain ⟨g, rfl, r1⟩ := RC.out j x hx
      have hj' : (j : Int) < (l.length : Nat) := by omega
      have HX := Lib.hid hx
      clear hx
      by_cases hle : x.1 ≤ n
      · have hd : decide (x.1 ≤ n) = true := decide_eq_true hle
        have hm1 := Lib.hid (mem1.out ⟨x, HX.out, hle⟩)
        generalize l.length = N at *
        go_wp2_with fail
        go_quiet (fail)
        go_wp2
        go_ret
        refine FIN.out _ _ (below_drewN (below_drewN (Below.refl _ _) _) _) ?_
        rw [hm1.out]; simp
      · have hd : decide (x.1 ≤ n) = false := decide_eq_false hle
        have hm1 := Lib.hid (mem0.out (by rintro ⟨y, hy, h⟩; rw [HX.out] at hy; cases hy; exact hle h))
        generalize l.length = N at *
        go_wp2_with fail
        go_quiet (fail)
        go_wp2
        go_ret
        refine FIN.out _ _ (below_drewN (below_drewN (Below.refl _ _) _) _) ?_
        rw [hm1.out]; simp
    · have hj' : ¬ (j : Int) < (l.length : Nat) := by omega
      have hd : decide ((j : Int) < (l.length : Nat)) = false := decide_eq_false hj'
      have hm1 := Lib.hid (mem0.out (by rintro ⟨y, hy, h⟩; exact hj (List.getElem?_eq_some_iff.1 hy).1))
      generalize l.length = N at *
      go_wp2_with fail
      go_quiet (fail)
      go_wp2
      go_ret
      refine FIN.out _ _ (below_drewN (below_drewN (Below.refl _ _) _) _) ?_
      rw [hm1.out]; simp
end Go.Proofs.YtmpjlenfnlijfaaGreatDoor
/- Rows of runs that a call makes; Not. -/
namespace Go.Proofs.YtmpjlenfnlijfaaGreatDoor
open Go Go.RowKit Go.Kt Go.Kt.Rg

theorem tinfoRun : (Tryz.prog.info? 85).map (fun i => (i.zero, i.size, i.bytes)) = some (some (.agg #[.int .i64 0, .int .i64 0]), 2, 16) := by kernel_rfl
theorem encR_nil : encR [] = [] := rfl
theorem encR_snoc (l : List Run) (x : Run) : encR (l ++ [x]) = encR l ++ [.int .i64 x.1, .int .i64 x.2] := by simp [encR]
theorem encR_len (l : List Run) : (encR l).length = l.length * 2 := by
  induction l with
  | nil => rfl
  | cons x t ih => simp only [encR, List.flatMap_cons, List.length_append, List.length_cons, List.length_nil] at ih ⊢; omega
theorem encR_get : ∀ (l : List Run) (i : Nat) (x : Run), l[i]? = some x → (encR l)[i * 2]? = some (.int .i64 x.1) ∧ (encR l)[i * 2 + 1]? = some (.int .i64 x.2)
  | [], i, x, h => by simp at h
  | y :: t, 0, x, h => by
    obtain rfl := Option.some.inj h
    exact ⟨rfl, rfl⟩
  | y :: t, i + 1, x, h => by
    have := encR_get t i x (by simpa using h)
    show ([Value.int .i64 y.1, .int .i64 y.2] ++ encR t)[(i + 1) * 2]? = _ ∧ ([Value.int .i64 y.1, .int .i64 y.2] ++ encR t)[(i + 1) * 2 + 1]? = _
    rw [List.getElem?_append_right (by simp; omega), List.getElem?_append_right (by simp; omega)]
    simp only [List.length_cons, List.length_nil]
    rw [show (i + 1) * 2 - (0 + 1 + 1) = i * 2 by omega, show (i + 1) * 2 + 1 - (0 + 1 + 1) = i * 2 + 1 by omega]
    exact this
theorem slr_of_own {Y : Nat → Prop} {v : Value} {n : Nat} {l : List Run} {W : World} (h : OwnS Y 85 2 v n (encR l) W) (hn : n = l.length) : SlR W v l := by
  subst hn
  rcases h.1.2 with ⟨hv, hn⟩ | ⟨g, cap, cur, hv, rest⟩
  · exact ⟨none, 0, by rw [hv, hn], .inl (List.eq_nil_of_length_eq_zero hn)⟩
  · refine ⟨_, cap, hv, .inr ⟨g, rfl, fun i x hx => ?_⟩⟩
    subst hv
    have e := encR_get l i x hx
    have c1 := h.1.cells (g := g) rfl _ _ e.1
    have c2 := h.1.cells (g := g) rfl _ _ e.2
    rw [Addr.add_lit, Nat.zero_add] at c1 c2
    exact ⟨c1, c2⟩
/-- A Set made of a row. -/
theorem set_box {v : Value} {l : List Run} {W : World} (h : SlR W v l) : SetAt l W.heap.size (W.alloc (.cells #[v] 88)) :=
  ⟨v, by rw [Lib.cell_of_heap (World.alloc_heap_new W _)]; rfl, h.below ((Below.refl _ W).alloc (Nat.le_refl _) _)⟩
/-- A new set is handed back. -/
def MadeS (l : List Run) (w : World) (e : Ending) (w' : World) : Prop := ∃ b, e = .returned (ptrV b) ∧ SetAt l b w' ∧ Below w.heap.size w w'

/-- A row without elements and with room. -/
theorem mk_runs (W : World) (c : Nat) (hc : 16 * c ≤ 281474976710656) :
    ∃ w2, (Instr.makeSlice 78 (.int .i64 0) (.int .i64 (c : Int))).run Tryz.prog W = .ok (.slice (some ⟨W.heap.size, 0, none⟩) 0 c) w2 ∧
      OwnS (fun b => b = W.heap.size) 85 2 (.slice (some ⟨W.heap.size, 0, none⟩) 0 c) 0 (encR []) w2 ∧ w2.heap.size = W.heap.size + 1 ∧ Below W.heap.size W w2 := by
  obtain ⟨i, hi, hz, hs1, hbb1⟩ := info_parts tinfoRun
  have hb' : (i.bytes : Int) * (c : Int) ≤ 281474976710656 := by rw [hbb1]; omega
  have hr := run_make (P := Tryz.prog) W 78 85 i _ Tryz.underlying78 hi hz .i64 .i64 0 c (Int.le_refl _) (by omega) hb' (by omega)
  simp only [Int.toNat_zero, Int.toNat_natCast] at hr
  have hm : c ≤ maxLen := by unfold maxLen; omega
  have hq := World.ownsRow_made (base := 0) W (madeCells (Value.agg #[.int .i64 0, .int .i64 0]).cells (c * i.size)) c (Nat.zero_le _) hm (size_madeCells _ _) (e := 85)
  rw [hs1] at hq hr
  exact ⟨_, hr, ⟨hq, fun g h => by cases h; rfl⟩, by simp, (Below.refl _ W).alloc (Nat.le_refl _) _⟩

/-- Where a row of one's own lies. -/
theorem own_ne {Y : Nat → Prop} {e : TypeId} {size n : Nat} {v : Value} {xs : List Value} {W : World} (h : OwnS Y e size v n xs W) {g : Nat} (hg : v.ownBlock = some g) : g < W.heap.size := by
  rcases h.shape with ⟨rfl, _⟩ | ⟨g', cap, rfl, _, hlt⟩
  · cases hg
  · cases hg; exact hlt
/-- One run more behind a row of one's own. -/
theorem append_run {B : Nat} {ao : Option Addr} {n cp : Nat} {l : List Run} {W0 W : World} (hown : OwnS (fun b => B ≤ b) 85 2 (.slice ao n cp) n (encR l) W) (hb : Below B W0 W) (hBW : B ≤ W.heap.size) (x : Run) (hn : n ≤ 2199023255552) :
    ∃ g cap w', (∀ ty, (Builtin.append_ #[78, 78] ty #[.slice ao n cp, .slice (some ⟨W.heap.size, 0, none⟩) 1 1]).run Tryz.prog (W.alloc (.cells #[.int .i64 x.1, .int .i64 x.2] 85)) = .ok (.slice (some ⟨g, 0, none⟩) (n + 1) cap) w') ∧
      OwnS (fun b => B ≤ b) 85 2 (.slice (some ⟨g, 0, none⟩) (n + 1) cap) (n + 1) (encR (l ++ [x])) w' ∧ Below B W0 w' ∧ W.heap.size < w'.heap.size ∧ Keep (fun b => (Value.slice ao n cp).ownBlock = some b) W w' := by
  obtain ⟨g, cap, w2, hrun, hown2, hk2, hg2, hz2⟩ := append_x (P := Tryz.prog) W 78 85 Tryz.underlying78 tinfoRun rfl (by omega) hown [.int .i64 x.1, .int .i64 x.2] rfl
    (by intro u hu; simp at hu; rcases hu with rfl | rfl <;> rfl) (by unfold maxLen; omega) (by omega)
  have hge : B ≤ g := by
    rcases hg2 with h | h
    · exact hown.2 g h
    · omega
  refine ⟨g, cap, w2, hrun, ?_, hb.trans (hk2.below hBW fun b h => hown.2 b h), hz2, hk2⟩
  rw [encR_snoc]; exact hown2.weaken (fun b h => by subst h; exact hge)

theorem bothL_len : ∀ (s t : List Run), (bothL s t).length ≤ s.length + t.length := by
  intro s t
  fun_induction bothL s t with
  | case1 t => simp
  | case2 a s => simp
  | case3 a s b t h ih => rw [List.length_append]; simp only [List.length_cons] at *; have : (oneR (commonR a b)).length ≤ 1 := by (unfold oneR; split <;> simp)
                          omega
  | case4 a s b t h ih => rw [List.length_append]; simp only [List.length_cons] at *; have : (oneR (commonR a b)).length ≤ 1 := by (unfold oneR; split <;> simp)
                          omega

set_option maxRecDepth 100000 in
set_option maxHeartbeats 2000000 in
theorem rnot_any (l : List Run) (b : Nat) (w : World) (h : SetAt l b w) (hc : Canon l) :
    Calls Tryz.prog 23 #[ptrV b] w (MadeS (notL 0 l) w) := by
  have hlen := canon_len hc (Int.le_refl _)
  have hl : l.length ≤ 1112192 := by unfold allN at hlen; omega
  obtain ⟨v, h1, ao, cap, rfl, h2⟩ := h
  have H2 := Lib.hid h2
  have HC := Lib.hid hc
  obtain ⟨n, hn⟩ : ∃ n, l.length = n := ⟨_, rfl⟩
  rw [hn] at hl h1
  have HN := Lib.hid hn
  obtain ⟨w1, hrun, hown1, hz1, hb1⟩ := mk_runs w (n + 1) (by omega)
  have hltb := lt_of_cell h1
  have h1' := (hb1.cell hltb).trans h1
  have HRun := Lib.hid hrun
  have hrun' : (Instr.makeSlice 78 (.int .i64 0) (.int .i64 ((n : Int) + 1))).run Tryz.prog w = .ok (.slice (some ⟨w.heap.size, 0, none⟩) 0 (n + 1)) w1 := hrun
  have O1 := Lib.hid (And.intro hown1 hb1)
  clear h2 hc hlen hn hrun hown1 hb1
  go_enter Tryz.func23, Tryz.ntmps23
  go_wp2
  have hset := Lib.hid (And.intro h1' hltb)
  go_loopw [3, 4, 19] (fun o bh x wr => ∃ (k m cp : Nat) (ap : Option Addr) (done : List Run) (B : Int), x = .int .i64 k ∧ k ≤ n ∧ o = .slice ap m cp ∧ bh = .int .i64 B ∧ m = done.length ∧ m ≤ k ∧ 0 ≤ B ∧ B ≤ 1112192 ∧
      done ++ notL B (l.drop k) = notL 0 l ∧ OwnS (fun y => w.heap.size ≤ y) 85 2 (.slice ap m cp) m (encR done) wr ∧ Below w.heap.size w wr) (fun _ _ x _ => n - (RowKit.intOf x).toNat)
  case atStart => exact ⟨0, 0, n + 1, some ⟨w.heap.size, 0, none⟩, [], 0, rfl, by omega, rfl, rfl, rfl, by omega, by omega, by omega, rfl, O1.out.1.weaken (fun y h => by subst h; exact Nat.le_refl _), O1.out.2⟩
  case round =>
    obtain ⟨k, m, cp, ap, done, B, rfl, hk, rfl, rfl, hm, hmk, hB0, hB1, hdone, hown, hb⟩ := hrel
    have hbs := hb.size
    have HM := Lib.hid hm
    clear h1' hm
    by_cases hlt : k < n
    · have hlt' : (k : Int) < n := by omega
      obtain ⟨x, hx⟩ : ∃ x, l[k]? = some x := ⟨_, List.getElem?_eq_getElem (by rw [HN.out]; exact hlt)⟩
      obtain ⟨g, rfl, r1, r2⟩ : ∃ g, ao = some ⟨g, 0, none⟩ ∧ wr.cell? ⟨g, k * 2, none⟩ = some (.int .i64 x.1) ∧ wr.cell? ⟨g, k * 2 + 1, none⟩ = some (.int .i64 x.2) := by
        rcases H2.out with h | ⟨g, e, h⟩
        · subst h; simp at hx
        · exact ⟨g, e, (hb.cell (lt_of_cell (h k x hx).1)).trans (h k x hx).1, (hb.cell (lt_of_cell (h k x hx).2)).trans (h k x hx).2⟩
      have hf := Canon.fit HC.out x (List.mem_of_getElem? hx)
      have hdr : l.drop k = x :: l.drop (k + 1) := by
        obtain ⟨hkl, rfl⟩ := List.getElem?_eq_some_iff.1 hx
        exact List.drop_eq_getElem_cons hkl
      rw [hdr, notL] at hdone
      unfold allN at hf
      obtain ⟨x1, x2⟩ := x
      simp only at hf r1 r2 hdone
      obtain ⟨W, hW⟩ : ∃ W, wr.alloc (.cells #[.int .i64 x1, .int .i64 x2] 85) = W := ⟨_, rfl⟩
      have hzW : W.heap.size = wr.heap.size + 1 := by rw [← hW]; simp
      have hbW : Below w.heap.size w W := by rw [← hW]; exact hb.alloc hbs _
      have c0 : W.cell? ⟨wr.heap.size, 0, none⟩ = some (.int .i64 x1) := by rw [← hW, Lib.cell_of_heap (World.alloc_heap_new wr _)]; rfl
      have c1 : W.cell? ⟨wr.heap.size, 1, none⟩ = some (.int .i64 x2) := by rw [← hW, Lib.cell_of_heap (World.alloc_heap_new wr _)]; rfl
      have hownW : OwnS (fun y => w.heap.size ≤ y) 85 2 (.slice ap m cp) m (encR done) W := by rw [← hW]; exact ⟨hown.1.alloc _, hown.2⟩
      by_cases hlo : B < x1
      · rw [if_pos hlo] at hdone
        obtain ⟨g2, cap2, w2, hrun2, hown2, hb2, hz2, hk2⟩ := append_run hownW hbW (by rw [hzW]; omega) (B, x1) (by omega)
        have d1 := hk2.cell c1 (fun h => absurd (own_ne hown h) (Nat.lt_irrefl _))
        rw [hzW, ← hW] at hrun2
        have HRun2 := Lib.hid hrun2
        have HG := Lib.hid (And.intro hown2 (And.intro hb2 hdone))
        have HW := Lib.hid hW
        clear hrun2 hown2 hb2 hz2 hk2 hdone hown hownW hb hbW hW hzW hx hdr
        go_wp2_with (at_builtin; refine wpList_append_eq rfl rfl rfl rfl HRun2.out ?_)
        go_roundw
        case rel => exact ⟨k + 1, m + 1, cap2, some ⟨g2, 0, none⟩, done ++ [(B, x1)], x2, by go_num, by omega, rfl, rfl, by simp [HM.out], by omega, by omega, by omega, by rw [List.append_assoc]; exact HG.out.2.2, HG.out.1, HG.out.2.1⟩
        case measure => simp [RowKit.intOf]; omega
      · rw [if_neg hlo] at hdone
        have HG := Lib.hid (And.intro hownW (And.intro hbW hdone))
        have HW := Lib.hid hW
        clear hdone hown hownW hb hbW hW hzW hx hdr
        go_wp2_with fail
        rw [HW.out]
        go_roundw
        case rel => exact ⟨k + 1, m, cp, ap, done, x2, by go_num, by omega, rfl, rfl, HM.out, by omega, by omega, by omega, HG.out.2.2, HG.out.1, HG.out.2.1⟩
        case measure => simp [RowKit.intOf]; omega
    · have hlt' : ¬ (k : Int) < n := by omega
      obtain rfl : k = n := by omega
      have hdr : l.drop k = [] := by rw [← HN.out]; exact List.drop_length
      rw [hdr, notL] at hdone
      unfold allN at hdone
      by_cases hlo : B < 1112192
      · rw [if_pos hlo] at hdone
        obtain ⟨g2, cap2, w2, hrun2, hown2, hb2, hz2, hk2⟩ := append_run hown hb hbs (B, 1112192) (by omega)
        have hS := slr_of_own hown2 (by simp [HM.out])
        have HRun2 := Lib.hid hrun2
        have HG := Lib.hid (And.intro hS (And.intro hb2 hdone))
        clear hrun2 hown2 hb2 hz2 hk2 hdone hown hb hS hdr
        go_wp2_with (at_builtin; refine wpList_append_eq rfl rfl rfl rfl HRun2.out ?_)
        go_ret
        obtain ⟨hS, hb2, hdone⟩ := HG.out
        rw [← hdone]
        exact ⟨w2.heap.size, rfl, set_box hS, hb2.alloc hb2.size _⟩
      · rw [if_neg hlo] at hdone
        have hS := slr_of_own hown HM.out
        have HG := Lib.hid (And.intro hS (And.intro hb hdone))
        clear hdone hown hb hS hdr
        go_wp2_with fail
        go_ret
        obtain ⟨hS, hb2, hdone⟩ := HG.out
        rw [List.append_nil] at hdone
        rw [← hdone]
        exact ⟨wr.heap.size, rfl, set_box hS, hb2.alloc hb2.size _⟩
end Go.Proofs.YtmpjlenfnlijfaaGreatDoor
/- Both and Less. -/
namespace Go.Proofs.YtmpjlenfnlijfaaGreatDoor
open Go Go.RowKit Go.Kt Go.Kt.Rg

/-- The element of a row that is read. -/
theorem SlR.at_ {W : World} {ao : Option Addr} {n cap : Nat} {l : List Run} (h : SlR W (.slice ao n cap) l) {i : Nat} {x : Run} (hx : l[i]? = some x) : ∃ g, ao = some ⟨g, 0, none⟩ ∧ W.cell? ⟨g, i * 2, none⟩ = some (.int .i64 x.1) ∧ W.cell? ⟨g, i * 2 + 1, none⟩ = some (.int .i64 x.2) := by
  obtain ⟨ax, cx, e, h⟩ := h
  injection e with e1 _ _
  subst e1
  rcases h with h | ⟨g, e, h⟩
  · subst h; simp at hx
  · exact ⟨g, e, h i x hx⟩
theorem SlR.len {W : World} {ao : Option Addr} {n cap : Nat} {l : List Run} (h : SlR W (.slice ao n cap) l) : l.length = n := by
  obtain ⟨ax, cx, e, h⟩ := h
  injection e with _ e2 _
  exact e2.symm
theorem one_zero (x : Run) (h : x = (0, 0)) : oneR x = [] := if_pos h
theorem one_some (x : Run) (h : x ≠ (0, 0)) : oneR x = [x] := if_neg h

set_option maxRecDepth 100000 in
set_option maxHeartbeats 2000000 in
theorem rboth_any (s t : List Run) (b c : Nat) (w : World) (h : SetAt s b w) (k : SetAt t c w) (hs : Canon s) (ht : Canon t) :
    Calls Tryz.prog 19 #[ptrV b, ptrV c] w (MadeS (bothL s t) w) := by
  have hlen := canon_len hs (Int.le_refl _)
  have hlen2 := canon_len ht (Int.le_refl _)
  have hl : s.length ≤ 1112192 := by unfold allN at hlen; omega
  have hl2 : t.length ≤ 1112192 := by unfold allN at hlen2; omega
  obtain ⟨v, h1, h2⟩ := h
  obtain ⟨v', k1, k2⟩ := k
  have H2 := Lib.hid h2
  have K2 := Lib.hid k2
  obtain ⟨ao, cap, rfl, _⟩ := h2
  obtain ⟨ao2, cap2, rfl, _⟩ := k2
  have HC := Lib.hid hs
  have KC := Lib.hid ht
  have CC := Lib.hid rcommon_any
  obtain ⟨n, hn⟩ : ∃ n, s.length = n := ⟨_, rfl⟩
  obtain ⟨n2, hn2⟩ : ∃ n, t.length = n := ⟨_, rfl⟩
  rw [hn] at hl h1
  rw [hn2] at hl2 k1
  have HN := Lib.hid hn
  have KN := Lib.hid hn2
  have hltb := lt_of_cell h1
  have hltc := lt_of_cell k1
  have P0 := Lib.hid (And.intro h1 k1)
  clear hs ht hlen hlen2 hn hn2 h1 k1
  go_enter Tryz.func19, Tryz.ntmps19
  go_wp2
  go_loopw [5, 6, 7] (fun o x y wr => ∃ (i j m cp : Nat) (ap : Option Addr) (done : List Run), x = .int .i64 i ∧ y = .int .i64 j ∧ i ≤ n ∧ j ≤ n2 ∧ o = .slice ap m cp ∧ m = done.length ∧ m ≤ i + j ∧
      done ++ bothL (s.drop i) (t.drop j) = bothL s t ∧ OwnS (fun y => w.heap.size ≤ y) 85 2 (.slice ap m cp) m (encR done) wr ∧ Below w.heap.size w wr) (fun _ x y _ => n + n2 - ((RowKit.intOf x).toNat + (RowKit.intOf y).toNat))
  case atStart => exact ⟨0, 0, 0, 0, none, [], rfl, rfl, by omega, by omega, rfl, rfl, by omega, rfl, own_nil _ _ _ _, Below.refl _ _⟩
  case round =>
    obtain ⟨i, j, m, cp, ap, done, rfl, rfl, hi, hj, rfl, hm, hmk, hdone, hown, hb⟩ := hrel
    have hbs := hb.size
    have HM := Lib.hid hm
    have p1 := (hb.cell hltb).trans P0.out.1
    have p2 := (hb.cell hltc).trans P0.out.2
    have HB := Lib.hid (And.intro hb (And.intro hown hdone))
    clear hm hb hown hdone
    by_cases hlt : i < n ∧ j < n2
    · obtain ⟨hi1, hj1⟩ := hlt
      have hi1' : (i : Int) < n := by omega
      have hj1' : (j : Int) < n2 := by omega
      obtain ⟨x, hx⟩ : ∃ x, s[i]? = some x := ⟨_, List.getElem?_eq_getElem (by rw [HN.out]; exact hi1)⟩
      obtain ⟨y, hy⟩ : ∃ y, t[j]? = some y := ⟨_, List.getElem?_eq_getElem (by rw [KN.out]; exact hj1)⟩
      obtain ⟨g, rfl, r1, r2⟩ := (H2.out.below HB.out.1).at_ hx
      obtain ⟨g', rfl, r3, r4⟩ := (K2.out.below HB.out.1).at_ hy
      have hf := Canon.fit HC.out x (List.mem_of_getElem? hx)
      have hf2 := Canon.fit KC.out y (List.mem_of_getElem? hy)
      have hdr : s.drop i = x :: s.drop (i + 1) := by
        obtain ⟨hkl, rfl⟩ := List.getElem?_eq_some_iff.1 hx
        exact List.drop_eq_getElem_cons hkl
      have hdr2 : t.drop j = y :: t.drop (j + 1) := by
        obtain ⟨hkl, rfl⟩ := List.getElem?_eq_some_iff.1 hy
        exact List.drop_eq_getElem_cons hkl
      have HD := Lib.hid (And.intro hdr hdr2)
      obtain ⟨x1, x2⟩ := x
      obtain ⟨y1, y2⟩ := y
      simp only at r1 r2 r3 r4
      have FF := Lib.hid (And.intro hf hf2)
      clear hx hy hdr hdr2 hf hf2
      have l1 : b < wr.heap.size := lt_of_cell p1
      have l2 : c < wr.heap.size := lt_of_cell p2
      have l3 : g < wr.heap.size := lt_of_cell r1
      have l4 : g' < wr.heap.size := lt_of_cell r3
      go_wp2_with fail
      go_region
      all_goals first
        | (obtain ⟨V, hV⟩ : ∃ V, ((wr.alloc (.cells #[.int .i64 y1, .int .i64 y2] 85)).alloc (.cells #[.int .i64 x1, .int .i64 x2] 85)).drew = V := ⟨_, rfl⟩
           rw [hV]
           obtain ⟨e8, he8⟩ : ∃ e, e = wr.heap.size + 1 := ⟨_, rfl⟩
           obtain ⟨e9, he9⟩ : ∃ e, e = wr.heap.size := ⟨_, rfl⟩
           have hzV : V.heap.size = wr.heap.size + 2 := by rw [← hV]; show ((wr.alloc _).alloc _).heap.size = _; simp
           have f1 : V.cell? ⟨wr.heap.size + 1, 0, none⟩ = some (.int .i64 x1) := by rw [← hV]; show ((wr.alloc _).alloc _).cell? _ = _; rw [show wr.heap.size + 1 = (wr.alloc (.cells #[.int .i64 y1, .int .i64 y2] 85)).heap.size by simp, Lib.cell_of_heap (World.alloc_heap_new (wr.alloc (.cells #[.int .i64 y1, .int .i64 y2] 85)) _)]; rfl
           have f2 : V.cell? ⟨wr.heap.size + 1, 1, none⟩ = some (.int .i64 x2) := by rw [← hV]; show ((wr.alloc _).alloc _).cell? _ = _; rw [show wr.heap.size + 1 = (wr.alloc (.cells #[.int .i64 y1, .int .i64 y2] 85)).heap.size by simp, Lib.cell_of_heap (World.alloc_heap_new (wr.alloc (.cells #[.int .i64 y1, .int .i64 y2] 85)) _)]; rfl
           have f3 : V.cell? ⟨wr.heap.size, 0, none⟩ = some (.int .i64 y1) := by rw [← hV]; show ((wr.alloc _).alloc _).cell? _ = _; rw [Lib.cell_of_heap (alloc_old (alloc_at (A := wr) rfl))]; rfl
           have f4 : V.cell? ⟨wr.heap.size, 1, none⟩ = some (.int .i64 y2) := by rw [← hV]; show ((wr.alloc _).alloc _).cell? _ = _; rw [Lib.cell_of_heap (alloc_old (alloc_at (A := wr) rfl))]; rfl
           have hbV : Below wr.heap.size wr V := by rw [← hV]; exact below_drewN (((Below.refl _ wr).alloc (Nat.le_refl _) _).alloc (by simp) _) 1
           have hownV : OwnS (fun y => w.heap.size ≤ y) 85 2 (.slice ap m cp) m (encR done) V := HB.out.2.1.keep (X := fun _ => False) (.of_all hbV) (fun _ h => h.elim)
           have k8 : wr.heap.size ≤ e8 ∧ e8 < V.heap.size := by omega
           have k9 : wr.heap.size ≤ e9 ∧ e9 < V.heap.size := by omega
           rw [← he8] at f1 f2
           rw [← he9] at f3 f4
           rw [← he8, ← he9]
           clear he8 he9 hV hzV)
        | (obtain ⟨V, hV⟩ : ∃ V, ((wr.alloc (.cells #[.int .i64 x1, .int .i64 x2] 85)).alloc (.cells #[.int .i64 y1, .int .i64 y2] 85)).drew = V := ⟨_, rfl⟩
           rw [hV]
           obtain ⟨e8, he8⟩ : ∃ e, e = wr.heap.size := ⟨_, rfl⟩
           obtain ⟨e9, he9⟩ : ∃ e, e = wr.heap.size + 1 := ⟨_, rfl⟩
           have hzV : V.heap.size = wr.heap.size + 2 := by rw [← hV]; show ((wr.alloc _).alloc _).heap.size = _; simp
           have f1 : V.cell? ⟨wr.heap.size, 0, none⟩ = some (.int .i64 x1) := by rw [← hV]; show ((wr.alloc _).alloc _).cell? _ = _; rw [Lib.cell_of_heap (alloc_old (alloc_at (A := wr) rfl))]; rfl
           have f2 : V.cell? ⟨wr.heap.size, 1, none⟩ = some (.int .i64 x2) := by rw [← hV]; show ((wr.alloc _).alloc _).cell? _ = _; rw [Lib.cell_of_heap (alloc_old (alloc_at (A := wr) rfl))]; rfl
           have f3 : V.cell? ⟨wr.heap.size + 1, 0, none⟩ = some (.int .i64 y1) := by rw [← hV]; show ((wr.alloc _).alloc _).cell? _ = _; rw [show wr.heap.size + 1 = (wr.alloc (.cells #[.int .i64 x1, .int .i64 x2] 85)).heap.size by simp, Lib.cell_of_heap (World.alloc_heap_new (wr.alloc (.cells #[.int .i64 x1, .int .i64 x2] 85)) _)]; rfl
           have f4 : V.cell? ⟨wr.heap.size + 1, 1, none⟩ = some (.int .i64 y2) := by rw [← hV]; show ((wr.alloc _).alloc _).cell? _ = _; rw [show wr.heap.size + 1 = (wr.alloc (.cells #[.int .i64 x1, .int .i64 x2] 85)).heap.size by simp, Lib.cell_of_heap (World.alloc_heap_new (wr.alloc (.cells #[.int .i64 x1, .int .i64 x2] 85)) _)]; rfl
           have hbV : Below wr.heap.size wr V := by rw [← hV]; exact below_drewN (((Below.refl _ wr).alloc (Nat.le_refl _) _).alloc (by simp) _) 1
           have hownV : OwnS (fun y => w.heap.size ≤ y) 85 2 (.slice ap m cp) m (encR done) V := HB.out.2.1.keep (X := fun _ => False) (.of_all hbV) (fun _ h => h.elim)
           have k8 : wr.heap.size ≤ e8 ∧ e8 < V.heap.size := by omega
           have k9 : wr.heap.size ≤ e9 ∧ e9 < V.heap.size := by omega
           rw [← he8] at f1 f2
           rw [← he9] at f3 f4
           rw [← he9, ← he8]
           clear he8 he9 hV hzV)
      all_goals
        clear p1 p2 r1 r2 r3 r4 l1 l2 l3 l4
        have C1 := Lib.hid (CC.out (x1, x2) (y1, y2) V FF.out.1 FF.out.2)
        have HV := Lib.hid (And.intro hbV hownV)
        clear hbV hownV
        go_wp2_with fail
        refine C1.out.mono ?_
        rintro e V2 ⟨rfl, hb2⟩
        obtain ⟨R, hR⟩ : ∃ R, commonR (x1, x2) (y1, y2) = R := ⟨_, rfl⟩
        rw [hR]
        have HR : Hid (R = (0, 0) ∨ (R.2 ≠ 0 ∧ oneR R = [R])) := Lib.hid (by
          by_cases e : R = (0, 0)
          · exact .inl e
          · refine .inr ⟨?_, one_some R e⟩
            have f1 := FF.out.1
            have f2 := FF.out.2
            unfold commonR at hR
            simp only at hR f1 f2
            split at hR
            · exact absurd hR.symm e
            · rw [← hR]; simp only; omega)
        have g2 := (hb2.cell k8.2).trans f2
        have g4 := (hb2.cell k9.2).trans f4
        have hz2 := hb2.size
        have k8' : e8 < V2.heap.size := by omega
        have k9' : e9 < V2.heap.size := by omega
        have hbV2 := HV.out.1.trans (hb2.mono HV.out.1.size)
        have hw2 := HB.out.1.trans (hbV2.mono hbs)
        have hown2 : OwnS (fun y => w.heap.size ≤ y) 85 2 (.slice ap m cp) m (encR done) V2 := HV.out.2.keep (X := fun _ => False) (.of_all hb2) (fun _ h => h.elim)
        have hlo2 : ∀ g, (Value.slice ap m cp).ownBlock = some g → g < wr.heap.size := fun g hg => own_ne HB.out.2.1 hg
        have HD2 : Hid (done ++ (oneR R ++ if x2 < y2 then bothL (s.drop (i + 1)) (t.drop j) else bothL (s.drop i) (t.drop (j + 1))) = bothL s t) := Lib.hid (by
          rw [← HB.out.2.2, HD.out.1, HD.out.2]
          conv => rhs; rw [bothL]
          simp only [hR]
          split <;> rfl)
        clear f1 f2 f3 f4 C1 hb2 hbV2 hR
        obtain ⟨c1, c2⟩ := R
        simp only at HR HD2
        obtain ⟨W, hW⟩ : ∃ W, V2.alloc (.cells #[.int .i64 c1, .int .i64 c2] 85) = W := ⟨_, rfl⟩
        have hzW : W.heap.size = V2.heap.size + 1 := by rw [← hW]; simp
        have hbW : Below w.heap.size w W := by rw [← hW]; exact hw2.alloc hw2.size _
        have hownW : OwnS (fun y => w.heap.size ≤ y) 85 2 (.slice ap m cp) m (encR done) W := by rw [← hW]; exact ⟨hown2.1.alloc _, hown2.2⟩
        have u2 : W.cell? ⟨e8, 1, none⟩ = some (.int .i64 x2) := by rw [← hW]; exact (((Below.refl _ V2).alloc (Nat.le_refl _) _).cell k8').trans g2
        have u4 : W.cell? ⟨e9, 1, none⟩ = some (.int .i64 y2) := by rw [← hW]; exact (((Below.refl _ V2).alloc (Nat.le_refl _) _).cell k9').trans g4
        rcases HR.out with e | ⟨e1, e2⟩
        · obtain ⟨rfl, rfl⟩ := Prod.mk.inj e
          have hone := one_zero ((0, 0) : Run) rfl
          have hd := HD2.out
          rw [hone, List.nil_append] at hd
          have HG := Lib.hid (And.intro hownW (And.intro hbW hd))
          have HW := Lib.hid hW
          clear hone hd hownW hbW hW hown2 hw2 u2 u4 hlo2 hzW e
          by_cases hlt : x2 < y2
          · have HE := Lib.hid hlt
            go_wp2_with fail
            rw [HW.out]
            go_roundw
            case rel => exact ⟨i + 1, j, m, cp, ap, done, by go_num, rfl, by omega, by omega, rfl, HM.out, by omega, by have := HG.out.2.2; rw [if_pos HE.out] at this; exact this, HG.out.1, HG.out.2.1⟩
            case measure => simp [RowKit.intOf]; omega
          · have HE := Lib.hid hlt
            go_wp2_with fail
            rw [HW.out]
            go_roundw
            case rel => exact ⟨i, j + 1, m, cp, ap, done, rfl, by go_num, by omega, by omega, rfl, HM.out, by omega, by have := HG.out.2.2; rw [if_neg (by have := HE.out; omega)] at this; exact this, HG.out.1, HG.out.2.1⟩
            case measure => simp [RowKit.intOf]; omega
        · try simp only at e1
          have hne : (c2 == 0) = false := by simpa using e1
          have hd := HD2.out
          rw [e2, ← List.append_assoc] at hd
          obtain ⟨g3, cap3, w3, hrun3, hown3, hb3, hz3, hk3⟩ := append_run hownW hbW (by have := hw2.size; omega) (c1, c2) (by omega)
          have d2 := hk3.cell u2 (fun h => by have := hlo2 _ h; simp only at this; omega)
          have d4 := hk3.cell u4 (fun h => by have := hlo2 _ h; simp only at this; omega)
          rw [hzW, ← hW] at hrun3
          have HRun3 := Lib.hid hrun3
          have HG := Lib.hid (And.intro hown3 (And.intro hb3 hd))
          clear hd hownW hbW hW hown2 hw2 u2 u4 hlo2 hzW hrun3 hown3 hb3 hk3 e2 HR
          by_cases hlt : x2 < y2
          · have HE := Lib.hid hlt
            go_wp2_with (at_builtin; refine wpList_append_eq rfl rfl rfl rfl HRun3.out ?_)
            go_roundw
            case rel => exact ⟨i + 1, j, m + 1, cap3, some ⟨g3, 0, none⟩, done ++ [(c1, c2)], by go_num, rfl, by omega, by omega, rfl, by simp [HM.out], by omega, by have := HG.out.2.2; rw [if_pos HE.out] at this; exact this, HG.out.1, HG.out.2.1⟩
            case measure => simp [RowKit.intOf]; omega
          · have HE := Lib.hid hlt
            go_wp2_with (at_builtin; refine wpList_append_eq rfl rfl rfl rfl HRun3.out ?_)
            go_roundw
            case rel => exact ⟨i, j + 1, m + 1, cap3, some ⟨g3, 0, none⟩, done ++ [(c1, c2)], rfl, by go_num, by omega, by omega, rfl, by simp [HM.out], by omega, by have := HG.out.2.2; rw [if_neg (by have := HE.out; omega)] at this; exact this, HG.out.1, HG.out.2.1⟩
            case measure => simp [RowKit.intOf]; omega
    · have fin : done ++ [] = bothL s t := by
        rw [← HB.out.2.2]
        by_cases hi1 : i < n
        · have hdr2 : t.drop j = [] := List.drop_eq_nil_of_le (by rw [KN.out]; omega)
          rw [hdr2, bothL_nil_r]
        · have hdr2 : s.drop i = [] := List.drop_eq_nil_of_le (by rw [HN.out]; omega)
          rw [hdr2, bothL]
      rw [List.append_nil] at fin
      have hS := slr_of_own HB.out.2.1 HM.out
      rw [fin] at hS
      have HS := Lib.hid (And.intro hS HB.out.1)
      clear fin hS
      by_cases hi1 : i < n
      · have hi1' : (i : Int) < n := by omega
        have hj1' : ¬ (j : Int) < n2 := by omega
        clear hlt
        go_wp2_with fail
        go_ret
        exact ⟨wr.heap.size, rfl, set_box HS.out.1, HS.out.2.alloc hbs _⟩
      · have hi1' : ¬ (i : Int) < n := by omega
        clear hlt
        go_wp2_with fail
        go_ret
        exact ⟨wr.heap.size, rfl, set_box HS.out.1, HS.out.2.alloc hbs _⟩

set_option maxRecDepth 100000 in
theorem rless_any (s t : List Run) (b c : Nat) (w : World) (h : SetAt s b w) (k : SetAt t c w) (hs : Canon s) (ht : Canon t) :
    Calls Tryz.prog 21 #[ptrV b, ptrV c] w (MadeS (lessL s t) w) := by
  have H := Lib.hid (And.intro h k)
  have C1 := Lib.hid (rnot_any t c w k ht)
  have HC := Lib.hid (And.intro hs ht)
  clear h k hs ht
  go_enter Tryz.func21, Tryz.ntmps21
  go_wp2_with fail
  refine C1.out.mono ?_
  rintro e w1 ⟨d, rfl, hd, hb⟩
  have C2 := Lib.hid (rboth_any s (notL 0 t) b d w1 (H.out.1.below hb) hd HC.out.1 (not_canon t HC.out.2))
  have HB := Lib.hid hb
  clear hd hb
  go_wp2_with fail
  refine C2.out.mono ?_
  rintro e w2 ⟨d2, rfl, hd2, hb2⟩
  have HD := Lib.hid (And.intro hd2 hb2)
  clear hd2 hb2
  go_wp2
  go_ret
  exact ⟨d2, rfl, HD.out.1, HB.out.trans (HD.out.2.mono HB.out.size)⟩
end Go.Proofs.YtmpjlenfnlijfaaGreatDoor
/- The iterator of a set's spans. -/
namespace Go.Proofs.YtmpjlenfnlijfaaGreatDoor
open Go Go.RowKit Go.Kt Go.Kt.Rg

/-- The span of a run. -/
def spanP (x : Run) : Int × Int := (pntI x.1, pntI (x.2 - 1))
def spansL (l : List Run) : List (Int × Int) := l.map spanP
def encS (x : Int × Int) : Array Value := #[.agg #[.int .i32 x.1, .int .i32 x.2]]
theorem rspans_call (b : Nat) (w : World) :
    Calls Tryz.prog 45 #[ptrV b] w fun e w' => e = .returned (.func (.func 93) #[] #[.pointer (some ⟨w.heap.size, 0, none⟩)]) ∧ w.alloc (.cells #[ptrV b] 25) = w' := by
  go_enter Tryz.func45, Tryz.ntmps45
  go_wp2
  go_ret
  exact ⟨rfl, rfl⟩

set_option maxRecDepth 100000 in
set_option maxHeartbeats 2000000 in
theorem spans_iter (l : List Run) (bs b : Nat) (g : Nat) (w0 : World) (hbs : w0.cell? ⟨bs, 0, none⟩ = some (ptrV b)) (hS : ∃ ao cap, w0.cell? ⟨b, 0, none⟩ = some (.slice ao l.length cap) ∧ (l = [] ∨ ao = some ⟨g, 0, none⟩ ∧ ∀ (i : Nat) (x : Run), l[i]? = some x → w0.cell? ⟨g, i * 2, none⟩ = some (.int .i64 x.1) ∧ w0.cell? ⟨g, i * 2 + 1, none⟩ = some (.int .i64 x.2))) (hc : Canon l) (hT : PTab w0) :
    Iter Tryz.prog 93 #[.pointer (some ⟨bs, 0, none⟩)] encS (spansL l) (fun x => x = bs ∨ x = b ∨ x = g ∨ x = 0) w0 := by
  intro m X J Jx W hNd hX hsame hsz hJ hJx hY h0
  obtain ⟨ao, cap, hb0, hrow⟩ := hS
  have hlen := canon_len hc (Int.le_refl _)
  have hl : l.length ≤ 1112192 := by unfold allN at hlen; omega
  have same : ∀ (p : Addr), (p.block = bs ∨ p.block = b ∨ p.block = g ∨ p.block = 0) → W.cell? p = w0.cell? p := fun p hp => World.cell?_of_block (hsame _ hp)
  have q1 : W.cell? ⟨bs, 0, none⟩ = some (ptrV b) := (same _ (.inl rfl)).trans hbs
  have q2 : W.cell? ⟨b, 0, none⟩ = some (.slice ao l.length cap) := (same _ (.inr (.inl rfl))).trans hb0
  have HT : Hid (PTab W) := Lib.hid ⟨(same ⟨0, _, none⟩ (.inr (.inr (.inr rfl)))).trans hT.1, (same ⟨0, _, none⟩ (.inr (.inr (.inr rfl)))).trans hT.2.1, (same ⟨0, _, none⟩ (.inr (.inr (.inr rfl)))).trans hT.2.2.1,
    (same ⟨0, _, none⟩ (.inr (.inr (.inr rfl)))).trans hT.2.2.2.1, (same ⟨0, _, none⟩ (.inr (.inr (.inr rfl)))).trans hT.2.2.2.2.1, (same ⟨0, _, none⟩ (.inr (.inr (.inr rfl)))).trans hT.2.2.2.2.2⟩
  have HR : Hid (∀ (i : Nat) (x : Run), l[i]? = some x → ao = some ⟨g, 0, none⟩ ∧ W.cell? ⟨g, i * 2, none⟩ = some (.int .i64 x.1) ∧ W.cell? ⟨g, i * 2 + 1, none⟩ = some (.int .i64 x.2)) := Lib.hid fun i x hx => by
    rcases hrow with h | ⟨e, h⟩
    · subst h; simp at hx
    · exact ⟨e, (same ⟨g, _, none⟩ (.inr (.inr (.inl rfl)))).trans (h i x hx).1, (same ⟨g, _, none⟩ (.inr (.inr (.inl rfl)))).trans (h i x hx).2⟩
  have HC := Lib.hid hc
  have HK := Lib.hid (And.intro hX (And.intro hJ hJx))
  have HX' : Hid (¬ X bs ∧ ¬ X b ∧ ¬ X g ∧ ¬ X 0) := Lib.hid ⟨hNd _ (.inl rfl), hNd _ (.inr (.inl rfl)), hNd _ (.inr (.inr (.inl rfl))), hNd _ (.inr (.inr (.inr rfl)))⟩
  obtain ⟨n, hn⟩ : ∃ n, l.length = n := ⟨_, rfl⟩
  rw [hn] at hl q2
  have HN := Lib.hid hn
  clear hNd hsame hsz hc hT hrow hb0 hbs same hlen hn hX
  refine (callsIn_wide (n := 0)).1 ?_
  refine callsIn_of_wp Tryz.func93 rfl trivial ?_ rfl
  simp only [Tryz.ntmps93, List.size_toArray, List.length_cons, List.length_nil, Nat.reduceAdd, Nat.reduceSub, Array.replicate_succ, Array.replicate_zero, List.push_toArray, List.append_toArray, List.nil_append, List.cons_append]
  gi_wp2
  gi_loopw [10] (fun x wr => ∃ (k : Nat) (Y : Nat → Prop), x = .int .i64 k ∧ k ≤ n ∧ (∀ y, Y y → W.heap.size ≤ y) ∧ J (spansL (l.take k)) Y wr ∧ Keep X W wr)
    (fun x _ => n - (RowKit.intOf x).toNat)
  case atStart => exact ⟨0, _, rfl, by omega, fun _ h => h.elim, h0, Keep.refl _ _⟩
  case round =>
    obtain ⟨k, Y, rfl, hk, hYl, hJs, hkp⟩ := hrel
    by_cases hlt : k < n
    · have hlt' : (k : Int) < n := by omega
      obtain ⟨x, hx⟩ : ∃ x, l[k]? = some x := ⟨_, List.getElem?_eq_getElem (by rw [HN.out]; exact hlt)⟩
      obtain ⟨rfl, r1', r2'⟩ := HR.out k x hx
      have r1 := hkp.cell r1' HX'.out.2.2.1
      have r2 := hkp.cell r2' HX'.out.2.2.1
      have hf := Canon.fit HC.out x (List.mem_of_getElem? hx)
      unfold allN at hf
      have hts : spansL (l.take (k + 1)) = spansL (l.take k) ++ [(pntI x.1, pntI (x.2 - 1))] := by
        rw [List.take_add_one, hx]; simp [spansL, spanP]
      have hpre : spansL (l.take k) ++ [(pntI x.1, pntI (x.2 - 1))] <+: spansL l := by
        rw [← hts]
        exact ⟨spansL (l.drop (k + 1)), by rw [spansL, spansL, ← List.map_append, List.take_append_drop]; rfl⟩
      obtain ⟨x1, x2⟩ := x
      simp only at r1 r2 hf hts hpre
      obtain ⟨q, hq⟩ : ∃ q, wr.heap.size = q := ⟨_, rfl⟩
      have hWq : W.heap.size ≤ q := by rw [← hq]; exact hkp.size
      have hPw : PTab wr := ⟨hkp.cell HT.out.1 HX'.out.2.2.2, hkp.cell HT.out.2.1 HX'.out.2.2.2, hkp.cell HT.out.2.2.1 HX'.out.2.2.2, hkp.cell HT.out.2.2.2.1 HX'.out.2.2.2, hkp.cell HT.out.2.2.2.2.1 HX'.out.2.2.2, hkp.cell HT.out.2.2.2.2.2 HX'.out.2.2.2⟩
      have CP : Hid (∀ (i : Int) (V : World), (0 ≤ i ∧ i < 1112192) → Below q wr V → V.cell? ⟨q, 0, none⟩ = some (.int .i64 x1) → V.cell? ⟨q, 1, none⟩ = some (.int .i64 x2) → q < V.heap.size →
          Calls Tryz.prog 94 #[.int .i64 i] V fun e w' => e = .returned (.int .i32 (pntI i)) ∧ Below q wr w' ∧ w'.cell? ⟨q, 0, none⟩ = some (.int .i64 x1) ∧ w'.cell? ⟨q, 1, none⟩ = some (.int .i64 x2) ∧ q < w'.heap.size) := Lib.hid fun i V hi hb h1 h2 h3 => by
        refine (rpoint_any i V (hPw.below (by rw [← hq]; exact hPw.lt) hb) hi).mono ?_
        rintro e w' ⟨rfl, hb2⟩
        exact ⟨rfl, hb.trans (hb2.mono (Nat.le_of_lt h3)), (hb2.cell h3).trans h1, (hb2.cell h3).trans h2, Nat.lt_of_lt_of_le h3 hb2.size⟩
      have CY : Hid (∀ V : World, Below q wr V → YieldAt Fence.wide 0 Tryz.prog m #[.agg #[.int .i32 (pntI x1), .int .i32 (pntI (x2 - 1))]] V fun e W' => ∃ t, e = .returned (.bool t) ∧ ∃ Y', Keep (fun b => X b ∨ Y b) V W' ∧ (∀ b, Y' b → Y b ∨ V.heap.size ≤ b) ∧ ((t = true ∧ J (spansL (l.take (k + 1))) Y' W') ∨ (t = false ∧ Jx (spansL (l.take (k + 1))) Y' W'))) := Lib.hid fun V hb => by
        have hb' : Below wr.heap.size wr V := by rw [hq]; exact hb
        obtain ⟨fn, tmps, assign, body, hy, hR⟩ := hY _ (pntI x1, pntI (x2 - 1)) Y V hpre (hJ _ _ _ _ (.of_all hb') hJs) (Nat.le_trans hkp.size hb'.size) hYl
        refine ⟨fn, tmps, assign, body, hy, hR.mono ?_⟩
        rintro e W' ⟨Y', hk2, hY', (⟨rfl, h⟩ | ⟨rfl, h⟩)⟩
        · exact ⟨true, rfl, Y', hk2, hY', .inl ⟨rfl, by rw [hts]; exact h⟩⟩
        · exact ⟨false, rfl, Y', hk2, hY', .inr ⟨rfl, by rw [hts]; exact h⟩⟩
      have a0 : Below q wr (wr.alloc (.cells #[.int .i64 x1, .int .i64 x2] 85)) := (Below.refl _ _).alloc (by omega) _
      have a1 : (wr.alloc (.cells #[.int .i64 x1, .int .i64 x2] 85)).drew.cell? ⟨q, 0, none⟩ = some (.int .i64 x1) := by
        show (wr.alloc _).cell? _ = _; rw [Lib.cell_of_heap (alloc_at hq.symm)]; rfl
      have a2 : (wr.alloc (.cells #[.int .i64 x1, .int .i64 x2] 85)).drew.cell? ⟨q, 1, none⟩ = some (.int .i64 x2) := by
        show (wr.alloc _).cell? _ = _; rw [Lib.cell_of_heap (alloc_at hq.symm)]; rfl
      have a3 : q < (wr.alloc (.cells #[.int .i64 x1, .int .i64 x2] 85)).drew.heap.size := by show q < (wr.alloc _).heap.size; simp; omega
      have A0 : Hid (Below q wr (wr.alloc (.cells #[.int .i64 x1, .int .i64 x2] 85)).drew) := Lib.hid (show Below q wr ((wr.alloc (.cells #[.int .i64 x1, .int .i64 x2] 85)).drewN 1) from below_drewN a0 1)
      have HPRE : Hid (spansL (l.take (k + 1)) <+: spansL l) := Lib.hid (by rw [hts]; exact hpre)
      have HQ := Lib.hid (And.intro hq (And.intro hkp (And.intro hYl hWq)))
      have AA := Lib.hid (And.intro a1 (And.intro a2 a3))
      clear hq hkp hYl hWq hPw hts hpre hx hJs r1' r2' a0 a1 a2 a3
      gi_wp2_with fail
      rw [HQ.out.1]
      obtain ⟨a1, a2, a3⟩ := AA.out
      have b0 := A0.out
      have hfn : ∀ k, Fence.wide.fn k := fun _ => trivial
      have hdep : Fence.wide.depth = none := rfl
      have hwr : IntKind.i64.wrap (x2 - 1) = x2 - 1 := by rw [IntKind.wrap_i64]; omega
      gi_region_with (first
        | (gi_at_call 94; (try rw [hwr]); refine (callsIn_wide.2 (CP.out _ _ (by omega) (by assumption) (by assumption) (by assumption) (by assumption))).mono ?_; rintro e v1 ⟨rfl, b1, c1, c2, c3⟩; (try (obtain ⟨fn, tmps, assign, body, hy, hR⟩ := CY.out _ b1)))
        | (refine hR.mono ?_; rintro e W2 ⟨t, rfl, hpost⟩))
      all_goals
        obtain ⟨Y', hk2, hY', hor⟩ := hpost
        obtain ⟨hq, hkp, hYl, hWq⟩ := HQ.out
        have hbw : Below wr.heap.size wr v1 := by rw [hq]; assumption
        have hk1 : Keep X W v1 := hkp.then (hbw.mono hkp.size)
        have hkW : Keep X W W2 := ⟨hk2.os.trans hk1.os, hk2.tape.trans hk1.tape, hk2.output.trans hk1.output, Nat.le_trans hk1.size hk2.size, fun b hb hx => (hk2.same b (Nat.lt_of_lt_of_le hb hk1.size) (fun h => by rcases h with h | h; exact hx h; have := hYl b h; omega)).trans (hk1.same b hb hx)⟩
        have hYY : ∀ y, Y' y → W.heap.size ≤ y := fun y hy => by
          rcases hY' y hy with h | h
          · exact hYl y h
          · have := hk1.size; omega
        have HF := Lib.hid (And.intro hkW hYY)
        clear hk2 hY' hkp hYl hWq hbw hk1 hkW hYY hq
        rcases hor with ⟨rfl, hJ2⟩ | ⟨rfl, hJ2⟩
        · have HJ2 := Lib.hid hJ2
          clear hJ2
          gi_wp2_with fail
          go_roundw
          case rel => exact ⟨k + 1, Y', by go_num, by omega, HF.out.2, HJ2.out, HF.out.1⟩
          case measure => simp [RowKit.intOf]; omega
        · have HJ2 := Lib.hid hJ2
          clear hJ2
          gi_wp2_with fail
          refine bodyPost_ret (results_none rfl _ _ _) rfl ?_
          exact ⟨⟨_, rfl⟩, HF.out.1, .inr ⟨_, Y', HPRE.out, HF.out.2, HJ2.out⟩⟩
    · have hlt' : ¬ (k : Int) < n := by omega
      obtain rfl : k = n := by omega
      have e : l.take k = l := by rw [← HN.out, List.take_length]
      rw [e] at hJs
      have HF := Lib.hid (And.intro hkp (And.intro hYl hJs))
      clear hkp hYl hJs e
      gi_wp2_with fail
      go_end0
      exact ⟨⟨_, rfl⟩, HF.out.1, .inl ⟨Y, HF.out.2.1, HF.out.2.2⟩⟩
end Go.Proofs.YtmpjlenfnlijfaaGreatDoor
/- slices.AppendSeq of spans; Spans. -/
namespace Go.Proofs.YtmpjlenfnlijfaaGreatDoor
open Go Go.RowKit Go.Kt Go.Kt.Rg
attribute [local go_sem] Oper.semAt_some

theorem tinfoSpan : (Tryz.prog.info? 39).map (fun i => (i.zero, i.size, i.bytes)) = some (some (.agg #[.int .i32 0, .int .i32 0]), 2, 8) := by kernel_rfl
theorem alloc_span : ∀ W : World, (Instr.alloc 39 true (.tuple #[])).run Tryz.prog W = .ok (.pointer (some ⟨W.heap.size, 0, none⟩)) (W.alloc (.cells #[.int .i32 0, .int .i32 0] 39)) := fun _ => by kernel_rfl
def encSp (l : List (Int × Int)) : List Value := l.flatMap fun x => [.int .i32 x.1, .int .i32 x.2]
theorem encSp_snoc (l : List (Int × Int)) (x : Int × Int) : encSp (l ++ [x]) = encSp l ++ [.int .i32 x.1, .int .i32 x.2] := by simp [encSp]

set_option maxRecDepth 100000 in
set_option maxHeartbeats 2000000 in
theorem rappend_any (L : List (Int × Int)) (gf : Nat) (lb : Array Value) (Nd : Nat → Prop) (h c : Nat) (w w0 : World) (eg : ∀ args w, (callFunc gf args).run Tryz.prog w = .ok (.enter gf args) w)
    (hit : Iter Tryz.prog gf lb encS L Nd w0) (hNd : ∀ b, Nd b → b ≠ h ∧ b < w.heap.size) (hNdw : ∀ b, Nd b → w.heap[b]? = w0.heap[b]?) (hw0 : w0.heap.size ≤ w.heap.size) (hL : L.length ≤ 1112192)
    (ho : OwnS (fun b => b = h) 39 2 (.slice (some ⟨h, 0, none⟩) 0 c) 0 (encSp []) w) :
    Calls Tryz.prog 44 #[.slice (some ⟨h, 0, none⟩) 0 c, .func (.func gf) #[] lb] w fun e w' => ∃ ao m cp, e = .returned (.slice ao m cp) ∧ m = L.length ∧ OwnS (fun b => b = h ∨ w.heap.size ≤ b) 39 2 (.slice ao m cp) m (encSp L) w' ∧ Keep (fun b => b = h) w w' := by
  have hh : h < w.heap.size := own_ne ho rfl
  obtain ⟨n, hn⟩ : ∃ n, w.heap.size = n := ⟨_, rfl⟩
  have hfn : ∀ k, Fence.wide.fn k := fun _ => trivial
  have hdep : Fence.wide.depth = none := rfl
  refine (callsIn_wide (n := 0)).1 ?_
  refine callsIn_of_wp_marks Tryz.func44 rfl trivial ?_ rfl
  simp only [Tryz.ntmps44, List.size_toArray, List.length_cons, List.length_nil, Nat.reduceAdd, Nat.reduceSub, Array.replicate_succ, Array.replicate_zero, List.push_toArray, List.append_toArray, List.nil_append, List.cons_append]
  obtain ⟨w1, hw1⟩ : ∃ w1, w.alloc (.cells #[.slice (some ⟨h, 0, none⟩) 0 c] 22) = w1 := ⟨_, rfl⟩
  have hz1 : w1.heap.size = n + 1 := by rw [← hw1]; simp [hn]
  have b0 : w1.heap[n]? = some (.cells #[.slice (some ⟨h, 0, none⟩) 0 c] 22 (0, 0)) := by rw [← hw1]; exact alloc_at hn.symm
  have hb1 : Below n w w1 := by rw [← hw1]; exact (Below.refl _ _).alloc (by omega) _
  have ho1 : OwnS (fun b => b = h) 39 2 (.slice (some ⟨h, 0, none⟩) 0 c) 0 (encSp []) w1 := ho.keep (X := fun _ => False) (.of_all (by rw [hn]; exact hb1)) (fun _ h => h.elim)
  have HW1 := Lib.hid hw1
  have HIT := Lib.hid hit
  have HN := Lib.hid hn
  clear hw1 hit ho
  gi_wp2_with fail
  rw [HW1.out]
  refine loop_out (gf := gf) (lb := lb) (encs := encS) rfl eg
    HIT.out (fun _ => rfl) (X := fun b => b = n ∨ b = h)
    (fun b hb => by omega) (fun b hb => by have := hNd b hb; rw [HN.out] at this; refine ⟨by omega, by omega⟩) (fun b hb => (hb1.block b (by have := hNd b hb; rw [HN.out] at this; omega)).trans (hNdw b hb)) (by rw [HN.out] at hw0; omega)
    (fun pre Y W => ∃ ao cv, W.heap[n]? = some (.cells #[.slice ao pre.length cv] 22 (0, 0)) ∧ OwnS (fun b => b = h ∨ Y b) 39 2 (.slice ao pre.length cv) pre.length (encSp pre) W)
    (fun _ _ _ _ => False)
    (fun pre Y W W' hk h' => by
      obtain ⟨ao, cv, h1, h2⟩ := h'
      exact ⟨ao, cv, hk.heap h1 (fun hx => by have := hx.1; omega), h2.keep hk (fun b hx hy => by rcases hy with hy | hy; have := hx.1; rw [HN.out] at hh; omega; exact hx.2 hy)⟩)
    (fun _ _ _ _ _ _ h => h) ⟨_, _, b0, ho1.weaken (fun b h => .inl h)⟩ ?round ?done ?stop
  case stop => intro D c pre Y W _ _ _ h; exact h.elim
  case round =>
    rintro l' hl' pre ⟨lo, hi⟩ Y W hpre hi' hk hY hlt hr
    simp only [encS]
    have HI := Lib.hid hi'
    have HPre := Lib.hid hpre
    have HY := Lib.hid hY
    have HK := Lib.hid hk
    have HR := Lib.hid hr
    clear eg hNd hNdw hi' hk hpre hY hr
    gi_wp2
    refine ⟨(Keep.refl _ _).alloc _, ?_⟩
    rintro W2 hk1 hk2 ⟨ao, cv, hv, hown⟩ hr2
    have hsz := hk1.size
    simp at hsz
    have c5 : W2.cell? ⟨W.heap.size, 0, none⟩ = some (.int .i32 lo) := hk1.cell (by simp) (fun h => by have h : W.heap.size = l' := h; omega)
    have c6 : W2.cell? ⟨W.heap.size, 1, none⟩ = some (.int .i32 hi) := hk1.cell (by simp) (fun h => by have h : W.heap.size = l' := h; omega)
    have hYY := HY.out
    have hlen : pre.length < L.length := by
      obtain ⟨rest, hrest⟩ := HPre.out
      rw [← hrest]; simp
    have hW := HK.out.size
    have hz2 : n < W2.heap.size := by have := hk2.size; omega
    have hnh : h ≠ n := by omega
    have hYn : ∀ b, Y b → b ≠ n := fun b hb => by have := (hYY b hb).1; omega
    obtain ⟨v, hvv⟩ : ∃ v, Value.slice ao pre.length cv = v := ⟨_, rfl⟩
    rw [hvv] at hown hv
    obtain ⟨g, cap, w3, hrun, hown3, hk3, hg3, hz3⟩ := append_x (P := Tryz.prog) W2 22 39 Tryz.underlying22 tinfoSpan rfl (by omega) hown [.int .i32 lo, .int .i32 hi] rfl
      (by intro u hu; simp at hu; rcases hu with rfl | rfl <;> rfl) (by unfold maxLen; omega) (by omega)
    have hvY : ∀ b, v.ownBlock = some b → b = h ∨ Y b := hown.2
    have hg3Y : (g = h ∨ Y g) ∨ W2.heap.size ≤ g := by
      rcases hg3 with hx | hx
      · exact .inl (hvY g hx)
      · exact .inr (by omega)
    have hgn : g ≠ n := by
      rcases hg3Y with (hx | hx) | hx
      · omega
      · exact hYn g hx
      · omega
    have k0 := cell_one hv
    have hvn : ∀ b, v.ownBlock = some b → b ≠ n := fun b hx => by
      rcases hvY b hx with hy | hy
      · omega
      · exact hYn b hy
    have hv3 : w3.heap[n]? = some (.cells #[v] 22 (0, 0)) := hk3.heap hv (fun hx => hvn n hx rfl)
    obtain ⟨w4, hw4⟩ : ∃ w4, w3.setCell ⟨n, 0, none⟩ (.slice (some ⟨g, 0, none⟩) (pre.length + 1) cap) = w4 := ⟨_, rfl⟩
    have hk4 : Keep (fun b => b = n) w3 w4 := by rw [← hw4]; exact Keep.setCell (X := fun b => b = n) (p := ⟨n, 0, none⟩) (Keep.refl _ _) rfl _
    have hv4 : w4.heap[n]? = some (.cells #[.slice (some ⟨g, 0, none⟩) (pre.length + 1) cap] 22 (0, 0)) := by rw [← hw4]; exact set_at hv3
    have hown4 := hown3.keep hk4 (fun b hb hy => hgn (by rw [← hy, hb]))
    have k3 := cell_one hv3
    have f3 := frozen_one hv3
    have hfin : Kt.Left (fun b => b = n ∨ b = h) Y (fun pre Y W => ∃ ao cv, W.heap[n]? = some (.cells #[.slice ao pre.length cv] 22 (0, 0)) ∧ OwnS (fun b => b = h ∨ Y b) 39 2 (.slice ao pre.length cv) pre.length (encSp pre) W) (pre ++ [(lo, hi)]) W2 w4 := by
      refine ⟨fun b => b = g ∧ b ≠ h, ?_, ?_, some ⟨g, 0, none⟩, cap, ?_, ?_⟩
      · exact (hk3.weaken (Y := fun b => (b = n ∨ b = h) ∨ Y b) (fun b _ hx => by rcases hvY b hx with hy | hy; exact .inl (.inr hy); exact .inr hy)).trans (hk4.weaken fun b _ hx => .inl (.inl hx))
      · rintro b ⟨rfl, hb⟩
        rcases hg3Y with (hx | hx) | hx
        · exact absurd hx hb
        · exact .inl hx
        · exact .inr hx
      · have e1 : (pre ++ [(lo, hi)]).length = pre.length + 1 := by simp
        rw [e1]; exact hv4
      · have e1 : (pre ++ [(lo, hi)]).length = pre.length + 1 := by simp
        rw [e1, encSp_snoc]
        exact hown4.weaken fun b hb => by
          by_cases hbh : b = h
          · exact .inl hbh
          · exact .inr ⟨hb, hbh⟩
    have HF := Lib.hid hfin
    have H3 := Lib.hid hrun
    have HW4 := Lib.hid hw4
    clear hfin hrun hw4 hown hown3 hown4 hk3 hk4 hg3 hvY hvn hv hv3 hv4 hg3Y hYY hYn hk1 hk2 hr2 hgn hnh hlen
    gi_wp2_with (first | (refine wpListIn_append_eq (o := ⟨some 11, _, _, _, _, _⟩) (by rfl) (by rfl) (by rfl) (by rfl) H3.out ?_))
    rw [HW4.out]
    exact HF.out
  case done =>
    rintro D Y W hD hDd ⟨ao, cv, hv, hown⟩ hY hkW
    have hk2 : Keep (fun b => b = h) w W := by
      have h1 : Keep (fun b => b = n ∨ b = h) w W := (Keep.of_all (by rw [HN.out]; exact hb1)).trans hkW
      refine h1.weaken fun b hb h2 => ?_
      rw [HN.out] at hb; omega
    have b2 := cell_one hv
    have hDw : W.heap.size = W.heap.size := rfl
    have HF := Lib.hid (And.intro hown (And.intro hk2 hY))
    have HDD := Lib.hid hDd
    clear hown hk2 hkW hY hDd eg hNd hNdw hw0 hDw
    gi_wp2
    refine leaves_marks (Ds := [D]) (by simp) (fun D' h => by simp at h; subst h; exact HDD.out) (fun W' hk' => ⟨_, results_tmp rfl _ _ _, ?_⟩)
    obtain ⟨ho, hkk, hY⟩ := HF.out
    have hk' : Keep (fun b => b = D) W W' := hk'.weaken fun b _ hb => by simpa using hb
    have ho2 := ho.keep hk' (fun b hb hy => by
      have hb : b = D := hb
      rcases hy with hy | hy
      · omega
      · exact (hY b hy).2 hb)
    refine ⟨_, _, _, rfl, rfl, ho2.weaken (fun b hy => ?_), hkk.plus hk' (fun b hb hy => ?_)⟩
    · rcases hy with hy | hy
      · exact .inl hy
      · have := (hY b hy).1; rw [HN.out]; exact .inr (by omega)
    · have hy : b = D := hy
      rw [HN.out] at hb
      exact absurd hb (by omega)
end Go.Proofs.YtmpjlenfnlijfaaGreatDoor
/- Spans of a set. -/
namespace Go.Proofs.YtmpjlenfnlijfaaGreatDoor
open Go Go.RowKit Go.Kt Go.Kt.Rg

/-- The world behind the memory for spans. -/
def mkW (W : World) (c : Nat) : World := W.alloc (.cells (madeCells (Value.agg #[.int .i32 0, .int .i32 0]).cells (c * 2)) 39)
theorem mk_spans (W : World) (c : Nat) (hc : 8 * c ≤ 281474976710656) :
    (Instr.makeSlice 22 (.int .i64 0) (.int .i64 (c : Int))).run Tryz.prog W = .ok (.slice (some ⟨W.heap.size, 0, none⟩) 0 c) (mkW W c) ∧
      OwnS (fun b => b = W.heap.size) 39 2 (.slice (some ⟨W.heap.size, 0, none⟩) 0 c) 0 (encSp []) (mkW W c) ∧ (mkW W c).heap.size = W.heap.size + 1 ∧ Below W.heap.size W (mkW W c) := by
  obtain ⟨i, hi, hz, hs1, hbb1⟩ := info_parts tinfoSpan
  have hb' : (i.bytes : Int) * (c : Int) ≤ 281474976710656 := by rw [hbb1]; omega
  have hr := run_make (P := Tryz.prog) W 22 39 i _ Tryz.underlying22 hi hz .i64 .i64 0 c (Int.le_refl _) (by omega) hb' (by omega)
  simp only [Int.toNat_zero, Int.toNat_natCast] at hr
  have hm : c ≤ maxLen := by unfold maxLen; omega
  have hq := World.ownsRow_made (base := 0) W (madeCells (Value.agg #[.int .i32 0, .int .i32 0]).cells (c * i.size)) c (Nat.zero_le _) hm (size_madeCells _ _) (e := 39)
  rw [hs1] at hq hr
  exact ⟨hr, ⟨hq, fun g h => by cases h; rfl⟩, by simp [mkW], (Below.refl _ W).alloc (Nat.le_refl _) _⟩

theorem enters_spans : ∀ args w, (callFunc 93 args).run Tryz.prog w = .ok (.enter 93 args) w := enters_of Tryz.func93 (by kernel_rfl) rfl

/-- A set's row, in any later world. -/
theorem set_row {l : List Run} {b : Nat} {w : World} (h : SetAt l b w) :
    b < w.heap.size ∧ ∃ g, g < w.heap.size ∧ ∃ ao cap, ∀ V, Below w.heap.size w V → (V.cell? ⟨b, 0, none⟩ = some (.slice ao l.length cap) ∧ (l = [] ∨ ao = some ⟨g, 0, none⟩ ∧ ∀ (i : Nat) (x : Run), l[i]? = some x → V.cell? ⟨g, i * 2, none⟩ = some (.int .i64 x.1) ∧ V.cell? ⟨g, i * 2 + 1, none⟩ = some (.int .i64 x.2))) := by
  obtain ⟨v, h1, ao, cap, rfl, h2⟩ := h
  have hb := lt_of_cell h1
  refine ⟨hb, ?_⟩
  cases l with
  | nil => exact ⟨b, hb, ao, cap, fun V hV => ⟨(hV.cell hb).trans h1, .inl rfl⟩⟩
  | cons x t =>
    rcases h2 with h2 | ⟨g, rfl, h2⟩
    · cases h2
    · have hg := lt_of_cell (h2 0 x rfl).1
      refine ⟨g, hg, _, cap, fun V hV => ⟨(hV.cell hb).trans h1, .inr ⟨rfl, fun i y hy => ?_⟩⟩⟩
      have h3 := h2 i y hy
      have e1 : V.cell? ⟨g, i * 2, none⟩ = w.cell? ⟨g, i * 2, none⟩ := hV.cell hg
      have e2 : V.cell? ⟨g, i * 2 + 1, none⟩ = w.cell? ⟨g, i * 2 + 1, none⟩ := hV.cell hg
      exact ⟨e1.trans h3.1, e2.trans h3.2⟩

set_option maxRecDepth 100000 in
set_option maxHeartbeats 2000000 in
theorem rSpans_any (l : List Run) (b : Nat) (w : World) (h : SetAt l b w) (hc : Canon l) (hT : PTab w) :
    Calls Tryz.prog 14 #[ptrV b] w fun e w' => ∃ ao cp, e = .returned (.slice ao l.length cp) ∧ OwnS (fun b => w.heap.size ≤ b) 39 2 (.slice ao l.length cp) l.length (encSp (spansL l)) w' ∧ Below w.heap.size w w' := by
  have hlen := canon_len hc (Int.le_refl _)
  have hl : l.length ≤ 1112192 := by unfold allN at hlen; omega
  obtain ⟨hb, g, hg, ao, cap, hrow⟩ := set_row h
  have q2 := (hrow w (Below.refl _ _)).1
  have hpt := hT.lt
  have CA : Hid (∀ (V : World) (h' c bs : Nat), Below w.heap.size w V → w.heap.size ≤ h' → w.heap.size ≤ bs → h' ≠ bs → OwnS (fun b => b = h') 39 2 (.slice (some ⟨h', 0, none⟩) 0 c) 0 (encSp []) V → V.cell? ⟨bs, 0, none⟩ = some (ptrV b) →
      Calls Tryz.prog 44 #[.slice (some ⟨h', 0, none⟩) 0 c, .func (.func 93) #[] #[.pointer (some ⟨bs, 0, none⟩)]] V fun e w' => ∃ ao cp, e = .returned (.slice ao l.length cp) ∧ OwnS (fun b => w.heap.size ≤ b) 39 2 (.slice ao l.length cp) l.length (encSp (spansL l)) w' ∧ Below w.heap.size w w') := Lib.hid fun V h' c bs hV h1 h2 h3 ho hbs => by
    have hVs := hV.size
    have hbs' := lt_of_cell hbs
    have it := spans_iter l bs b g V hbs ⟨ao, cap, hrow V hV⟩ hc (hT.next hV)
    have hsl : (spansL l).length = l.length := by simp [spansL]
    refine (rappend_any (spansL l) _ _ _ h' c V V enters_spans it (fun x hx => ?_) (fun _ _ => rfl) (Nat.le_refl _) (by omega) ho).mono ?_
    · simp only at hbs'
      rcases hx with rfl | rfl | rfl | rfl <;> omega
    · rintro e w' ⟨ao2, m, cp2, rfl, rfl, ho2, hk2⟩
      rw [hsl] at ho2 ⊢
      exact ⟨ao2, cp2, rfl, ho2.weaken (fun x hx => by rcases hx with hx | hx <;> omega), hV.trans (hk2.below hVs (fun x hx => by have hx : x = h' := hx; omega))⟩
  have CM : Hid (∀ (V : World) (o : Obj), Below w.heap.size w V → (Below w.heap.size w (mkW V l.length) ∧ OwnS (fun x => x = V.heap.size) 39 2 (.slice (some ⟨V.heap.size, 0, none⟩) 0 l.length) 0 (encSp []) (mkW V l.length) ∧ (mkW V l.length).heap.size = V.heap.size + 1)) := Lib.hid fun V o hV => by
    obtain ⟨_, a2, a3, a4⟩ := mk_spans V l.length (by omega)
    exact ⟨hV.trans (a4.mono hV.size), a2, a3⟩
  have mk : ∀ V, (Instr.makeSlice 22 (.int .i64 0) (.int .i64 (l.length : Int))).run Tryz.prog V = .ok (.slice (some ⟨V.heap.size, 0, none⟩) 0 l.length) (mkW V l.length) := fun V => (mk_spans V l.length (by omega)).1
  have hbd : Below w.heap.size w w.drew := show Below w.heap.size w (w.drewN 1) from below_drewN (Below.refl _ _) 1
  have LA : Hid (∀ w1 : World, (mkW w.drew l.length).alloc (.cells #[ptrV b] 25) = w1 → Calls Tryz.prog 44 #[.slice (some ⟨w.heap.size, 0, none⟩) 0 l.length, .func (.func 93) #[] #[.pointer (some ⟨(mkW w.drew l.length).heap.size, 0, none⟩)]] w1 fun e w' => ∃ ao cp, e = .returned (.slice ao l.length cp) ∧ OwnS (fun b => w.heap.size ≤ b) 39 2 (.slice ao l.length cp) l.length (encSp (spansL l)) w' ∧ Below w.heap.size w w') := Lib.hid fun w1 e1 => by
    obtain ⟨b1, b2, b3⟩ := CM.out w.drew (.cells #[] 0) hbd
    have hz : w.drew.heap.size = w.heap.size := rfl
    rw [hz] at b2 b3
    have hal := (Below.refl (mkW w.drew l.length).heap.size (mkW w.drew l.length)).alloc (Nat.le_refl _) (.cells #[ptrV b] 25)
    rw [e1] at hal
    refine CA.out w1 _ _ _ (b1.trans (hal.mono b1.size)) (Nat.le_refl _) (by omega) (by omega) (b2.keep (X := fun _ => False) (.of_all hal) (fun _ h => h.elim)) ?_
    rw [← e1]
    rw [Lib.cell_of_heap (alloc_at rfl)]; rfl
  have LB : Hid (∀ w1 : World, w.drew.alloc (.cells #[ptrV b] 25) = w1 → Calls Tryz.prog 44 #[.slice (some ⟨w1.heap.size, 0, none⟩) 0 l.length, .func (.func 93) #[] #[.pointer (some ⟨w.heap.size, 0, none⟩)]] (mkW w1 l.length) fun e w' => ∃ ao cp, e = .returned (.slice ao l.length cp) ∧ OwnS (fun b => w.heap.size ≤ b) 39 2 (.slice ao l.length cp) l.length (encSp (spansL l)) w' ∧ Below w.heap.size w w') := Lib.hid fun w1 e1 => by
    have hz : w.drew.heap.size = w.heap.size := rfl
    have hal := (Below.refl w.drew.heap.size w.drew).alloc (Nat.le_refl _) (.cells #[ptrV b] 25)
    rw [e1, hz] at hal
    have hs1 : w1.heap.size = w.heap.size + 1 := by rw [← e1]; simp
    have hc1 : w1.cell? ⟨w.heap.size, 0, none⟩ = some (ptrV b) := by rw [← e1, Lib.cell_of_heap (alloc_at hz.symm)]; rfl
    obtain ⟨b1, b2, b3⟩ := CM.out w1 (.cells #[] 0) (hbd.trans hal)
    obtain ⟨_, _, _, b4⟩ := mk_spans w1 l.length (by omega)
    exact CA.out _ _ _ _ b1 (by omega) (Nat.le_refl _) (by omega) b2 ((b4.cell (by rw [hs1]; exact Nat.lt_succ_self _)).trans hc1)
  have CQ : Hid (∀ w1 : World, w.drew.alloc (.cells #[ptrV b] 25) = w1 → w1.cell? ⟨b, 0, none⟩ = some (.slice ao l.length cap)) := Lib.hid fun w1 e1 => by
    have hal := (Below.refl w.drew.heap.size w.drew).alloc (Nat.le_refl _) (.cells #[ptrV b] 25)
    rw [e1] at hal
    exact (hrow w1 (hbd.trans hal)).1
  clear hrow h hc hT hlen hbd
  go_enter Tryz.func14, Tryz.ntmps14
  go_wp2
  go_region_with (first
    | (go_at_call 45; refine (rspans_call b _).mono ?_; rintro e w1 ⟨rfl, hw1⟩; (have HW1 := Lib.hid hw1); (try (have q2b := CQ.out _ hw1)); clear hw1)
    | (go_at_call 44; (first | refine (LA.out _ HW1.out).mono ?_ | refine (LB.out _ HW1.out).mono ?_); rintro e w2 ⟨ao2, cp2, rfl, HF⟩))
  all_goals
    go_wp2
    go_ret
    exact ⟨_, _, rfl, HF⟩
end Go.Proofs.YtmpjlenfnlijfaaGreatDoor
/- strconv.FormatInt to the base 16, and the one form of a point. -/
namespace Go.Proofs.YtmpjlenfnlijfaaGreatDoor
open Go Go.RowKit Go.Kt Go.Kt.Bits

/-- The digits. -/
def hexD (d : Nat) : UInt8 := if d < 10 then UInt8.ofNat (48 + d) else UInt8.ofNat (87 + d)
def hexF : Nat → Nat → List UInt8
  | 0, u => [hexD (u % 16)]
  | f + 1, u => if u < 16 then [hexD u] else hexF f (u / 16) ++ [hexD (u % 16)]
def hexL (u : Nat) : List UInt8 := hexF 8 u
theorem digit_ix : ∀ (d : Nat), d < 16 → ∀ w : World, (Instr.index 9 (.string ⟨#[48, 49, 50, 51, 52, 53, 54, 55, 56, 57, 97, 98, 99, 100, 101, 102, 103, 104, 105, 106, 107, 108, 109, 110, 111, 112, 113, 114, 115, 116, 117, 118, 119, 120, 121, 122]⟩) (.int .u64 (d : Nat))).run Tryz.prog w = .ok (.int .u8 ((hexD d).toNat : Nat)) w
  | 0, _ => fun _ => by kernel_rfl
  | 1, _ => fun _ => by kernel_rfl
  | 2, _ => fun _ => by kernel_rfl
  | 3, _ => fun _ => by kernel_rfl
  | 4, _ => fun _ => by kernel_rfl
  | 5, _ => fun _ => by kernel_rfl
  | 6, _ => fun _ => by kernel_rfl
  | 7, _ => fun _ => by kernel_rfl
  | 8, _ => fun _ => by kernel_rfl
  | 9, _ => fun _ => by kernel_rfl
  | 10, _ => fun _ => by kernel_rfl
  | 11, _ => fun _ => by kernel_rfl
  | 12, _ => fun _ => by kernel_rfl
  | 13, _ => fun _ => by kernel_rfl
  | 14, _ => fun _ => by kernel_rfl
  | 15, _ => fun _ => by kernel_rfl
  | d + 16, h => by omega
theorem and_15 (u : Nat) (hu : u < 2 ^ 64) : bits .and .u64 (u : Int) 15 = ((u % 16 : Nat) : Int) := by
  have := bits_and u 15 hu (by decide)
  rw [show (15 : Int) = ((15 : Nat) : Int) from rfl, this]
  have e : u &&& 15 = u % 16 := Nat.and_two_pow_sub_one_eq_mod u 4
  rw [e]

set_option maxRecDepth 100000 in
theorem rtz_16 (w : World) (hT : BTab w) : Calls Tryz.prog 172 #[.int .u64 16] w fun e w' => e = .returned (.int .i64 4) ∧ w = w' := by
  have C := Lib.hid (tz_any 16 4 0 w hT (Lib.hid (by decide)))
  go_enter Tryz.func172, Tryz.ntmps172
  go_wp2_with fail
  refine C.out.mono ?_
  rintro e w' ⟨rfl, h⟩
  go_wp2
  go_ret
  exact ⟨rfl, h⟩
theorem rpow2_16 (w : World) : Calls Tryz.prog 171 #[.int .i64 16] w fun e w' => e = .returned (.bool true) ∧ w = w' := by
  go_enter Tryz.func171, Tryz.ntmps171
  go_wp2
  go_ret
  exact ⟨by kernel_rfl, rfl⟩
set_option maxRecDepth 100000 in
set_option maxHeartbeats 2000000 in
theorem rbits_any (u : Nat) (w : World) (hT : BTab w) (hu : u < 16 ^ 6) :
    Calls Tryz.prog 163 #[.slice none 0 0, .int .u64 u, .int .i64 16, .bool false, .bool false] w fun e w' => e = .returned (.tuple #[.slice none 0 0, .string ⟨(hexL u).toArray⟩]) ∧ Below w.heap.size w w' := by
  have CT := Lib.hid (fun V (h : BTab V) => rtz_16 V h)
  have CP := Lib.hid rpow2_16
  have HT := Lib.hid hT
  clear hT
  go_enter Tryz.func163, Tryz.ntmps163
  go_wp2_with (go_at_call 171; refine (CP.out _).mono ?_; rintro e w1 ⟨rfl, rfl⟩)
  refine (CT.out _ (fun j hj => (((Below.refl w.heap.size w).alloc (Nat.le_refl _) _).cell (lt_of_cell (HT.out j hj))).trans (HT.out j hj))).mono ?_
  rintro e w1 ⟨rfl, rfl⟩
  obtain ⟨W, hW⟩ : ∃ W, w.alloc (.cells Tryz.zeroCells316 316) = W := ⟨_, rfl⟩
  have hb : Below w.heap.size w W := by rw [← hW]; exact (Below.refl _ _).alloc (Nat.le_refl _) _
  have hh : W.heap[w.heap.size]? = some (.cells Tryz.zeroCells316 316 (0, 0)) := by rw [← hW]; exact World.alloc_heap_new w _
  have hzs : (Tryz.zeroCells316).size = 65 := by kernel_rfl
  have HW := Lib.hid (And.intro hb (And.intro hh hzs))
  rw [hW]
  clear hW hb hh hzs
  go_wp2_with fail
  go_loopw [1, 13] (fun x i wr => ∃ (k v : Nat) (suf : List UInt8) (cs : Array Value), x = .int .u64 (v : Nat) ∧ i = .int .i64 (65 - (k : Int)) ∧ k ≤ 5 ∧ v < 16 ^ (6 - k) ∧ hexF (8 - k) v ++ suf = hexL u ∧ suf.length = k ∧ wr.heap[w.heap.size]? = some (.cells cs 316 (0, 0)) ∧ cs.size = 65 ∧
      (∀ j b, suf[j]? = some b → cs[65 - k + j]? = some (.int .u8 (b.toNat : Nat))) ∧ Below w.heap.size w wr) (fun x _ _ => (RowKit.intOf x).toNat)
  case atStart => exact ⟨0, u, [], _, rfl, rfl, by omega, hu, by simp [hexL], rfl, HW.out.2.1, HW.out.2.2, fun j b h => by simp at h, HW.out.1⟩
  case round =>
    obtain ⟨k, v, suf, cs, rfl, rfl, hk, hv, hhex, hsl, hcs, hsz, hcell, hb⟩ := hrel
    have hv6 : v < 16777216 := Nat.lt_of_lt_of_le hv (Nat.le_trans (Nat.pow_le_pow_right (by decide) (show 6 - k ≤ 6 by omega)) (by decide))
    have HI := Lib.hid (And.intro hv (And.intro hhex (And.intro hsl (And.intro hcs (And.intro hsz (And.intro hcell hb))))))
    have c0 : ∀ i, i < 65 → ∃ y, wr.cell? ⟨w.heap.size, i, none⟩ = some y := fun i hi => ⟨cs[i]'(by omega), by rw [Lib.cell_of_heap hcs]; exact Array.getElem?_eq_getElem _⟩
    obtain ⟨q, hq⟩ : ∃ q, k + 1 + q = 65 := ⟨65 - k - 1, by omega⟩
    obtain ⟨y, c1⟩ := c0 q (by omega)
    have f1 : wr.frozen? ⟨w.heap.size, q, none⟩ = false := Lib.frozen_of_heap hcs _
    have e64 : (65 : Int) - (k : Int) - 1 = (q : Int) := by omega
    have hq65 : (q : Int) < 65 := by omega
    have SET : Hid (∀ d : UInt8, (wr.setCell ⟨w.heap.size, q, none⟩ (.int .u8 (d.toNat : Nat))).heap[w.heap.size]? = some (.cells (cs.setIfInBounds q (.int .u8 (d.toNat : Nat))) 316 (0, 0)) ∧ (cs.setIfInBounds q (.int .u8 (d.toNat : Nat))).size = 65 ∧
        (∀ j b, (d :: suf)[j]? = some b → (cs.setIfInBounds q (.int .u8 (d.toNat : Nat)))[q + j]? = some (.int .u8 (b.toNat : Nat))) ∧ Below w.heap.size w (wr.setCell ⟨w.heap.size, q, none⟩ (.int .u8 (d.toNat : Nat)))) := Lib.hid fun d => by
      refine ⟨heap_setCell_same wr _ q cs _ _ hcs, by simpa using hsz, fun j b hj => ?_, hb.setCell (Nat.le_refl _) _⟩
      cases j with
      | zero =>
        simp at hj; subst hj
        rw [Nat.add_zero, Array.getElem?_setIfInBounds, if_pos rfl, if_pos (by omega)]
      | succ j =>
        rw [Array.getElem?_setIfInBounds, if_neg (by omega)]
        have := hcell j b (by simpa using hj)
        rw [show 65 - k + j = q + (j + 1) by omega] at this
        exact this
    clear hv hhex hsl hcs hsz hcell hb c0
    by_cases h16 : 16 ≤ v
    · have h16' : (16 : Int) ≤ (v : Int) := by omega
      have hk4 : k < 5 := by
        rcases Nat.lt_or_ge k 5 with h | h
        · exact h
        · have := HI.out.1; rw [show 6 - k = 1 by omega] at this; omega
      obtain ⟨r, hr⟩ : ∃ r, v % 16 = r := ⟨_, rfl⟩
      obtain ⟨z, hz⟩ : ∃ z, v / 16 = z := ⟨_, rfl⟩
      have hz' : (v : Int) / 16 = (z : Int) := by omega
      have d1 := and_15 v (by omega)
      rw [hr] at d1
      have d2 := digit_ix r (by omega)
      have HZ : Hid (z < 16 ^ (6 - (k + 1)) ∧ hexF (8 - (k + 1)) z ++ (hexD r :: suf) = hexL u) := Lib.hid (by
        refine ⟨?_, ?_⟩
        · have := HI.out.1
          rw [show 6 - k = 6 - (k + 1) + 1 by omega, Nat.pow_succ] at this
          rw [← hz]; omega
        · have := HI.out.2.1
          rw [show 8 - k = 8 - (k + 1) + 1 by omega, hexF, if_neg (by omega), hr, hz, List.append_assoc] at this
          exact this)
      have hzv : z < v := by omega
      clear hr hz
      go_wp2_with fail
      go_roundw
      case rel =>
        obtain ⟨s1, s2, s3, s4⟩ := SET.out (hexD r)
        exact ⟨k + 1, z, hexD r :: suf, _, rfl, by congr 1; omega, by omega, HZ.out.1, HZ.out.2, by simp [HI.out.2.2.1], s1, s2, fun j b hj => by rw [show 65 - (k + 1) + j = q + j by omega]; exact s3 j b hj, s4⟩
      case measure => simp [RowKit.intOf]; omega
    · have h16' : ¬ (16 : Int) ≤ (v : Int) := by omega
      have d2 := digit_ix v (by omega)
      obtain ⟨s1, s2, s3, s4⟩ := SET.out (hexD v)
      have hal : Tryz.prog.arrayLen 316 = 65 := by kernel_rfl
      have hsl : ∀ W : World, (Instr.sliceAt 316 (.pointer (some ⟨w.heap.size, 0, none⟩)) (some (.int .i64 (q : Nat))) none none).run Tryz.prog W = .ok (.slice (some ⟨w.heap.size, q, none⟩) (k + 1) (k + 1)) W := fun W => by
        rw [run_sliceAt_array_l W 316 ⟨w.heap.size, 0, none⟩ (by kernel_rfl) .i64 (q : Nat) (by omega) (by rw [hal]; omega), hal]
        have e1 : Tryz.prog.elem 316 = 5 := by kernel_rfl
        rw [e1, Tryz.sizeOf5]
        simp only [Result.andThen_ok, slicedAt, Int.toNat_natCast]
        rw [if_neg (by omega), show 65 - q = k + 1 by omega, Addr.add_lit]
        simp
      have hcv := run_convert_bytes_back (P := Tryz.prog) (wr.setCell ⟨w.heap.size, q, none⟩ (.int .u8 ((hexD v).toNat : Nat))) 146 9 5 ⟨w.heap.size, q, none⟩ (k + 1) (hexD v :: suf) Tryz.underlying146 Tryz.underlying5 Tryz.underlying9 (fun j hj => by
        rw [Addr.add_lit, Lib.cell_of_heap s1]
        have := s3 j _ (List.getElem?_eq_getElem hj)
        rw [this])
      rw [List.length_cons, HI.out.2.2.1] at hcv
      have HL : Hid ((hexD v :: suf) = hexL u) := Lib.hid (by
        have := HI.out.2.1
        rw [show 8 - k = (7 - k) + 1 by omega, hexF, if_pos (by omega)] at this
        exact this)
      rw [HL.out] at hcv
      have HS := Lib.hid s4
      clear s1 s2 s3 s4 hal
      go_wp2_with fail
      go_ret2
      exact ⟨rfl, HS.out⟩

set_option maxRecDepth 100000 in
theorem rformat_any (u : Nat) (w : World) (hT : BTab w) (hu : u < 16 ^ 6) :
    Calls Tryz.prog 128 #[.int .i64 u, .int .i64 16] w fun e w' => e = .returned (.string ⟨(hexL u).toArray⟩) ∧ Below w.heap.size w w' := by
  have C := Lib.hid (rbits_any u w hT hu)
  have hu2 : u < 16777216 := hu
  have C2 : Hid (Calls Tryz.prog 149 #[.int .i64 u, .int .i64 16] w fun e w' => e = .returned (.string ⟨(hexL u).toArray⟩) ∧ Below w.heap.size w w') := Lib.hid (by
    clear hT
    go_enter Tryz.func149, Tryz.ntmps149
    go_wp2_with fail
    refine C.out.mono ?_
    rintro e w' ⟨rfl, hb⟩
    go_wp2
    go_ret
    exact ⟨rfl, hb⟩)
  clear hT
  go_enter Tryz.func128, Tryz.ntmps128
  go_wp2_with fail
  refine C2.out.mono ?_
  rintro e w' ⟨rfl, hb⟩
  go_wp2
  go_ret
  exact ⟨rfl, hb⟩

/-- The one form of a point. -/
def printP (r : Int) : List UInt8 := if 1114111 < r then [92, 120] ++ hexL (r - 1114112).toNat else [92, 117, 123] ++ hexL r.toNat ++ [125]
theorem hexF_len : ∀ (f u : Nat), (hexF f u).length ≤ f + 1
  | 0, _ => by simp [hexF]
  | f + 1, u => by
    have := hexF_len f (u / 16)
    unfold hexF
    split
    · simp
    · rw [List.length_append]; simp; omega
theorem bytes_add (a b : List UInt8) : (⟨a.toArray⟩ : ByteArray) ++ ⟨b.toArray⟩ = ⟨(a ++ b).toArray⟩ := by
  apply ByteArray.ext
  simp
set_option maxRecDepth 100000 in
theorem rprinted_any (r : Int) (w : World) (hT : BTab w) (hr : 0 ≤ r ∧ r ≤ 1114367) :
    Calls Tryz.prog 85 #[.int .i32 r] w fun e w' => e = .returned (.string ⟨(printP r).toArray⟩) ∧ Below w.heap.size w w' := by
  by_cases h : 1114111 < r
  · obtain ⟨u, hu⟩ : ∃ u : Nat, r - 1114112 = u := ⟨(r - 1114112).toNat, by omega⟩
    have hp : printP r = [92, 120] ++ hexL u := by unfold printP; rw [if_pos h, hu]; rfl
    have C := Lib.hid (rformat_any u w hT (by show u < 16777216; omega))
    have hl := hexF_len 8 u
    have HP : Hid ((⟨#[92, 120]⟩ : ByteArray) ++ ⟨(hexL u).toArray⟩ = ⟨(printP r).toArray⟩) := Lib.hid (by rw [hp]; exact bytes_add [92, 120] _)
    have hsz : (⟨(hexL u).toArray⟩ : ByteArray).size ≤ 9 := by show (hexL u).toArray.size ≤ 9; simpa [hexL] using hl
    generalize (⟨(hexL u).toArray⟩ : ByteArray) = L at *
    clear hp hT hl
    go_enter Tryz.func85, Tryz.ntmps85
    go_wp2_with fail
    refine C.out.mono ?_
    rintro e w' ⟨rfl, hb⟩
    go_wp2
    go_ret
    exact ⟨by rw [← HP.out]; rfl, hb⟩
  · obtain ⟨u, hu⟩ : ∃ u : Nat, r = u := ⟨r.toNat, by omega⟩
    subst hu
    have hp : printP (u : Int) = [92, 117, 123] ++ hexL u ++ [125] := by unfold printP; rw [if_neg h]; rfl
    have C := Lib.hid (rformat_any u w hT (by show u < 16777216; omega))
    have hl := hexF_len 8 u
    have HP : Hid ((⟨#[92, 117, 123]⟩ : ByteArray) ++ ⟨(hexL u).toArray⟩ ++ ⟨#[125]⟩ = ⟨(printP (u : Int)).toArray⟩) := Lib.hid (by rw [hp, bytes_add [92, 117, 123] (hexL u)]; exact bytes_add _ [125])
    have hsz : (⟨(hexL u).toArray⟩ : ByteArray).size ≤ 9 := by show (hexL u).toArray.size ≤ 9; simpa [hexL] using hl
    generalize (⟨(hexL u).toArray⟩ : ByteArray) = L at *
    have hsz2 : ((⟨#[92, 117, 123]⟩ : ByteArray) ++ L).size ≤ 12 := by rw [ByteArray.size_append]; show 3 + L.size ≤ 12; omega
    clear hp hT hl
    go_enter Tryz.func85, Tryz.ntmps85
    go_wp2_with fail
    refine C.out.mono ?_
    rintro e w' ⟨rfl, hb⟩
    go_wp2
    go_ret
    exact ⟨by rw [← HP.out]; rfl, hb⟩
end Go.Proofs.YtmpjlenfnlijfaaGreatDoor
/- The print of a set. -/
namespace Go.Proofs.YtmpjlenfnlijfaaGreatDoor
open Go Go.RowKit Go.Kt Go.Kt.Rg
attribute [local go_sem] Oper.semAt_some

/-- The form of one span, of spans. -/
def printS (x : Int × Int) : List UInt8 := printP x.1 ++ (if x.2 = x.1 then [] else 45 :: printP x.2)
def printL (L : List (Int × Int)) : List UInt8 := L.flatMap printS
theorem printP_len (r : Int) : (printP r).length ≤ 13 := by
  have h := fun u => hexF_len 8 u
  unfold printP hexL
  split
  · have := h (r - 1114112).toNat; simp only [List.length_append, List.length_cons, List.length_nil]; omega
  · have := h r.toNat; simp only [List.length_append, List.length_cons, List.length_nil]; omega
theorem printS_len (x : Int × Int) : (printS x).length ≤ 27 := by
  have h1 := printP_len x.1
  have h2 := printP_len x.2
  unfold printS
  split <;> simp only [List.length_append, List.length_cons, List.length_nil] <;> omega
theorem printL_len (L : List (Int × Int)) : (printL L).length ≤ 27 * L.length := by
  induction L with
  | nil => simp [printL]
  | cons x t ih => have := printS_len x; simp only [printL, List.flatMap_cons, List.length_append, List.length_cons] at ih ⊢; omega
theorem printL_snoc (L : List (Int × Int)) (x : Int × Int) : printL (L ++ [x]) = printL L ++ printS x := by simp [printL]

/-- A builder at work, seen from the world A. -/
def St (n : Nat) (Yb : Nat → Prop) (A : World) (acc : List UInt8) (V : World) : Prop :=
  Bld n (fun x => Yb x ∨ A.heap.size ≤ x) acc V ∧ Keep (fun x => x = n ∨ Yb x) A V
theorem St.next {n : Nat} {Yb : Nat → Prop} {A V V' : World} {acc acc' : List UInt8} {Y' : Nat → Prop} (h : St n Yb A acc V) (hb : Bld n Y' acc' V') (hk : Keep (fun c => c = n ∨ (Yb c ∨ A.heap.size ≤ c)) V V') (hY : ∀ c, Y' c → (Yb c ∨ A.heap.size ≤ c) ∨ V.heap.size ≤ c) : St n Yb A acc' V' := by
  have hs := h.2.size
  obtain ⟨p, v, hp, hh, ho, hne, hy⟩ := hb
  refine ⟨⟨p, v, hp, hh, ho, hne, fun g hg => ?_⟩, h.2.plus hk fun b hb hx => ?_⟩
  · rcases hY g (hy g hg) with hx | hx
    · exact hx
    · exact .inr (by omega)
  · rcases hx with hx | hx | hx
    · exact .inl hx
    · exact .inr hx
    · omega
theorem St.ws {n : Nat} {Yb : Nat → Prop} {A V : World} {acc : List UInt8} (h : St n Yb A acc V) (s : List UInt8) (hlen : acc.length + s.length ≤ 140737488355328) :
    Calls Tryz.prog 84 #[.pointer (some ⟨n, 0, none⟩), .string ⟨s.toArray⟩] V fun e V' => e = .returned (.tuple #[.int .i64 s.length, .nilIface]) ∧ St n Yb A (acc ++ s) V' := by
  have hs : (⟨s.toArray⟩ : ByteArray).size = s.length := by simp [ByteArray.size]
  refine (writeString_x n _ acc ⟨s.toArray⟩ V h.1 (by omega)).mono ?_
  rintro e V' ⟨rfl, Y', hb, hk, hY⟩
  exact ⟨by rw [hs], h.next (by simpa using hb) hk hY⟩
theorem St.wb {n : Nat} {Yb : Nat → Prop} {A V : World} {acc : List UInt8} (h : St n Yb A acc V) (c : Nat) (hc : c < 256) (hlen : acc.length + 1 ≤ 140737488355328) :
    Calls Tryz.prog 83 #[.pointer (some ⟨n, 0, none⟩), .int .u8 c] V fun e V' => e = .returned .nilIface ∧ St n Yb A (acc ++ [UInt8.ofNat c]) V' := by
  refine (writeByte_x n _ acc c V h.1 (by omega) (by omega) hlen).mono ?_
  rintro e V' ⟨rfl, Y', hb, hk, hY⟩
  exact ⟨rfl, h.next (by simpa using hb) hk hY⟩
theorem Bld.lt {b : Nat} {Y : Nat → Prop} {l : List UInt8} {W : World} (h : Bld b Y l W) : Bld b (fun x => Y x ∧ x < W.heap.size) l W := by
  obtain ⟨p, v, hp, hh, ho, hne, hy⟩ := h
  refine ⟨p, v, hp, hh, ho, hne, fun g hg => ⟨hy g hg, ?_⟩⟩
  rcases ho.2 with ⟨hv, _⟩ | ⟨g', cap, cur, fz, rfl, _, hg', _⟩
  · rw [hv] at hg; cases hg
  · cases hg; exact (Array.getElem?_eq_some_iff.1 hg').1
theorem Bld.weaken {b : Nat} {Y Y' : Nat → Prop} {l : List UInt8} {W : World} (h : Bld b Y l W) (hY : ∀ x, Y x → Y' x) : Bld b Y' l W := by
  obtain ⟨p, v, hp, hh, ho, hne, hy⟩ := h
  exact ⟨p, v, hp, hh, ho, hne, fun g hg => hY _ (hy g hg)⟩
theorem Bld.at {b : Nat} {l : List UInt8} {W : World} (h : ∃ Y, Bld b Y l W) : b < W.heap.size := by
  obtain ⟨Y, p, v, hp, hh, _⟩ := h
  exact (Array.getElem?_eq_some_iff.1 hh).1
theorem St.below {n : Nat} {Yb : Nat → Prop} {A V V' : World} {acc : List UInt8} (h : St n Yb A acc V) (hb : Below V.heap.size V V') : St n Yb A acc V' := by
  have hk : Keep (fun _ => False) V V' := .of_all hb
  exact ⟨h.1.keep hk (fun h => h) (fun _ _ h => h), h.2.plus hk (fun _ _ h => h.elim)⟩
theorem St.start {n : Nat} {Yb : Nat → Prop} {A : World} {acc : List UInt8} (h : Bld n Yb acc A) : St n Yb A acc A := by
  obtain ⟨p, v, hp, hh, ho, hne, hy⟩ := h
  exact ⟨⟨p, v, hp, hh, ho, hne, fun g hg => .inl (hy g hg)⟩, Keep.refl _ _⟩

set_option maxRecDepth 100000 in
set_option maxHeartbeats 2000000 in
theorem rPrint_any (l : List Run) (b : Nat) (w : World) (h : SetAt l b w) (hc : Canon l) (hT : PTab w) (hB : BTab w) (hbt : 7 < w.heap.size) :
    Calls Tryz.prog 33 #[ptrV b] w fun e w' => e = .returned (.string ⟨(91 :: printL (spansL l) ++ [93]).toArray⟩) ∧ Below w.heap.size w w' := by
  have hlen := canon_len hc (Int.le_refl _)
  have hl : l.length ≤ 1112192 := by unfold allN at hlen; omega
  obtain ⟨hbl, g, hg, ao, cap, hrow⟩ := set_row h
  have hpt := hT.lt
  obtain ⟨n, hn⟩ : ∃ n, w.heap.size = n := ⟨_, rfl⟩
  obtain ⟨W0, hW0⟩ : ∃ W0, w.alloc (.cells #[.pointer none, .slice none 0 0] 148 (0, 0)) = W0 := ⟨_, rfl⟩
  have hz0 : W0.heap.size = n + 1 := by rw [← hW0]; simp [hn]
  have hb0 : Below n w W0 := by rw [← hW0]; exact (Below.refl _ _).alloc (by omega) _
  have b0 : W0.heap[n]? = some (.cells #[.pointer none, .slice none 0 0] 148 (0, 0)) := by rw [← hW0]; exact alloc_at hn.symm
  have st0 : St n (fun _ => False) W0 [] W0 := St.start ⟨_, _, .inl rfl, b0, ⟨rfl, .inl ⟨rfl, rfl⟩⟩, by simp [Value.ownBlock], by simp [Value.ownBlock]⟩
  have C0 := Lib.hid (st0.wb 91 (by decide) (by simp))
  have HW0 := Lib.hid hW0
  have HROW := Lib.hid hrow
  have HC := Lib.hid hc
  have HT := Lib.hid hT
  have HB := Lib.hid hB
  have HN := Lib.hid hn
  have HB0 := Lib.hid hb0
  have hfn : ∀ k, Fence.wide.fn k := fun _ => trivial
  have hdep : Fence.wide.depth = none := rfl
  clear h hlen hrow hc hT hB hW0 hb0 b0 st0
  rw [hn] at hbl hg hpt hbt
  rw [hn]
  clear hn
  refine (callsIn_wide (n := 0)).1 ?_
  refine callsIn_of_wp_marks Tryz.func33 rfl trivial ?_ rfl
  simp only [Tryz.ntmps33, List.size_toArray, List.length_cons, List.length_nil, Nat.reduceAdd, Nat.reduceSub, Array.replicate_succ, Array.replicate_zero, List.push_toArray, List.append_toArray, List.nil_append, List.cons_append]
  gi_wp2_with fail
  rw [HW0.out, HN.out]
  refine (callsIn_wide.2 C0.out).mono ?_
  rintro e w2 ⟨rfl, st2⟩
  have ST2 := Lib.hid st2
  clear st2
  gi_wp2_with fail
  refine (callsIn_wide.2 (rspans_call b w2)).mono ?_
  rintro e w3 ⟨rfl, hw3⟩
  obtain ⟨bs, hbs⟩ : ∃ bs, w2.heap.size = bs := ⟨_, rfl⟩
  rw [hbs]
  have hz3 : w3.heap.size = bs + 1 := by rw [← hw3]; simp [hbs]
  have hb3 : Below bs w2 w3 := by rw [← hw3]; exact (Below.refl _ _).alloc (by omega) _
  have c3 : w3.cell? ⟨bs, 0, none⟩ = some (ptrV b) := by rw [← hw3, Lib.cell_of_heap (alloc_at hbs.symm)]; rfl
  have st3 : St n (fun _ => False) W0 [91] w3 := ST2.out.below (by rw [hbs]; exact hb3)
  have hk23 := ST2.out.2.size
  have hbw3 : Below n w w3 := HB0.out.trans ((ST2.out.2.below (by omega) (fun x hx => by rcases hx with hx | hx; omega; exact hx.elim)).trans (hb3.mono (by omega)))
  have hTb : PTab w3 := HT.out.below hpt hbw3
  have hit := spans_iter l bs b g w3 c3 ⟨ao, cap, HROW.out w3 (by rw [HN.out]; exact hbw3)⟩ HC.out hTb
  obtain ⟨Y2, hY2⟩ : ∃ Y2 : Nat → Prop, Y2 = fun x => (n + 1 ≤ x ∧ x < bs) := ⟨_, rfl⟩
  have bld3 : Bld n Y2 [91] w3 := by
    have h1 := ST2.out.1.lt
    have h2 : Bld n Y2 [91] w2 := by
      obtain ⟨p, v, hp, hh, ho, hne, hy⟩ := h1
      exact ⟨p, v, hp, hh, ho, hne, fun g hg => by have := hy g hg; rw [hY2]; rcases this with ⟨hx | hx, hx2⟩; exact hx.elim; exact ⟨by omega, by omega⟩⟩
    exact h2.keep (X := fun _ => False) (.of_all (by rw [hbs]; exact hb3)) (fun h => h) (fun _ _ h => h)
  have HIT := Lib.hid hit
  have HB3 := Lib.hid hbw3
  have BLD3 := Lib.hid bld3
  clear hw3 hb3 c3 st3 hbw3 hTb hit bld3
  have hY2r : ∀ x, Y2 x → n + 1 ≤ x ∧ x < bs := fun x hx => by rw [hY2] at hx; exact hx
  clear hY2
  gi_wp2_with fail
  refine loop_out (gf := 93) (lb := #[.pointer (some ⟨bs, 0, none⟩)]) (encs := encS) rfl enters_spans
    HIT.out (fun _ => rfl) (X := fun x => x = n ∨ Y2 x)
    (fun x hx => by rcases hx with hx | hx; omega; have := hY2r x hx; omega) (fun x hx => ?nd) (fun _ _ => rfl) (Nat.le_refl _)
    (fun pre Y W => Bld n (fun x => Y2 x ∨ Y x) (91 :: printL pre) W)
    (fun _ _ _ _ => False)
    (fun pre Y W W' hk h' => h'.keep hk (fun hx => by have := hx.1; omega) (fun x hx hy => by rcases hx with hx | hx; have := hY2r x hx; have := hy.1; omega; exact hy.2 hx))
    (fun _ _ _ _ _ _ h => h) (BLD3.out.weaken fun x hx => .inl hx) ?round ?done ?stop
  case stop => intro D c pre Y W _ _ _ h; exact h.elim
  case nd =>
    rcases hx with rfl | rfl | rfl | rfl
    · exact ⟨fun hx => by rcases hx with hx | hx; omega; have := hY2r _ hx; omega, by omega⟩
    · exact ⟨fun hx => by rcases hx with hx | hx; omega; have := hY2r _ hx; omega, by omega⟩
    · exact ⟨fun hx => by rcases hx with hx | hx; omega; have := hY2r _ hx; omega, by omega⟩
    · exact ⟨fun hx => by rcases hx with hx | hx; omega; have := hY2r _ hx; omega, by omega⟩
  case round =>
    rintro l' hl' pre ⟨lo, hi⟩ Y W hpre hi' hk hY hlt hr
    have hbd : Bld n (fun x => Y2 x ∨ Y x) (91 :: printL pre) W := hi'
    have hW := hk.size
    obtain ⟨a, ha⟩ : ∃ a, W.heap.size = a := ⟨_, rfl⟩
    have hrange : (0 ≤ lo ∧ lo ≤ 1114367) ∧ (0 ≤ hi ∧ hi ≤ 1114367) := by
      obtain ⟨rest, hrest⟩ := hpre
      have hm : (lo, hi) ∈ spansL l := by rw [← hrest]; simp
      obtain ⟨r, hr1, hr2⟩ := List.mem_map.1 hm
      have hf := Canon.fit HC.out r hr1
      unfold spanP at hr2
      cases hr2
      exact ⟨pntI_bd (by omega), pntI_bd (by omega)⟩
    have hlenP : (91 :: printL pre).length ≤ 27 * 1112192 + 1 := by
      obtain ⟨rest, hrest⟩ := hpre
      have h1 := printL_len pre
      have h2 : (spansL l).length = l.length := by simp [spansL]
      have h3 : pre.length ≤ l.length := by rw [← h2, ← hrest]; simp
      simp only [List.length_cons]; omega
    have hp1 := printP_len lo
    have hp2 := printP_len hi
    have HY := Lib.hid hY
    have HBD := Lib.hid hbd
    have HR := Lib.hid hr
    have HK := Lib.hid hk
    clear hi' hk hpre hY hr hbd
    simp only [encS]
    gi_wp2
    (try rw [ha])
    refine ⟨(Keep.refl _ _).alloc _, ?_⟩
    rintro W2 hk1 hk2 _ hr2
    have hsz := hk1.size
    simp at hsz
    have c5 : W2.cell? ⟨a, 0, none⟩ = some (.int .i32 lo) := hk1.cell (by rw [Lib.cell_of_heap (alloc_at ha.symm)]; rfl) (fun h => by have h : a = l' := h; omega)
    have c6 : W2.cell? ⟨a, 1, none⟩ = some (.int .i32 hi) := hk1.cell (by rw [Lib.cell_of_heap (alloc_at ha.symm)]; rfl) (fun h => by have h : a = l' := h; omega)
    have hkl : Keep (fun b => b = l') W W2 := ((Keep.refl (fun b => b = l') W).alloc _).trans hk1
    have hb2 : Below n w W2 := HB3.out.trans (hk2.below (by omega) (fun x hx => by rcases hx with hx | hx; omega; have := hY2r x hx; omega))
    have hbt2 : BTab W2 := fun k hk => (hb2.cell (p := ⟨7, k, none⟩) hbt).trans (HB.out k hk)
    have stA : St n (fun x => (Y2 x ∨ Y x) ∧ x < a) W2 (91 :: printL pre) W2 := by
      have h1 := HBD.out.lt
      rw [ha] at h1
      exact St.start (h1.keep hkl (fun h => by have h : n = l' := h; omega) (fun x hx hy => by
        have hy : x = l' := hy
        rcases hx.1 with hz | hz
        · have := hY2r x hz; omega
        · exact (HY.out x hz).2 hy))
    have CC : Hid (∀ (acc : List UInt8) (V : World), St n (fun x => (Y2 x ∨ Y x) ∧ x < a) W2 acc V → V.cell? ⟨a, 0, none⟩ = some (.int .i32 lo) ∧ V.cell? ⟨a, 1, none⟩ = some (.int .i32 hi) ∧ BTab V) := Lib.hid fun acc V hS => by
      have hx : ¬ (a = n ∨ ((Y2 a ∨ Y a) ∧ a < a)) := fun h => by rcases h with h | h; omega; exact absurd h.2 (Nat.lt_irrefl _)
      refine ⟨hS.2.cell (p := ⟨a, 0, none⟩) c5 hx, hS.2.cell (p := ⟨a, 1, none⟩) c6 hx, fun k hk => ((hS.2.below (n := n) (by omega) (fun x hx => ?_)).cell (p := ⟨7, k, none⟩) hbt).trans (hbt2 k hk)⟩
      rcases hx with hx | ⟨hx | hx, _⟩
      · omega
      · have := hY2r x hx; omega
      · have := (HY.out x hx).1; omega
    have FIN : Hid (∀ (V : World), St n (fun x => (Y2 x ∨ Y x) ∧ x < a) W2 (91 :: printL pre ++ printS (lo, hi)) V → Kt.Left (fun x => x = n ∨ Y2 x) Y (fun pre Y W => Bld n (fun x => Y2 x ∨ Y x) (91 :: printL pre) W) (pre ++ [(lo, hi)]) W2 V) := Lib.hid fun V hS => by
      refine ⟨fun x => Y x ∨ W2.heap.size ≤ x, hS.2.weaken (fun x _ hx => ?_), fun x hx => hx, ?_⟩
      · rcases hx with hx | ⟨hx | hx, _⟩
        · exact .inl (.inl hx)
        · exact .inl (.inr hx)
        · exact .inr hx
      · show Bld n (fun x => Y2 x ∨ (Y x ∨ W2.heap.size ≤ x)) (91 :: printL (pre ++ [(lo, hi)])) V
        rw [printL_snoc]
        exact hS.1.weaken fun x hx => by
          rcases hx with ⟨hx | hx, _⟩ | hx
          · exact .inl hx
          · exact .inr (.inl hx)
          · exact .inr (.inr hx)
    have STA := Lib.hid stA
    have HB2 := Lib.hid hbt2
    clear stA hbt2 hb2 hkl hk1 hk2 hr2 hsz
    gi_wp2_with fail
    refine (CallsIn.inRound l' (callsIn_wide.2 (rprinted_any lo W2 HB2.out hrange.1))).mono ?_
    rintro e V1 ⟨rfl, hb1⟩
    have st1 := STA.out.below hb1
    obtain ⟨d5, d6, _⟩ := CC.out _ _ st1
    have C1 := Lib.hid (st1.ws (printP lo) (by omega))
    clear st1 hb1 c5 c6
    gi_wp2_with fail
    refine (CallsIn.inRound l' (callsIn_wide.2 C1.out)).mono ?_
    rintro e V2 ⟨rfl, st2⟩
    obtain ⟨c5, c6, _⟩ := CC.out _ _ st2
    clear d5 d6
    by_cases hh : hi = lo
    · have e1 : (hi != lo) = false := by simp [hh]
      have hps : printS (lo, hi) = printP lo := by unfold printS; rw [if_pos hh, List.append_nil]
      have HF := Lib.hid (FIN.out V2 (by rw [hps]; exact st2))
      clear st2 hh hps
      gi_wp2_with fail
      exact HF.out
    · have e1 : (hi != lo) = true := by simp [hh]
      have hps : printS (lo, hi) = printP lo ++ [UInt8.ofNat 45] ++ printP hi := by unfold printS; rw [if_neg hh]; simp
      have HPS := Lib.hid hps
      have C2 := Lib.hid (st2.wb 45 (by decide) (by simp only [List.length_append]; omega))
      clear st2 hh hps
      gi_wp2_with fail
      refine (CallsIn.inRound l' (callsIn_wide.2 C2.out)).mono ?_
      rintro e V3 ⟨rfl, st3⟩
      obtain ⟨d5, d6, hbt3⟩ := CC.out _ _ st3
      have HB3' := Lib.hid hbt3
      have ST3 := Lib.hid st3
      clear hbt3 st3 c5 c6
      gi_wp2_with fail
      refine (CallsIn.inRound l' (callsIn_wide.2 (rprinted_any hi V3 HB3'.out hrange.2))).mono ?_
      rintro e V4 ⟨rfl, hb4⟩
      have C4 := Lib.hid ((ST3.out.below hb4).ws (printP hi) (by simp only [List.length_append, List.length_cons, List.length_nil] at hlenP ⊢; omega))
      clear hb4 d5 d6
      gi_wp2_with fail
      refine (CallsIn.inRound l' (callsIn_wide.2 C4.out)).mono ?_
      rintro e V5 ⟨rfl, st5⟩
      have HF := Lib.hid (FIN.out V5 (by rw [HPS.out]; simpa using st5))
      clear st5
      gi_wp2_with fail
      exact HF.out
  case done =>
    rintro D Y W hD hDd hbd hY hkW
    have hlenP : (91 :: printL (spansL l)).length ≤ 27 * 1112192 + 1 := by
      have h1 := printL_len (spansL l)
      have h2 : (spansL l).length = l.length := by simp [spansL]
      simp only [List.length_cons]; omega
    have hsW := hkW.size
    have hYn : ∀ x, (Y2 x ∨ Y x) → n ≤ x ∧ x ≠ D ∧ x ≠ n := fun x hx => by
      rcases hx with hx | hx
      · have := hY2r x hx; exact ⟨by omega, by omega, by omega⟩
      · have := hY x hx; exact ⟨by omega, this.2, by omega⟩
    have hbW : Below n w W := HB3.out.trans (hkW.below (by omega) (fun x hx => by rcases hx with hx | hx; omega; have := hY2r x hx; omega))
    have stD : St n (fun x => Y2 x ∨ Y x) W (91 :: printL (spansL l)) W := St.start hbd
    have C1 := Lib.hid (stD.wb 93 (by decide) (by omega))
    have HD := Lib.hid (And.intro hDd (And.intro hYn hbW))
    clear stD hbd hDd hYn hbW hkW hY
    gi_wp2_with fail
    refine (callsIn_wide.2 C1.out).mono ?_
    rintro e V1 ⟨rfl, st1⟩
    obtain ⟨hDd, hYn, hbW⟩ := HD.out
    have hs1 := st1.2.size
    have hD1 : V1.heap[D]? = some (.deferred (some [])) := st1.2.heap hDd (fun h => by rcases h with h | h; omega; exact (hYn D h).2.1 rfl)
    have hb1 : Below n w V1 := hbW.trans (st1.2.below (by omega) (fun x hx => by rcases hx with hx | hx; omega; exact (hYn x hx).1))
    have C2 := Lib.hid (string_x n _ _ V1 st1.1 n (by omega) (Nat.le_refl _) (fun x hx => by rcases hx with hx | hx; exact (hYn x hx).1; omega))
    have HH := Lib.hid (And.intro hD1 hb1)
    clear hDd hYn hbW st1 hD1 hb1
    gi_wp2_with fail
    refine (callsIn_wide.2 C2.out).mono ?_
    rintro e V2 ⟨rfl, hb2, ho2⟩
    have hD2 : V2.heap[D]? = some (.deferred (some [])) := ho2 D _ HH.out.1 (by simp; omega) (by intro c fz h; cases h)
    have hs2 := hb2.size
    have HF := Lib.hid (And.intro hD2 (HH.out.2.trans hb2))
    clear hb2 ho2 hD2
    gi_wp2_with fail
    refine leaves_marks (Ds := [D]) (by simp) (fun D' h => by simp at h; subst h; exact HF.out.1) (fun W' hk' => ⟨_, results_tmp rfl _ _ _, ?_, ?_⟩)
    · rfl
    · exact HF.out.2.trans (hk'.below (by omega) (fun x hx => by have hx : x = D := by simpa using hx
                                                                 omega))
end Go.Proofs.YtmpjlenfnlijfaaGreatDoor
/- The contracts of slices.SortFunc at runs and of cmp.Compare at int, laid over this translation (in plain words). -/
namespace Go.Proofs
open Go.Shelf
def Tryz.laysSort_ren : Go.Shelf.Ren := ⟨fun | 6 => 78 | 15 => 123 | 14 => 122 | 28 => 140 | 29 => 141 | 20 => 132 | 21 => 133 | 22 => 134 | 23 => 135 | 24 => 136 | 25 => 137 | 26 => 138 | 27 => 139 | 46 => 153 | 47 => 154 | 48 => 155 | 49 => 156 | 50 => 157 | 57 => 168 | n => n, fun | 22 => 78 | 24 => 85 | 25 => 141 | 3 => 3 | 39 => 246 | 0 => 0 | 53 => 187 | 55 => 168 | 4 => 4 | 46 => 256 | 45 => 255 | 50 => 79 | 5 => 5 | 9 => 9 | 66 => 284 | 70 => 288 | 76 => 311 | 77 => 134 | n => n, fun | n => n⟩
theorem Tryz.laysSort : Go.Proofs.SlLaysF0.n6 Tryz.prog Tryz.laysSort_ren := {
  mixed := by kernel_rfl
  f6 := ⟨Tryz.f78.name, by decide, Tryz.func78.trans (congrArg some (by kernel_rfl))⟩
  f14 := ⟨Tryz.f122.name, by decide, Tryz.func122.trans (congrArg some (by kernel_rfl))⟩
  f15 := Tryz.func123.trans (congrArg some (by kernel_rfl))
  f20 := ⟨Tryz.f132.name, by decide, Tryz.func132.trans (congrArg some (by kernel_rfl))⟩
  f21 := ⟨Tryz.f133.name, by decide, Tryz.func133.trans (congrArg some (by kernel_rfl))⟩
  f22 := ⟨Tryz.f134.name, by decide, Tryz.func134.trans (congrArg some (by kernel_rfl))⟩
  f23 := ⟨Tryz.f135.name, by decide, Tryz.func135.trans (congrArg some (by kernel_rfl))⟩
  f24 := ⟨Tryz.f136.name, by decide, Tryz.func136.trans (congrArg some (by kernel_rfl))⟩
  f25 := ⟨Tryz.f137.name, by decide, Tryz.func137.trans (congrArg some (by kernel_rfl))⟩
  f26 := ⟨Tryz.f138.name, by decide, Tryz.func138.trans (congrArg some (by kernel_rfl))⟩
  f27 := ⟨Tryz.f139.name, by decide, Tryz.func139.trans (congrArg some (by kernel_rfl))⟩
  f28 := Tryz.func140.trans (congrArg some (by kernel_rfl))
  f29 := Tryz.func141.trans (congrArg some (by kernel_rfl))
  f46 := ⟨Tryz.f153.name, by decide, Tryz.func153.trans (congrArg some (by kernel_rfl))⟩
  f47 := Tryz.func154.trans (congrArg some (by kernel_rfl))
  f48 := Tryz.func155.trans (congrArg some (by kernel_rfl))
  f49 := ⟨Tryz.f156.name, by decide, Tryz.func156.trans (congrArg some (by kernel_rfl))⟩
  f50 := ⟨Tryz.f157.name, by decide, Tryz.func157.trans (congrArg some (by kernel_rfl))⟩
  f57 := ⟨Tryz.f168.name, by decide, Tryz.func168.trans (congrArg some (by kernel_rfl))⟩
  t0 := Tryz.underlying0
  a0 := Tryz.isAgg0
  z0 := Tryz.sizeOf0
  v0 := Tryz.zeroValue0
  t3 := Tryz.underlying3
  a3 := Tryz.isAgg3
  z3 := Tryz.sizeOf3
  v3 := Tryz.zeroValue3
  t4 := Tryz.underlying4
  a4 := Tryz.isAgg4
  z4 := Tryz.sizeOf4
  v4 := Tryz.zeroValue4
  t5 := Tryz.underlying5
  a5 := Tryz.isAgg5
  z5 := Tryz.sizeOf5
  v5 := Tryz.zeroValue5
  t9 := Tryz.underlying9
  a9 := Tryz.isAgg9
  z9 := Tryz.sizeOf9
  v9 := Tryz.zeroValue9
  t22 := Tryz.underlying78
  a22 := Tryz.isAgg78
  z22 := Tryz.sizeOf78
  v22 := Tryz.zeroValue78
  t25 := Tryz.underlying141
  a25 := Tryz.isAgg141
  z25 := Tryz.sizeOf141
  v25 := Tryz.zeroValue141
  t39 := Tryz.underlying246
  a39 := Tryz.isAgg246
  z39 := Tryz.sizeOf246
  v39 := Tryz.zeroValue246
  t45 := Tryz.underlying255
  a45 := Tryz.isAgg255
  z45 := Tryz.sizeOf255
  v45 := Tryz.zeroValue255
  t46 := Tryz.underlying256
  a46 := Tryz.isAgg256
  z46 := Tryz.sizeOf256
  v46 := Tryz.zeroValue256
  t50 := Tryz.underlying79
  a50 := Tryz.isAgg79
  z50 := Tryz.sizeOf79
  v50 := Tryz.zeroValue79
  t53 := Tryz.underlying187
  a53 := Tryz.isAgg187
  z53 := Tryz.sizeOf187
  v53 := Tryz.zeroValue187
  t55 := Tryz.underlying168
  a55 := Tryz.isAgg168
  z55 := Tryz.sizeOf168
  v55 := Tryz.zeroValue168
  t66 := Tryz.underlying284
  a66 := Tryz.isAgg284
  z66 := Tryz.sizeOf284
  v66 := Tryz.zeroValue284
  t70 := Tryz.underlying288
  a70 := Tryz.isAgg288
  z70 := Tryz.sizeOf288
  v70 := Tryz.zeroValue288
  t76 := Tryz.underlying311
  a76 := Tryz.isAgg311
  z76 := Tryz.sizeOf311
  v76 := Tryz.zeroValue311
  t77 := Tryz.underlying134
  a77 := Tryz.isAgg134
  z77 := Tryz.sizeOf134
  v77 := Tryz.zeroValue134 }
def Tryz.laysCmp_ren : Go.Shelf.Ren := ⟨fun | 5 => 80 | 7 => 124 | n => n, fun | 22 => 3 | 3 => 3 | 4 => 4 | n => n, fun | n => n⟩
theorem Tryz.laysCmp : Go.Proofs.SlLaysC2.n5 Tryz.prog Tryz.laysCmp_ren := {
  mixed := by kernel_rfl
  f5 := ⟨Tryz.f80.name, by decide, Tryz.func80.trans (congrArg some (by kernel_rfl))⟩
  f7 := ⟨Tryz.f124.name, by decide, Tryz.func124.trans (congrArg some (by kernel_rfl))⟩
  t3 := Tryz.underlying3
  a3 := Tryz.isAgg3
  z3 := Tryz.sizeOf3
  v3 := Tryz.zeroValue3
  t4 := Tryz.underlying4
  a4 := Tryz.isAgg4
  z4 := Tryz.sizeOf4
  v4 := Tryz.zeroValue4
  t22 := Tryz.underlying3
  a22 := Tryz.isAgg3
  z22 := Tryz.sizeOf3
  v22 := Tryz.zeroValue3 }
theorem Tryz.cmp_Compare_int (x y : Int) (w : World) :
    Calls Tryz.prog 80 #[.int .i64 x, .int .i64 y] w fun e w' => e = .returned (.int .i64 (Lib.compareInt x y)) ∧ w' = w := AnyG.cmp_Compare_int Tryz.laysCmp x y w
end Go.Proofs
/- Runs sorted and melted. -/
namespace Go.Proofs.YtmpjlenfnlijfaaGreatDoor
open Go Go.RowKit Go.Kt Go.Kt.Rg Go.Shelf Go.Lib Go.Sort

def encI (x : Run) : List Value := [.int .i64 x.1, .int .i64 x.2]
abbrev cmpR (x y : Run) : Int := Lib.compareInt x.1 y.1
theorem ltR (x y : Run) : ltOf cmpR x y = decide (x.1 < y.1) := by
  unfold ltOf cmpR Lib.compareInt
  by_cases h1 : x.1 < y.1
  · simp [h1]
  · by_cases h2 : y.1 < x.1 <;> simp [h1, h2]
theorem swoR : SWO (ltOf cmpR) where
  irrefl x := by rw [ltR]; simp
  trans x y z h1 h2 := by rw [ltR] at *; simp at *; omega
  ntrans x y z h1 h2 := by rw [ltR] at *; simp at *; omega

set_option maxHeartbeats 1000000 in
theorem rmelt1_any (x y : Run) (W : World) : Calls Tryz.prog 79 #[.agg #[.int .i64 x.1, .int .i64 x.2], .agg #[.int .i64 y.1, .int .i64 y.2]] W fun e w' => e = .returned (.int .i64 (cmpR x y)) ∧ ∃ q os', w' = grow (W.drewN q) os' := by
  have hcon := fun W' => Tryz.cmp_Compare_int x.1 y.1 W'
  unfold cmpR
  generalize Lib.compareInt x.1 y.1 = r at hcon ⊢
  go_enter Tryz.func79, Tryz.ntmps79
  go_wp2_with (go_at_call 80; refine (hcon _).mono ?_; rintro e w' ⟨rfl, rfl⟩)
  go_ret
  exact ⟨rfl, 0, _, by rw [alloc_eq_grow, alloc_eq_grow, grow_grow]; rfl⟩

theorem holds_of_own {Y : Nat → Prop} {g n cap : Nat} {l : List Run} {W : World} (h : OwnS Y 85 2 (.slice (some ⟨g, 0, none⟩) n cap) n (encR l) W) : HoldsK encI 2 W g 0 l.toArray := by
  intro j hj
  rw [size_flatK] at hj
  have hj' : j < l.length * 2 := by simpa using hj
  rw [get_flatK _ _ _ _ hj, Nat.zero_add]
  obtain ⟨x, hx⟩ : ∃ x, l[j / 2]? = some x := ⟨_, List.getElem?_eq_getElem (by omega)⟩
  have e0 : l.toArray[j / 2]! = x := by
    obtain ⟨h1, rfl⟩ := List.getElem?_eq_some_iff.1 hx
    rw [getElem!_pos _ _ (by simpa using h1)]
    simp
  rw [e0]
  have e := encR_get l (j / 2) x hx
  refine ⟨?_, ?_⟩
  · rcases (by omega : j % 2 = 0 ∨ j % 2 = 1) with k | k
    · have c1 := h.1.cells (g := g) rfl _ _ e.1
      rw [Addr.add_lit, Nat.zero_add, show j / 2 * 2 = j by omega] at c1
      rw [k]; exact c1
    · have c1 := h.1.cells (g := g) rfl _ _ e.2
      rw [Addr.add_lit, Nat.zero_add, show j / 2 * 2 + 1 = j by omega] at c1
      rw [k]; exact c1
  · rcases h.1.2 with ⟨h1, _⟩ | ⟨g', cap', cur, h1, _, hg, _⟩
    · cases h1
    · injection h1 with e1 _ _
      injection e1 with e1
      injection e1 with e1
      subst e1
      exact Lib.frozen_of_heap hg j

theorem keep_sorted {w : World} {g m : Nat} {d : Array Run} {os : Array Obj} : Keep (fun b => b = g) w (sortWorldK encI 2 w g 0 m d os) := by
  refine ⟨rfl, rfl, rfl, size_sortWorldK_c _ _ _ _ _ _ _ _, fun b hb hne => ?_⟩
  unfold sortWorldK putRowK
  rw [heap_grow_old _ _ (by rw [size_putRow]; exact hb)]
  show (w.heap.modify g _)[b]? = _
  rw [Array.getElem?_modify, if_neg (fun e => hne e.symm)]

/-- A row of one's own, sorted by where its runs begin. -/
theorem sort_any (l : List Run) (g cap : Nat) {Y : Nat → Prop} (w : World) (h : OwnS Y 85 2 (.slice (some ⟨g, 0, none⟩) l.length cap) l.length (encR l) w) (hl : l.length ≤ 2199023255552) :
    Calls Tryz.prog 78 #[.slice (some ⟨g, 0, none⟩) l.length cap, .func (.func 79) #[] #[]] w fun e w' => e = .returned (.tuple #[]) ∧
      ∃ s : List Run, s.Perm l ∧ Rises s ∧ SlR w' (.slice (some ⟨g, 0, none⟩) l.length cap) s ∧ Keep (fun b => b = g) w w' := by
  have hH := holds_of_own h
  have hg := own_ne h rfl
  have hcon := AnyQ.slices_SortFunc Tryz.laysSort 2 Tryz.isAgg85 Tryz.sizeOf85 encI (fun _ => rfl) (fun x v hv => by simp [encI] at hv; rcases hv with rfl | rfl <;> rfl) cmpR swoR 79 #[] g 0 cap l.toArray w
    (enters_of Tryz.func79 (by kernel_rfl) rfl) (fun _ _ _ _ x y => rmelt1_any x y _) hH hg (by simp; omega)
  have hsz : l.toArray.size = l.length := by simp
  rw [hsz] at hcon
  refine Calls.mono hcon ?_
  rintro e w' ⟨rfl, d', m, os, hp, hs, rfl⟩
  refine ⟨rfl, d'.toList, ?_, ?_, ?_, keep_sorted⟩
  · have := hp.2.2
    have e1 : d'.extract 0 l.length = d' := by rw [← hsz, ← hp.1]; simp
    have e2 : l.toArray.extract 0 l.length = l.toArray := by rw [← hsz]; simp
    rw [e1, e2] at this
    simpa using this
  · refine List.pairwise_iff_getElem.2 fun i j hi hj hij => ?_
    have hz : d'.size = l.length := hp.1.trans hsz
    have := hs i j (Nat.zero_le _) hij (by simp at hj; omega)
    rw [ltR, getElem!_pos _ _ (by simpa using hj), getElem!_pos _ _ (by simpa using hi)] at this
    simp at this
    simpa using this
  · have hz : d'.size = l.length := hp.1.trans hsz
    have hHd := holdsK_sortWorldK_c encI 2 w g 0 l.toArray d' m os hH hg hp.1
    refine ⟨some ⟨g, 0, none⟩, cap, by simp [hz], .inr ⟨g, rfl, fun i x hx => ?_⟩⟩
    obtain ⟨hi, rfl⟩ := List.getElem?_eq_some_iff.1 hx
    have hi' : i < d'.size := by simpa using hi
    have c0 := (hHd.cell hi' (c := 0) (by omega)).1
    have c1 := (hHd.cell hi' (c := 1) (by omega)).1
    rw [getElem!_pos d' i hi', Nat.zero_add] at c0 c1
    exact ⟨by simpa [encI] using c0, by simpa [encI] using c1⟩
theorem sort_none (p : Option Addr) (cap : Nat) (w : World) :
    Calls Tryz.prog 78 #[.slice p 0 cap, .func (.func 79) #[] #[]] w fun e w' => e = .returned (.tuple #[]) ∧ w' = w :=
  AnyF.slices_SortFunc_none Tryz.laysSort p cap _ w
end Go.Proofs.YtmpjlenfnlijfaaGreatDoor
/- ranges.melted. -/
namespace Go.Proofs.YtmpjlenfnlijfaaGreatDoor
open Go Go.RowKit Go.Kt Go.Kt.Rg

theorem encR_set (l : List Run) (c : Run) (u : Int) : (encR (l ++ [c])).set (l.length * 2 + 1) (.int .i64 u) = encR (l ++ [(c.1, u)]) := by
  rw [encR_snoc, encR_snoc, List.set_append_right _ _ (by rw [encR_len]; omega), encR_len]
  rw [show l.length * 2 + 1 - l.length * 2 = 1 by omega]
  rfl
theorem own_empty {Y : Nat → Prop} {e : TypeId} {size n : Nat} {ao : Option Addr} {cap : Nat} {xs : List Value} {W : World} (h : OwnS Y e size (.slice ao n cap) n xs W) : (ao = none ∧ n = 0 ∧ cap = 0) ∨ ∃ g, ao = some ⟨g, 0, none⟩ ∧ g < W.heap.size ∧ Y g := by
  rcases h.shape with ⟨h1, h2⟩ | ⟨g, cp, h1, h2, h3⟩
  · injection h1 with e1 e2 e3
    exact .inl ⟨e1, h2, e3⟩
  · injection h1 with e1 _ _
    exact .inr ⟨g, e1, h3, h2⟩

/-- A row of runs is handed back, new. -/
def MadeR (l : List Run) (Z : Nat → Prop) (w : World) (e : Ending) (w' : World) : Prop :=
  ∃ ao m cap, e = .returned (.slice ao m cap) ∧ m = l.length ∧ OwnS (fun b => w.heap.size ≤ b) 85 2 (.slice ao m cap) m (encR l) w' ∧ Keep Z w w'

set_option maxRecDepth 100000 in
set_option maxHeartbeats 2000000 in
theorem melted_loop (l : List Run) (ao : Option Addr) (n cap : Nat) (Z : Nat → Prop) (w : World) (hn : l.length = n) (hl : n ≤ 2199023255552) (hF : Fit l)
    (C : Calls Tryz.prog 78 #[.slice ao n cap, .func (.func 79) #[] #[]] w fun e w' => e = .returned (.tuple #[]) ∧ ∃ s : List Run, s.Perm l ∧ Rises s ∧ SlR w' (.slice ao n cap) s ∧ Keep Z w w') :
    Calls Tryz.prog 29 #[.slice ao n cap] w (MadeR (canonOf l) Z w) := by
  have HC := Lib.hid C
  have HF := Lib.hid hF
  clear C hF
  go_enter Tryz.func29, Tryz.ntmps29
  go_wp2_with fail
  refine HC.out.mono ?_
  rintro e w' ⟨rfl, s, hp, hr, hS, hK⟩
  have HN : Hid (s.length = n) := Lib.hid (hp.length_eq.trans hn)
  have hme := melt_any HF.out hp hr
  have HE := Lib.hid hme
  have hfs := HF.out.perm hp
  have HS := Lib.hid hS
  have HK := Lib.hid (And.intro hK hfs)
  clear hp hr hS hK hme hn hfs
  go_wp2_with fail
  go_loopw [3, 11] (fun o x wr => ∃ (k m cp : Nat) (ap : Option Addr) (M : List Run), x = .int .i64 k ∧ k ≤ n ∧ o = .slice ap m cp ∧ m = M.length ∧ m ≤ k ∧ OwnS (fun b => w'.heap.size ≤ b) 85 2 (.slice ap m cp) m (encR M) wr ∧ Below w'.heap.size w' wr ∧
      ((k = 0 ∧ M = []) ∨ ∃ done c, M = done ++ [c] ∧ 0 < k ∧ done ++ meltF c (s.drop k) = melt s)) (fun _ x _ => n - (RowKit.intOf x).toNat)
  case atStart => exact ⟨0, 0, 0, none, [], rfl, by omega, rfl, rfl, by omega, own_nil _ _ _ _, Below.refl _ _, .inl ⟨rfl, rfl⟩⟩
  case round =>
    obtain ⟨k, m, cp, ap, M, rfl, hk, rfl, hm, hmk, hown, hb, hM⟩ := hrel
    have hbs := hb.size
    have HM := Lib.hid hm
    have HI := Lib.hid (And.intro hown (And.intro hb hM))
    clear hm hown hb hM
    by_cases hlt : k < n
    · have hlt' : (k : Int) < n := by omega
      obtain ⟨x, hx⟩ : ∃ x, s[k]? = some x := ⟨_, List.getElem?_eq_getElem (by rw [HN.out]; exact hlt)⟩
      obtain ⟨g, rfl, r1, r2⟩ := (HS.out.below HI.out.2.1).at_ hx
      have hdr : s.drop k = x :: s.drop (k + 1) := by
        obtain ⟨hkl, rfl⟩ := List.getElem?_eq_some_iff.1 hx
        exact List.drop_eq_getElem_cons hkl
      have HD := Lib.hid hdr
      have HX := Lib.hid hx
      clear hx hdr
      obtain ⟨x1, x2⟩ := x
      simp only at r1 r2
      have WF : Hid (∀ q, ∃ V, (wr.alloc (.cells #[.int .i64 x1, .int .i64 x2] 85)).drewN q = V ∧ V.heap.size = wr.heap.size + 1 ∧ Below w'.heap.size w' V ∧ V.cell? ⟨wr.heap.size, 0, none⟩ = some (.int .i64 x1) ∧ V.cell? ⟨wr.heap.size, 1, none⟩ = some (.int .i64 x2) ∧
          OwnS (fun b => w'.heap.size ≤ b) 85 2 (.slice ap m cp) m (encR M) V) := Lib.hid fun q => by
        refine ⟨_, rfl, by show (wr.alloc _).heap.size = _; simp, below_drewN (HI.out.2.1.alloc hbs _) _, ?_, ?_, ?_⟩
        · show (wr.alloc _).cell? _ = _; rw [Lib.cell_of_heap (World.alloc_heap_new wr _)]; rfl
        · show (wr.alloc _).cell? _ = _; rw [Lib.cell_of_heap (World.alloc_heap_new wr _)]; rfl
        · have h1 : OwnS (fun b => w'.heap.size ≤ b) 85 2 (.slice ap m cp) m (encR M) (wr.alloc (.cells #[.int .i64 x1, .int .i64 x2] 85)) := ⟨HI.out.1.1.alloc _, HI.out.1.2⟩
          exact h1.keep (X := fun _ => False) (.of_all (below_drewN (Below.refl _ _) _)) (fun _ h => h.elim)
      rcases HI.out.2.2 with ⟨hk0, hM0⟩ | ⟨done, c, hMd, hk0, hd⟩
      · subst hM0
        subst hk0
        have hm0 : m = 0 := HM.out
        subst hm0
        have hd : meltF (x1, x2) (s.drop 1) = melt s := by
          have : s = (x1, x2) :: s.drop 1 := by have := HD.out; simpa using this
          conv => rhs; rw [this, melt]
        have HG := Lib.hid hd
        clear hd
        go_wp2_with fail
        go_quiet (fail)
        obtain ⟨V, hV, hzV, hbV, u1, u2, hownV⟩ := WF.out nq
        obtain ⟨g2, cap2, w2, hrun2, hown2, hb2, hz2, hk2⟩ := append_run hownV hbV (by rw [hzV]; omega) (x1, x2) (by omega)
        rw [hzV, ← hV] at hrun2
        have HRun2 := Lib.hid hrun2
        have HO := Lib.hid (And.intro hown2 hb2)
        clear hrun2 hown2 hb2 hz2 hk2 hownV hbV hV hzV u1 u2
        go_wp2_with (at_builtin; refine wpList_append_eq rfl rfl rfl rfl HRun2.out ?_)
        go_roundw
        case rel => exact ⟨1, 1, cap2, some ⟨g2, 0, none⟩, [(x1, x2)], rfl, by omega, rfl, rfl, by omega, HO.out.1, HO.out.2, .inr ⟨[], (x1, x2), rfl, by omega, HG.out⟩⟩
        case measure => simp [RowKit.intOf]; omega
      · subst hMd
        obtain ⟨p, rfl⟩ : ∃ p, m = p + 1 := ⟨done.length, by have := HM.out; simp at this; exact this⟩
        have hpl : p = done.length := by have := HM.out; simp at this; exact this
        have HPL := Lib.hid hpl
        obtain ⟨g2, rfl, r3, r4⟩ := (slr_of_own HI.out.1 HM.out).at_ (i := p) (x := c) (by rw [hpl]; simp)
        have l2 : g2 < wr.heap.size := lt_of_cell r3
        have hfz : wr.frozen? ⟨g2, p * 2 + 1, none⟩ = false := HI.out.1.1.frozenAt _
        obtain ⟨c1, c2⟩ := c
        simp only at r3 r4
        rw [HD.out, meltF] at hd
        simp only at hd
        clear hpl
        by_cases hle : x1 ≤ c2
        · rw [if_pos hle] at hd
          have hdec : decide (x1 ≤ c2) = true := decide_eq_true hle
          have HG := Lib.hid hd
          clear hd
          go_wp2_with fail
          go_quiet (fail)
          go_wp2_with fail
          go_region
          obtain ⟨V, hV, hzV, hbV, u1, u2, hownV⟩ := WF.out (nq + 1)
          rw [hV]
          have hst := (hownV.1.stored (p * 2 + 1) (.int .i64 (max c2 x2))).1
          rw [HPL.out, encR_set, ← HPL.out] at hst
          have hown3 : OwnS (fun b => w'.heap.size ≤ b) 85 2 (.slice (some ⟨g2, 0, none⟩) (p + 1) cp) (p + 1) (encR (done ++ [(c1, max c2 x2)])) (V.setCell ⟨g2, p * 2 + 1, none⟩ (.int .i64 (max c2 x2))) := ⟨hst, hownV.2⟩
          have hb3 : Below w'.heap.size w' (V.setCell ⟨g2, p * 2 + 1, none⟩ (.int .i64 (max c2 x2))) := hbV.setCell (HI.out.1.2 g2 rfl) _
          have HO := Lib.hid (And.intro hown3 hb3)
          clear hst hown3 hb3 hownV hbV hV hzV u1 u2
          go_wp2_with fail
          go_roundw
          case rel => exact ⟨k + 1, p + 1, cp, some ⟨g2, 0, none⟩, done ++ [(c1, max c2 x2)], by go_num, by omega, rfl, by simp [HPL.out], by omega, HO.out.1, HO.out.2, .inr ⟨done, (c1, max c2 x2), rfl, by omega, HG.out⟩⟩
          case measure => simp [RowKit.intOf]; omega
        · rw [if_neg hle] at hd
          have hdec : decide (x1 ≤ c2) = false := decide_eq_false hle
          have HG := Lib.hid hd
          clear hd
          go_wp2_with fail
          go_quiet (fail)
          obtain ⟨V, hV, hzV, hbV, u1, u2, hownV⟩ := WF.out nq
          obtain ⟨g3, cap2, w2, hrun2, hown2, hb2, hz2, hk2⟩ := append_run hownV hbV (by rw [hzV]; omega) (x1, x2) (by omega)
          rw [hzV, ← hV] at hrun2
          have HRun2 := Lib.hid hrun2
          have HO := Lib.hid (And.intro hown2 hb2)
          clear hrun2 hown2 hb2 hz2 hk2 hownV hbV hV hzV u1 u2
          go_wp2_with (at_builtin; refine wpList_append_eq rfl rfl rfl rfl HRun2.out ?_)
          go_roundw
          case rel => exact ⟨k + 1, p + 1 + 1, cap2, some ⟨g3, 0, none⟩, done ++ [(c1, c2)] ++ [(x1, x2)], by go_num, by omega, rfl, by simp [HPL.out], by omega, HO.out.1, HO.out.2, .inr ⟨done ++ [(c1, c2)], (x1, x2), rfl, by omega, by have := HG.out; simpa using this⟩⟩
          case measure => simp [RowKit.intOf]; omega
    · have hlt' : ¬ (k : Int) < n := by omega
      obtain rfl : k = n := by omega
      have hMm : M = melt s := by
        rcases HI.out.2.2 with ⟨hk0, hM0⟩ | ⟨done, c, hMd, hk0, hd⟩
        · have : s = [] := List.eq_nil_of_length_eq_zero (by rw [HN.out, hk0])
          rw [hM0, this]; rfl
        · have hdr : s.drop k = [] := by rw [← HN.out]; exact List.drop_length
          rw [hdr, meltF] at hd
          rw [hMd]; exact hd
      have HMm := Lib.hid (hMm.trans HE.out)
      clear hMm
      go_wp2_with fail
      go_ret
      have e := HMm.out
      refine ⟨ap, m, cp, rfl, by rw [← e]; exact HM.out, ?_, HK.out.1.trans (Keep.of_all HI.out.2.1)⟩
      rw [← e]
      exact HI.out.1.weaken (fun b h => Nat.le_trans HK.out.1.size h)

/-- A row of one's own is melted. -/
theorem rmelted_any (l : List Run) (ao : Option Addr) (n cap : Nat) {Y : Nat → Prop} (w : World) (h : OwnS Y 85 2 (.slice ao n cap) n (encR l) w) (hn : n = l.length) (hl : n ≤ 2199023255552) (hF : Fit l) :
    Calls Tryz.prog 29 #[.slice ao n cap] w (MadeR (canonOf l) (fun b => (Value.slice ao n cap).ownBlock = some b) w) := by
  subst hn
  by_cases h0 : l = []
  · subst h0
    exact melted_loop [] ao 0 cap _ w rfl (by omega) hF ((sort_none ao cap w).mono fun e w' ⟨h1, h2⟩ => ⟨h1, [], List.Perm.refl _, List.Pairwise.nil, ⟨ao, cap, rfl, .inl rfl⟩, by rw [h2]; exact Keep.refl _ _⟩)
  · rcases own_empty h with ⟨_, hn, _⟩ | ⟨g, rfl, _, _⟩
    · exact absurd (List.eq_nil_of_length_eq_zero hn) h0
    · refine melted_loop l (some ⟨g, 0, none⟩) l.length cap _ w rfl hl hF ((sort_any l g cap w h hl).mono ?_)
      rintro e w' ⟨h1, s, h2, h3, h4, h5⟩
      exact ⟨h1, s, h2, h3, h4, h5.weaken fun b _ hb => by rw [hb]; rfl⟩
end Go.Proofs.YtmpjlenfnlijfaaGreatDoor
/- What is the same of any program: a drawn region is gone through operation by operation, not order by order: each operation leaves in its slot what it is said to leave, whatever has come up ahead of it. -/
namespace Go.Kt
open Go

section
variable {P : Program} {ops : Array Oper} {Q : Exit → Act → World → Prop} {md : Region.Mode}

/-- No operation of the region has this slot. -/
def outside (ops : Array Oper) (k : Nat) : Bool := ops.all fun o => o.dst != some k
/-- All slots are different, and lie in the frame. -/
def apartB (ops : Array Oper) (n : Nat) : Bool :=
  (List.range ops.size).all fun i => match (ops.getD i default).dst with
    | none => true
    | some k => decide (k < n) && (List.range ops.size).all fun j => i == j || (ops.getD j default).dst != some k
/-- Operations wait for earlier ones alone. -/
def forwardB (md : Region.Mode) (ops : Array Oper) : Bool :=
  (List.range ops.size).all fun i => (ops.getD i default).after.all fun e => !Region.binds md e || decide (e.on < i)
/-- 'o' waits for operation number j. -/
def waitsB (md : Region.Mode) (o : Oper) (j : Nat) : Bool := o.after.any fun e => e.on == j && Region.binds md e
def slotB (ops : Array Oper) (j k : Nat) : Bool := match ops[j]? with | some o => o.dst == some k | none => false

/-- The frame at hand is the first one but for the region's slots. -/
structure Like (ops : Array Oper) (a0 a : Act) : Prop where
  defers : a.defers = a0.defers
  size : a.tmps.size = a0.tmps.size
  far : ∀ k, outside ops k = true → a.tmps.getD k undef = a0.tmps.getD k undef

/-- One operation: where those that it waits for have left what they are said to leave, it is wanted, and leaves what it is said to leave. -/
def SlotStep (P : Program) (md : Region.Mode) (ops : Array Oper) (Q : Exit → Act → World → Prop) (S : World → Prop) (R : World → World → Prop) (p : Nat → Value → World → Prop) (a0 : Act) (i : Nat) (o : Oper) : Prop :=
  ∀ a w, S w → Like ops a0 a → (∀ j k, waitsB md o j = true → slotB ops j k = true → p j (a.tmps.getD k undef) w) →
    Region.wanted o (yielded ops a.tmps) = true ∧ o.wp P a w (fun a' w' => ∃ v, a' = a.put o.dst v ∧ S w' ∧ R w w' ∧ p i v w') Q
def SlotSteps (P : Program) (md : Region.Mode) (ops : Array Oper) (Q : Exit → Act → World → Prop) (S : World → Prop) (R : World → World → Prop) (p : Nat → Value → World → Prop) (a0 : Act) : Nat → List Oper → Prop
  | _, [] => True
  | i, o :: r => SlotStep P md ops Q S R p a0 i o ∧ SlotSteps P md ops Q S R p a0 (i + 1) r
theorem SlotSteps.get {S : World → Prop} {R : World → World → Prop} {p : Nat → Value → World → Prop} {a0 : Act} : ∀ (l : List Oper) (i : Nat), SlotSteps P md ops Q S R p a0 i l → ∀ j o, l[j]? = some o → SlotStep P md ops Q S R p a0 (i + j) o
  | [], _, _, j, o, h => by simp at h
  | x :: r, i, hs, 0, o, h => by simp at h; subst h; exact hs.1
  | x :: r, i, hs, j + 1, o, h => by
    have := SlotSteps.get r (i + 1) hs.2 j o (by simpa using h)
    rw [show i + (j + 1) = i + 1 + j by omega]; exact this

def unlisted (listed : Array Bool) (n : Nat) : Nat := ((List.range n).filter fun i => !listed.getD i true).length
theorem filter_set_lt (listed : Array Bool) (i : Nat) (h : listed.getD i true = false) : ∀ (l : List Nat), i ∈ l →
    (l.filter fun j => !(listed.setIfInBounds i true).getD j true).length < (l.filter fun j => !listed.getD j true).length := by
  have hi : i < listed.size := by
    rcases Nat.lt_or_ge i listed.size with h' | h'
    · exact h'
    · simp [Array.getD, Nat.not_lt.2 h'] at h
  have hle : ∀ l : List Nat, (l.filter fun j => !(listed.setIfInBounds i true).getD j true).length ≤ (l.filter fun j => !listed.getD j true).length := by
    intro l
    induction l with
    | nil => simp
    | cons x r ih =>
      by_cases hx : x = i
      · subst hx
        have h1 : (listed.setIfInBounds x true).getD x true = true := by simp [Array.getD, hi]
        simp only [List.filter_cons, h1, h, Bool.not_true, Bool.not_false, if_true, Bool.false_eq_true, if_false, List.length_cons]
        omega
      · have h1 : (listed.setIfInBounds i true).getD x true = listed.getD x true := by
          simp only [Array.getD_eq_getD_getElem?, Array.getElem?_setIfInBounds, if_neg (Ne.symm hx)]
        simp only [List.filter_cons, h1]
        split
        · simp only [List.length_cons]; omega
        · exact ih
  intro l
  induction l with
  | nil => intro hm; cases hm
  | cons x r ih =>
    intro hm
    by_cases hx : x = i
    · subst hx
      have h1 : (listed.setIfInBounds x true).getD x true = true := by simp [Array.getD, hi]
      have := hle r
      simp only [List.filter_cons, h1, h, Bool.not_true, Bool.not_false, if_true, Bool.false_eq_true, if_false, List.length_cons]
      omega
    · have h1 : (listed.setIfInBounds i true).getD x true = listed.getD x true := by
        simp only [Array.getD_eq_getD_getElem?, Array.getElem?_setIfInBounds, if_neg (Ne.symm hx)]
      have hm' : i ∈ r := by
        rcases List.mem_cons.1 hm with h | h
        · exact absurd h.symm hx
        · exact h
      have := ih hm'
      simp only [List.filter_cons, h1]
      split
      · simp only [List.length_cons]; omega
      · exact this

theorem wpAny_inv (I : Array Bool → Act → World → Prop)
    (step : ∀ listed a w i, I listed a w → i ∈ Region.ready md ops listed → wpOp P ops Q i (I (listed.setIfInBounds i true)) a w)
    (done : ∀ listed a w, I listed a w → Region.ready md ops listed = [] → Q .normal a w) :
    ∀ fuel listed a w, unlisted listed ops.size ≤ fuel → I listed a w → wpAny P md ops Q fuel listed a w := by
  intro fuel
  induction fuel with
  | zero =>
    intro listed a w hf hI
    have hr : Region.ready md ops listed = [] := by
      rcases List.eq_nil_or_concat (Region.ready md ops listed) with h | ⟨l, i, h⟩
      · exact h
      · have hi : i ∈ Region.ready md ops listed := by rw [h]; simp
        obtain ⟨h1, o, ho, _⟩ := mem_ready.1 hi
        have hm : i ∈ (List.range ops.size).filter fun i => !listed.getD i true := by
          rw [List.mem_filter]
          exact ⟨List.mem_range.2 (Array.getElem?_eq_some_iff.1 ho).1, by rw [h1]; rfl⟩
        have := List.length_pos_of_mem hm
        unfold unlisted at hf
        omega
    exact ⟨hr, done _ _ _ hI hr⟩
  | succ fuel ih =>
    intro listed a w hf hI
    refine ⟨done _ _ _ hI, fun i hi => ?_⟩
    obtain ⟨h1, o, ho, _⟩ := mem_ready.1 hi
    have hlt := filter_set_lt listed i h1 (List.range ops.size) (List.mem_range.2 (Array.getElem?_eq_some_iff.1 ho).1)
    refine wpOp_mono (fun a' w' h' => ih _ a' w' ?_ h') (step listed a w i hI hi)
    unfold unlisted at hf ⊢
    omega

/-- A drawn region, operation by operation. S holds of each world that comes; R tells how a world goes over into the next; what a slot is said to hold stays so. -/
theorem wp_region_slots {id : Nat} {a0 : Act} {w0 : World} (S : World → Prop) (R : World → World → Prop) (p : Nat → Value → World → Prop) (hm : P.follows .mixedOrders = true) (hap : apartB ops a0.tmps.size = true) (hfw : forwardB .any ops = true)
    (hS : S w0.drew) (hp : ∀ i v w w', S w → S w' → R w w' → p i v w → p i v w') (hs : SlotSteps P .any ops Q S R p a0 0 ops.toList)
    (hd : ∀ a w, S w → Like ops a0 a → (∀ j k, slotB ops j k = true → p j (a.tmps.getD k undef) w) → (∀ j, j < ops.size → ∃ v, p j v w) → Q .normal a w) : (Code.region id ops true).wp P Q a0 w0 := by
  have hdst : ∀ (i : Nat) (o : Oper) (k : Nat), ops[i]? = some o → o.dst = some k → k < a0.tmps.size ∧ ∀ (j : Nat) (oj : Oper), ops[j]? = some oj → oj.dst = some k → i = j := by
    intro i o k ho hk
    have hi := (Array.getElem?_eq_some_iff.1 ho).1
    have h1 := List.all_eq_true.1 hap i (List.mem_range.2 hi)
    have h2 : ops.getD i default = o := by simp [Array.getD_eq_getD_getElem?, ho]
    rw [h2, hk] at h1
    simp only [Bool.and_eq_true, decide_eq_true_eq] at h1
    refine ⟨h1.1, fun j oj hj hjk => ?_⟩
    have hj' := (Array.getElem?_eq_some_iff.1 hj).1
    have h3 := List.all_eq_true.1 h1.2 j (List.mem_range.2 hj')
    have h4 : ops.getD j default = oj := by simp [Array.getD_eq_getD_getElem?, hj]
    rw [h4, hjk] at h3
    simpa using h3
  refine wp_region_any hm ?_
  refine wpAny_inv (fun listed a w => listed.size = ops.size ∧ S w ∧ Like ops a0 a ∧ (∀ j, listed.getD j false = true → ∃ v, p j v w) ∧ ∀ j k, listed.getD j false = true → slotB ops j k = true → p j (a.tmps.getD k undef) w) ?_ ?_ _ _ _ _ ?_ ⟨by simp, hS, ⟨rfl, rfl, fun _ _ => rfl⟩, ?_, ?_⟩
  · rintro listed a w i ⟨hz, hSw, hL, hE, hP⟩ hi
    obtain ⟨hjun, o, ho, hall⟩ := mem_ready.1 hi
    have hilt := (Array.getElem?_eq_some_iff.1 ho).1
    have hst := SlotSteps.get ops.toList 0 hs i o (by simpa using ho)
    rw [Nat.zero_add] at hst
    obtain ⟨hw, hx⟩ := hst a w hSw hL (fun j k hj hk => hP j k (by
      unfold waitsB at hj
      obtain ⟨e, he, h2⟩ := Array.any_eq_true'.1 hj
      simp only [Bool.and_eq_true, beq_iff_eq] at h2
      have := hall e he h2.2
      rw [h2.1] at this
      exact this) hk)
    unfold wpOp
    simp only [ho, hw, if_true]
    refine .inl (Oper.wp_mono ?_ hx)
    rintro a' w' ⟨v, rfl, hS', hR', hpv⟩
    refine ⟨by simpa using hz, hS', ⟨?_, ?_, fun k hk => ?_⟩, fun j hj => ?_, fun j k hj hk => ?_⟩
    · cases h : o.dst <;> exact hL.defers
    · cases h : o.dst
      · exact hL.size
      · simp only [Act.put, Array.size_setIfInBounds]; exact hL.size
    · cases h : o.dst with
      | none => exact hL.far k hk
      | some d =>
        have hne : d ≠ k := fun e => by
          subst e
          unfold outside at hk
          have := Array.all_eq_true.1 hk i hilt
          rw [(Array.getElem?_eq_some_iff.1 ho).2, h] at this
          simp at this
        simp only [Act.put, Array.getD_eq_getD_getElem?, Array.getElem?_setIfInBounds, if_neg hne]
        have := hL.far k hk
        simpa only [Array.getD_eq_getD_getElem?] using this
    · by_cases hji : j = i
      · subst hji; exact ⟨v, hpv⟩
      · have hjl : listed.getD j false = true := by
          simp only [Array.getD_eq_getD_getElem?, Array.getElem?_setIfInBounds, if_neg (Ne.symm hji)] at hj ⊢
          exact hj
        obtain ⟨u, hu⟩ := hE j hjl
        exact ⟨u, hp j _ w w' hSw hS' hR' hu⟩
    · obtain ⟨oj, hoj, hjk⟩ : ∃ oj, ops[j]? = some oj ∧ oj.dst = some k := by
        unfold slotB at hk
        cases h : ops[j]? with
        | none => rw [h] at hk; cases hk
        | some oj => rw [h] at hk; exact ⟨oj, rfl, by simpa using hk⟩
      by_cases hji : j = i
      · subst hji
        rw [hoj] at ho
        cases ho
        have hkz := (hdst j _ k hoj hjk).1
        rw [hjk]
        have : (a.put (some k) v).tmps.getD k undef = v := by
          have : k < a.tmps.size := by rw [hL.size]; exact hkz
          simp [Act.put, Array.getD_eq_getD_getElem?, this]
        rw [this]
        exact hpv
      · have hjl : listed.getD j false = true := by
          simp only [Array.getD_eq_getD_getElem?, Array.getElem?_setIfInBounds, if_neg (Ne.symm hji)] at hj ⊢
          exact hj
        have h1 := hp j _ w w' hSw hS' hR' (hP j k hjl hk)
        cases h : o.dst with
        | none => exact h1
        | some d =>
          have hne : d ≠ k := fun e => by
            subst e
            exact hji ((hdst i o d ho h).2 j oj hoj hjk).symm
          simp only [Act.put, Array.getD_eq_getD_getElem?, Array.getElem?_setIfInBounds, if_neg hne] at h1 ⊢
          exact h1
  · rintro listed a w ⟨hz, hSw, hL, hE, hP⟩ hr
    have hall : ∀ n j, j < n → j < ops.size → listed.getD j false = true := by
      intro n
      induction n with
      | zero => intro j h; omega
      | succ n ih =>
        intro j hjn hj
        cases hl : listed.getD j true with
        | true =>
          have : j < listed.size := by omega
          simpa [Array.getD_eq_getD_getElem?, this] using hl
        | false =>
          exfalso
          have hmem : j ∈ Region.ready .any ops listed := mem_ready.2 ⟨hl, ops[j], by simp [hj], fun e he hb => by
            have h1 := List.all_eq_true.1 hfw j (List.mem_range.2 hj)
            have h2 : ops.getD j default = ops[j] := by simp [Array.getD_eq_getD_getElem?, hj]
            rw [h2] at h1
            have h3 := Array.all_eq_true_iff_forall_mem.1 h1 e he
            rw [hb] at h3
            simp at h3
            exact ih e.on (by omega) (by omega)⟩
          rw [hr] at hmem
          cases hmem
    refine hd a w hSw hL (fun j k hk => hP j k (hall (j + 1) j (by omega) ?_) hk) (fun j hj => hE j (hall (j + 1) j (by omega) hj))
    unfold slotB at hk
    cases h : ops[j]? with
    | none => rw [h] at hk; cases hk
    | some oj => exact (Array.getElem?_eq_some_iff.1 h).1
  · unfold unlisted
    exact Nat.le_trans (List.length_filter_le _ _) (by simp)
  · intro j hj
    simp only [Array.getD_eq_getD_getElem?, Array.getElem?_replicate] at hj
    split at hj <;> simp at hj
  · intro j k hj
    simp only [Array.getD_eq_getD_getElem?, Array.getElem?_replicate] at hj
    split at hj <;> simp at hj
end
end Go.Kt
namespace Go.Kt
open Go
section
variable {P : Program} {ops : Array Oper} {Q : Exit → Act → World → Prop}
theorem SlotSteps.cons {S : World → Prop} {R : World → World → Prop} {p : Nat → Value → World → Prop} {a0 : Act} {md : Region.Mode} {i : Nat} {o : Oper} {r : List Oper}
    (h : SlotStep P md ops Q S R p a0 i o) (hr : SlotSteps P md ops Q S R p a0 (i + 1) r) : SlotSteps P md ops Q S R p a0 i (o :: r) := ⟨h, hr⟩
theorem SlotSteps.nil {S : World → Prop} {R : World → World → Prop} {p : Nat → Value → World → Prop} {a0 : Act} {md : Region.Mode} {i : Nat} : SlotSteps P md ops Q S R p a0 i [] := trivial
theorem wanted_true {o : Oper} {a : Act} {j : Nat} {b : Bool} (k : Nat) (hg : o.guard = some (j, b)) (hk : slotB ops j k = true) (h : a.tmps.getD k undef = .bool b) : Region.wanted o (yielded ops a.tmps) = true := by
  have h1 : a.tmps[k]? = some (.bool b) := by
    rw [Array.getD_eq_getD_getElem?] at h
    cases hx : a.tmps[k]? with
    | none => rw [hx] at h; cases h
    | some v => rw [hx] at h; simp at h; rw [h]
  unfold slotB at hk
  unfold Region.wanted yielded
  rw [hg]
  cases ho : ops[j]? with
  | none => rw [ho] at hk; cases hk
  | some oj =>
    rw [ho] at hk
    have : oj.dst = some k := by simpa using hk
    have h2 : (ops[j]?.bind fun x => x.dst).bind (fun x => a.tmps[x]?) = some (.bool b) := by rw [ho]; simp only [Option.bind_some, this, h1]
    simp only [h2]
    cases b <;> rfl
theorem wp_value {o : Oper} {a : Act} {w w' : World} {v : Value} {K : Act → World → Prop} (h : (execOp a.eval o).run P w = .ok (.value v) w') (hK : K (a.put o.dst v) w') : o.wp P a w K Q := by
  unfold Oper.wp; rw [h]; exact hK
theorem wp_enter {o : Oper} {a : Act} {w w' : World} {f : Nat} {args : Array Value} {K : Act → World → Prop} (h : (execOp a.eval o).run P w = .ok (.enter f args) w')
    (hK : Calls P f args w' fun e w'' => ∃ v, e = .returned v ∧ K (a.put o.dst v) w'') : o.wp P a w K Q := by
  unfold Oper.wp; rw [h]
  refine Calls.mono hK fun e w'' he => ?_
  obtain ⟨v, rfl, hv⟩ := he
  exact hv
theorem wp_skipped {o : Oper} {a : Act} {w w' : World} {K : Act → World → Prop} (h : (execOp a.eval o).run P w = .ok .skip w') (hK : K (a.put o.dst undef) w') : o.wp P a w K Q := by
  unfold Oper.wp; rw [h]; exact hK
theorem run_val {m : Sem Value} {w w' : World} {v : Value} (h : m.run P w = .ok v w') : (m >>= fun x => pure (Next.value x)).run P w = .ok (.value v) w' := by
  simp [h]
theorem exec_convert {o : Oper} {a : Act} {w w' : World} {src dst : TypeId} {x : Operand} {u v : Value} (ho : o.op = .convert src dst x) (hx : a.eval x = u) (h : (convert src dst u).run P w = .ok v w') : (execOp a.eval o).run P w = .ok (.value v) w' := by
  unfold execOp; rw [ho]; simp only [hx]; exact run_val h
end
end Go.Kt
namespace Go.Kt
open Go
section
variable {P : Program} {ops : Array Oper} {Q : Exit → Act → World → Prop} {o : Oper} {a : Act} {w w' : World}
theorem exec_load {t : TypeId} {x : Operand} {u v : Value} (ho : o.op = .load t x) (hx : a.eval x = u) (h : (Instr.loadAt t u).run P w = .ok v w') : (execOp a.eval o).run P w = .ok (.value v) w' := by
  unfold execOp; rw [ho]; simp only [hx]; exact run_val h
theorem exec_binop {op : BinOp} {t ty : TypeId} {x y : Operand} {u1 u2 v : Value} (ho : o.op = .binOp op t x y ty) (hx : a.eval x = u1) (hy : a.eval y = u2) (h : (do eqGuard op t x y u1 u2; binOp op t u1 u2 : Sem Value).run P w = .ok v w') : (execOp a.eval o).run P w = .ok (.value v) w' := by
  unfold execOp; rw [ho]; simp only [hx, hy]; exact run_val h
theorem exec_move {x : Operand} {u : Value} (ho : o.op = .move x) (hx : a.eval x = u) : (execOp a.eval o).run P w = .ok (.value u) w := by
  unfold execOp; rw [ho]; simp only [hx]; rfl
theorem exec_pick {c x y : Operand} {b : Bool} {u1 u2 : Value} (ho : o.op = .pick c x y) (hc : a.eval c = .bool b) (hx : a.eval x = u1) (hy : a.eval y = u2) : (execOp a.eval o).run P w = .ok (.value (if b then u1 else u2)) w := by
  unfold execOp; rw [ho]; simp only [hc, hx, hy]; rfl
theorem exec_store {t : TypeId} {x y : Operand} {u1 u2 : Value} (ho : o.op = .store t x y) (hx : a.eval x = u1) (hy : a.eval y = u2) (h : (Instr.storeAt t u1 u2).run P w = .ok () w') : (execOp a.eval o).run P w = .ok .skip w' := by
  unfold execOp; rw [ho]; simp only [hx, hy]; simp [h]
theorem exec_call {f : FuncId} {args : Array Operand} {ats : Array TypeId} {vs : Array Value} {fn : Func} (ho : o.op = .call ⟨.value (.func f), args, ats⟩) (hx : args.map a.eval = vs) (hf : P.funcs[f]? = some fn) (hn : (fn.name == "runtime.NumGoroutine") = false) (hb : fn.body.isNone = false) : (execOp a.eval o).run P w = .ok (.enter f vs) w := by
  unfold execOp; rw [ho]; simp only [resolve, hx, Act.eval, Deferred.ofValue, invoke, callFunc]
  have h1 : ¬ fn.name = "runtime.NumGoroutine" := fun h => by rw [h] at hn; exact absurd hn (by decide)
  have h2 : ¬ fn.body = none := fun h => by rw [h] at hb; cases hb
  simp [hf, h1, h2]
end
end Go.Kt
namespace Go.Kt
open Go
section
variable {P : Program} {ops : Array Oper} {o : Oper} {a : Act} {w w' : World}
/-- The region's slots. -/
def dsts (ops : Array Oper) : List Nat := ops.toList.filterMap (·.dst)
theorem foldl_set_size (f : Nat → Value) : ∀ (ks : List Nat) (t : Array Value), (ks.foldl (fun t k => t.setIfInBounds k (f k)) t).size = t.size
  | [], _ => rfl
  | k :: ks, t => by rw [List.foldl_cons, foldl_set_size f ks]; simp
theorem foldl_set_get (f : Nat → Value) : ∀ (ks : List Nat) (t : Array Value) (i : Nat), i < t.size → (ks.foldl (fun t k => t.setIfInBounds k (f k)) t).getD i undef = if i ∈ ks then f i else t.getD i undef
  | [], t, i, _ => by simp
  | k :: ks, t, i, h => by
    rw [List.foldl_cons, foldl_set_get f ks _ i (by simpa using h)]
    by_cases h1 : i ∈ ks
    · simp [h1]
    · by_cases h2 : k = i
      · subst h2
        simp [h1, Array.getD_eq_getD_getElem?, h]
      · simp [h1, Ne.symm h2, Array.getD_eq_getD_getElem?, h2]
/-- The frame at hand, written out: the first one with the region's slots anew. -/
theorem Like.out {a0 : Act} (h : Like ops a0 a) (ks : List Nat) (hk : dsts ops = ks) : ∃ f : Nat → Value, a = ⟨ks.foldl (fun t k => t.setIfInBounds k (f k)) a0.tmps, a0.defers⟩ ∧ ∀ k, f k = a.tmps.getD k undef := by
  refine ⟨fun k => a.tmps.getD k undef, ?_, fun _ => rfl⟩
  obtain ⟨t, d⟩ := a
  obtain ⟨h1, h2, h3⟩ := h
  simp only at h1 h2 h3 ⊢
  subst h1
  congr 1
  refine Array.ext (by rw [foldl_set_size]; exact h2) fun i hi hi' => ?_
  have hlt : i < a0.tmps.size := by rw [← h2]; exact hi
  have e1 : t[i] = t.getD i undef := by simp [Array.getD_eq_getD_getElem?, hi]
  have e2 : ∀ (x : Array Value) (hx : i < x.size), x[i] = x.getD i undef := fun x hx => by simp [Array.getD_eq_getD_getElem?, hx]
  rw [e1, e2 _ hi', foldl_set_get _ _ _ _ hlt]
  by_cases hno : i ∈ ks
  · rw [if_pos hno]
  · rw [if_neg hno]
    refine h3 i ?_
    unfold outside
    rw [Array.all_eq_true_iff_forall_mem]
    intro x hx
    have : x.dst ≠ some i := fun e => hno (by
      rw [← hk]
      exact List.mem_filterMap.2 ⟨x, by simpa using hx, e⟩)
    simpa using this
theorem exec_unop {op : UnOp} {t : TypeId} {x : Operand} {u v : Value} (ho : o.op = .unOp op t x) (hx : a.eval x = u) (h : (Op.unary op u).run P w = .ok v w') : (execOp a.eval o).run P w = .ok (.value v) w' := by
  unfold execOp; rw [ho]; simp only [hx]; exact run_val h
end
end Go.Kt
/- What is the same of any program: more single operations of a drawn region. -/
namespace Go.Kt
open Go
section
variable {P : Program} {o : Oper} {a : Act} {w w' : World}
theorem exec_indexAddr {t : TypeId} {x y : Operand} {u1 u2 v : Value} (ho : o.op = .indexAddr t x y) (hx : a.eval x = u1) (hy : a.eval y = u2) (h : (Instr.indexAt t u1 u2).run P w = .ok v w') : (execOp a.eval o).run P w = .ok (.value v) w' := by
  unfold execOp; rw [ho]; simp only [hx, hy]; exact run_val h
theorem exec_fieldAddr {t : TypeId} {x : Operand} {f : Nat} {u v : Value} (ho : o.op = .fieldAddr t x f) (hx : a.eval x = u) (h : (Instr.fieldAt t u f).run P w = .ok v w') : (execOp a.eval o).run P w = .ok (.value v) w' := by
  unfold execOp; rw [ho]; simp only [hx]; exact run_val h
theorem exec_buildSlice {t : TypeId} {n : Nat} {parts : Array (Nat × Operand)} {ps : Array (Nat × Value)} {v : Value} (ho : o.op = .buildSlice t n parts) (hp : parts.map (fun p => (p.1, a.eval p.2)) = ps) (h : (Instr.buildSlice t n ps).run P w = .ok v w') : (execOp a.eval o).run P w = .ok (.value v) w' := by
  unfold execOp; rw [ho]; simp only []; subst hp; exact run_val h
theorem exec_build {t : TypeId} {parts : Array (Nat × Operand)} {ps : Array (Nat × Value)} {v : Value} (ho : o.op = .build t parts) (hp : parts.map (fun p => (p.1, a.eval p.2)) = ps) (h : (Instr.build t ps).run P w = .ok v w') : (execOp a.eval o).run P w = .ok (.value v) w' := by
  unfold execOp; rw [ho]; simp only []; subst hp; exact run_val h
theorem exec_box {t : TypeId} {x : Operand} {u v : Value} (ho : o.op = .box t x) (hx : a.eval x = u) (h : (Instr.box t u).run P w = .ok v w') : (execOp a.eval o).run P w = .ok (.value v) w' := by
  unfold execOp; rw [ho]; simp only [hx]; exact run_val h
theorem exec_makeSlice {t : TypeId} {x y : Operand} {u1 u2 v : Value} (ho : o.op = .makeSlice t x y) (hx : a.eval x = u1) (hy : a.eval y = u2) (h : (Instr.makeSlice t u1 u2).run P w = .ok v w') : (execOp a.eval o).run P w = .ok (.value v) w' := by
  unfold execOp; rw [ho]; simp only [hx, hy]; exact run_val h
theorem exec_nilCheck {x : Operand} {p : Addr} (ho : o.op = .nilCheck x) (hx : a.eval x = .pointer (some p)) : (execOp a.eval o).run P w = .ok (.value (.pointer (some p))) w := by
  unfold execOp; rw [ho]; simp only [hx]; rfl
end
end Go.Kt
/- slices.Concat of two rows of runs; Join. -/
namespace Go.Proofs.YtmpjlenfnlijfaaGreatDoor
open Go Go.RowKit Go.Kt Go.Kt.Rg

theorem base_own {B : Nat} {e : TypeId} {size n : Nat} {v : Value} {xs : List Value} {W : World} (h : W.ownsRow B e size v n xs) : OwnS (fun b => B ≤ b) e size v n xs W := by
  refine ⟨⟨h.1, ?_⟩, fun g hg => ?_⟩
  · rcases h.2 with h1 | ⟨g, cap, cur, rfl, _, rest⟩
    · exact .inl h1
    · exact .inr ⟨g, cap, cur, rfl, Nat.zero_le _, rest⟩
  · rcases h.2 with ⟨rfl, _⟩ | ⟨g', cap, cur, rfl, hb, _⟩
    · cases hg
    · cases hg; exact hb
theorem own_slice {Y : Nat → Prop} {e : TypeId} {size n : Nat} {v : Value} {xs : List Value} {W : World} (h : OwnS Y e size v n xs W) : ∃ ao cap, v = .slice ao n cap := by
  rcases h.1.2 with ⟨rfl, rfl⟩ | ⟨g, cap, cur, rfl, _⟩
  · exact ⟨_, _, rfl⟩
  · exact ⟨_, _, rfl⟩
theorem run_append_owned_none' {w : World} {base : Nat} {P : Program} (t ty e : TypeId) (i : TypeInfo) (size : Nat) (ht : P.underlying t = some (.slice e)) (hi : P.info? e = some i)
    (v : Value) (n : Nat) (xs : List Value) (hown : w.ownsRow base e size v n xs) (c : Nat) :
    (Builtin.append_ #[t, t] ty #[v, .slice none 0 c]).run P w = .ok v w := by
  rcases hown.2 with ⟨rfl, rfl⟩ | ⟨g, cap, cur, rfl, _, _, hnc, _⟩
  · simp [Builtin.append_, run_underlying ht, sizeOf, typeInfo, hi, Builtin.lenOf, Builtin.firstCells]
  · simp [Builtin.append_, run_underlying ht, sizeOf, typeInfo, hi, Builtin.lenOf, Builtin.firstCells, hnc, storeCells]
theorem encR_append (l m : List Run) : encR (l ++ m) = encR l ++ encR m := by simp [encR]

/-- A row of runs behind a row of one's own. -/
theorem append_slr {B : Nat} {v x : Value} {l m : List Run} {W : World} (hown : OwnS (fun b => B ≤ b) 85 2 v l.length (encR l) W) (hBW : B ≤ W.heap.size) (hS : SlR W x m) (hn : l.length + m.length ≤ 2199023255552) :
    ∃ v' w', (∀ ty, (Builtin.append_ #[78, 78] ty #[v, x]).run Tryz.prog W = .ok v' w') ∧ OwnS (fun b => B ≤ b) 85 2 v' (l ++ m).length (encR (l ++ m)) w' ∧ Keep (fun b => v.ownBlock = some b) W w' := by
  obtain ⟨i, hi, hz, hs1, hb1⟩ := info_parts tinfoRun
  obtain ⟨ao, cap, rfl, h⟩ := hS
  cases ao with
  | none =>
    have hm : m = [] := by
      rcases h with h | ⟨g, e, _⟩
      · exact h
      · cases e
    subst hm
    refine ⟨v, W, fun ty => run_append_owned_none' _ ty _ i 2 Tryz.underlying78 hi v _ _ hown.1 cap, ?_, Keep.refl _ _⟩
    rw [List.append_nil]; exact hown
  | some a =>
    have hcell : ∀ j u, (encR m)[j]? = some u → W.cell? (a.add j) = some u := by
      intro j u hj
      rcases h with h | ⟨g, e, h⟩
      · subst h; simp [encR] at hj
      · obtain rfl := Option.some.inj e
        have hjl : j < m.length * 2 := by rw [← encR_len]; exact (List.getElem?_eq_some_iff.1 hj).1
        obtain ⟨y, hy⟩ : ∃ y, m[j / 2]? = some y := ⟨_, List.getElem?_eq_getElem (by omega)⟩
        have e := encR_get m _ y hy
        have c := h _ y hy
        rw [Addr.add_lit, Nat.zero_add]
        rcases (by omega : j % 2 = 0 ∨ j % 2 = 1) with k | k
        · rw [show j / 2 * 2 = j by omega] at e c
          rw [e.1] at hj
          rw [c.1]; exact hj
        · rw [show j / 2 * 2 + 1 = j by omega] at e c
          rw [e.2] at hj
          rw [c.2]; exact hj
    have h1 : ∀ u ∈ encR m, u.oneCell' = true := by
      intro u hu
      simp only [encR, List.mem_flatMap] at hu
      obtain ⟨y, _, hy⟩ := hu
      simp at hy
      rcases hy with rfl | rfl <;> rfl
    obtain ⟨v', w', hrun, r1, r2, _⟩ := run_append_own (P := Tryz.prog) W B 78 0 85 i _ 2 16 Tryz.underlying78 hi hz hs1 hb1 rfl (by omega) v l.length (encR l) (own_base hown (fun _ h => h)) a m.length cap (encR m) (encR_len m) hcell h1
      (by unfold maxLen; omega) (by omega) hBW
    refine ⟨v', w', fun ty => hrun, ?_, keep_grown r2⟩
    rw [List.length_append, encR_append]
    exact base_own r1

set_option maxRecDepth 100000 in
theorem rgrow_any (n : Nat) (w : World) (hn : n ≤ 2199023255552) :
    Calls Tryz.prog 116 #[.slice none 0 0, .int .i64 n] w fun e w' => ∃ v, e = .returned v ∧ OwnS (fun b => w.heap.size ≤ b) 85 2 v 0 (encR []) w' ∧ Below w.heap.size w w' := by
  obtain ⟨i, hi, hz, hs1, hb1⟩ := info_parts tinfoRun
  by_cases h0 : n = 0
  · subst h0
    go_enter Tryz.func116, Tryz.ntmps116
    go_wp2
    go_ret
    exact ⟨_, rfl, own_nil _ _ _ _, Below.refl _ _⟩
  · have hn0 : 0 < (n : Int) := by omega
    have happ := Lib.run_append_nil_zeros (P := Tryz.prog) w 78 3 0 85 i _ .i64 .i64 Tryz.underlying78 Tryz.underlying3 hi hz n (by omega) (by rw [hs1]; omega) (by omega) (by rw [hb1]; omega)
    have hge := grownCap_ge w n 0 85
    have hcm : grownCap w n 0 85 ≤ maxLen := grownCap_le_maxLen w n 0 85 (by unfold maxLen; omega)
    have hml : maxLen ≤ 9223372036854775807 := by unfold maxLen; omega
    generalize grownCap w n 0 85 = C at *
    have HR : Hid (∀ ty, (Builtin.append_ #[78, 3] ty #[.slice none 0 0, .int .i64 n]).run Tryz.prog w = _) := Lib.hid fun ty => happ
    obtain ⟨V, hV⟩ : ∃ V, w.drew.alloc (.cells (Builtin.zeroCells (Value.agg #[.int .i64 0, .int .i64 0]).cells n ++ Builtin.zeroCells (Value.agg #[.int .i64 0, .int .i64 0]).cells (C - n)) 85) = V := ⟨_, rfl⟩
    rw [hV] at HR
    have ho : OwnS (fun b => w.heap.size ≤ b) 85 2 (.slice (some ⟨w.heap.size, 0, none⟩) 0 C) 0 (encR []) V := by
      refine ⟨⟨rfl, .inr ⟨w.heap.size, C, _, rfl, Nat.zero_le _, by rw [← hV]; exact heap_alloc_new w.drew _, Nat.zero_le _, hcm, ?_, rfl⟩⟩, fun g hg => by cases hg; exact Nat.le_refl _⟩
      rw [Array.size_append, size_zeroCells, size_zeroCells]
      show n * 2 + (C - n) * 2 = C * 2
      omega
    have hb : Below w.heap.size w V := by rw [← hV]; exact (show Below w.heap.size w w.drew from below_drewN (Below.refl _ w) 1).alloc (Nat.le_refl _) _
    have HO := Lib.hid (And.intro ho hb)
    have hC : (C : Int) ≤ 9223372036854775807 := by omega
    clear happ hV ho hb hcm hml
    go_enter Tryz.func116, Tryz.ntmps116
    go_wp2_with (at_builtin; refine wpList_append_eq rfl rfl rfl rfl HR.out ?_)
    go_ret
    exact ⟨_, rfl, HO.out.1, HO.out.2⟩
end Go.Proofs.YtmpjlenfnlijfaaGreatDoor
/- slices.Concat of two rows of runs; Join. -/
namespace Go.Proofs.YtmpjlenfnlijfaaGreatDoor
open Go Go.RowKit Go.Kt Go.Kt.Rg

def catL (l1 l2 : List Run) : Nat → List Run
  | 0 => []
  | 1 => l1
  | _ => l1 ++ l2
set_option maxRecDepth 100000 in
set_option maxHeartbeats 2000000 in
theorem rconcat_any (l1 l2 : List Run) (v1 v2 : Value) (h : Nat) (w : World) (c1 : w.cell? ⟨h, 0, none⟩ = some v1) (c2 : w.cell? ⟨h, 1, none⟩ = some v2) (h1 : SlR w v1 l1) (h2 : SlR w v2 l2) (m1 : l1.length ≤ 1112192) (m2 : l2.length ≤ 1112192) :
    Calls Tryz.prog 70 #[.slice (some ⟨h, 0, none⟩) 2 2] w fun e w' => ∃ v, e = .returned v ∧ OwnS (fun b => w.heap.size ≤ b) 85 2 v (l1 ++ l2).length (encR (l1 ++ l2)) w' ∧ Below w.heap.size w w' := by
  have H1 := Lib.hid h1
  have H2 := Lib.hid h2
  obtain ⟨a1, cp1, rfl, _⟩ := h1
  obtain ⟨a2, cp2, rfl, _⟩ := h2
  obtain ⟨n1, hn1⟩ : ∃ n, l1.length = n := ⟨_, rfl⟩
  obtain ⟨n2, hn2⟩ : ∃ n, l2.length = n := ⟨_, rfl⟩
  rw [hn1] at c1 m1 H1
  rw [hn2] at c2 m2 H2
  have HN := Lib.hid (And.intro hn1 hn2)
  have CG0 := rgrow_any (n1 + n2) w (by omega)
  rw [Int.natCast_add] at CG0
  have CG := Lib.hid CG0
  clear CG0
  have lh := lt_of_cell c1
  clear hn1 hn2
  go_enter Tryz.func70, Tryz.ntmps70
  go_wp2
  go_loop [3, 11] (fun a x => ∃ k : Nat, x = .int .i64 k ∧ ((k = 0 ∧ a = .int .i64 0) ∨ (k = 1 ∧ a = .int .i64 n1) ∨ (k = 2 ∧ a = .int .i64 ((n1 : Int) + n2)))) (fun _ x => 2 - (RowKit.intOf x).toNat)
  case atStart => exact ⟨0, rfl, .inl ⟨rfl, rfl⟩⟩
  case round =>
    obtain ⟨k, rfl, hk⟩ := hrel
    rcases hk with ⟨rfl, rfl⟩ | ⟨rfl, rfl⟩ | ⟨rfl, rfl⟩
    · go_wp2
      go_round
      case rel => exact ⟨1, by go_num, .inr (.inl ⟨rfl, by go_num⟩)⟩
      case measure => simp [RowKit.intOf]
    · go_wp2
      go_round
      case rel => exact ⟨2, by go_num, .inr (.inr ⟨rfl, by go_num⟩)⟩
      case measure => simp [RowKit.intOf]
    · go_wp2_with fail
      refine CG.out.mono ?_
      rintro e w1 ⟨v0, rfl, ho, hb⟩
      have q1 := (hb.cell lh).trans c1
      have q2 := (hb.cell lh).trans c2
      have HO := Lib.hid (And.intro ho hb)
      clear ho hb
      go_wp2_with fail
      go_loopw [6, 27] (fun s x wr => ∃ k : Nat, x = .int .i64 k ∧ k ≤ 2 ∧ OwnS (fun b => w.heap.size ≤ b) 85 2 s (catL l1 l2 k).length (encR (catL l1 l2 k)) wr ∧ Below w.heap.size w wr) (fun _ x _ => 2 - (RowKit.intOf x).toNat)
      case atStart => exact ⟨0, rfl, by omega, HO.out.1, HO.out.2⟩
      case round =>
        obtain ⟨k, rfl, hk, ho2, hb2⟩ := hrel
        have HI := Lib.hid (And.intro ho2 hb2)
        have z1 := (hb2.cell lh).trans c1
        have z2 := (hb2.cell lh).trans c2
        clear ho2 hb2 q1 q2
        rcases (by omega : k = 0 ∨ k = 1 ∨ k = 2) with rfl | rfl | rfl
        · obtain ⟨v', w', hrun, hown, hkp⟩ := append_slr HI.out.1 HI.out.2.size (H1.out.below HI.out.2) (by show 0 + l1.length ≤ _; rw [HN.out.1]; omega)
          have hbb := HI.out.2.trans (hkp.below HI.out.2.size fun b h => HI.out.1.2 b h)
          have HRun := Lib.hid hrun
          have HG := Lib.hid (And.intro hown hbb)
          clear hrun hown hkp hbb
          go_wp2_with (at_builtin; refine wpList_append_eq rfl rfl rfl rfl HRun.out ?_)
          go_roundw
          case rel => exact ⟨1, by go_num, by omega, HG.out.1, HG.out.2⟩
          case measure => simp [RowKit.intOf]
        · obtain ⟨v', w', hrun, hown, hkp⟩ := append_slr HI.out.1 HI.out.2.size (H2.out.below HI.out.2) (by show l1.length + l2.length ≤ _; rw [HN.out.1, HN.out.2]; omega)
          have hbb := HI.out.2.trans (hkp.below HI.out.2.size fun b h => HI.out.1.2 b h)
          have HRun := Lib.hid hrun
          have HG := Lib.hid (And.intro hown hbb)
          clear hrun hown hkp hbb
          go_wp2_with (at_builtin; refine wpList_append_eq rfl rfl rfl rfl HRun.out ?_)
          go_roundw
          case rel => exact ⟨2, by go_num, by omega, HG.out.1, HG.out.2⟩
          case measure => simp [RowKit.intOf]
        · go_wp2
          go_ret
          exact ⟨_, rfl, HI.out.1, HI.out.2⟩
end Go.Proofs.YtmpjlenfnlijfaaGreatDoor
/- A set of spans: what numbers it has, what is wrong with one: the mathematics. -/
namespace Go.Proofs.YtmpjlenfnlijfaaGreatDoor
open Go Go.Kt Go.Kt.Rg

/-- The set of spans: what numbers their points have. -/
def numsR (l : List (Int × Int)) : List Run := l.map fun x => ((numB x.1).1, (numB x.2).1 + 1)
/-- Is a span wrong, and how? -/
def badR (x : Int × Int) : Int := if (numB x.1).2 = false ∨ (numB x.2).2 = false then 8 else if (numB x.2).1 < (numB x.1).1 then 1 else 0
theorem good_fit {l : List (Int × Int)} (h : ∀ x ∈ l, badR x = 0) : Fit (numsR l) := by
  intro y hy
  simp only [numsR, List.mem_map] at hy
  obtain ⟨x, hx, rfl⟩ := hy
  have h1 := h x hx
  have b1 := numB_bd x.1
  have b2 := numB_bd x.2
  unfold badR at h1
  split at h1
  · omega
  · split at h1
    · omega
    · simp only; omega
end Go.Proofs.YtmpjlenfnlijfaaGreatDoor
