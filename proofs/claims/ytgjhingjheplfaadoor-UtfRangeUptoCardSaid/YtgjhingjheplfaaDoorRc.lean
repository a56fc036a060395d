/- The walk of UtfRange. -/
import Derived.Test.YtgjhingjheplfaaDoorRb
import Derived.Test.YtgjhingjheplfaaDoorAr
import Derived.Test.YtgjhingjheplfaaDoorCs
import Derived.Test.YtgjhingjheplfaaDoorCw
import Derived.Test.YtgjhingjheplfaaDoorCl
import Derived.Test.YtgjhingjheplfaaDoorK6
import Derived.Deep.RegionHeld3
import Derived.IntWalk
import Derived.Sort.CutIn
import Derived.Stop.RegionWithIn
namespace Go.Proofs.YtgjhingjheplfaaDoor
open Go Go.RowKit Go.Kt Go.Shelf
attribute [local go_sem] Oper.semAt_some

/-- What region 6's slots hold. -/
def pR (s : ByteArray) (r : Nat) (L : List Int) (K : Bool) (vA vB vO : Value) : Nat → Value → World → Prop
  | 0, v, _ => v = vA
  | 5, v, _ => v = vB
  | 1, v, _ | 14, v, _ => v = vO
  | 2, v, _ | 8, v, _ => v = .bool true
  | 6, v, _ | 12, v, _ | 19, v, _ | 21, v, _ => v = .string s
  | 7, v, X => Sl .i32 X v L
  | 13, v, _ | 15, v, _ => v = .int .i64 r
  | 20, v, _ | 22, v, _ => v = .bool K
  | _, v, _ => v = .bool false
theorem pR_keep {s : ByteArray} {r : Nat} {L : List Int} {K : Bool} {vA vB vO : Value} {i : Nat} {v : Value} {A B : World} (hk : Below A.heap.size A B) (h : pR s r L K vA vB vO i v A) : pR s r L K vA vB vO i v B := by
  by_cases hi : i = 7
  · subst hi; exact Sl.below h hk
  · unfold pR at h ⊢
    split <;> first | (exact absurd rfl hi) | (simpa using h)
theorem exec_len {o : Oper} {a : Act} {w : World} {x : Operand} {ao : Option Addr} {n cap : Nat} (ho : o.op = .call ⟨.builtin .len, #[x], #[23]⟩) (hx : a.eval x = .slice ao n cap) : (execOp a.eval o).run Tryd.prog w = .ok (.value (.int .i64 (n : Nat))) w := by
  unfold execOp; rw [ho]; simp only [resolve, List.map_toArray, List.map_cons, List.map_nil, hx]
  go_simp

/-- Two lists, each in a block of its own. -/
theorem handed2 {W : World} {a b : Value} {na nb : Nat} {xa xb : List Value} {l0 : Nat} (h4 : l0 + 1 < W.heap.size)
    (ha : OwnS (fun x => x = l0) 21 1 a na xa W) (hb : OwnS (fun x => x = l0 + 1) 21 1 b nb xb W) (ma : na ≤ 1048576) (mb : nb ≤ 1048576) :
    Handed W.heap.size [a, b] (fun k => if k = 0 then na else nb) (W.alloc (.cells #[a, b] 23 (0, 0))) := by
  have lat : ∀ {v : Value} {n : Nat} {xs : List Value} {x0 : Nat}, x0 < W.heap.size → OwnS (fun x => x = x0) 21 1 v n xs W → OwnS (fun x => x ≠ W.heap.size) 21 1 v n xs (W.alloc (.cells #[a, b] 23 (0, 0))) := fun hh h =>
    (own_later h ((Below.refl _ W).alloc (Nat.le_refl _) _)).weaken (fun x hx => by omega)
  refine ⟨World.alloc_heap_new W _, by simp, ?_, ⟨?_⟩⟩
  · intro k v hv
    rcases (by have := (List.getElem?_eq_some_iff.1 hv).1; simp at this; omega : k = 0 ∨ k = 1) with rfl | rfl
    · simp at hv; subst hv; exact ⟨by simpa using ma, _, lat (by omega) ha⟩
    · simp at hv; subst hv; exact ⟨by simpa using mb, _, lat (by omega) hb⟩
  · intro i j u v x hij hu hv hx hy
    have key : ∀ k v, [a, b][k]? = some v → v.ownBlock = some x → (k = 0 ∧ x = l0) ∨ (k = 1 ∧ x = l0 + 1) := fun k v hv hx => by
      rcases (by have := (List.getElem?_eq_some_iff.1 hv).1; simp at this; omega : k = 0 ∨ k = 1) with rfl | rfl
      · simp at hv; subst hv; have := ha.2 x hx; omega
      · simp at hv; subst hv; have := hb.2 x hx; omega
    have := key i u hu hx
    have := key j v hv hy
    omega

set_option maxRecDepth 100000 in
set_option maxHeartbeats 4000000 in
theorem range_walk (s : ByteArray) (w : World) (hT : Lib.Utf8Tabs 0 1 w) (h2 : 2 ≤ w.heap.size) (hs : s.size ≤ 1048576) :
    Calls Tryd.prog 3 #[.string s] w fun e w' => e = .returned (.bool true) ∧ Below w.heap.size w w' := by
  have HT := Lib.hid hT; clear hT
  have hul := units_len s
  have hfn : ∀ k, Fence.wide.fn k := fun _ => trivial
  have hdep : Fence.wide.depth = none := rfl
  refine (callsIn_wide (n := 0)).1 ?_
  refine callsIn_of_wp_marks Tryd.func3 rfl trivial ?_ rfl
  simp only [Tryd.ntmps3, List.size_toArray, List.length_cons, List.length_nil, Nat.reduceAdd, Nat.reduceSub, Array.replicate_succ, Array.replicate_zero, List.push_toArray, List.append_toArray, List.nil_append, List.cons_append]
  generalize hn : w.heap.size = n at *
  gi_wp2_with fail
  refine (callsIn_wide.2 (works_any _ (tabs_below HT.out h2 ((Below.refl _ w).alloc (by omega) _)) (by simp; omega))).mono ?_
  rintro e w1 ⟨rfl, hb1⟩
  have hz1 : n + 1 ≤ w1.heap.size := by have := hb1.size; simp [hn] at this; omega
  have b1 : w1.heap[n]? = some (.cells #[.bool false] 4 (0, 0)) := by
    rw [hb1.block _ (by simp [hn])]; exact alloc_at hn.symm
  have hbw1 : Below n w w1 := ((Below.refl n w).alloc (by omega) _).trans (hb1.mono (by simp [hn]))
  clear hb1
  have hcv := runes_conv s (by omega) w1
  have hsl := rworld_sl s (by omega) w1
  have hbr : Below w1.heap.size w1 (rworld s w1) := by
    unfold rworld
    exact (Below.refl _ _).drew.alloc (by simp) _
  obtain ⟨WR, hWR⟩ : ∃ WR, rworld s w1 = WR := ⟨_, rfl⟩
  obtain ⟨rc, hrc⟩ : ∃ rc, rcap s w1 = rc := ⟨_, rfl⟩
  rw [hWR, hrc] at hcv
  rw [hWR, hrc] at hsl
  rw [hWR] at hbr
  obtain ⟨m, hm⟩ : ∃ m, WR.heap.size = m := ⟨_, rfl⟩
  obtain ⟨W2, hW2⟩ : ∃ W2, WR.alloc (.cells #[.slice (some ⟨w1.heap.size, 0, none⟩) (units s).length rc] 23) = W2 := ⟨_, rfl⟩
  have hnm : n < m := by have := hbr.size; omega
  have HSL := Lib.hid hsl
  have HBR := Lib.hid hbr
  have HB1 := Lib.hid b1
  have HBW1 := Lib.hid hbw1
  clear hsl hbr b1 hbw1 hWR hrc
  gi_wp2_with fail
  have hz2 : W2.heap.size = m + 1 := by rw [← hW2]; simp [hm]
  have q2 : W2.heap[m]? = some (.cells #[.slice (some ⟨w1.heap.size, 0, none⟩) (units s).length rc] 23 (0, 0)) := by rw [← hW2]; exact alloc_at hm.symm
  have hb2 : Below w1.heap.size w1 W2 := HBR.out.trans (by rw [← hW2]; exact (Below.refl _ _).alloc (HBR.out.size) _)
  have hRb : Below WR.heap.size WR W2 := by rw [← hW2]; exact (Below.refl _ _).alloc (Nat.le_refl _) _
  clear hW2 hcv
  refine (callsIn_wide.2 (utfRunes_any s W2 (by omega))).mono ?_
  rintro e w3 ⟨ca, rfl, oa, hb3, hz3⟩
  have OA := Lib.hid oa
  clear oa
  gi_wp2_with fail
  refine (callsIn_wide.2 (utfRunes_any s w3 (by omega))).mono ?_
  rintro e w4 ⟨cb, rfl, ob, hb4, hz4⟩
  have OB := Lib.hid ob
  clear ob
  rw [hz2] at hz3
  rw [hz3] at hz4
  rw [hz3]
  have q4 : w4.heap[m]? = some (.cells #[.slice (some ⟨w1.heap.size, 0, none⟩) (units s).length rc] 23 (0, 0)) := (hb4.block _ (by omega)).trans ((hb3.block _ (by omega)).trans q2)
  have hR4 : Below WR.heap.size WR w4 := hRb.trans ((hb3.mono (by omega)).trans (hb4.mono (by omega)))
  have hn4 : Below n w w4 := by
    have h1 := hb2.size
    exact HBW1.out.trans ((hb2.mono (by omega)).trans ((hb3.mono (by omega)).trans (hb4.mono (by omega))))
  have r4 : w4.heap[n]? = some (.cells #[.bool false] 4 (0, 0)) := by
    have h1 := hb2.size
    exact (hb4.block _ (by omega)).trans ((hb3.block _ (by omega)).trans ((hb2.block _ (by omega)).trans HB1.out))
  have hnl := numsI_len s
  have sOwn : Hid (∀ X, Below w4.heap.size w4 X → Sl .i32 X (.slice (some ⟨w1.heap.size, 0, none⟩) (units s).length rc) (numsI s)) := Lib.hid fun X hX => HSL.out.below (hR4.trans (hX.mono (by omega)))
  have oA : Hid (∀ X, Below w4.heap.size w4 X → OwnS (fun b => b = m + 1) 21 1 (.slice (some ⟨m + 1, 0, none⟩) (units s).length ca) (units s).length (runeCells s) X) := Lib.hid fun X hX => by
    have h := OA.out
    rw [hz2] at h
    exact own_later h (hb4.trans (hX.mono (by omega)))
  have oB : Hid (∀ X, Below w4.heap.size w4 X → OwnS (fun b => b = m + 1 + 1) 21 1 (.slice (some ⟨m + 1 + 1, 0, none⟩) (units s).length cb) (units s).length (runeCells s) X) := Lib.hid fun X hX => by
    have h := OB.out
    rw [hz3] at h
    exact own_later h hX
  have HN4 := Lib.hid (And.intro hn4 (And.intro r4 q4))
  clear OA OB HSL HBR HB1 HBW1 hb2 hRb hb3 hb4 hR4 hn4 r4 q2
  have cell4 : ∀ X, Below w4.heap.size w4 X → X.cell? ⟨m, 0, none⟩ = some (.slice (some ⟨w1.heap.size, 0, none⟩) (units s).length rc) := fun X hX => cell_one ((hX.block _ (by omega)).trans q4)
  have HC4 := Lib.hid cell4
  clear cell4 q4
  gi_upto_region 6 with fail
  gi_cut [47] from 15 (fun s47 wx => s47 = .bool false ∧ Below w4.heap.size w4 wx)
  case first =>
    have cS1 := Lib.hid (fun (X : World) (hX : Below w4.heap.size w4 X) => sameRunes_any _ _ (numsI s) (numsI s) X (sl_of_own (by rw [← runeCells_I]; exact oA.out X hX) hnl) (sOwn.out X hX) (by omega) (by omega))
    have cS2 := Lib.hid (fun (X : World) (v : Value) (hX : Below w4.heap.size w4 X) (hv : Sl .i32 X v (numsI s)) => sameRunes_any _ _ (numsI s) (numsI s) X (sl_of_own (by rw [← runeCells_I]; exact oB.out X hX) hnl) hv (by omega) (by omega))
    have cR := Lib.hid (fun (X : World) => refRunes_any s X (by omega) (by omega))
    have cC := Lib.hid (fun (X : World) => utfCount_any s X (by omega))
    have cV := Lib.hid (fun (X : World) (hX : Below w4.heap.size w4 X) => utfValid_any s X (tabs_below HT.out h2 (HN4.out.1.trans (hX.mono (by have := HN4.out.1.size; omega)))) (by have := hX.size; have := HN4.out.1.size; omega) (by omega))
    have cRV := Lib.hid (fun (X : World) => refValid_any s X (by omega) (by omega))
    generalize units s = R at *
    generalize numsI s = L at *
    generalize okB s = K at *
    have hK : (!K == K) = false := by cases K <;> rfl
    have hload : ∀ X : World, Below w4.heap.size w4 X → (Instr.loadAt 23 (.pointer (some ⟨m, 0, none⟩))).run Tryd.prog X = .ok (.slice (some ⟨w1.heap.size, 0, none⟩) R.length rc) X := by
      intro X hX
      have := HC4.out X hX
      go_simp
    have hneqN : ∀ (X : World) (x y : Operand), (do eqGuard .neq 3 x y (.int .i64 (R.length : Nat)) (.int .i64 (R.length : Nat)); binOp .neq 3 (.int .i64 (R.length : Nat)) (.int .i64 (R.length : Nat)) : Sem Value).run Tryd.prog X = .ok (.bool false) X := by intro X x y; go_simp
    have hneqK : ∀ (X : World) (x y : Operand), (do eqGuard .neq 4 x y (.bool K) (.bool K); binOp .neq 4 (.bool K) (.bool K) : Sem Value).run Tryd.prog X = .ok (.bool false) X := by intro X x y; cases K <;> go_simp
    refine wpIn_wide.2 ?_
    refine wp_region_slots (fun X => Below w4.heap.size w4 X) (fun A B => Below A.heap.size A B) (pR s R.length L K (.slice (some ⟨m + 1, 0, none⟩) R.length ca) (.slice (some ⟨m + 1 + 1, 0, none⟩) R.length cb) (.slice (some ⟨w1.heap.size, 0, none⟩) R.length rc)) (by kernel_rfl) (by kernel_rfl) (by kernel_rfl) ?hS ?hp ?hs ?hd
    case hS => exact bl_drew (Below.refl _ _)
    case hp => exact fun i v A B _ _ hk hv => pR_keep hk hv
    case hs =>
      refine SlotSteps.cons ?_ (SlotSteps.cons ?_ (SlotSteps.cons ?_ (SlotSteps.cons ?_ (SlotSteps.cons ?_ (SlotSteps.cons ?_ (SlotSteps.cons ?_ (SlotSteps.cons ?_ (SlotSteps.cons ?_ (SlotSteps.cons ?_ (SlotSteps.cons ?_ (SlotSteps.cons ?_ (SlotSteps.cons ?_ (SlotSteps.cons ?_ (SlotSteps.cons ?_ (SlotSteps.cons ?_ (SlotSteps.cons ?_ (SlotSteps.cons ?_ (SlotSteps.cons ?_ (SlotSteps.cons ?_ (SlotSteps.cons ?_ (SlotSteps.cons ?_ (SlotSteps.cons ?_ (SlotSteps.cons ?_ (SlotSteps.cons ?_ (SlotSteps.nil)))))))))))))))))))))))))
      · intro a X hX hL hd
        refine ⟨rfl, ?_⟩
        have e0 : a.eval (.tmp 4) = .slice (some ⟨m + 1, 0, none⟩) R.length ca := hL.far 4 (by kernel_rfl)
        exact wp_value (exec_move rfl e0) ⟨_, rfl, hX, Below.refl _ _, rfl⟩
      · intro a X hX hL hd
        refine ⟨rfl, ?_⟩
        have e0 : a.eval (.tmp 3) = .pointer (some ⟨m, 0, none⟩) := hL.far 3 (by kernel_rfl)
        exact wp_value (exec_load rfl e0 (hload X hX)) ⟨_, rfl, hX, Below.refl _ _, rfl⟩
      · intro a X hX hL hd
        refine ⟨rfl, ?_⟩
        have e0 : a.eval (.tmp 23) = .slice (some ⟨m + 1, 0, none⟩) R.length ca := hd 0 23 (by kernel_rfl) (by kernel_rfl)
        have e1 : a.eval (.tmp 24) = .slice (some ⟨w1.heap.size, 0, none⟩) R.length rc := hd 1 24 (by kernel_rfl) (by kernel_rfl)
        refine wp_enter (exec_call (vs := #[.slice (some ⟨m + 1, 0, none⟩) R.length ca, .slice (some ⟨w1.heap.size, 0, none⟩) R.length rc]) rfl (by simp only [List.map_toArray, List.map_cons, List.map_nil, e0, e1]) Tryd.func18 rfl rfl) ?_
        refine (cS1.out X hX).mono ?_
        rintro e w' ⟨rfl, hd⟩
        have hb := hd.below
        exact ⟨_, rfl, _, rfl, bl_step hX hb, hb, by simp [pR]⟩
      · intro a X hX hL hd
        refine ⟨rfl, ?_⟩
        have e0 : a.eval (.tmp 25) = .bool true := hd 2 25 (by kernel_rfl) (by kernel_rfl)
        exact wp_value (exec_unop rfl e0 rfl) ⟨_, rfl, hX, Below.refl _ _, rfl⟩
      · intro a X hX hL hd
        refine ⟨rfl, ?_⟩
        have e0 : a.eval (.tmp 26) = .bool false := hd 3 26 (by kernel_rfl) (by kernel_rfl)
        exact wp_value (exec_move rfl e0) ⟨_, rfl, hX, Below.refl _ _, rfl⟩
      · intro a X hX hL hd
        refine ⟨wanted_true 27 rfl (by kernel_rfl) (hd 4 27 (by kernel_rfl) (by kernel_rfl)), ?_⟩
        have e0 : a.eval (.tmp 5) = .slice (some ⟨m + 1 + 1, 0, none⟩) R.length cb := hL.far 5 (by kernel_rfl)
        exact wp_value (exec_move rfl e0) ⟨_, rfl, hX, Below.refl _ _, rfl⟩
      · intro a X hX hL hd
        refine ⟨wanted_true 27 rfl (by kernel_rfl) (hd 4 27 (by kernel_rfl) (by kernel_rfl)), ?_⟩
        have e0 : a.eval (.tmp 0) = .string s := hL.far 0 (by kernel_rfl)
        exact wp_value (exec_move rfl e0) ⟨_, rfl, hX, Below.refl _ _, rfl⟩
      · intro a X hX hL hd
        refine ⟨wanted_true 27 rfl (by kernel_rfl) (hd 4 27 (by kernel_rfl) (by kernel_rfl)), ?_⟩
        have e0 : a.eval (.tmp 29) = .string s := hd 6 29 (by kernel_rfl) (by kernel_rfl)
        refine wp_enter (exec_call (vs := #[.string s]) rfl (by simp only [List.map_toArray, List.map_cons, List.map_nil, e0]) Tryd.func19 rfl rfl) ?_
        refine (cR.out X).mono ?_
        rintro e w' ⟨ax, cx, rfl, hox, hb⟩
        exact ⟨_, rfl, _, rfl, bl_step hX hb, hb, sl_of_own hox rfl⟩
      · intro a X hX hL hd
        refine ⟨wanted_true 27 rfl (by kernel_rfl) (hd 4 27 (by kernel_rfl) (by kernel_rfl)), ?_⟩
        have e0 : a.eval (.tmp 28) = .slice (some ⟨m + 1 + 1, 0, none⟩) R.length cb := hd 5 28 (by kernel_rfl) (by kernel_rfl)
        have e1 : Sl .i32 X (a.eval (.tmp 30)) L := hd 7 30 (by kernel_rfl) (by kernel_rfl)
        refine wp_enter (exec_call (vs := #[.slice (some ⟨m + 1 + 1, 0, none⟩) R.length cb, a.eval (.tmp 30)]) rfl (by simp only [List.map_toArray, List.map_cons, List.map_nil, e0]) Tryd.func18 rfl rfl) ?_
        refine (cS2.out X _ hX e1).mono ?_
        rintro e w' ⟨rfl, hd⟩
        have hb := hd.below
        exact ⟨_, rfl, _, rfl, bl_step hX hb, hb, by simp [pR]⟩
      · intro a X hX hL hd
        refine ⟨wanted_true 27 rfl (by kernel_rfl) (hd 4 27 (by kernel_rfl) (by kernel_rfl)), ?_⟩
        have e0 : a.eval (.tmp 31) = .bool true := hd 8 31 (by kernel_rfl) (by kernel_rfl)
        exact wp_value (exec_unop rfl e0 rfl) ⟨_, rfl, hX, Below.refl _ _, rfl⟩
      · intro a X hX hL hd
        refine ⟨rfl, ?_⟩
        have e0 : a.eval (.tmp 27) = .bool false := hd 4 27 (by kernel_rfl) (by kernel_rfl)
        have e1 : a.eval (.tmp 32) = .bool false := hd 9 32 (by kernel_rfl) (by kernel_rfl)
        exact wp_value (exec_pick rfl e0 rfl e1) ⟨_, rfl, hX, Below.refl _ _, rfl⟩
      · intro a X hX hL hd
        refine ⟨rfl, ?_⟩
        have e0 : a.eval (.tmp 33) = .bool false := hd 10 33 (by kernel_rfl) (by kernel_rfl)
        exact wp_value (exec_move rfl e0) ⟨_, rfl, hX, Below.refl _ _, rfl⟩
      · intro a X hX hL hd
        refine ⟨wanted_true 34 rfl (by kernel_rfl) (hd 11 34 (by kernel_rfl) (by kernel_rfl)), ?_⟩
        have e0 : a.eval (.tmp 0) = .string s := hL.far 0 (by kernel_rfl)
        exact wp_value (exec_move rfl e0) ⟨_, rfl, hX, Below.refl _ _, rfl⟩
      · intro a X hX hL hd
        refine ⟨wanted_true 34 rfl (by kernel_rfl) (hd 11 34 (by kernel_rfl) (by kernel_rfl)), ?_⟩
        have e0 : a.eval (.tmp 35) = .string s := hd 12 35 (by kernel_rfl) (by kernel_rfl)
        refine wp_enter (exec_call (vs := #[.string s]) rfl (by simp only [List.map_toArray, List.map_cons, List.map_nil, e0]) Tryd.func20 rfl rfl) ?_
        refine (cC.out X).mono ?_
        rintro e w' ⟨rfl, hb⟩
        exact ⟨_, rfl, _, rfl, bl_step hX hb, hb, rfl⟩
      · intro a X hX hL hd
        refine ⟨wanted_true 34 rfl (by kernel_rfl) (hd 11 34 (by kernel_rfl) (by kernel_rfl)), ?_⟩
        have e0 : a.eval (.tmp 3) = .pointer (some ⟨m, 0, none⟩) := hL.far 3 (by kernel_rfl)
        exact wp_value (exec_load rfl e0 (hload X hX)) ⟨_, rfl, hX, Below.refl _ _, rfl⟩
      · intro a X hX hL hd
        refine ⟨wanted_true 34 rfl (by kernel_rfl) (hd 11 34 (by kernel_rfl) (by kernel_rfl)), ?_⟩
        have e0 : a.eval (.tmp 37) = .slice (some ⟨w1.heap.size, 0, none⟩) R.length rc := hd 14 37 (by kernel_rfl) (by kernel_rfl)
        exact wp_value (exec_len rfl e0) ⟨_, rfl, hX, Below.refl _ _, rfl⟩
      · intro a X hX hL hd
        refine ⟨wanted_true 34 rfl (by kernel_rfl) (hd 11 34 (by kernel_rfl) (by kernel_rfl)), ?_⟩
        have e0 : a.eval (.tmp 36) = .int .i64 (R.length : Nat) := hd 13 36 (by kernel_rfl) (by kernel_rfl)
        have e1 : a.eval (.tmp 38) = .int .i64 (R.length : Nat) := hd 15 38 (by kernel_rfl) (by kernel_rfl)
        exact wp_value (exec_binop rfl e0 e1 (hneqN X _ _)) ⟨_, rfl, hX, Below.refl _ _, rfl⟩
      · intro a X hX hL hd
        refine ⟨rfl, ?_⟩
        have e0 : a.eval (.tmp 34) = .bool false := hd 11 34 (by kernel_rfl) (by kernel_rfl)
        have e1 : a.eval (.tmp 39) = .bool false := hd 16 39 (by kernel_rfl) (by kernel_rfl)
        exact wp_value (exec_pick rfl e0 rfl e1) ⟨_, rfl, hX, Below.refl _ _, rfl⟩
      · intro a X hX hL hd
        refine ⟨rfl, ?_⟩
        have e0 : a.eval (.tmp 40) = .bool false := hd 17 40 (by kernel_rfl) (by kernel_rfl)
        exact wp_value (exec_move rfl e0) ⟨_, rfl, hX, Below.refl _ _, rfl⟩
      · intro a X hX hL hd
        refine ⟨wanted_true 41 rfl (by kernel_rfl) (hd 18 41 (by kernel_rfl) (by kernel_rfl)), ?_⟩
        have e0 : a.eval (.tmp 0) = .string s := hL.far 0 (by kernel_rfl)
        exact wp_value (exec_move rfl e0) ⟨_, rfl, hX, Below.refl _ _, rfl⟩
      · intro a X hX hL hd
        refine ⟨wanted_true 41 rfl (by kernel_rfl) (hd 18 41 (by kernel_rfl) (by kernel_rfl)), ?_⟩
        have e0 : a.eval (.tmp 42) = .string s := hd 19 42 (by kernel_rfl) (by kernel_rfl)
        refine wp_enter (exec_call (vs := #[.string s]) rfl (by simp only [List.map_toArray, List.map_cons, List.map_nil, e0]) Tryd.func21 rfl rfl) ?_
        refine (cV.out X hX).mono ?_
        rintro e w' ⟨rfl, hb⟩
        exact ⟨_, rfl, _, rfl, bl_step hX hb, hb, rfl⟩
      · intro a X hX hL hd
        refine ⟨wanted_true 41 rfl (by kernel_rfl) (hd 18 41 (by kernel_rfl) (by kernel_rfl)), ?_⟩
        have e0 : a.eval (.tmp 0) = .string s := hL.far 0 (by kernel_rfl)
        exact wp_value (exec_move rfl e0) ⟨_, rfl, hX, Below.refl _ _, rfl⟩
      · intro a X hX hL hd
        refine ⟨wanted_true 41 rfl (by kernel_rfl) (hd 18 41 (by kernel_rfl) (by kernel_rfl)), ?_⟩
        have e0 : a.eval (.tmp 44) = .string s := hd 21 44 (by kernel_rfl) (by kernel_rfl)
        refine wp_enter (exec_call (vs := #[.string s]) rfl (by simp only [List.map_toArray, List.map_cons, List.map_nil, e0]) Tryd.func22 rfl rfl) ?_
        refine (cRV.out X).mono ?_
        rintro e w' ⟨rfl, hb⟩
        exact ⟨_, rfl, _, rfl, bl_step hX hb, hb, rfl⟩
      · intro a X hX hL hd
        refine ⟨wanted_true 41 rfl (by kernel_rfl) (hd 18 41 (by kernel_rfl) (by kernel_rfl)), ?_⟩
        have e0 : a.eval (.tmp 43) = .bool K := hd 20 43 (by kernel_rfl) (by kernel_rfl)
        have e1 : a.eval (.tmp 45) = .bool K := hd 22 45 (by kernel_rfl) (by kernel_rfl)
        exact wp_value (exec_binop rfl e0 e1 (hneqK X _ _)) ⟨_, rfl, hX, Below.refl _ _, rfl⟩
      · intro a X hX hL hd
        refine ⟨rfl, ?_⟩
        have e0 : a.eval (.tmp 41) = .bool false := hd 18 41 (by kernel_rfl) (by kernel_rfl)
        have e1 : a.eval (.tmp 46) = .bool false := hd 23 46 (by kernel_rfl) (by kernel_rfl)
        exact wp_value (exec_pick rfl e0 rfl e1) ⟨_, rfl, hX, Below.refl _ _, rfl⟩

    case hd =>
      intro a X hX hL hd _
      have h47 : a.tmps.getD 47 undef = .bool false := hd 24 47 (by kernel_rfl)
      obtain ⟨f, ha, hf⟩ := hL.out [23, 24, 25, 26, 27, 28, 29, 30, 31, 32, 33, 34, 35, 36, 37, 38, 39, 40, 41, 42, 43, 44, 45, 46, 47] (by kernel_rfl)
      have h47' : f 47 = .bool false := (hf 47).trans h47
      simp only [List.foldl_cons, List.foldl_nil, List.setIfInBounds_toArray, List.set_cons_zero, List.set_cons_succ, h47'] at ha
      clear hf hd hL h47
      subst ha
      gi_wp2_with fail
      gi_meet
      case rel => exact ⟨rfl, hX⟩
  case rest =>
    obtain ⟨rfl, hB4⟩ := hcut
    generalize (⟨w1.heap.size, 0, none⟩ : Addr) = A0 at *
    obtain ⟨p, hp⟩ : ∃ p, wc.heap.size = p := ⟨_, rfl⟩
    obtain ⟨W5, hW5⟩ : ∃ W5, (wc.alloc (.cells #[.slice none 0 0] 28)).iter s 0 = W5 := ⟨_, rfl⟩
    have hW5' : (wc.alloc (.cells #[.slice none 0 0] 28)).alloc (.stringIter s 0) = W5 := hW5
    have hz5 : W5.heap.size = p + 2 := by rw [← hW5']; simp [hp]
    have c5 : W5.heap[p]? = some (.cells #[.slice none 0 0] 28 (0, 0)) := by rw [← hW5']; exact alloc_old (alloc_at hp.symm)
    have i5 : W5.heap[p + 1]? = some (.stringIter s 0) := by rw [← hW5']; exact alloc_at (by simp [hp])
    have hb5 : Below p wc W5 := by rw [← hW5']; exact ((Below.refl p wc).alloc (by omega) _).alloc (by simp; omega) _
    have HW5 := Lib.hid hW5
    clear hW5 hW5'
    gi_wp2_with fail
    rw [HW5.out]
    gi_loopw [7] (fun _ wr => ∃ (pos f : Nat) (pre : List (Nat × Nat)) (ao : Option Addr) (cp k : Nat), k = pre.length ∧ pre ++ unitsF s f pos = units s ∧ s.size ≤ pos + f ∧ pos ≤ s.size ∧
        OwnS (fun b => p + 2 ≤ b) 3 1 (.slice ao k cp) k (intCells (plI pre)) wr ∧ wr.heap[p]? = some (.cells #[.slice ao k cp] 28 (0, 0)) ∧ wr.heap[p + 1]? = some (.stringIter s pos) ∧ Below p wc wr)
      (fun _ wr => s.size - iterPos wr (p + 1))
    case atStart => exact ⟨0, s.size, [], none, 0, 0, rfl, rfl, by omega, by omega, own_nil _ _ _ _, c5, i5, hb5⟩
    case round =>
      obtain ⟨pos, f, pre, ao, cp, k, hkl, hpre, hf, hpl, hown, hc, hit, hb⟩ := hrel
      by_cases hpos : pos < s.size
      · obtain ⟨d1, d2, d3⟩ := dec_width s pos hpos
        obtain ⟨f', rfl⟩ : ∃ f', f = f' + 1 := ⟨f - 1, by omega⟩
        have hun : unitsF s (f' + 1) pos = (pos, (Utf8.decode s pos).1) :: unitsF s f' (pos + (Utf8.decode s pos).2) := by rw [unitsF, if_pos hpos]
        rw [hun] at hpre
        have hkl2 : k < (units s).length := by rw [← hpre]; simp; omega
        have hltw : p + 1 < wr.heap.size := (Array.getElem?_eq_some_iff.1 hit).1
        obtain ⟨W1, hW1⟩ : ∃ W1, wr.putObj (p + 1) (.stringIter s (pos + (Utf8.decode s pos).2)) = W1 := ⟨_, rfl⟩
        have hk1 : Keep (fun b => b = p + 1) wr W1 := by rw [← hW1]; exact Keep.putObj (X := fun b => b = p + 1) (Keep.refl _ _) (.inl rfl) _
        have hb1 : Below p wc W1 := by rw [← hW1]; exact hb.trans (below_putObj (by omega) _)
        have hit1 : W1.heap[p + 1]? = some (.stringIter s (pos + (Utf8.decode s pos).2)) := by rw [← hW1]; exact World.putObj_heap_same hltw
        have hc1 := hk1.heap hc (by omega)
        have hown1 := hown.keep hk1 (fun b h => by omega)
        have hnx : ∀ ty, (Instr.next (.pointer (some ⟨p + 1, 0, none⟩)) true ty).run Tryd.prog wr = .ok (.tuple #[.bool true, .int .i64 pos, .int .i32 (Utf8.decode s pos).1]) W1 := fun ty => by
          rw [← hW1]; exact run_next_str wr (p + 1) s pos ty hit hpos
        have hz1w : wr.heap.size ≤ W1.heap.size := hk1.size
        obtain ⟨g, cap, w2, hrun, hown2, hk2, hg2, hz2⟩ := append_x (P := Tryd.prog) W1 28 3 Tryd.underlying28 tinfo3 rfl (by omega) hown1 [.int .i64 pos] rfl
          (by intro u hu; simp at hu; subst hu; rfl) (by unfold maxLen; omega) (by omega)
        have hge : p + 2 ≤ g := by
          rcases hg2 with h | h
          · exact hown1.2 g h
          · omega
        have hcA : (W1.alloc (.cells #[.int .i64 pos] 3)).heap[p]? = some (.cells #[.slice ao k cp] 28 (0, 0)) := (((Below.refl W1.heap.size W1).alloc (Nat.le_refl _) _).block _ (by omega)).trans hc1
        have hc2 := hk2.heap hc1 (fun h => by have := hown1.2 p h; omega)
        have hit2 := hk2.heap hit1 (fun h => by have := hown1.2 (p + 1) h; omega)
        have hb2 : Below p wc w2 := hb1.trans (hk2.below (by omega) (fun b h => by have := hown1.2 b h; omega))
        have hsn := plI_snoc pre (pos, (Utf8.decode s pos).1)
        obtain ⟨w3, hw3⟩ : ∃ w3, w2.setCell ⟨p, 0, none⟩ (.slice (some ⟨g, 0, none⟩) (k + 1) cap) = w3 := ⟨_, rfl⟩
        have hk3 : Keep (fun b => b = p) w2 w3 := by rw [← hw3]; exact Keep.setCell (X := fun b => b = p) (p := ⟨p, 0, none⟩) (Keep.refl _ _) rfl _
        have hc3 : w3.heap[p]? = some (.cells #[.slice (some ⟨g, 0, none⟩) (k + 1) cap] 28 (0, 0)) := by rw [← hw3]; exact set_at hc2
        have HG : Hid (OwnS (fun b => p + 2 ≤ b) 3 1 (.slice (some ⟨g, 0, none⟩) (k + 1) cap) (k + 1) (intCells (plI (pre ++ [(pos, (Utf8.decode s pos).1)]))) w3 ∧ w3.heap[p]? = some (.cells #[.slice (some ⟨g, 0, none⟩) (k + 1) cap] 28 (0, 0)) ∧ w3.heap[p + 1]? = some (.stringIter s (pos + (Utf8.decode s pos).2)) ∧ Below p wc w3) := Lib.hid (by
          refine ⟨?_, hc3, hk3.heap hit2 (by omega), hb2.trans (hk3.below (by have := hb2.size; omega) (fun b h => by omega))⟩
          have := (hown2.weaken (Z := fun b => p + 2 ≤ b) (fun b h => by subst h; exact hge)).keep hk3 (fun b h => by omega)
          rw [hsn]
          simpa [intCells] using this)
        have HRun := Lib.hid hrun
        have HP := Lib.hid (And.intro hpre (And.intro hkl hit))
        have x1 := cell_one hc1
        have xA := cell_one hcA
        have x2 := cell_one hc2
        have y2 := frozen_one hc2
        have HW3 := Lib.hid hw3
        clear hrun hown2 hk2 hg2 hz2 hown hown1 hpre hsn hkl hun hW1 hit hit1 hit2 hc hc1 hc2 hcA hc3 hk1 hk3 hb hb1 hb2 hw3 hltw
        generalize Utf8.decode s pos = d at *
        obtain ⟨r, wd⟩ := d
        simp only at d1 d2 d3 hnx
        gi_wp2_with (refine wpListIn_append_eq (o := ⟨some 56, _, _, _, _, _⟩) (by rfl) (by rfl) (by rfl) (by rfl) HRun.out ?_)
        rw [HW3.out]
        go_roundw
        case rel => exact ⟨pos + wd, f', pre ++ [(pos, r)], some ⟨g, 0, none⟩, cap, k + 1, by rw [List.length_append, ← HP.out.2.1]; rfl, by rw [List.append_assoc]; exact HP.out.1, by omega, by omega, HG.out.1, HG.out.2.1, HG.out.2.2.1, HG.out.2.2.2⟩
        case measure => rw [iterPos_eq HG.out.2.2.1, iterPos_eq HP.out.2.2]; simp only; omega
      · have hnx : ∀ ty, (Instr.next (.pointer (some ⟨p + 1, 0, none⟩)) true ty).run Tryd.prog wr = .ok (.tuple #[.bool false]) wr := fun ty => run_next_str_end wr (p + 1) s pos ty hit hpos
        have hun : unitsF s f pos = [] := by
          cases f with
          | zero => rfl
          | succ f => rw [unitsF, if_neg hpos]
        rw [hun, List.append_nil] at hpre
        subst hpre
        subst hkl
        obtain ⟨c, hcz⟩ : ∃ c, wr.heap.size = c := ⟨_, rfl⟩
        have hpc : p + 2 ≤ c := by have := (Array.getElem?_eq_some_iff.1 hit).1; omega
        obtain ⟨V1, hV1⟩ : ∃ V1, wr.alloc (.cells #[.int .i64 0] 3) = V1 := ⟨_, rfl⟩
        have v1c : V1.heap[c]? = some (.cells #[.int .i64 0] 3 (0, 0)) := by rw [← hV1]; exact alloc_at hcz.symm
        have hzV1 : V1.heap.size = c + 1 := by rw [← hV1]; simp [hcz]
        have hbV : Below c wr V1 := by rw [← hV1]; exact (Below.refl c wr).alloc (by omega) _
        have hb4r : Below w4.heap.size w4 wr := hB4.trans (hb.mono (by have := hB4.size; omega))
        have hz4r := hb4r.size
        have SP := (sl_of_own (k := .i64) hown (plI_len _)).toG
        have SO := (sOwn.out wr hb4r).toG
        have elP : Hid (∀ (k : Nat) (x : Int), (plI (units s))[k]? = some x → ∃ A, ao = some A ∧ ∀ X, Below c wr X → X.cell? (A.add k) = some (.int .i64 x)) := Lib.hid fun k x hx => by
          obtain ⟨ax, cx, e, h⟩ := SP
          injection e with e1 _ _
          subst e1
          rcases h with h | ⟨a, e, h⟩
          · rw [h] at hx; simp at hx
          · exact ⟨a, e, fun X hX => (hX.cell (by have := lt_of_cell (h k x hx); omega)).trans (h k x hx)⟩
        have elO : Hid (∀ (k : Nat) (x : Int), (numsI s)[k]? = some x → ∀ X, Below c wr X → X.cell? (A0.add k) = some (.int .i32 x)) := Lib.hid fun k x hx => by
          obtain ⟨ax, cx, e, h⟩ := SO
          injection e with e1 _ _
          subst e1
          rcases h with h | ⟨a, e, h⟩
          · rw [h] at hx; simp at hx
          · injection e with e
            subst e
            exact fun X hX => (hX.cell (by have := lt_of_cell (h k x hx); omega)).trans (h k x hx)
        have HNI : Hid (numsI s = (units s).map fun p => (p.2 : Int)) := Lib.hid (by simp [numsI, nums_units, List.map_map, Function.comp_def])
        have HV1 := Lib.hid hV1
        have HCW := Lib.hid (And.intro hc (And.intro hb4r hown))
        clear SP SO hV1 hit hc hown hun hf hb hb4r
        gi_wp2_with fail
        rw [HV1.out]
        refine (callsIn_wide.2 (utfAll_call s _)).mono ?_
        rintro e w6 ⟨rfl, hw6⟩
        gi_wp2_with fail
        have hk6 : Keep (fun _ => False) V1 w6 := by rw [← hw6]; exact (Keep.refl _ _).alloc _
        have hz6 : w6.heap.size = c + 2 := by rw [← hw6]; simp [hzV1]
        have b6 : w6.heap[c + 1]? = some (.cells #[.string s] 9 (0, 0)) := by rw [← hw6]; exact alloc_at hzV1.symm
        have v6 := hk6.heap v1c (fun h => h)
        have hb6 : Below c wr w6 := hbV.trans (hk6.below (X := fun _ => False) (by omega) (fun _ h => h.elim))
        clear hw6 hk6 hbV v1c
        refine loop_out (gf := 61) (lb := #[.pointer (some ⟨c + 1, 0, none⟩)]) (encs := enc2) rfl (enters_of Tryd.func61 (by kernel_rfl) rfl)
          (all_iter s (c + 1) w6 (cell_one b6) (by omega)) (fun _ => rfl) (X := fun b => b = c)
          (fun b hb => by omega) (fun b hb => by omega) (fun _ _ => rfl) (Nat.le_refl _)
          (fun pre Y W => W.heap[c]? = some (.cells #[.int .i64 (pre.length : Nat)] 3 (0, 0)))
          (fun _ _ _ _ => False)
          (fun pre Y W W' hk h => hk.heap h (fun hx => by have := hx.1; omega))
          (fun _ _ _ _ _ _ h => h) v6 ?round ?done ?stop
        case stop => intro D c pre Y W _ _ _ h; exact h.elim
        case round =>
          rintro l hl pre ⟨at', r⟩ Y W hpre hi hk hY hlt hr
          gi_wp2
          refine ⟨Keep.refl _ _, ?_⟩
          rintro W2 _ hk2 hp2 hr2
          obtain ⟨rest, hrest⟩ := hpre
          have hkl : pre.length < (units s).length := by rw [← hrest]; simp
          have e1 : (plI (units s))[pre.length]? = some (at' : Int) := by rw [← hrest]; simp [plI]
          have e2 : (numsI s)[pre.length]? = some (r : Int) := by rw [HNI.out, ← hrest]; simp
          have hB2 : Below c wr W2 := hb6.trans (hk2.below (by omega) (fun b hb => by omega))
          obtain ⟨A, rfl, q1⟩ := elP.out _ _ e1
          have r1 := q1 W2 hB2
          have r2 := elO.out _ _ e2 W2 hB2
          have r3 := HC4.out W2 (HCW.out.2.1.trans (hB2.mono (by omega)))
          have r4 := cell_one ((hB2.block _ (by omega)).trans HCW.out.1)
          have r5 := cell_one hp2
          have r6 := frozen_one hp2
          have HP := Lib.hid hp2
          clear hp2 hr2 hr hi hrest hk hk2 v6 b6 q1 e1 e2 hB2
          generalize (units s).length = R at *
          generalize hpk : pre.length = k at *
          gi_wp2_with fail
          refine ⟨Y, Keep.setCell (X := fun b => b = c ∨ Y b) (p := ⟨c, 0, none⟩) (Keep.refl _ _) (.inl rfl) _, fun b h => .inl h, ?_⟩
          have := set_at (u := .int .i64 ((k : Int) + 1)) HP.out
          simpa [hpk] using this
        case done =>
          rintro D Y W hD hDd hpW hY hkW
          have hzW := hkW.size
          have hbW : Below c wr W := hb6.trans (hkW.below (by omega) (fun b hb => by omega))
          obtain ⟨q, hq⟩ : ∃ q, W.heap.size = q := ⟨_, rfl⟩
          have hDq : D < q := by have := (Array.getElem?_eq_some_iff.1 hDd).1; omega
          obtain ⟨W7, hW7⟩ : ∃ W7, W.iter s 0 = W7 := ⟨_, rfl⟩
          have hW7' : W.alloc (.stringIter s 0) = W7 := hW7
          have hz7 : W7.heap.size = q + 1 := by rw [← hW7']; simp [hq]
          have i7 : W7.heap[q]? = some (.stringIter s 0) := by rw [← hW7']; exact alloc_at hq.symm
          have hb7 : Below q W W7 := by rw [← hW7']; exact (Below.refl q W).alloc (by omega) _
          have hnW : Below n w W := HN4.out.1.trans ((HCW.out.2.1.trans (hbW.mono (by omega))).mono (by have := HN4.out.1.size; omega))
          have HW7 := Lib.hid hW7
          have HD := Lib.hid (And.intro hDd (And.intro hpW (And.intro hbW hnW)))
          have hnq : n ≤ q := by have := hnW.size; omega
          have hcq : c < q := by omega
          clear hW7 hW7' v6 b6 hDd hpW hbW hkW hY hnW
          gi_wp2_with fail
          rw [HW7.out]
          obtain ⟨VR, rfl⟩ : ∃ VR : World, VR = wr := ⟨_, rfl⟩
          gi_loopw [11, 12, 13, 14] (fun _ _ _ _ wr => ∃ pos : Nat, pos ≤ s.size ∧ wr.heap[q]? = some (.stringIter s pos) ∧ Below q W wr)
            (fun _ _ _ _ wr => s.size - iterPos wr q)
          case atStart => exact ⟨0, by omega, i7, hb7⟩
          case round =>
            obtain ⟨pos, hpl2, hit, hb⟩ := hrel
            by_cases hpos : pos < s.size
            · obtain ⟨d1, d2, d3⟩ := dec_width s pos hpos
              have hltw : q < wr.heap.size := (Array.getElem?_eq_some_iff.1 hit).1
              obtain ⟨X1, hX1⟩ : ∃ X1, wr.putObj q (.stringIter s (pos + (Utf8.decode s pos).2)) = X1 := ⟨_, rfl⟩
              have hb1 : Below q W X1 := by rw [← hX1]; exact hb.trans (below_putObj (Nat.le_refl _) _)
              have hit1 : X1.heap[q]? = some (.stringIter s (pos + (Utf8.decode s pos).2)) := by rw [← hX1]; exact World.putObj_heap_same hltw
              have hnx : ∀ ty, (Instr.next (.pointer (some ⟨q, 0, none⟩)) true ty).run Tryd.prog wr = .ok (.tuple #[.bool true, .int .i64 pos, .int .i32 (Utf8.decode s pos).1]) X1 := fun ty => by
                rw [← hX1]; exact run_next_str wr q s pos ty hit hpos
              have C := utfDecode_any s pos X1 (tabs_below HT.out h2 (HD.out.2.2.2.trans (hb1.mono hnq))) (by omega)
              rw [decP_in s pos hpos] at C
              have CC := Lib.hid C
              have HI := Lib.hid (And.intro hit (And.intro hit1 hb1))
              have hlt1 : q < X1.heap.size := (Array.getElem?_eq_some_iff.1 hit1).1
              clear C hit hit1 hX1 hb hb1 hltw
              generalize Utf8.decode s pos = d at *
              obtain ⟨r, wd⟩ := d
              simp only at d1 d2 d3 hnx CC
              have d1' : (1 : Int) ≤ wd := by omega
              gi_wp2_with fail
              refine (callsIn_wide.2 CC.out).mono ?_
              rintro e X2 ⟨rfl, hbx⟩
              have hit2 := (hbx.block q hlt1).trans HI.out.2.1
              have HB2 := Lib.hid (HI.out.2.2.trans (hbx.mono (by omega)))
              have HI2 := Lib.hid hit2
              clear hbx hit2
              gi_wp2_with fail
              go_roundw
              case rel => exact ⟨pos + wd, by omega, HI2.out, HB2.out⟩
              case measure => rw [iterPos_eq HI2.out, iterPos_eq HI.out.1]; omega
            · have hnx : ∀ ty, (Instr.next (.pointer (some ⟨q, 0, none⟩)) true ty).run Tryd.prog wr = .ok (.tuple #[.bool false]) wr := fun ty => run_next_str_end wr q s pos ty hit hpos
              have hzx := hb.size
              have hb4x : Below w4.heap.size w4 wr := HCW.out.2.1.trans ((HD.out.2.2.1.trans (hb.mono (by omega))).mono (by omega))
              have x8 := cell_one ((hb.block c (by omega)).trans HD.out.2.1)
              have x3 := HC4.out wr hb4x
              have hDx := (hb.block D (by omega)).trans HD.out.1
              have hnx2 : Below n w wr := HD.out.2.2.2.trans (hb.mono hnq)
              have hrx := (hb4x.block n (by omega)).trans HN4.out.2.1
              have hH := handed2 (l0 := m + 1) (W := wr) (by have := hb4x.size; omega) (oA.out wr hb4x) (oB.out wr hb4x) (by omega) (by omega)
              obtain ⟨z, hz⟩ : ∃ z, wr.heap.size = z := ⟨_, rfl⟩
              obtain ⟨X3, hX3⟩ : ∃ X3, wr.alloc (.cells #[.slice (some ⟨m + 1, 0, none⟩) (units s).length ca, .slice (some ⟨m + 1 + 1, 0, none⟩) (units s).length cb] 23) = X3 := ⟨_, rfl⟩
              rw [hX3, hz] at hH
              have hbx3 : Below z wr X3 := by rw [← hX3]; exact (Below.refl z wr).alloc (by omega) _
              have C5 := Lib.hid (apartRunes_any z 2 _ _ X3 hH)
              have HX3 := Lib.hid hX3
              have hnz : n < z := by have := hb4x.size; omega
              have hDz : D < z := by omega
              have hmz : m + 2 < z := by have := hb4x.size; omega
              have HF := Lib.hid (And.intro ((hbx3.block n hnz).trans hrx) (And.intro ((hbx3.block D hDz).trans hDx) (hnx2.trans (hbx3.mono (by omega)))))
              clear hit hb hb4x hDx hnx2 hrx hH hX3 hbx3
              gi_wp2_with fail
              rw [HX3.out]
              refine (callsIn_wide.2 C5.out).mono ?_
              rintro e X4 ⟨rfl, hk4⟩
              have hXs : ∀ b, Xs [.slice (some ⟨m + 1, 0, none⟩) (units s).length ca, .slice (some ⟨m + 1 + 1, 0, none⟩) (units s).length cb] b → b = m + 1 ∨ b = m + 2 := by
                rintro b ⟨v, hv, hb⟩
                simp only [List.mem_cons, List.not_mem_nil, or_false] at hv
                rcases hv with rfl | rfl
                · left; simpa [Value.ownBlock] using hb.symm
                · right; simpa [Value.ownBlock] using hb.symm
              have y1 := hk4.heap HF.out.1 (fun h => by have := hXs _ h; omega)
              have yD := hk4.heap HF.out.2.1 (fun h => by have := hXs _ h; omega)
              have hzf := HF.out.2.2.size
              have hb4f : Below n w X4 := HF.out.2.2.trans (hk4.below (by omega) (fun b h => by have := hXs _ h; omega))
              have yc := cell_one y1
              have yf := frozen_one y1
              clear hk4
              gi_wp2_with fail
              refine leaves_marks (Ds := [D]) (by simp) (fun D' h => by simp at h; subst h; exact set_old yD (by omega)) (fun W' hk' => ?_)
              refine ⟨_, results_cell_one (g := n) rfl _ _ _ rfl (cell_one (hk'.heap (set_at (u := .bool true) y1) (fun h => by simp at h; omega))) Tryd.isAgg4, rfl, ?_⟩
              exact (hb4f.setCell (by simp) _).trans (hk'.below (by have := hb4f.size; simp; omega) (fun b h => by simp at h; omega))
theorem range_c (s : ByteArray) (w : World) (hE : Lib.Utf8Tabs 0 1 w ∧ 2 ≤ w.heap.size) (_ : s.size ≤ 140737488351232) (hB : s.size + 1 + 0 ≤ 1048576) :
    Calls Tryd.prog 3 #[.string s] w fun e w' => e = .returned (.bool true) ∧ Below w.heap.size w w' := range_walk s w hE.1 hE.2 (by omega)
end Go.Proofs.YtgjhingjheplfaaDoor
