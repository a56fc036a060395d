/- ScanKnown's refused: the texts that are refused, each with its place (written by gen_gc.py). -/
import Derived.Test.YtbnnhbmnddaafaaGreatDoorGa
import Derived.Test.YtbnnhbmnddaafaaGreatDoorTu
import Derived.Test.YtbnnhbmnddaafaaGreatDoorK9
namespace Go.Proofs.YtbnnhbmnddaafaaGreatDoor
open Go Go.RowKit Go.Kt Go.Shelf Go.Lib
attribute [local go_sem] Oper.semAt_some

def R10 : List (ByteArray × Nat × Nat) := [(⟨#[60, 60, 32, 42]⟩, 4, 4), (⟨#[92, 117, 123, 100, 56, 48, 48, 125]⟩, 9, 1), (⟨#[92, 117, 123, 125]⟩, 9, 1), (⟨#[92, 120, 55, 102]⟩, 9, 1), (⟨#[97, 92]⟩, 9, 2), (⟨#[92, 117, 52, 49]⟩, 9, 1), (⟨#[195, 169, 39]⟩, 10, 2), (⟨#[91, 97]⟩, 25, 1), (⟨#[97, 93]⟩, 25, 2), (⟨#[42]⟩, 4, 1)]
theorem R10_bd : ∀ x ∈ R10, x.1.size ≤ 8 ∧ 1 ≤ x.2.1 ∧ x.2.1 ≤ 25 := by decide
theorem R10_scan : ∀ x ∈ R10, scanS x.1 = .bad x.2.1 1 x.2.2 := by
  intro x hx
  simp only [R10, List.mem_cons, List.not_mem_nil, or_false] at hx
  rcases hx with rfl | rfl | rfl | rfl | rfl | rfl | rfl | rfl | rfl | rfl
  all_goals first | exact scanRef0 | exact scanRef1 | exact scanRef2 | exact scanRef3 | exact scanRef4 | exact scanRef5 | exact scanRef6 | exact scanRef7 | exact scanRef8 | exact scanRef9
theorem exec_lenT {o : Oper} {a : Act} {w : World} {x : Operand} {ao : Option Addr} {n cap : Nat} (ho : o.op = .call ⟨.builtin .len, #[x], #[23]⟩) (hx : a.eval x = .slice ao n cap) : (execOp a.eval o).run Tryz.prog w = .ok (.value (.int .i64 (n : Nat))) w := by
  unfold execOp; rw [ho]; simp only [resolve, List.map_toArray, List.map_cons, List.map_nil, hx]
  go_simp
def pR8 (j n c g2 g3 : Nat) (jx : Nat) (v : Value) (_W : World) : Prop := match jx with
  | 0 => v = .slice none 0 0
  | 1 => v = .int .i64 ((0 : Nat) : Int)
  | 2 => v = .bool false
  | 3 => v = .bool false
  | 4 => v = fltV n (1 : Nat) (c : Nat)
  | 5 => v = .slice (some ⟨g2, 0, none⟩) 10 10
  | 6 => v = .int .i64 (j : Nat)
  | 7 => v = .pointer (some ⟨g2, j, none⟩)
  | 8 => v = .int .i64 (n : Nat)
  | 9 => v = .slice (some ⟨g3, 0, none⟩) 10 10
  | 10 => v = .int .i64 (j : Nat)
  | 11 => v = .pointer (some ⟨g3, j, none⟩)
  | 12 => v = .int .i64 (c : Nat)
  | 13 => v = .bool true
  | 14 => v = .bool false
  | 15 => v = .bool false
  | _ => True
set_option maxRecDepth 100000 in
set_option maxHeartbeats 8000000 in
theorem krefused_any (w : World) (hE : KEnv w) : Calls Tryz.prog 5 #[] w fun e w' => e = .returned (.bool true) ∧ Below w.heap.size w w' := by
  have HE := Lib.hid (fun X (hX : Below w.heap.size w X) => (hE.below hX).1)
  obtain ⟨w1, hw1⟩ : ∃ W, w.alloc (.cells #[.string ⟨#[60, 60, 32, 42]⟩, .string ⟨#[92, 117, 123, 100, 56, 48, 48, 125]⟩, .string ⟨#[92, 117, 123, 125]⟩, .string ⟨#[92, 120, 55, 102]⟩, .string ⟨#[97, 92]⟩, .string ⟨#[92, 117, 52, 49]⟩, .string ⟨#[195, 169, 39]⟩, .string ⟨#[91, 97]⟩, .string ⟨#[97, 93]⟩, .string ⟨#[42]⟩] 9) = W := ⟨_, rfl⟩
  have hb1 : Below w.heap.size w w1 := by rw [← hw1]; exact (Below.refl _ _).alloc (Nat.le_refl _) _
  have hg1 : w1.heap[w.heap.size]? = some (.cells (R10.map fun x => Value.string x.1).toArray 9 (0, 0)) := by rw [← hw1]; exact alloc_at rfl
  have hz1 : w1.heap.size = w.heap.size + 1 := by rw [← hw1]; simp
  obtain ⟨w2, hw2⟩ : ∃ W, w1.alloc (.cells #[.int .i64 4, .int .i64 9, .int .i64 9, .int .i64 9, .int .i64 9, .int .i64 9, .int .i64 10, .int .i64 25, .int .i64 25, .int .i64 4] 3) = W := ⟨_, rfl⟩
  have hb2 : Below w1.heap.size w1 w2 := by rw [← hw2]; exact (Below.refl _ _).alloc (Nat.le_refl _) _
  have hg2 : w2.heap[w1.heap.size]? = some (.cells (R10.map fun x => Value.int .i64 (x.2.1 : Nat)).toArray 3 (0, 0)) := by rw [← hw2]; exact alloc_at rfl
  have hz2 : w2.heap.size = w1.heap.size + 1 := by rw [← hw2]; simp
  obtain ⟨w3, hw3⟩ : ∃ W, w2.alloc (.cells #[.int .i64 4, .int .i64 1, .int .i64 1, .int .i64 1, .int .i64 2, .int .i64 1, .int .i64 2, .int .i64 1, .int .i64 2, .int .i64 1] 3) = W := ⟨_, rfl⟩
  have hb3 : Below w2.heap.size w2 w3 := by rw [← hw3]; exact (Below.refl _ _).alloc (Nat.le_refl _) _
  have hg3 : w3.heap[w2.heap.size]? = some (.cells (R10.map fun x => Value.int .i64 (x.2.2 : Nat)).toArray 3 (0, 0)) := by rw [← hw3]; exact alloc_at rfl
  have hz3 : w3.heap.size = w2.heap.size + 1 := by rw [← hw3]; simp
  have HB3 : Hid (∀ X, Below w3.heap.size w3 X → Below w.heap.size w X) := Lib.hid fun X hX => hb1.trans ((hb2.trans ((hb3.trans (hX.mono hb3.size)).mono hb2.size)).mono hb1.size)
  have HC1 : Hid (∀ X, Below w3.heap.size w3 X → ∀ (j : Nat) x, R10[j]? = some x → X.cell? ⟨w.heap.size, j, none⟩ = some (.string x.1)) := Lib.hid fun X hX j x hx => by
    have h : Below w1.heap.size w1 X := hb2.trans ((hb3.trans (hX.mono hb3.size)).mono hb2.size)
    rw [Lib.cell_of_heap ((h.block _ (by omega)).trans hg1)]
    simp [hx]
  have HC2 : Hid (∀ X, Below w3.heap.size w3 X → ∀ (j : Nat) x, R10[j]? = some x → X.cell? ⟨w1.heap.size, j, none⟩ = some (.int .i64 (x.2.1 : Nat))) := Lib.hid fun X hX j x hx => by
    have h : Below w2.heap.size w2 X := hb3.trans (hX.mono hb3.size)
    rw [Lib.cell_of_heap ((h.block _ (by omega)).trans hg2)]
    simp [hx]
  have HC3 : Hid (∀ X, Below w3.heap.size w3 X → ∀ (j : Nat) x, R10[j]? = some x → X.cell? ⟨w2.heap.size, j, none⟩ = some (.int .i64 (x.2.2 : Nat))) := Lib.hid fun X hX j x hx => by
    rw [Lib.cell_of_heap ((hX.block _ (by omega)).trans hg3)]
    simp [hx]
  obtain ⟨g1, hq1⟩ : ∃ n, w.heap.size = n := ⟨_, rfl⟩
  obtain ⟨g2, hq2⟩ : ∃ n, w1.heap.size = n := ⟨_, rfl⟩
  obtain ⟨g3, hq3⟩ : ∃ n, w2.heap.size = n := ⟨_, rfl⟩
  rw [hq1] at HC1
  rw [hq2] at HC2
  rw [hq3] at HC3
  have HW := Lib.hid (And.intro hw1 (And.intro hw2 hw3))
  have HQ := Lib.hid (And.intro hq1 (And.intro hq2 hq3))
  have HG := Lib.hid (And.intro (show g2 = g1 + 1 by omega) (show g3 = g1 + 1 + 1 by omega))
  clear hE hb1 hb2 hb3 hg1 hg2 hg3 hz1 hz2 hz3 hw1 hw2 hw3 hq1 hq2 hq3
  obtain ⟨hG2, hG3⟩ := HG.out
  subst hG2
  subst hG3
  go_enter Tryz.func5, Tryz.ntmps5
  go_wp2_with fail
  rw [HW.out.1, HW.out.2.1, HW.out.2.2]
  try rw [HQ.out.2.1, HQ.out.2.2]
  try rw [HQ.out.1]
  go_loopw [4] (fun iv X => ∃ j : Nat, j ≤ 10 ∧ iv = .int .i64 j ∧ Below w3.heap.size w3 X) (fun iv _ => 10 - (RowKit.intOf iv).toNat)
  case atStart => exact ⟨0, by omega, rfl, Below.refl _ _⟩
  case round =>
    obtain ⟨j, hj, rfl, hb⟩ := hrel
    have HB := Lib.hid hb
    clear hb
    by_cases hlt : j < 10
    · have hlt' : (j : Int) < 10 := by omega
      obtain ⟨⟨s, n, c⟩, hs⟩ : ∃ x, R10[j]? = some x := ⟨_, List.getElem?_eq_getElem hlt⟩
      have q := HC1.out wr HB.out j _ hs
      have hm := List.mem_of_getElem? hs
      have hbd := R10_bd _ hm
      have hsc := R10_scan _ hm
      have C := Lib.hid (scan_any s wr (HE.out wr (HB3.out _ HB.out)) (Nat.le_trans hbd.1 (by decide)))
      have HS := Lib.hid hs
      have HD := Lib.hid hbd
      simp only at q hsc
      rw [hsc] at C
      clear hs hm hbd hsc
      go_wp2_with fail
      refine C.out.mono ?_
      rintro e V ⟨he, hb⟩
      obtain rfl : e = .returned (.tuple #[.slice none 0 0, fltV n (1 : Nat) (c : Nat)]) := he
      have HV := Lib.hid (HB.out.trans (hb.mono HB.out.size))
      have SNX : Hid (∀ X Y, Below V.heap.size V X → Below X.heap.size X Y → Below V.heap.size V Y) := Lib.hid fun X Y h k => h.trans (k.mono h.size)
      have HVV : Hid (∀ X, Below V.heap.size V X → Below w3.heap.size w3 X) := Lib.hid fun X hX => HV.out.trans (hX.mono HV.out.size)
      have hl2 : ∀ X, Below V.heap.size V X → (Instr.loadAt 3 (.pointer (some ⟨(g1 + 1), j, none⟩))).run Tryz.prog X = .ok (.int .i64 (n : Nat)) X := fun X hX => by
        have q := HC2.out X (HVV.out X hX) j _ HS.out
        go_simp
      have hl3 : ∀ X, Below V.heap.size V X → (Instr.loadAt 3 (.pointer (some ⟨(g1 + 1 + 1), j, none⟩))).run Tryz.prog X = .ok (.int .i64 (c : Nat)) X := fun X hX => by
        have q := HC3.out X (HVV.out X hX) j _ HS.out
        go_simp
      have hix2 : ∀ X : World, (Instr.indexAt 33 (.slice (some ⟨(g1 + 1), 0, none⟩) 10 10) (.int .i64 (j : Nat))).run Tryz.prog X = .ok (.pointer (some ⟨(g1 + 1), j, none⟩)) X := fun X => by go_simp
      have hix3 : ∀ X : World, (Instr.indexAt 33 (.slice (some ⟨(g1 + 1 + 1), 0, none⟩) 10 10) (.int .i64 (j : Nat))).run Tryz.prog X = .ok (.pointer (some ⟨(g1 + 1 + 1), j, none⟩)) X := fun X => by go_simp
      have CA := Lib.hid (fun X (hX : Below V.heap.size V X) => at_fault (n : Nat) (1 : Nat) (c : Nat) X (by have h1 : 1 ≤ n := HD.out.2.1; omega) (by have h2 : n ≤ 25 := HD.out.2.2; omega) (HE.out X (HB3.out _ (HVV.out X hX))).err)
      have S8 : Below V.heap.size V V.drew := below_drewN (Below.refl _ _) 1
      clear hb C q
      go_wp2_with fail
      refine wp_region_guarded (fun X => Below V.heap.size V X) (fun U W => Below U.heap.size U W) (pR8 j n c (g1 + 1) (g1 + 1 + 1)) (by kernel_rfl) (by kernel_rfl) (by kernel_rfl) S8 ?hp ?hs ?hd
      case hp =>
        intro i v U V _ _ hk hv
        unfold pR8 at hv ⊢
        split at hv <;> exact hv
      case hs =>
        refine GSteps.cons ?_ (GSteps.cons ?_ (GSteps.cons ?_ (GSteps.cons ?_ (GSteps.cons ?_ (GSteps.cons ?_ (GSteps.cons ?_ (GSteps.cons ?_ (GSteps.cons ?_ (GSteps.cons ?_ (GSteps.cons ?_ (GSteps.cons ?_ (GSteps.cons ?_ (GSteps.cons ?_ (GSteps.cons ?_ (GSteps.cons ?_ (GSteps.nil))))))))))))))))
        · intro a X hX hL hd
          refine .inl ⟨rfl, ?_⟩
          have e0 : a.eval (.tmp 5) = .slice none 0 0 := hL.far 5 (by kernel_rfl)
          exact wp_value (exec_move rfl e0) ⟨_, rfl, hX, Below.refl _ _, rfl⟩
        · intro a X hX hL hd
          refine .inl ⟨rfl, ?_⟩
          have e0 : a.eval (.tmp 24) = .slice none 0 0 := hd 0 24 (by kernel_rfl) (by kernel_rfl)
          exact wp_value (exec_lenT rfl e0) ⟨_, rfl, hX, Below.refl _ _, rfl⟩
        · intro a X hX hL hd
          refine .inl ⟨rfl, ?_⟩
          have e0 : a.eval (.tmp 25) = .int .i64 ((0 : Nat) : Int) := hd 1 25 (by kernel_rfl) (by kernel_rfl)
          exact wp_value (exec_binop rfl e0 rfl (by go_simp)) ⟨_, rfl, hX, Below.refl _ _, rfl⟩
        · intro a X hX hL hd
          refine .inl ⟨rfl, ?_⟩
          have e0 : a.eval (.tmp 26) = .bool false := hd 2 26 (by kernel_rfl) (by kernel_rfl)
          exact wp_value (exec_move rfl e0) ⟨_, rfl, hX, Below.refl _ _, rfl⟩
        · intro a X hX hL hd
          refine .inl ⟨wanted_true 27 rfl (by kernel_rfl) (hd 3 27 (by kernel_rfl) (by kernel_rfl)), ?_⟩
          have e0 : a.eval (.tmp 6) = fltV n (1 : Nat) (c : Nat) := hL.far 6 (by kernel_rfl)
          exact wp_value (exec_move rfl e0) ⟨_, rfl, hX, Below.refl _ _, rfl⟩
        · intro a X hX hL hd
          refine .inl ⟨wanted_true 27 rfl (by kernel_rfl) (hd 3 27 (by kernel_rfl) (by kernel_rfl)), ?_⟩
          have e0 : a.eval (.tmp 2) = .slice (some ⟨(g1 + 1), 0, none⟩) 10 10 := hL.far 2 (by kernel_rfl)
          exact wp_value (exec_move rfl e0) ⟨_, rfl, hX, Below.refl _ _, rfl⟩
        · intro a X hX hL hd
          refine .inl ⟨wanted_true 27 rfl (by kernel_rfl) (hd 3 27 (by kernel_rfl) (by kernel_rfl)), ?_⟩
          have e0 : a.eval (.tmp 4) = .int .i64 (j : Nat) := hL.far 4 (by kernel_rfl)
          exact wp_value (exec_move rfl e0) ⟨_, rfl, hX, Below.refl _ _, rfl⟩
        · intro a X hX hL hd
          refine .inl ⟨wanted_true 27 rfl (by kernel_rfl) (hd 3 27 (by kernel_rfl) (by kernel_rfl)), ?_⟩
          have e0 : a.eval (.tmp 29) = .slice (some ⟨(g1 + 1), 0, none⟩) 10 10 := hd 5 29 (by kernel_rfl) (by kernel_rfl)
          have e1 : a.eval (.tmp 30) = .int .i64 (j : Nat) := hd 6 30 (by kernel_rfl) (by kernel_rfl)
          exact wp_value (exec_indexAddr rfl e0 e1 (hix2 X)) ⟨_, rfl, hX, Below.refl _ _, rfl⟩
        · intro a X hX hL hd
          refine .inl ⟨wanted_true 27 rfl (by kernel_rfl) (hd 3 27 (by kernel_rfl) (by kernel_rfl)), ?_⟩
          have e0 : a.eval (.tmp 31) = .pointer (some ⟨(g1 + 1), j, none⟩) := hd 7 31 (by kernel_rfl) (by kernel_rfl)
          exact wp_value (exec_load rfl e0 (hl2 X hX)) ⟨_, rfl, hX, Below.refl _ _, rfl⟩
        · intro a X hX hL hd
          refine .inl ⟨wanted_true 27 rfl (by kernel_rfl) (hd 3 27 (by kernel_rfl) (by kernel_rfl)), ?_⟩
          have e0 : a.eval (.tmp 3) = .slice (some ⟨(g1 + 1 + 1), 0, none⟩) 10 10 := hL.far 3 (by kernel_rfl)
          exact wp_value (exec_move rfl e0) ⟨_, rfl, hX, Below.refl _ _, rfl⟩
        · intro a X hX hL hd
          refine .inl ⟨wanted_true 27 rfl (by kernel_rfl) (hd 3 27 (by kernel_rfl) (by kernel_rfl)), ?_⟩
          have e0 : a.eval (.tmp 4) = .int .i64 (j : Nat) := hL.far 4 (by kernel_rfl)
          exact wp_value (exec_move rfl e0) ⟨_, rfl, hX, Below.refl _ _, rfl⟩
        · intro a X hX hL hd
          refine .inl ⟨wanted_true 27 rfl (by kernel_rfl) (hd 3 27 (by kernel_rfl) (by kernel_rfl)), ?_⟩
          have e0 : a.eval (.tmp 33) = .slice (some ⟨(g1 + 1 + 1), 0, none⟩) 10 10 := hd 9 33 (by kernel_rfl) (by kernel_rfl)
          have e1 : a.eval (.tmp 34) = .int .i64 (j : Nat) := hd 10 34 (by kernel_rfl) (by kernel_rfl)
          exact wp_value (exec_indexAddr rfl e0 e1 (hix3 X)) ⟨_, rfl, hX, Below.refl _ _, rfl⟩
        · intro a X hX hL hd
          refine .inl ⟨wanted_true 27 rfl (by kernel_rfl) (hd 3 27 (by kernel_rfl) (by kernel_rfl)), ?_⟩
          have e0 : a.eval (.tmp 35) = .pointer (some ⟨(g1 + 1 + 1), j, none⟩) := hd 11 35 (by kernel_rfl) (by kernel_rfl)
          exact wp_value (exec_load rfl e0 (hl3 X hX)) ⟨_, rfl, hX, Below.refl _ _, rfl⟩
        · intro a X hX hL hd
          refine .inl ⟨wanted_true 27 rfl (by kernel_rfl) (hd 3 27 (by kernel_rfl) (by kernel_rfl)), ?_⟩
          have e0 : a.eval (.tmp 28) = fltV n (1 : Nat) (c : Nat) := hd 4 28 (by kernel_rfl) (by kernel_rfl)
          have e1 : a.eval (.tmp 32) = .int .i64 (n : Nat) := hd 8 32 (by kernel_rfl) (by kernel_rfl)
          have e2 : a.eval (.tmp 36) = .int .i64 (c : Nat) := hd 12 36 (by kernel_rfl) (by kernel_rfl)
          refine wp_enter (exec_call (vs := #[fltV n (1 : Nat) (c : Nat), .int .i64 (n : Nat), .int .i64 1, .int .i64 (c : Nat)]) rfl (by simp only [List.map_toArray, List.map_cons, List.map_nil, e0, e1, e2]; rfl) Tryz.func10 rfl rfl) ?_
          refine (CA.out X hX).mono ?_
          rintro e w' ⟨rfl, hb⟩
          exact ⟨_, rfl, _, rfl, SNX.out _ _ hX hb, hb, rfl⟩
        · intro a X hX hL hd
          refine .inl ⟨wanted_true 27 rfl (by kernel_rfl) (hd 3 27 (by kernel_rfl) (by kernel_rfl)), ?_⟩
          have e0 : a.eval (.tmp 37) = .bool true := hd 13 37 (by kernel_rfl) (by kernel_rfl)
          exact wp_value (exec_unop rfl e0 rfl) ⟨_, rfl, hX, Below.refl _ _, rfl⟩
        · intro a X hX hL hd
          refine .inl ⟨rfl, ?_⟩
          have e0 : a.eval (.tmp 27) = .bool false := hd 3 27 (by kernel_rfl) (by kernel_rfl)
          have e1 : a.eval (.tmp 38) = .bool false := hd 14 38 (by kernel_rfl) (by kernel_rfl)
          exact wp_value (exec_pick rfl e0 rfl e1) ⟨_, rfl, hX, Below.refl _ _, rfl⟩
      case hd =>
        intro a2 X hX hL hd _
        have h39 : a2.tmps.getD 39 undef = .bool false := hd 15 39 (by kernel_rfl)
        obtain ⟨f, ha, hf⟩ := hL.out [24, 25, 26, 27, 28, 29, 30, 31, 32, 33, 34, 35, 36, 37, 38, 39] (by kernel_rfl)
        have h39' : f 39 = .bool false := (hf 39).trans h39
        simp only [List.foldl_cons, List.foldl_nil, List.setIfInBounds_toArray, List.set_cons_zero, List.set_cons_succ, h39'] at ha
        have HX := Lib.hid (HVV.out X hX)
        clear hf hd hL h39 S8 h39' CA hX hl2 hl3 hix2 hix3 SNX HVV HV
        subst ha
        go_wp2_with fail
        go_roundw
        case rel => exact ⟨j + 1, by omega, by go_num, HX.out⟩
        case measure => simp [RowKit.intOf]; omega
    · obtain rfl : j = 10 := by omega
      go_wp2_with fail
      go_ret
      exact ⟨rfl, HB3.out _ HB.out⟩
end Go.Proofs.YtbnnhbmnddaafaaGreatDoor
