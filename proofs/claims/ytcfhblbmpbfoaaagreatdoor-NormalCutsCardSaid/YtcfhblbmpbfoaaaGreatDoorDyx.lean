/- normal: the first Write of a stream. WRITTEN by wip/tools/gen_dy.py. -/
import Derived.Test.YtcfhblbmpbfoaaaGreatDoorGv24
namespace Go.Proofs.YtcfhblbmpbfoaaaGreatDoor
open Go Go.RowKit Go.Kt Go.Kt.Sg Go.Shelf Go.Lib Go.Sort Go.Kt.Rg Go.Maps
variable {md : MdT}
theorem doneR_at (X : List Pt) (i : Nat) {x : Pt} (h : X[i]? = some x) : (doneR [] (X.take (i + 1))).length = if x.2 = 0 then i + 1 else (doneR [] (X.take i)).length := by
  have e : X.take (i + 1) = X.take i ++ [x] := by rw [List.take_add_one, h]; rfl
  have hi := (List.getElem?_eq_some_iff.1 h).1
  rw [e, doneR_snoc]
  split
  · rw [List.length_append, List.length_append, srt_len, doneR_len]; simp; omega
  · rfl

set_option maxRecDepth 100000 in
set_option maxHeartbeats 2000000 in
theorem nWrite0 {S : RdS} {fl : Int → List Int} {L : List Nat} {gp gs H : Nat} (hN : PrN S fl L) (w : World) (hP : PrW gp S md w) (h : StM gp gs H [] (.slice none 0 0) w) (hH : H ≤ w.heap.size) (v : Value) (l : List Int) (hl : Slg .i32 w v l) (hr : ∀ r ∈ l, I32 r) (hz : l.length ≤ 268435456) :
    Calls Tryz.prog 27 #[.pointer (some ⟨gs, 0, none⟩), v] w (TakeO gp gs H (barP (ordL [] ((fulR S fl l).take (doneR [] (fulR S fl l)).length))) ((fulR S fl l).drop (doneR [] (fulR S fl l)).length) (fun b => b = gs) w) := by
  have hlen := fulR_len hN.fe l
  have CSp : Hid (∀ X9, Below w.heap.size w X9 → Calls Tryz.prog 49 #[.pointer (some ⟨gp, 0, none⟩), .slice none 0 0, v] X9 fun e w' => ∃ u, e = .returned u ∧ OwnS (fun b => w.heap.size ≤ b) 78 2 u (fulR S fl l).length (encRN (fulR S fl l)) w' ∧ Below X9.heap.size X9 w') :=
    Lib.hid fun X9 hb => (nSpread0 hN X9 (hP.below hb) v l (hl.below hb) hr hz).mono fun e w' ⟨u, h1, h2, h3⟩ => ⟨u, h1, h2.weaken (fun b h9 => Nat.le_trans hb.size h9), h3⟩
  obtain ⟨ao, cap, rfl, _⟩ := hl
  obtain ⟨n, hn⟩ : ∃ n, l.length = n := ⟨_, rfl⟩
  rw [hn] at hlen hz CSp ⊢
  obtain ⟨X, hX⟩ : ∃ X, fulR S fl l = X := ⟨_, rfl⟩
  rw [hX] at hlen CSp ⊢
  have HO := Lib.hid (And.intro h (And.intro hH hP))
  have c1 : w.cell? ⟨gs, 1, none⟩ = some (.slice none 0 0) := by rw [Lib.cell_of_heap h.cell]; rfl
  have F0 : Hid (∀ X : World, (Instr.fieldAt 75 (.pointer (some ⟨gs, 0, none⟩)) 0).run Tryz.prog X = .ok (.pointer (some ⟨gs, 0, none⟩)) X) := Lib.hid fun X => by go_simp
  have F1 : Hid (∀ X : World, (Instr.fieldAt 75 (.pointer (some ⟨gs, 0, none⟩)) 1).run Tryz.prog X = .ok (.pointer (some ⟨gs, 1, none⟩)) X) := Lib.hid fun X => by go_simp
  have LP : Hid (∀ X, Below w.heap.size w X → (Instr.loadAt 23 (.pointer (some ⟨gs, 0, none⟩))).run Tryz.prog X = .ok (.pointer (some ⟨gp, 0, none⟩)) X) := Lib.hid fun X hb => by
    have c : X.cell? ⟨gs, 0, none⟩ = some (.pointer (some ⟨gp, 0, none⟩)) := by rw [Lib.cell_of_heap (h.below hb).cell]; rfl
    go_simp
  have LR : Hid (∀ X, Below w.heap.size w X → (Instr.loadAt 61 (.pointer (some ⟨gs, 1, none⟩))).run Tryz.prog X = .ok (.slice none 0 0) X) := Lib.hid fun X hb => by
    have c : X.cell? ⟨gs, 1, none⟩ = some (.slice none 0 0) := by rw [Lib.cell_of_heap (h.below hb).cell]; rfl
    go_simp
  have STO : Hid (∀ X9 u9, Below w.heap.size w X9 → OwnS (fun b => w.heap.size ≤ b) 78 2 u9 X.length (encRN X) X9 → (Instr.storeAt 61 (.pointer (some ⟨gs, 1, none⟩)) u9).run Tryz.prog X9 = .ok () (X9.setCell ⟨gs, 1, none⟩ u9) ∧ Keep (fun b => b = gs) X9 (X9.setCell ⟨gs, 1, none⟩ u9) ∧ StM gp gs H X u9 (X9.setCell ⟨gs, 1, none⟩ u9)) := Lib.hid fun X9 u9 hb ho => by
    have hc := (h.below hb).cell
    have q : X9.cell? ⟨gs, 1, none⟩ = some (.slice none 0 0) := by rw [Lib.cell_of_heap hc]; rfl
    have q2 : X9.frozen? ⟨gs, 1, none⟩ = false := Lib.frozen_of_heap hc _
    have hk : Keep (fun b => b = gs) X9 (X9.setCell ⟨gs, 1, none⟩ u9) := Keep.setCell (X := fun b => b = gs) (Keep.refl _ X9) (p := ⟨gs, 1, none⟩) rfl _
    refine ⟨?_, hk, ⟨?_, (ho.keep hk (fun b hb9 hy => by have := h.gl; omega)).weaken (fun b hb9 => ⟨by omega, by have := h.gl; omega⟩), h.gs⟩⟩
    · obtain ⟨a9, c9, hu⟩ := own_slc ho
      subst hu
      go_simp
    · have := heap_setCell_same X9 gs 1 _ _ u9 hc
      simpa using this
  clear h hH hP hr hX hn hN
  go_enter Tryz.func27, Tryz.ntmps27
  go_wp2_with fail
  obtain ⟨FF, hFF⟩ : ∃ FF : StoB, FF = ⟨w, w.heap.size, gs, 13, fun i z W => match i with | 0 => z = .pointer (some ⟨gs, 0, none⟩) | 1 => z = .pointer (some ⟨gs, 0, none⟩) | 2 => z = .pointer (some ⟨gs, 0, none⟩) | 3 => z = .pointer (some ⟨gs, 0, none⟩) | 4 => z = .pointer (some ⟨gp, 0, none⟩) | 5 => z = .pointer (some ⟨gs, 0, none⟩) | 6 => z = .pointer (some ⟨gs, 0, none⟩) | 7 => z = .pointer (some ⟨gs, 1, none⟩) | 8 => z = .slice none 0 0 | 9 => z = .slice ao n cap | 10 => OwnS (fun b => w.heap.size ≤ b) 78 2 z X.length (encRN X) W | 11 => z = .pointer (some ⟨gs, 0, none⟩) | 12 => z = .pointer (some ⟨gs, 1, none⟩) | _ => True, fun W => ∃ u9, StM gp gs H X u9 W ∧ Keep (fun b => b = gs) w W ∧ ∀ b, u9.ownBlock = some b → w.heap.size ≤ b⟩ := ⟨_, rfl⟩
  have HOK : StoB.Ok FF := by
    rw [hFF]
    refine ⟨rfl, HO.out.1.gl, fun i v A B hb => ?_⟩
    match i with
    | 0 => exact fun h => h
    | 1 => exact fun h => h
    | 2 => exact fun h => h
    | 3 => exact fun h => h
    | 4 => exact fun h => h
    | 5 => exact fun h => h
    | 6 => exact fun h => h
    | 7 => exact fun h => h
    | 8 => exact fun h => h
    | 9 => exact fun h => h
    | 10 => exact fun h => h.keep (X := fun _ => False) (Keep.of_all hb) (fun _ h => h.elim)
    | 11 => exact fun h => h
    | 12 => exact fun h => h
    | _ + 13 => exact fun _ => trivial
  have H0 : Below FF.H FF.w w.drew := by rw [hFF]; exact below_drewN (Below.refl _ _) 1
  refine wp_region_stob FF (by kernel_rfl) (by kernel_rfl) (by kernel_rfl) HOK (by rw [hFF]; kernel_rfl) (by rw [hFF]; show (13 : Nat) < 14; decide) H0 ?hsc ?hdc
  case hsc =>
    refine BSteps.cons ?_ (BSteps.cons ?_ (BSteps.cons ?_ (BSteps.cons ?_ (BSteps.cons ?_ (BSteps.cons ?_ (BSteps.cons ?_ (BSteps.cons ?_ (BSteps.cons ?_ (BSteps.cons ?_ (BSteps.cons ?_ (BSteps.cons ?_ (BSteps.cons ?_ (BSteps.cons ?_ (BSteps.nil))))))))))))))
    · intro a X9 hXB hL hd
      rw [hFF] at hXB 
      refine ⟨rfl, ?_⟩
      have e0 : a.eval (.tmp 0) = .pointer (some ⟨gs, 0, none⟩) := hL.far 0 (by kernel_rfl)
      exact wp_value (exec_move rfl e0) ⟨_, rfl, .inl ⟨by rw [hFF]; show (0 : Nat) ≠ 13; decide, Below.refl _ _, by rw [hFF]; exact rfl⟩⟩
    · intro a X9 hXB hL hd
      rw [hFF] at hXB 
      refine ⟨rfl, ?_⟩
      have e0 : a.eval (.tmp 0) = .pointer (some ⟨gs, 0, none⟩) := hL.far 0 (by kernel_rfl)
      exact wp_value (exec_move rfl e0) ⟨_, rfl, .inl ⟨by rw [hFF]; show (1 : Nat) ≠ 13; decide, Below.refl _ _, by rw [hFF]; exact rfl⟩⟩
    · intro a X9 hXB hL hd
      have q0 := hd 1 14 (by rw [hFF]; show (1 : Nat) ≠ 13; decide) (by kernel_rfl) (by kernel_rfl)
      rw [hFF] at hXB q0
      refine ⟨rfl, ?_⟩
      have e0 : a.eval (.tmp 14) = .pointer (some ⟨gs, 0, none⟩) := q0
      exact wp_value (exec_nilCheck rfl e0) ⟨_, rfl, .inl ⟨by rw [hFF]; show (2 : Nat) ≠ 13; decide, Below.refl _ _, by rw [hFF]; exact rfl⟩⟩
    · intro a X9 hXB hL hd
      have q0 := hd 2 15 (by rw [hFF]; show (2 : Nat) ≠ 13; decide) (by kernel_rfl) (by kernel_rfl)
      rw [hFF] at hXB q0
      refine ⟨rfl, ?_⟩
      have e0 : a.eval (.tmp 15) = .pointer (some ⟨gs, 0, none⟩) := q0
      exact wp_value (exec_fieldAddr rfl e0 (F0.out X9)) ⟨_, rfl, .inl ⟨by rw [hFF]; show (3 : Nat) ≠ 13; decide, Below.refl _ _, by rw [hFF]; exact rfl⟩⟩
    · intro a X9 hXB hL hd
      have q0 := hd 3 16 (by rw [hFF]; show (3 : Nat) ≠ 13; decide) (by kernel_rfl) (by kernel_rfl)
      rw [hFF] at hXB q0
      refine ⟨rfl, ?_⟩
      have e0 : a.eval (.tmp 16) = .pointer (some ⟨gs, 0, none⟩) := q0
      exact wp_value (exec_load rfl e0 (LP.out X9 hXB)) ⟨_, rfl, .inl ⟨by rw [hFF]; show (4 : Nat) ≠ 13; decide, Below.refl _ _, by rw [hFF]; exact rfl⟩⟩
    · intro a X9 hXB hL hd
      rw [hFF] at hXB 
      refine ⟨rfl, ?_⟩
      have e0 : a.eval (.tmp 0) = .pointer (some ⟨gs, 0, none⟩) := hL.far 0 (by kernel_rfl)
      exact wp_value (exec_move rfl e0) ⟨_, rfl, .inl ⟨by rw [hFF]; show (5 : Nat) ≠ 13; decide, Below.refl _ _, by rw [hFF]; exact rfl⟩⟩
    · intro a X9 hXB hL hd
      have q0 := hd 5 18 (by rw [hFF]; show (5 : Nat) ≠ 13; decide) (by kernel_rfl) (by kernel_rfl)
      rw [hFF] at hXB q0
      refine ⟨rfl, ?_⟩
      have e0 : a.eval (.tmp 18) = .pointer (some ⟨gs, 0, none⟩) := q0
      exact wp_value (exec_nilCheck rfl e0) ⟨_, rfl, .inl ⟨by rw [hFF]; show (6 : Nat) ≠ 13; decide, Below.refl _ _, by rw [hFF]; exact rfl⟩⟩
    · intro a X9 hXB hL hd
      have q0 := hd 6 19 (by rw [hFF]; show (6 : Nat) ≠ 13; decide) (by kernel_rfl) (by kernel_rfl)
      rw [hFF] at hXB q0
      refine ⟨rfl, ?_⟩
      have e0 : a.eval (.tmp 19) = .pointer (some ⟨gs, 0, none⟩) := q0
      exact wp_value (exec_fieldAddr rfl e0 (F1.out X9)) ⟨_, rfl, .inl ⟨by rw [hFF]; show (7 : Nat) ≠ 13; decide, Below.refl _ _, by rw [hFF]; exact rfl⟩⟩
    · intro a X9 hXB hL hd
      have q0 := hd 7 20 (by rw [hFF]; show (7 : Nat) ≠ 13; decide) (by kernel_rfl) (by kernel_rfl)
      rw [hFF] at hXB q0
      refine ⟨rfl, ?_⟩
      have e0 : a.eval (.tmp 20) = .pointer (some ⟨gs, 1, none⟩) := q0
      exact wp_value (exec_load rfl e0 (LR.out X9 hXB)) ⟨_, rfl, .inl ⟨by rw [hFF]; show (8 : Nat) ≠ 13; decide, Below.refl _ _, by rw [hFF]; exact rfl⟩⟩
    · intro a X9 hXB hL hd
      rw [hFF] at hXB 
      refine ⟨rfl, ?_⟩
      have e0 : a.eval (.tmp 1) = .slice ao n cap := hL.far 1 (by kernel_rfl)
      exact wp_value (exec_move rfl e0) ⟨_, rfl, .inl ⟨by rw [hFF]; show (9 : Nat) ≠ 13; decide, Below.refl _ _, by rw [hFF]; exact rfl⟩⟩
    · intro a X9 hXB hL hd
      have q0 := hd 4 17 (by rw [hFF]; show (4 : Nat) ≠ 13; decide) (by kernel_rfl) (by kernel_rfl)
      have q1 := hd 8 21 (by rw [hFF]; show (8 : Nat) ≠ 13; decide) (by kernel_rfl) (by kernel_rfl)
      have q2 := hd 9 22 (by rw [hFF]; show (9 : Nat) ≠ 13; decide) (by kernel_rfl) (by kernel_rfl)
      rw [hFF] at hXB q0 q1 q2
      refine ⟨rfl, ?_⟩
      have e0 : a.eval (.tmp 17) = .pointer (some ⟨gp, 0, none⟩) := q0
      have e1 : a.eval (.tmp 21) = .slice none 0 0 := q1
      have e2 : a.eval (.tmp 22) = .slice ao n cap := q2
      refine wp_enter (exec_call (vs := #[.pointer (some ⟨gp, 0, none⟩), .slice none 0 0, .slice ao n cap]) rfl (by simp only [List.map_toArray, List.map_cons, List.map_nil, e0, e1, e2]) Tryz.func49 rfl rfl) ?_
      refine (CSp.out X9 hXB).mono ?_
      rintro e w9 ⟨u, rfl, ho, hb⟩
      exact ⟨_, rfl, _, rfl, .inl ⟨by rw [hFF]; show (10 : Nat) ≠ 13; decide, hb, by rw [hFF]; exact ho⟩⟩
    · intro a X9 hXB hL hd
      have q0 := hd 0 13 (by rw [hFF]; show (0 : Nat) ≠ 13; decide) (by kernel_rfl) (by kernel_rfl)
      rw [hFF] at hXB q0
      refine ⟨rfl, ?_⟩
      have e0 : a.eval (.tmp 13) = .pointer (some ⟨gs, 0, none⟩) := q0
      exact wp_value (exec_nilCheck rfl e0) ⟨_, rfl, .inl ⟨by rw [hFF]; show (11 : Nat) ≠ 13; decide, Below.refl _ _, by rw [hFF]; exact rfl⟩⟩
    · intro a X9 hXB hL hd
      have q0 := hd 11 24 (by rw [hFF]; show (11 : Nat) ≠ 13; decide) (by kernel_rfl) (by kernel_rfl)
      rw [hFF] at hXB q0
      refine ⟨rfl, ?_⟩
      have e0 : a.eval (.tmp 24) = .pointer (some ⟨gs, 0, none⟩) := q0
      exact wp_value (exec_fieldAddr rfl e0 (F1.out X9)) ⟨_, rfl, .inl ⟨by rw [hFF]; show (12 : Nat) ≠ 13; decide, Below.refl _ _, by rw [hFF]; exact rfl⟩⟩
    · intro a X9 hXB hL hd
      have q0 := hd 12 25 (by rw [hFF]; show (12 : Nat) ≠ 13; decide) (by kernel_rfl) (by kernel_rfl)
      have q1 := hd 10 23 (by rw [hFF]; show (10 : Nat) ≠ 13; decide) (by kernel_rfl) (by kernel_rfl)
      rw [hFF] at hXB q0 q1
      refine ⟨rfl, ?_⟩
      have e0 : a.eval (.tmp 25) = .pointer (some ⟨gs, 1, none⟩) := q0
      have q1 : OwnS (fun b => w.heap.size ≤ b) 78 2 (a.eval (.tmp 23)) X.length (encRN X) X9 := q1
      obtain ⟨u9, hu9⟩ : ∃ u9, a.eval (.tmp 23) = u9 := ⟨_, rfl⟩
      rw [hu9] at q1
      obtain ⟨r1, r2, r3⟩ := STO.out X9 u9 hXB q1
      refine wp_skipped (exec_store rfl e0 hu9 r1) ⟨undef, rfl, ?_⟩
      exact .inr ⟨by subst hFF; rfl, by rw [hFF]; exact r2, by rw [hFF]; exact ⟨u9, r3, (Keep.of_all hXB).trans r2, q1.2⟩⟩
  intro a X9 hL hfin
  rw [hFF] at hfin
  obtain ⟨fv, ha, hf⟩ := hL.out [13, 14, 15, 16, 17, 18, 19, 20, 21, 22, 23, 24, 25] rfl
  clear hf hL H0 HOK hFF
  simp only [List.foldl_cons, List.foldl_nil, List.setIfInBounds_toArray, List.set_cons_zero, List.set_cons_succ] at ha
  subst ha
  obtain ⟨u9, hS9, hk9, hn9⟩ := hfin
  obtain ⟨W2, hW2⟩ : ∃ W2, X9 = W2 := ⟨_, rfl⟩
  subst hW2
  obtain ⟨a9, c9, hu⟩ := own_slc hS9.row
  subst hu
  have hrv := rowV_own hS9.row
  have HS9 := Lib.hid (And.intro hS9 (And.intro hk9 hrv))
  have HN9 := Lib.hid hn9
  have d1 : X9.cell? ⟨gs, 1, none⟩ = some (.slice a9 X.length c9) := by rw [Lib.cell_of_heap hS9.cell]; rfl
  have hz2 : w.heap.size ≤ X9.heap.size := hk9.size
  have CT : Hid (∀ (s : Nat) (sz : Int), sz = (s : Int) → s ≤ X.length → Calls Tryz.prog 50 #[.pointer (some ⟨gs, 0, none⟩), .int .i64 sz] X9 (TakeO gp gs H (barP (ordL [] (X.take s))) (X.drop s) (fun b => b = gs ∨ (Value.slice a9 X.length c9).ownBlock = some b) X9)) := Lib.hid fun s sz e hs => by
    subst e
    exact nTake X9 HS9.out.1 (Nat.le_trans HO.out.2.1 hz2) s hs (by omega)
  obtain ⟨k, hk⟩ : ∃ k, X.length = k := ⟨_, rfl⟩
  rw [hk] at d1 CT
  have HK := Lib.hid hk
  clear hS9 hk9 hrv hn9 hz2 STO CSp LP LR F0 F1 c1
  go_wp2_with fail
  go_loopg [6, 33] k (fun kx s t wr => ∃ i : Nat, s = .int .i64 ((doneR [] (X.take i)).length : Nat) ∧ t = .int .i64 i ∧ i ≤ k ∧ k - i ≤ kx ∧ wr = X9)
  case atStart => exact ⟨0, by rw [List.take_zero]; rfl, rfl, Nat.zero_le _, Nat.le_refl _, rfl⟩
  case round =>
    obtain ⟨i, rfl, rfl, hik, hkx, rfl⟩ := hrel
    have hdl : (doneR [] (X.take i)).length ≤ i := by have := ord_len X i (by rw [HK.out]; exact hik); omega
    by_cases hlt : i < k
    · have hltz : (i : Int) < (k : Int) := by omega
      obtain ⟨⟨x1, x2⟩, hx⟩ : ∃ x, X[i]? = some x := ⟨_, List.getElem?_eq_getElem (by rw [HK.out]; exact hlt)⟩
      obtain ⟨g9, o9, rfl, e0, e1⟩ := HS9.out.2.2.at (by rw [HK.out]) hx
      have HD := Lib.hid (doneR_at X i hx)
      obtain ⟨s, hs⟩ : ∃ s, (doneR [] (X.take i)).length = s := ⟨_, rfl⟩
      rw [hs] at HD hdl ⊢
      clear hx hs
      by_cases x0 : x2 = 0
      · have y0 : (x2 == 0) = true := by simp only [beq_iff_eq]; exact x0
        have HX0 := Lib.hid x0
        clear x0
        go_wp2
        go_roundg (k - (i + 1))
        case measure => omega
        case rel => exact ⟨i + 1, by rw [HD.out, if_pos HX0.out]; first | done | rfl | (congr 1; omega), by simp, by omega, Nat.le_refl _, rfl⟩
      · have y0 : (x2 == 0) = false := by simp only [beq_eq_false_iff_ne, ne_eq]; exact x0
        go_wp2
        go_roundg (k - (i + 1))
        case measure => omega
        case rel => exact ⟨i + 1, by rw [HD.out, if_neg x0], by simp, by omega, Nat.le_refl _, rfl⟩
    · obtain rfl : i = k := by omega
      have hfull : X.take i = X := List.take_of_length_le (by rw [HK.out]; exact Nat.le_refl _)
      rw [hfull] at hdl ⊢
      obtain ⟨s, hs⟩ : ∃ s, (doneR [] X).length = s := ⟨_, rfl⟩
      rw [hs] at hdl ⊢
      have HSN := Lib.hid hs
      have CQ := Lib.hid (CT.out s _ rfl hdl)
      clear CT hs hfull
      go_wp2_with fail
      refine CQ.out.mono ?_
      rintro e w3 ⟨M, v', h1, h2, ⟨a3, c3, rfl, ho3⟩, h3⟩
      have H3 := Lib.hid (And.intro h1 (And.intro h2 (And.intro ho3 h3)))
      clear h1 h2 ho3 h3
      go_wp2
      go_ret
      rw [HSN.out]
      exact ⟨M, v', Nat.le_trans HS9.out.2.1.size H3.out.1, H3.out.2.1, ⟨a3, c3, rfl, H3.out.2.2.1⟩, H3.out.2.2.2.1, H3.out.2.2.2.2.1, keep_trans2 HS9.out.2.1 H3.out.2.2.2.2.2 fun b hb h9 => h9.elim id fun h9 => absurd (HN9.out b (by rw [← HK.out] at h9; exact h9)) (by omega)⟩
end Go.Proofs.YtcfhblbmpbfoaaaGreatDoor
